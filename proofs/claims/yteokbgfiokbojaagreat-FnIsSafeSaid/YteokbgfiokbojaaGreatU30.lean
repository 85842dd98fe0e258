/- Joined: Yl Yb Ye Yj Fl Yk Ym Xb Ab. -/
import Derived.Test.YteokbgfiokbojaaGreatU28
import Derived.Test.YteokbgfiokbojaaGreatU16
import Derived.Test.YteokbgfiokbojaaGreatU12
import Derived.Test.YteokbgfiokbojaaGreatU15
import Derived.Test.YteokbgfiokbojaaGreatU13
import Derived.Test.YteokbgfiokbojaaGreatU29
import Derived.Test.YteokbgfiokbojaaGreatU25
import Derived.Test.YteokbgfiokbojaaGreatU11
import Derived.Test.YteokbgfiokbojaaGreatU24
/- A range over a function whose iterator writes a state of its own, and whose variable is a new block each round. -/
namespace Go.Proofs.YteokbgfiokbojaaGreat
open Go.RowKit Go.Shelf

theorem wpIn_rangeFunc_SH {α : Type} {n : Nat} {g : Operand} {ps : Array Tmp} {assign body : Code} {Q : Exit → Act → World → Prop} {a : Act} {w : World}
    (h1 : 1 ≤ n) {gf : Nat} {lb : Array Value} (hg : a.eval g = .func (.func gf) #[] lb) (eg : ∀ args w, (callFunc gf args).run Tryz.prog w = .ok (.enter gf args) w)
    {encs : α → Array Value} {n₀ D : Nat} {S Sp : List α → Prop} {N : Nat} {w0 : World} (hseq : SeqS (n - 1) gf lb encs n₀ D S Sp N w0)
    (hD : D ≤ w.heap.size + 2) (hn₀ : n₀ ≤ w.heap.size) (hb0 : Below w0.heap.size w0 w) (hps : ∀ x, (encs x).size = ps.size)
    (I : List α → World → Prop) (Ix : Code → List α → World → Prop) (hI : OwnFromS w.heap.size I) (hIx : ∀ c, OwnFromS w.heap.size (Ix c)) (h0 : I [] w) (a₁ : α → Nat → Act) (o₁ : α → Obj)
    (hassign : ∀ (l : Nat) (x : α) (W : World) (K : Act → World → Prop), K (a₁ x W.heap.size) (W.alloc (o₁ x)) →
      assign.wpIn (Fence.wide.inRound l) (n - 1 - 1) Tryz.prog (Exit.then K (fun _ _ _ => False)) { tmps := (ps.zip (encs x)).foldl (fun t (p, v) => t.setIfInBounds p v) a.tmps, defers := [] } W)
    (hbody : ∀ (l : Nat) (pre : List α) (x : α) (q : Nat) (W : World), I pre W → pre.length < N → w.heap.size + 2 ≤ W.heap.size → w.heap.size + 2 ≤ q → W.heap[q]? = some (o₁ x) → body.wpIn (Fence.wide.inRound l) (n - 1 - 1) Tryz.prog (ownPostR w.heap.size n₀ D I Ix (pre ++ [x]) W) (a₁ x q) W)
    (hdone : ∀ (L : Nat) (xs : List α) (W : World), w.heap.size ≤ L → S xs → I xs W → W.heap[L]? = some (.deferred (some [])) → Q .normal { a with defers := { target := .collected L, args := #[] } :: a.defers } W)
    (hstop : ∀ (L : Nat) (c : Code) (pre : List α) (W : World), w.heap.size ≤ L → Sp pre → Ix c pre W → W.heap[L]? = some (.deferred (some [])) → c.wpIn Fence.wide n Tryz.prog Q { a with defers := { target := .collected L, args := #[] } :: a.defers } W) :
    (Code.rangeFunc g ps assign body).wpIn Fence.wide n Tryz.prog Q a w := by
  refine wpIn_rangeFunc ?_
  intro fn hfn
  rw [show Fence.wide.round = none from rfl]
  obtain ⟨rec, hrec⟩ : ∃ rec : LoopState → Option Code → Loop, rec = fun st pe => { state := st, pending := pe, fn, tmps := a.tmps, params := ps, assign, body, defers := w.heap.size } := ⟨_, rfl⟩
  obtain ⟨W1, hW1⟩ : ∃ W1, (w.alloc (.deferred (some []))).alloc (.loop (rec .ready none)) = W1 := ⟨_, rfl⟩
  have hz1 : W1.heap.size = w.heap.size + 2 := by rw [← hW1]; simp
  have hL1 : W1.heap[w.heap.size + 1]? = some (.loop (rec .ready none)) := by
    rw [← hW1]; have := World.alloc_heap_new (w.alloc (.deferred (some []))) (.loop (rec .ready none)); rwa [World.size_alloc] at this
  have hK1 : W1.heap[w.heap.size]? = some (.deferred (some [])) := by
    rw [← hW1]; exact (Below.heap_alloc _ _ _ (by simp)).trans (World.alloc_heap_new w _)
  have hI1 : I [] W1 := by rw [← hW1]; exact hI.plain.alloc _ (hI.plain.alloc _ h0)
  have hb1 : Below w0.heap.size w0 W1 := by
    rw [← hW1]; exact hb0.trans ((((Below.refl _ w).alloc (Nat.le_refl _) _).alloc (by simp) _).mono hb0.size)
  refine ⟨w.heap.size + 1, [{ target := .collected w.heap.size, args := #[] }], W1, { target := .fn (.func gf) lb, args := #[.func (.yield (w.heap.size + 1)) #[] #[]] }, W1, gf,
    #[.func (.yield (w.heap.size + 1)) #[] #[]] ++ lb, W1, ?_, ?_, ?_, ?_, fun _ => h1, ?_⟩
  · rw [← hW1, hrec]; exact run_enterLoop_outer _ _ _ _ _
  · simp only [resolve, hg]
    simp [go_sem]
  · intro f' hf'; simp [Target.leads] at hf'; subst hf'; exact trivial
  · simp [invoke, go_sem, eg]
  · have hrow : ∀ {A B : World} {row : Option Nat}, (∀ r, row = some r → W1.heap.size ≤ r ∧ RowS A r) → A.grownBy B row → ∀ (k : Nat) (o : Obj), k < W1.heap.size → A.heap[k]? = some o → B.heap[k]? = some o :=
      fun hr hg' k o hk ho => (hg'.block k (Array.getElem?_eq_some_iff.1 ho).1 (fun he => by have := (hr k he.symm).1; omega)).trans ho
    have hlow : ∀ {A : World} {row : Option Nat}, (∀ r, row = some r → W1.heap.size ≤ r ∧ RowS A r) → (∀ r, row = some r → w.heap.size ≤ r ∧ RowS A r) :=
      fun hr r e => ⟨by have := (hr r e).1; omega, (hr r e).2⟩
    refine (hseq (w.heap.size + 1)
      (fun pre W => I pre W ∧ W.heap[w.heap.size + 1]? = some (.loop (rec .ready none)) ∧ W.heap[w.heap.size]? = some (.deferred (some [])))
      (fun pre W => ∃ c, Ix c pre W ∧ W.heap[w.heap.size + 1]? = some (.loop (rec .done (some c))) ∧ W.heap[w.heap.size]? = some (.deferred (some [])))
      W1 hb1 (by omega)
      (fun s A B row hs hg' hr => ⟨hI s A B row hs.1 hg' (hlow hr), hrow hr hg' _ _ (by omega) hs.2.1, hrow hr hg' _ _ (by omega) hs.2.2⟩)
      (fun s A B row hs hg' hr => by
        obtain ⟨c, hc, hl, hk⟩ := hs
        exact ⟨c, hIx c s A B row hc hg' (hlow hr), hrow hr hg' _ _ (by omega) hl, hrow hr hg' _ _ (by omega) hk⟩)
      ?_ ⟨hI1, hL1, hK1⟩).mono ?_
    · rintro pre x Wp ⟨hip, hlp, hkp⟩ hlen hWp
      have hy := run_yield (P := Tryz.prog) (args := encs x) hlp (by rw [hrec]; exact hps x)
      rw [hrec] at hy
      obtain ⟨W, hWe⟩ : ∃ W, W = Wp.alloc (o₁ x) := ⟨_, rfl⟩
      have hlt0 : w.heap.size + 1 < Wp.heap.size := (Array.getElem?_eq_some_iff.1 hlp).1
      have hzW : W.heap.size = Wp.heap.size + 1 := by rw [hWe]; simp
      have hl : W.heap[w.heap.size + 1]? = some (.loop (rec .ready none)) := by rw [hWe]; exact (Below.heap_alloc Wp _ _ hlt0).trans hlp
      have hk : W.heap[w.heap.size]? = some (.deferred (some [])) := by rw [hWe]; exact (Below.heap_alloc Wp _ _ (by omega)).trans hkp
      have hi : I pre W := by rw [hWe]; exact hI.plain.alloc _ hip
      have hqn : W.heap[Wp.heap.size]? = some (o₁ x) := by rw [hWe]; exact World.alloc_heap_new Wp _
      have hbA : Below n₀ Wp W := by rw [hWe]; exact (Below.refl _ Wp).alloc (by omega) _
      have hkA : ∀ K, KeepsN K Wp W := fun K => by rw [hWe]; exact KeepsN.alloc K Wp _
      have hWz : W1.heap.size ≤ W.heap.size := by omega
      have hlt : w.heap.size + 1 < W.heap.size := by omega
      refine ⟨fn, _, assign, body, hy, roundIn_of_wpIn hfn (hassign _ x Wp _ ?_)⟩
      rw [← hWe]
      refine ⟨_, run_beginRound hl (by rw [hrec]), ?_⟩
      have hl2 : (W.putObj (w.heap.size + 1) (.loop { rec .ready none with state := .busy })).heap[w.heap.size + 1]? = some (.loop { rec .ready none with state := .busy }) := World.putObj_heap_same hlt
      have hk2 : (W.putObj (w.heap.size + 1) (.loop { rec .ready none with state := .busy })).heap[w.heap.size]? = some (.deferred (some [])) := (World.putObj_heap_other (by omega)).trans hk
      have hsz2 : (W.putObj (w.heap.size + 1) (.loop { rec .ready none with state := .busy })).heap.size = W.heap.size := by simp [World.putObj]
      refine wpIn_mono (hbody _ pre x Wp.heap.size _ (hI.plain.putObj _ hi (by omega) hl rfl) hlen (by rw [hsz2]; omega) (by omega) ((World.putObj_heap_other (by omega)).trans hqn)) ?_
      have fin : ∀ (jump : Option Code) (W3 : World), KeepsN w.heap.size (W.putObj (w.heap.size + 1) (.loop { rec .ready none with state := .busy })) W3 →
          (Instr.endRound (w.heap.size + 1) jump).run Tryz.prog W3 = .ok (.bool jump.isNone) (W3.putObj (w.heap.size + 1) (.loop (rec (if jump.isNone then .ready else .done) jump))) ∧
          W3.heap[w.heap.size + 1]? = some (.loop { rec .ready none with state := .busy }) ∧
          (W3.putObj (w.heap.size + 1) (.loop (rec (if jump.isNone then .ready else .done) jump))).heap[w.heap.size + 1]? = some (.loop (rec (if jump.isNone then .ready else .done) jump)) ∧
          (W3.putObj (w.heap.size + 1) (.loop (rec (if jump.isNone then .ready else .done) jump))).heap[w.heap.size]? = some (.deferred (some [])) := fun jump W3 hk3 => by
        have hl3 := hk3.same _ _ (by omega) hl2 (fun c t fz he => by cases he)
        have := run_endRound (P := Tryz.prog) jump hl3
        rw [hrec] at this ⊢
        exact ⟨this, by rw [hrec] at hl3; exact hl3, World.putObj_heap_same (Array.getElem?_eq_some_iff.1 hl3).1, (World.putObj_heap_other (by omega)).trans (hk3.same _ _ (Nat.le_refl _) hk2 (fun c t fz he => by cases he))⟩
      have far : ∀ (jump : Option Code) (W3 : World), KeepsN w.heap.size (W.putObj (w.heap.size + 1) (.loop { rec .ready none with state := .busy })) W3 → KeepsN W1.heap.size W (W3.putObj (w.heap.size + 1) (.loop (rec (if jump.isNone then .ready else .done) jump))) := fun jump W3 hk3 =>
        ((KeepsN.put W _ (by omega)).trans (hk3.mono (by omega))).trans (KeepsN.put W3 _ (by omega))
      rintro e a3 W3 hp
      cases e with
      | normal =>
        obtain ⟨hk3, hkp3, hi3⟩ := hp
        obtain ⟨hr, hl3, hl4, hk4⟩ := fin none W3 (hk3.mono (Nat.min_le_left _ _))
        refine ⟨_, _, hr, .inl ⟨rfl, ⟨hI.plain.putObj _ hi3 (by omega) hl3 rfl, hl4, hk4⟩, ?_, ?_⟩⟩
        · have b1 : Below n₀ W (W.putObj (w.heap.size + 1) (.loop { rec .ready none with state := .busy })) := (Below.refl n₀ W).grown (grownBy_putObj' W _ _) (by omega) (fun k e => by cases e; omega)
          exact hbA.trans ((b1.trans hkp3).trans ((Below.refl n₀ W3).grown (grownBy_putObj' W3 _ _) (by have := hk3.size; rw [hsz2] at this; omega) (fun k e => by cases e; omega)))
        · refine (hkA D).trans ⟨?_, fun k o hkD ho hno => ?_⟩
          · have h2 := hk3.size
            rw [hsz2] at h2
            simpa [World.putObj] using h2
          · by_cases hkl : k = w.heap.size + 1
            · subst hkl
              rw [hl] at ho
              injection ho with ho
              subst ho
              exact hl4
            · rw [World.putObj_heap_other (by omega)]
              exact hk3.same k o (by have := Nat.min_le_right w.heap.size D; omega) ((World.putObj_heap_other (by omega)).trans ho) hno
      | ret =>
        obtain ⟨hk3, hi3⟩ := hp
        obtain ⟨hr, hl3, hl4, hk4⟩ := fin (some .ret) W3 hk3
        exact ⟨_, _, hr, .inr ⟨rfl, ⟨.ret, (hIx _).plain.putObj _ hi3 (by omega) hl3 rfl, hl4, hk4⟩, (hkA _).trans (far _ _ hk3)⟩⟩
      | exit id =>
        obtain ⟨hk3, hi3⟩ := hp
        obtain ⟨hr, hl3, hl4, hk4⟩ := fin (some (.exit id)) W3 hk3
        exact ⟨_, _, hr, .inr ⟨rfl, ⟨.exit id, (hIx _).plain.putObj _ hi3 (by omega) hl3 rfl, hl4, hk4⟩, (hkA _).trans (far _ _ hk3)⟩⟩
      | goto t =>
        obtain ⟨hk3, hi3⟩ := hp
        obtain ⟨hr, hl3, hl4, hk4⟩ := fin (some (.goto t)) W3 hk3
        exact ⟨_, _, hr, .inr ⟨rfl, ⟨.goto t, (hIx _).plain.putObj _ hi3 (by omega) hl3 rfl, hl4, hk4⟩, (hkA _).trans (far _ _ hk3)⟩⟩
      | panic ch => exact hp.elim
      | outgrown => exact hp.elim
    · rintro e W2 ⟨⟨v, rfl⟩, (⟨xs, hS, hi, hl, hk⟩ | ⟨pre, hSp, c, hi, hl, hk⟩)⟩
      · exact ⟨none, _, by have := run_endLoop (P := Tryz.prog) hl (by rw [hrec]; simp); rw [hrec] at this; exact this, hdone _ xs _ (Nat.le_refl _) hS (hI.plain.putObj _ hi (by omega) hl rfl) ((World.putObj_heap_other (by omega)).trans hk)⟩
      · exact ⟨some c, _, by have := run_endLoop (P := Tryz.prog) hl (by rw [hrec]; simp); rw [hrec] at this; exact this, hstop _ c pre _ (Nat.le_refl _) hSp ((hIx c).plain.putObj _ hi (by omega) hl rfl) ((World.putObj_heap_other (by omega)).trans hk)⟩


end Go.Proofs.YteokbgfiokbojaaGreat
/- A row of steps of the call's own. -/
namespace Go.Proofs.YteokbgfiokbojaaGreat
open Go.RowKit

/-- The cells of steps. -/
def stpCells (ss : List Stp) : List Value := ss.flatMap fun s => [.string s.nm, .string s.ld, .string s.st]
theorem stpCells_len (ss : List Stp) : (stpCells ss).length = ss.length * 3 := by
  induction ss with
  | nil => rfl
  | cons s l ih => simp only [stpCells, List.flatMap_cons, List.length_append, List.length_cons, List.length_nil] at ih ⊢; omega
theorem stpCells_at {ss : List Stp} {k : Nat} {s : Stp} (h : ss[k]? = some s) : (stpCells ss)[k * 3]? = some (.string s.nm) ∧ (stpCells ss)[k * 3 + 1]? = some (.string s.ld) ∧ (stpCells ss)[k * 3 + 2]? = some (.string s.st) := by
  induction ss generalizing k with
  | nil => simp at h
  | cons x l ih =>
    cases k with
    | zero =>
      simp at h
      subst h
      exact ⟨rfl, rfl, rfl⟩
    | succ k =>
      rw [List.getElem?_cons_succ] at h
      have e : ∀ i, (stpCells (x :: l))[i + 3]? = (stpCells l)[i]? := fun i => by
        show ([Value.string x.nm, .string x.ld, .string x.st] ++ stpCells l)[i + 3]? = _
        rw [List.getElem?_append_right (by simp)]
        simp
      obtain ⟨a, b, c⟩ := ih h
      rw [show (k + 1) * 3 = k * 3 + 3 by omega, show k * 3 + 3 + 1 = k * 3 + 1 + 3 by omega, show k * 3 + 3 + 2 = k * 3 + 2 + 3 by omega, e, e, e]
      exact ⟨a, b, c⟩
/-- Steps in a row of the call's own, not nil. -/
def OwnSteps (w : World) (B g n cap : Nat) (ss : List Stp) : Prop := n = ss.length ∧ w.ownsRow B 50 3 (.slice (some ⟨g, 0, none⟩) n cap) n (stpCells ss)
def OwnBools (w : World) (B g n cap : Nat) (bs : List Bool) : Prop := n = bs.length ∧ w.ownsRow B 4 1 (.slice (some ⟨g, 0, none⟩) n cap) n (bs.map Value.bool)
theorem row_far {w w' : World} {B n g c size : Nat} {e : TypeId} {xs : List Value} (h : w.ownsRow B e size (.slice (some ⟨g, 0, none⟩) n c) n xs) (hk : w'.heap[g]? = w.heap[g]?) : w'.ownsRow B e size (.slice (some ⟨g, 0, none⟩) n c) n xs := by
  refine ⟨h.1, ?_⟩
  rcases h.2 with ⟨h0, _⟩ | ⟨g', cap, cur, hv, hg, hh, r⟩
  · cases h0
  · injection hv with hv1 _ hv3
    injection hv1 with hv1
    injection hv1 with hv1
    subst hv1 hv3
    exact .inr ⟨g, _, cur, rfl, hg, hk.trans hh, r⟩
theorem row_block {w : World} {B n g c size : Nat} {e : TypeId} {xs : List Value} (h : w.ownsRow B e size (.slice (some ⟨g, 0, none⟩) n c) n xs) : B ≤ g ∧ g < w.heap.size ∧ ∃ cur, w.heap[g]? = some (.cells cur e (0, 0)) := by
  rcases h.2 with ⟨h0, _⟩ | ⟨g', cap, cur, hv, hg, hh, r⟩
  · cases h0
  · injection hv with hv1 _ hv3
    injection hv1 with hv1
    injection hv1 with hv1
    subst hv1
    exact ⟨hg, (Array.getElem?_eq_some_iff.1 hh).1, cur, hh⟩
theorem row_base {w : World} {B B' n size : Nat} {e : TypeId} {v : Value} {xs : List Value} (h : w.ownsRow B e size v n xs) (hB : B' ≤ B) : w.ownsRow B' e size v n xs := own_low h hB
theorem OwnSteps.lt {w : World} {B g n c : Nat} {ss : List Stp} (h : OwnSteps w B g n c ss) : B ≤ g ∧ g < w.heap.size := ⟨(row_block h.2).1, (row_block h.2).2.1⟩
theorem OwnBools.lt {w : World} {B g n c : Nat} {bs : List Bool} (h : OwnBools w B g n c bs) : B ≤ g ∧ g < w.heap.size := ⟨(row_block h.2).1, (row_block h.2).2.1⟩
theorem OwnSteps.far {w w' : World} {B g n c : Nat} {ss : List Stp} (h : OwnSteps w B g n c ss) (hk : w'.heap[g]? = w.heap[g]?) : OwnSteps w' B g n c ss := ⟨h.1, row_far h.2 hk⟩
theorem OwnBools.far {w w' : World} {B g n c : Nat} {bs : List Bool} (h : OwnBools w B g n c bs) (hk : w'.heap[g]? = w.heap[g]?) : OwnBools w' B g n c bs := ⟨h.1, row_far h.2 hk⟩
theorem OwnSteps.below {w w' : World} {B g n c : Nat} {ss : List Stp} (h : OwnSteps w B g n c ss) (hb : Below w.heap.size w w') : OwnSteps w' B g n c ss := h.far (hb.block g h.lt.2)
theorem OwnBools.below {w w' : World} {B g n c : Nat} {bs : List Bool} (h : OwnBools w B g n c bs) (hb : Below w.heap.size w w') : OwnBools w' B g n c bs := h.far (hb.block g h.lt.2)
theorem OwnSteps.base {w : World} {B B' g n c : Nat} {ss : List Stp} (h : OwnSteps w B g n c ss) (hB : B' ≤ B) : OwnSteps w B' g n c ss := ⟨h.1, row_base h.2 hB⟩
theorem OwnBools.base {w : World} {B B' g n c : Nat} {bs : List Bool} (h : OwnBools w B g n c bs) (hB : B' ≤ B) : OwnBools w B' g n c bs := ⟨h.1, row_base h.2 hB⟩
/-- Another row grows. -/
theorem OwnSteps.beside {w w' : World} {B g n c g' : Nat} {ss : List Stp} (h : OwnSteps w B g n c ss) (hg : w.grownBy w' (some g')) (hne : g ≠ g') : OwnSteps w' B g n c ss := h.far (hg.block g h.lt.2 (fun e => hne (by have := Option.some.inj e; omega)))
theorem OwnBools.beside {w w' : World} {B g n c g' : Nat} {bs : List Bool} (h : OwnBools w B g n c bs) (hg : w.grownBy w' (some g')) (hne : g ≠ g') : OwnBools w' B g n c bs := h.far (hg.block g h.lt.2 (fun e => hne (by have := Option.some.inj e; omega)))
theorem OwnSteps.empty (w : World) {B : Nat} (hB : B ≤ w.heap.size) : OwnSteps (w.alloc (.cells #[] 50)) B w.heap.size 0 0 [] := ⟨rfl, World.ownsRow_lit (base := B) (e := 50) (size := 3) w #[] 0 hB (by simp [maxLen]) rfl⟩
theorem OwnBools.empty (w : World) {B : Nat} (hB : B ≤ w.heap.size) : OwnBools (w.alloc (.cells #[] 4)) B w.heap.size 0 0 [] := ⟨rfl, World.ownsRow_lit (base := B) (e := 4) (size := 1) w #[] 0 hB (by simp [maxLen]) rfl⟩
theorem OwnSteps.one (w : World) {B : Nat} (hB : B ≤ w.heap.size) (s : Stp) : OwnSteps (w.alloc (.cells #[.string s.nm, .string s.ld, .string s.st] 50)) B w.heap.size 1 1 [s] := ⟨rfl, World.ownsRow_lit (base := B) (e := 50) (size := 3) w #[.string s.nm, .string s.ld, .string s.st] 1 hB (by simp [maxLen]) rfl⟩
theorem OwnBools.one (w : World) {B : Nat} (hB : B ≤ w.heap.size) (b : Bool) : OwnBools (w.alloc (.cells #[.bool b] 4)) B w.heap.size 1 1 [b] := ⟨rfl, World.ownsRow_lit (base := B) (e := 4) (size := 1) w #[.bool b] 1 hB (by simp [maxLen]) rfl⟩
theorem OwnSteps.cell {w : World} {B g n c : Nat} {ss : List Stp} (h : OwnSteps w B g n c ss) {k : Nat} {s : Stp} (hk : ss[k]? = some s) : w.cell? ⟨g, k * 3, none⟩ = some (.string s.nm) ∧ w.cell? ⟨g, k * 3 + 1, none⟩ = some (.string s.ld) ∧ w.cell? ⟨g, k * 3 + 2, none⟩ = some (.string s.st) := by
  have hlt := (List.getElem?_eq_some_iff.1 hk).1
  have hz := h.1
  obtain ⟨a, b, c⟩ := stpCells_at hk
  have ha : ∀ j, j < ss.length * 3 → w.cell? ⟨g, j, none⟩ = (stpCells ss)[j]? := fun j hj => World.ownsRow.cellAt h.2 j (by omega)
  exact ⟨(ha _ (by omega)).trans a, (ha _ (by omega)).trans b, (ha _ (by omega)).trans c⟩
theorem OwnBools.cell {w : World} {B g n c : Nat} {bs : List Bool} (h : OwnBools w B g n c bs) {k : Nat} {b : Bool} (hk : bs[k]? = some b) : w.cell? ⟨g, k, none⟩ = some (.bool b) := by
  have hlt := (List.getElem?_eq_some_iff.1 hk).1
  have hz := h.1
  have ha := World.ownsRow.cellAt h.2 k (by omega)
  rw [ha, List.getElem?_map, hk]
  rfl
theorem OwnSteps.news {w : World} {B g n c : Nat} {ss : List Stp} (h : OwnSteps w B g n c ss) : ∀ j u, (stpCells ss)[j]? = some u → w.cell? ((⟨g, 0, none⟩ : Addr).add j) = some u := fun j u hj => by
  have hlt := (List.getElem?_eq_some_iff.1 hj).1
  rw [stpCells_len] at hlt
  have hz := h.1
  have := World.ownsRow.cellAt h.2 j (by omega)
  rw [← hj, ← this]
  simp only [Addr.add]
  split <;> simp_all
theorem OwnBools.news {w : World} {B g n c : Nat} {bs : List Bool} (h : OwnBools w B g n c bs) : ∀ j u, (bs.map Value.bool)[j]? = some u → w.cell? ((⟨g, 0, none⟩ : Addr).add j) = some u := fun j u hj => by
  have hlt := (List.getElem?_eq_some_iff.1 hj).1
  rw [List.length_map] at hlt
  have hz := h.1
  have := World.ownsRow.cellAt h.2 j (by omega)
  rw [← hj, ← this]
  simp only [Addr.add]
  split <;> simp_all
theorem OwnSteps.free {w : World} {B g n c : Nat} {ss : List Stp} (h : OwnSteps w B g n c ss) (j : Nat) : w.frozen? ⟨g, j, none⟩ = false := by
  obtain ⟨_, _, cur, h1⟩ := row_block h.2
  exact Row.free (h1 : Row w g _ cur) j

end Go.Proofs.YteokbgfiokbojaaGreat
/- The reference's steps: l5Steps. -/
namespace Go.Proofs.YteokbgfiokbojaaGreat
open Go.RowKit

/-- What holds throughout a round. -/
structure Rnd (B q : Nat) (w : World) (At : Option Addr) (l : List Seg) (f k pre r : Forest) (c : UInt8) (A A2 : Option Addr) (cap2 : Nat) (W : World) : Prop where
  box : Row W q 132 #[.string ⟨#[c]⟩, .slice A2 k.len cap2]
  segs : Segs W B At l
  left : LeftS W B f A (pre.app (.cons c k .nil)) r
  kids : IsKids W (· < B) k (.slice A2 k.len cap2)
  below : Below B w W
  lt : B ≤ q
theorem Rnd.later {B q : Nat} {w W W' : World} {At A A2 : Option Addr} {l : List Seg} {f k pre r : Forest} {c : UInt8} {cap2 : Nat} (h : Rnd B q w At l f k pre r c A A2 cap2 W) (hb : Below W.heap.size W W') : Rnd B q w At l f k pre r c A A2 cap2 W' := by
  have hB : B ≤ W.heap.size := Nat.le_trans h.lt (Nat.le_of_lt h.box.lt)
  exact ⟨h.box.below hb h.box.lt, h.segs.below (hb.mono hB), h.left.below (hb.mono hB), h.kids.below (hb.mono hB), h.below.trans (hb.mono hB), h.lt⟩
theorem Rnd.grow {B q g : Nat} {w W W' : World} {At A A2 : Option Addr} {l : List Seg} {f k pre r : Forest} {c : UInt8} {cap2 : Nat} (h : Rnd B q w At l f k pre r c A A2 cap2 W) (hg : W.grownBy W' (some g)) (hB : B ≤ g) (hq : g ≠ q) : Rnd B q w At l f k pre r c A A2 cap2 W' := by
  have hBW : B ≤ W.heap.size := Nat.le_trans h.lt (Nat.le_of_lt h.box.lt)
  have hb : Below B W W' := (Below.refl _ W).grown hg hBW (fun q hq => by injection hq with hq; omega)
  exact ⟨(hg.block q h.box.lt (fun e => hq (by injection e with e; exact e.symm))).trans h.box, h.segs.below hb, h.left.below hb, h.kids.below hb, h.below.trans hb, h.lt⟩
theorem Rnd.size {B q : Nat} {w W : World} {At A A2 : Option Addr} {l : List Seg} {f k pre r : Forest} {c : UInt8} {cap2 : Nat} (h : Rnd B q w At l f k pre r c A A2 cap2 W) : B ≤ W.heap.size := Nat.le_trans h.lt (Nat.le_of_lt h.box.lt)
end Go.Proofs.YteokbgfiokbojaaGreat
/- The reference's run, its steps and loads. -/
namespace Go.Proofs.YteokbgfiokbojaaGreat
open Go.RowKit

/-- The steps of a trace. -/
def runRes (l : List Seg) (t : ByteArray) : List (Stp × Bool) := match traceB l t.data.toList with
  | none => []
  | some f => runF l f
theorem runF_texts {l : List Seg} {f : Forest} (hv : validB l = true) (h : f.all (callP l)) : ∀ s ∈ runF l f, s.1.nm.size = 1 ∧ s.1.ld.size ≤ 8 ∧ s.1.st.size ≤ 8 := runS_texts hv _ (.inl rfl) (needsOfF_all hv h)
theorem runRes_some {l : List Seg} {t : ByteArray} {f : Forest} (h : traceB l t.data.toList = some f) : runRes l t = runF l f := by
  unfold runRes
  rw [h]
theorem runRes_none {l : List Seg} {t : ByteArray} (h : traceB l t.data.toList = none) : runRes l t = [] := by
  unfold runRes
  rw [h]
theorem backRes_eq (l : List Seg) (t : ByteArray) : backRes l t = loadsB (keptB (runRes l t)) := by
  unfold backRes
  cases h : traceB l t.data.toList with
  | none => rw [runRes_none h]; rfl
  | some f => rw [runRes_some h]

end Go.Proofs.YteokbgfiokbojaaGreat
/- The program's TraceValid. -/
namespace Go.Proofs.YteokbgfiokbojaaGreat
open Go.RowKit

end Go.Proofs.YteokbgfiokbojaaGreat
/- The program's runs: runOf, LoadsIn. -/
namespace Go.Proofs.YteokbgfiokbojaaGreat
open Go.RowKit Go.Shelf
attribute [local go_sem] Oper.semAt_some

theorem isB_keepS {T e : TypeId} {B b : Nat} {bs : List Value} {W W' : World} (hT : T ≠ 139) (he : e ≠ 139) (h : Lib.IsBuilderF T e B b bs W) (hk : ∀ (k : Nat) (cs : Array Value) (t : TypeId) (fz : Nat × Nat), W.heap[k]? = some (.cells cs t fz) → t ≠ 139 → W'.heap[k]? = some (.cells cs t fz)) : Lib.IsBuilderF T e B b bs W' := by
  have at_ : ∀ p, Lib.BuilderAtF T e B b p bs W → Lib.BuilderAtF T e B b p bs W' := fun p hp => by
    obtain ⟨h1, v, h2, h3, h4⟩ := hp
    refine ⟨h1, v, hk _ _ _ _ h2 hT, ⟨h3.1, ?_⟩, h4⟩
    rcases h3.2 with h5 | ⟨g, cap, cur, fz, hv, hg, hh, r⟩
    · exact .inl h5
    · exact .inr ⟨g, cap, cur, fz, hv, hg, hk _ _ _ _ hh he, r⟩
  exact h.elim (fun x => .inl (at_ _ x)) (fun x => .inr (at_ _ x))
theorem isB_grownS {B b : Nat} {bs : List Value} {W W' : World} {row : Option Nat} (h : Lib.IsBuilderF 48 5 B b bs W) (hg : W.grownBy W' row) (hr : ∀ r, row = some r → RowS W r) : Lib.IsBuilderF 48 5 B b bs W' :=
  isB_keepS (by decide) (by decide) h fun k _ _ _ hk ht => (hg.block k (Array.getElem?_eq_some_iff.1 hk).1 (fun e => (hr k e.symm).ne hk ht rfl)).trans hk

/-- What runOf leaves: an iterator over the steps, whose variables and nodes and calls lie in what is behind it. -/
def RunOfPost (w : World) (l : List Seg) (R : Option Forest) (e : Ending) (w' : World) : Prop :=
  (R = none ∧ e = .returned (.tuple #[.nilFunc, .bool false]) ∧ Below w.heap.size w w') ∨
  (∃ f B g nb cv Bn Bc A2 cap2, R = some f ∧ e = .returned (.tuple #[.func (.func 85) #[] #[.pointer (some ⟨Bn, 0, none⟩), .pointer (some ⟨Bc, 0, none⟩)], .bool true]) ∧ Nodes w' B g l.length l.length l nb cv ∧
    Row w' Bn 56 #[.slice (some ⟨g, 0, none⟩) l.length l.length] ∧ Row w' Bc 63 #[.slice A2 f.len cap2] ∧ SliceIs w' (· < w'.heap.size) (.slice A2 f.len cap2) f ∧ Below w.heap.size w w')

set_option maxRecDepth 100000 in
set_option maxHeartbeats 1000000 in
theorem runOf_any (A : Option Addr) (l : List Seg) (c : Nat) (t : ByteArray) (w : World) (hw : Segs w w.heap.size A l) (hl : l.length ≤ 1048576) (hlc : l.length ≤ c) (hcm : c ≤ 9223372036854775807) (hn : Short l) (ht : t.size ≤ 1048576) :
    Calls Tryz.prog 23 #[.slice A l.length c, .string t] w (RunOfPost w l (traceB l t.data.toList)) := by
  have HQ := Lib.hid (readTrace_any A l c t w hw hl hlc hcm hn ht)
  have HW : Hid (Segs w w.heap.size A l) := hw
  cases hR : traceB l t.data.toList with
  | none =>
    rw [hR] at HQ
    clear hw hn hR
    go_enter Tryz.func23, Tryz.ntmps23
    go_wp2_with fail
    refine Calls.mono HQ.out ?_
    rintro e w2 ⟨v, rfl, -, hb⟩
    go_wp2
    go_ret2
    exact .inl ⟨rfl, rfl, hb⟩
  | some f =>
    obtain ⟨hv, h80, hcl⟩ := traceB_some hR
    have HV := Lib.hid hv
    have HNO := Lib.hid (fun W h => nodesOf_any A l c W h hl hlc hcm hn hv)
    rw [hR] at HQ
    clear hw hn hR h80 hcl hv
    go_enter Tryz.func23, Tryz.ntmps23
    go_wp2_with fail
    refine Calls.mono HQ.out ?_
    rintro e w2 ⟨v, rfl, (⟨f', hf', hsl⟩ | ⟨h0, -⟩), hb⟩
    · obtain rfl : f = f' := by injection hf'
      have HSL : Hid (SliceIs w2 (· < w2.heap.size) v f) := hsl.keep fun q hq => ⟨hq.2, rfl⟩
      have HB := Lib.hid hb
      have HSG : Hid (Segs w2 w2.heap.size A l) := (HW.out.below hb).more hb.size
      obtain ⟨A2, cap2, rfl, -⟩ := id hsl
      clear hsl hb hf' HQ
      go_wp2_with fail
      refine (HNO.out w2 HSG.out).mono ?_
      rintro e w3 ⟨g, nb, cv, rfl, hno, hb3⟩
      have HN3 := Lib.hid hno
      have HB3 := Lib.hid (HB.out.trans (hb3.mono HB.out.size))
      have HS3 : Hid (SliceIs w3 (· < w3.heap.size) (.slice A2 f.len cap2) f) := (HSL.out.below hb3).keep fun q hq => ⟨Nat.lt_of_lt_of_le hq hb3.size, rfl⟩
      clear hno hb3 HSL HB HSG HNO
      go_wp2_with fail
      refine (stepsIn_any _ _ _ _ _ _ w3).mono ?_
      rintro e w4 ⟨rfl, rfl⟩
      have hbb : Below w3.heap.size w3 ((w3.alloc (.cells #[.slice (some ⟨g, 0, none⟩) l.length l.length] 56)).alloc (.cells #[.slice A2 f.len cap2] 63)) := ((Below.refl _ w3).alloc (Nat.le_refl _) _).alloc (by simp) _
      have hr2 : Row ((w3.alloc (.cells #[.slice (some ⟨g, 0, none⟩) l.length l.length] 56)).alloc (.cells #[.slice A2 f.len cap2] 63)) (w3.heap.size + 1) 63 #[.slice A2 f.len cap2] := by
        have := Row.new (w3.alloc (.cells #[.slice (some ⟨g, 0, none⟩) l.length l.length] 56)) 63 #[.slice A2 f.len cap2]
        rw [World.size_alloc] at this
        exact this
      have HF : Hid (RunOfPost w l (some f) (.returned (.tuple #[.func (.func 85) #[] #[.pointer (some ⟨w3.heap.size, 0, none⟩), .pointer (some ⟨w3.heap.size + 1, 0, none⟩)], .bool true])) ((w3.alloc (.cells #[.slice (some ⟨g, 0, none⟩) l.length l.length] 56)).alloc (.cells #[.slice A2 f.len cap2] 63))) :=
        .inr ⟨f, _, g, nb, cv, _, _, A2, cap2, rfl, rfl, HN3.out.below hbb, (Row.new w3 _ _).alloc _, hr2, (HS3.out.below hbb).keep (fun q hq => ⟨Nat.lt_of_lt_of_le hq hbb.size, rfl⟩), HB3.out.trans (hbb.mono HB3.out.size)⟩
      clear hbb hr2
      go_wp2
      go_ret2
      exact HF.out
    · cases h0

/-- A step of few letters, whatever comes. -/
def fixS (x : Stp × Bool) : Stp × Bool := if x.1.ld.size ≤ 8 ∧ x.1.st.size ≤ 8 then x else (⟨⟨#[]⟩, ⟨#[]⟩, ⟨#[]⟩⟩, x.2)
theorem fixS_ok (x : Stp × Bool) : (fixS x).1.ld.size ≤ 8 ∧ (fixS x).1.st.size ≤ 8 := by
  unfold fixS
  split
  · assumption
  · exact ⟨Nat.zero_le _, Nat.zero_le _⟩
theorem fixS_step {l : List Seg} (hv : validB l = true) (T : List Nat) (c : UInt8) (b : Bool) (hT : IsState l T) (hc : callP l c = true) : fixS (stepAt l T c, b) = (stepAt l T c, b) := if_pos (step_len hv hT hc).2
theorem fixS_run {l : List Seg} {f : Forest} (hv : validB l = true) (h : f.all (callP l)) : (runF l f).map fixS = runF l f := by
  conv => rhs; rw [← List.map_id (runF l f)]
  exact List.map_congr_left fun x hx => if_pos (runF_texts hv h x hx).2
/-- The iterator of a run, where what it has lies below. -/
theorem run_seq (w : World) {l : List Seg} {B g : Nat} {nb : Nat → Nat} {cv : Nat → Value} {Bn Bc : Nat} {f : Forest} {v : Value} (hv : validB l = true) (hall : f.all (callP l)) (hs : f.size ≤ 80) (hd : f.deep ≤ 8)
    (h1 : Nodes w B g l.length l.length l nb cv) (h2 : Row w Bn 56 #[.slice (some ⟨g, 0, none⟩) l.length l.length]) (h3 : Row w Bc 63 #[v]) (h4 : SliceIs w (· < w.heap.size) v f) (W : World) (D : Nat) (hW : Below w.heap.size w W) :
    SeqS 19 85 #[.pointer (some ⟨Bn, 0, none⟩), .pointer (some ⟨Bc, 0, none⟩)] (fun x => encS (fixS x)) w.heap.size D (fun ys => ys = runF l f) (fun ys => ys <+: runF l f) 161 W :=
  steps1_seq w B g l nb cv D fixS f 161 19 Bn Bc v W hv hall (by omega) (fun T c b hT hc => fixS_step hv T c b hT hc) h1 hW ⟨.inl h2.lt, by decide, h2.below hW h2.lt⟩ ⟨.inl h3.lt, by decide, h3.below hW h3.lt⟩ (h4.below hW) (by omega) (by omega)

end Go.Proofs.YteokbgfiokbojaaGreat
/- What is loaded for returns: both sides. -/
namespace Go.Proofs.YteokbgfiokbojaaGreat
open Go.RowKit Go.Shelf
attribute [local go_sem] Oper.semAt_some

theorem keptB_texts {rs : List (Stp × Bool)} {n : Nat} (h : ∀ s ∈ rs, s.1.ld.size ≤ n) : ∀ s ∈ keptB rs, s.ld.size ≤ n := fun s hs => by
  unfold keptB at hs
  obtain ⟨x, hx, rfl⟩ := List.mem_map.1 hs
  exact h x (List.mem_filter.1 hx).1
theorem keptB_len (rs : List (Stp × Bool)) : (keptB rs).length ≤ rs.length := by
  unfold keptB
  rw [List.length_map]
  exact List.length_filter_le _ _

def bkBytes (xs : List (Stp × Bool)) : List Value := Lib.byteCells (loadsB (keptB (xs.map fixS))).data.toList
theorem bkBytes_snoc (xs : List (Stp × Bool)) (x : Stp × Bool) : bkBytes (xs ++ [x]) = if (fixS x).2 = true then bkBytes xs ++ Lib.strCells (fixS x).1.ld else bkBytes xs := by
  unfold bkBytes
  rw [List.map_append, List.map_cons, List.map_nil, show fixS x = ((fixS x).1, (fixS x).2) from rfl, keptB_snoc]
  split
  · rw [loadsB_snoc, ByteArray.data_append, Array.toList_append, byteCells_app]
    rfl
  · rfl
theorem bkBytes_len (xs : List (Stp × Bool)) : (bkBytes xs).length ≤ 8 * xs.length := by
  unfold bkBytes
  rw [byteCells_len]
  have h1 := loadsB_size (keptB (xs.map fixS)) (keptB_texts fun s hs => by
    obtain ⟨y, _, rfl⟩ := List.mem_map.1 hs
    exact (fixS_ok y).1)
  have h2 := keptB_len (xs.map fixS)
  rw [List.length_map] at h2
  have h3 : (loadsB (keptB (xs.map fixS))).data.toList.length = (loadsB (keptB (xs.map fixS))).size := by simp
  omega

set_option maxRecDepth 100000 in
set_option maxHeartbeats 2000000 in
theorem returnLoads_any (A : Option Addr) (l : List Seg) (c : Nat) (t : ByteArray) (w : World) (hw : Segs w w.heap.size A l) (hl : l.length ≤ 1048576) (hlc : l.length ≤ c) (hcm : c ≤ 9223372036854775807) (hn : Short l) (ht : t.size ≤ 1048576) :
    Calls Tryz.prog 10 #[.slice A l.length c, .string t] w fun e w' => e = .returned (.tuple #[.string (backRes l t), .bool (traceB l t.data.toList).isSome]) ∧ Below w.heap.size w w' := by
  have HQ := Lib.hid (runOf_any A l c t w hw hl hlc hcm hn ht)
  have HE := Lib.hid (backRes_eq l t)
  cases hR : traceB l t.data.toList with
  | none =>
    rw [hR] at HQ
    rw [runRes_none hR] at HE
    clear hw hn hR
    go_enter Tryz.func10, Tryz.ntmps10
    go_wp2_with fail
    refine Calls.mono HQ.out ?_
    rintro e w2 (⟨-, rfl, hb⟩ | ⟨f, _, _, _, _, _, _, _, _, h0, _⟩)
    · go_wp2
      go_ret2
      exact ⟨ret_two HE.out.symm rfl, hb⟩
    · cases h0
  | some f =>
    obtain ⟨hv, h80, hcl⟩ := traceB_some hR
    have hsz := traceB_size hR
    have hall := traceB_all hR
    have HFX := Lib.hid (fixS_run hv hall)
    have HSQ := Lib.hid (fun (w : World) B g nb cv Bn Bc v (h1 : Nodes w B g l.length l.length l nb cv) h2 h3 h4 W D hW => run_seq w (Bn := Bn) (Bc := Bc) (v := v) hv hall hsz.1 hsz.2 h1 h2 h3 h4 W D hW)
    rw [hR] at HQ
    rw [runRes_some hR] at HE
    clear hw hn hR h80 hcl hv hall
    refine (callsIn_wide (n := 20)).1 ?_
    refine callsIn_of_wp_marks Tryz.func10 rfl trivial ?_ rfl
    simp only [Tryz.ntmps10, List.size_toArray, List.length_cons, List.length_nil, Nat.reduceAdd, Nat.reduceSub, Array.replicate_succ, Array.replicate_zero, List.push_toArray, List.append_toArray, List.nil_append, List.cons_append]
    gi_wp2_with fail
    refine ⟨trivial, ?_⟩
    gi_at_call 23
    refine (callsIn_wide.2 HQ.out).mono ?_
    rintro e w2 (⟨h0, -, -⟩ | ⟨f', B, g, nb, cv, Bn, Bc, A2, cap2, hf', rfl, hN, hrn, hrc, hsl, hb⟩)
    · cases h0
    · obtain rfl : f = f' := by injection hf'
      have HB := Lib.hid hb
      have HS := Lib.hid (fun W D hW => HSQ.out w2 B g nb cv Bn Bc _ hN hrn hrc hsl W D hW)
      clear hN hrn hrc hsl hb hf' HQ HSQ
      gi_wp2
      have hB0 : Below w2.heap.size w2 (w2.alloc (.cells #[.pointer none, .slice none 0 0] 48)) := (Below.refl _ w2).alloc (Nat.le_refl _) _
      have hI0 : Lib.IsBuilderF 48 5 w2.heap.size w2.heap.size (bkBytes []) (w2.alloc (.cells #[.pointer none, .slice none 0 0] 48)) := Lib.IsBuilderF.of (Lib.fresh_isBuilder _ _ w2)
      have hseq := HS.out (w2.alloc (.cells #[.pointer none, .slice none 0 0] 48)) (w2.heap.size + 1) hB0
      have hz0 : (w2.alloc (.cells #[.pointer none, .slice none 0 0] 48)).heap.size = w2.heap.size + 1 := by simp
      generalize w2.alloc (.cells #[.pointer none, .slice none 0 0] 48) = W0 at *
      refine wpIn_rangeFunc_SH (by omega) (gf := 85) (lb := #[.pointer (some ⟨Bn, 0, none⟩), .pointer (some ⟨Bc, 0, none⟩)]) rfl (enters_of Tryz.func85 (by kernel_rfl) rfl) hseq (by omega) (by omega) (Below.refl _ _) (fun _ => rfl)
        (fun ys X => Lib.IsBuilderF 48 5 w2.heap.size w2.heap.size (bkBytes ys) X ∧ Below w2.heap.size w2 X)
        (fun _ _ _ => False)
        (fun s X Y row hs hg hr => ⟨isB_grownS hs.1 hg (fun r e => (hr r e).2), hs.2.grown hg hs.2.size (fun k e => by have := (hr k e).1; omega)⟩)
        (fun _ _ _ _ _ hs _ _ => hs)
        ⟨hI0, hB0⟩
        (fun x q => { tmps := #[.slice A l.length c, .string t, undef, undef, .string ⟨#[]⟩, .bool false, .func (.func 85) #[] #[.pointer (some ⟨Bn, 0, none⟩), .pointer (some ⟨Bc, 0, none⟩)], .bool true, .pointer (some ⟨w2.heap.size, 0, none⟩), .pointer (some ⟨q, 0, none⟩), .bool (fixS x).2, .tuple #[.func (.func 85) #[] #[.pointer (some ⟨Bn, 0, none⟩), .pointer (some ⟨Bc, 0, none⟩)], .bool true], .slice A l.length c, .string t, .tuple #[.func (.func 85) #[] #[.pointer (some ⟨Bn, 0, none⟩), .pointer (some ⟨Bc, 0, none⟩)], .bool true], .func (.func 85) #[] #[.pointer (some ⟨Bn, 0, none⟩), .pointer (some ⟨Bc, 0, none⟩)], .bool true, .bool true, .bool false, .func (.func 85) #[] #[.pointer (some ⟨Bn, 0, none⟩), .pointer (some ⟨Bc, 0, none⟩)], .agg #[.string (fixS x).1.nm, .string (fixS x).1.ld, .string (fixS x).1.st], .bool (fixS x).2, undef, undef, undef, undef, undef], defers := [] })
        (fun x => .cells #[.string (fixS x).1.nm, .string (fixS x).1.ld, .string (fixS x).1.st] 50) ?assign ?body ?done ?stop
      case assign =>
        intro l2 x X K hK
        unfold encS
        gi_wp2
        exact hK
      case body =>
        rintro l2 ys x q X ⟨hI, hB⟩ hlen hz hqz hq
        have c1 : X.cell? ⟨q, 1, none⟩ = some (.string (fixS x).1.ld) := Row.cell (hq : Row X q 50 _) 1
        have hl1 : (bkBytes ys).length + (fixS x).1.ld.size ≤ 140737488355328 := by
          have h1 := bkBytes_len ys
          have h2 := (fixS_ok x).1
          omega
        have HN := Lib.hid (bkBytes_snoc ys x)
        generalize (fixS x) = y at *
        obtain ⟨⟨nm, ld, st⟩, bb⟩ := y
        dsimp only at c1 hl1 HN ⊢
        clear hq
        cases bb with
        | true =>
          have HN2 : Hid (bkBytes (ys ++ [x]) = bkBytes ys ++ Lib.strCells ld) := by show _ = _; rw [HN.out, if_pos rfl]
          clear HN
          gi_wp2_with (refine ⟨trivial, ?_⟩; gi_at_call 24; refine (CallsIn.inRound l2 (callsIn_wide.2 (writeString_any w2.heap.size w2.heap.size _ ld _ hI hl1 hB.size))).mono ?_; rintro e W1 ⟨rfl, hI1, hb1, hk1⟩)
          exact ⟨keptN_from hk1 hb1 (by omega), hb1, by rw [HN2.out]; exact hI1, hB.trans hb1⟩
        | false =>
          have HN2 : Hid (bkBytes (ys ++ [x]) = bkBytes ys) := by show _ = _; rw [HN.out, if_neg (by decide)]
          clear HN
          gi_wp2
          exact ⟨KeepsN.refl _ _, Below.refl _ _, by rw [HN2.out]; exact hI, hB⟩
      case done =>
        rintro L ys X hL rfl ⟨hI, hB⟩ hK
        have hE : bkBytes (runF l f) = Lib.byteCells (backRes l t).data.toList := by
          unfold bkBytes
          rw [HE.out, HFX.out]
        rw [hE] at hI
        clear hE hseq
        gi_wp2_with (refine ⟨trivial, ?_⟩; gi_at_call 25; refine (callsIn_wide.2 (Tryz.Builder_String_any_k w2.heap.size w2.heap.size _ _ hI hB.size)).mono ?_; rintro e W1 ⟨rfl, hI1, hb1, hk1⟩)
        have hK1 : W1.heap[L]? = some (.deferred (some [])) := hk1 L _ hK (fun he => by injection he with he; omega) (fun c fz he => by cases he)
        refine ⟨by simp, .inl ⟨_, _, rfl, run_takeDeferred hK1, ?_⟩⟩
        exact ⟨_, results_tmp2 rfl _ _ _, rfl, (HB.out.trans ((hB.trans hb1).mono HB.out.size)).trans (belowK_b (w := w) (Nat.le_refl _) W1 L _ _ (by have := HB.out.size; omega) hK1 rfl rfl)⟩
      case stop =>
        rintro L c' pre X _ _ h _
        exact h.elim

end Go.Proofs.YteokbgfiokbojaaGreat
/- Draws of chapter 4: a text many times; the draws of NeedsOf, TraceValid, Without. All over l1Good's contract. -/
namespace Go.Proofs.YteokbgfiokbojaaGreat
open Go.RowKit

end Go.Proofs.YteokbgfiokbojaaGreat
/- laws.soTexts on rows of the same texts, and the draw of FnChainsOf. -/
namespace Go.Proofs.YteokbgfiokbojaaGreat
open Go.RowKit

set_option maxRecDepth 100000 in
set_option maxHeartbeats 1000000 in
theorem soTexts_any (A A' : Option Addr) (l : List ByteArray) (c c' : Nat) (w : World) (hw : St.Strs w w.heap.size A l) (hw' : St.Strs w w.heap.size A' l) (hl : l.length ≤ 1000) :
    Calls Tryz.prog 9 #[.slice A l.length c, .slice A' l.length c'] w fun e w' => e = .returned (.bool true) ∧ Below w.heap.size w w' := by
  have HW : Hid (St.Strs w w.heap.size A l) := hw
  have HW' : Hid (St.Strs w w.heap.size A' l) := hw'
  clear hw hw'
  go_enter Tryz.func9, Tryz.ntmps9
  go_wp2
  go_loopw [11] (fun i wr => ∃ (k : Nat), k ≤ l.length ∧ i = .int .i64 k ∧ Below w.heap.size w wr)
    (fun i _ => l.length - (intOf i).toNat)
  case atStart => exact ⟨0, Nat.zero_le _, rfl, Below.refl _ _⟩
  case round =>
    obtain ⟨k, hk, rfl, hb⟩ := hrel
    by_cases hlt : k < l.length
    · have hlt' : (k : Int) < (l.length : Int) := by omega
      have hk0 : (0 : Int) ≤ (k : Int) := Int.natCast_nonneg _
      obtain ⟨b, o, rfl, hB, hc⟩ := HW.out (by omega)
      obtain ⟨b', o', rfl, hB', hc'⟩ := HW'.out (by omega)
      have c0 := hc k l[k] (List.getElem?_eq_getElem hlt)
      have d0 := hc' k l[k] (List.getElem?_eq_getElem hlt)
      clear hc hc'
      rw [← hb.cell hB] at c0
      rw [← hb.cell hB'] at d0
      generalize l[k] = s at *
      have HB2 := Lib.hid hb.drew
      go_wp2
      go_quiet (fail)
      go_wp2
      go_roundw
      case rel => exact ⟨k + 1, by omega, by go_num, below_drewN hb _⟩
      case measure => simp [intOf]; omega
    · go_wp2
      go_ret
      exact ⟨rfl, hb⟩

end Go.Proofs.YteokbgfiokbojaaGreat
