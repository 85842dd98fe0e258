/- Joined: Yl Yb. -/
import Derived.Test.YtcaegpjbdcopoaaU24
import Derived.Test.YtcaegpjbdcopoaaU18
import Derived.Test.YtcaegpjbdcopoaaU14
/- A range over a function whose iterator writes a state of its own, and whose variable is a new block each round. -/
namespace Go.Proofs.Ytcaegpjbdcopoaa
open Go.RowKit Go.Shelf

theorem wpIn_rangeFunc_SH {α : Type} {n : Nat} {g : Operand} {ps : Array Tmp} {assign body : Code} {Q : Exit → Act → World → Prop} {a : Act} {w : World}
    (h1 : 1 ≤ n) {gf : Nat} {lb : Array Value} (hg : a.eval g = .func (.func gf) #[] lb) (eg : ∀ args w, (callFunc gf args).run Try.prog w = .ok (.enter gf args) w)
    {encs : α → Array Value} {n₀ D : Nat} {S Sp : List α → Prop} {N : Nat} {w0 : World} (hseq : SeqS (n - 1) gf lb encs n₀ D S Sp N w0)
    (hD : D ≤ w.heap.size + 2) (hn₀ : n₀ ≤ w.heap.size) (hb0 : Below w0.heap.size w0 w) (hps : ∀ x, (encs x).size = ps.size)
    (I : List α → World → Prop) (Ix : Code → List α → World → Prop) (hI : OwnFromS w.heap.size I) (hIx : ∀ c, OwnFromS w.heap.size (Ix c)) (h0 : I [] w) (a₁ : α → Nat → Act) (o₁ : α → Obj)
    (hassign : ∀ (l : Nat) (x : α) (W : World) (K : Act → World → Prop), K (a₁ x W.heap.size) (W.alloc (o₁ x)) →
      assign.wpIn (Fence.wide.inRound l) (n - 1 - 1) Try.prog (Exit.then K (fun _ _ _ => False)) { tmps := (ps.zip (encs x)).foldl (fun t (p, v) => t.setIfInBounds p v) a.tmps, defers := [] } W)
    (hbody : ∀ (l : Nat) (pre : List α) (x : α) (q : Nat) (W : World), I pre W → pre.length < N → w.heap.size + 2 ≤ W.heap.size → w.heap.size + 2 ≤ q → W.heap[q]? = some (o₁ x) → body.wpIn (Fence.wide.inRound l) (n - 1 - 1) Try.prog (ownPostR w.heap.size n₀ D I Ix (pre ++ [x]) W) (a₁ x q) W)
    (hdone : ∀ (L : Nat) (xs : List α) (W : World), w.heap.size ≤ L → S xs → I xs W → W.heap[L]? = some (.deferred (some [])) → Q .normal { a with defers := { target := .collected L, args := #[] } :: a.defers } W)
    (hstop : ∀ (L : Nat) (c : Code) (pre : List α) (W : World), w.heap.size ≤ L → Sp pre → Ix c pre W → W.heap[L]? = some (.deferred (some [])) → c.wpIn Fence.wide n Try.prog Q { a with defers := { target := .collected L, args := #[] } :: a.defers } W) :
    (Code.rangeFunc g ps assign body).wpIn Fence.wide n Try.prog Q a w := by
  refine wpIn_rangeFunc ?_
  intro fn hfn
  rw [show Fence.wide.round = none from rfl]
  obtain ⟨rec, hrec⟩ : ∃ rec : LoopState → Option Code → Loop, rec = fun st pe => { state := st, pending := pe, fn, tmps := a.tmps, params := ps, assign, body, defers := w.heap.size } := ⟨_, rfl⟩
  obtain ⟨W1, hW1⟩ : ∃ W1, (w.alloc (.deferred (some []))).alloc (.loop (rec .ready none)) = W1 := ⟨_, rfl⟩
  have hz1 : W1.heap.size = w.heap.size + 2 := by rw [← hW1]; simp
  have hL1 : W1.heap[w.heap.size + 1]? = some (.loop (rec .ready none)) := by
    rw [← hW1]; have := World.alloc_heap_new (w.alloc (.deferred (some []))) (.loop (rec .ready none)); rwa [World.size_alloc] at this
  have hK1 : W1.heap[w.heap.size]? = some (.deferred (some [])) := by
    rw [← hW1]; exact (Below.heap_alloc _ _ _ (by simp)).trans (World.alloc_heap_new w _)
  have hI1 : I [] W1 := by rw [← hW1]; exact hI.plain.alloc _ (hI.plain.alloc _ h0)
  have hb1 : Below w0.heap.size w0 W1 := by
    rw [← hW1]; exact hb0.trans ((((Below.refl _ w).alloc (Nat.le_refl _) _).alloc (by simp) _).mono hb0.size)
  refine ⟨w.heap.size + 1, [{ target := .collected w.heap.size, args := #[] }], W1, { target := .fn (.func gf) lb, args := #[.func (.yield (w.heap.size + 1)) #[] #[]] }, W1, gf,
    #[.func (.yield (w.heap.size + 1)) #[] #[]] ++ lb, W1, ?_, ?_, ?_, ?_, fun _ => h1, ?_⟩
  · rw [← hW1, hrec]; exact run_enterLoop_outer _ _ _ _ _
  · simp only [resolve, hg]
    simp [go_sem]
  · intro f' hf'; simp [Target.leads] at hf'; subst hf'; exact trivial
  · simp [invoke, go_sem, eg]
  · have hrow : ∀ {A B : World} {row : Option Nat}, (∀ r, row = some r → W1.heap.size ≤ r ∧ RowS A r) → A.grownBy B row → ∀ (k : Nat) (o : Obj), k < W1.heap.size → A.heap[k]? = some o → B.heap[k]? = some o :=
      fun hr hg' k o hk ho => (hg'.block k (Array.getElem?_eq_some_iff.1 ho).1 (fun he => by have := (hr k he.symm).1; omega)).trans ho
    have hlow : ∀ {A : World} {row : Option Nat}, (∀ r, row = some r → W1.heap.size ≤ r ∧ RowS A r) → (∀ r, row = some r → w.heap.size ≤ r ∧ RowS A r) :=
      fun hr r e => ⟨by have := (hr r e).1; omega, (hr r e).2⟩
    refine (hseq (w.heap.size + 1)
      (fun pre W => I pre W ∧ W.heap[w.heap.size + 1]? = some (.loop (rec .ready none)) ∧ W.heap[w.heap.size]? = some (.deferred (some [])))
      (fun pre W => ∃ c, Ix c pre W ∧ W.heap[w.heap.size + 1]? = some (.loop (rec .done (some c))) ∧ W.heap[w.heap.size]? = some (.deferred (some [])))
      W1 hb1 (by omega)
      (fun s A B row hs hg' hr => ⟨hI s A B row hs.1 hg' (hlow hr), hrow hr hg' _ _ (by omega) hs.2.1, hrow hr hg' _ _ (by omega) hs.2.2⟩)
      (fun s A B row hs hg' hr => by
        obtain ⟨c, hc, hl, hk⟩ := hs
        exact ⟨c, hIx c s A B row hc hg' (hlow hr), hrow hr hg' _ _ (by omega) hl, hrow hr hg' _ _ (by omega) hk⟩)
      ?_ ⟨hI1, hL1, hK1⟩).mono ?_
    · rintro pre x Wp ⟨hip, hlp, hkp⟩ hlen hWp
      have hy := run_yield (P := Try.prog) (args := encs x) hlp (by rw [hrec]; exact hps x)
      rw [hrec] at hy
      obtain ⟨W, hWe⟩ : ∃ W, W = Wp.alloc (o₁ x) := ⟨_, rfl⟩
      have hlt0 : w.heap.size + 1 < Wp.heap.size := (Array.getElem?_eq_some_iff.1 hlp).1
      have hzW : W.heap.size = Wp.heap.size + 1 := by rw [hWe]; simp
      have hl : W.heap[w.heap.size + 1]? = some (.loop (rec .ready none)) := by rw [hWe]; exact (Below.heap_alloc Wp _ _ hlt0).trans hlp
      have hk : W.heap[w.heap.size]? = some (.deferred (some [])) := by rw [hWe]; exact (Below.heap_alloc Wp _ _ (by omega)).trans hkp
      have hi : I pre W := by rw [hWe]; exact hI.plain.alloc _ hip
      have hqn : W.heap[Wp.heap.size]? = some (o₁ x) := by rw [hWe]; exact World.alloc_heap_new Wp _
      have hbA : Below n₀ Wp W := by rw [hWe]; exact (Below.refl _ Wp).alloc (by omega) _
      have hkA : ∀ K, KeepsN K Wp W := fun K => by rw [hWe]; exact KeepsN.alloc K Wp _
      have hWz : W1.heap.size ≤ W.heap.size := by omega
      have hlt : w.heap.size + 1 < W.heap.size := by omega
      refine ⟨fn, _, assign, body, hy, roundIn_of_wpIn hfn (hassign _ x Wp _ ?_)⟩
      rw [← hWe]
      refine ⟨_, run_beginRound hl (by rw [hrec]), ?_⟩
      have hl2 : (W.putObj (w.heap.size + 1) (.loop { rec .ready none with state := .busy })).heap[w.heap.size + 1]? = some (.loop { rec .ready none with state := .busy }) := World.putObj_heap_same hlt
      have hk2 : (W.putObj (w.heap.size + 1) (.loop { rec .ready none with state := .busy })).heap[w.heap.size]? = some (.deferred (some [])) := (World.putObj_heap_other (by omega)).trans hk
      have hsz2 : (W.putObj (w.heap.size + 1) (.loop { rec .ready none with state := .busy })).heap.size = W.heap.size := by simp [World.putObj]
      refine wpIn_mono (hbody _ pre x Wp.heap.size _ (hI.plain.putObj _ hi (by omega) hl rfl) hlen (by rw [hsz2]; omega) (by omega) ((World.putObj_heap_other (by omega)).trans hqn)) ?_
      have fin : ∀ (jump : Option Code) (W3 : World), KeepsN w.heap.size (W.putObj (w.heap.size + 1) (.loop { rec .ready none with state := .busy })) W3 →
          (Instr.endRound (w.heap.size + 1) jump).run Try.prog W3 = .ok (.bool jump.isNone) (W3.putObj (w.heap.size + 1) (.loop (rec (if jump.isNone then .ready else .done) jump))) ∧
          W3.heap[w.heap.size + 1]? = some (.loop { rec .ready none with state := .busy }) ∧
          (W3.putObj (w.heap.size + 1) (.loop (rec (if jump.isNone then .ready else .done) jump))).heap[w.heap.size + 1]? = some (.loop (rec (if jump.isNone then .ready else .done) jump)) ∧
          (W3.putObj (w.heap.size + 1) (.loop (rec (if jump.isNone then .ready else .done) jump))).heap[w.heap.size]? = some (.deferred (some [])) := fun jump W3 hk3 => by
        have hl3 := hk3.same _ _ (by omega) hl2 (fun c t fz he => by cases he)
        have := run_endRound (P := Try.prog) jump hl3
        rw [hrec] at this ⊢
        exact ⟨this, by rw [hrec] at hl3; exact hl3, World.putObj_heap_same (Array.getElem?_eq_some_iff.1 hl3).1, (World.putObj_heap_other (by omega)).trans (hk3.same _ _ (Nat.le_refl _) hk2 (fun c t fz he => by cases he))⟩
      have far : ∀ (jump : Option Code) (W3 : World), KeepsN w.heap.size (W.putObj (w.heap.size + 1) (.loop { rec .ready none with state := .busy })) W3 → KeepsN W1.heap.size W (W3.putObj (w.heap.size + 1) (.loop (rec (if jump.isNone then .ready else .done) jump))) := fun jump W3 hk3 =>
        ((KeepsN.put W _ (by omega)).trans (hk3.mono (by omega))).trans (KeepsN.put W3 _ (by omega))
      rintro e a3 W3 hp
      cases e with
      | normal =>
        obtain ⟨hk3, hkp3, hi3⟩ := hp
        obtain ⟨hr, hl3, hl4, hk4⟩ := fin none W3 (hk3.mono (Nat.min_le_left _ _))
        refine ⟨_, _, hr, .inl ⟨rfl, ⟨hI.plain.putObj _ hi3 (by omega) hl3 rfl, hl4, hk4⟩, ?_, ?_⟩⟩
        · have b1 : Below n₀ W (W.putObj (w.heap.size + 1) (.loop { rec .ready none with state := .busy })) := (Below.refl n₀ W).grown (grownBy_putObj' W _ _) (by omega) (fun k e => by cases e; omega)
          exact hbA.trans ((b1.trans hkp3).trans ((Below.refl n₀ W3).grown (grownBy_putObj' W3 _ _) (by have := hk3.size; rw [hsz2] at this; omega) (fun k e => by cases e; omega)))
        · refine (hkA D).trans ⟨?_, fun k o hkD ho hno => ?_⟩
          · have h2 := hk3.size
            rw [hsz2] at h2
            simpa [World.putObj] using h2
          · by_cases hkl : k = w.heap.size + 1
            · subst hkl
              rw [hl] at ho
              injection ho with ho
              subst ho
              exact hl4
            · rw [World.putObj_heap_other (by omega)]
              exact hk3.same k o (by have := Nat.min_le_right w.heap.size D; omega) ((World.putObj_heap_other (by omega)).trans ho) hno
      | ret =>
        obtain ⟨hk3, hi3⟩ := hp
        obtain ⟨hr, hl3, hl4, hk4⟩ := fin (some .ret) W3 hk3
        exact ⟨_, _, hr, .inr ⟨rfl, ⟨.ret, (hIx _).plain.putObj _ hi3 (by omega) hl3 rfl, hl4, hk4⟩, (hkA _).trans (far _ _ hk3)⟩⟩
      | exit id =>
        obtain ⟨hk3, hi3⟩ := hp
        obtain ⟨hr, hl3, hl4, hk4⟩ := fin (some (.exit id)) W3 hk3
        exact ⟨_, _, hr, .inr ⟨rfl, ⟨.exit id, (hIx _).plain.putObj _ hi3 (by omega) hl3 rfl, hl4, hk4⟩, (hkA _).trans (far _ _ hk3)⟩⟩
      | goto t =>
        obtain ⟨hk3, hi3⟩ := hp
        obtain ⟨hr, hl3, hl4, hk4⟩ := fin (some (.goto t)) W3 hk3
        exact ⟨_, _, hr, .inr ⟨rfl, ⟨.goto t, (hIx _).plain.putObj _ hi3 (by omega) hl3 rfl, hl4, hk4⟩, (hkA _).trans (far _ _ hk3)⟩⟩
      | panic ch => exact hp.elim
      | outgrown => exact hp.elim
    · rintro e W2 ⟨⟨v, rfl⟩, (⟨xs, hS, hi, hl, hk⟩ | ⟨pre, hSp, c, hi, hl, hk⟩)⟩
      · exact ⟨none, _, by have := run_endLoop (P := Try.prog) hl (by rw [hrec]; simp); rw [hrec] at this; exact this, hdone _ xs _ (Nat.le_refl _) hS (hI.plain.putObj _ hi (by omega) hl rfl) ((World.putObj_heap_other (by omega)).trans hk)⟩
      · exact ⟨some c, _, by have := run_endLoop (P := Try.prog) hl (by rw [hrec]; simp); rw [hrec] at this; exact this, hstop _ c pre _ (Nat.le_refl _) hSp ((hIx c).plain.putObj _ hi (by omega) hl rfl) ((World.putObj_heap_other (by omega)).trans hk)⟩


end Go.Proofs.Ytcaegpjbdcopoaa
/- A row of steps of the call's own. -/
namespace Go.Proofs.Ytcaegpjbdcopoaa
open Go.RowKit

/-- The cells of steps. -/
def stpCells (ss : List Stp) : List Value := ss.flatMap fun s => [.string s.nm, .string s.ld, .string s.st]
theorem stpCells_app (ss ts : List Stp) : stpCells (ss ++ ts) = stpCells ss ++ stpCells ts := by simp [stpCells]
theorem stpCells_one (s : Stp) : stpCells [s] = [.string s.nm, .string s.ld, .string s.st] := rfl
theorem stpCells_len (ss : List Stp) : (stpCells ss).length = ss.length * 3 := by
  induction ss with
  | nil => rfl
  | cons s l ih => simp only [stpCells, List.flatMap_cons, List.length_append, List.length_cons, List.length_nil] at ih ⊢; omega
theorem stpCells_at {ss : List Stp} {k : Nat} {s : Stp} (h : ss[k]? = some s) : (stpCells ss)[k * 3]? = some (.string s.nm) ∧ (stpCells ss)[k * 3 + 1]? = some (.string s.ld) ∧ (stpCells ss)[k * 3 + 2]? = some (.string s.st) := by
  induction ss generalizing k with
  | nil => simp at h
  | cons x l ih =>
    cases k with
    | zero =>
      simp at h
      subst h
      exact ⟨rfl, rfl, rfl⟩
    | succ k =>
      rw [List.getElem?_cons_succ] at h
      have e : ∀ i, (stpCells (x :: l))[i + 3]? = (stpCells l)[i]? := fun i => by
        show ([Value.string x.nm, .string x.ld, .string x.st] ++ stpCells l)[i + 3]? = _
        rw [List.getElem?_append_right (by simp)]
        simp
      obtain ⟨a, b, c⟩ := ih h
      rw [show (k + 1) * 3 = k * 3 + 3 by omega, show k * 3 + 3 + 1 = k * 3 + 1 + 3 by omega, show k * 3 + 3 + 2 = k * 3 + 2 + 3 by omega, e, e, e]
      exact ⟨a, b, c⟩
theorem stpCells_cell (ss : List Stp) : ∀ u ∈ stpCells ss, u.oneCell' = true := by
  induction ss with
  | nil => intro u hu; cases hu
  | cons x l ih =>
    intro u hu
    have h : u ∈ [Value.string x.nm, .string x.ld, .string x.st] ++ stpCells l := hu
    rcases List.mem_append.1 h with h | h
    · simp at h
      rcases h with rfl | rfl | rfl <;> rfl
    · exact ih u h

def zeroStep : Value := .agg #[.string ByteArray.empty, .string ByteArray.empty, .string ByteArray.empty]
theorem info_step : (Try.prog.info? 35).map (fun i => (i.zero, i.size, i.bytes)) = some (some zeroStep, 3, 48) := by kernel_rfl
theorem info_bool : (Try.prog.info? 4).map (fun i => (i.zero, i.size, i.bytes)) = some (some (.bool false), 1, 1) := by kernel_rfl

/-- Steps in a row of the call's own, not nil. -/
def OwnSteps (w : World) (B g n cap : Nat) (ss : List Stp) : Prop := n = ss.length ∧ w.ownsRow B 35 3 (.slice (some ⟨g, 0, none⟩) n cap) n (stpCells ss)
def OwnBools (w : World) (B g n cap : Nat) (bs : List Bool) : Prop := n = bs.length ∧ w.ownsRow B 4 1 (.slice (some ⟨g, 0, none⟩) n cap) n (bs.map Value.bool)
theorem row_far {w w' : World} {B n g c size : Nat} {e : TypeId} {xs : List Value} (h : w.ownsRow B e size (.slice (some ⟨g, 0, none⟩) n c) n xs) (hk : w'.heap[g]? = w.heap[g]?) : w'.ownsRow B e size (.slice (some ⟨g, 0, none⟩) n c) n xs := by
  refine ⟨h.1, ?_⟩
  rcases h.2 with ⟨h0, _⟩ | ⟨g', cap, cur, hv, hg, hh, r⟩
  · cases h0
  · injection hv with hv1 _ hv3
    injection hv1 with hv1
    injection hv1 with hv1
    subst hv1 hv3
    exact .inr ⟨g, _, cur, rfl, hg, hk.trans hh, r⟩
theorem row_block {w : World} {B n g c size : Nat} {e : TypeId} {xs : List Value} (h : w.ownsRow B e size (.slice (some ⟨g, 0, none⟩) n c) n xs) : B ≤ g ∧ g < w.heap.size ∧ ∃ cur, w.heap[g]? = some (.cells cur e (0, 0)) := by
  rcases h.2 with ⟨h0, _⟩ | ⟨g', cap, cur, hv, hg, hh, r⟩
  · cases h0
  · injection hv with hv1 _ hv3
    injection hv1 with hv1
    injection hv1 with hv1
    subst hv1
    exact ⟨hg, (Array.getElem?_eq_some_iff.1 hh).1, cur, hh⟩
theorem row_base {w : World} {B B' n size : Nat} {e : TypeId} {v : Value} {xs : List Value} (h : w.ownsRow B e size v n xs) (hB : B' ≤ B) : w.ownsRow B' e size v n xs := own_low h hB
theorem OwnSteps.lt {w : World} {B g n c : Nat} {ss : List Stp} (h : OwnSteps w B g n c ss) : B ≤ g ∧ g < w.heap.size := ⟨(row_block h.2).1, (row_block h.2).2.1⟩
theorem OwnBools.lt {w : World} {B g n c : Nat} {bs : List Bool} (h : OwnBools w B g n c bs) : B ≤ g ∧ g < w.heap.size := ⟨(row_block h.2).1, (row_block h.2).2.1⟩
theorem OwnSteps.far {w w' : World} {B g n c : Nat} {ss : List Stp} (h : OwnSteps w B g n c ss) (hk : w'.heap[g]? = w.heap[g]?) : OwnSteps w' B g n c ss := ⟨h.1, row_far h.2 hk⟩
theorem OwnBools.far {w w' : World} {B g n c : Nat} {bs : List Bool} (h : OwnBools w B g n c bs) (hk : w'.heap[g]? = w.heap[g]?) : OwnBools w' B g n c bs := ⟨h.1, row_far h.2 hk⟩
theorem OwnSteps.below {w w' : World} {B g n c : Nat} {ss : List Stp} (h : OwnSteps w B g n c ss) (hb : Below w.heap.size w w') : OwnSteps w' B g n c ss := h.far (hb.block g h.lt.2)
theorem OwnBools.below {w w' : World} {B g n c : Nat} {bs : List Bool} (h : OwnBools w B g n c bs) (hb : Below w.heap.size w w') : OwnBools w' B g n c bs := h.far (hb.block g h.lt.2)
theorem OwnSteps.base {w : World} {B B' g n c : Nat} {ss : List Stp} (h : OwnSteps w B g n c ss) (hB : B' ≤ B) : OwnSteps w B' g n c ss := ⟨h.1, row_base h.2 hB⟩
theorem OwnBools.base {w : World} {B B' g n c : Nat} {bs : List Bool} (h : OwnBools w B g n c bs) (hB : B' ≤ B) : OwnBools w B' g n c bs := ⟨h.1, row_base h.2 hB⟩
theorem steps_bools {w : World} {B B' g g' n c n' c' : Nat} {ss : List Stp} {bs : List Bool} (h : OwnSteps w B g n c ss) (k : OwnBools w B' g' n' c' bs) : g ≠ g' := fun e => by
  obtain ⟨_, _, cur, h1⟩ := row_block h.2
  obtain ⟨_, _, cur', h2⟩ := row_block k.2
  rw [e, h2] at h1
  injection h1 with h1
  injection h1 with _ h1
  exact absurd h1 (by decide)
/-- Another row grows. -/
theorem OwnSteps.beside {w w' : World} {B g n c g' : Nat} {ss : List Stp} (h : OwnSteps w B g n c ss) (hg : w.grownBy w' (some g')) (hne : g ≠ g') : OwnSteps w' B g n c ss := h.far (hg.block g h.lt.2 (fun e => hne (by have := Option.some.inj e; omega)))
theorem OwnBools.beside {w w' : World} {B g n c g' : Nat} {bs : List Bool} (h : OwnBools w B g n c bs) (hg : w.grownBy w' (some g')) (hne : g ≠ g') : OwnBools w' B g n c bs := h.far (hg.block g h.lt.2 (fun e => hne (by have := Option.some.inj e; omega)))
theorem OwnSteps.empty (w : World) {B : Nat} (hB : B ≤ w.heap.size) : OwnSteps (w.alloc (.cells #[] 35)) B w.heap.size 0 0 [] := ⟨rfl, World.ownsRow_lit (base := B) (e := 35) (size := 3) w #[] 0 hB (by simp [maxLen]) rfl⟩
theorem OwnBools.empty (w : World) {B : Nat} (hB : B ≤ w.heap.size) : OwnBools (w.alloc (.cells #[] 4)) B w.heap.size 0 0 [] := ⟨rfl, World.ownsRow_lit (base := B) (e := 4) (size := 1) w #[] 0 hB (by simp [maxLen]) rfl⟩
theorem OwnSteps.one (w : World) {B : Nat} (hB : B ≤ w.heap.size) (s : Stp) : OwnSteps (w.alloc (.cells #[.string s.nm, .string s.ld, .string s.st] 35)) B w.heap.size 1 1 [s] := ⟨rfl, World.ownsRow_lit (base := B) (e := 35) (size := 3) w #[.string s.nm, .string s.ld, .string s.st] 1 hB (by simp [maxLen]) rfl⟩
theorem OwnBools.one (w : World) {B : Nat} (hB : B ≤ w.heap.size) (b : Bool) : OwnBools (w.alloc (.cells #[.bool b] 4)) B w.heap.size 1 1 [b] := ⟨rfl, World.ownsRow_lit (base := B) (e := 4) (size := 1) w #[.bool b] 1 hB (by simp [maxLen]) rfl⟩
theorem OwnSteps.cell {w : World} {B g n c : Nat} {ss : List Stp} (h : OwnSteps w B g n c ss) {k : Nat} {s : Stp} (hk : ss[k]? = some s) : w.cell? ⟨g, k * 3, none⟩ = some (.string s.nm) ∧ w.cell? ⟨g, k * 3 + 1, none⟩ = some (.string s.ld) ∧ w.cell? ⟨g, k * 3 + 2, none⟩ = some (.string s.st) := by
  have hlt := (List.getElem?_eq_some_iff.1 hk).1
  have hz := h.1
  obtain ⟨a, b, c⟩ := stpCells_at hk
  have ha : ∀ j, j < ss.length * 3 → w.cell? ⟨g, j, none⟩ = (stpCells ss)[j]? := fun j hj => World.ownsRow.cellAt h.2 j (by omega)
  exact ⟨(ha _ (by omega)).trans a, (ha _ (by omega)).trans b, (ha _ (by omega)).trans c⟩
theorem OwnBools.cell {w : World} {B g n c : Nat} {bs : List Bool} (h : OwnBools w B g n c bs) {k : Nat} {b : Bool} (hk : bs[k]? = some b) : w.cell? ⟨g, k, none⟩ = some (.bool b) := by
  have hlt := (List.getElem?_eq_some_iff.1 hk).1
  have hz := h.1
  have ha := World.ownsRow.cellAt h.2 k (by omega)
  rw [ha, List.getElem?_map, hk]
  rfl
theorem OwnSteps.news {w : World} {B g n c : Nat} {ss : List Stp} (h : OwnSteps w B g n c ss) : ∀ j u, (stpCells ss)[j]? = some u → w.cell? ((⟨g, 0, none⟩ : Addr).add j) = some u := fun j u hj => by
  have hlt := (List.getElem?_eq_some_iff.1 hj).1
  rw [stpCells_len] at hlt
  have hz := h.1
  have := World.ownsRow.cellAt h.2 j (by omega)
  rw [← hj, ← this]
  simp only [Addr.add]
  split <;> simp_all
theorem OwnBools.news {w : World} {B g n c : Nat} {bs : List Bool} (h : OwnBools w B g n c bs) : ∀ j u, (bs.map Value.bool)[j]? = some u → w.cell? ((⟨g, 0, none⟩ : Addr).add j) = some u := fun j u hj => by
  have hlt := (List.getElem?_eq_some_iff.1 hj).1
  rw [List.length_map] at hlt
  have hz := h.1
  have := World.ownsRow.cellAt h.2 j (by omega)
  rw [← hj, ← this]
  simp only [Addr.add]
  split <;> simp_all
theorem OwnSteps.free {w : World} {B g n c : Nat} {ss : List Stp} (h : OwnSteps w B g n c ss) (j : Nat) : w.frozen? ⟨g, j, none⟩ = false := by
  obtain ⟨_, _, cur, h1⟩ := row_block h.2
  exact Row.free (h1 : Row w g _ cur) j

theorem wpList_append_stp {ops : Array Oper} {rest : List Oper} {o : Oper} {a : Act} {Q : Exit → Act → World → Prop} {w : World} (hgd : o.guard = none) (s x : Operand)
    (ho : o.op = .call { callee := .builtin .append, args := #[s, x], argTypes := #[26, 26] })
    (B g n cap : Nat) (ss : List Stp) (hs : a.eval s = .slice (some ⟨g, 0, none⟩) n cap) (hown : OwnSteps w B g n cap ss)
    (ad : Addr) (m c : Nat) (ts : List Stp) (hx : a.eval x = .slice (some ad) m c) (hm : m = ts.length) (hnews : ∀ j u, (stpCells ts)[j]? = some u → w.cell? (ad.add j) = some u)
    (hle : n + m ≤ 1000) (hB : B ≤ w.heap.size)
    (h : ∀ g' cap' w', OwnSteps w' B g' (n + m) cap' (ss ++ ts) → w.grownBy w' (some g) → wpList Try.prog ops Q rest (a.put o.dst (.slice (some ⟨g', 0, none⟩) (n + m) cap')) w') :
    wpList Try.prog ops Q (o :: rest) a w := by
  obtain ⟨i0, hi, hz0, hz1, hz2⟩ := info_parts info_step
  refine wpList_append_own_at _ hgd s x 26 ho B 35 i0 zeroStep 3 48 Try.underlying26 hi hz0 hz1 hz2 rfl (by decide) _ n (stpCells ss) hs hown.2 ad m c (stpCells ts) hx (by rw [stpCells_len, hm]) hnews (stpCells_cell ts) (by unfold maxLen; omega) (by omega) hB ?_
  intro v' w' h1 h2 h3 h4
  rcases h1.2 with ⟨h0, _⟩ | ⟨g', cap', cur, rfl, r⟩
  · have := (h3.1 h0).1
    cases this
  · exact h g' cap' w' ⟨by rw [List.length_append, hown.1, hm], by rw [stpCells_app]; exact h1⟩ h2
theorem wpList_append_bool {ops : Array Oper} {rest : List Oper} {o : Oper} {a : Act} {Q : Exit → Act → World → Prop} {w : World} (hgd : o.guard = none) (s x : Operand)
    (ho : o.op = .call { callee := .builtin .append, args := #[s, x], argTypes := #[59, 59] })
    (B g n cap : Nat) (ss : List Bool) (hs : a.eval s = .slice (some ⟨g, 0, none⟩) n cap) (hown : OwnBools w B g n cap ss)
    (ad : Addr) (m c : Nat) (ts : List Bool) (hx : a.eval x = .slice (some ad) m c) (hm : m = ts.length) (hnews : ∀ j u, (ts.map Value.bool)[j]? = some u → w.cell? (ad.add j) = some u)
    (hle : n + m ≤ 1000) (hB : B ≤ w.heap.size)
    (h : ∀ g' cap' w', OwnBools w' B g' (n + m) cap' (ss ++ ts) → w.grownBy w' (some g) → wpList Try.prog ops Q rest (a.put o.dst (.slice (some ⟨g', 0, none⟩) (n + m) cap')) w') :
    wpList Try.prog ops Q (o :: rest) a w := by
  obtain ⟨i0, hi, hz0, hz1, hz2⟩ := info_parts info_bool
  refine wpList_append_own_at _ hgd s x 59 ho B 4 i0 (.bool false) 1 1 Try.underlying59 hi hz0 hz1 hz2 rfl (by decide) _ n (ss.map Value.bool) hs hown.2 ad m c (ts.map Value.bool) hx (by rw [List.length_map, hm, Nat.mul_one]) hnews (by intro u hu; obtain ⟨b, _, rfl⟩ := List.mem_map.1 hu; rfl) (by unfold maxLen; omega) (by omega) hB ?_
  intro v' w' h1 h2 h3 h4
  rcases h1.2 with ⟨h0, _⟩ | ⟨g', cap', cur, rfl, r⟩
  · have := (h3.1 h0).1
    cases this
  · exact h g' cap' w' ⟨by rw [List.length_append, hown.1, hm], by rw [List.map_append]; exact h1⟩ h2

end Go.Proofs.Ytcaegpjbdcopoaa
