/- Joined: Rf Pp Fy Fz Ao. -/
import Derived.Test.YtifkmehnikfihaaU14
import Derived.Test.YtifkmehnikfihaaU15
import Derived.Test.YtifkmehnikfihaaU13
import Derived.Maps.OwnIn
import Derived.Maps.AppendAt
import Derived.Deep.AppendLies
/- A range over a function whose iterator may itself range over a function: what a round keeps is said of blocks, not of cells alone. -/
namespace Go.Proofs.Ytifkmehnikfihaa
open Go.RowKit Go.Shelf

/-- What a round may not write: all but rows of bytes and rows of two cells or more (states of loading are kept). -/
def Firm (o : Obj) : Prop := ∀ c t fz, o = .cells c t fz → t ≠ 5 ∧ (c.size ≤ 1 ∨ t = 999999)

/-- All from block 'B' on that is firm lies as it lay. -/
structure KeepsN (B : Nat) (W W' : World) : Prop where
  size : W.heap.size ≤ W'.heap.size
  same : ∀ (k : Nat) (o : Obj), B ≤ k → W.heap[k]? = some o → Firm o → W'.heap[k]? = some o
theorem KeepsN.refl (B : Nat) (W : World) : KeepsN B W W := ⟨Nat.le_refl _, fun _ _ _ h _ => h⟩
theorem KeepsN.trans {B : Nat} {X Y Z : World} (h : KeepsN B X Y) (k : KeepsN B Y Z) : KeepsN B X Z := ⟨Nat.le_trans h.size k.size, fun i o hB hi ho => k.same i o hB (h.same i o hB hi ho) ho⟩
theorem KeepsN.mono {B B' : Nat} {X Y : World} (h : KeepsN B X Y) (hB : B ≤ B') : KeepsN B' X Y := ⟨h.size, fun i o hi ho hn => h.same i o (by omega) ho hn⟩
theorem KeepsN.put {B l : Nat} (W : World) (o : Obj) (hl : l < B) : KeepsN B W (W.putObj l o) := by
  have hg := grownBy_putObj' W l o
  exact ⟨hg.size, fun k o' hk ho _ => (hg.block k (Array.getElem?_eq_some_iff.1 ho).1 (fun he => by injection he with he; omega)).trans ho⟩
theorem KeepsN.alloc (B : Nat) (W : World) (o : Obj) : KeepsN B W (W.alloc o) :=
  ⟨by simp, fun k o' _ ho _ => (Below.heap_alloc W o k (Array.getElem?_eq_some_iff.1 ho).1).trans ho⟩

/-- An iterator's contract: the rounds that go on keep all from 'D' on (and what lies below 'n₀'), a round that says 'no more' keeps what the iterator itself has laid. -/
def SeqR {α : Type} (n : Nat) (g : Nat) (lb : Array Value) (encs : α → Array Value) (n₀ D : Nat) (S Sp : List α → Prop) (N : Nat) (w : World) : Prop :=
  ∀ (l : Nat) (J Jx : List α → World → Prop) (W : World), Below w.heap.size w W → D ≤ W.heap.size → OwnFrom W.heap.size J → OwnFrom W.heap.size Jx →
    (∀ pre x W1, J pre W1 → pre.length < N → W.heap.size ≤ W1.heap.size → YieldAt Fence.wide (n - 1) Try.prog l (encs x) W1 fun e W' =>
      (e = .returned (.bool true) ∧ J (pre ++ [x]) W' ∧ Below n₀ W1 W' ∧ KeepsN D W1 W') ∨ (e = .returned (.bool false) ∧ Jx (pre ++ [x]) W' ∧ KeepsN W.heap.size W1 W')) →
    J [] W →
    CallsIn Fence.wide n Try.prog g (#[.func (.yield l) #[] #[]] ++ lb) W fun e W' => (∃ v, e = .returned v) ∧ ((∃ xs, S xs ∧ J xs W') ∨ (∃ pre, Sp pre ∧ Jx pre W'))

/-- How the body of a round may be left. -/
def ownPostR {α : Type} (B n₀ D : Nat) (I : List α → World → Prop) (Ix : Code → List α → World → Prop) (xs : List α) (W : World) : Exit → Act → World → Prop
  | .normal, _, W' => KeepsN (min B D) W W' ∧ Below n₀ W W' ∧ I xs W'
  | .ret, _, W' => KeepsN B W W' ∧ Ix .ret xs W'
  | .exit id, _, W' => KeepsN B W W' ∧ Ix (.exit id) xs W'
  | .goto t, _, W' => KeepsN B W W' ∧ Ix (.goto t) xs W'
  | .panic _, _, _ => False
  | .outgrown, _, _ => False

theorem wpIn_rangeFunc_R {α : Type} {n : Nat} {g : Operand} {ps : Array Tmp} {assign body : Code} {Q : Exit → Act → World → Prop} {a : Act} {w : World}
    (h1 : 1 ≤ n) {gf : Nat} {lb : Array Value} (hg : a.eval g = .func (.func gf) #[] lb) (eg : ∀ args w, (callFunc gf args).run Try.prog w = .ok (.enter gf args) w)
    {encs : α → Array Value} {n₀ D : Nat} {S Sp : List α → Prop} {N : Nat} {w0 : World} (hseq : SeqR (n - 1) gf lb encs n₀ D S Sp N w0)
    (hD : D ≤ w.heap.size + 2) (hn₀ : n₀ ≤ w.heap.size) (hb0 : Below w0.heap.size w0 w) (hps : ∀ x, (encs x).size = ps.size)
    (I : List α → World → Prop) (Ix : Code → List α → World → Prop) (hI : OwnFrom w.heap.size I) (hIx : ∀ c, OwnFrom w.heap.size (Ix c)) (h0 : I [] w) (a₁ : α → Act)
    (hassign : ∀ (l : Nat) (x : α) (W : World) (K : Act → World → Prop), K (a₁ x) W →
      assign.wpIn (Fence.wide.inRound l) (n - 1 - 1) Try.prog (Exit.then K (fun _ _ _ => False)) { tmps := (ps.zip (encs x)).foldl (fun t (p, v) => t.setIfInBounds p v) a.tmps, defers := [] } W)
    (hbody : ∀ (l : Nat) (pre : List α) (x : α) (W : World), I pre W → pre.length < N → w.heap.size + 2 ≤ W.heap.size → body.wpIn (Fence.wide.inRound l) (n - 1 - 1) Try.prog (ownPostR w.heap.size n₀ D I Ix (pre ++ [x]) W) (a₁ x) W)
    (hdone : ∀ (L : Nat) (xs : List α) (W : World), w.heap.size ≤ L → S xs → I xs W → W.heap[L]? = some (.deferred (some [])) → Q .normal { a with defers := { target := .collected L, args := #[] } :: a.defers } W)
    (hstop : ∀ (L : Nat) (c : Code) (pre : List α) (W : World), w.heap.size ≤ L → Sp pre → Ix c pre W → W.heap[L]? = some (.deferred (some [])) → c.wpIn Fence.wide n Try.prog Q { a with defers := { target := .collected L, args := #[] } :: a.defers } W) :
    (Code.rangeFunc g ps assign body).wpIn Fence.wide n Try.prog Q a w := by
  refine wpIn_rangeFunc ?_
  intro fn hfn
  rw [show Fence.wide.round = none from rfl]
  obtain ⟨rec, hrec⟩ : ∃ rec : LoopState → Option Code → Loop, rec = fun st pe => { state := st, pending := pe, fn, tmps := a.tmps, params := ps, assign, body, defers := w.heap.size } := ⟨_, rfl⟩
  obtain ⟨W1, hW1⟩ : ∃ W1, (w.alloc (.deferred (some []))).alloc (.loop (rec .ready none)) = W1 := ⟨_, rfl⟩
  have hz1 : W1.heap.size = w.heap.size + 2 := by rw [← hW1]; simp
  have hL1 : W1.heap[w.heap.size + 1]? = some (.loop (rec .ready none)) := by
    rw [← hW1]; have := World.alloc_heap_new (w.alloc (.deferred (some []))) (.loop (rec .ready none)); rwa [World.size_alloc] at this
  have hK1 : W1.heap[w.heap.size]? = some (.deferred (some [])) := by
    rw [← hW1]; exact (Below.heap_alloc _ _ _ (by simp)).trans (World.alloc_heap_new w _)
  have hI1 : I [] W1 := by rw [← hW1]; exact hI.alloc _ (hI.alloc _ h0)
  have hb1 : Below w0.heap.size w0 W1 := by
    rw [← hW1]; exact hb0.trans ((((Below.refl _ w).alloc (Nat.le_refl _) _).alloc (by simp) _).mono hb0.size)
  refine ⟨w.heap.size + 1, [{ target := .collected w.heap.size, args := #[] }], W1, { target := .fn (.func gf) lb, args := #[.func (.yield (w.heap.size + 1)) #[] #[]] }, W1, gf,
    #[.func (.yield (w.heap.size + 1)) #[] #[]] ++ lb, W1, ?_, ?_, ?_, ?_, fun _ => h1, ?_⟩
  · rw [← hW1, hrec]; exact run_enterLoop_outer _ _ _ _ _
  · simp only [resolve, hg]
    simp [go_sem]
  · intro f' hf'; simp [Target.leads] at hf'; subst hf'; exact trivial
  · simp [invoke, go_sem, eg]
  · have hrow : ∀ {A B : World} {row : Option Nat}, (∀ r, row = some r → W1.heap.size ≤ r ∧ ∃ o : Obj, A.heap[r]? = some o ∧ o.isCells = false) → A.grownBy B row → ∀ (k : Nat) (o : Obj), k < W1.heap.size → A.heap[k]? = some o → B.heap[k]? = some o :=
      fun hr hg' k o hk ho => (hg'.block k (Array.getElem?_eq_some_iff.1 ho).1 (fun he => by have := (hr k he.symm).1; omega)).trans ho
    have hlow : ∀ {A : World} {row : Option Nat}, (∀ r, row = some r → W1.heap.size ≤ r ∧ ∃ o : Obj, A.heap[r]? = some o ∧ o.isCells = false) → (∀ r, row = some r → w.heap.size ≤ r ∧ ∃ o : Obj, A.heap[r]? = some o ∧ o.isCells = false) :=
      fun hr r e => ⟨by have := (hr r e).1; omega, (hr r e).2⟩
    refine (hseq (w.heap.size + 1)
      (fun pre W => I pre W ∧ W.heap[w.heap.size + 1]? = some (.loop (rec .ready none)) ∧ W.heap[w.heap.size]? = some (.deferred (some [])))
      (fun pre W => ∃ c, Ix c pre W ∧ W.heap[w.heap.size + 1]? = some (.loop (rec .done (some c))) ∧ W.heap[w.heap.size]? = some (.deferred (some [])))
      W1 hb1 (by omega)
      (fun s A B row hs hg' hr => ⟨hI s A B row hs.1 hg' (hlow hr), hrow hr hg' _ _ (by omega) hs.2.1, hrow hr hg' _ _ (by omega) hs.2.2⟩)
      (fun s A B row hs hg' hr => by
        obtain ⟨c, hc, hl, hk⟩ := hs
        exact ⟨c, hIx c s A B row hc hg' (hlow hr), hrow hr hg' _ _ (by omega) hl, hrow hr hg' _ _ (by omega) hk⟩)
      ?_ ⟨hI1, hL1, hK1⟩).mono ?_
    · rintro pre x W ⟨hi, hl, hk⟩ hlen hWz
      have hlt : w.heap.size + 1 < W.heap.size := (Array.getElem?_eq_some_iff.1 hl).1
      have hy := run_yield (P := Try.prog) (args := encs x) hl (by rw [hrec]; exact hps x)
      rw [hrec] at hy
      refine ⟨fn, _, assign, body, hy, roundIn_of_wpIn hfn (hassign _ x W _ ⟨_, run_beginRound hl (by rw [hrec]), ?_⟩)⟩
      have hl2 : (W.putObj (w.heap.size + 1) (.loop { rec .ready none with state := .busy })).heap[w.heap.size + 1]? = some (.loop { rec .ready none with state := .busy }) := World.putObj_heap_same hlt
      have hk2 : (W.putObj (w.heap.size + 1) (.loop { rec .ready none with state := .busy })).heap[w.heap.size]? = some (.deferred (some [])) := (World.putObj_heap_other (by omega)).trans hk
      have hsz2 : (W.putObj (w.heap.size + 1) (.loop { rec .ready none with state := .busy })).heap.size = W.heap.size := by simp [World.putObj]
      refine wpIn_mono (hbody _ pre x _ (hI.putObj _ hi (by omega) hl rfl) hlen (by rw [hsz2]; omega)) ?_
      have fin : ∀ (jump : Option Code) (W3 : World), KeepsN w.heap.size (W.putObj (w.heap.size + 1) (.loop { rec .ready none with state := .busy })) W3 →
          (Instr.endRound (w.heap.size + 1) jump).run Try.prog W3 = .ok (.bool jump.isNone) (W3.putObj (w.heap.size + 1) (.loop (rec (if jump.isNone then .ready else .done) jump))) ∧
          W3.heap[w.heap.size + 1]? = some (.loop { rec .ready none with state := .busy }) ∧
          (W3.putObj (w.heap.size + 1) (.loop (rec (if jump.isNone then .ready else .done) jump))).heap[w.heap.size + 1]? = some (.loop (rec (if jump.isNone then .ready else .done) jump)) ∧
          (W3.putObj (w.heap.size + 1) (.loop (rec (if jump.isNone then .ready else .done) jump))).heap[w.heap.size]? = some (.deferred (some [])) := fun jump W3 hk3 => by
        have hl3 := hk3.same _ _ (by omega) hl2 (fun c t fz he => by cases he)
        have := run_endRound (P := Try.prog) jump hl3
        rw [hrec] at this ⊢
        exact ⟨this, by rw [hrec] at hl3; exact hl3, World.putObj_heap_same (Array.getElem?_eq_some_iff.1 hl3).1, (World.putObj_heap_other (by omega)).trans (hk3.same _ _ (Nat.le_refl _) hk2 (fun c t fz he => by cases he))⟩
      have far : ∀ (jump : Option Code) (W3 : World), KeepsN w.heap.size (W.putObj (w.heap.size + 1) (.loop { rec .ready none with state := .busy })) W3 → KeepsN W1.heap.size W (W3.putObj (w.heap.size + 1) (.loop (rec (if jump.isNone then .ready else .done) jump))) := fun jump W3 hk3 =>
        ((KeepsN.put W _ (by omega)).trans (hk3.mono (by omega))).trans (KeepsN.put W3 _ (by omega))
      rintro e a3 W3 hp
      cases e with
      | normal =>
        obtain ⟨hk3, hkp3, hi3⟩ := hp
        obtain ⟨hr, hl3, hl4, hk4⟩ := fin none W3 (hk3.mono (Nat.min_le_left _ _))
        refine ⟨_, _, hr, .inl ⟨rfl, ⟨hI.putObj _ hi3 (by omega) hl3 rfl, hl4, hk4⟩, ?_, ?_⟩⟩
        · have b1 : Below n₀ W (W.putObj (w.heap.size + 1) (.loop { rec .ready none with state := .busy })) := (Below.refl n₀ W).grown (grownBy_putObj' W _ _) (by omega) (fun k e => by cases e; omega)
          exact (b1.trans hkp3).trans ((Below.refl n₀ W3).grown (grownBy_putObj' W3 _ _) (by have := hk3.size; rw [hsz2] at this; omega) (fun k e => by cases e; omega))
        · refine ⟨?_, fun k o hkD ho hno => ?_⟩
          · have h2 := hk3.size
            rw [hsz2] at h2
            simpa [World.putObj] using h2
          · by_cases hkl : k = w.heap.size + 1
            · subst hkl
              rw [hl] at ho
              injection ho with ho
              subst ho
              exact hl4
            · rw [World.putObj_heap_other (by omega)]
              exact hk3.same k o (by have := Nat.min_le_right w.heap.size D; omega) ((World.putObj_heap_other (by omega)).trans ho) hno
      | ret =>
        obtain ⟨hk3, hi3⟩ := hp
        obtain ⟨hr, hl3, hl4, hk4⟩ := fin (some .ret) W3 hk3
        exact ⟨_, _, hr, .inr ⟨rfl, ⟨.ret, (hIx _).putObj _ hi3 (by omega) hl3 rfl, hl4, hk4⟩, far _ _ hk3⟩⟩
      | exit id =>
        obtain ⟨hk3, hi3⟩ := hp
        obtain ⟨hr, hl3, hl4, hk4⟩ := fin (some (.exit id)) W3 hk3
        exact ⟨_, _, hr, .inr ⟨rfl, ⟨.exit id, (hIx _).putObj _ hi3 (by omega) hl3 rfl, hl4, hk4⟩, far _ _ hk3⟩⟩
      | goto t =>
        obtain ⟨hk3, hi3⟩ := hp
        obtain ⟨hr, hl3, hl4, hk4⟩ := fin (some (.goto t)) W3 hk3
        exact ⟨_, _, hr, .inr ⟨rfl, ⟨.goto t, (hIx _).putObj _ hi3 (by omega) hl3 rfl, hl4, hk4⟩, far _ _ hk3⟩⟩
      | panic ch => exact hp.elim
      | outgrown => exact hp.elim
    · rintro e W2 ⟨⟨v, rfl⟩, (⟨xs, hS, hi, hl, hk⟩ | ⟨pre, hSp, c, hi, hl, hk⟩)⟩
      · exact ⟨none, _, by have := run_endLoop (P := Try.prog) hl (by rw [hrec]; simp); rw [hrec] at this; exact this, hdone _ xs _ (Nat.le_refl _) hS (hI.putObj _ hi (by omega) hl rfl) ((World.putObj_heap_other (by omega)).trans hk)⟩
      · exact ⟨some c, _, by have := run_endLoop (P := Try.prog) hl (by rw [hrec]; simp); rw [hrec] at this; exact this, hstop _ c pre _ (Nat.le_refl _) hSp ((hIx c).putObj _ hi (by omega) hl rfl) ((World.putObj_heap_other (by omega)).trans hk)⟩

end Go.Proofs.Ytifkmehnikfihaa
/- The path of a node, yielded by an iterator that calls itself. -/
namespace Go.Proofs.Ytifkmehnikfihaa
open Go.RowKit Go.Shelf
attribute [local go_sem] Oper.semAt_some

theorem yield_any {m : Nat} (m' : Nat) {P : Program} {l : Nat} {args : Array Value} {W : World} {R : Ending → World → Prop} (h : YieldAt Fence.wide m P l args W R) : YieldAt Fence.wide m' P l args W R := by
  obtain ⟨fn, tmps, assign, body, hy, hR⟩ := h
  exact ⟨fn, tmps, assign, body, hy, ⟨hR.1, fun c cs _ => hR.2 c cs (fun d h => by simp [Fence.wide] at h)⟩⟩

/-- From the root down to a segment, by index. -/
def rootPath (l : List Seg) : Nat → Nat → List Nat
  | 0, _ => []
  | f + 1, i => (if parAt l i < 0 then [] else rootPath l f (parAt l i).toNat) ++ [i]
theorem rootPath_len (l : List Seg) : ∀ f i, (rootPath l f i).length ≤ f
  | 0, _ => Nat.le_refl 0
  | f + 1, i => by
    unfold rootPath
    have := rootPath_len l f (parAt l i).toNat
    split <;> simp <;> omega
theorem rootPath_lt {l : List Seg} (hd : Down l l.length) : ∀ f i, i < l.length → ∀ j ∈ rootPath l f i, j < l.length
  | 0, _, _, j, hj => by simp [rootPath] at hj
  | f + 1, i, hi, j, hj => by
    unfold rootPath at hj
    have h1 := hd i hi
    rcases List.mem_append.1 hj with h | h
    · split at h
      · simp at h
      · exact rootPath_lt hd f _ (by omega) j h
    · simp at h; omega
theorem rootPath_chain {l : List Seg} (hd : Down l l.length) : ∀ f i, i < l.length → i < f → (chain l f (i : Int)).reverse = (rootPath l f i).map (fun j : Nat => (j : Int))
  | 0, i, _, h => absurd h (by omega)
  | f + 1, i, hi, hf => by
    have h1 := hd i hi
    unfold chain rootPath
    rw [if_neg (by omega), Int.toNat_natCast, List.reverse_cons, List.map_append]
    congr 1
    by_cases hp : parAt l i < 0
    · rw [if_pos hp]
      cases f with
      | zero => rfl
      | succ f => simp [chain, hp]
    · rw [if_neg hp, ← rootPath_chain hd f _ (by omega) (by omega), Int.toNat_of_nonneg (by omega)]

/-- What an iterator reads of the nodes. -/
def Linked (w : World) (n₀ : Nat) (l : List Seg) (nb : Nat → Nat) : Prop := ∀ j, j < l.length → nb j < n₀ ∧ w.cell? ⟨nb j, 2, none⟩ = some (.pointer (parPtr l nb j))
theorem Linked.below {w w' : World} {n₀ : Nat} {l : List Seg} {nb : Nat → Nat} (h : Linked w n₀ l nb) (hb : Below n₀ w w') : Linked w' n₀ l nb := fun j hj => ⟨(h j hj).1, (hb.cell (p := ⟨nb j, 2, none⟩) (h j hj).1).trans (h j hj).2⟩
/-- A box of one cell, kept by every round that goes on. -/
def BoxAt (W : World) (n₀ D Bs : Nat) (v : Value) (t : TypeId) : Prop := (Bs < n₀ ∨ D ≤ Bs) ∧ t ≠ 5 ∧ W.heap[Bs]? = some (.cells #[v] t (0, 0))
theorem BoxAt.cell {W : World} {n₀ D Bs : Nat} {v : Value} {t : TypeId} (h : BoxAt W n₀ D Bs v t) : W.cell? ⟨Bs, 0, none⟩ = some v := Row.cell (h.2.2 : Row W Bs t #[v]) 0
theorem BoxAt.keep {W W' : World} {n₀ D Bs : Nat} {v : Value} {t : TypeId} (h : BoxAt W n₀ D Bs v t) (hb : Below n₀ W W') (hk : KeepsN D W W') : BoxAt W' n₀ D Bs v t := by
  obtain ⟨h1, h2, h3⟩ := h
  refine ⟨h1, h2, ?_⟩
  rcases h1 with h1 | h1
  · exact (hb.block Bs h1).trans h3
  · exact hk.same Bs _ h1 h3 (fun c t' fz he => by injection he with hc ht; subst hc; subst ht; exact ⟨h2, .inl (Nat.le_refl 1)⟩)
theorem BoxAt.grown {W W' : World} {n₀ D Bs : Nat} {v : Value} {t : TypeId} (h : BoxAt W n₀ D Bs v t) {row : Option Nat} (hg : W.grownBy W' row) (hr : ∀ r, row = some r → ∃ o : Obj, W.heap[r]? = some o ∧ o.isCells = false) : BoxAt W' n₀ D Bs v t :=
  ⟨h.1, h.2.1, (hg.block Bs (Array.getElem?_eq_some_iff.1 h.2.2).1 (fun he => by
    obtain ⟨o, ho, hc⟩ := hr Bs he.symm
    rw [h.2.2] at ho
    injection ho with ho
    subst ho
    cases hc)).trans h.2.2⟩

end Go.Proofs.Ytifkmehnikfihaa
/- The program's chains: an iterator that calls itself. -/
namespace Go.Proofs.Ytifkmehnikfihaa
open Go.RowKit Go.Shelf
attribute [local go_sem] Oper.semAt_some

theorem grown_of_below {X Y : World} (h : Below X.heap.size X Y) : X.grownBy Y none := ⟨h.os, h.tape, h.output, h.size, fun k hk _ => h.block k hk⟩
/-- Blocks for deferred calls, all empty: each loop over an iterator leaves one. -/
def MarksIn (lo hi : Nat) (W : World) (Ls : List Nat) : Prop := Ls.Nodup ∧ ∀ L ∈ Ls, lo ≤ L ∧ L < hi ∧ W.heap[L]? = some (.deferred (some []))
def marksOf (Ls : List Nat) : List Deferred := Ls.map fun L => { target := .collected L, args := #[] }
theorem MarksIn.nil (lo hi : Nat) (W : World) : MarksIn lo hi W [] := ⟨List.nodup_nil, fun L h => by cases h⟩
theorem MarksIn.keep {lo hi D : Nat} {W W' : World} {Ls : List Nat} (h : MarksIn lo hi W Ls) (hk : KeepsN D W W') (hD : D ≤ lo) : MarksIn lo hi W' Ls :=
  ⟨h.1, fun L hL => ⟨(h.2 L hL).1, (h.2 L hL).2.1, hk.same L _ (Nat.le_trans hD (h.2 L hL).1) (h.2 L hL).2.2 (fun c t fz he => by cases he)⟩⟩
theorem MarksIn.up {lo hi hi' : Nat} {W : World} {Ls : List Nat} (h : MarksIn lo hi W Ls) (hh : hi ≤ hi') : MarksIn lo hi' W Ls := ⟨h.1, fun L hL => ⟨(h.2 L hL).1, by have := (h.2 L hL).2.1; omega, (h.2 L hL).2.2⟩⟩
theorem MarksIn.grown {lo hi B : Nat} {W W' : World} {Ls : List Nat} {row : Option Nat} (h : MarksIn lo hi W Ls) (hg : W.grownBy W' row) (hr : ∀ r, row = some r → B ≤ r) (hB : hi ≤ B) : MarksIn lo hi W' Ls :=
  ⟨h.1, fun L hL => ⟨(h.2 L hL).1, (h.2 L hL).2.1, (hg.block L (Array.getElem?_eq_some_iff.1 (h.2 L hL).2.2).1 (fun e => by have := hr L e.symm; have := (h.2 L hL).2.1; omega)).trans (h.2 L hL).2.2⟩⟩
theorem MarksIn.cons {lo hi L : Nat} {W : World} {Ls : List Nat} (h : MarksIn lo hi W Ls) (h1 : hi ≤ L) (h2 : lo ≤ L) (h3 : W.heap[L]? = some (.deferred (some []))) : MarksIn lo (L + 1) W (L :: Ls) :=
  ⟨List.nodup_cons.2 ⟨fun hm => by have := (h.2 L hm).2.1; omega, h.1⟩, fun M hM => by
    rcases List.mem_cons.1 hM with rfl | hM
    · exact ⟨h2, by omega, h3⟩
    · exact ⟨(h.2 M hM).1, by have := (h.2 M hM).2.1; omega, (h.2 M hM).2.2⟩⟩
/-- A function whose frame holds marks alone leaves. -/
theorem marks_leave {F : Fence} {n : Nat} {P : Program} {fn : Func} {tmps : Array Value} {R : Ending → World → Prop} {lo hi : Nat} {I : World → Prop} (hI : ∀ (W : World) (L : Nat), I W → lo ≤ L → W.heap[L]? = some (.deferred (some [])) → I (W.putObj L (.deferred none)))
    (hres : fn.results = #[]) (hR : ∀ W, I W → R (.returned (.tuple #[])) W) : ∀ (Ls : List Nat) (W : World), MarksIn lo hi W Ls → I W → LeavesInM F n P fn tmps R (marksOf Ls) .returning W
  | [], W, _, h => ⟨_, results_none hres _ _ _, hR W h⟩
  | L :: Ls, W, hm, h => by
    have hL := hm.2 L (by simp)
    refine ⟨by simp, .inl ⟨L, _, rfl, run_takeDeferred hL.2.2, ?_⟩⟩
    refine marks_leave (hi := hi) hI hres hR Ls _ ⟨(List.nodup_cons.1 hm.1).2, fun M hM => ?_⟩ (hI W L h hL.1 hL.2.2)
    have hM' := hm.2 M (by simp [hM])
    refine ⟨hM'.1, hM'.2.1, ?_⟩
    rw [World.putObj_heap_other (fun e => (List.nodup_cons.1 hm.1).1 (by subst e; exact hM))]
    exact hM'.2.2

/-- What holds at the head of a round of the iterator. -/
structure ChHead (W : World) (n₀ D : Nat) (f : Forest) (a : List UInt8) (A : Option Addr) (cap Bc Bs l' : Nat) (J : List (List UInt8) → World → Prop) (pre rest : Forest) (Ls : List Nat) (W' : World) : Prop where
  left : LeftC W' n₀ f A pre rest
  come : J (chainsB a pre) W'
  low : Below n₀ W W'
  size : W.heap.size + 1 ≤ W'.heap.size
  boxY : BoxAt W' n₀ D W.heap.size (.func (.yield l') #[] #[]) 110
  boxC : BoxAt W' n₀ D Bc (.slice A f.len cap) 48
  boxS : BoxAt W' n₀ D Bs (.string (strOf a)) 9
  marks : MarksIn W.heap.size W'.heap.size W' Ls
/-- Later, with nothing old written. -/
theorem ChHead.later {W : World} {n₀ D : Nat} {f : Forest} {a : List UInt8} {A : Option Addr} {cap Bc Bs l' : Nat} {J : List (List UInt8) → World → Prop} {pre rest : Forest} {Ls : List Nat} {W1 W2 : World} (h : ChHead W n₀ D f a A cap Bc Bs l' J pre rest Ls W1)
    (hJ : OwnFrom W.heap.size J) (hb : Below W1.heap.size W1 W2) (hn : n₀ ≤ W.heap.size) : ChHead W n₀ D f a A cap Bc Bs l' J pre rest Ls W2 := by
  have hg := grown_of_below hb
  have hz := h.size
  have hb0 : Below n₀ W1 W2 := hb.mono (by omega)
  exact ⟨h.left.below hb0, hJ _ _ _ _ h.come hg (fun r e => by cases e), h.low.trans hb0, Nat.le_trans h.size hb.size, h.boxY.grown hg (fun r e => by cases e), h.boxC.grown hg (fun r e => by cases e), h.boxS.grown hg (fun r e => by cases e),
    (h.marks.grown hg (B := W1.heap.size) (fun r e => by cases e) (Nat.le_refl _)).up hb.size⟩
/-- What holds between two rounds of the loop within. -/
structure ChMid (W W3 : World) (n₀ D hi : Nat) (n : Nat) (a : List UInt8) (A : Option Addr) (cap Bc Bs l' : Nat) (Ls : List Nat) (W' : World) : Prop where
  low : Below n₀ W3 W'
  size : hi ≤ W'.heap.size
  boxY : BoxAt W' n₀ D W.heap.size (.func (.yield l') #[] #[]) 110
  boxC : BoxAt W' n₀ D Bc (.slice A n cap) 48
  boxS : BoxAt W' n₀ D Bs (.string (strOf a)) 9
  marks : MarksIn W.heap.size hi W' Ls
theorem ChMid.grown {W W3 : World} {n₀ D hi n : Nat} {a : List UInt8} {A : Option Addr} {cap Bc Bs l' : Nat} {Ls : List Nat} {X Y : World} {row : Option Nat} (h : ChMid W W3 n₀ D hi n a A cap Bc Bs l' Ls X) (hg : X.grownBy Y row)
    (hr : ∀ r, row = some r → hi ≤ r ∧ ∃ o : Obj, X.heap[r]? = some o ∧ o.isCells = false) (hn : n₀ ≤ hi) : ChMid W W3 n₀ D hi n a A cap Bc Bs l' Ls Y :=
  ⟨h.low.grown hg (Nat.le_trans hn h.size) (fun k e => Nat.le_trans hn (hr k e).1), Nat.le_trans h.size hg.size, h.boxY.grown hg (fun r e => (hr r e).2), h.boxC.grown hg (fun r e => (hr r e).2), h.boxS.grown hg (fun r e => (hr r e).2), h.marks.grown hg (fun r e => (hr r e).1) (Nat.le_refl _)⟩
theorem ChMid.keep {W W3 : World} {n₀ D hi n : Nat} {a : List UInt8} {A : Option Addr} {cap Bc Bs l' : Nat} {Ls : List Nat} {X Y : World} (h : ChMid W W3 n₀ D hi n a A cap Bc Bs l' Ls X) (hb : Below n₀ X Y) (hk : KeepsN D X Y) (hD : D ≤ W.heap.size) : ChMid W W3 n₀ D hi n a A cap Bc Bs l' Ls Y :=
  ⟨h.low.trans hb, Nat.le_trans h.size hk.size, h.boxY.keep hb hk, h.boxC.keep hb hk, h.boxS.keep hb hk, h.marks.keep hk hD⟩
def ChInv (W : World) (n₀ D : Nat) (f : Forest) (a : List UInt8) (A : Option Addr) (cap Bc Bs l' : Nat) (J : List (List UInt8) → World → Prop) (a' : Act) (W' : World) : Prop :=
  ∃ (pre rest : Forest) (Ls : List Nat) (u5 u6 u7 u10 u11 u12 u13 u14 u15 u16 u17 u18 u19 u20 u21 u22 u23 u24 u25 u26 u27 u28 u29 u30 u31 : Value), a' = { tmps := #[.func (.yield l') #[] #[], .pointer (some ⟨Bc, 0, none⟩), .pointer (some ⟨Bs, 0, none⟩), .pointer (some ⟨W.heap.size, 0, none⟩), undef, u5, u6, u7, .slice A f.len cap, .int .i64 f.len, u10, u11, u12, u13, u14, u15, u16, u17, u18, u19, u20, u21, u22, u23, u24, u25, u26, u27, u28, u29, u30, u31], defers := marksOf Ls } ∧ u10 = .int .i64 pre.len ∧ ChHead W n₀ D f a A cap Bc Bs l' J pre rest Ls W'

end Go.Proofs.Ytifkmehnikfihaa
/- Chains gathered into a slice: the program's ChainsOf and CountCalls. -/
namespace Go.Proofs.Ytifkmehnikfihaa
open Go.RowKit Go.Shelf
attribute [local go_sem] Oper.semAt_some

def txt (x : List UInt8) : Value := .string (strOf x)
theorem row_grownT {W W' : World} {b : Nat} {t : TypeId} {cs : Array Value} {row : Option Nat} (h : Row W b t cs) (hg : W.grownBy W' row) {B : Nat} (hr : ∀ r, row = some r → B ≤ r ∧ ∃ o : Obj, W.heap[r]? = some o ∧ o.isCells = false) : Row W' b t cs :=
  (hg.block b h.lt (fun he => by
    obtain ⟨_, o, ho, hc⟩ := hr b he.symm
    have h' : W.heap[b]? = some (.cells cs t (0, 0)) := h
    rw [h'] at ho
    injection ho with ho
    subst ho
    cases hc)).trans h
theorem own_grownT {W W' : World} {base n : Nat} {e : TypeId} {v : Value} {xs : List Value} {row : Option Nat} (h : W.ownsRow base e 1 v n xs) (hg : W.grownBy W' row) (hr : ∀ r, row = some r → ∃ o : Obj, W.heap[r]? = some o ∧ o.isCells = false) : W'.ownsRow base e 1 v n xs :=
  own_keep h fun g hb => hg.block g ((h.lt g hb).2) (fun he => by
    obtain ⟨o, ho, hc⟩ := hr g he.symm
    rcases h.2 with ⟨rfl, _⟩ | ⟨g', cap, cur, rfl, _, hh, _⟩
    · simp [Value.ownBlock] at hb
    · have : g' = g := by simpa [Value.ownBlock] using hb
      subst this
      rw [hh] at ho
      injection ho with ho
      subst ho
      cases hc)

/-- What is firm stays. -/
def SteadyT (W W' : World) : Prop := ∀ (k : Nat) (o : Obj), W.heap[k]? = some o → Firm o → W'.heap[k]? = some o

/-- One node's pointer is put behind those that were gathered: only a row of two cells or more is written in place. -/
theorem run_append_firmT (w : World) (ty base n : Nat) (v : Value) (xs : List Value) (hown : w.ownsRow base 9 1 v n xs) (h0 : n = 0 → v = .slice none 0 0) (ad : Addr) (u : Value)
    (hnews : ∀ j y, [u][j]? = some y → w.cell? (ad.add j) = some y) (h1 : ∀ y ∈ [u], y.oneCell' = true) (hn : n ≤ 1000) (hbase : base ≤ w.heap.size) :
    ∃ g cap w', (Builtin.append_ #[24, 24] ty #[v, .slice (some ad) 1 1]).run Try.prog w = .ok (.slice (some ⟨g, 0, none⟩) (n + 1) cap) w' ∧
      w'.ownsRow base 9 1 (.slice (some ⟨g, 0, none⟩) (n + 1) cap) (n + 1) (xs ++ [u]) ∧ w.grownBy w' v.ownBlock ∧ SteadyT w w' := by
  obtain ⟨i0, hi, hz0, hz1, hz2⟩ := info_parts info_str
  obtain ⟨v', w', hr, h2, h3, -, -⟩ := run_append_own_at (P := Try.prog) w base 24 ty 9 i0 (.string ByteArray.empty) 1 16 Try.underlying24 hi hz0 hz1 hz2 rfl (by decide) v n xs hown ad 1 1 [u] rfl hnews h1 (by unfold maxLen; omega) (by omega) hbase
  obtain ⟨g, cap, rfl⟩ := own_form h2 (by omega)
  refine ⟨g, cap, w', hr, h2, h3, ?_⟩
  rcases hown.2 with ⟨rfl, rfl⟩ | ⟨g', cap', cur, rfl, hbg, hg, hnc, hcm, hcs, htake⟩
  · have hr2 := run_append_nil (P := Try.prog) w 24 ty 9 i0 (.string ByteArray.empty) Try.underlying24 hi hz0 ad 1 1 [u] (by rw [hz1]; rfl) hnews (by decide) (by decide) (by rw [hz2]; decide)
    rw [hr] at hr2
    injection hr2 with _ hw
    subst hw
    exact fun k o hk _ => (Below.heap_alloc w.drew _ k (Array.getElem?_eq_some_iff.1 hk).1).trans hk
  · by_cases hc : n + 1 ≤ cap'
    · refine fun k o hk hf => (h3.block k (Array.getElem?_eq_some_iff.1 hk).1 (fun he => ?_)).trans hk
      have he' : k = g' := by simpa [Value.ownBlock] using he
      subst he'
      rw [hg] at hk
      injection hk with hk
      have := (hf cur _ _ hk.symm).2.resolve_right (by decide)
      have hn1 : 0 < n := Nat.pos_of_ne_zero fun e => by have := h0 e; cases this
      omega
    · obtain ⟨v2, w2, hr2, -, hg2⟩ := run_append_arg_grows (P := Try.prog) w 24 ty 9 i0 (.string ByteArray.empty) 1 16 Try.underlying24 hi hz0 hz1 hz2 rfl (by decide) ⟨g', 0, none⟩ n cap' xs hown.1
        (fun j y hj => by
          have h5 : w.cell? ⟨g', 0 + j, none⟩ = some y := by
            rw [Nat.zero_add, hown.cellAt j (by have := (List.getElem?_eq_some_iff.1 hj).1; have := hown.1; omega)]
            exact hj
          rw [WideShapes.add_plain]
          exact h5) ad 1 1 [u] rfl hnews (by omega) (by unfold maxLen; omega) (by omega)
      rw [hr] at hr2
      injection hr2 with _ hw
      subst hw
      exact fun k o hk _ => (hg2.block k (Array.getElem?_eq_some_iff.1 hk).1 (fun he => by cases he)).trans hk

theorem wpListIn_append_firmT {F : Fence} {nF : Nat} {w : World} {ops : Array Oper} {rest : List Oper} {o : Oper} {a : Act} {Q : Exit → Act → World → Prop} (hgd : o.guard = none) (s x : Operand)
    (ho : o.op = .call { callee := .builtin .append, args := #[s, x], argTypes := #[24, 24] })
    (base n : Nat) (v : Value) (xs : List Value) (hs : a.eval s = v) (hown : w.ownsRow base 9 1 v n xs) (h0 : n = 0 → v = .slice none 0 0) (ad : Addr) (u : Value) (hx : a.eval x = .slice (some ad) 1 1)
    (hnews : ∀ j y, [u][j]? = some y → w.cell? (ad.add j) = some y) (h1 : ∀ y ∈ [u], y.oneCell' = true) (hn : n ≤ 1000) (hbase : base ≤ w.heap.size)
    (h : ∀ g cap w', w'.ownsRow base 9 1 (.slice (some ⟨g, 0, none⟩) (n + 1) cap) (n + 1) (xs ++ [u]) → w.grownBy w' v.ownBlock → SteadyT w w' → wpListIn F nF Try.prog ops Q rest (a.put o.dst (.slice (some ⟨g, 0, none⟩) (n + 1) cap)) w') :
    wpListIn F nF Try.prog ops Q (o :: rest) a w := by
  refine wpListIn_plain hgd fun K hK => ?_
  obtain ⟨g, cap, w', hr, h2, h3, h4⟩ := run_append_firmT w o.type base n v xs hown h0 ad u hnews h1 hn hbase
  unfold Oper.wpIn
  refine ⟨by simp [Oper.about, ho, resolve, Target.leads, Sem.run_pure], ?_⟩
  rw [Oper.semAt_plain F _ _ (by rw [ho]; intro c hc'; cases hc')]
  simp [execOp, ho, resolve, invoke, builtin, hs, hx, hr, Result.andThen]
  exact hK _ _ (h g cap w' h2 h3 h4)

/-- What was gathered: the box holds a slice of the call's own. -/
structure GathT (w : World) (T : List (List UInt8)) (W : World) : Prop where
  ex : ∃ v, Row W w.heap.size 24 #[v] ∧ W.ownsRow (w.heap.size + 1) 9 1 v T.length (T.map txt) ∧ (T.length = 0 → v = .slice none 0 0)
  below : Below w.heap.size w W
theorem GathT.grown {w W W' : World} {T : List (List UInt8)} {B : Nat} {row : Option Nat} (h : GathT w T W) (hg : W.grownBy W' row) (hB : w.heap.size ≤ B) (hr : ∀ r, row = some r → B ≤ r ∧ ∃ o : Obj, W.heap[r]? = some o ∧ o.isCells = false) : GathT w T W' := by
  obtain ⟨⟨v, h1, h2, h3⟩, hb⟩ := h
  exact ⟨⟨v, row_grownT h1 hg hr, own_grownT h2 hg (fun r e => (hr r e).2), h3⟩, hb.grown hg hb.size (fun k e => by have := (hr k e).1; omega)⟩

end Go.Proofs.Ytifkmehnikfihaa
/- The program's TopCalls. -/
namespace Go.Proofs.Ytifkmehnikfihaa
open Go.RowKit

/-- What a call writes into a builder that is younger than all calls. -/
theorem callWriteB_of (B b : Nat) (c : UInt8) (k : Forest) (v : Value) (s : List UInt8) (w : World) (hu : IsCall w (· < B) c k v) (h : Lib.IsBuilderF 56 5 B b (Lib.byteCells s) w) (hs : s.length + (textB k).length ≤ 90000) (hBw : B ≤ w.heap.size)
    (hk : ∀ (W : World) (u : Value) (s' : List UInt8), k.isNil = false → s'.length ≤ s.length + 2 → SliceIs W (· < B) u k → Below B w W → Lib.IsBuilderF 56 5 B b (Lib.byteCells s') W → Calls Try.prog 126 #[.pointer (some ⟨b, 0, none⟩), u] W (Written W B b (s' ++ textB k))) :
    ∃ T x K y, v = .iface T x ∧ (∀ w : World, (method 255 T x "loop.example/segmentrooms/impl.write").run Try.prog w = .ok (K, y) w) ∧ (∀ w : World, (callFunc K #[y, .pointer (some ⟨b, 0, none⟩)]).run Try.prog w = .ok (.enter K #[y, .pointer (some ⟨b, 0, none⟩)]) w) ∧
      Calls Try.prog K #[y, .pointer (some ⟨b, 0, none⟩)] w (Written w B b (s ++ textOne c k)) := by
  rcases hu with ⟨h1, rfl⟩ | ⟨h1, q, cap, rfl, hq, hc⟩
  · refine ⟨_, _, _, _, rfl, meth_write_leaf c, fun w => enters_of Try.func123 (by kernel_rfl) rfl _ w, ?_⟩
    have e1 : textOne c k = [c] := by unfold textOne; rw [if_pos h1]
    rw [e1]
    exact leafWrite_any B b c s w h (by omega) hBw
  · refine ⟨_, _, _, _, rfl, meth_write_branch c _ _ _, fun w => enters_of Try.func125 (by kernel_rfl) rfl _ w, ?_⟩
    have e1 : s ++ textOne c k = s ++ [c] ++ [40] ++ textB k ++ [41] := by unfold textOne; rw [if_neg (by rw [h1]; decide)]; simp
    rw [e1]
    exact branchWrite_of B b c k _ cap s w h hs hBw fun W hb ho hi => hk W _ _ h1 (by simp) ⟨_, cap, rfl, fun _ => ⟨q, rfl, hq, Cells.keep (fun x hx => ⟨hx, hb.block x hx⟩) k q 0 (hb.block q hq) hc⟩⟩ hb hi

set_option maxRecDepth 100000 in
set_option maxHeartbeats 1000000 in
theorem writeCallsB_any (B b : Nat) : ∀ (m : Nat) (f : Forest) (v : Value) (s : List UInt8) (w : World), f.size < m → s.length + 3 * f.size ≤ 80000 → SliceIs w (· < B) v f → Lib.IsBuilderF 56 5 B b (Lib.byteCells s) w → B ≤ w.heap.size →
    Calls Try.prog 126 #[.pointer (some ⟨b, 0, none⟩), v] w (Written w B b (s ++ textB f)) := by
  intro m
  induction m with
  | zero => intro f v s w h; omega
  | succ m ih =>
    intro f v s w hm hs hv hI hBw
    obtain ⟨A, cap, rfl, hl0⟩ := LeftC.start hv
    have IH := Lib.hid ih
    have HL0 := Lib.hid hl0
    have HI0 := Lib.hid hI
    have hfl : f.len ≤ 80000 := by have := f.len_size; omega
    clear ih hv hl0 hI
    go_enter Try.func126, Try.ntmps126
    go_wp2
    go_loopw [8] (fun i wr => ∃ (pre rest : Forest), i = .int .i64 pre.len ∧ Hid (LeftC wr B f A pre rest) ∧ Hid (Lib.IsBuilderF 56 5 B b (Lib.byteCells (s ++ textB pre)) wr) ∧ Hid (Below B w wr) ∧ Hid (Lib.OthersKept 5 (some b) w wr))
      (fun i _ => f.len - (intOf i).toNat)
    case atStart => exact ⟨.nil, f, rfl, HL0, by show Lib.IsBuilderF _ _ _ _ _ _; rw [show textB .nil = [] from rfl, List.append_nil]; exact HI0.out, Below.refl _ _, Lib.OthersKept.refl _ _ _⟩
    case round =>
      obtain ⟨pre, rest, rfl, HL, HI, HB, HO⟩ := hrel
      clear HL0 HI0
      cases rest with
      | nil =>
        have HE := Lib.hid HL.out.done
        have hle : ¬ (pre.len < f.len) := by rw [HE.out]; omega
        go_wp2
        go_end0
        exact ⟨rfl, by rw [HE.out]; exact HI.out, HB.out, HO.out⟩
      | cons c k r =>
        obtain ⟨hnext, hlt, hks, g, u, rfl, hg, c0, hu⟩ := HL.out.take
        have hz := HB.out.size
        have hBr : B ≤ wr.heap.size := by omega
        have hpl := textB_len pre
        have hkl := textB_len k
        have hps : pre.size + (k.size + r.size + 1) = f.size := by rw [HL.out.1, Forest.app_size]; rfl
        have hl1 : (s ++ textB pre).length + 3 * k.size + 3 ≤ 80000 := by rw [List.length_append]; omega
        have HNX := Lib.hid hnext
        have HLN : Hid ((pre.app (.cons c k .nil)).len = pre.len + 1) := by show _ = _; rw [Forest.app_len]; rfl
        have HNB : Hid (s ++ textB (pre.app (.cons c k .nil)) = s ++ textB pre ++ textOne c k) := by
          show _ = _
          rw [textB_app, textB_one, List.append_assoc]
        obtain ⟨T, x, K, y, rfl, hmt, hen, hc⟩ := callWriteB_of B b c k u _ wr hu HI.out (by omega) hBr (fun W u' s' _ hs' hsl hb' hi' => IH.out k u' s' W (by omega) (by omega) hsl hi' (by have := hb'.size; omega))
        have HC := Lib.hid hc
        clear hnext hpl hkl hc hu
        go_wp2_with fail
        refine HC.out.mono ?_
        rintro e w2 ⟨rfl, hI2, hb2, hk2⟩
        rw [← HNB.out] at hI2
        have HI2 := Lib.hid hI2
        have HB2 := Lib.hid (HB.out.trans hb2)
        have HL2 := Lib.hid (HNX.out.below hb2)
        have HO2 := Lib.hid (HO.out.trans hk2)
        clear hI2 hb2 hk2 HC HNX HL HI HB HO hmt hen c0
        go_wp2
        go_roundw
        case rel => exact ⟨_, r, by rw [HLN.out]; go_num, HL2, HI2, HB2, HO2⟩
        case measure => simp [intOf]; omega

/-- What was read, or nothing. -/
theorem readSlice {w w' : World} {l : List Seg} {t : ByteArray} {e : Ending} (h : TracePost w (traceB l t.data.toList) e w') :
    ∃ v f, e = .returned (.tuple #[v, .bool (traceB l t.data.toList).isSome]) ∧ topsRes l t = (topsB f).map strOf ∧ f.size ≤ 80 ∧ SliceIs w' (· < w'.heap.size) v f ∧ Below w.heap.size w w' := by
  obtain ⟨v, e1, h1, hb⟩ := h
  unfold topsRes
  cases hR : traceB l t.data.toList with
  | none =>
    rw [hR] at h1 e1
    rcases h1 with ⟨f, h0, _⟩ | ⟨_, rfl⟩
    · cases h0
    · exact ⟨_, .nil, e1, rfl, Nat.zero_le _, ⟨none, 0, rfl, fun h => by cases h⟩, hb⟩
  | some f =>
    rw [hR] at h1 e1
    rcases h1 with ⟨f', h0, hk⟩ | ⟨h0, _⟩
    · obtain rfl : f = f' := by injection h0
      exact ⟨v, f, e1, rfl, (traceB_size hR).1, hk.keep fun q hq => ⟨hq.2, rfl⟩, hb⟩
    · cases h0

set_option maxRecDepth 100000 in
set_option maxHeartbeats 4000000 in
theorem implTopCalls_any (A : Option Addr) (l : List Seg) (c : Nat) (t : ByteArray) (w : World) (hw : Segs w w.heap.size A l) (hl : l.length ≤ 1048576) (hlc : l.length ≤ c) (hcm : c ≤ 9223372036854775807) (hn : Short l) (ht : t.size ≤ 1048576) :
    Calls Try.prog 9 #[.slice A l.length c, .string t] w (TopsPost w l t) := by
  have HQ := Lib.hid (readTrace_any A l c t w hw hl hlc hcm hn ht)
  have HRK := Lib.hid (fun e w' => readSlice (w := w) (w' := w') (l := l) (t := t) (e := e))
  have HNO : Hid ((traceB l t.data.toList).isSome = false → topsRes l t = []) := fun h => by
    unfold topsRes
    cases hR : traceB l t.data.toList with
    | none => rfl
    | some f => rw [hR] at h; cases h
  unfold TopsPost
  generalize (traceB l t.data.toList).isSome = d at *
  generalize topsRes l t = ts0 at *
  clear hw hn
  go_enter Try.func9, Try.ntmps9
  go_wp2_with fail
  refine Calls.mono HQ.out ?_
  intro e w2 hrd
  obtain ⟨v, f, rfl, htr, h80, hk, hb⟩ := HRK.out e w2 hrd
  have HB := Lib.hid hb
  cases d with
  | false =>
    have HE : Hid (ts0 = []) := HNO.out rfl
    clear hrd htr HRK HQ hk hb
    go_wp2
    go_ret2
    exact ⟨_, rfl, by rw [HE.out]; exact World.ownsRow_nil _ _ _ _, HB.out⟩
  | true =>
    subst htr
    have hfl : f.len ≤ 80 := Nat.le_trans f.len_size h80
    obtain ⟨A3, cap, rfl, hl0⟩ := LeftC.start hk
    have HL0 := Lib.hid hl0
    clear hrd HRK HQ hk hl0 hb HNO
    have HS0 : Hid (OwnTexts w2 w2.heap.size (.slice none 0 0) []) := World.ownsRow_nil _ _ _ _
    go_wp2
    go_loopw [8, 22] (fun o i wr => ∃ (pre rest : Forest), i = .int .i64 pre.len ∧ Hid (OwnTexts wr w2.heap.size o ((topsB pre).map strOf)) ∧ Hid (LeftC wr w2.heap.size f A3 pre rest) ∧ Hid (Below w2.heap.size w2 wr))
      (fun _ i _ => f.len - (intOf i).toNat)
    case atStart => exact ⟨.nil, f, rfl, HS0, HL0, Below.refl _ _⟩
    case round =>
      obtain ⟨pre, rest, rfl, HT, HL, HB2⟩ := hrel
      clear HL0 HS0
      cases rest with
      | nil =>
        have HE := Lib.hid HL.out.done
        have hle : ¬ (pre.len < f.len) := by rw [HE.out]; omega
        go_wp2
        go_ret2
        exact ⟨_, rfl, by rw [HE.out]; exact own_low HT.out HB.out.size, HB.out.trans (HB2.out.mono HB.out.size)⟩
      | cons c k r =>
        obtain ⟨hnext, hlt, hks, g, u, rfl, hg, c0, hu⟩ := HL.out.take
        have HNX := Lib.hid hnext
        have hz := HB2.out.size
        obtain ⟨A1, cap1, rfl, -⟩ := St.textsForm HT.out
        have htl : ((topsB pre).map strOf).length ≤ 80 := by rw [List.length_map, topsB_len]; omega
        have HLN : Hid ((pre.app (.cons c k .nil)).len = pre.len + 1) := by show _ = _; rw [Forest.app_len]; rfl
        have HCH : Hid ((topsB (pre.app (.cons c k .nil))).map strOf = (topsB pre).map strOf ++ [strOf (textOne c k)]) := by
          show _ = _
          rw [topsB_app, topsB_one, List.map_append]; rfl
        have hkl := textB_len k
        have HBX : Hid (Below wr.heap.size wr (wr.alloc (.cells #[.pointer none, .slice none 0 0] 56))) := (Below.refl _ wr).alloc (Nat.le_refl _) _
        have HI0 : Hid (Lib.IsBuilderF 56 5 wr.heap.size wr.heap.size (Lib.byteCells []) (wr.alloc (.cells #[.pointer none, .slice none 0 0] 56))) := Lib.IsBuilderF.of (Lib.fresh_isBuilder _ _ wr)
        have hu1 : IsCall (wr.alloc (.cells #[.pointer none, .slice none 0 0] 56)) (· < wr.heap.size) c k u := hu.keep fun q hq => ⟨Nat.lt_of_lt_of_le hq hz, HBX.out.block q (Nat.lt_of_lt_of_le hq hz)⟩
        obtain ⟨T, x, K, y, rfl, hmt, hen, hc⟩ := callWriteB_of wr.heap.size wr.heap.size c k u [] _ hu1 HI0.out (by simp; omega) HBX.out.size (fun W u' s' _ hs' hsl hb' hi' => writeCallsB_any wr.heap.size wr.heap.size (k.size + 1) k u' s' W (by omega) (by simp at hs'; omega) hsl hi' (by have := hb'.size; have := HBX.out.size; omega))
        have HC := Lib.hid hc
        clear hnext hkl hc hu hu1
        generalize (topsB pre).map strOf = ts at *
        go_wp2_with fail
        generalize wr.alloc (.cells #[.pointer none, .slice none 0 0] 56) = W1 at *
        refine HC.out.mono ?_
        rintro e w3 ⟨rfl, hI3, hb3, -⟩
        rw [List.nil_append] at hI3
        have HI3 := Lib.hid hI3
        have HB3 : Hid (Below wr.heap.size wr w3) := HBX.out.trans hb3
        clear hI3 hb3 HC hmt hen c0 HI0
        go_wp2_with fail
        refine (Try.Builder_String_any_k wr.heap.size wr.heap.size _ _ HI3.out HB3.out.size).mono ?_
        rintro e w5 ⟨rfl, -, hb5, -⟩
        have HB5 : Hid (Below wr.heap.size wr w5) := HB3.out.trans hb5
        have HT5 : Hid (OwnTexts w5 w2.heap.size (.slice A1 ts.length cap1) ts) := HT.out.below HB5.out
        clear hb5 HB3 HI3 HBX
        have hys : (strOf (textOne c k)).size ≤ 1000 := by
          have := textOne_len c k
          unfold strOf
          show (textOne c k).toArray.size ≤ 1000
          rw [List.size_toArray]; omega
        have HYE : Hid ((⟨(textOne c k).toArray⟩ : ByteArray) = strOf (textOne c k)) := rfl
        rw [HYE.out]
        generalize strOf (textOne c k) = y0 at *
        have HT6 : Hid (OwnTexts (w5.alloc (.cells #[.string y0] 9)) w2.heap.size (.slice A1 ts.length cap1) ts) := HT5.out.below ((Below.refl _ w5).alloc (Nat.le_refl _) _)
        have HN6 : Hid (∀ j x, [y0][j]? = some x → (w5.alloc (.cells #[.string y0] 9)).cell? ⟨w5.heap.size, 0 + j, none⟩ = some (.string x)) := by
          intro j x hj
          have hj0 : j = 0 := by have := (List.getElem?_eq_some_iff.1 hj).1; simp at this; omega
          subst hj0
          simp at hj
          subst hj
          exact Row.cell (Row.new w5 9 #[.string y0]) 0
        have hz5 := HB5.out.size
        go_wp2_with (at_builtin; go_loud (refine wp_app11 rfl (.tmp 28) (.tmp 30) rfl w2.heap.size _ ts _ rfl HT6.out (by omega) (by simp; omega) w5.heap.size 0 1 1 [y0] rfl rfl (by simp) HN6.out ?_); intro v7 w7 ho7 hb7 _ _; have HO7 := Lib.hid ho7; have HB7 : Hid (Below w2.heap.size w5 w7) := ((Below.refl _ w5).alloc (by omega) _).trans hb7; clear ho7 hb7 HN6 HT6)
        rw [← HCH.out] at HO7
        have HB8 : Hid (Below w2.heap.size wr w7) := (HB5.out.mono hz).trans HB7.out
        have HB9 : Hid (Below w2.heap.size w2 w7) := HB2.out.trans HB8.out
        have HL9 := Lib.hid (HNX.out.below HB8.out)
        clear HB5 HB7 HT5 HT HL HNX HB8 HB2
        go_roundw
        case rel => exact ⟨_, r, by rw [HLN.out]; go_num, HO7, HL9, HB9⟩
        case measure => simp [intOf]; omega

end Go.Proofs.Ytifkmehnikfihaa
