/- Joined: Rf Pp Jr Ch Po Cp Ep. -/
import Derived.Test.YtadichddgpojpaaU06
/- A range over a function whose iterator may itself range over a function: what a round keeps is said of blocks, not of cells alone. -/
namespace Go.Proofs.Ytadichddgpojpaa
open Go.RowKit Go.Shelf

/-- What a round may not write: all but rows of bytes and rows of two cells or more (states of loading are kept). -/
def Firm (o : Obj) : Prop := ∀ c t fz, o = .cells c t fz → t ≠ 5 ∧ (c.size ≤ 1 ∨ t = 999999)

/-- All from block 'B' on that is firm lies as it lay. -/
structure KeepsN (B : Nat) (W W' : World) : Prop where
  size : W.heap.size ≤ W'.heap.size
  same : ∀ (k : Nat) (o : Obj), B ≤ k → W.heap[k]? = some o → Firm o → W'.heap[k]? = some o
theorem KeepsN.refl (B : Nat) (W : World) : KeepsN B W W := ⟨Nat.le_refl _, fun _ _ _ h _ => h⟩
theorem KeepsN.trans {B : Nat} {X Y Z : World} (h : KeepsN B X Y) (k : KeepsN B Y Z) : KeepsN B X Z := ⟨Nat.le_trans h.size k.size, fun i o hB hi ho => k.same i o hB (h.same i o hB hi ho) ho⟩
theorem KeepsN.mono {B B' : Nat} {X Y : World} (h : KeepsN B X Y) (hB : B ≤ B') : KeepsN B' X Y := ⟨h.size, fun i o hi ho hn => h.same i o (by omega) ho hn⟩
theorem KeepsN.put {B l : Nat} (W : World) (o : Obj) (hl : l < B) : KeepsN B W (W.putObj l o) := by
  have hg := grownBy_putObj' W l o
  exact ⟨hg.size, fun k o' hk ho _ => (hg.block k (Array.getElem?_eq_some_iff.1 ho).1 (fun he => by injection he with he; omega)).trans ho⟩
theorem KeepsN.alloc (B : Nat) (W : World) (o : Obj) : KeepsN B W (W.alloc o) :=
  ⟨by simp, fun k o' _ ho _ => (Below.heap_alloc W o k (Array.getElem?_eq_some_iff.1 ho).1).trans ho⟩

/-- An iterator's contract: the rounds that go on keep all from 'D' on (and what lies below 'n₀'), a round that says 'no more' keeps what the iterator itself has laid. -/
def SeqR {α : Type} (n : Nat) (g : Nat) (lb : Array Value) (encs : α → Array Value) (n₀ D : Nat) (S Sp : List α → Prop) (N : Nat) (w : World) : Prop :=
  ∀ (l : Nat) (J Jx : List α → World → Prop) (W : World), Below w.heap.size w W → D ≤ W.heap.size → OwnFrom W.heap.size J → OwnFrom W.heap.size Jx →
    (∀ pre x W1, J pre W1 → pre.length < N → W.heap.size ≤ W1.heap.size → YieldAt Fence.wide (n - 1) Try.prog l (encs x) W1 fun e W' =>
      (e = .returned (.bool true) ∧ J (pre ++ [x]) W' ∧ Below n₀ W1 W' ∧ KeepsN D W1 W') ∨ (e = .returned (.bool false) ∧ Jx (pre ++ [x]) W' ∧ KeepsN W.heap.size W1 W')) →
    J [] W →
    CallsIn Fence.wide n Try.prog g (#[.func (.yield l) #[] #[]] ++ lb) W fun e W' => (∃ v, e = .returned v) ∧ ((∃ xs, S xs ∧ J xs W') ∨ (∃ pre, Sp pre ∧ Jx pre W'))

/-- How the body of a round may be left. -/
def ownPostR {α : Type} (B n₀ D : Nat) (I : List α → World → Prop) (Ix : Code → List α → World → Prop) (xs : List α) (W : World) : Exit → Act → World → Prop
  | .normal, _, W' => KeepsN (min B D) W W' ∧ Below n₀ W W' ∧ I xs W'
  | .ret, _, W' => KeepsN B W W' ∧ Ix .ret xs W'
  | .exit id, _, W' => KeepsN B W W' ∧ Ix (.exit id) xs W'
  | .goto t, _, W' => KeepsN B W W' ∧ Ix (.goto t) xs W'
  | .panic _, _, _ => False
  | .outgrown, _, _ => False

theorem wpIn_rangeFunc_R {α : Type} {n : Nat} {g : Operand} {ps : Array Tmp} {assign body : Code} {Q : Exit → Act → World → Prop} {a : Act} {w : World}
    (h1 : 1 ≤ n) {gf : Nat} {lb : Array Value} (hg : a.eval g = .func (.func gf) #[] lb) (eg : ∀ args w, (callFunc gf args).run Try.prog w = .ok (.enter gf args) w)
    {encs : α → Array Value} {n₀ D : Nat} {S Sp : List α → Prop} {N : Nat} {w0 : World} (hseq : SeqR (n - 1) gf lb encs n₀ D S Sp N w0)
    (hD : D ≤ w.heap.size + 2) (hn₀ : n₀ ≤ w.heap.size) (hb0 : Below w0.heap.size w0 w) (hps : ∀ x, (encs x).size = ps.size)
    (I : List α → World → Prop) (Ix : Code → List α → World → Prop) (hI : OwnFrom w.heap.size I) (hIx : ∀ c, OwnFrom w.heap.size (Ix c)) (h0 : I [] w) (a₁ : α → Act)
    (hassign : ∀ (l : Nat) (x : α) (W : World) (K : Act → World → Prop), K (a₁ x) W →
      assign.wpIn (Fence.wide.inRound l) (n - 1 - 1) Try.prog (Exit.then K (fun _ _ _ => False)) { tmps := (ps.zip (encs x)).foldl (fun t (p, v) => t.setIfInBounds p v) a.tmps, defers := [] } W)
    (hbody : ∀ (l : Nat) (pre : List α) (x : α) (W : World), I pre W → pre.length < N → w.heap.size + 2 ≤ W.heap.size → body.wpIn (Fence.wide.inRound l) (n - 1 - 1) Try.prog (ownPostR w.heap.size n₀ D I Ix (pre ++ [x]) W) (a₁ x) W)
    (hdone : ∀ (L : Nat) (xs : List α) (W : World), w.heap.size ≤ L → S xs → I xs W → W.heap[L]? = some (.deferred (some [])) → Q .normal { a with defers := { target := .collected L, args := #[] } :: a.defers } W)
    (hstop : ∀ (L : Nat) (c : Code) (pre : List α) (W : World), w.heap.size ≤ L → Sp pre → Ix c pre W → W.heap[L]? = some (.deferred (some [])) → c.wpIn Fence.wide n Try.prog Q { a with defers := { target := .collected L, args := #[] } :: a.defers } W) :
    (Code.rangeFunc g ps assign body).wpIn Fence.wide n Try.prog Q a w := by
  refine wpIn_rangeFunc ?_
  intro fn hfn
  rw [show Fence.wide.round = none from rfl]
  obtain ⟨rec, hrec⟩ : ∃ rec : LoopState → Option Code → Loop, rec = fun st pe => { state := st, pending := pe, fn, tmps := a.tmps, params := ps, assign, body, defers := w.heap.size } := ⟨_, rfl⟩
  obtain ⟨W1, hW1⟩ : ∃ W1, (w.alloc (.deferred (some []))).alloc (.loop (rec .ready none)) = W1 := ⟨_, rfl⟩
  have hz1 : W1.heap.size = w.heap.size + 2 := by rw [← hW1]; simp
  have hL1 : W1.heap[w.heap.size + 1]? = some (.loop (rec .ready none)) := by
    rw [← hW1]; have := World.alloc_heap_new (w.alloc (.deferred (some []))) (.loop (rec .ready none)); rwa [World.size_alloc] at this
  have hK1 : W1.heap[w.heap.size]? = some (.deferred (some [])) := by
    rw [← hW1]; exact (Below.heap_alloc _ _ _ (by simp)).trans (World.alloc_heap_new w _)
  have hI1 : I [] W1 := by rw [← hW1]; exact hI.alloc _ (hI.alloc _ h0)
  have hb1 : Below w0.heap.size w0 W1 := by
    rw [← hW1]; exact hb0.trans ((((Below.refl _ w).alloc (Nat.le_refl _) _).alloc (by simp) _).mono hb0.size)
  refine ⟨w.heap.size + 1, [{ target := .collected w.heap.size, args := #[] }], W1, { target := .fn (.func gf) lb, args := #[.func (.yield (w.heap.size + 1)) #[] #[]] }, W1, gf,
    #[.func (.yield (w.heap.size + 1)) #[] #[]] ++ lb, W1, ?_, ?_, ?_, ?_, fun _ => h1, ?_⟩
  · rw [← hW1, hrec]; exact run_enterLoop_outer _ _ _ _ _
  · simp only [resolve, hg]
    simp [go_sem]
  · intro f' hf'; simp [Target.leads] at hf'; subst hf'; exact trivial
  · simp [invoke, go_sem, eg]
  · have hrow : ∀ {A B : World} {row : Option Nat}, (∀ r, row = some r → W1.heap.size ≤ r ∧ ∃ o : Obj, A.heap[r]? = some o ∧ o.isCells = false) → A.grownBy B row → ∀ (k : Nat) (o : Obj), k < W1.heap.size → A.heap[k]? = some o → B.heap[k]? = some o :=
      fun hr hg' k o hk ho => (hg'.block k (Array.getElem?_eq_some_iff.1 ho).1 (fun he => by have := (hr k he.symm).1; omega)).trans ho
    have hlow : ∀ {A : World} {row : Option Nat}, (∀ r, row = some r → W1.heap.size ≤ r ∧ ∃ o : Obj, A.heap[r]? = some o ∧ o.isCells = false) → (∀ r, row = some r → w.heap.size ≤ r ∧ ∃ o : Obj, A.heap[r]? = some o ∧ o.isCells = false) :=
      fun hr r e => ⟨by have := (hr r e).1; omega, (hr r e).2⟩
    refine (hseq (w.heap.size + 1)
      (fun pre W => I pre W ∧ W.heap[w.heap.size + 1]? = some (.loop (rec .ready none)) ∧ W.heap[w.heap.size]? = some (.deferred (some [])))
      (fun pre W => ∃ c, Ix c pre W ∧ W.heap[w.heap.size + 1]? = some (.loop (rec .done (some c))) ∧ W.heap[w.heap.size]? = some (.deferred (some [])))
      W1 hb1 (by omega)
      (fun s A B row hs hg' hr => ⟨hI s A B row hs.1 hg' (hlow hr), hrow hr hg' _ _ (by omega) hs.2.1, hrow hr hg' _ _ (by omega) hs.2.2⟩)
      (fun s A B row hs hg' hr => by
        obtain ⟨c, hc, hl, hk⟩ := hs
        exact ⟨c, hIx c s A B row hc hg' (hlow hr), hrow hr hg' _ _ (by omega) hl, hrow hr hg' _ _ (by omega) hk⟩)
      ?_ ⟨hI1, hL1, hK1⟩).mono ?_
    · rintro pre x W ⟨hi, hl, hk⟩ hlen hWz
      have hlt : w.heap.size + 1 < W.heap.size := (Array.getElem?_eq_some_iff.1 hl).1
      have hy := run_yield (P := Try.prog) (args := encs x) hl (by rw [hrec]; exact hps x)
      rw [hrec] at hy
      refine ⟨fn, _, assign, body, hy, roundIn_of_wpIn hfn (hassign _ x W _ ⟨_, run_beginRound hl (by rw [hrec]), ?_⟩)⟩
      have hl2 : (W.putObj (w.heap.size + 1) (.loop { rec .ready none with state := .busy })).heap[w.heap.size + 1]? = some (.loop { rec .ready none with state := .busy }) := World.putObj_heap_same hlt
      have hk2 : (W.putObj (w.heap.size + 1) (.loop { rec .ready none with state := .busy })).heap[w.heap.size]? = some (.deferred (some [])) := (World.putObj_heap_other (by omega)).trans hk
      have hsz2 : (W.putObj (w.heap.size + 1) (.loop { rec .ready none with state := .busy })).heap.size = W.heap.size := by simp [World.putObj]
      refine wpIn_mono (hbody _ pre x _ (hI.putObj _ hi (by omega) hl rfl) hlen (by rw [hsz2]; omega)) ?_
      have fin : ∀ (jump : Option Code) (W3 : World), KeepsN w.heap.size (W.putObj (w.heap.size + 1) (.loop { rec .ready none with state := .busy })) W3 →
          (Instr.endRound (w.heap.size + 1) jump).run Try.prog W3 = .ok (.bool jump.isNone) (W3.putObj (w.heap.size + 1) (.loop (rec (if jump.isNone then .ready else .done) jump))) ∧
          W3.heap[w.heap.size + 1]? = some (.loop { rec .ready none with state := .busy }) ∧
          (W3.putObj (w.heap.size + 1) (.loop (rec (if jump.isNone then .ready else .done) jump))).heap[w.heap.size + 1]? = some (.loop (rec (if jump.isNone then .ready else .done) jump)) ∧
          (W3.putObj (w.heap.size + 1) (.loop (rec (if jump.isNone then .ready else .done) jump))).heap[w.heap.size]? = some (.deferred (some [])) := fun jump W3 hk3 => by
        have hl3 := hk3.same _ _ (by omega) hl2 (fun c t fz he => by cases he)
        have := run_endRound (P := Try.prog) jump hl3
        rw [hrec] at this ⊢
        exact ⟨this, by rw [hrec] at hl3; exact hl3, World.putObj_heap_same (Array.getElem?_eq_some_iff.1 hl3).1, (World.putObj_heap_other (by omega)).trans (hk3.same _ _ (Nat.le_refl _) hk2 (fun c t fz he => by cases he))⟩
      have far : ∀ (jump : Option Code) (W3 : World), KeepsN w.heap.size (W.putObj (w.heap.size + 1) (.loop { rec .ready none with state := .busy })) W3 → KeepsN W1.heap.size W (W3.putObj (w.heap.size + 1) (.loop (rec (if jump.isNone then .ready else .done) jump))) := fun jump W3 hk3 =>
        ((KeepsN.put W _ (by omega)).trans (hk3.mono (by omega))).trans (KeepsN.put W3 _ (by omega))
      rintro e a3 W3 hp
      cases e with
      | normal =>
        obtain ⟨hk3, hkp3, hi3⟩ := hp
        obtain ⟨hr, hl3, hl4, hk4⟩ := fin none W3 (hk3.mono (Nat.min_le_left _ _))
        refine ⟨_, _, hr, .inl ⟨rfl, ⟨hI.putObj _ hi3 (by omega) hl3 rfl, hl4, hk4⟩, ?_, ?_⟩⟩
        · have b1 : Below n₀ W (W.putObj (w.heap.size + 1) (.loop { rec .ready none with state := .busy })) := (Below.refl n₀ W).grown (grownBy_putObj' W _ _) (by omega) (fun k e => by cases e; omega)
          exact (b1.trans hkp3).trans ((Below.refl n₀ W3).grown (grownBy_putObj' W3 _ _) (by have := hk3.size; rw [hsz2] at this; omega) (fun k e => by cases e; omega))
        · refine ⟨?_, fun k o hkD ho hno => ?_⟩
          · have h2 := hk3.size
            rw [hsz2] at h2
            simpa [World.putObj] using h2
          · by_cases hkl : k = w.heap.size + 1
            · subst hkl
              rw [hl] at ho
              injection ho with ho
              subst ho
              exact hl4
            · rw [World.putObj_heap_other (by omega)]
              exact hk3.same k o (by have := Nat.min_le_right w.heap.size D; omega) ((World.putObj_heap_other (by omega)).trans ho) hno
      | ret =>
        obtain ⟨hk3, hi3⟩ := hp
        obtain ⟨hr, hl3, hl4, hk4⟩ := fin (some .ret) W3 hk3
        exact ⟨_, _, hr, .inr ⟨rfl, ⟨.ret, (hIx _).putObj _ hi3 (by omega) hl3 rfl, hl4, hk4⟩, far _ _ hk3⟩⟩
      | exit id =>
        obtain ⟨hk3, hi3⟩ := hp
        obtain ⟨hr, hl3, hl4, hk4⟩ := fin (some (.exit id)) W3 hk3
        exact ⟨_, _, hr, .inr ⟨rfl, ⟨.exit id, (hIx _).putObj _ hi3 (by omega) hl3 rfl, hl4, hk4⟩, far _ _ hk3⟩⟩
      | goto t =>
        obtain ⟨hk3, hi3⟩ := hp
        obtain ⟨hr, hl3, hl4, hk4⟩ := fin (some (.goto t)) W3 hk3
        exact ⟨_, _, hr, .inr ⟨rfl, ⟨.goto t, (hIx _).putObj _ hi3 (by omega) hl3 rfl, hl4, hk4⟩, far _ _ hk3⟩⟩
      | panic ch => exact hp.elim
      | outgrown => exact hp.elim
    · rintro e W2 ⟨⟨v, rfl⟩, (⟨xs, hS, hi, hl, hk⟩ | ⟨pre, hSp, c, hi, hl, hk⟩)⟩
      · exact ⟨none, _, by have := run_endLoop (P := Try.prog) hl (by rw [hrec]; simp); rw [hrec] at this; exact this, hdone _ xs _ (Nat.le_refl _) hS (hI.putObj _ hi (by omega) hl rfl) ((World.putObj_heap_other (by omega)).trans hk)⟩
      · exact ⟨some c, _, by have := run_endLoop (P := Try.prog) hl (by rw [hrec]; simp); rw [hrec] at this; exact this, hstop _ c pre _ (Nat.le_refl _) hSp ((hIx c).putObj _ hi (by omega) hl rfl) ((World.putObj_heap_other (by omega)).trans hk)⟩

end Go.Proofs.Ytadichddgpojpaa
/- The path of a node, yielded by an iterator that calls itself. -/
namespace Go.Proofs.Ytadichddgpojpaa
open Go.RowKit Go.Shelf
attribute [local go_sem] Oper.semAt_some

theorem yield_any {m : Nat} (m' : Nat) {P : Program} {l : Nat} {args : Array Value} {W : World} {R : Ending → World → Prop} (h : YieldAt Fence.wide m P l args W R) : YieldAt Fence.wide m' P l args W R := by
  obtain ⟨fn, tmps, assign, body, hy, hR⟩ := h
  exact ⟨fn, tmps, assign, body, hy, ⟨hR.1, fun c cs _ => hR.2 c cs (fun d h => by simp [Fence.wide] at h)⟩⟩

/-- From the root down to a segment, by index. -/
def rootPath (l : List Seg) : Nat → Nat → List Nat
  | 0, _ => []
  | f + 1, i => (if parAt l i < 0 then [] else rootPath l f (parAt l i).toNat) ++ [i]
theorem rootPath_len (l : List Seg) : ∀ f i, (rootPath l f i).length ≤ f
  | 0, _ => Nat.le_refl 0
  | f + 1, i => by
    unfold rootPath
    have := rootPath_len l f (parAt l i).toNat
    split <;> simp <;> omega
theorem rootPath_lt {l : List Seg} (hd : Down l l.length) : ∀ f i, i < l.length → ∀ j ∈ rootPath l f i, j < l.length
  | 0, _, _, j, hj => by simp [rootPath] at hj
  | f + 1, i, hi, j, hj => by
    unfold rootPath at hj
    have h1 := hd i hi
    rcases List.mem_append.1 hj with h | h
    · split at h
      · simp at h
      · exact rootPath_lt hd f _ (by omega) j h
    · simp at h; omega
theorem rootPath_chain {l : List Seg} (hd : Down l l.length) : ∀ f i, i < l.length → i < f → (chain l f (i : Int)).reverse = (rootPath l f i).map (fun j : Nat => (j : Int))
  | 0, i, _, h => absurd h (by omega)
  | f + 1, i, hi, hf => by
    have h1 := hd i hi
    unfold chain rootPath
    rw [if_neg (by omega), Int.toNat_natCast, List.reverse_cons, List.map_append]
    congr 1
    by_cases hp : parAt l i < 0
    · rw [if_pos hp]
      cases f with
      | zero => rfl
      | succ f => simp [chain, hp]
    · rw [if_neg hp, ← rootPath_chain hd f _ (by omega) (by omega), Int.toNat_of_nonneg (by omega)]

/-- What an iterator reads of the nodes. -/
def Linked (w : World) (n₀ : Nat) (l : List Seg) (nb : Nat → Nat) : Prop := ∀ j, j < l.length → nb j < n₀ ∧ w.cell? ⟨nb j, 2, none⟩ = some (.pointer (parPtr l nb j))
theorem Linked.below {w w' : World} {n₀ : Nat} {l : List Seg} {nb : Nat → Nat} (h : Linked w n₀ l nb) (hb : Below n₀ w w') : Linked w' n₀ l nb := fun j hj => ⟨(h j hj).1, (hb.cell (p := ⟨nb j, 2, none⟩) (h j hj).1).trans (h j hj).2⟩
/-- A box of one cell, kept by every round that goes on. -/
def BoxAt (W : World) (n₀ D Bs : Nat) (v : Value) (t : TypeId) : Prop := (Bs < n₀ ∨ D ≤ Bs) ∧ t ≠ 5 ∧ W.heap[Bs]? = some (.cells #[v] t (0, 0))
theorem BoxAt.cell {W : World} {n₀ D Bs : Nat} {v : Value} {t : TypeId} (h : BoxAt W n₀ D Bs v t) : W.cell? ⟨Bs, 0, none⟩ = some v := Row.cell (h.2.2 : Row W Bs t #[v]) 0
theorem BoxAt.keep {W W' : World} {n₀ D Bs : Nat} {v : Value} {t : TypeId} (h : BoxAt W n₀ D Bs v t) (hb : Below n₀ W W') (hk : KeepsN D W W') : BoxAt W' n₀ D Bs v t := by
  obtain ⟨h1, h2, h3⟩ := h
  refine ⟨h1, h2, ?_⟩
  rcases h1 with h1 | h1
  · exact (hb.block Bs h1).trans h3
  · exact hk.same Bs _ h1 h3 (fun c t' fz he => by injection he with hc ht; subst hc; subst ht; exact ⟨h2, .inl (Nat.le_refl 1)⟩)
theorem BoxAt.grown {W W' : World} {n₀ D Bs : Nat} {v : Value} {t : TypeId} (h : BoxAt W n₀ D Bs v t) {row : Option Nat} (hg : W.grownBy W' row) (hr : ∀ r, row = some r → ∃ o : Obj, W.heap[r]? = some o ∧ o.isCells = false) : BoxAt W' n₀ D Bs v t :=
  ⟨h.1, h.2.1, (hg.block Bs (Array.getElem?_eq_some_iff.1 h.2.2).1 (fun he => by
    obtain ⟨o, ho, hc⟩ := hr Bs he.symm
    rw [h.2.2] at ho
    injection ho with ho
    subst ho
    cases hc)).trans h.2.2⟩

end Go.Proofs.Ytadichddgpojpaa
/- impl.joinNames and impl.PathOf over paths. -/
namespace Go.Proofs.Ytadichddgpojpaa
open Go.RowKit Go.Shelf
attribute [local go_sem] Oper.semAt_some

theorem keptN_from {w w' : World} {b B Bl : Nat} (h : Lib.OthersKept 5 (some b) w w') (hb : Below Bl w w') (hB : b < B) : KeepsN B w w' :=
  ⟨hb.size, fun k o hk ho hn => h k o ho (fun he => by injection he with he; omega) (fun c fz he => (hn c _ fz he).1 rfl)⟩

set_option maxRecDepth 100000 in
set_option maxHeartbeats 2000000 in
theorem joinNamesR_any {gf : Nat} {lb : Array Value} (w : World) (l : List Seg) (nb : Nat → Nat) (hnode : ∀ x : Ix l, w.cell? ⟨nb x.1, 0, none⟩ = some (.string (l[x.1]'x.2).name)) (hone : ∀ s ∈ l, s.name.size ≤ 1)
    (S Sp : List (Ix l) → Prop) (N : Nat) (hN : N ≤ 1000) (heg : ∀ args w, (callFunc gf args).run Try.prog w = .ok (.enter gf args) w)
    (hseq : SeqR 19 gf lb (fun x : Ix l => #[.pointer (some ⟨nb x.1, 0, none⟩)]) w.heap.size (w.heap.size + 3) S Sp N w) :
    Calls Try.prog 60 #[.func (.func gf) #[] lb] w fun e w' => (∃ xs, S xs ∧ e = .returned (.string ⟨(nameBytes l xs).toArray⟩)) ∧ Below w.heap.size w w' := by
  refine (callsIn_wide (n := 20)).1 ?_
  refine callsIn_of_wp_marks Try.func60 rfl trivial ?_ rfl
  simp only [Try.ntmps60, List.size_toArray, List.length_cons, List.length_nil, Nat.reduceAdd, Nat.reduceSub, Array.replicate_succ, Array.replicate_zero, List.push_toArray, List.append_toArray, List.nil_append, List.cons_append]
  gi_wp2
  have hB0 : Below w.heap.size w (w.alloc (.cells #[.pointer none, .slice none 0 0] 123)) := (Below.refl _ w).alloc (Nat.le_refl _) _
  have hI0 : Lib.IsBuilderF 123 5 w.heap.size w.heap.size [] (w.alloc (.cells #[.pointer none, .slice none 0 0] 123)) := Lib.IsBuilderF.of (Lib.fresh_isBuilder _ _ w)
  refine wpIn_rangeFunc_R (by omega) (gf := gf) (lb := lb) rfl heg hseq (by simp) (by simp) hB0 (fun _ => rfl)
    (fun pre W => Lib.IsBuilderF 123 5 w.heap.size w.heap.size (Lib.byteCells (nameBytes l pre)) W ∧ Below w.heap.size w W)
    (fun _ _ _ => False)
    (OwnFrom.and (isB_own _ _ _ _ _ (fun pre => Lib.byteCells (nameBytes l pre))) (ownFrom_below (Nat.le_refl _) (by simp)))
    (fun _ _ _ _ _ hs _ _ => hs)
    ⟨hI0, hB0⟩
    (fun x => { tmps := #[.func (.func gf) #[] lb, undef, .string ⟨#[]⟩, .pointer (some ⟨w.heap.size, 0, none⟩), .pointer (some ⟨nb x.1, 0, none⟩), .func (.func gf) #[] lb, .pointer (some ⟨nb x.1, 0, none⟩), undef, undef, undef, undef, undef, undef], defers := [] }) ?assign ?body ?done ?stop
  case assign =>
    intro l x W K hK
    gi_wp2
    exact hK
  case body =>
    rintro l' pre x W ⟨hI, hB⟩ hlen _
    have hlt := World.block_lt_of_cell? w _ (hnode x)
    have nk : W.cell? ⟨nb x.1, 0, none⟩ = some (.string (l[x.1]'x.2).name) := (hB.cell (p := ⟨nb x.1, 0, none⟩) hlt).trans (hnode x)
    have HN : Hid _ := nameBytes_snoc l pre x
    have hl1 : (Lib.byteCells (nameBytes l pre)).length + (l[x.1]'x.2).name.size ≤ 140737488355328 := by
      have h1 := nameBytes_len hone pre
      have h2 := hone _ (List.getElem_mem x.2)
      have h3 : (Lib.byteCells (nameBytes l pre)).length = (nameBytes l pre).length := by simp [Lib.byteCells]
      omega
    generalize (l[x.1]'x.2).name = nm at *
    gi_wp2_with (refine ⟨trivial, ?_⟩; gi_at_call 100; refine (CallsIn.inRound l' (callsIn_wide.2 (writeString_any w.heap.size w.heap.size _ nm _ hI hl1 hB.size))).mono ?_; rintro e W1 ⟨rfl, hI1, hb1, hk1⟩)
    refine ⟨keptN_from hk1 hb1 (by simp), hb1, ?_, hB.trans hb1⟩
    rw [HN.out]
    have : Lib.byteCells (nameBytes l pre ++ nm.data.toList) = Lib.byteCells (nameBytes l pre) ++ Lib.strCells nm := by simp [Lib.byteCells, Lib.strCells]
    rw [this]
    exact hI1
  case done =>
    rintro D ys W hD hS ⟨hI, hB⟩ hK
    gi_wp2_with (refine ⟨trivial, ?_⟩; gi_at_call 101; refine (callsIn_wide.2 (Try.Builder_String_any_k w.heap.size w.heap.size _ _ hI hB.size)).mono ?_; rintro e W1 ⟨rfl, hI1, hb1, hk1⟩)
    have hbne : D ≠ w.heap.size := by simp at hD; omega
    have hK1 : W1.heap[D]? = some (.deferred (some [])) := hk1 D _ hK (fun he => hbne (by injection he)) (fun c fz he => by cases he)
    refine ⟨by simp, .inl ⟨_, _, rfl, run_takeDeferred hK1, ?_⟩⟩
    exact ⟨_, results_tmp rfl _ _ _, ⟨ys, hS, rfl⟩, (hB.trans hb1).trans (belowK_b (w := w) (Nat.le_refl _) W1 D _ _ (by simp at hD; omega) hK1 rfl rfl)⟩
  case stop =>
    rintro D c pre W _ _ h _
    exact h.elim

end Go.Proofs.Ytadichddgpojpaa
/- ChildrenOf: the program's and the model's. -/
namespace Go.Proofs.Ytadichddgpojpaa
open Go.RowKit Go.Shelf

def kidNames (l : List Seg) (i k : Nat) : ByteArray := ⟨((kidsOf l i k).flatMap (nmAt l)).toArray⟩
theorem kidNames_zero (l : List Seg) (i : Nat) : kidNames l i 0 = ⟨#[]⟩ := rfl
theorem kidNames_yes {l : List Seg} {i k : Nat} (hk : k < l.length) (h : parAt l k = (i : Int)) : kidNames l i (k + 1) = kidNames l i k ++ l[k].name := by
  apply WideShapes.bytes_inj
  show _ = (kidNames l i k ++ l[k].name).data.toList
  rw [ByteArray.data_append, Array.toList_append]
  show (kidsOf l i (k + 1)).flatMap (nmAt l) = (kidsOf l i k).flatMap (nmAt l) ++ _
  rw [kidsOf_succ, if_pos h, List.flatMap_append, List.flatMap_cons, List.flatMap_nil, List.append_nil, nmAt_of hk]
theorem kidNames_no {l : List Seg} {i k : Nat} (h : parAt l k ≠ (i : Int)) : kidNames l i (k + 1) = kidNames l i k := by
  unfold kidNames
  rw [kidsOf_succ, if_neg h, List.append_nil]
theorem kidNames_len {l : List Seg} (h : ∀ s ∈ l, s.name.size ≤ 1) (i : Nat) : ∀ k, k ≤ l.length → (kidNames l i k).size ≤ k
  | 0, _ => Nat.zero_le _
  | k + 1, hk => by
    have h1 := kidNames_len h i k (by omega)
    by_cases hp : parAt l k = (i : Int)
    · rw [kidNames_yes (by omega) hp, ByteArray.size_append]
      have := h _ (List.getElem_mem (show k < l.length by omega))
      omega
    · rw [kidNames_no hp]; omega

def kidsStr (l : List Seg) (s : ByteArray) : ByteArray := if indexB l s < 0 then ⟨#[]⟩ else kidNames l (indexB l s).toNat l.length
def hasSeg (l : List Seg) (s : ByteArray) : Bool := decide (0 ≤ indexB l s)
theorem index_valid {l : List Seg} {s : ByteArray} (h : 0 ≤ indexB l s) : validB l = true := by
  unfold indexB at h
  by_cases hv : validB l = true
  · exact hv
  · rw [if_neg hv] at h; omega

end Go.Proofs.Ytadichddgpojpaa
/- PathOf: the program's and the model's. -/
namespace Go.Proofs.Ytadichddgpojpaa
open Go.RowKit Go.Shelf

def namesAt (l : List Seg) (js : List Nat) : ByteArray := ⟨(js.flatMap (nmAt l)).toArray⟩
theorem namesAt_snoc {l : List Seg} (js : List Nat) {j : Nat} (hj : j < l.length) : namesAt l (js ++ [j]) = namesAt l js ++ l[j].name := by
  apply WideShapes.bytes_inj
  show _ = (namesAt l js ++ l[j].name).data.toList
  rw [ByteArray.data_append, Array.toList_append]
  show (js ++ [j]).flatMap (nmAt l) = js.flatMap (nmAt l) ++ _
  rw [List.flatMap_append, List.flatMap_cons, List.flatMap_nil, List.append_nil, nmAt_of hj]
theorem nmAt_len {l : List Seg} (h : ∀ s ∈ l, s.name.size ≤ 1) (j : Nat) : (nmAt l j).length ≤ 1 := by
  unfold nmAt
  cases hj : l[j]? with
  | none => exact Nat.zero_le _
  | some s =>
    have := h s (List.mem_of_getElem? hj)
    simpa using this
theorem namesAt_len {l : List Seg} (h : ∀ s ∈ l, s.name.size ≤ 1) : ∀ js : List Nat, (namesAt l js).size ≤ js.length
  | [] => Nat.le_refl 0
  | j :: js => by
    have h1 := namesAt_len h js
    have h2 := nmAt_len h j
    have e1 : ∀ is : List Nat, (namesAt l is).size = (is.flatMap (nmAt l)).length := fun is => by simp [namesAt, ByteArray.size]
    rw [e1] at h1 ⊢
    rw [List.flatMap_cons, List.length_append, List.length_cons]
    omega

def pathStr (l : List Seg) (s : ByteArray) : ByteArray := if indexB l s < 0 then ⟨#[]⟩ else namesAt l (rootPath l ((indexB l s).toNat + 1) (indexB l s).toNat)

end Go.Proofs.Ytadichddgpojpaa
/- Two paths from the root: what they have in common. No program. -/
namespace Go.Proofs.Ytadichddgpojpaa
open Go.RowKit

def rp (l : List Seg) (i : Nat) : List Nat := rootPath l (i + 1) i
theorem rootPath_fuel {l : List Seg} (hd : Down l l.length) : ∀ (f g i : Nat), i < l.length → i < f → i < g → rootPath l f i = rootPath l g i
  | 0, _, _, _, h, _ => absurd h (by omega)
  | _ + 1, 0, _, _, _, h => absurd h (by omega)
  | f + 1, g + 1, i, hi, hf, hg => by
    have h1 := hd i hi
    unfold rootPath
    by_cases hp : parAt l i < 0
    · rw [if_pos hp, if_pos hp]
    · rw [if_neg hp, if_neg hp, rootPath_fuel hd f g _ (by omega) (by omega) (by omega)]
theorem rp_root {l : List Seg} {i : Nat} (hp : parAt l i < 0) : rp l i = [i] := by
  unfold rp rootPath
  rw [if_pos hp]; rfl
theorem rp_step {l : List Seg} (hd : Down l l.length) {i p : Nat} (hi : i < l.length) (hp : parAt l i = (p : Int)) : rp l i = rp l p ++ [i] := by
  have h1 := hd i hi
  have h2 : rp l i = (if parAt l i < 0 then [] else rootPath l i (parAt l i).toNat) ++ [i] := rfl
  rw [h2, if_neg (by omega), hp, Int.toNat_natCast]
  unfold rp
  rw [rootPath_fuel hd i (p + 1) p (by omega) (by omega) (by omega)]
theorem par_cases {l : List Seg} (hd : Down l l.length) {i : Nat} (hi : i < l.length) : parAt l i < 0 ∨ ∃ p : Nat, parAt l i = (p : Int) ∧ p < i := by
  have h1 := hd i hi
  by_cases hp : parAt l i < 0
  · exact .inl hp
  · obtain ⟨p, hpe⟩ := Int.eq_ofNat_of_zero_le (show 0 ≤ parAt l i by omega)
    exact .inr ⟨p, hpe, by omega⟩
theorem rp_ind {l : List Seg} (hd : Down l l.length) {C : Nat → Prop} (h0 : ∀ i, i < l.length → parAt l i < 0 → C i) (h1 : ∀ i p, i < l.length → p < i → parAt l i = (p : Int) → C p → C i) : ∀ i, i < l.length → C i := by
  intro i
  induction i using Nat.strongRecOn with
  | ind i ih =>
    intro hi
    rcases par_cases hd hi with hp | ⟨p, hp, hpi⟩
    · exact h0 i hi hp
    · exact h1 i p hi hpi hp (ih p hpi (by omega))
theorem rp_last {l : List Seg} (hd : Down l l.length) (i : Nat) (hi : i < l.length) : ∃ A, rp l i = A ++ [i] := by
  rcases par_cases hd hi with hp | ⟨p, hp, _⟩
  · exact ⟨[], rp_root hp⟩
  · exact ⟨_, rp_step hd hi hp⟩
theorem rp_le {l : List Seg} (hd : Down l l.length) : ∀ i, i < l.length → ∀ v ∈ rp l i, v ≤ i :=
  rp_ind hd (fun i _ hp v hv => by rw [rp_root hp] at hv; simp at hv; omega) (fun i p hi hpi hp ih v hv => by
    rw [rp_step hd hi hp] at hv
    rcases List.mem_append.1 hv with h | h
    · have := ih v h; omega
    · simp at h; omega)
theorem rp_asc {l : List Seg} (hd : Down l l.length) : ∀ i, i < l.length → (rp l i).Pairwise (· < ·) :=
  rp_ind hd (fun i _ hp => by rw [rp_root hp]; exact List.pairwise_singleton _ _) (fun i p hi hpi hp ih => by
    rw [rp_step hd hi hp, List.pairwise_append]
    refine ⟨ih, List.pairwise_singleton _ _, fun a ha b hb => ?_⟩
    have := rp_le hd p (by omega) a ha
    simp at hb
    omega)
theorem rp_prefix {l : List Seg} (hd : Down l l.length) : ∀ i, i < l.length → ∀ v ∈ rp l i, rp l v <+: rp l i :=
  rp_ind hd (fun i _ hp v hv => by
    rw [rp_root hp] at hv
    simp at hv
    subst hv
    exact List.prefix_refl _) (fun i p hi hpi hp ih v hv => by
    have he := rp_step hd hi hp
    rw [he] at hv
    rcases List.mem_append.1 hv with h | h
    · rw [he]; exact (ih v h).trans (List.prefix_append _ _)
    · simp at h
      subst h
      exact List.prefix_refl _)
theorem par_nonneg {l : List Seg} (h : AllOk l l.length) {i : Nat} (hi : i < l.length) (h0 : 0 < i) : 0 ≤ parAt l i := by
  have h1 := h i hi
  rw [segOk_of hi] at h1
  simp only [Bool.and_eq_true] at h1
  have h2 := h1.2
  unfold parOk at h2
  rw [if_neg (by omega)] at h2
  exact (chain_mem (h.down.mono (Nat.le_of_lt hi)) i _ (by omega) _ (List.contains_iff_mem.1 h2)).1
theorem rp_head {l : List Seg} (h : AllOk l l.length) : ∀ i, i < l.length → ∃ A, rp l i = 0 :: A :=
  rp_ind h.down (fun i hi hp => by
    rcases Nat.eq_zero_or_pos i with rfl | h0
    · exact ⟨[], rp_root hp⟩
    · have := par_nonneg h hi h0; omega) (fun i p hi hpi hp ⟨A, hA⟩ => ⟨A ++ [i], by rw [rp_step h.down hi hp, hA]; rfl⟩)

def comLen {α : Type} [DecidableEq α] : List α → List α → Nat
  | a :: xs, b :: ys => if a = b then comLen xs ys + 1 else 0
  | _, _ => 0
theorem comLen_map {α β : Type} [DecidableEq α] [DecidableEq β] (f : α → β) : ∀ (xs ys : List α), (∀ a ∈ xs, ∀ b ∈ ys, f a = f b → a = b) → comLen (xs.map f) (ys.map f) = comLen xs ys
  | [], _, _ => by simp [comLen]
  | _ :: _, [], _ => by simp [comLen]
  | a :: xs, b :: ys, h => by
    have h1 := comLen_map f xs ys (fun x hx y hy => h x (List.mem_cons_of_mem _ hx) y (List.mem_cons_of_mem _ hy))
    simp only [List.map_cons, comLen]
    by_cases he : a = b
    · rw [if_pos he, if_pos (by rw [he]), h1]
    · rw [if_neg he, if_neg (fun e => he (h a List.mem_cons_self b List.mem_cons_self e))]
theorem comLen_prefix {α : Type} [DecidableEq α] : ∀ (Q xs ys : List α), Q <+: xs → Q <+: ys → Q.length ≤ comLen xs ys
  | [], _, _, _, _ => Nat.zero_le _
  | q :: Q, xs, ys, ⟨A, hA⟩, ⟨B, hB⟩ => by
    subst hA hB
    simp only [List.cons_append, comLen, List.length_cons, if_true]
    have := comLen_prefix Q (Q ++ A) (Q ++ B) ⟨A, rfl⟩ ⟨B, rfl⟩
    omega
theorem comLen_get {α : Type} [DecidableEq α] : ∀ (xs ys : List α) (k : Nat), k < comLen xs ys → ∃ x, xs[k]? = some x ∧ ys[k]? = some x
  | [], _, _, h => by simp [comLen] at h
  | _ :: _, [], _, h => by simp [comLen] at h
  | a :: xs, b :: ys, k, h => by
    simp only [comLen] at h
    by_cases he : a = b
    · rw [if_pos he] at h
      cases k with
      | zero => exact ⟨a, rfl, by rw [he]; rfl⟩
      | succ k => exact comLen_get xs ys k (by omega)
    · rw [if_neg he] at h; omega
theorem comLen_le {α : Type} [DecidableEq α] : ∀ (xs ys : List α), comLen xs ys ≤ xs.length ∧ comLen xs ys ≤ ys.length
  | [], _ => by simp [comLen]
  | _ :: _, [] => by simp [comLen]
  | a :: xs, b :: ys => by
    have h := comLen_le xs ys
    simp only [comLen, List.length_cons]
    split <;> omega

theorem snoc_unique {P A B : List Nat} {v : Nat} (hP : P.Pairwise (· < ·)) (hA : A ++ [v] <+: P) (hB : B ++ [v] <+: P) : A.length = B.length := by
  have hget : ∀ C, C ++ [v] <+: P → ∃ h : C.length < P.length, P[C.length] = v := fun C ⟨r, hr⟩ => by
    have hl : C.length < P.length := by rw [← hr]; simp
    refine ⟨hl, ?_⟩
    have : P[C.length]? = some v := by rw [← hr]; simp
    rw [List.getElem?_eq_getElem hl] at this
    injection this
  obtain ⟨ha, hva⟩ := hget A hA
  obtain ⟨hb, hvb⟩ := hget B hB
  have hp := List.pairwise_iff_getElem.1 hP
  rcases Nat.lt_trichotomy A.length B.length with h | h | h
  · have := hp _ _ ha hb h; omega
  · exact h
  · have := hp _ _ hb ha h; omega

/-- A beginning 'T' of the path of i, all on the path of j, behind which the path ends or leaves: it is what the two have in common. -/
theorem com_of {l : List Seg} (hd : Down l l.length) {i j : Nat} (hi : i < l.length) (hj : j < l.length) {T : List Nat} (hT : T <+: rp l i) (hall : ∀ v ∈ T, v ∈ rp l j)
    (hend : T = rp l i ∨ ∃ x, T ++ [x] <+: rp l i ∧ x ∉ rp l j) : comLen (rp l i) (rp l j) = T.length := by
  apply Nat.le_antisymm
  · apply Nat.le_of_not_lt
    intro hlt
    rcases hend with h | ⟨x, ⟨r, hr⟩, hx⟩
    · have := (comLen_le (rp l i) (rp l j)).1
      rw [h] at hlt; omega
    · obtain ⟨y, h1, h2⟩ := comLen_get _ _ _ hlt
      have h3 : (rp l i)[T.length]? = some x := by rw [← hr]; simp
      rw [h3] at h1
      injection h1 with h1
      subst h1
      exact hx (List.mem_of_getElem? h2)
  · rcases List.eq_nil_or_concat T with h | ⟨A, v, h⟩
    · rw [h]; exact Nat.zero_le _
    · rw [List.concat_eq_append] at h
      subst h
      have hv : v ∈ rp l j := hall v (by simp)
      obtain ⟨r, hr⟩ := hT
      have hvi : v ∈ rp l i := by rw [← hr]; simp
      have hvl : v < l.length := by have := rp_le hd i hi v hvi; omega
      obtain ⟨B, hB⟩ := rp_last hd v hvl
      have h1 := rp_prefix hd i hi v hvi
      have h2 := rp_prefix hd j hj v hv
      rw [hB] at h1 h2
      have hlen := snoc_unique (rp_asc hd i hi) ⟨r, hr⟩ h1
      have := comLen_prefix (B ++ [v]) _ _ h1 h2
      simp at this ⊢
      omega

end Go.Proofs.Ytadichddgpojpaa
/- Where segments lie. No program. -/
namespace Go.Proofs.Ytadichddgpojpaa
open Go.RowKit

def szs (l : List Seg) (js : List Nat) : Int := (js.map (sizeAt l)).sum
theorem szs_snoc (l : List Seg) (js : List Nat) (j : Nat) : szs l (js ++ [j]) = szs l js + sizeAt l j := by
  unfold szs
  rw [List.map_append, List.sum_append_int]
  simp
def endAt (l : List Seg) (i : Nat) : Int := szs l (rp l i)
def begAt (l : List Seg) (i : Nat) : Int := endAt l i - sizeAt l i
theorem endAt_beg (l : List Seg) (i : Nat) : endAt l i = begAt l i + sizeAt l i := by unfold begAt; omega
theorem begAt_root {l : List Seg} {i : Nat} (hp : parAt l i < 0) : begAt l i = 0 := by
  unfold begAt endAt
  rw [rp_root hp]
  simp [szs]
theorem begAt_step {l : List Seg} (hd : Down l l.length) {i p : Nat} (hi : i < l.length) (hp : parAt l i = (p : Int)) : begAt l i = endAt l p := by
  unfold begAt endAt
  rw [rp_step hd hi hp, szs_snoc]
  omega
theorem sizeAt_bd {l : List Seg} (h : validB l = true) {i : Nat} (hi : i < l.length) : 1 ≤ sizeAt l i ∧ sizeAt l i ≤ 99 := by
  rw [sizeAt_of hi]
  exact valid_size h hi
theorem place_bd {l : List Seg} (h : validB l = true) : ∀ i, i < l.length → 0 ≤ begAt l i ∧ begAt l i < endAt l i ∧ endAt l i ≤ 99 * ((i : Int) + 1) :=
  rp_ind (valid_all h).1.down (fun i hi hp => by
    have h1 := sizeAt_bd h hi
    have h2 := endAt_beg l i
    rw [begAt_root hp] at *
    omega) (fun i p hi hpi hp ih => by
    have h1 := sizeAt_bd h hi
    have h2 := endAt_beg l i
    rw [begAt_step (valid_all h).1.down hi hp] at *
    omega)
/-- Bounds that fit a machine's number. -/
theorem place_small {l : List Seg} (h : validB l = true) {i : Nat} (hi : i < l.length) : 0 ≤ begAt l i ∧ begAt l i < endAt l i ∧ endAt l i ≤ 792 := by
  have h1 := place_bd h i hi
  have h2 := (valid_all h).2.1
  omega

/-- The sizes of all of a list but one. -/
def szsNot (l : List Seg) (i : Nat) : List Nat → Int
  | [] => 0
  | j :: js => (if j = i then 0 else sizeAt l j) + szsNot l i js
theorem szsNot_append (l : List Seg) (i : Nat) : ∀ js ks, szsNot l i (js ++ ks) = szsNot l i js + szsNot l i ks
  | [], ks => by simp [szsNot]
  | j :: js, ks => by
    show (if j = i then 0 else sizeAt l j) + szsNot l i (js ++ ks) = (if j = i then 0 else sizeAt l j) + szsNot l i js + szsNot l i ks
    rw [szsNot_append l i js ks]
    omega
theorem szsNot_bd {l : List Seg} (h : validB l = true) (i : Nat) : ∀ js : List Nat, (∀ j ∈ js, j < l.length) → 0 ≤ szsNot l i js ∧ szsNot l i js ≤ 99 * (js.length : Int)
  | [], _ => by simp [szsNot]
  | j :: js, hj => by
    have h1 := szsNot_bd h i js (fun k hk => hj k (List.mem_cons_of_mem _ hk))
    have h2 := sizeAt_bd h (hj j List.mem_cons_self)
    unfold szsNot
    rw [List.length_cons]
    split <;> omega
theorem szsNot_far (l : List Seg) (i : Nat) : ∀ js : List Nat, (∀ j ∈ js, j ≠ i) → szsNot l i js = szs l js
  | [], _ => rfl
  | j :: js, hj => by
    have h1 := szsNot_far l i js (fun k hk => hj k (List.mem_cons_of_mem _ hk))
    unfold szsNot
    rw [if_neg (hj j List.mem_cons_self), h1]
    simp [szs]
theorem szsNot_rp {l : List Seg} (hd : Down l l.length) {i : Nat} (hi : i < l.length) : szsNot l i (rp l i) = begAt l i := by
  obtain ⟨A, hA⟩ := rp_last hd i hi
  have hlt : ∀ j ∈ A, j ≠ i := fun j hj => by
    have h1 := rp_asc hd i hi
    rw [hA, List.pairwise_append] at h1
    have := h1.2.2 j hj i (by simp)
    omega
  unfold begAt endAt
  rw [hA, szsNot_append, szsNot_far l i A hlt, szs_snoc]
  simp [szsNot]

/-- The greatest end of the first k. -/
def roomTo (l : List Seg) : Nat → Int
  | 0 => 0
  | k + 1 => max (roomTo l k) (endAt l k)
theorem roomTo_bd {l : List Seg} (h : validB l = true) : ∀ k, k ≤ l.length → 0 ≤ roomTo l k ∧ roomTo l k ≤ 792
  | 0, _ => by simp [roomTo]
  | k + 1, hk => by
    have h1 := roomTo_bd h k (by omega)
    have h2 := place_small h (show k < l.length by omega)
    unfold roomTo
    omega
theorem roomTo_le (l : List Seg) : ∀ k j, j < k → endAt l j ≤ roomTo l k
  | 0, _, h => absurd h (by omega)
  | k + 1, j, h => by
    unfold roomTo
    rcases Nat.lt_or_ge j k with h1 | h1
    · have := roomTo_le l k j h1; omega
    · obtain rfl : j = k := by omega
      omega
def roomB (l : List Seg) : Int := if validB l = true then roomTo l l.length else -1
def savedB (l : List Seg) : Int := if validB l = true then sumTo l l.length - roomTo l l.length else -1

/-- The first of the first k + 1 that ends last. -/
def lastIx (l : List Seg) : Nat → Nat
  | 0 => 0
  | k + 1 => if endAt l (lastIx l k) < endAt l (k + 1) then k + 1 else lastIx l k
theorem lastIx_le (l : List Seg) : ∀ k, lastIx l k ≤ k
  | 0 => Nat.le_refl 0
  | k + 1 => by
    have := lastIx_le l k
    unfold lastIx
    split <;> omega
theorem lastIx_room {l : List Seg} (h : validB l = true) : ∀ k, k < l.length → endAt l (lastIx l k) = roomTo l (k + 1)
  | 0, hk => by
    have h1 := place_small h hk
    show endAt l 0 = max 0 (endAt l 0)
    omega
  | k + 1, hk => by
    have h1 := lastIx_room h k (by omega)
    unfold lastIx
    rw [roomTo]
    split <;> omega
theorem lastIx_first {l : List Seg} : ∀ k j, j < lastIx l k → endAt l j < endAt l (lastIx l k)
  | 0, j, hj => absurd hj (by simp [lastIx])
  | k + 1, j, hj => by
    unfold lastIx at hj ⊢
    by_cases hc : endAt l (lastIx l k) < endAt l (k + 1)
    · rw [if_pos hc] at hj ⊢
      rcases Nat.lt_trichotomy j (lastIx l k) with h1 | h1 | h1
      · have := lastIx_first k j h1; omega
      · rw [h1]; exact hc
      · have : endAt l j ≤ endAt l (lastIx l k) := lastIx_max k j (by omega)
        omega
    · rw [if_neg hc] at hj ⊢
      exact lastIx_first k j hj
where lastIx_max : ∀ k j, j ≤ k → endAt l j ≤ endAt l (lastIx l k)
  | 0, j, hj => by
    obtain rfl : j = 0 := by omega
    exact Int.le_refl _
  | k + 1, j, hj => by
    unfold lastIx
    by_cases hc : endAt l (lastIx l k) < endAt l (k + 1)
    · rw [if_pos hc]
      rcases Nat.lt_or_ge j (k + 1) with h1 | h1
      · have := lastIx_max k j (by omega); omega
      · obtain rfl : j = k + 1 := by omega
        exact Int.le_refl _
    · rw [if_neg hc]
      rcases Nat.lt_or_ge j (k + 1) with h1 | h1
      · exact lastIx_max k j (by omega)
      · obtain rfl : j = k + 1 := by omega
        omega

def addrB (l : List Seg) (s : ByteArray) : Int := if indexB l s < 0 then -1 else begAt l (indexB l s).toNat
def endB (l : List Seg) (s : ByteArray) : Int := if indexB l s < 0 then -1 else endAt l (indexB l s).toNat
def lapB (l : List Seg) (s t : ByteArray) : Int :=
  if indexB l s < 0 ∨ indexB l t < 0 then -1
  else max (min (endAt l (indexB l s).toNat) (endAt l (indexB l t).toNat) - max (begAt l (indexB l s).toNat) (begAt l (indexB l t).toNat)) 0

end Go.Proofs.Ytadichddgpojpaa
