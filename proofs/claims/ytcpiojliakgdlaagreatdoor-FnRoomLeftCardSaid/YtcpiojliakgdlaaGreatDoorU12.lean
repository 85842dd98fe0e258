/- Joined: Rf Pp Jr Ch Po Cp Ep Vc. -/
import Derived.Test.YtcpiojliakgdlaaGreatDoorU11
import Derived.Test.YtcpiojliakgdlaaGreatDoorU09
/- A range over a function whose iterator may itself range over a function: what a round keeps is said of blocks, not of cells alone. -/
namespace Go.Proofs.YtcpiojliakgdlaaGreatDoor
open Go.RowKit Go.Shelf

/-- What a round may not write: all but rows of bytes and rows of two cells or more (states of loading are kept). -/
def Firm (o : Obj) : Prop := ∀ c t fz, o = .cells c t fz → t ≠ 5 ∧ (c.size ≤ 1 ∨ t = 999999)

/-- All from block 'B' on that is firm lies as it lay. -/
structure KeepsN (B : Nat) (W W' : World) : Prop where
  size : W.heap.size ≤ W'.heap.size
  same : ∀ (k : Nat) (o : Obj), B ≤ k → W.heap[k]? = some o → Firm o → W'.heap[k]? = some o
theorem KeepsN.refl (B : Nat) (W : World) : KeepsN B W W := ⟨Nat.le_refl _, fun _ _ _ h _ => h⟩
theorem KeepsN.trans {B : Nat} {X Y Z : World} (h : KeepsN B X Y) (k : KeepsN B Y Z) : KeepsN B X Z := ⟨Nat.le_trans h.size k.size, fun i o hB hi ho => k.same i o hB (h.same i o hB hi ho) ho⟩
theorem KeepsN.mono {B B' : Nat} {X Y : World} (h : KeepsN B X Y) (hB : B ≤ B') : KeepsN B' X Y := ⟨h.size, fun i o hi ho hn => h.same i o (by omega) ho hn⟩
theorem KeepsN.put {B l : Nat} (W : World) (o : Obj) (hl : l < B) : KeepsN B W (W.putObj l o) := by
  have hg := grownBy_putObj' W l o
  exact ⟨hg.size, fun k o' hk ho _ => (hg.block k (Array.getElem?_eq_some_iff.1 ho).1 (fun he => by injection he with he; omega)).trans ho⟩
theorem KeepsN.alloc (B : Nat) (W : World) (o : Obj) : KeepsN B W (W.alloc o) :=
  ⟨by simp, fun k o' _ ho _ => (Below.heap_alloc W o k (Array.getElem?_eq_some_iff.1 ho).1).trans ho⟩

/-- An iterator's contract: the rounds that go on keep all from 'D' on (and what lies below 'n₀'), a round that says 'no more' keeps what the iterator itself has laid. -/
def SeqR {α : Type} (n : Nat) (g : Nat) (lb : Array Value) (encs : α → Array Value) (n₀ D : Nat) (S Sp : List α → Prop) (N : Nat) (w : World) : Prop :=
  ∀ (l : Nat) (J Jx : List α → World → Prop) (W : World), Below w.heap.size w W → D ≤ W.heap.size → OwnFrom W.heap.size J → OwnFrom W.heap.size Jx →
    (∀ pre x W1, J pre W1 → pre.length < N → W.heap.size ≤ W1.heap.size → YieldAt Fence.wide (n - 1) Tryz.prog l (encs x) W1 fun e W' =>
      (e = .returned (.bool true) ∧ J (pre ++ [x]) W' ∧ Below n₀ W1 W' ∧ KeepsN D W1 W') ∨ (e = .returned (.bool false) ∧ Jx (pre ++ [x]) W' ∧ KeepsN W.heap.size W1 W')) →
    J [] W →
    CallsIn Fence.wide n Tryz.prog g (#[.func (.yield l) #[] #[]] ++ lb) W fun e W' => (∃ v, e = .returned v) ∧ ((∃ xs, S xs ∧ J xs W') ∨ (∃ pre, Sp pre ∧ Jx pre W'))

/-- How the body of a round may be left. -/
def ownPostR {α : Type} (B n₀ D : Nat) (I : List α → World → Prop) (Ix : Code → List α → World → Prop) (xs : List α) (W : World) : Exit → Act → World → Prop
  | .normal, _, W' => KeepsN (min B D) W W' ∧ Below n₀ W W' ∧ I xs W'
  | .ret, _, W' => KeepsN B W W' ∧ Ix .ret xs W'
  | .exit id, _, W' => KeepsN B W W' ∧ Ix (.exit id) xs W'
  | .goto t, _, W' => KeepsN B W W' ∧ Ix (.goto t) xs W'
  | .panic _, _, _ => False
  | .outgrown, _, _ => False

theorem wpIn_rangeFunc_R {α : Type} {n : Nat} {g : Operand} {ps : Array Tmp} {assign body : Code} {Q : Exit → Act → World → Prop} {a : Act} {w : World}
    (h1 : 1 ≤ n) {gf : Nat} {lb : Array Value} (hg : a.eval g = .func (.func gf) #[] lb) (eg : ∀ args w, (callFunc gf args).run Tryz.prog w = .ok (.enter gf args) w)
    {encs : α → Array Value} {n₀ D : Nat} {S Sp : List α → Prop} {N : Nat} {w0 : World} (hseq : SeqR (n - 1) gf lb encs n₀ D S Sp N w0)
    (hD : D ≤ w.heap.size + 2) (hn₀ : n₀ ≤ w.heap.size) (hb0 : Below w0.heap.size w0 w) (hps : ∀ x, (encs x).size = ps.size)
    (I : List α → World → Prop) (Ix : Code → List α → World → Prop) (hI : OwnFrom w.heap.size I) (hIx : ∀ c, OwnFrom w.heap.size (Ix c)) (h0 : I [] w) (a₁ : α → Act)
    (hassign : ∀ (l : Nat) (x : α) (W : World) (K : Act → World → Prop), K (a₁ x) W →
      assign.wpIn (Fence.wide.inRound l) (n - 1 - 1) Tryz.prog (Exit.then K (fun _ _ _ => False)) { tmps := (ps.zip (encs x)).foldl (fun t (p, v) => t.setIfInBounds p v) a.tmps, defers := [] } W)
    (hbody : ∀ (l : Nat) (pre : List α) (x : α) (W : World), I pre W → pre.length < N → w.heap.size + 2 ≤ W.heap.size → body.wpIn (Fence.wide.inRound l) (n - 1 - 1) Tryz.prog (ownPostR w.heap.size n₀ D I Ix (pre ++ [x]) W) (a₁ x) W)
    (hdone : ∀ (L : Nat) (xs : List α) (W : World), w.heap.size ≤ L → S xs → I xs W → W.heap[L]? = some (.deferred (some [])) → Q .normal { a with defers := { target := .collected L, args := #[] } :: a.defers } W)
    (hstop : ∀ (L : Nat) (c : Code) (pre : List α) (W : World), w.heap.size ≤ L → Sp pre → Ix c pre W → W.heap[L]? = some (.deferred (some [])) → c.wpIn Fence.wide n Tryz.prog Q { a with defers := { target := .collected L, args := #[] } :: a.defers } W) :
    (Code.rangeFunc g ps assign body).wpIn Fence.wide n Tryz.prog Q a w := by
  refine wpIn_rangeFunc ?_
  intro fn hfn
  rw [show Fence.wide.round = none from rfl]
  obtain ⟨rec, hrec⟩ : ∃ rec : LoopState → Option Code → Loop, rec = fun st pe => { state := st, pending := pe, fn, tmps := a.tmps, params := ps, assign, body, defers := w.heap.size } := ⟨_, rfl⟩
  obtain ⟨W1, hW1⟩ : ∃ W1, (w.alloc (.deferred (some []))).alloc (.loop (rec .ready none)) = W1 := ⟨_, rfl⟩
  have hz1 : W1.heap.size = w.heap.size + 2 := by rw [← hW1]; simp
  have hL1 : W1.heap[w.heap.size + 1]? = some (.loop (rec .ready none)) := by
    rw [← hW1]; have := World.alloc_heap_new (w.alloc (.deferred (some []))) (.loop (rec .ready none)); rwa [World.size_alloc] at this
  have hK1 : W1.heap[w.heap.size]? = some (.deferred (some [])) := by
    rw [← hW1]; exact (Below.heap_alloc _ _ _ (by simp)).trans (World.alloc_heap_new w _)
  have hI1 : I [] W1 := by rw [← hW1]; exact hI.alloc _ (hI.alloc _ h0)
  have hb1 : Below w0.heap.size w0 W1 := by
    rw [← hW1]; exact hb0.trans ((((Below.refl _ w).alloc (Nat.le_refl _) _).alloc (by simp) _).mono hb0.size)
  refine ⟨w.heap.size + 1, [{ target := .collected w.heap.size, args := #[] }], W1, { target := .fn (.func gf) lb, args := #[.func (.yield (w.heap.size + 1)) #[] #[]] }, W1, gf,
    #[.func (.yield (w.heap.size + 1)) #[] #[]] ++ lb, W1, ?_, ?_, ?_, ?_, fun _ => h1, ?_⟩
  · rw [← hW1, hrec]; exact run_enterLoop_outer _ _ _ _ _
  · simp only [resolve, hg]
    simp [go_sem]
  · intro f' hf'; simp [Target.leads] at hf'; subst hf'; exact trivial
  · simp [invoke, go_sem, eg]
  · have hrow : ∀ {A B : World} {row : Option Nat}, (∀ r, row = some r → W1.heap.size ≤ r ∧ ∃ o : Obj, A.heap[r]? = some o ∧ o.isCells = false) → A.grownBy B row → ∀ (k : Nat) (o : Obj), k < W1.heap.size → A.heap[k]? = some o → B.heap[k]? = some o :=
      fun hr hg' k o hk ho => (hg'.block k (Array.getElem?_eq_some_iff.1 ho).1 (fun he => by have := (hr k he.symm).1; omega)).trans ho
    have hlow : ∀ {A : World} {row : Option Nat}, (∀ r, row = some r → W1.heap.size ≤ r ∧ ∃ o : Obj, A.heap[r]? = some o ∧ o.isCells = false) → (∀ r, row = some r → w.heap.size ≤ r ∧ ∃ o : Obj, A.heap[r]? = some o ∧ o.isCells = false) :=
      fun hr r e => ⟨by have := (hr r e).1; omega, (hr r e).2⟩
    refine (hseq (w.heap.size + 1)
      (fun pre W => I pre W ∧ W.heap[w.heap.size + 1]? = some (.loop (rec .ready none)) ∧ W.heap[w.heap.size]? = some (.deferred (some [])))
      (fun pre W => ∃ c, Ix c pre W ∧ W.heap[w.heap.size + 1]? = some (.loop (rec .done (some c))) ∧ W.heap[w.heap.size]? = some (.deferred (some [])))
      W1 hb1 (by omega)
      (fun s A B row hs hg' hr => ⟨hI s A B row hs.1 hg' (hlow hr), hrow hr hg' _ _ (by omega) hs.2.1, hrow hr hg' _ _ (by omega) hs.2.2⟩)
      (fun s A B row hs hg' hr => by
        obtain ⟨c, hc, hl, hk⟩ := hs
        exact ⟨c, hIx c s A B row hc hg' (hlow hr), hrow hr hg' _ _ (by omega) hl, hrow hr hg' _ _ (by omega) hk⟩)
      ?_ ⟨hI1, hL1, hK1⟩).mono ?_
    · rintro pre x W ⟨hi, hl, hk⟩ hlen hWz
      have hlt : w.heap.size + 1 < W.heap.size := (Array.getElem?_eq_some_iff.1 hl).1
      have hy := run_yield (P := Tryz.prog) (args := encs x) hl (by rw [hrec]; exact hps x)
      rw [hrec] at hy
      refine ⟨fn, _, assign, body, hy, roundIn_of_wpIn hfn (hassign _ x W _ ⟨_, run_beginRound hl (by rw [hrec]), ?_⟩)⟩
      have hl2 : (W.putObj (w.heap.size + 1) (.loop { rec .ready none with state := .busy })).heap[w.heap.size + 1]? = some (.loop { rec .ready none with state := .busy }) := World.putObj_heap_same hlt
      have hk2 : (W.putObj (w.heap.size + 1) (.loop { rec .ready none with state := .busy })).heap[w.heap.size]? = some (.deferred (some [])) := (World.putObj_heap_other (by omega)).trans hk
      have hsz2 : (W.putObj (w.heap.size + 1) (.loop { rec .ready none with state := .busy })).heap.size = W.heap.size := by simp [World.putObj]
      refine wpIn_mono (hbody _ pre x _ (hI.putObj _ hi (by omega) hl rfl) hlen (by rw [hsz2]; omega)) ?_
      have fin : ∀ (jump : Option Code) (W3 : World), KeepsN w.heap.size (W.putObj (w.heap.size + 1) (.loop { rec .ready none with state := .busy })) W3 →
          (Instr.endRound (w.heap.size + 1) jump).run Tryz.prog W3 = .ok (.bool jump.isNone) (W3.putObj (w.heap.size + 1) (.loop (rec (if jump.isNone then .ready else .done) jump))) ∧
          W3.heap[w.heap.size + 1]? = some (.loop { rec .ready none with state := .busy }) ∧
          (W3.putObj (w.heap.size + 1) (.loop (rec (if jump.isNone then .ready else .done) jump))).heap[w.heap.size + 1]? = some (.loop (rec (if jump.isNone then .ready else .done) jump)) ∧
          (W3.putObj (w.heap.size + 1) (.loop (rec (if jump.isNone then .ready else .done) jump))).heap[w.heap.size]? = some (.deferred (some [])) := fun jump W3 hk3 => by
        have hl3 := hk3.same _ _ (by omega) hl2 (fun c t fz he => by cases he)
        have := run_endRound (P := Tryz.prog) jump hl3
        rw [hrec] at this ⊢
        exact ⟨this, by rw [hrec] at hl3; exact hl3, World.putObj_heap_same (Array.getElem?_eq_some_iff.1 hl3).1, (World.putObj_heap_other (by omega)).trans (hk3.same _ _ (Nat.le_refl _) hk2 (fun c t fz he => by cases he))⟩
      have far : ∀ (jump : Option Code) (W3 : World), KeepsN w.heap.size (W.putObj (w.heap.size + 1) (.loop { rec .ready none with state := .busy })) W3 → KeepsN W1.heap.size W (W3.putObj (w.heap.size + 1) (.loop (rec (if jump.isNone then .ready else .done) jump))) := fun jump W3 hk3 =>
        ((KeepsN.put W _ (by omega)).trans (hk3.mono (by omega))).trans (KeepsN.put W3 _ (by omega))
      rintro e a3 W3 hp
      cases e with
      | normal =>
        obtain ⟨hk3, hkp3, hi3⟩ := hp
        obtain ⟨hr, hl3, hl4, hk4⟩ := fin none W3 (hk3.mono (Nat.min_le_left _ _))
        refine ⟨_, _, hr, .inl ⟨rfl, ⟨hI.putObj _ hi3 (by omega) hl3 rfl, hl4, hk4⟩, ?_, ?_⟩⟩
        · have b1 : Below n₀ W (W.putObj (w.heap.size + 1) (.loop { rec .ready none with state := .busy })) := (Below.refl n₀ W).grown (grownBy_putObj' W _ _) (by omega) (fun k e => by cases e; omega)
          exact (b1.trans hkp3).trans ((Below.refl n₀ W3).grown (grownBy_putObj' W3 _ _) (by have := hk3.size; rw [hsz2] at this; omega) (fun k e => by cases e; omega))
        · refine ⟨?_, fun k o hkD ho hno => ?_⟩
          · have h2 := hk3.size
            rw [hsz2] at h2
            simpa [World.putObj] using h2
          · by_cases hkl : k = w.heap.size + 1
            · subst hkl
              rw [hl] at ho
              injection ho with ho
              subst ho
              exact hl4
            · rw [World.putObj_heap_other (by omega)]
              exact hk3.same k o (by have := Nat.min_le_right w.heap.size D; omega) ((World.putObj_heap_other (by omega)).trans ho) hno
      | ret =>
        obtain ⟨hk3, hi3⟩ := hp
        obtain ⟨hr, hl3, hl4, hk4⟩ := fin (some .ret) W3 hk3
        exact ⟨_, _, hr, .inr ⟨rfl, ⟨.ret, (hIx _).putObj _ hi3 (by omega) hl3 rfl, hl4, hk4⟩, far _ _ hk3⟩⟩
      | exit id =>
        obtain ⟨hk3, hi3⟩ := hp
        obtain ⟨hr, hl3, hl4, hk4⟩ := fin (some (.exit id)) W3 hk3
        exact ⟨_, _, hr, .inr ⟨rfl, ⟨.exit id, (hIx _).putObj _ hi3 (by omega) hl3 rfl, hl4, hk4⟩, far _ _ hk3⟩⟩
      | goto t =>
        obtain ⟨hk3, hi3⟩ := hp
        obtain ⟨hr, hl3, hl4, hk4⟩ := fin (some (.goto t)) W3 hk3
        exact ⟨_, _, hr, .inr ⟨rfl, ⟨.goto t, (hIx _).putObj _ hi3 (by omega) hl3 rfl, hl4, hk4⟩, far _ _ hk3⟩⟩
      | panic ch => exact hp.elim
      | outgrown => exact hp.elim
    · rintro e W2 ⟨⟨v, rfl⟩, (⟨xs, hS, hi, hl, hk⟩ | ⟨pre, hSp, c, hi, hl, hk⟩)⟩
      · exact ⟨none, _, by have := run_endLoop (P := Tryz.prog) hl (by rw [hrec]; simp); rw [hrec] at this; exact this, hdone _ xs _ (Nat.le_refl _) hS (hI.putObj _ hi (by omega) hl rfl) ((World.putObj_heap_other (by omega)).trans hk)⟩
      · exact ⟨some c, _, by have := run_endLoop (P := Tryz.prog) hl (by rw [hrec]; simp); rw [hrec] at this; exact this, hstop _ c pre _ (Nat.le_refl _) hSp ((hIx c).putObj _ hi (by omega) hl rfl) ((World.putObj_heap_other (by omega)).trans hk)⟩

end Go.Proofs.YtcpiojliakgdlaaGreatDoor
/- The path of a node, yielded by an iterator that calls itself. -/
namespace Go.Proofs.YtcpiojliakgdlaaGreatDoor
open Go.RowKit Go.Shelf
attribute [local go_sem] Oper.semAt_some

theorem yield_any {m : Nat} (m' : Nat) {P : Program} {l : Nat} {args : Array Value} {W : World} {R : Ending → World → Prop} (h : YieldAt Fence.wide m P l args W R) : YieldAt Fence.wide m' P l args W R := by
  obtain ⟨fn, tmps, assign, body, hy, hR⟩ := h
  exact ⟨fn, tmps, assign, body, hy, ⟨hR.1, fun c cs _ => hR.2 c cs (fun d h => by simp [Fence.wide] at h)⟩⟩

/-- From the root down to a segment, by index. -/
def rootPath (l : List Seg) : Nat → Nat → List Nat
  | 0, _ => []
  | f + 1, i => (if parAt l i < 0 then [] else rootPath l f (parAt l i).toNat) ++ [i]
theorem rootPath_len (l : List Seg) : ∀ f i, (rootPath l f i).length ≤ f
  | 0, _ => Nat.le_refl 0
  | f + 1, i => by
    unfold rootPath
    have := rootPath_len l f (parAt l i).toNat
    split <;> simp <;> omega
theorem rootPath_lt {l : List Seg} (hd : Down l l.length) : ∀ f i, i < l.length → ∀ j ∈ rootPath l f i, j < l.length
  | 0, _, _, j, hj => by simp [rootPath] at hj
  | f + 1, i, hi, j, hj => by
    unfold rootPath at hj
    have h1 := hd i hi
    rcases List.mem_append.1 hj with h | h
    · split at h
      · simp at h
      · exact rootPath_lt hd f _ (by omega) j h
    · simp at h; omega
theorem rootPath_chain {l : List Seg} (hd : Down l l.length) : ∀ f i, i < l.length → i < f → (chain l f (i : Int)).reverse = (rootPath l f i).map (fun j : Nat => (j : Int))
  | 0, i, _, h => absurd h (by omega)
  | f + 1, i, hi, hf => by
    have h1 := hd i hi
    unfold chain rootPath
    rw [if_neg (by omega), Int.toNat_natCast, List.reverse_cons, List.map_append]
    congr 1
    by_cases hp : parAt l i < 0
    · rw [if_pos hp]
      cases f with
      | zero => rfl
      | succ f => simp [chain, hp]
    · rw [if_neg hp, ← rootPath_chain hd f _ (by omega) (by omega), Int.toNat_of_nonneg (by omega)]

/-- What an iterator reads of the nodes. -/
def Linked (w : World) (n₀ : Nat) (l : List Seg) (nb : Nat → Nat) : Prop := ∀ j, j < l.length → nb j < n₀ ∧ w.cell? ⟨nb j, 2, none⟩ = some (.pointer (parPtr l nb j))
theorem Linked.below {w w' : World} {n₀ : Nat} {l : List Seg} {nb : Nat → Nat} (h : Linked w n₀ l nb) (hb : Below n₀ w w') : Linked w' n₀ l nb := fun j hj => ⟨(h j hj).1, (hb.cell (p := ⟨nb j, 2, none⟩) (h j hj).1).trans (h j hj).2⟩
/-- A box of one cell, kept by every round that goes on. -/
def BoxAt (W : World) (n₀ D Bs : Nat) (v : Value) (t : TypeId) : Prop := (Bs < n₀ ∨ D ≤ Bs) ∧ t ≠ 5 ∧ W.heap[Bs]? = some (.cells #[v] t (0, 0))
theorem BoxAt.cell {W : World} {n₀ D Bs : Nat} {v : Value} {t : TypeId} (h : BoxAt W n₀ D Bs v t) : W.cell? ⟨Bs, 0, none⟩ = some v := Row.cell (h.2.2 : Row W Bs t #[v]) 0
theorem BoxAt.keep {W W' : World} {n₀ D Bs : Nat} {v : Value} {t : TypeId} (h : BoxAt W n₀ D Bs v t) (hb : Below n₀ W W') (hk : KeepsN D W W') : BoxAt W' n₀ D Bs v t := by
  obtain ⟨h1, h2, h3⟩ := h
  refine ⟨h1, h2, ?_⟩
  rcases h1 with h1 | h1
  · exact (hb.block Bs h1).trans h3
  · exact hk.same Bs _ h1 h3 (fun c t' fz he => by injection he with hc ht; subst hc; subst ht; exact ⟨h2, .inl (Nat.le_refl 1)⟩)
theorem BoxAt.grown {W W' : World} {n₀ D Bs : Nat} {v : Value} {t : TypeId} (h : BoxAt W n₀ D Bs v t) {row : Option Nat} (hg : W.grownBy W' row) (hr : ∀ r, row = some r → ∃ o : Obj, W.heap[r]? = some o ∧ o.isCells = false) : BoxAt W' n₀ D Bs v t :=
  ⟨h.1, h.2.1, (hg.block Bs (Array.getElem?_eq_some_iff.1 h.2.2).1 (fun he => by
    obtain ⟨o, ho, hc⟩ := hr Bs he.symm
    rw [h.2.2] at ho
    injection ho with ho
    subst ho
    cases hc)).trans h.2.2⟩

end Go.Proofs.YtcpiojliakgdlaaGreatDoor
/- impl.joinNames and impl.PathOf over paths. -/
namespace Go.Proofs.YtcpiojliakgdlaaGreatDoor
open Go.RowKit Go.Shelf
attribute [local go_sem] Oper.semAt_some

end Go.Proofs.YtcpiojliakgdlaaGreatDoor
/- ChildrenOf: the program's and the model's. -/
namespace Go.Proofs.YtcpiojliakgdlaaGreatDoor
open Go.RowKit Go.Shelf

theorem index_valid {l : List Seg} {s : ByteArray} (h : 0 ≤ indexB l s) : validB l = true := by
  unfold indexB at h
  by_cases hv : validB l = true
  · exact hv
  · rw [if_neg hv] at h; omega

end Go.Proofs.YtcpiojliakgdlaaGreatDoor
/- PathOf: the program's and the model's. -/
namespace Go.Proofs.YtcpiojliakgdlaaGreatDoor
open Go.RowKit Go.Shelf

def namesAt (l : List Seg) (js : List Nat) : ByteArray := ⟨(js.flatMap (nmAt l)).toArray⟩
theorem namesAt_snoc {l : List Seg} (js : List Nat) {j : Nat} (hj : j < l.length) : namesAt l (js ++ [j]) = namesAt l js ++ l[j].name := by
  apply WideShapes.bytes_inj
  show _ = (namesAt l js ++ l[j].name).data.toList
  rw [ByteArray.data_append, Array.toList_append]
  show (js ++ [j]).flatMap (nmAt l) = js.flatMap (nmAt l) ++ _
  rw [List.flatMap_append, List.flatMap_cons, List.flatMap_nil, List.append_nil, nmAt_of hj]
end Go.Proofs.YtcpiojliakgdlaaGreatDoor
/- Two paths from the root: what they have in common. No program. -/
namespace Go.Proofs.YtcpiojliakgdlaaGreatDoor
open Go.RowKit

def rp (l : List Seg) (i : Nat) : List Nat := rootPath l (i + 1) i
theorem rootPath_fuel {l : List Seg} (hd : Down l l.length) : ∀ (f g i : Nat), i < l.length → i < f → i < g → rootPath l f i = rootPath l g i
  | 0, _, _, _, h, _ => absurd h (by omega)
  | _ + 1, 0, _, _, _, h => absurd h (by omega)
  | f + 1, g + 1, i, hi, hf, hg => by
    have h1 := hd i hi
    unfold rootPath
    by_cases hp : parAt l i < 0
    · rw [if_pos hp, if_pos hp]
    · rw [if_neg hp, if_neg hp, rootPath_fuel hd f g _ (by omega) (by omega) (by omega)]
theorem rp_root {l : List Seg} {i : Nat} (hp : parAt l i < 0) : rp l i = [i] := by
  unfold rp rootPath
  rw [if_pos hp]; rfl
theorem rp_step {l : List Seg} (hd : Down l l.length) {i p : Nat} (hi : i < l.length) (hp : parAt l i = (p : Int)) : rp l i = rp l p ++ [i] := by
  have h1 := hd i hi
  have h2 : rp l i = (if parAt l i < 0 then [] else rootPath l i (parAt l i).toNat) ++ [i] := rfl
  rw [h2, if_neg (by omega), hp, Int.toNat_natCast]
  unfold rp
  rw [rootPath_fuel hd i (p + 1) p (by omega) (by omega) (by omega)]
theorem par_cases {l : List Seg} (hd : Down l l.length) {i : Nat} (hi : i < l.length) : parAt l i < 0 ∨ ∃ p : Nat, parAt l i = (p : Int) ∧ p < i := by
  have h1 := hd i hi
  by_cases hp : parAt l i < 0
  · exact .inl hp
  · obtain ⟨p, hpe⟩ := Int.eq_ofNat_of_zero_le (show 0 ≤ parAt l i by omega)
    exact .inr ⟨p, hpe, by omega⟩
theorem rp_ind {l : List Seg} (hd : Down l l.length) {C : Nat → Prop} (h0 : ∀ i, i < l.length → parAt l i < 0 → C i) (h1 : ∀ i p, i < l.length → p < i → parAt l i = (p : Int) → C p → C i) : ∀ i, i < l.length → C i := by
  intro i
  induction i using Nat.strongRecOn with
  | ind i ih =>
    intro hi
    rcases par_cases hd hi with hp | ⟨p, hp, hpi⟩
    · exact h0 i hi hp
    · exact h1 i p hi hpi hp (ih p hpi (by omega))
theorem rp_last {l : List Seg} (hd : Down l l.length) (i : Nat) (hi : i < l.length) : ∃ A, rp l i = A ++ [i] := by
  rcases par_cases hd hi with hp | ⟨p, hp, _⟩
  · exact ⟨[], rp_root hp⟩
  · exact ⟨_, rp_step hd hi hp⟩
theorem rp_le {l : List Seg} (hd : Down l l.length) : ∀ i, i < l.length → ∀ v ∈ rp l i, v ≤ i :=
  rp_ind hd (fun i _ hp v hv => by rw [rp_root hp] at hv; simp at hv; omega) (fun i p hi hpi hp ih v hv => by
    rw [rp_step hd hi hp] at hv
    rcases List.mem_append.1 hv with h | h
    · have := ih v h; omega
    · simp at h; omega)
theorem rp_asc {l : List Seg} (hd : Down l l.length) : ∀ i, i < l.length → (rp l i).Pairwise (· < ·) :=
  rp_ind hd (fun i _ hp => by rw [rp_root hp]; exact List.pairwise_singleton _ _) (fun i p hi hpi hp ih => by
    rw [rp_step hd hi hp, List.pairwise_append]
    refine ⟨ih, List.pairwise_singleton _ _, fun a ha b hb => ?_⟩
    have := rp_le hd p (by omega) a ha
    simp at hb
    omega)
end Go.Proofs.YtcpiojliakgdlaaGreatDoor
/- Where segments lie. No program. -/
namespace Go.Proofs.YtcpiojliakgdlaaGreatDoor
open Go.RowKit

def szs (l : List Seg) (js : List Nat) : Int := (js.map (sizeAt l)).sum
theorem szs_snoc (l : List Seg) (js : List Nat) (j : Nat) : szs l (js ++ [j]) = szs l js + sizeAt l j := by
  unfold szs
  rw [List.map_append, List.sum_append_int]
  simp
def endAt (l : List Seg) (i : Nat) : Int := szs l (rp l i)
def begAt (l : List Seg) (i : Nat) : Int := endAt l i - sizeAt l i
theorem endAt_beg (l : List Seg) (i : Nat) : endAt l i = begAt l i + sizeAt l i := by unfold begAt; omega
theorem begAt_root {l : List Seg} {i : Nat} (hp : parAt l i < 0) : begAt l i = 0 := by
  unfold begAt endAt
  rw [rp_root hp]
  simp [szs]
theorem begAt_step {l : List Seg} (hd : Down l l.length) {i p : Nat} (hi : i < l.length) (hp : parAt l i = (p : Int)) : begAt l i = endAt l p := by
  unfold begAt endAt
  rw [rp_step hd hi hp, szs_snoc]
  omega
theorem sizeAt_bd {l : List Seg} (h : validB l = true) {i : Nat} (hi : i < l.length) : 1 ≤ sizeAt l i ∧ sizeAt l i ≤ 99 := by
  rw [sizeAt_of hi]
  exact valid_size h hi
theorem place_bd {l : List Seg} (h : validB l = true) : ∀ i, i < l.length → 0 ≤ begAt l i ∧ begAt l i < endAt l i ∧ endAt l i ≤ 99 * ((i : Int) + 1) :=
  rp_ind (valid_all h).1.down (fun i hi hp => by
    have h1 := sizeAt_bd h hi
    have h2 := endAt_beg l i
    rw [begAt_root hp] at *
    omega) (fun i p hi hpi hp ih => by
    have h1 := sizeAt_bd h hi
    have h2 := endAt_beg l i
    rw [begAt_step (valid_all h).1.down hi hp] at *
    omega)
/-- Bounds that fit a machine's number. -/
theorem place_small {l : List Seg} (h : validB l = true) {i : Nat} (hi : i < l.length) : 0 ≤ begAt l i ∧ begAt l i < endAt l i ∧ endAt l i ≤ 792 := by
  have h1 := place_bd h i hi
  have h2 := (valid_all h).2.1
  omega

/-- The sizes of all of a list but one. -/
def szsNot (l : List Seg) (i : Nat) : List Nat → Int
  | [] => 0
  | j :: js => (if j = i then 0 else sizeAt l j) + szsNot l i js
theorem szsNot_append (l : List Seg) (i : Nat) : ∀ js ks, szsNot l i (js ++ ks) = szsNot l i js + szsNot l i ks
  | [], ks => by simp [szsNot]
  | j :: js, ks => by
    show (if j = i then 0 else sizeAt l j) + szsNot l i (js ++ ks) = (if j = i then 0 else sizeAt l j) + szsNot l i js + szsNot l i ks
    rw [szsNot_append l i js ks]
    omega
theorem szsNot_bd {l : List Seg} (h : validB l = true) (i : Nat) : ∀ js : List Nat, (∀ j ∈ js, j < l.length) → 0 ≤ szsNot l i js ∧ szsNot l i js ≤ 99 * (js.length : Int)
  | [], _ => by simp [szsNot]
  | j :: js, hj => by
    have h1 := szsNot_bd h i js (fun k hk => hj k (List.mem_cons_of_mem _ hk))
    have h2 := sizeAt_bd h (hj j List.mem_cons_self)
    unfold szsNot
    rw [List.length_cons]
    split <;> omega
theorem szsNot_far (l : List Seg) (i : Nat) : ∀ js : List Nat, (∀ j ∈ js, j ≠ i) → szsNot l i js = szs l js
  | [], _ => rfl
  | j :: js, hj => by
    have h1 := szsNot_far l i js (fun k hk => hj k (List.mem_cons_of_mem _ hk))
    unfold szsNot
    rw [if_neg (hj j List.mem_cons_self), h1]
    simp [szs]
theorem szsNot_rp {l : List Seg} (hd : Down l l.length) {i : Nat} (hi : i < l.length) : szsNot l i (rp l i) = begAt l i := by
  obtain ⟨A, hA⟩ := rp_last hd i hi
  have hlt : ∀ j ∈ A, j ≠ i := fun j hj => by
    have h1 := rp_asc hd i hi
    rw [hA, List.pairwise_append] at h1
    have := h1.2.2 j hj i (by simp)
    omega
  unfold begAt endAt
  rw [hA, szsNot_append, szsNot_far l i A hlt, szs_snoc]
  simp [szsNot]

/-- The greatest end of the first k. -/
def roomTo (l : List Seg) : Nat → Int
  | 0 => 0
  | k + 1 => max (roomTo l k) (endAt l k)
theorem roomTo_bd {l : List Seg} (h : validB l = true) : ∀ k, k ≤ l.length → 0 ≤ roomTo l k ∧ roomTo l k ≤ 792
  | 0, _ => by simp [roomTo]
  | k + 1, hk => by
    have h1 := roomTo_bd h k (by omega)
    have h2 := place_small h (show k < l.length by omega)
    unfold roomTo
    omega
theorem roomTo_le (l : List Seg) : ∀ k j, j < k → endAt l j ≤ roomTo l k
  | 0, _, h => absurd h (by omega)
  | k + 1, j, h => by
    unfold roomTo
    rcases Nat.lt_or_ge j k with h1 | h1
    · have := roomTo_le l k j h1; omega
    · obtain rfl : j = k := by omega
      omega
def roomB (l : List Seg) : Int := if validB l = true then roomTo l l.length else -1
/-- The first of the first k + 1 that ends last. -/
def lastIx (l : List Seg) : Nat → Nat
  | 0 => 0
  | k + 1 => if endAt l (lastIx l k) < endAt l (k + 1) then k + 1 else lastIx l k
theorem lastIx_le (l : List Seg) : ∀ k, lastIx l k ≤ k
  | 0 => Nat.le_refl 0
  | k + 1 => by
    have := lastIx_le l k
    unfold lastIx
    split <;> omega
theorem lastIx_room {l : List Seg} (h : validB l = true) : ∀ k, k < l.length → endAt l (lastIx l k) = roomTo l (k + 1)
  | 0, hk => by
    have h1 := place_small h hk
    show endAt l 0 = max 0 (endAt l 0)
    omega
  | k + 1, hk => by
    have h1 := lastIx_room h k (by omega)
    unfold lastIx
    rw [roomTo]
    split <;> omega
def addrB (l : List Seg) (s : ByteArray) : Int := if indexB l s < 0 then -1 else begAt l (indexB l s).toNat
end Go.Proofs.YtcpiojliakgdlaaGreatDoor
/- Chapter 9, plain: what the functions answer over a tree. -/
namespace Go.Proofs.YtcpiojliakgdlaaGreatDoor

/-- The name of a segment. -/
def nmAt9 (l : List Seg) (i : Nat) : ByteArray := match l[i]? with
  | some s => s.name
  | none => ⟨#[]⟩
theorem nmAt9_of {l : List Seg} {k : Nat} (h : k < l.length) : nmAt9 l k = l[k].name := by unfold nmAt9; rw [List.getElem?_eq_getElem h]
theorem chain_anc9 {l : List Seg} {n : Nat} (hd : Down l n) : ∀ (f : Nat) (i : Int), i < n → ∀ x ∈ chain l f i, 0 ≤ x ∧ Anc9 (parAt l) x.toNat i.toNat
  | 0, i, hi, x, hx => by simp [chain] at hx
  | f + 1, i, hi, x, hx => by
    unfold chain at hx
    by_cases h0 : i < 0
    · simp [h0] at hx
    · rw [if_neg h0] at hx
      rcases List.mem_cons.1 hx with rfl | hx
      · exact ⟨by omega, .refl⟩
      · have hdd := hd i.toNat (by omega)
        obtain ⟨h1, h2⟩ := chain_anc9 hd f _ (by omega) x hx
        have h3 := chain_mem hd f _ (by omega) x hx
        refine ⟨h1, .step (k := (parAt l i.toNat).toNat) (by omega) h2⟩
theorem tree9_of {l : List Seg} (h : validB l = true) : Tree9 (parAt l) l.length := by
  obtain ⟨ha, h8, h1⟩ := valid_all h
  have hd := ha.down
  have hp : ∀ j, j < l.length → parOk l j = true := fun j hj => by
    have hs := ha j hj
    unfold segOk at hs
    rw [List.getElem?_eq_getElem hj] at hs
    simp only [Bool.and_eq_true] at hs
    exact hs.2
  refine ⟨?_, fun j h0 hj => ?_⟩
  · have := hp 0 h1
    unfold parOk at this
    rw [if_pos rfl] at this
    have := beq_iff_eq.1 this
    omega
  · have := hp j hj
    unfold parOk at this
    rw [if_neg (by omega)] at this
    obtain ⟨h2, h3⟩ := chain_anc9 hd j _ (by omega) _ (List.contains_iff_mem.1 this)
    have h4 := hd j hj
    refine ⟨(parAt l j).toNat, by omega, by omega, ?_⟩
    rw [show ((j : Int) - 1).toNat = j - 1 by omega] at h3
    exact h3
theorem rp_anc9 {l : List Seg} (hd : Down l l.length) {i : Nat} : ∀ j, j < l.length → (i ∈ rp l j ↔ Anc9 (parAt l) i j) := by
  refine rp_ind hd (fun j hj hp => ?_) (fun j p hj hpj hp ih => ?_)
  · rw [rp_root hp, List.mem_singleton]
    constructor
    · rintro rfl; exact .refl
    · intro h
      cases h with
      | refl => rfl
      | step h2 _ => omega
  · rw [rp_step hd hj hp, List.mem_append, List.mem_singleton, ih]
    constructor
    · rintro (h | rfl)
      · exact .step hp h
      · exact .refl
    · intro h
      cases h with
      | refl => exact .inr rfl
      | @step _ k h2 h3 =>
        have : k = p := by omega
        subst this
        exact .inl h3

/-- Sizes with one segment's added to its parent's. -/
def mergeZ9 (sz : Nat → Int) (p i k : Nat) : Int := if k = p then sz p + sz i else sz k
def resizeZ9 (sz : Nat → Int) (i : Nat) (x : Int) (k : Nat) : Int := if k = i then x else sz k
def ix9 (l : List Seg) (s : ByteArray) : Nat := (indexB l s).toNat
def up9 (l : List Seg) (s : ByteArray) : Nat := (parAt l (ix9 l s)).toNat
def made9 (l : List Seg) (sz ps : Nat → Int) (r : Nat) : List Seg := build9 (nmAt9 l) sz ps l.length l.length r (-1) []
def mergeOk (l : List Seg) (s : ByteArray) : Bool := decide (0 < indexB l s) && decide (sizeAt l (ix9 l s) + sizeAt l (up9 l s) ≤ 99)
def mergeL (l : List Seg) (s : ByteArray) : List Seg := if mergeOk l s = true then made9 l (mergeZ9 (sizeAt l) (up9 l s) (ix9 l s)) (mergeP (parAt l) (ix9 l s) (up9 l s)) 0 else []
def moveOk (l : List Seg) (s : ByteArray) : Bool := decide (0 < indexB l s) && !decide (parAt l (ix9 l s) = 0)
def moveL (l : List Seg) (s : ByteArray) : List Seg := if moveOk l s = true then made9 l (sizeAt l) (moveP (parAt l) (ix9 l s) (parAt l (up9 l s))) 0 else []
def subOk (l : List Seg) (s : ByteArray) : Bool := decide (0 ≤ indexB l s)
def subL (l : List Seg) (s : ByteArray) : List Seg := if subOk l s = true then made9 l (sizeAt l) (parAt l) (ix9 l s) else []
def pruneOk (l : List Seg) (s : ByteArray) : Bool := decide (0 < indexB l s)
def pruneL (l : List Seg) (s : ByteArray) : List Seg := if pruneOk l s = true then made9 l (sizeAt l) (pruneP (parAt l) (ix9 l s)) 0 else []
def resizeOk (l : List Seg) (s : ByteArray) (x : Int) : Bool := decide (0 ≤ indexB l s) && sizeOk x
def resizeL (l : List Seg) (s : ByteArray) (x : Int) : List Seg := if resizeOk l s x = true then l.set (ix9 l s) ⟨nmAt9 l (ix9 l s), x, parAt l (ix9 l s)⟩ else []

theorem index9_valid {l : List Seg} {s : ByteArray} (h : 0 ≤ indexB l s) : validB l = true ∧ ix9 l s < l.length := by
  unfold ix9
  have h1 := indexB_bd l s
  refine ⟨?_, by omega⟩
  unfold indexB at h
  by_cases hv : validB l = true
  · exact hv
  · rw [if_neg hv] at h; omega

/-- What the program makes: the nodes below one, in order. -/
def cuts9 (nm : Nat → ByteArray) (sz pp : Nat → Int) (W : List Nat) : List Seg := W.map (cut9 nm sz pp W)
theorem made9_eq {l : List Seg} {sz ps pp : Nat → Int} {r : Nat} (hf : Fall9 ps l.length) (hr : r < l.length) (hpp : ∀ j, j ∈ sub9 ps l.length r → j ≠ r → pp j = ps j) (hp0 : pp r < (r : Int)) :
    made9 l sz ps r = cuts9 (nmAt9 l) sz pp (sub9 ps l.length r) := build9_all hf hr hpp hp0
theorem cuts9_len (nm : Nat → ByteArray) (sz pp : Nat → Int) (W : List Nat) : (cuts9 nm sz pp W).length = W.length := List.length_map _
theorem nodup9_len {W : List Nat} {n : Nat} (h : W.Nodup) (hb : ∀ x ∈ W, x < n) : W.length ≤ n := by
  have := List.Nodup.length_le_of_subset h (fun x hx => List.mem_range.2 (hb x hx))
  rwa [List.length_range] at this
theorem sub9_len {ps : Nat → Int} {n r : Nat} (hf : Fall9 ps n) (hr : r < n) : (sub9 ps n r).length ≤ n :=
  nodup9_len (sub9_nodup hf n r (by omega) hr) fun x hx => ((in_sub9 hf hr).1 hx).1
theorem resize9_eq {l : List Seg} (hv : validB l = true) {i : Nat} (hi : i < l.length) (x : Int) :
    cuts9 (nmAt9 l) (resizeZ9 (sizeAt l) i x) (parAt l) (sub9 (parAt l) l.length 0) = l.set i ⟨nmAt9 l i, x, parAt l i⟩ := by
  have ht := tree9_of hv
  have h1 : 0 < l.length := by omega
  have hd := (valid_all hv).1.down
  unfold cuts9
  rw [sub9_root ht h1]
  apply List.ext_getElem?
  intro k
  by_cases hk : k < l.length
  · rw [List.getElem?_map, List.getElem?_range hk]
    have hdk := hd k hk
    have hpar : (if parAt l k < 0 then (-1 : Int) else if (parAt l k).toNat ∈ List.range l.length then ((List.range l.length).idxOf (parAt l k).toNat : Nat) else -1) = parAt l k := by
      by_cases h2 : parAt l k < 0
      · rw [if_pos h2]; omega
      · rw [if_neg h2, if_pos (List.mem_range.2 (by omega)), idxOf_range9 (by omega)]
        omega
    show some (cut9 _ _ _ _ k) = _
    unfold cut9
    rw [hpar]
    by_cases hki : k = i
    · subst hki
      rw [List.getElem?_set_self hk]
      unfold resizeZ9
      rw [if_pos rfl]
    · rw [List.getElem?_set_ne (fun e => hki e.symm), List.getElem?_eq_getElem hk]
      unfold resizeZ9
      rw [if_neg hki, nmAt9_of hk, sizeAt_of hk, parAt_of (List.getElem?_eq_getElem hk)]
  · rw [List.getElem?_eq_none (by rw [List.length_map, List.length_range]; omega), List.getElem?_eq_none (by rw [List.length_set]; omega)]
end Go.Proofs.YtcpiojliakgdlaaGreatDoor
