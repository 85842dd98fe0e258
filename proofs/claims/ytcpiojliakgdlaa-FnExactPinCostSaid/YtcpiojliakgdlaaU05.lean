/- Joined: Va Rf Pp Jr Ch Po Cp Ep. -/
import Derived.Test.YtcpiojliakgdlaaU04
/- slices.Values at a slice of nodes. -/
namespace Go.Proofs.Ytcpiojliakgdlaa
open Go.RowKit Go.Shelf
attribute [local go_sem] Oper.semAt_some

/-- The slice value 'sv' holds pointers to the nodes 'ks', in a block below n₀; or it is nil and there are none. -/
def PtrsAt (n₀ : Nat) (W : World) (sv : Value) {l : List Seg} (nb : Nat → Nat) (ks : List (Ix l)) : Prop :=
  (sv = .slice none 0 0 ∧ ks = []) ∨ ∃ b off cap, sv = .slice (some ⟨b, off, none⟩) ks.length cap ∧ b < n₀ ∧ ∀ (j : Nat) (x : Ix l), ks[j]? = some x → W.cell? ⟨b, off + j, none⟩ = some (.pointer (some ⟨nb x.1, 0, none⟩))
theorem PtrsAt.below {n₀ : Nat} {A B : World} (h : Below n₀ A B) {sv : Value} {l : List Seg} {nb : Nat → Nat} {ks : List (Ix l)} : PtrsAt n₀ A sv nb ks → PtrsAt n₀ B sv nb ks
  | .inl e => .inl e
  | .inr ⟨b, off, cap, e, hb, hc⟩ => .inr ⟨b, off, cap, e, hb, fun j x hj => (h.cell (p := ⟨b, off + j, none⟩) hb).trans (hc j x hj)⟩

end Go.Proofs.Ytcpiojliakgdlaa

/- NamesOf and ChildrenOf: the program's and the model's. -/
namespace Go.Proofs.Ytcpiojliakgdlaa
open Go.RowKit Go.Shelf

theorem ret_two {a b : ByteArray} {c d : Bool} (h : a = b) (k : c = d) : Ending.returned (.tuple #[.string a, .bool c]) = .returned (.tuple #[.string b, .bool d]) := by rw [h, k]

def nmAt (l : List Seg) (j : Nat) : List UInt8 := match l[j]? with
  | some s => s.name.data.toList
  | none => []
theorem nmAt_of {l : List Seg} {j : Nat} (h : j < l.length) : nmAt l j = l[j].name.data.toList := by unfold nmAt; rw [List.getElem?_eq_getElem h]
theorem range_names (l : List Seg) : ∀ k, k ≤ l.length → (List.range k).flatMap (nmAt l) = (seenOf l k).data.toList
  | 0, _ => rfl
  | k + 1, hk => by
    rw [List.range_succ, List.flatMap_append, range_names l k (by omega), seenOf_succ (by omega)]
    show _ = (seenOf l k ++ l[k].name).data.toList
    rw [ByteArray.data_append, Array.toList_append]
    simp [nmAt_of (show k < l.length by omega)]
theorem valid_names {l : List Seg} (h : validB l = true) : ∀ s ∈ l, s.name.size ≤ 1 := fun s hs => by
  obtain ⟨j, hj, rfl⟩ := List.getElem_of_mem hs
  obtain ⟨c, hc, _⟩ := nameOk_one ((valid_all h).1.name hj (List.getElem?_eq_getElem hj))
  rw [hc]
  exact Nat.le_refl 1

def namesStr (l : List Seg) : ByteArray := if validB l = true then seenOf l l.length else ⟨#[]⟩

set_option maxRecDepth 100000 in
set_option maxHeartbeats 400000 in
theorem specNames_any (A : Option Addr) (l : List Seg) (c : Nat) (w : World) (hw : Segs w w.heap.size A l) (hl : l.length ≤ 1048576) (hn : Short l) :
    Calls Try.prog 138 #[.slice A l.length c] w fun e w' => e = .returned (.tuple #[.string (namesStr l), .bool (validB l)]) ∧ Below w.heap.size w w' := by
  have HW : Hid (Segs w w.heap.size A l) := hw
  clear hw
  cases hv : validB l with
  | false =>
    have HF : Hid (namesStr l = ⟨#[]⟩) := if_neg (by rw [hv]; decide)
    go_enter Try.func138, Try.ntmps138
    go_wp2_with fail
    refine (specTreeValid_any _ _ _ _ HW.out hl hn).mono ?_
    rw [hv]
    rintro e w1 ⟨rfl, hb1⟩
    go_wp2
    go_ret2
    exact ⟨ret_two HF.out.symm rfl, hb1⟩
  | true =>
    have HF : Hid (namesStr l = seenOf l l.length) := if_pos hv
    have hA := (valid_all hv).1
    have HO : Hid _ := valid_names hv
    have HA := Lib.hid hA
    clear hA
    go_enter Try.func138, Try.ntmps138
    go_wp2_with fail
    refine (specTreeValid_any _ _ _ _ HW.out hl hn).mono ?_
    rw [hv]
    rintro e w1 ⟨rfl, hb1⟩
    clear hv
    go_wp2
    go_loopw [4, 12] (fun s i wr => ∃ (k : Nat), k ≤ l.length ∧ i = .int .i64 k ∧ s = .string (seenOf l k) ∧ Below w.heap.size w wr)
      (fun _ i _ => l.length - (intOf i).toNat)
    case atStart => exact ⟨0, Nat.zero_le _, rfl, rfl, hb1⟩
    case round =>
      obtain ⟨k, hk, rfl, rfl, hb⟩ := hrel
      clear hb1
      by_cases hlt : k < l.length
      · obtain ⟨b, o, rfl, hB, hc⟩ := HW.out (by omega)
        obtain ⟨c0, c1, c2⟩ := hc k l[k] (List.getElem?_eq_getElem hlt)
        clear hc
        rw [← hb.cell hB] at c0 c1 c2
        have HQ : Hid _ := seenOf_succ hlt
        have hlen : (seenOf l k).size ≤ 1048576 := Nat.le_trans (seenOf_len (fun j hj => HA.out j (by omega))) hl
        have hx1 := HO.out l[k] (List.getElem_mem hlt)
        generalize l[k] = x at *
        go_wp2
        go_roundw
        case rel => exact ⟨k + 1, by omega, by go_num, by rw [HQ.out], hb.alloc hb.size _⟩
        case measure => simp [intOf]; omega
      · obtain rfl : k = l.length := by omega
        go_wp2
        go_ret2
        exact ⟨ret_two HF.out.symm rfl, hb⟩

end Go.Proofs.Ytcpiojliakgdlaa
/- A range over a function whose iterator may itself range over a function: what a round keeps is said of blocks, not of cells alone. -/
namespace Go.Proofs.Ytcpiojliakgdlaa
open Go.RowKit Go.Shelf

/-- What a round may not write: all but rows of bytes and rows of two cells or more (states of loading are kept). -/
def Firm (o : Obj) : Prop := ∀ c t fz, o = .cells c t fz → t ≠ 5 ∧ (c.size ≤ 1 ∨ t = 64)

/-- All from block 'B' on that is firm lies as it lay. -/
structure KeepsN (B : Nat) (W W' : World) : Prop where
  size : W.heap.size ≤ W'.heap.size
  same : ∀ (k : Nat) (o : Obj), B ≤ k → W.heap[k]? = some o → Firm o → W'.heap[k]? = some o
theorem KeepsN.refl (B : Nat) (W : World) : KeepsN B W W := ⟨Nat.le_refl _, fun _ _ _ h _ => h⟩
theorem KeepsN.trans {B : Nat} {X Y Z : World} (h : KeepsN B X Y) (k : KeepsN B Y Z) : KeepsN B X Z := ⟨Nat.le_trans h.size k.size, fun i o hB hi ho => k.same i o hB (h.same i o hB hi ho) ho⟩
theorem KeepsN.mono {B B' : Nat} {X Y : World} (h : KeepsN B X Y) (hB : B ≤ B') : KeepsN B' X Y := ⟨h.size, fun i o hi ho hn => h.same i o (by omega) ho hn⟩
theorem KeepsN.put {B l : Nat} (W : World) (o : Obj) (hl : l < B) : KeepsN B W (W.putObj l o) := by
  have hg := grownBy_putObj' W l o
  exact ⟨hg.size, fun k o' hk ho _ => (hg.block k (Array.getElem?_eq_some_iff.1 ho).1 (fun he => by injection he with he; omega)).trans ho⟩
theorem KeepsN.alloc (B : Nat) (W : World) (o : Obj) : KeepsN B W (W.alloc o) :=
  ⟨by simp, fun k o' _ ho _ => (Below.heap_alloc W o k (Array.getElem?_eq_some_iff.1 ho).1).trans ho⟩

/-- An iterator's contract: the rounds that go on keep all from 'D' on (and what lies below 'n₀'), a round that says 'no more' keeps what the iterator itself has laid. -/
def SeqR {α : Type} (n : Nat) (g : Nat) (lb : Array Value) (encs : α → Array Value) (n₀ D : Nat) (S Sp : List α → Prop) (N : Nat) (w : World) : Prop :=
  ∀ (l : Nat) (J Jx : List α → World → Prop) (W : World), Below w.heap.size w W → D ≤ W.heap.size → OwnFrom W.heap.size J → OwnFrom W.heap.size Jx →
    (∀ pre x W1, J pre W1 → pre.length < N → W.heap.size ≤ W1.heap.size → YieldAt Fence.wide (n - 1) Try.prog l (encs x) W1 fun e W' =>
      (e = .returned (.bool true) ∧ J (pre ++ [x]) W' ∧ Below n₀ W1 W' ∧ KeepsN D W1 W') ∨ (e = .returned (.bool false) ∧ Jx (pre ++ [x]) W' ∧ KeepsN W.heap.size W1 W')) →
    J [] W →
    CallsIn Fence.wide n Try.prog g (#[.func (.yield l) #[] #[]] ++ lb) W fun e W' => (∃ v, e = .returned v) ∧ ((∃ xs, S xs ∧ J xs W') ∨ (∃ pre, Sp pre ∧ Jx pre W'))

/-- How the body of a round may be left. -/
def ownPostR {α : Type} (B n₀ D : Nat) (I : List α → World → Prop) (Ix : Code → List α → World → Prop) (xs : List α) (W : World) : Exit → Act → World → Prop
  | .normal, _, W' => KeepsN (min B D) W W' ∧ Below n₀ W W' ∧ I xs W'
  | .ret, _, W' => KeepsN B W W' ∧ Ix .ret xs W'
  | .exit id, _, W' => KeepsN B W W' ∧ Ix (.exit id) xs W'
  | .goto t, _, W' => KeepsN B W W' ∧ Ix (.goto t) xs W'
  | .panic _, _, _ => False
  | .outgrown, _, _ => False

theorem wpIn_rangeFunc_R {α : Type} {n : Nat} {g : Operand} {ps : Array Tmp} {assign body : Code} {Q : Exit → Act → World → Prop} {a : Act} {w : World}
    (h1 : 1 ≤ n) {gf : Nat} {lb : Array Value} (hg : a.eval g = .func (.func gf) #[] lb) (eg : ∀ args w, (callFunc gf args).run Try.prog w = .ok (.enter gf args) w)
    {encs : α → Array Value} {n₀ D : Nat} {S Sp : List α → Prop} {N : Nat} {w0 : World} (hseq : SeqR (n - 1) gf lb encs n₀ D S Sp N w0)
    (hD : D ≤ w.heap.size + 2) (hn₀ : n₀ ≤ w.heap.size) (hb0 : Below w0.heap.size w0 w) (hps : ∀ x, (encs x).size = ps.size)
    (I : List α → World → Prop) (Ix : Code → List α → World → Prop) (hI : OwnFrom w.heap.size I) (hIx : ∀ c, OwnFrom w.heap.size (Ix c)) (h0 : I [] w) (a₁ : α → Act)
    (hassign : ∀ (l : Nat) (x : α) (W : World) (K : Act → World → Prop), K (a₁ x) W →
      assign.wpIn (Fence.wide.inRound l) (n - 1 - 1) Try.prog (Exit.then K (fun _ _ _ => False)) { tmps := (ps.zip (encs x)).foldl (fun t (p, v) => t.setIfInBounds p v) a.tmps, defers := [] } W)
    (hbody : ∀ (l : Nat) (pre : List α) (x : α) (W : World), I pre W → pre.length < N → w.heap.size + 2 ≤ W.heap.size → body.wpIn (Fence.wide.inRound l) (n - 1 - 1) Try.prog (ownPostR w.heap.size n₀ D I Ix (pre ++ [x]) W) (a₁ x) W)
    (hdone : ∀ (L : Nat) (xs : List α) (W : World), w.heap.size ≤ L → S xs → I xs W → W.heap[L]? = some (.deferred (some [])) → Q .normal { a with defers := { target := .collected L, args := #[] } :: a.defers } W)
    (hstop : ∀ (L : Nat) (c : Code) (pre : List α) (W : World), w.heap.size ≤ L → Sp pre → Ix c pre W → W.heap[L]? = some (.deferred (some [])) → c.wpIn Fence.wide n Try.prog Q { a with defers := { target := .collected L, args := #[] } :: a.defers } W) :
    (Code.rangeFunc g ps assign body).wpIn Fence.wide n Try.prog Q a w := by
  refine wpIn_rangeFunc ?_
  intro fn hfn
  rw [show Fence.wide.round = none from rfl]
  obtain ⟨rec, hrec⟩ : ∃ rec : LoopState → Option Code → Loop, rec = fun st pe => { state := st, pending := pe, fn, tmps := a.tmps, params := ps, assign, body, defers := w.heap.size } := ⟨_, rfl⟩
  obtain ⟨W1, hW1⟩ : ∃ W1, (w.alloc (.deferred (some []))).alloc (.loop (rec .ready none)) = W1 := ⟨_, rfl⟩
  have hz1 : W1.heap.size = w.heap.size + 2 := by rw [← hW1]; simp
  have hL1 : W1.heap[w.heap.size + 1]? = some (.loop (rec .ready none)) := by
    rw [← hW1]; have := World.alloc_heap_new (w.alloc (.deferred (some []))) (.loop (rec .ready none)); rwa [World.size_alloc] at this
  have hK1 : W1.heap[w.heap.size]? = some (.deferred (some [])) := by
    rw [← hW1]; exact (Below.heap_alloc _ _ _ (by simp)).trans (World.alloc_heap_new w _)
  have hI1 : I [] W1 := by rw [← hW1]; exact hI.alloc _ (hI.alloc _ h0)
  have hb1 : Below w0.heap.size w0 W1 := by
    rw [← hW1]; exact hb0.trans ((((Below.refl _ w).alloc (Nat.le_refl _) _).alloc (by simp) _).mono hb0.size)
  refine ⟨w.heap.size + 1, [{ target := .collected w.heap.size, args := #[] }], W1, { target := .fn (.func gf) lb, args := #[.func (.yield (w.heap.size + 1)) #[] #[]] }, W1, gf,
    #[.func (.yield (w.heap.size + 1)) #[] #[]] ++ lb, W1, ?_, ?_, ?_, ?_, fun _ => h1, ?_⟩
  · rw [← hW1, hrec]; exact run_enterLoop_outer _ _ _ _ _
  · simp only [resolve, hg]
    simp [go_sem]
  · intro f' hf'; simp [Target.leads] at hf'; subst hf'; exact trivial
  · simp [invoke, go_sem, eg]
  · have hrow : ∀ {A B : World} {row : Option Nat}, (∀ r, row = some r → W1.heap.size ≤ r ∧ ∃ o : Obj, A.heap[r]? = some o ∧ o.isCells = false) → A.grownBy B row → ∀ (k : Nat) (o : Obj), k < W1.heap.size → A.heap[k]? = some o → B.heap[k]? = some o :=
      fun hr hg' k o hk ho => (hg'.block k (Array.getElem?_eq_some_iff.1 ho).1 (fun he => by have := (hr k he.symm).1; omega)).trans ho
    have hlow : ∀ {A : World} {row : Option Nat}, (∀ r, row = some r → W1.heap.size ≤ r ∧ ∃ o : Obj, A.heap[r]? = some o ∧ o.isCells = false) → (∀ r, row = some r → w.heap.size ≤ r ∧ ∃ o : Obj, A.heap[r]? = some o ∧ o.isCells = false) :=
      fun hr r e => ⟨by have := (hr r e).1; omega, (hr r e).2⟩
    refine (hseq (w.heap.size + 1)
      (fun pre W => I pre W ∧ W.heap[w.heap.size + 1]? = some (.loop (rec .ready none)) ∧ W.heap[w.heap.size]? = some (.deferred (some [])))
      (fun pre W => ∃ c, Ix c pre W ∧ W.heap[w.heap.size + 1]? = some (.loop (rec .done (some c))) ∧ W.heap[w.heap.size]? = some (.deferred (some [])))
      W1 hb1 (by omega)
      (fun s A B row hs hg' hr => ⟨hI s A B row hs.1 hg' (hlow hr), hrow hr hg' _ _ (by omega) hs.2.1, hrow hr hg' _ _ (by omega) hs.2.2⟩)
      (fun s A B row hs hg' hr => by
        obtain ⟨c, hc, hl, hk⟩ := hs
        exact ⟨c, hIx c s A B row hc hg' (hlow hr), hrow hr hg' _ _ (by omega) hl, hrow hr hg' _ _ (by omega) hk⟩)
      ?_ ⟨hI1, hL1, hK1⟩).mono ?_
    · rintro pre x W ⟨hi, hl, hk⟩ hlen hWz
      have hlt : w.heap.size + 1 < W.heap.size := (Array.getElem?_eq_some_iff.1 hl).1
      have hy := run_yield (P := Try.prog) (args := encs x) hl (by rw [hrec]; exact hps x)
      rw [hrec] at hy
      refine ⟨fn, _, assign, body, hy, roundIn_of_wpIn hfn (hassign _ x W _ ⟨_, run_beginRound hl (by rw [hrec]), ?_⟩)⟩
      have hl2 : (W.putObj (w.heap.size + 1) (.loop { rec .ready none with state := .busy })).heap[w.heap.size + 1]? = some (.loop { rec .ready none with state := .busy }) := World.putObj_heap_same hlt
      have hk2 : (W.putObj (w.heap.size + 1) (.loop { rec .ready none with state := .busy })).heap[w.heap.size]? = some (.deferred (some [])) := (World.putObj_heap_other (by omega)).trans hk
      have hsz2 : (W.putObj (w.heap.size + 1) (.loop { rec .ready none with state := .busy })).heap.size = W.heap.size := by simp [World.putObj]
      refine wpIn_mono (hbody _ pre x _ (hI.putObj _ hi (by omega) hl rfl) hlen (by rw [hsz2]; omega)) ?_
      have fin : ∀ (jump : Option Code) (W3 : World), KeepsN w.heap.size (W.putObj (w.heap.size + 1) (.loop { rec .ready none with state := .busy })) W3 →
          (Instr.endRound (w.heap.size + 1) jump).run Try.prog W3 = .ok (.bool jump.isNone) (W3.putObj (w.heap.size + 1) (.loop (rec (if jump.isNone then .ready else .done) jump))) ∧
          W3.heap[w.heap.size + 1]? = some (.loop { rec .ready none with state := .busy }) ∧
          (W3.putObj (w.heap.size + 1) (.loop (rec (if jump.isNone then .ready else .done) jump))).heap[w.heap.size + 1]? = some (.loop (rec (if jump.isNone then .ready else .done) jump)) ∧
          (W3.putObj (w.heap.size + 1) (.loop (rec (if jump.isNone then .ready else .done) jump))).heap[w.heap.size]? = some (.deferred (some [])) := fun jump W3 hk3 => by
        have hl3 := hk3.same _ _ (by omega) hl2 (fun c t fz he => by cases he)
        have := run_endRound (P := Try.prog) jump hl3
        rw [hrec] at this ⊢
        exact ⟨this, by rw [hrec] at hl3; exact hl3, World.putObj_heap_same (Array.getElem?_eq_some_iff.1 hl3).1, (World.putObj_heap_other (by omega)).trans (hk3.same _ _ (Nat.le_refl _) hk2 (fun c t fz he => by cases he))⟩
      have far : ∀ (jump : Option Code) (W3 : World), KeepsN w.heap.size (W.putObj (w.heap.size + 1) (.loop { rec .ready none with state := .busy })) W3 → KeepsN W1.heap.size W (W3.putObj (w.heap.size + 1) (.loop (rec (if jump.isNone then .ready else .done) jump))) := fun jump W3 hk3 =>
        ((KeepsN.put W _ (by omega)).trans (hk3.mono (by omega))).trans (KeepsN.put W3 _ (by omega))
      rintro e a3 W3 hp
      cases e with
      | normal =>
        obtain ⟨hk3, hkp3, hi3⟩ := hp
        obtain ⟨hr, hl3, hl4, hk4⟩ := fin none W3 (hk3.mono (Nat.min_le_left _ _))
        refine ⟨_, _, hr, .inl ⟨rfl, ⟨hI.putObj _ hi3 (by omega) hl3 rfl, hl4, hk4⟩, ?_, ?_⟩⟩
        · have b1 : Below n₀ W (W.putObj (w.heap.size + 1) (.loop { rec .ready none with state := .busy })) := (Below.refl n₀ W).grown (grownBy_putObj' W _ _) (by omega) (fun k e => by cases e; omega)
          exact (b1.trans hkp3).trans ((Below.refl n₀ W3).grown (grownBy_putObj' W3 _ _) (by have := hk3.size; rw [hsz2] at this; omega) (fun k e => by cases e; omega))
        · refine ⟨?_, fun k o hkD ho hno => ?_⟩
          · have h2 := hk3.size
            rw [hsz2] at h2
            simpa [World.putObj] using h2
          · by_cases hkl : k = w.heap.size + 1
            · subst hkl
              rw [hl] at ho
              injection ho with ho
              subst ho
              exact hl4
            · rw [World.putObj_heap_other (by omega)]
              exact hk3.same k o (by have := Nat.min_le_right w.heap.size D; omega) ((World.putObj_heap_other (by omega)).trans ho) hno
      | ret =>
        obtain ⟨hk3, hi3⟩ := hp
        obtain ⟨hr, hl3, hl4, hk4⟩ := fin (some .ret) W3 hk3
        exact ⟨_, _, hr, .inr ⟨rfl, ⟨.ret, (hIx _).putObj _ hi3 (by omega) hl3 rfl, hl4, hk4⟩, far _ _ hk3⟩⟩
      | exit id =>
        obtain ⟨hk3, hi3⟩ := hp
        obtain ⟨hr, hl3, hl4, hk4⟩ := fin (some (.exit id)) W3 hk3
        exact ⟨_, _, hr, .inr ⟨rfl, ⟨.exit id, (hIx _).putObj _ hi3 (by omega) hl3 rfl, hl4, hk4⟩, far _ _ hk3⟩⟩
      | goto t =>
        obtain ⟨hk3, hi3⟩ := hp
        obtain ⟨hr, hl3, hl4, hk4⟩ := fin (some (.goto t)) W3 hk3
        exact ⟨_, _, hr, .inr ⟨rfl, ⟨.goto t, (hIx _).putObj _ hi3 (by omega) hl3 rfl, hl4, hk4⟩, far _ _ hk3⟩⟩
      | panic ch => exact hp.elim
      | outgrown => exact hp.elim
    · rintro e W2 ⟨⟨v, rfl⟩, (⟨xs, hS, hi, hl, hk⟩ | ⟨pre, hSp, c, hi, hl, hk⟩)⟩
      · exact ⟨none, _, by have := run_endLoop (P := Try.prog) hl (by rw [hrec]; simp); rw [hrec] at this; exact this, hdone _ xs _ (Nat.le_refl _) hS (hI.putObj _ hi (by omega) hl rfl) ((World.putObj_heap_other (by omega)).trans hk)⟩
      · exact ⟨some c, _, by have := run_endLoop (P := Try.prog) hl (by rw [hrec]; simp); rw [hrec] at this; exact this, hstop _ c pre _ (Nat.le_refl _) hSp ((hIx c).putObj _ hi (by omega) hl rfl) ((World.putObj_heap_other (by omega)).trans hk)⟩

end Go.Proofs.Ytcpiojliakgdlaa
/- The path of a node, yielded by an iterator that calls itself. -/
namespace Go.Proofs.Ytcpiojliakgdlaa
open Go.RowKit Go.Shelf
attribute [local go_sem] Oper.semAt_some

theorem yield_any {m : Nat} (m' : Nat) {P : Program} {l : Nat} {args : Array Value} {W : World} {R : Ending → World → Prop} (h : YieldAt Fence.wide m P l args W R) : YieldAt Fence.wide m' P l args W R := by
  obtain ⟨fn, tmps, assign, body, hy, hR⟩ := h
  exact ⟨fn, tmps, assign, body, hy, ⟨hR.1, fun c cs _ => hR.2 c cs (fun d h => by simp [Fence.wide] at h)⟩⟩

/-- From the root down to a segment, by index. -/
def rootPath (l : List Seg) : Nat → Nat → List Nat
  | 0, _ => []
  | f + 1, i => (if parAt l i < 0 then [] else rootPath l f (parAt l i).toNat) ++ [i]
theorem rootPath_len (l : List Seg) : ∀ f i, (rootPath l f i).length ≤ f
  | 0, _ => Nat.le_refl 0
  | f + 1, i => by
    unfold rootPath
    have := rootPath_len l f (parAt l i).toNat
    split <;> simp <;> omega
theorem rootPath_lt {l : List Seg} (hd : Down l l.length) : ∀ f i, i < l.length → ∀ j ∈ rootPath l f i, j < l.length
  | 0, _, _, j, hj => by simp [rootPath] at hj
  | f + 1, i, hi, j, hj => by
    unfold rootPath at hj
    have h1 := hd i hi
    rcases List.mem_append.1 hj with h | h
    · split at h
      · simp at h
      · exact rootPath_lt hd f _ (by omega) j h
    · simp at h; omega
theorem rootPath_chain {l : List Seg} (hd : Down l l.length) : ∀ f i, i < l.length → i < f → (chain l f (i : Int)).reverse = (rootPath l f i).map (fun j : Nat => (j : Int))
  | 0, i, _, h => absurd h (by omega)
  | f + 1, i, hi, hf => by
    have h1 := hd i hi
    unfold chain rootPath
    rw [if_neg (by omega), Int.toNat_natCast, List.reverse_cons, List.map_append]
    congr 1
    by_cases hp : parAt l i < 0
    · rw [if_pos hp]
      cases f with
      | zero => rfl
      | succ f => simp [chain, hp]
    · rw [if_neg hp, ← rootPath_chain hd f _ (by omega) (by omega), Int.toNat_of_nonneg (by omega)]

set_option maxRecDepth 100000 in
set_option maxHeartbeats 400000 in
theorem path_any (p : Option Addr) (w : World) :
    Calls Try.prog 70 #[.pointer p] w fun e w' => e = .returned (.func (.func 115) #[] #[.pointer (some ⟨w.heap.size, 0, none⟩)]) ∧ w' = w.alloc (.cells #[.pointer p] 72) := by
  go_enter Try.func70, Try.ntmps70
  go_wp2
  go_ret
  exact ⟨rfl, rfl⟩

/-- What an iterator reads of the nodes. -/
def Linked (w : World) (n₀ : Nat) (l : List Seg) (nb : Nat → Nat) : Prop := ∀ j, j < l.length → nb j < n₀ ∧ w.cell? ⟨nb j, 2, none⟩ = some (.pointer (parPtr l nb j))
theorem Linked.below {w w' : World} {n₀ : Nat} {l : List Seg} {nb : Nat → Nat} (h : Linked w n₀ l nb) (hb : Below n₀ w w') : Linked w' n₀ l nb := fun j hj => ⟨(h j hj).1, (hb.cell (p := ⟨nb j, 2, none⟩) (h j hj).1).trans (h j hj).2⟩
/-- A box of one cell, kept by every round that goes on. -/
def BoxAt (W : World) (n₀ D Bs : Nat) (v : Value) (t : TypeId) : Prop := (Bs < n₀ ∨ D ≤ Bs) ∧ t ≠ 5 ∧ W.heap[Bs]? = some (.cells #[v] t (0, 0))
theorem BoxAt.cell {W : World} {n₀ D Bs : Nat} {v : Value} {t : TypeId} (h : BoxAt W n₀ D Bs v t) : W.cell? ⟨Bs, 0, none⟩ = some v := Row.cell (h.2.2 : Row W Bs t #[v]) 0
theorem BoxAt.keep {W W' : World} {n₀ D Bs : Nat} {v : Value} {t : TypeId} (h : BoxAt W n₀ D Bs v t) (hb : Below n₀ W W') (hk : KeepsN D W W') : BoxAt W' n₀ D Bs v t := by
  obtain ⟨h1, h2, h3⟩ := h
  refine ⟨h1, h2, ?_⟩
  rcases h1 with h1 | h1
  · exact (hb.block Bs h1).trans h3
  · exact hk.same Bs _ h1 h3 (fun c t' fz he => by injection he with hc ht; subst hc; subst ht; exact ⟨h2, .inl (Nat.le_refl 1)⟩)
theorem BoxAt.grown {W W' : World} {n₀ D Bs : Nat} {v : Value} {t : TypeId} (h : BoxAt W n₀ D Bs v t) {row : Option Nat} (hg : W.grownBy W' row) (hr : ∀ r, row = some r → ∃ o : Obj, W.heap[r]? = some o ∧ o.isCells = false) : BoxAt W' n₀ D Bs v t :=
  ⟨h.1, h.2.1, (hg.block Bs (Array.getElem?_eq_some_iff.1 h.2.2).1 (fun he => by
    obtain ⟨o, ho, hc⟩ := hr Bs he.symm
    rw [h.2.2] at ho
    injection ho with ho
    subst ho
    cases hc)).trans h.2.2⟩

set_option maxRecDepth 100000 in
set_option maxHeartbeats 2000000 in
theorem path1_seq (l : List Seg) (nb : Nat → Nat) (n₀ D N : Nat) (hdn : Down l l.length) : ∀ (f i : Nat), i < f → ∀ (_ : i < l.length) (n Bs : Nat) (w : World), BoxAt w n₀ D Bs (.pointer (some ⟨nb i, 0, none⟩)) 72 → Linked w n₀ l nb → n₀ ≤ w.heap.size → (rootPath l f i).length ≤ N → f + 1 ≤ n →
    SeqR n 115 #[.pointer (some ⟨Bs, 0, none⟩)] (fun x : Ix l => #[.pointer (some ⟨nb x.1, 0, none⟩)]) n₀ D (fun ys => ys.map (·.1) = rootPath l f i) (fun ys => ys.map (·.1) <+: rootPath l f i) N w := by
  intro f
  induction f with
  | zero => intro i hi; omega
  | succ f ih =>
    intro i hif hi n Bs w hbox hlk hn₀ hN hn l' J Jx W hbW hDW hJ hJx hY h0
    have hbox1 : BoxAt W n₀ D Bs (.pointer (some ⟨nb i, 0, none⟩)) 72 := by
      refine ⟨hbox.1, hbox.2.1, (hbW.block Bs ?_).trans hbox.2.2⟩
      exact (Array.getElem?_eq_some_iff.1 hbox.2.2).1
    have hlk1 : Linked W n₀ l nb := hlk.below (hbW.mono hn₀)
    have hBs : Bs < W.heap.size := (Array.getElem?_eq_some_iff.1 hbox1.2.2).1
    have hnb : nb i < W.heap.size := Nat.lt_of_lt_of_le (hlk1 i hi).1 (Nat.le_trans hn₀ hbW.size)
    have c1 := hbox1.cell
    have c2 := (hlk1 i hi).2
    by_cases hp : parAt l i < 0
    · have hpp : parPtr l nb i = none := if_pos hp
      have HR : Hid (rootPath l (f + 1) i = [i]) := by
        show _ = _
        unfold rootPath
        rw [if_pos hp]; rfl
      rw [hpp] at c2
      clear hpp
      obtain ⟨fn, tmps, assign, body, hy, hR⟩ := hY [] ⟨i, hi⟩ (W.alloc (.cells #[.func (.yield l') #[] #[]] 144)) (hJ.alloc _ h0) (by rw [HR.out] at hN; simp at hN ⊢; omega) (by simp)
      dsimp only at hy
      refine callsIn_of_wp_marks Try.func115 rfl trivial ?_ rfl
      simp only [Try.ntmps115, List.size_toArray, List.length_cons, List.length_nil, Nat.reduceAdd, Nat.reduceSub, Array.replicate_succ, Array.replicate_zero, List.push_toArray, List.append_toArray, List.nil_append, List.cons_append]
      gi_wp2
      refine ⟨fun h => by simp [Fence.wide] at h, ?_⟩
      refine hR.mono ?_
      rintro e W3 (⟨rfl, hJ3, _⟩ | ⟨rfl, hx3, _⟩)
      · gi_wp2
        refine ⟨_, results_none rfl _ _ _, ⟨_, rfl⟩, .inl ⟨_, ?_, hJ3⟩⟩
        rw [HR.out]; rfl
      · gi_wp2
        refine ⟨_, results_none rfl _ _ _, ⟨_, rfl⟩, .inr ⟨_, ?_, hx3⟩⟩
        rw [HR.out]; exact List.prefix_refl _
    · obtain ⟨p, hpe⟩ := Int.eq_ofNat_of_zero_le (show 0 ≤ parAt l i by omega)
      have hdi := hdn i hi
      have hpi : p < i := by omega
      have hpl : p < l.length := by omega
      have hpp : parPtr l nb i = some ⟨nb p, 0, none⟩ := by
        unfold parPtr
        rw [if_neg hp, hpe, Int.toNat_natCast]
      have HR : Hid (rootPath l (f + 1) i = rootPath l f p ++ [i]) := by
        show _ = _
        conv => lhs; unfold rootPath
        rw [if_neg hp, hpe, Int.toNat_natCast]
      rw [hpp] at c2
      clear hpp hdi hpe
      refine callsIn_of_wp_marks Try.func115 rfl trivial ?_ rfl
      simp only [Try.ntmps115, List.size_toArray, List.length_cons, List.length_nil, Nat.reduceAdd, Nat.reduceSub, Array.replicate_succ, Array.replicate_zero, List.push_toArray, List.append_toArray, List.nil_append, List.cons_append]
      gi_wp2
      refine ⟨trivial, fun h => by simp [Fence.wide] at h, ?_⟩
      refine (callsIn_wide.2 (path_any _ _)).mono ?_
      rintro e w' ⟨rfl, rfl⟩
      gi_wp2
      have hY0 : Row ((W.alloc (.cells #[.func (.yield l') #[] #[]] 144)).alloc (.cells #[.pointer (some ⟨nb p, 0, none⟩)] 72)) W.heap.size 144 #[.func (.yield l') #[] #[]] := (Row.new W _ _).alloc _
      have hP0 : Row ((W.alloc (.cells #[.func (.yield l') #[] #[]] 144)).alloc (.cells #[.pointer (some ⟨nb p, 0, none⟩)] 72)) (W.heap.size + 1) 72 #[.pointer (some ⟨nb p, 0, none⟩)] := by
        have := Row.new (W.alloc (.cells #[.func (.yield l') #[] #[]] 144)) 72 #[.pointer (some ⟨nb p, 0, none⟩)]
        rw [World.size_alloc] at this
        exact this
      have hn₀W : n₀ ≤ W.heap.size := Nat.le_trans hn₀ hbW.size
      have hB0 : Below n₀ W ((W.alloc (.cells #[.func (.yield l') #[] #[]] 144)).alloc (.cells #[.pointer (some ⟨nb p, 0, none⟩)] 72)) := ((Below.refl _ W).alloc hn₀W _).alloc (by simp; omega) _
      have hX0 : BoxAt ((W.alloc (.cells #[.func (.yield l') #[] #[]] 144)).alloc (.cells #[.pointer (some ⟨nb p, 0, none⟩)] 72)) n₀ D Bs (.pointer (some ⟨nb i, 0, none⟩)) 72 :=
        (hbox1.grown (World.grownBy_alloc W _ none) (fun r e => by cases e)).grown (World.grownBy_alloc _ _ none) (fun r e => by cases e)
      have hlenR : (rootPath l f p).length + 1 ≤ N := by
        have h1 := congrArg List.length HR.out
        rw [List.length_append] at h1
        simp at h1
        omega
      refine wpIn_rangeFunc_R (by omega) (gf := 115) (lb := #[.pointer (some ⟨W.heap.size + 1, 0, none⟩)]) rfl (enters_of Try.func115 (by kernel_rfl) rfl)
        (ih p (by omega) hpl (n - 1) (W.heap.size + 1) _ ⟨.inr (by omega), by decide, hP0⟩ (hlk1.below hB0) (by simp; omega) (by omega) (by omega)) (by simp; omega) (by simp; omega) (Below.refl _ _) (fun _ => rfl)
        (fun pre W' => (J pre W' ∧ Below n₀ W W') ∧ (BoxAt W' n₀ D W.heap.size (.func (.yield l') #[] #[]) 144 ∧ BoxAt W' n₀ D Bs (.pointer (some ⟨nb i, 0, none⟩)) 72) ∧ W.heap.size + 2 ≤ W'.heap.size)
        (fun c pre W' => c = .ret ∧ Jx pre W')
        (fun s A B row hs hg hr => ⟨⟨hJ s A B row hs.1.1 hg (fun r e => ⟨by have := (hr r e).1; simp at this; omega, (hr r e).2⟩), ownFrom_below (B := W.heap.size) hn₀W (by omega) s A B row hs.1.2 hg (fun r e => ⟨by have := (hr r e).1; simp at this; omega, (hr r e).2⟩)⟩,
          ⟨hs.2.1.1.grown hg (fun r e => (hr r e).2), hs.2.1.2.grown hg (fun r e => (hr r e).2)⟩, Nat.le_trans hs.2.2 hg.size⟩)
        (fun c s A B row hs hg hr => ⟨hs.1, hJx s A B row hs.2 hg (fun r e => ⟨by have := (hr r e).1; simp at this; omega, (hr r e).2⟩)⟩)
        ⟨⟨hJ.alloc _ (hJ.alloc _ h0), hB0⟩, ⟨⟨.inr hDW, by decide, hY0⟩, hX0⟩, by simp⟩
        (fun x => { tmps := #[.func (.yield l') #[] #[], .pointer (some ⟨Bs, 0, none⟩), .pointer (some ⟨W.heap.size, 0, none⟩), .pointer (some ⟨nb x.1, 0, none⟩), .pointer (some ⟨nb i, 0, none⟩), .pointer (some ⟨nb i, 0, none⟩), .pointer (some ⟨nb i, 2, none⟩), .pointer (some ⟨nb p, 0, none⟩), .bool true, .pointer (some ⟨nb i, 0, none⟩), .pointer (some ⟨nb i, 0, none⟩), .pointer (some ⟨nb i, 2, none⟩), .pointer (some ⟨nb p, 0, none⟩), .func (.func 115) #[] #[.pointer (some ⟨W.heap.size + 1, 0, none⟩)], .pointer (some ⟨nb x.1, 0, none⟩), undef, undef, undef, undef, undef, undef, undef], defers := [] }) ?assign ?body ?done ?stop
      case assign =>
        intro l2 x W2 K hK
        gi_wp2
        exact hK
      case body =>
        rintro l2 pre x W2 ⟨⟨hJ2, hB2⟩, ⟨hy2, hx2⟩, hz2⟩ hlen hz
        have cy := hy2.cell
        obtain ⟨fn, tmps, assign, body, hy, hR⟩ := yield_any (n - 1 - 1 - 1) (hY pre x W2 hJ2 hlen (by omega))
        gi_wp2
        refine ⟨fun h => by simp [Fence.wide] at h, ?_⟩
        refine (show RoundIn (Fence.wide.inRound l2) (n - 1 - 1 - 1) Try.prog l' fn tmps assign body W2 _ from hR).mono ?_
        rintro e W3 (⟨rfl, hJ3, hb3, hk3⟩ | ⟨rfl, hx3, hk3⟩)
        · gi_wp2
          exact ⟨hk3.mono (by simp; omega), hb3, ⟨⟨hJ3, hB2.trans hb3⟩, ⟨hy2.keep hb3 hk3, hx2.keep hb3 hk3⟩, Nat.le_trans hz2 hk3.size⟩⟩
        · gi_wp2
          exact ⟨hk3.mono (by simp; omega), rfl, hx3⟩
      case done =>
        rintro L ys W2 hL hS ⟨⟨hJ2, hB2⟩, ⟨hy2, hx2⟩, hz2⟩ hK
        have cy := hy2.cell
        have cx := hx2.cell
        have hlen : ys.length < N := by
          have h1 := congrArg List.length hS
          rw [List.length_map] at h1
          omega
        obtain ⟨fn, tmps, assign, body, hy, hR⟩ := hY ys ⟨i, hi⟩ W2 hJ2 hlen (by omega)
        dsimp only at hy
        have hLz : W.heap.size ≤ L := by simp at hL; omega
        gi_wp2
        refine ⟨fun h => by simp [Fence.wide] at h, ?_⟩
        refine hR.mono ?_
        rintro e W3 (⟨rfl, hJ3, hb3, hk3⟩ | ⟨rfl, hx3, hk3⟩)
        · have hK3 := hk3.same L _ (by omega) hK (fun c t fz he => by cases he)
          gi_wp2
          refine ⟨by simp, .inl ⟨_, _, rfl, run_takeDeferred hK3, ?_⟩⟩
          refine ⟨_, results_none rfl _ _ _, ⟨_, rfl⟩, .inl ⟨ys ++ [⟨i, hi⟩], ?_, hJ.putObj _ hJ3 hLz hK3 rfl⟩⟩
          rw [HR.out, List.map_append, hS]; rfl
        · have hK3 := hk3.same L _ hLz hK (fun c t fz he => by cases he)
          gi_wp2
          refine ⟨by simp, .inl ⟨_, _, rfl, run_takeDeferred hK3, ?_⟩⟩
          refine ⟨_, results_none rfl _ _ _, ⟨_, rfl⟩, .inr ⟨ys ++ [⟨i, hi⟩], ?_, hJx.putObj _ hx3 hLz hK3 rfl⟩⟩
          rw [HR.out, List.map_append, hS]; exact List.prefix_refl _
      case stop =>
        rintro L c pre W2 hL hSp ⟨rfl, hx⟩ hK
        gi_wp2
        refine ⟨by simp, .inl ⟨_, _, rfl, run_takeDeferred hK, ?_⟩⟩
        refine ⟨_, results_none rfl _ _ _, ⟨_, rfl⟩, .inr ⟨pre, ?_, hJx.putObj _ hx (by simp at hL; omega) hK rfl⟩⟩
        rw [HR.out]
        exact hSp.trans (List.prefix_append _ _)

end Go.Proofs.Ytcpiojliakgdlaa
/- impl.joinNames and impl.PathOf over paths. -/
namespace Go.Proofs.Ytcpiojliakgdlaa
open Go.RowKit Go.Shelf
attribute [local go_sem] Oper.semAt_some

end Go.Proofs.Ytcpiojliakgdlaa
/- ChildrenOf: the program's and the model's. -/
namespace Go.Proofs.Ytcpiojliakgdlaa
open Go.RowKit Go.Shelf

theorem index_valid {l : List Seg} {s : ByteArray} (h : 0 ≤ indexB l s) : validB l = true := by
  unfold indexB at h
  by_cases hv : validB l = true
  · exact hv
  · rw [if_neg hv] at h; omega

end Go.Proofs.Ytcpiojliakgdlaa
/- PathOf: the program's and the model's. -/
namespace Go.Proofs.Ytcpiojliakgdlaa
open Go.RowKit Go.Shelf

def namesAt (l : List Seg) (js : List Nat) : ByteArray := ⟨(js.flatMap (nmAt l)).toArray⟩
theorem namesAt_snoc {l : List Seg} (js : List Nat) {j : Nat} (hj : j < l.length) : namesAt l (js ++ [j]) = namesAt l js ++ l[j].name := by
  apply WideShapes.bytes_inj
  show _ = (namesAt l js ++ l[j].name).data.toList
  rw [ByteArray.data_append, Array.toList_append]
  show (js ++ [j]).flatMap (nmAt l) = js.flatMap (nmAt l) ++ _
  rw [List.flatMap_append, List.flatMap_cons, List.flatMap_nil, List.append_nil, nmAt_of hj]
theorem nmAt_len {l : List Seg} (h : ∀ s ∈ l, s.name.size ≤ 1) (j : Nat) : (nmAt l j).length ≤ 1 := by
  unfold nmAt
  cases hj : l[j]? with
  | none => exact Nat.zero_le _
  | some s =>
    have := h s (List.mem_of_getElem? hj)
    simpa using this
theorem namesAt_len {l : List Seg} (h : ∀ s ∈ l, s.name.size ≤ 1) : ∀ js : List Nat, (namesAt l js).size ≤ js.length
  | [] => Nat.le_refl 0
  | j :: js => by
    have h1 := namesAt_len h js
    have h2 := nmAt_len h j
    have e1 : ∀ is : List Nat, (namesAt l is).size = (is.flatMap (nmAt l)).length := fun is => by simp [namesAt, ByteArray.size]
    rw [e1] at h1 ⊢
    rw [List.flatMap_cons, List.length_append, List.length_cons]
    omega

set_option maxRecDepth 100000 in
set_option maxHeartbeats 400000 in
theorem l1Names_any (A : Option Addr) (l : List Seg) (c g cap base : Nat) (js : List Nat) (w : World) (hw : Segs w w.heap.size A l) (hl : l.length ≤ 1048576) (hone : ∀ s ∈ l, s.name.size ≤ 1) (hjs : ∀ j ∈ js, j < l.length) (hjl : js.length ≤ 1048577)
    (hown : w.ownsRow base 3 1 (.slice (some ⟨g, 0, none⟩) js.length cap) js.length ((js.map fun j : Nat => (j : Int)).map (Value.int .i64))) :
    Calls Try.prog 84 #[.slice A l.length c, .slice (some ⟨g, 0, none⟩) js.length cap] w fun e w' => e = .returned (.string (namesAt l js)) ∧ w = w' := by
  have HW : Hid (Segs w w.heap.size A l) := hw
  have HO := Lib.hid hown
  have HJ := Lib.hid hjs
  have H1 := Lib.hid hone
  clear hw hown hjs hone
  go_enter Try.func84, Try.ntmps84
  go_wp2
  go_loop [5, 10] (fun s i => ∃ (k : Nat), k ≤ js.length ∧ i = .int .i64 k ∧ s = .string (namesAt l (js.take k)))
    (fun _ i => js.length - (intOf i).toNat)
  case atStart => exact ⟨0, Nat.zero_le _, rfl, rfl⟩
  case round =>
    obtain ⟨k, hk, rfl, rfl⟩ := hrel
    by_cases hlt : k < js.length
    · have hj := HJ.out js[k] (List.getElem_mem hlt)
      have hc : w.cell? ⟨g, k, none⟩ = some (.int .i64 (js[k] : Int)) := by
        rw [HO.out.cellAt k (by omega)]
        simp [hlt]
      obtain ⟨b, o, rfl, hB, hc'⟩ := HW.out (by omega)
      obtain ⟨c0, c1, c2⟩ := hc' js[k] l[js[k]] (List.getElem?_eq_getElem hj)
      clear hc' c1 c2
      have HQ : Hid (namesAt l (js.take (k + 1)) = namesAt l (js.take k) ++ l[js[k]].name) := by
        show _ = _
        rw [List.take_succ_eq_append_getElem hlt, namesAt_snoc _ hj]
      have hlen : (namesAt l (js.take k)).size ≤ 1048577 := by
        have h1 := namesAt_len H1.out (js.take k)
        rw [List.length_take] at h1
        omega
      have hx1 := H1.out l[js[k]] (List.getElem_mem hj)
      have hj0 : (0 : Int) ≤ (js[k] : Int) := Int.natCast_nonneg _
      have hj1 : (js[k] : Int) < (l.length : Int) := by omega
      generalize l[js[k]] = x at *
      generalize js[k] = j at *
      go_wp2
      go_round
      case rel => exact ⟨k + 1, by omega, by go_num, by rw [HQ.out]⟩
      case measure => simp [intOf]; omega
    · obtain rfl : k = js.length := by omega
      have HE : Hid (namesAt l (js.take js.length) = namesAt l js) := by
        show _ = _
        rw [List.take_length]
      go_wp2
      go_ret
      exact ⟨by rw [← HE.out]; rfl, rfl⟩

end Go.Proofs.Ytcpiojliakgdlaa
/- Two paths from the root: what they have in common. No program. -/
namespace Go.Proofs.Ytcpiojliakgdlaa
open Go.RowKit

def rp (l : List Seg) (i : Nat) : List Nat := rootPath l (i + 1) i
theorem rootPath_fuel {l : List Seg} (hd : Down l l.length) : ∀ (f g i : Nat), i < l.length → i < f → i < g → rootPath l f i = rootPath l g i
  | 0, _, _, _, h, _ => absurd h (by omega)
  | _ + 1, 0, _, _, _, h => absurd h (by omega)
  | f + 1, g + 1, i, hi, hf, hg => by
    have h1 := hd i hi
    unfold rootPath
    by_cases hp : parAt l i < 0
    · rw [if_pos hp, if_pos hp]
    · rw [if_neg hp, if_neg hp, rootPath_fuel hd f g _ (by omega) (by omega) (by omega)]
theorem rp_root {l : List Seg} {i : Nat} (hp : parAt l i < 0) : rp l i = [i] := by
  unfold rp rootPath
  rw [if_pos hp]; rfl
theorem rp_step {l : List Seg} (hd : Down l l.length) {i p : Nat} (hi : i < l.length) (hp : parAt l i = (p : Int)) : rp l i = rp l p ++ [i] := by
  have h1 := hd i hi
  have h2 : rp l i = (if parAt l i < 0 then [] else rootPath l i (parAt l i).toNat) ++ [i] := rfl
  rw [h2, if_neg (by omega), hp, Int.toNat_natCast]
  unfold rp
  rw [rootPath_fuel hd i (p + 1) p (by omega) (by omega) (by omega)]
theorem par_cases {l : List Seg} (hd : Down l l.length) {i : Nat} (hi : i < l.length) : parAt l i < 0 ∨ ∃ p : Nat, parAt l i = (p : Int) ∧ p < i := by
  have h1 := hd i hi
  by_cases hp : parAt l i < 0
  · exact .inl hp
  · obtain ⟨p, hpe⟩ := Int.eq_ofNat_of_zero_le (show 0 ≤ parAt l i by omega)
    exact .inr ⟨p, hpe, by omega⟩
theorem rp_ind {l : List Seg} (hd : Down l l.length) {C : Nat → Prop} (h0 : ∀ i, i < l.length → parAt l i < 0 → C i) (h1 : ∀ i p, i < l.length → p < i → parAt l i = (p : Int) → C p → C i) : ∀ i, i < l.length → C i := by
  intro i
  induction i using Nat.strongRecOn with
  | ind i ih =>
    intro hi
    rcases par_cases hd hi with hp | ⟨p, hp, hpi⟩
    · exact h0 i hi hp
    · exact h1 i p hi hpi hp (ih p hpi (by omega))
theorem rp_last {l : List Seg} (hd : Down l l.length) (i : Nat) (hi : i < l.length) : ∃ A, rp l i = A ++ [i] := by
  rcases par_cases hd hi with hp | ⟨p, hp, _⟩
  · exact ⟨[], rp_root hp⟩
  · exact ⟨_, rp_step hd hi hp⟩
theorem rp_le {l : List Seg} (hd : Down l l.length) : ∀ i, i < l.length → ∀ v ∈ rp l i, v ≤ i :=
  rp_ind hd (fun i _ hp v hv => by rw [rp_root hp] at hv; simp at hv; omega) (fun i p hi hpi hp ih v hv => by
    rw [rp_step hd hi hp] at hv
    rcases List.mem_append.1 hv with h | h
    · have := ih v h; omega
    · simp at h; omega)
theorem rp_asc {l : List Seg} (hd : Down l l.length) : ∀ i, i < l.length → (rp l i).Pairwise (· < ·) :=
  rp_ind hd (fun i _ hp => by rw [rp_root hp]; exact List.pairwise_singleton _ _) (fun i p hi hpi hp ih => by
    rw [rp_step hd hi hp, List.pairwise_append]
    refine ⟨ih, List.pairwise_singleton _ _, fun a ha b hb => ?_⟩
    have := rp_le hd p (by omega) a ha
    simp at hb
    omega)
theorem rp_prefix {l : List Seg} (hd : Down l l.length) : ∀ i, i < l.length → ∀ v ∈ rp l i, rp l v <+: rp l i :=
  rp_ind hd (fun i _ hp v hv => by
    rw [rp_root hp] at hv
    simp at hv
    subst hv
    exact List.prefix_refl _) (fun i p hi hpi hp ih v hv => by
    have he := rp_step hd hi hp
    rw [he] at hv
    rcases List.mem_append.1 hv with h | h
    · rw [he]; exact (ih v h).trans (List.prefix_append _ _)
    · simp at h
      subst h
      exact List.prefix_refl _)
def comLen {α : Type} [DecidableEq α] : List α → List α → Nat
  | a :: xs, b :: ys => if a = b then comLen xs ys + 1 else 0
  | _, _ => 0
theorem comLen_map {α β : Type} [DecidableEq α] [DecidableEq β] (f : α → β) : ∀ (xs ys : List α), (∀ a ∈ xs, ∀ b ∈ ys, f a = f b → a = b) → comLen (xs.map f) (ys.map f) = comLen xs ys
  | [], _, _ => by simp [comLen]
  | _ :: _, [], _ => by simp [comLen]
  | a :: xs, b :: ys, h => by
    have h1 := comLen_map f xs ys (fun x hx y hy => h x (List.mem_cons_of_mem _ hx) y (List.mem_cons_of_mem _ hy))
    simp only [List.map_cons, comLen]
    by_cases he : a = b
    · rw [if_pos he, if_pos (by rw [he]), h1]
    · rw [if_neg he, if_neg (fun e => he (h a List.mem_cons_self b List.mem_cons_self e))]
theorem comLen_prefix {α : Type} [DecidableEq α] : ∀ (Q xs ys : List α), Q <+: xs → Q <+: ys → Q.length ≤ comLen xs ys
  | [], _, _, _, _ => Nat.zero_le _
  | q :: Q, xs, ys, ⟨A, hA⟩, ⟨B, hB⟩ => by
    subst hA hB
    simp only [List.cons_append, comLen, List.length_cons, if_true]
    have := comLen_prefix Q (Q ++ A) (Q ++ B) ⟨A, rfl⟩ ⟨B, rfl⟩
    omega
theorem comLen_get {α : Type} [DecidableEq α] : ∀ (xs ys : List α) (k : Nat), k < comLen xs ys → ∃ x, xs[k]? = some x ∧ ys[k]? = some x
  | [], _, _, h => by simp [comLen] at h
  | _ :: _, [], _, h => by simp [comLen] at h
  | a :: xs, b :: ys, k, h => by
    simp only [comLen] at h
    by_cases he : a = b
    · rw [if_pos he] at h
      cases k with
      | zero => exact ⟨a, rfl, by rw [he]; rfl⟩
      | succ k => exact comLen_get xs ys k (by omega)
    · rw [if_neg he] at h; omega
theorem comLen_le {α : Type} [DecidableEq α] : ∀ (xs ys : List α), comLen xs ys ≤ xs.length ∧ comLen xs ys ≤ ys.length
  | [], _ => by simp [comLen]
  | _ :: _, [] => by simp [comLen]
  | a :: xs, b :: ys => by
    have h := comLen_le xs ys
    simp only [comLen, List.length_cons]
    split <;> omega

theorem snoc_unique {P A B : List Nat} {v : Nat} (hP : P.Pairwise (· < ·)) (hA : A ++ [v] <+: P) (hB : B ++ [v] <+: P) : A.length = B.length := by
  have hget : ∀ C, C ++ [v] <+: P → ∃ h : C.length < P.length, P[C.length] = v := fun C ⟨r, hr⟩ => by
    have hl : C.length < P.length := by rw [← hr]; simp
    refine ⟨hl, ?_⟩
    have : P[C.length]? = some v := by rw [← hr]; simp
    rw [List.getElem?_eq_getElem hl] at this
    injection this
  obtain ⟨ha, hva⟩ := hget A hA
  obtain ⟨hb, hvb⟩ := hget B hB
  have hp := List.pairwise_iff_getElem.1 hP
  rcases Nat.lt_trichotomy A.length B.length with h | h | h
  · have := hp _ _ ha hb h; omega
  · exact h
  · have := hp _ _ hb ha h; omega

end Go.Proofs.Ytcpiojliakgdlaa
/- Where segments lie. No program. -/
namespace Go.Proofs.Ytcpiojliakgdlaa
open Go.RowKit

def szs (l : List Seg) (js : List Nat) : Int := (js.map (sizeAt l)).sum
theorem szs_snoc (l : List Seg) (js : List Nat) (j : Nat) : szs l (js ++ [j]) = szs l js + sizeAt l j := by
  unfold szs
  rw [List.map_append, List.sum_append_int]
  simp
theorem sizeAt_bd {l : List Seg} (h : validB l = true) {i : Nat} (hi : i < l.length) : 1 ≤ sizeAt l i ∧ sizeAt l i ≤ 99 := by
  rw [sizeAt_of hi]
  exact valid_size h hi
end Go.Proofs.Ytcpiojliakgdlaa
