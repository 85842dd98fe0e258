/- Joined: Hm Va Rf Ho Hp Hq Mo. -/
import Derived.Test.YtdbddockmdkmeaaDoorU02
import Derived.Test.YtdbddockmdkmeaaDoorU04
import Derived.Test.YtdbddockmdkmeaaDoorU01
import Derived.Lib.Bytealg
import Derived.Test.YtdbddockmdkmeaaDoorSh
/- The program reads a number. -/
namespace Go.Proofs.YtdbddockmdkmeaaDoor
open Go.RowKit

/-- The library's two errors of reading lie where it reads them, whatever is made from here on. -/
def Errs12 (w : World) : Prop := ∃ tp p tr q, ∀ w', Below w.heap.size w w' → w'.var? Tryd.prog "strconv.ErrSyntax" = some #[.iface tp p] ∧ w'.var? Tryd.prog "strconv.ErrRange" = some #[.iface tr q]
theorem Errs12.below {w w' : World} (h : Errs12 w) (hb : Below w.heap.size w w') : Errs12 w' := by
  obtain ⟨tp, p, tr, q, h⟩ := h
  exact ⟨tp, p, tr, q, fun w2 h2 => h w2 (hb.trans (h2.mono hb.size))⟩
theorem not_ok12 {x : List UInt8} (h : ∀ v, Lib.atoiAll x ≠ .ok v) : ok12 x = false := by
  rw [← Bool.not_eq_true]
  exact fun e => h _ (atoi_ok e)

/-- What the program's reader of a number answers. -/
def numV (s : ByteArray) : Value := .tuple #[.int .i64 (if ok12 s.data.toList = true then (val12 s.data.toList : Int) else 0), .bool (ok12 s.data.toList)]
theorem numV_no {s : ByteArray} (h : ok12 s.data.toList = false) : numV s = .tuple #[.int .i64 0, .bool false] := by
  unfold numV
  rw [h]
  rfl
theorem numV_yes {s : ByteArray} {v : Int} (h : ok12 s.data.toList = true) (hv : Lib.atoiAll s.data.toList = .ok v) : numV s = .tuple #[.int .i64 v, .bool true] := by
  have e := atoi_ok h
  rw [hv] at e
  injection e with e
  unfold numV
  rw [h, e]
  rfl

set_option maxRecDepth 100000 in
set_option maxHeartbeats 1000000 in
theorem parseNumber_any (s : ByteArray) (w : World) (hp : Pow12 w) (he : Errs12 w) (hs : s.size ≤ 100000000) :
    Calls Tryd.prog 91 #[.string s] w fun e w' => e = .returned (numV s) ∧ Below w.heap.size w w' := by
  have HP := Lib.hid hp
  obtain ⟨tp, p, tr, q, he⟩ := he
  obtain ⟨he1, he2⟩ := he w (Below.refl _ w)
  have HE1 := Lib.hid he1
  have HE2 := Lib.hid he2
  clear hp he he1 he2
  rcases hh : Lib.atoiAll s.data.toList with v | _ | _
  · have hsd := num_said hh
    obtain ⟨hv0, hv1⟩ := Lib.atoiAll_bounds hh
    have HH := Lib.hid hh
    have HQ := Lib.hid (Tryd.strconv_Atoi_ok s (by omega) v hh w)
    clear hh
    go_enter Tryd.func91, Tryd.ntmps91
    go_wp2_with fail
    refine Calls.mono HQ.out ?_
    rintro e w1 ⟨rfl, hw1⟩
    have HB1 : Hid (Below w.heap.size w w1) := by
      show Below w.heap.size w w1
      rcases hw1 with rfl | ⟨t, rfl⟩
      · exact Below.refl _ _
      · exact Lib.bytesWorld_below _ _ _
    clear hw1 HQ
    by_cases hneg : v < 0
    · have HN := Lib.hid (numV_no (s := s) (by
        rw [← Bool.not_eq_true]
        intro e
        have := (hsd.2 e).1
        omega))
      clear hsd
      go_wp2
      go_ret2
      exact ⟨by rw [HN.out]; rfl, HB1.out⟩
    · by_cases hlong : 17 < s.size
      · have HN := Lib.hid (numV_no (s := s) (by
          rw [← Bool.not_eq_true]
          intro e
          have h1 := (hsd.2 e).2.1
          have h2 : s.data.toList.length = s.size := rfl
          omega))
        have hl' : (17 : Int) < (s.size : Int) := by omega
        clear hsd
        go_wp2
        go_ret2
        exact ⟨by rw [HN.out]; rfl, HB1.out⟩
      · have hl' : ¬ (17 : Int) < (s.size : Int) := by omega
        have hsz : s.data.toList.length ≤ 17 := by
          have h2 : s.data.toList.length = s.size := rfl
          omega
        by_cases hit : Lib.itoa v = s.data.toList
        · have HN := Lib.hid (numV_yes (s := s) (hsd.1 ⟨by omega, hsz, hit⟩) HH.out)
          have hts : txt12 (Lib.itoa v) = s := by rw [hit]; rfl
          clear hsd
          go_wp2_with fail
          refine Calls.mono (itoa12_any v w1 (HP.out.below HB1.out) hv0 hv1) ?_
          rw [hts]
          rintro e w2 ⟨rfl, hb2⟩
          have HB2 := Lib.hid (HB1.out.trans (hb2.mono HB1.out.size))
          clear hb2
          go_wp2
          go_ret2
          exact ⟨by rw [HN.out]; rfl, HB2.out⟩
        · have HN := Lib.hid (numV_no (s := s) (by
            rw [← Bool.not_eq_true]
            intro e
            exact hit (hsd.2 e).2.2))
          have hne : txt12 (Lib.itoa v) ≠ s := fun e => hit (by rw [← e]; rfl)
          clear hsd hit
          go_wp2_with fail
          refine Calls.mono (itoa12_any v w1 (HP.out.below HB1.out) hv0 hv1) ?_
          rintro e w2 ⟨rfl, hb2⟩
          have HB2 := Lib.hid (HB1.out.trans (hb2.mono HB1.out.size))
          clear hb2
          generalize txt12 (Lib.itoa v) = y at *
          have hsm : (y.toList == s.toList) = false := by
            rw [← Bool.not_eq_true]
            intro e
            exact hne (sameB_iff.1 e)
          clear hne
          go_wp2
          go_ret2
          exact ⟨by rw [HN.out]; rfl, HB2.out⟩
  · have HN := Lib.hid (numV_no (s := s) (not_ok12 fun v e => by rw [hh] at e; cases e))
    have HQ := Lib.hid (Tryd.strconv_Atoi_syntax_var s (by omega) hh tp p w HE1.out)
    clear hh
    go_enter Tryd.func91, Tryd.ntmps91
    go_wp2_with fail
    refine Calls.mono HQ.out ?_
    rintro e w1 ⟨N, rfl, -, -, hb1⟩
    have HB1 := Lib.hid hb1
    clear hb1 HQ
    go_wp2
    go_ret2
    exact ⟨by rw [HN.out]; rfl, HB1.out⟩
  · have HN := Lib.hid (numV_no (s := s) (not_ok12 fun v e => by rw [hh] at e; cases e))
    have HQ := Lib.hid (Tryd.strconv_Atoi_range_var s (by omega) hh tr q w HE2.out)
    clear hh
    go_enter Tryd.func91, Tryd.ntmps91
    go_wp2_with fail
    refine Calls.mono HQ.out ?_
    rintro e w1 ⟨N, rfl, -, -, hb1⟩
    have HB1 := Lib.hid hb1
    clear hb1 HQ
    go_wp2
    go_ret2
    exact ⟨by rw [HN.out]; rfl, HB1.out⟩

end Go.Proofs.YtdbddockmdkmeaaDoor
/- slices.Values at a slice of nodes. -/
namespace Go.Proofs.YtdbddockmdkmeaaDoor
open Go.RowKit Go.Shelf
attribute [local go_sem] Oper.semAt_some

/-- The slice value 'sv' holds pointers to the nodes 'ks', in a block below n₀; or it is nil and there are none. -/
def PtrsAt (n₀ : Nat) (W : World) (sv : Value) {l : List Seg} (nb : Nat → Nat) (ks : List (Ix l)) : Prop :=
  (sv = .slice none 0 0 ∧ ks = []) ∨ ∃ b off cap, sv = .slice (some ⟨b, off, none⟩) ks.length cap ∧ b < n₀ ∧ ∀ (j : Nat) (x : Ix l), ks[j]? = some x → W.cell? ⟨b, off + j, none⟩ = some (.pointer (some ⟨nb x.1, 0, none⟩))
theorem PtrsAt.below {n₀ : Nat} {A B : World} (h : Below n₀ A B) {sv : Value} {l : List Seg} {nb : Nat → Nat} {ks : List (Ix l)} : PtrsAt n₀ A sv nb ks → PtrsAt n₀ B sv nb ks
  | .inl e => .inl e
  | .inr ⟨b, off, cap, e, hb, hc⟩ => .inr ⟨b, off, cap, e, hb, fun j x hj => (h.cell (p := ⟨b, off + j, none⟩) hb).trans (hc j x hj)⟩

end Go.Proofs.YtdbddockmdkmeaaDoor

/- NamesOf and ChildrenOf: the program's and the model's. -/
namespace Go.Proofs.YtdbddockmdkmeaaDoor
open Go.RowKit Go.Shelf

end Go.Proofs.YtdbddockmdkmeaaDoor
/- A range over a function whose iterator may itself range over a function: what a round keeps is said of blocks, not of cells alone. -/
namespace Go.Proofs.YtdbddockmdkmeaaDoor
open Go.RowKit Go.Shelf

/-- What a round may not write: all but rows of bytes and rows of two cells or more (states of loading are kept). -/
def Firm (o : Obj) : Prop := ∀ c t fz, o = .cells c t fz → t ≠ 5 ∧ (c.size ≤ 1 ∨ t = 999999)

/-- All from block 'B' on that is firm lies as it lay. -/
structure KeepsN (B : Nat) (W W' : World) : Prop where
  size : W.heap.size ≤ W'.heap.size
  same : ∀ (k : Nat) (o : Obj), B ≤ k → W.heap[k]? = some o → Firm o → W'.heap[k]? = some o
theorem KeepsN.refl (B : Nat) (W : World) : KeepsN B W W := ⟨Nat.le_refl _, fun _ _ _ h _ => h⟩
theorem KeepsN.trans {B : Nat} {X Y Z : World} (h : KeepsN B X Y) (k : KeepsN B Y Z) : KeepsN B X Z := ⟨Nat.le_trans h.size k.size, fun i o hB hi ho => k.same i o hB (h.same i o hB hi ho) ho⟩
theorem KeepsN.mono {B B' : Nat} {X Y : World} (h : KeepsN B X Y) (hB : B ≤ B') : KeepsN B' X Y := ⟨h.size, fun i o hi ho hn => h.same i o (by omega) ho hn⟩
theorem KeepsN.put {B l : Nat} (W : World) (o : Obj) (hl : l < B) : KeepsN B W (W.putObj l o) := by
  have hg := grownBy_putObj' W l o
  exact ⟨hg.size, fun k o' hk ho _ => (hg.block k (Array.getElem?_eq_some_iff.1 ho).1 (fun he => by injection he with he; omega)).trans ho⟩
theorem KeepsN.alloc (B : Nat) (W : World) (o : Obj) : KeepsN B W (W.alloc o) :=
  ⟨by simp, fun k o' _ ho _ => (Below.heap_alloc W o k (Array.getElem?_eq_some_iff.1 ho).1).trans ho⟩

end Go.Proofs.YtdbddockmdkmeaaDoor
/- A range over a function whose iterator writes boxes of its own between two rounds, and whose rounds may write what lies ahead of it. -/
namespace Go.Proofs.YtdbddockmdkmeaaDoor
open Go.RowKit Go.Shelf

/-- The blocks of the iterator's boxes lie as they lay. -/
def KeptBox (n0 n1 : Nat) (W W' : World) : Prop := W.heap.size ≤ W'.heap.size ∧ ∀ k, n0 ≤ k → k < n1 → W'.heap[k]? = W.heap[k]?
theorem KeptBox.refl (n0 n1 : Nat) (W : World) : KeptBox n0 n1 W W := ⟨Nat.le_refl _, fun _ _ _ => rfl⟩
theorem KeptBox.trans {n0 n1 : Nat} {X Y Z : World} (h : KeptBox n0 n1 X Y) (k : KeptBox n0 n1 Y Z) : KeptBox n0 n1 X Z := ⟨Nat.le_trans h.1 k.1, fun i h0 h1 => (k.2 i h0 h1).trans (h.2 i h0 h1)⟩
/-- What is no row of cells lies as it lay, from block 'B' on. -/
def KeepsO (B : Nat) (W W' : World) : Prop := ∀ (k : Nat) (o : Obj), B ≤ k → W.heap[k]? = some o → o.isCells = false → W'.heap[k]? = some o
theorem KeepsO.refl (B : Nat) (W : World) : KeepsO B W W := fun _ _ _ h _ => h
theorem KeepsO.trans {B : Nat} {X Y Z : World} (h : KeepsO B X Y) (k : KeepsO B Y Z) : KeepsO B X Z := fun i o hB hi ho => k i o hB (h i o hB hi ho) ho
/-- What holds whatever is made, and whatever is written into the iterator's boxes. -/
def OwnBx {β : Type} (n0 n1 B : Nat) (I : β → World → Prop) : Prop := ∀ s W W' row, I s W → W.grownBy W' row → (∀ r, row = some r → (n0 ≤ r ∧ r < n1) ∨ (B ≤ r ∧ ∃ o : Obj, W.heap[r]? = some o ∧ o.isCells = false)) → I s W'
theorem OwnBx.plain {β : Type} {n0 n1 B : Nat} {I : β → World → Prop} (h : OwnBx n0 n1 B I) : OwnFrom B I := fun s W W' row hs hg hr => h s W W' row hs hg (fun r e => .inr (hr r e))

def SeqBx {α : Type} (n : Nat) (g : Nat) (lb : Array Value) (encs : α → Array Value) (n0 n1 : Nat) (S Sp : List α → Prop) (N : Nat) (w : World) : Prop :=
  ∀ (l : Nat) (J Jx : List α → World → Prop) (W : World), Below w.heap.size w W → OwnBx n0 n1 W.heap.size J → OwnBx n0 n1 W.heap.size Jx →
    (∀ pre x W1, J pre W1 → Sp (pre ++ [x]) → pre.length < N → W.heap.size ≤ W1.heap.size → YieldAt Fence.wide (n - 1) Tryd.prog l (encs x) W1 fun e W' =>
      (e = .returned (.bool true) ∧ J (pre ++ [x]) W' ∧ KeptBox n0 n1 W1 W') ∨ (e = .returned (.bool false) ∧ Jx (pre ++ [x]) W')) →
    J [] W →
    CallsIn Fence.wide n Tryd.prog g (#[.func (.yield l) #[] #[]] ++ lb) W fun e W' => (∃ v, e = .returned v) ∧ ((∃ xs, S xs ∧ J xs W') ∨ (∃ pre, Sp pre ∧ Jx pre W'))

/-- How the body of a round may be left. -/
def ownPostBx {α : Type} (B n0 n1 : Nat) (I : List α → World → Prop) (Ix : Code → List α → World → Prop) (xs : List α) (W : World) : Exit → Act → World → Prop
  | .normal, _, W' => KeepsO B W W' ∧ KeptBox n0 n1 W W' ∧ I xs W'
  | .ret, _, W' => KeepsO B W W' ∧ Ix .ret xs W'
  | .exit id, _, W' => KeepsO B W W' ∧ Ix (.exit id) xs W'
  | .goto t, _, W' => KeepsO B W W' ∧ Ix (.goto t) xs W'
  | .panic _, _, _ => False
  | .outgrown, _, _ => False

theorem wpIn_rangeFunc_Bx {α : Type} {n : Nat} {g : Operand} {ps : Array Tmp} {assign body : Code} {Q : Exit → Act → World → Prop} {a : Act} {w : World}
    (h1 : 1 ≤ n) {gf : Nat} {lb : Array Value} (hg : a.eval g = .func (.func gf) #[] lb) (eg : ∀ args w, (callFunc gf args).run Tryd.prog w = .ok (.enter gf args) w)
    {encs : α → Array Value} {n0 n1 : Nat} {S Sp : List α → Prop} {N : Nat} {w0 : World} (hseq : SeqBx (n - 1) gf lb encs n0 n1 S Sp N w0)
    (hn1 : n1 ≤ w.heap.size) (hb0 : Below w0.heap.size w0 w) (hps : ∀ x, (encs x).size = ps.size)
    (I : List α → World → Prop) (Ix : Code → List α → World → Prop) (hI : OwnBx n0 n1 w.heap.size I) (hIx : ∀ c, OwnBx n0 n1 w.heap.size (Ix c)) (h0 : I [] w) (a₁ : α → Act)
    (hassign : ∀ (l : Nat) (x : α) (W : World) (K : Act → World → Prop), K (a₁ x) W →
      assign.wpIn (Fence.wide.inRound l) (n - 1 - 1) Tryd.prog (Exit.then K (fun _ _ _ => False)) { tmps := (ps.zip (encs x)).foldl (fun t (p, v) => t.setIfInBounds p v) a.tmps, defers := [] } W)
    (hbody : ∀ (l : Nat) (pre : List α) (x : α) (W : World), I pre W → Sp (pre ++ [x]) → pre.length < N → w.heap.size + 2 ≤ W.heap.size → body.wpIn (Fence.wide.inRound l) (n - 1 - 1) Tryd.prog (ownPostBx w.heap.size n0 n1 I Ix (pre ++ [x]) W) (a₁ x) W)
    (hdone : ∀ (L : Nat) (xs : List α) (W : World), w.heap.size ≤ L → S xs → I xs W → W.heap[L]? = some (.deferred (some [])) → Q .normal { a with defers := { target := .collected L, args := #[] } :: a.defers } W)
    (hstop : ∀ (L : Nat) (c : Code) (pre : List α) (W : World), w.heap.size ≤ L → Sp pre → Ix c pre W → W.heap[L]? = some (.deferred (some [])) → c.wpIn Fence.wide n Tryd.prog Q { a with defers := { target := .collected L, args := #[] } :: a.defers } W) :
    (Code.rangeFunc g ps assign body).wpIn Fence.wide n Tryd.prog Q a w := by
  refine wpIn_rangeFunc ?_
  intro fn hfn
  rw [show Fence.wide.round = none from rfl]
  obtain ⟨rec, hrec⟩ : ∃ rec : LoopState → Option Code → Loop, rec = fun st pe => { state := st, pending := pe, fn, tmps := a.tmps, params := ps, assign, body, defers := w.heap.size } := ⟨_, rfl⟩
  obtain ⟨W1, hW1⟩ : ∃ W1, (w.alloc (.deferred (some []))).alloc (.loop (rec .ready none)) = W1 := ⟨_, rfl⟩
  have hz1 : W1.heap.size = w.heap.size + 2 := by rw [← hW1]; simp
  have hL1 : W1.heap[w.heap.size + 1]? = some (.loop (rec .ready none)) := by
    rw [← hW1]; have := World.alloc_heap_new (w.alloc (.deferred (some []))) (.loop (rec .ready none)); rwa [World.size_alloc] at this
  have hK1 : W1.heap[w.heap.size]? = some (.deferred (some [])) := by
    rw [← hW1]; exact (Below.heap_alloc _ _ _ (by simp)).trans (World.alloc_heap_new w _)
  have hI1 : I [] W1 := by rw [← hW1]; exact hI.plain.alloc _ (hI.plain.alloc _ h0)
  have hb1 : Below w0.heap.size w0 W1 := by
    rw [← hW1]; exact hb0.trans ((((Below.refl _ w).alloc (Nat.le_refl _) _).alloc (by simp) _).mono hb0.size)
  refine ⟨w.heap.size + 1, [{ target := .collected w.heap.size, args := #[] }], W1, { target := .fn (.func gf) lb, args := #[.func (.yield (w.heap.size + 1)) #[] #[]] }, W1, gf,
    #[.func (.yield (w.heap.size + 1)) #[] #[]] ++ lb, W1, ?_, ?_, ?_, ?_, fun _ => h1, ?_⟩
  · rw [← hW1, hrec]; exact run_enterLoop_outer _ _ _ _ _
  · simp only [resolve, hg]
    simp [go_sem]
  · intro f' hf'; simp [Target.leads] at hf'; subst hf'; exact trivial
  · simp [invoke, go_sem, eg]
  · have hrow : ∀ {A B : World} {row : Option Nat}, (∀ r, row = some r → (n0 ≤ r ∧ r < n1) ∨ (W1.heap.size ≤ r ∧ ∃ o : Obj, A.heap[r]? = some o ∧ o.isCells = false)) → A.grownBy B row → ∀ (k : Nat) (o : Obj), w.heap.size ≤ k → k < W1.heap.size → A.heap[k]? = some o → B.heap[k]? = some o :=
      fun hr hg' k _ hk1 hk ho => (hg'.block k (Array.getElem?_eq_some_iff.1 ho).1 (fun he => by rcases hr k he.symm with h | h <;> omega)).trans ho
    have hlow : ∀ {A : World} {row : Option Nat}, (∀ r, row = some r → (n0 ≤ r ∧ r < n1) ∨ (W1.heap.size ≤ r ∧ ∃ o : Obj, A.heap[r]? = some o ∧ o.isCells = false)) → (∀ r, row = some r → (n0 ≤ r ∧ r < n1) ∨ (w.heap.size ≤ r ∧ ∃ o : Obj, A.heap[r]? = some o ∧ o.isCells = false)) :=
      fun hr r e => (hr r e).imp id (fun h => ⟨by omega, h.2⟩)
    refine (hseq (w.heap.size + 1)
      (fun pre W => I pre W ∧ W.heap[w.heap.size + 1]? = some (.loop (rec .ready none)) ∧ W.heap[w.heap.size]? = some (.deferred (some [])))
      (fun pre W => ∃ c, Ix c pre W ∧ W.heap[w.heap.size + 1]? = some (.loop (rec .done (some c))) ∧ W.heap[w.heap.size]? = some (.deferred (some [])))
      W1 hb1
      (fun s A B row hs hg' hr => ⟨hI s A B row hs.1 hg' (hlow hr), hrow hr hg' _ _ (by omega) (by omega) hs.2.1, hrow hr hg' _ _ (by omega) (by omega) hs.2.2⟩)
      (fun s A B row hs hg' hr => by
        obtain ⟨c, hc, hl, hk⟩ := hs
        exact ⟨c, hIx c s A B row hc hg' (hlow hr), hrow hr hg' _ _ (by omega) (by omega) hl, hrow hr hg' _ _ (by omega) (by omega) hk⟩)
      ?_ ⟨hI1, hL1, hK1⟩).mono ?_
    · rintro pre x W ⟨hi, hl, hk⟩ hsp hlen hWz
      have hlt : w.heap.size + 1 < W.heap.size := (Array.getElem?_eq_some_iff.1 hl).1
      have hy := run_yield (P := Tryd.prog) (args := encs x) hl (by rw [hrec]; exact hps x)
      rw [hrec] at hy
      refine ⟨fn, _, assign, body, hy, roundIn_of_wpIn hfn (hassign _ x W _ ⟨_, run_beginRound hl (by rw [hrec]), ?_⟩)⟩
      have hl2 : (W.putObj (w.heap.size + 1) (.loop { rec .ready none with state := .busy })).heap[w.heap.size + 1]? = some (.loop { rec .ready none with state := .busy }) := World.putObj_heap_same hlt
      have hk2 : (W.putObj (w.heap.size + 1) (.loop { rec .ready none with state := .busy })).heap[w.heap.size]? = some (.deferred (some [])) := (World.putObj_heap_other (by omega)).trans hk
      have hsz2 : (W.putObj (w.heap.size + 1) (.loop { rec .ready none with state := .busy })).heap.size = W.heap.size := by simp [World.putObj]
      refine wpIn_mono (hbody _ pre x _ (hI.plain.putObj _ hi (by omega) hl rfl) hsp hlen (by rw [hsz2]; omega)) ?_
      have fin : ∀ (jump : Option Code) (W3 : World), KeepsO w.heap.size (W.putObj (w.heap.size + 1) (.loop { rec .ready none with state := .busy })) W3 →
          (Instr.endRound (w.heap.size + 1) jump).run Tryd.prog W3 = .ok (.bool jump.isNone) (W3.putObj (w.heap.size + 1) (.loop (rec (if jump.isNone then .ready else .done) jump))) ∧
          W3.heap[w.heap.size + 1]? = some (.loop { rec .ready none with state := .busy }) ∧
          (W3.putObj (w.heap.size + 1) (.loop (rec (if jump.isNone then .ready else .done) jump))).heap[w.heap.size + 1]? = some (.loop (rec (if jump.isNone then .ready else .done) jump)) ∧
          (W3.putObj (w.heap.size + 1) (.loop (rec (if jump.isNone then .ready else .done) jump))).heap[w.heap.size]? = some (.deferred (some [])) := fun jump W3 hk3 => by
        have hl3 := hk3 _ _ (by omega) hl2 rfl
        have := run_endRound (P := Tryd.prog) jump hl3
        rw [hrec] at this ⊢
        exact ⟨this, by rw [hrec] at hl3; exact hl3, World.putObj_heap_same (Array.getElem?_eq_some_iff.1 hl3).1, (World.putObj_heap_other (by omega)).trans (hk3 _ _ (Nat.le_refl _) hk2 rfl)⟩
      rintro e a3 W3 hp
      cases e with
      | normal =>
        obtain ⟨hk3, hkp3, hi3⟩ := hp
        obtain ⟨hr, hl3, hl4, hk4⟩ := fin none W3 hk3
        refine ⟨_, _, hr, .inl ⟨rfl, ⟨hI.plain.putObj _ hi3 (by omega) hl3 rfl, hl4, hk4⟩, ?_, fun k h0 h1 => ?_⟩⟩
        · have h2 := hkp3.1
          rw [hsz2] at h2
          simpa [World.putObj] using h2
        · rw [World.putObj_heap_other (by omega), hkp3.2 k h0 h1, World.putObj_heap_other (by omega)]
      | ret =>
        obtain ⟨hk3, hi3⟩ := hp
        obtain ⟨hr, hl3, hl4, hk4⟩ := fin (some .ret) W3 hk3
        exact ⟨_, _, hr, .inr ⟨rfl, ⟨.ret, (hIx _).plain.putObj _ hi3 (by omega) hl3 rfl, hl4, hk4⟩⟩⟩
      | exit id =>
        obtain ⟨hk3, hi3⟩ := hp
        obtain ⟨hr, hl3, hl4, hk4⟩ := fin (some (.exit id)) W3 hk3
        exact ⟨_, _, hr, .inr ⟨rfl, ⟨.exit id, (hIx _).plain.putObj _ hi3 (by omega) hl3 rfl, hl4, hk4⟩⟩⟩
      | goto t =>
        obtain ⟨hk3, hi3⟩ := hp
        obtain ⟨hr, hl3, hl4, hk4⟩ := fin (some (.goto t)) W3 hk3
        exact ⟨_, _, hr, .inr ⟨rfl, ⟨.goto t, (hIx _).plain.putObj _ hi3 (by omega) hl3 rfl, hl4, hk4⟩⟩⟩
      | panic ch => exact hp.elim
      | outgrown => exact hp.elim
    · rintro e W2 ⟨⟨v, rfl⟩, (⟨xs, hS, hi, hl, hk⟩ | ⟨pre, hSp, c, hi, hl, hk⟩)⟩
      · exact ⟨none, _, by have := run_endLoop (P := Tryd.prog) hl (by rw [hrec]; simp); rw [hrec] at this; exact this, hdone _ xs _ (Nat.le_refl _) hS (hI.plain.putObj _ hi (by omega) hl rfl) ((World.putObj_heap_other (by omega)).trans hk)⟩
      · exact ⟨some c, _, by have := run_endLoop (P := Tryd.prog) hl (by rw [hrec]; simp); rw [hrec] at this; exact this, hstop _ c pre _ (Nat.le_refl _) hSp ((hIx c).plain.putObj _ hi (by omega) hl rfl) ((World.putObj_heap_other (by omega)).trans hk)⟩

end Go.Proofs.YtdbddockmdkmeaaDoor
/- The pieces of a text between spaces, plain: by the first space, again and again. -/
namespace Go.Proofs.YtdbddockmdkmeaaDoor
open Go.RowKit

/-- Signs put ahead of the first piece. -/
def ahead12 (y : List UInt8) : List (List UInt8) → List (List UInt8)
  | [] => [y]
  | p :: ps => (y ++ p) :: ps
/-- The pieces of signs. -/
def split12 : List UInt8 → List (List UInt8)
  | [] => [[]]
  | c :: r => if c = 32 then [] :: split12 r else ahead12 [c] (split12 r)
theorem split12_cons (c : UInt8) (r : List UInt8) : split12 (c :: r) = if c = 32 then [] :: split12 r else ahead12 [c] (split12 r) := rfl
theorem index12_cons (b : UInt8) (l : List UInt8) (c : UInt8) : Lib.indexByte (b :: l) c = if b == c then 0 else if Lib.indexByte l c == -1 then -1 else Lib.indexByte l c + 1 := rfl
theorem split12_ne (x : List UInt8) : split12 x ≠ [] := by
  cases x with
  | nil => simp [split12]
  | cons c r =>
    rw [split12_cons]
    split
    · simp
    · cases split12 r <;> simp [ahead12]
theorem ahead12_app (x y : List UInt8) (ps : List (List UInt8)) (h : ps ≠ []) : ahead12 x (ahead12 y ps) = ahead12 (x ++ y) ps := by
  cases ps with
  | nil => exact absurd rfl h
  | cons p r => simp [ahead12]
theorem ahead12_nil {ps : List (List UInt8)} (h : ps ≠ []) : ahead12 [] ps = ps := by
  cases ps with
  | nil => exact absurd rfl h
  | cons p r => simp [ahead12]
/-- By the first space. -/
theorem split_first : ∀ x : List UInt8, split12 x = if Lib.indexByte x 32 < 0 then [x] else x.take (Lib.indexByte x 32).toNat :: split12 (x.drop ((Lib.indexByte x 32).toNat + 1))
  | [] => rfl
  | c :: r => by
    have ih := split_first r
    have hg := Lib.indexByte_ge r 32
    rw [split12_cons, index12_cons]
    by_cases hc : c = 32
    · subst hc
      simp
    · have hb : (c == 32) = false := by rw [beq_eq_false_iff_ne]; exact hc
      rw [if_neg hc, hb]
      simp only [Bool.false_eq_true, if_false]
      by_cases hn : Lib.indexByte r 32 < 0
      · have e : (Lib.indexByte r 32 == -1) = true := by
          have : Lib.indexByte r 32 = -1 := by omega
          rw [this]; rfl
        rw [if_pos hn] at ih
        rw [e, ih]
        rfl
      · have e : (Lib.indexByte r 32 == -1) = false := by rw [beq_eq_false_iff_ne]; omega
        rw [if_neg hn] at ih
        rw [e, ih]
        simp only [Bool.false_eq_true, if_false]
        rw [if_neg (by omega)]
        obtain ⟨k, hk⟩ := Int.eq_ofNat_of_zero_le (show 0 ≤ Lib.indexByte r 32 by omega)
        rw [hk]
        simp only [Int.toNat_natCast]
        have e2 : ((k : Int) + 1).toNat = k + 1 := by omega
        rw [e2]
        simp [ahead12]
theorem index_le : ∀ (x : List UInt8), Lib.indexByte x 32 < x.length
  | [] => by decide
  | c :: r => by
    have ih := index_le r
    rw [index12_cons, List.length_cons]
    split
    · omega
    · split <;> omega
theorem ext12 (s : ByteArray) (a b : Nat) : (s.extract a b).data.toList = (s.data.toList.take b).drop a := by rw [List.drop_take]; simp
/-- The reference's pieces are those. -/
theorem cut_split (s : ByteArray) : ∀ i, i ≤ s.size → split12 s.data.toList = (cutSt s 32 i).1.map (·.data.toList) ++ ahead12 ((s.data.toList.take i).drop (cutSt s 32 i).2) (split12 (s.data.toList.drop i))
  | 0, _ => by
    show _ = [] ++ ahead12 ((s.data.toList.take 0).drop 0) (split12 (s.data.toList.drop 0))
    simp only [List.take_zero, List.drop_zero, List.drop_nil, List.nil_append]
    rw [ahead12_nil (split12_ne _)]
  | i + 1, hi => by
    have ih := cut_split s i (by omega)
    have hlt : i < s.data.toList.length := by
      have : s.data.toList.length = s.size := rfl
      omega
    have hd : s.data.toList.drop i = s.data.toList[i] :: s.data.toList.drop (i + 1) := List.drop_eq_getElem_cons hlt
    have hat : s.data.toList.getD i 0 = s.data.toList[i] := by rw [List.getD_eq_getElem?_getD, List.getElem?_eq_getElem hlt]; rfl
    have hst := (cutSt_le s 32 i).1
    rw [hd] at ih
    rw [ih]
    show _ = (if (i == s.size || s.data.toList.getD i 0 == 32) = true then ((cutSt s 32 i).1 ++ [s.extract (cutSt s 32 i).2 i], i + 1) else cutSt s 32 i).1.map (·.data.toList) ++ ahead12 ((s.data.toList.take (i + 1)).drop (if (i == s.size || s.data.toList.getD i 0 == 32) = true then ((cutSt s 32 i).1 ++ [s.extract (cutSt s 32 i).2 i], i + 1) else cutSt s 32 i).2) (split12 (s.data.toList.drop (i + 1)))
    have hz : (i == s.size) = false := by rw [beq_eq_false_iff_ne]; omega
    rw [hz, Bool.false_or, hat]
    by_cases hc : s.data.toList[i] = 32
    · have e : (s.data.toList[i] == 32) = true := by rw [hc]; rfl
      rw [if_pos e, split12_cons, if_pos hc]
      have e2 : (s.data.toList.take (i + 1)).drop (i + 1) = [] := List.drop_eq_nil_of_le (by rw [List.length_take]; omega)
      show _ = List.map (·.data.toList) ((cutSt s 32 i).1 ++ [s.extract (cutSt s 32 i).2 i]) ++ ahead12 ((s.data.toList.take (i + 1)).drop (i + 1)) _
      rw [e2, ahead12_nil (split12_ne _), List.map_append, List.append_assoc]
      congr 1
      show ahead12 _ ([] :: _) = [(s.extract (cutSt s 32 i).2 i).data.toList] ++ _
      rw [ext12]
      simp [ahead12]
    · have e : (s.data.toList[i] == 32) = false := by rw [beq_eq_false_iff_ne]; exact hc
      rw [if_neg (by rw [e]; decide)]
      rw [split12_cons, if_neg hc, ahead12_app _ _ _ (split12_ne _)]
      congr 2
      rw [List.take_succ_eq_append_getElem hlt, List.drop_append_of_le_length (by rw [List.length_take]; omega)]
theorem cutRes_split (s : ByteArray) : (cutRes s 32).map (·.data.toList) = split12 s.data.toList := by
  have h := cut_split s s.size (Nat.le_refl _)
  have hl : s.data.toList.length = s.size := rfl
  have e0 : s.data.toList.drop s.size = [] := List.drop_eq_nil_of_le (by omega)
  rw [e0] at h
  rw [h]
  unfold cutRes
  show (if (s.size == s.size || s.data.toList.getD s.size 0 == 32) = true then ((cutSt s 32 s.size).1 ++ [s.extract (cutSt s 32 s.size).2 s.size], s.size + 1) else cutSt s 32 s.size).1.map (·.data.toList) = _
  rw [if_pos (by simp), List.map_append]
  congr 1
  show [(s.extract (cutSt s 32 s.size).2 s.size).data.toList] = ahead12 _ [[]]
  rw [ext12]
  simp [ahead12]
theorem bytes_inj12 {a b : ByteArray} (h : a.data.toList = b.data.toList) : a = b := by
  apply ByteArray.ext
  exact Array.toList_inj.1 h
theorem map_inj12 : ∀ {xs ys : List ByteArray}, xs.map (·.data.toList) = ys.map (·.data.toList) → xs = ys
  | [], [], _ => rfl
  | [], _ :: _, h => by simp at h
  | _ :: _, [], h => by simp at h
  | a :: xs, b :: ys, h => by
    rw [List.map_cons, List.map_cons] at h
    injection h with h1 h2
    rw [bytes_inj12 h1, map_inj12 h2]
/-- By the first space, for the reference's pieces. -/
theorem cutRes_none {s : ByteArray} (h : Lib.indexByte s.data.toList 32 < 0) : cutRes s 32 = [s] := by
  refine map_inj12 ?_
  rw [cutRes_split, split_first, if_pos h]
  rfl
theorem cutRes_some {s : ByteArray} {i : Nat} (h : Lib.indexByte s.data.toList 32 = (i : Int)) : cutRes s 32 = s.extract 0 i :: cutRes (s.extract (i + 1) s.size) 32 := by
  refine map_inj12 ?_
  have hi := index_le s.data.toList
  have hl : s.data.toList.length = s.size := rfl
  have e : s.data.toList.take s.size = s.data.toList := List.take_of_length_le (by omega)
  rw [cutRes_split, split_first, if_neg (by omega), h, Int.toNat_natCast, List.map_cons, cutRes_split, ext12, ext12, List.drop_zero, e]

end Go.Proofs.YtdbddockmdkmeaaDoor
/- strings.SplitSeq with a space: the iterator yields the pieces. -/
namespace Go.Proofs.YtdbddockmdkmeaaDoor
open Go.RowKit Go.Shelf

/-- The iterator's boxes: what is left, the separator, how much of it is kept. -/
structure Boxes12 (W : World) (n0 : Nat) (r : ByteArray) : Prop where
  text : Row W n0 9 #[.string r]
  sep : Row W (n0 + 1) 9 #[.string ⟨#[32]⟩]
  save : Row W (n0 + 2) 3 #[.int .i64 0]
theorem Boxes12.keep {W W' : World} {n0 : Nat} {r : ByteArray} (h : Boxes12 W n0 r) (hk : KeptBox n0 (n0 + 3) W W') : Boxes12 W' n0 r :=
  ⟨(hk.2 n0 (by omega) (by omega)).trans h.text, (hk.2 (n0 + 1) (by omega) (by omega)).trans h.sep, (hk.2 (n0 + 2) (by omega) (by omega)).trans h.save⟩
theorem Boxes12.put {W : World} {n0 : Nat} {r : ByteArray} (h : Boxes12 W n0 r) (s : ByteArray) : Boxes12 (W.setCell ⟨n0, 0, none⟩ (.string s)) n0 s :=
  ⟨h.text.put 0 _, h.sep.far (p := ⟨n0, 0, none⟩) (by show n0 + 1 ≠ n0; omega) _, h.save.far (p := ⟨n0, 0, none⟩) (by show n0 + 2 ≠ n0; omega) _⟩
theorem grown_put12 (W : World) (b i : Nat) (v : Value) : W.grownBy (W.setCell ⟨b, i, none⟩ v) (some b) := by
  have h := St.onlyPut (St.onlyRefl W (· = b)) (b := b) rfl i v
  exact ⟨h.os, h.tape, h.output, h.size, fun k hk hne => h.block k hk (fun e => hne (by rw [e]))⟩
/-- How long what is left is. -/
def left12 (W : World) (n0 : Nat) : Nat := match W.cell? ⟨n0, 0, none⟩ with
  | some (.string r) => r.size
  | _ => 0
theorem left12_of {W : World} {n0 : Nat} {r : ByteArray} (h : Boxes12 W n0 r) : left12 W n0 = r.size := by
  unfold left12
  have h2 : W.cell? ⟨n0, 0, none⟩ = some (.string r) := h.text.cell 0
  rw [h2]
theorem take_len12 {α : Type} (pre ps : List α) : pre = (pre ++ ps).take pre.length := by simp

set_option maxRecDepth 100000 in
set_option maxHeartbeats 2000000 in
theorem split1_seq (n : Nat) (t : ByteArray) (ht : t.size ≤ 1048576) (n0 : Nat) (w : World) (h0 : Boxes12 w n0 t) :
    SeqBx n 114 #[.pointer (some ⟨n0 + 1, 0, none⟩), .pointer (some ⟨n0, 0, none⟩), .pointer (some ⟨n0 + 2, 0, none⟩)] (fun x : ByteArray => #[.string x]) n0 (n0 + 3)
      (fun xs => xs = cutRes t 32) (fun pre => ∃ k, pre = (cutRes t 32).take k) (cutRes t 32).length w := by
  intro l' J Jx W hW hJ hJx hY hJ0
  have hz0 : n0 + 2 < W.heap.size := by have := h0.save.lt; have := hW.size; omega
  have hB0 : Boxes12 W n0 t := ⟨h0.text.below hW h0.text.lt, h0.sep.below hW h0.sep.lt, h0.save.below hW h0.save.lt⟩
  have HJ := Lib.hid hJ
  have HY := Lib.hid hY
  have HJ0 : Hid (J [] W) := hJ0
  have HB0 := Lib.hid hB0
  have c1 : W.cell? ⟨n0 + 1, 0, none⟩ = some (.string ⟨#[32]⟩) := hB0.sep.cell 0
  have hl1 : (⟨#[32]⟩ : ByteArray).size = 1 := rfl
  clear hJ hJx hY hJ0 hB0
  refine callsIn_of_wp Tryd.func114 rfl trivial ?_ rfl
  simp only [Tryd.ntmps114, List.size_toArray, List.length_cons, List.length_nil, Nat.reduceAdd, Nat.reduceSub, Array.replicate_succ, Array.replicate_zero, List.push_toArray, List.append_toArray, List.nil_append, List.cons_append]
  gi_wp2
  gi_loopw [7] (fun _ wr => ∃ (pre : List ByteArray) (r : ByteArray), r.size ≤ t.size ∧ Hid (cutRes t 32 = pre ++ cutRes r 32) ∧ Hid (J pre wr) ∧ Hid (Boxes12 wr n0 r) ∧ W.heap.size ≤ wr.heap.size)
    (fun _ wr => left12 wr n0)
  case atStart => exact ⟨[], t, Nat.le_refl _, Lib.hid rfl, HJ0, HB0, Nat.le_refl _⟩
  case round =>
    obtain ⟨pre, r, hrs, HC, HJ1, HB, hwz⟩ := hrel
    clear HJ0 HB0 c1
    have hml := left12_of HB.out
    have c0 : wr.cell? ⟨n0, 0, none⟩ = some (.string r) := HB.out.text.cell 0
    have c1 : wr.cell? ⟨n0 + 1, 0, none⟩ = some (.string ⟨#[32]⟩) := HB.out.sep.cell 0
    have c2 : wr.cell? ⟨n0 + 2, 0, none⟩ = some (.int .i64 0) := HB.out.save.cell 0
    have HML := Lib.hid hml
    clear hml
    by_cases hi : Lib.indexByte r.data.toList 32 < 0
    · have HR := Lib.hid (cutRes_none hi)
      have HE : Hid (cutRes t 32 = pre ++ [r]) := by
        show _ = _
        rw [HC.out, HR.out]
      have HQ := Lib.hid (Tryd.strings_Index_one r 32 wr)
      obtain ⟨fn, tmps, assign, body, hy, hR⟩ := HY.out pre r wr HJ1.out ⟨(pre ++ [r]).length, by rw [HE.out, List.take_length]⟩ (by rw [HE.out, List.length_append]; simp) hwz
      have HRR := Lib.hid hR
      clear hR HR
      generalize Lib.indexByte r.data.toList 32 = ix at *
      gi_wp2_with fail
      refine ⟨trivial, fun h => by simp [Fence.wide] at h, ?_⟩
      refine (callsIn_wide.2 HQ.out).mono ?_
      rintro e w2 ⟨rfl, rfl⟩
      clear HQ
      gi_wp2_with fail
      refine ⟨fun h => by simp [Fence.wide] at h, ?_⟩
      refine HRR.out.mono ?_
      rintro e W3 (⟨rfl, hJ3, hk3⟩ | ⟨rfl, hx3⟩)
      · have HJ3 := Lib.hid hJ3
        clear hJ3 hk3 HRR
        gi_wp2
        go_end0
        exact ⟨⟨_, rfl⟩, .inl ⟨_, HE.out.symm, HJ3.out⟩⟩
      · have HJ3 := Lib.hid hx3
        clear hx3 HRR
        gi_wp2
        go_end0
        exact ⟨⟨_, rfl⟩, .inr ⟨_, ⟨(pre ++ [r]).length, by rw [HE.out, List.take_length]⟩, HJ3.out⟩⟩
    · obtain ⟨i, hix⟩ := Int.eq_ofNat_of_zero_le (show 0 ≤ Lib.indexByte r.data.toList 32 by omega)
      have hil := index_le r.data.toList
      rw [hix] at hil
      have hil : i < r.size := by
        have : r.data.toList.length = r.size := rfl
        omega
      have HR := Lib.hid (cutRes_some hix)
      have HE : Hid (cutRes t 32 = pre ++ r.extract 0 i :: cutRes (r.extract (i + 1) r.size) 32) := by
        show _ = _
        rw [HC.out, HR.out]
      have HQ := Lib.hid (Tryd.strings_Index_one r 32 wr)
      rw [hix] at HQ
      obtain ⟨fn, tmps, assign, body, hy, hR⟩ := HY.out pre (r.extract 0 i) wr HJ1.out ⟨(pre ++ [r.extract 0 i]).length, by rw [HE.out, show pre ++ r.extract 0 i :: cutRes (r.extract (i + 1) r.size) 32 = (pre ++ [r.extract 0 i]) ++ cutRes (r.extract (i + 1) r.size) 32 by simp]; exact take_len12 _ _⟩ (by rw [HE.out, List.length_append]; simp) hwz
      have HRR := Lib.hid hR
      have hi0 : (0 : Int) ≤ (i : Int) := Int.natCast_nonneg _
      have hi1 : (i : Int) < (r.size : Int) := by omega
      have hiz : ((i : Int) + 0).toNat = i := by omega
      have hip : ((i : Int) + 1).toNat = i + 1 := by omega
      clear hR HR hi hix
      gi_wp2_with fail
      refine ⟨trivial, fun h => by simp [Fence.wide] at h, ?_⟩
      refine (callsIn_wide.2 HQ.out).mono ?_
      rintro e w2 ⟨rfl, rfl⟩
      clear HQ
      gi_wp2_with fail
      refine ⟨fun h => by simp [Fence.wide] at h, ?_⟩
      refine HRR.out.mono ?_
      rintro e W3 (⟨rfl, hJ3, hk3⟩ | ⟨rfl, hx3⟩)
      · have HJ3 := Lib.hid hJ3
        have HB3 := Lib.hid (HB.out.keep hk3)
        have hz3 := hk3.1
        have d0 : W3.cell? ⟨n0, 0, none⟩ = some (.string r) := HB3.out.text.cell 0
        have d1 : W3.cell? ⟨n0 + 1, 0, none⟩ = some (.string ⟨#[32]⟩) := HB3.out.sep.cell 0
        have f0 := HB3.out.text.free 0
        have HB4 := Lib.hid (HB3.out.put (r.extract (i + 1) r.size))
        have HJ4 : Hid (J (pre ++ [r.extract 0 i]) (W3.setCell ⟨n0, 0, none⟩ (.string (r.extract (i + 1) r.size)))) := HJ.out _ W3 _ (some n0) HJ3.out (grown_put12 W3 n0 0 _) (fun q e => .inl (by injection e with e; omega))
        have hsz : (r.extract (i + 1) r.size).size < r.size := by rw [ByteArray.size_extract]; omega
        have HZ4 := Lib.hid (left12_of HB4.out)
        have hz4 : (W3.setCell ⟨n0, 0, none⟩ (.string (r.extract (i + 1) r.size))).heap.size = W3.heap.size := by simp [World.setCell]
        clear hJ3 hk3 HRR HB3 HJ3 c0 c1 c2
        gi_wp2
        go_roundw
        case rel => exact ⟨pre ++ [r.extract 0 i], r.extract (i + 1) r.size, by omega, Lib.hid (by rw [HE.out]; simp), HJ4, HB4, by omega⟩
        case measure => rw [HZ4.out, HML.out]; exact hsz
      · have HJ3 := Lib.hid hx3
        clear hx3 HRR
        gi_wp2
        refine bodyPost_ret (results_none rfl _ _ _) rfl ?_
        exact ⟨⟨_, rfl⟩, .inr ⟨_, ⟨(pre ++ [r.extract 0 i]).length, by rw [HE.out, show pre ++ r.extract 0 i :: cutRes (r.extract (i + 1) r.size) 32 = (pre ++ [r.extract 0 i]) ++ cutRes (r.extract (i + 1) r.size) 32 by simp]; exact take_len12 _ _⟩, HJ3.out⟩⟩

end Go.Proofs.YtdbddockmdkmeaaDoor
/- The reference reads a number, whatever the text. -/
namespace Go.Proofs.YtdbddockmdkmeaaDoor
open Go.RowKit

/-- What was read: a number that is not below nought, just where the text is a numeral. -/
def NumPost (s : ByteArray) (e : Ending) : Prop := ∃ (n : Int) (ok : Bool), e = .returned (.tuple #[.int .i64 n, .bool ok]) ∧ (ok && decide (0 ≤ n)) = ok12 s.data.toList ∧ (ok12 s.data.toList = true → n = (val12 s.data.toList : Int))
theorem head12 (s : ByteArray) (h : 0 < s.size) : s.data.toList.headD 0 = s[0] := by
  have h1 := at12 s 0 h
  rw [← h1]
  cases s.data.toList <;> rfl
theorem first_bad : ∀ (L : List UInt8), L.all dig12 = false → ∃ j, ∃ h : j < L.length, dig12 L[j] = false ∧ (L.take j).all dig12 = true
  | [], h => by cases h
  | a :: r, h => by
    by_cases ha : dig12 a = true
    · have hr : r.all dig12 = false := by
        rw [List.all_cons, ha, Bool.true_and] at h; exact h
      obtain ⟨j, hj, h1, h2⟩ := first_bad r hr
      exact ⟨j + 1, by simpa using hj, by simpa using h1, by rw [List.take_succ_cons, List.all_cons, ha, h2]; rfl⟩
    · exact ⟨0, by simp, by simpa using ha, rfl⟩
theorem l13Num_any (s : ByteArray) (w : World) : Calls Tryd.prog 93 #[.string s] w fun e w' => NumPost s e ∧ w = w' := by
  have hlen : s.data.toList.length = s.size := by simp
  by_cases h0 : 0 < s.size
  · have hhd := head12 s h0
    have hne : s.data.toList.isEmpty = false := by
      rw [← Bool.not_eq_true, List.isEmpty_iff]
      intro e
      rw [e] at hlen
      simp at hlen
      omega
    have no : ok12 s.data.toList = false → ∀ e w', (e = Ending.returned (.tuple #[.int .i64 0, .bool false]) ∧ w = w') → NumPost s e ∧ w = w' := fun hf e w' ⟨h1, h2⟩ => ⟨⟨0, false, h1, by rw [hf]; rfl, fun h => by rw [hf] at h; cases h⟩, h2⟩
    by_cases h45 : s[0] = 45
    · have hf : ok12 s.data.toList = false := by
        unfold ok12
        have : s.data.toList.all dig12 = false := by
          rw [← Bool.not_eq_true, List.all_eq_true]
          intro h
          cases hL : s.data.toList with
          | nil => rw [hL] at hne; cases hne
          | cons a r =>
            rw [hL] at h hhd
            have ha := h a List.mem_cons_self
            have hb : a = 45 := by rw [← h45, ← hhd]; rfl
            subst hb
            revert ha
            decide
        rw [this]; simp
      refine (l13Num_neg s w h0 h45).mono ?_
      rintro e w' ⟨⟨n, ok, h1, h2⟩, h3⟩
      refine ⟨⟨n, ok, h1, ?_, fun h => by rw [hf] at h; cases h⟩, h3⟩
      rw [hf]
      cases ok with
      | false => rfl
      | true =>
        have := h2 rfl
        rw [Bool.true_and]
        exact decide_eq_false (by omega)
    by_cases h17 : 17 < s.size
    · refine (l13Num_long s w h17 h45).mono fun e w' h => no ?_ e w' h
      unfold ok12
      rw [decide_eq_false (by omega)]; simp
    by_cases hld : s[0] = 48 ∧ 1 < s.size
    · refine (l13Num_lead s w (by omega) hld.2 hld.1).mono fun e w' h => no ?_ e w' h
      unfold ok12
      rw [hhd, hld.1, decide_eq_true (show 1 < s.data.toList.length by omega)]
      simp
    have hor : s[0] ≠ 48 ∨ s.size = 1 := by
      by_cases h : s[0] = 48
      · exact .inr (by have : ¬ 1 < s.size := fun h2 => hld ⟨h, h2⟩; omega)
      · exact .inl h
    cases hd : s.data.toList.all dig12 with
    | true =>
      have hok : ok12 s.data.toList = true := by
        unfold ok12
        rw [hne, hd, decide_eq_true (show s.data.toList.length ≤ 17 by omega), hhd]
        rcases hor with h | h
        · rw [beq_false_of_ne h]; rfl
        · rw [decide_eq_false (show ¬ 1 < s.data.toList.length by omega), Bool.and_false]; rfl
      refine (l13Num_ok s w h0 (by omega) hd hor).mono ?_
      rintro e w' ⟨h1, h2⟩
      exact ⟨⟨_, true, h1, by rw [hok, Bool.true_and]; exact decide_eq_true (by omega), fun _ => rfl⟩, h2⟩
    | false =>
      obtain ⟨j, hj, hb, ht⟩ := first_bad _ hd
      have hj2 : j < s.size := by omega
      have hbj : dig12 s[j] = false := by
        have := at12 s j hj2
        rw [List.getD_eq_getElem?_getD, List.getElem?_eq_getElem hj] at this
        rw [← this]; exact hb
      refine (l13Num_odd s w h0 (by omega) j hj2 hbj ht h45 hor).mono fun e w' h => no ?_ e w' h
      unfold ok12
      rw [hd]; simp
  · have hs : s = ⟨#[]⟩ := by
      apply ByteArray.ext
      exact Array.eq_empty_of_size_eq_zero (by have : s.data.size = s.size := rfl; omega)
    subst hs
    refine (l13Num_empty w).mono ?_
    rintro e w' ⟨h1, h2⟩
    exact ⟨⟨0, false, h1, rfl, fun h => by cases h⟩, h2⟩

end Go.Proofs.YtdbddockmdkmeaaDoor
