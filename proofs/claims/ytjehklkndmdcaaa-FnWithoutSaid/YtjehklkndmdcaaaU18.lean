/- Joined: Fs Rf Pp. -/
import Derived.Test.YtjehklkndmdcaaaU15
import Derived.Test.YtjehklkndmdcaaaU17
import Derived.WalkLawsBesides
import Derived.Test.YtjehklkndmdcaaaU16
/- The reference's NeedsOf, ChainsOf, CountCalls, DepthOf. -/
namespace Go.Proofs.Ytjehklkndmdcaaa
open Go.RowKit

theorem own_low {w : World} {B B' : Nat} {e : TypeId} {size : Nat} {v : Value} {n : Nat} {xs : List Value} (h : w.ownsRow B e size v n xs) (hB : B' ≤ B) : w.ownsRow B' e size v n xs := by
  refine ⟨h.1, ?_⟩
  rcases h.2 with h0 | ⟨g, cap, cur, e1, hg, r⟩
  · exact .inl h0
  · exact .inr ⟨g, cap, cur, e1, by omega, r⟩
set_option maxRecDepth 100000 in
set_option maxHeartbeats 1000000 in
theorem specNeedsOf_any (A : Option Addr) (l : List Seg) (c : Nat) (t : ByteArray) (w : World) (hw : Segs w w.heap.size A l) (hl : l.length ≤ 1048576) (hn : Short l) (ht : t.size ≤ 1048576) :
    Calls Try.prog 7 #[.slice A l.length c, .string t] w fun e w' => e = .returned (.tuple #[.string (needsRes l t), .bool (traceB l t.data.toList).isSome]) ∧ Below w.heap.size w w' := by
  have HQ := Lib.hid (l4Read_any A l c t w hw hl hn ht)
  have HW : Hid (Segs w w.heap.size A l) := hw
  unfold needsRes
  cases hR : traceB l t.data.toList with
  | none =>
    rw [hR] at HQ
    clear hw hn hR
    go_enter Try.func7, Try.ntmps7
    go_wp2_with fail
    refine Calls.mono HQ.out ?_
    rintro e w2 ⟨v, rfl, -, hb⟩
    go_wp2
    go_ret2
    exact ⟨rfl, hb⟩
  | some f =>
    obtain ⟨hv, h80, hcl⟩ := traceB_some hR
    have hsz := (traceB_size hR).1
    have HV := Lib.hid hv
    have hl1 := (valid_all hv).2.2
    rw [hR] at HQ
    clear hw hn hR h80 hcl hv
    go_enter Try.func7, Try.ntmps7
    go_wp2_with fail
    refine Calls.mono HQ.out ?_
    rintro e w2 ⟨v, rfl, (⟨f', hf', hsl⟩ | ⟨h0, -⟩), hb⟩
    · obtain rfl : f = f' := by injection hf'
      have HSL : Hid (IsKids w2 (· < w2.heap.size) f v) := hsl.keep fun q hq => ⟨hq.2, rfl⟩
      have HB := Lib.hid hb
      obtain ⟨b0, o0, rfl, hB0, c0⟩ := (HW.out.below hb).root HV.out
      clear hsl hb hf' HQ
      go_wp2_with fail
      refine (l4Needs_any (f.size + 1) f (rootB l) v w2 (by omega) (by omega) HSL.out).mono ?_
      rintro e w3 ⟨rfl, hb3⟩
      have HB3 := Lib.hid (HB.out.trans (hb3.mono HB.out.size))
      clear hb3
      go_wp2
      go_ret2
      exact ⟨rfl, HB3.out⟩
    · cases h0

/-- The chains of a trace. -/
def chainsRes (l : List Seg) (t : ByteArray) : List ByteArray := match traceB l t.data.toList with
  | none => []
  | some f => (chainsB [rootB l] f).map strOf
def ChainsResPost (w : World) (l : List Seg) (t : ByteArray) (e : Ending) (w' : World) : Prop :=
  ∃ v, e = .returned (.tuple #[v, .bool (traceB l t.data.toList).isSome]) ∧ OwnTexts w' w.heap.size v (chainsRes l t) ∧ Below w.heap.size w w'

set_option maxRecDepth 100000 in
set_option maxHeartbeats 1000000 in
theorem specChainsOf_any (A : Option Addr) (l : List Seg) (c : Nat) (t : ByteArray) (w : World) (hw : Segs w w.heap.size A l) (hl : l.length ≤ 1048576) (hn : Short l) (ht : t.size ≤ 1048576) :
    Calls Try.prog 35 #[.slice A l.length c, .string t] w (ChainsResPost w l t) := by
  have HQ := Lib.hid (l4Read_any A l c t w hw hl hn ht)
  have HW : Hid (Segs w w.heap.size A l) := hw
  unfold ChainsResPost chainsRes
  cases hR : traceB l t.data.toList with
  | none =>
    rw [hR] at HQ
    have HE : Hid (∀ W : World, Below w.heap.size w W → ∃ v, Ending.returned (.tuple #[.slice (some ⟨W.heap.size, 0, none⟩) 0 0, .bool false]) = .returned (.tuple #[v, .bool (none : Option Forest).isSome]) ∧ OwnTexts (W.alloc (.cells #[] 9)) w.heap.size v [] ∧ Below w.heap.size w (W.alloc (.cells #[] 9))) :=
      fun W hb => ⟨_, rfl, OwnTexts.empty W hb.size, hb.alloc hb.size _⟩
    clear hw hn hR
    go_enter Try.func35, Try.ntmps35
    go_wp2_with fail
    refine Calls.mono HQ.out ?_
    rintro e w2 ⟨v, rfl, -, hb⟩
    go_wp2
    go_ret2
    exact HE.out _ hb
  | some f =>
    obtain ⟨hv, h80, hcl⟩ := traceB_some hR
    have hsz := (traceB_size hR).1
    have HV := Lib.hid hv
    have hl1 := (valid_all hv).2.2
    rw [hR] at HQ
    have HE : Hid (∀ (v : Value) (W : World), SolidTexts W w.heap.size v ((chainsB [rootB l] f).map strOf) → Below w.heap.size w W → ∃ u, Ending.returned (.tuple #[v, .bool true]) = .returned (.tuple #[u, .bool (some f).isSome]) ∧ OwnTexts W w.heap.size u ((chainsB [rootB l] f).map strOf) ∧ Below w.heap.size w W) :=
      fun v W h hb => ⟨v, rfl, h.1, hb⟩
    clear hw hn hR h80 hcl hv
    go_enter Try.func35, Try.ntmps35
    go_wp2_with fail
    refine Calls.mono HQ.out ?_
    rintro e w2 ⟨v, rfl, (⟨f', hf', hsl⟩ | ⟨h0, -⟩), hb⟩
    · obtain rfl : f = f' := by injection hf'
      have HSL : Hid (IsKids w2 (· < w2.heap.size) f v) := hsl.keep fun q hq => ⟨hq.2, rfl⟩
      have HB := Lib.hid hb
      obtain ⟨b0, o0, rfl, hB0, c0⟩ := (HW.out.below hb).root HV.out
      clear hsl hb hf' HQ
      go_wp2_with fail
      refine (l4Chains_any (f.size + 1) f [rootB l] v w2 (by omega) (by simp; omega) HSL.out).mono ?_
      rintro e w3 ⟨v3, rfl, hs3, hb3⟩
      have HB3 := Lib.hid (HB.out.trans (hb3.mono HB.out.size))
      have HS3 : Hid (SolidTexts w3 w.heap.size v3 ((chainsB [rootB l] f).map strOf)) := ⟨own_low hs3.1 HB.out.size, hs3.2⟩
      clear hb3 hs3
      go_wp2
      go_ret2
      exact HE.out _ _ HS3.out HB3.out
    · cases h0

def countRes (l : List Seg) (t : ByteArray) : Int := match traceB l t.data.toList with
  | none => -1
  | some f => f.size
theorem chainsRes_len {l : List Seg} {t : ByteArray} {f : Forest} (h : traceB l t.data.toList = some f) : (chainsRes l t).length = f.size := by
  unfold chainsRes
  rw [h]
  show ((chainsB [rootB l] f).map strOf).length = _
  rw [List.length_map, chainsB_len]

set_option maxRecDepth 100000 in
set_option maxHeartbeats 1000000 in
theorem specCountCalls_any (A : Option Addr) (l : List Seg) (c : Nat) (t : ByteArray) (w : World) (hw : Segs w w.heap.size A l) (hl : l.length ≤ 1048576) (hn : Short l) (ht : t.size ≤ 1048576) :
    Calls Try.prog 10 #[.slice A l.length c, .string t] w fun e w' => e = .returned (.int .i64 (countRes l t)) ∧ Below w.heap.size w w' := by
  have HQ := Lib.hid (specChainsOf_any A l c t w hw hl hn ht)
  unfold countRes
  unfold ChainsResPost at HQ
  cases hR : traceB l t.data.toList with
  | none =>
    rw [hR] at HQ
    clear hw hn hR
    go_enter Try.func10, Try.ntmps10
    go_wp2_with fail
    refine Calls.mono HQ.out ?_
    rintro e w2 ⟨v, rfl, -, hb⟩
    go_wp2
    go_ret
    exact ⟨rfl, hb⟩
  | some f =>
    have HL := Lib.hid (chainsRes_len hR)
    have hsz := (traceB_size hR).1
    rw [hR] at HQ
    clear hw hn hR
    generalize chainsRes l t = ts at *
    go_enter Try.func10, Try.ntmps10
    go_wp2_with fail
    refine Calls.mono HQ.out ?_
    rintro e w2 ⟨v, rfl, ho, hb⟩
    obtain ⟨A2, cap2, rfl, -⟩ := St.textsForm ho
    clear ho
    go_wp2
    go_ret
    exact ⟨by rw [HL.out]; rfl, hb⟩

/-- The greatest length. -/
def mxLen (L : List (List UInt8)) : Nat := L.foldl (fun m x => max m x.length) 0
theorem mxLen_snoc (L : List (List UInt8)) (x : List UInt8) : mxLen (L ++ [x]) = max (mxLen L) x.length := by simp [mxLen, List.foldl_append]
theorem mxLen_le {L : List (List UInt8)} {n : Nat} (h : ∀ x ∈ L, x.length ≤ n) : mxLen L ≤ n := by
  have key : ∀ (L : List (List UInt8)) (m : Nat), m ≤ n → (∀ x ∈ L, x.length ≤ n) → L.foldl (fun m x => max m x.length) m ≤ n := by
    intro L
    induction L with
    | nil => intro m hm _; exact hm
    | cons y L ih => intro m hm hx; exact ih _ (Nat.max_le.2 ⟨hm, hx y (by simp)⟩) (fun x hx' => hx x (by simp [hx']))
  exact key L 0 (Nat.zero_le _) h
def depthRes (l : List Seg) (t : ByteArray) : Int := match traceB l t.data.toList with
  | none => -1
  | some f => mxLen (chainsB [] f)

end Go.Proofs.Ytjehklkndmdcaaa
/- A range over a function whose iterator may itself range over a function: what a round keeps is said of blocks, not of cells alone. -/
namespace Go.Proofs.Ytjehklkndmdcaaa
open Go.RowKit Go.Shelf

/-- What a round may not write: all but rows of bytes and rows of two cells or more (states of loading are kept). -/
def Firm (o : Obj) : Prop := ∀ c t fz, o = .cells c t fz → t ≠ 5 ∧ (c.size ≤ 1 ∨ t = 999999)

/-- All from block 'B' on that is firm lies as it lay. -/
structure KeepsN (B : Nat) (W W' : World) : Prop where
  size : W.heap.size ≤ W'.heap.size
  same : ∀ (k : Nat) (o : Obj), B ≤ k → W.heap[k]? = some o → Firm o → W'.heap[k]? = some o
theorem KeepsN.refl (B : Nat) (W : World) : KeepsN B W W := ⟨Nat.le_refl _, fun _ _ _ h _ => h⟩
theorem KeepsN.trans {B : Nat} {X Y Z : World} (h : KeepsN B X Y) (k : KeepsN B Y Z) : KeepsN B X Z := ⟨Nat.le_trans h.size k.size, fun i o hB hi ho => k.same i o hB (h.same i o hB hi ho) ho⟩
theorem KeepsN.mono {B B' : Nat} {X Y : World} (h : KeepsN B X Y) (hB : B ≤ B') : KeepsN B' X Y := ⟨h.size, fun i o hi ho hn => h.same i o (by omega) ho hn⟩
theorem KeepsN.put {B l : Nat} (W : World) (o : Obj) (hl : l < B) : KeepsN B W (W.putObj l o) := by
  have hg := grownBy_putObj' W l o
  exact ⟨hg.size, fun k o' hk ho _ => (hg.block k (Array.getElem?_eq_some_iff.1 ho).1 (fun he => by injection he with he; omega)).trans ho⟩
theorem KeepsN.alloc (B : Nat) (W : World) (o : Obj) : KeepsN B W (W.alloc o) :=
  ⟨by simp, fun k o' _ ho _ => (Below.heap_alloc W o k (Array.getElem?_eq_some_iff.1 ho).1).trans ho⟩

/-- An iterator's contract: the rounds that go on keep all from 'D' on (and what lies below 'n₀'), a round that says 'no more' keeps what the iterator itself has laid. -/
def SeqR {α : Type} (n : Nat) (g : Nat) (lb : Array Value) (encs : α → Array Value) (n₀ D : Nat) (S Sp : List α → Prop) (N : Nat) (w : World) : Prop :=
  ∀ (l : Nat) (J Jx : List α → World → Prop) (W : World), Below w.heap.size w W → D ≤ W.heap.size → OwnFrom W.heap.size J → OwnFrom W.heap.size Jx →
    (∀ pre x W1, J pre W1 → pre.length < N → W.heap.size ≤ W1.heap.size → YieldAt Fence.wide (n - 1) Try.prog l (encs x) W1 fun e W' =>
      (e = .returned (.bool true) ∧ J (pre ++ [x]) W' ∧ Below n₀ W1 W' ∧ KeepsN D W1 W') ∨ (e = .returned (.bool false) ∧ Jx (pre ++ [x]) W' ∧ KeepsN W.heap.size W1 W')) →
    J [] W →
    CallsIn Fence.wide n Try.prog g (#[.func (.yield l) #[] #[]] ++ lb) W fun e W' => (∃ v, e = .returned v) ∧ ((∃ xs, S xs ∧ J xs W') ∨ (∃ pre, Sp pre ∧ Jx pre W'))

/-- How the body of a round may be left. -/
def ownPostR {α : Type} (B n₀ D : Nat) (I : List α → World → Prop) (Ix : Code → List α → World → Prop) (xs : List α) (W : World) : Exit → Act → World → Prop
  | .normal, _, W' => KeepsN (min B D) W W' ∧ Below n₀ W W' ∧ I xs W'
  | .ret, _, W' => KeepsN B W W' ∧ Ix .ret xs W'
  | .exit id, _, W' => KeepsN B W W' ∧ Ix (.exit id) xs W'
  | .goto t, _, W' => KeepsN B W W' ∧ Ix (.goto t) xs W'
  | .panic _, _, _ => False
  | .outgrown, _, _ => False

theorem wpIn_rangeFunc_R {α : Type} {n : Nat} {g : Operand} {ps : Array Tmp} {assign body : Code} {Q : Exit → Act → World → Prop} {a : Act} {w : World}
    (h1 : 1 ≤ n) {gf : Nat} {lb : Array Value} (hg : a.eval g = .func (.func gf) #[] lb) (eg : ∀ args w, (callFunc gf args).run Try.prog w = .ok (.enter gf args) w)
    {encs : α → Array Value} {n₀ D : Nat} {S Sp : List α → Prop} {N : Nat} {w0 : World} (hseq : SeqR (n - 1) gf lb encs n₀ D S Sp N w0)
    (hD : D ≤ w.heap.size + 2) (hn₀ : n₀ ≤ w.heap.size) (hb0 : Below w0.heap.size w0 w) (hps : ∀ x, (encs x).size = ps.size)
    (I : List α → World → Prop) (Ix : Code → List α → World → Prop) (hI : OwnFrom w.heap.size I) (hIx : ∀ c, OwnFrom w.heap.size (Ix c)) (h0 : I [] w) (a₁ : α → Act)
    (hassign : ∀ (l : Nat) (x : α) (W : World) (K : Act → World → Prop), K (a₁ x) W →
      assign.wpIn (Fence.wide.inRound l) (n - 1 - 1) Try.prog (Exit.then K (fun _ _ _ => False)) { tmps := (ps.zip (encs x)).foldl (fun t (p, v) => t.setIfInBounds p v) a.tmps, defers := [] } W)
    (hbody : ∀ (l : Nat) (pre : List α) (x : α) (W : World), I pre W → pre.length < N → w.heap.size + 2 ≤ W.heap.size → body.wpIn (Fence.wide.inRound l) (n - 1 - 1) Try.prog (ownPostR w.heap.size n₀ D I Ix (pre ++ [x]) W) (a₁ x) W)
    (hdone : ∀ (L : Nat) (xs : List α) (W : World), w.heap.size ≤ L → S xs → I xs W → W.heap[L]? = some (.deferred (some [])) → Q .normal { a with defers := { target := .collected L, args := #[] } :: a.defers } W)
    (hstop : ∀ (L : Nat) (c : Code) (pre : List α) (W : World), w.heap.size ≤ L → Sp pre → Ix c pre W → W.heap[L]? = some (.deferred (some [])) → c.wpIn Fence.wide n Try.prog Q { a with defers := { target := .collected L, args := #[] } :: a.defers } W) :
    (Code.rangeFunc g ps assign body).wpIn Fence.wide n Try.prog Q a w := by
  refine wpIn_rangeFunc ?_
  intro fn hfn
  rw [show Fence.wide.round = none from rfl]
  obtain ⟨rec, hrec⟩ : ∃ rec : LoopState → Option Code → Loop, rec = fun st pe => { state := st, pending := pe, fn, tmps := a.tmps, params := ps, assign, body, defers := w.heap.size } := ⟨_, rfl⟩
  obtain ⟨W1, hW1⟩ : ∃ W1, (w.alloc (.deferred (some []))).alloc (.loop (rec .ready none)) = W1 := ⟨_, rfl⟩
  have hz1 : W1.heap.size = w.heap.size + 2 := by rw [← hW1]; simp
  have hL1 : W1.heap[w.heap.size + 1]? = some (.loop (rec .ready none)) := by
    rw [← hW1]; have := World.alloc_heap_new (w.alloc (.deferred (some []))) (.loop (rec .ready none)); rwa [World.size_alloc] at this
  have hK1 : W1.heap[w.heap.size]? = some (.deferred (some [])) := by
    rw [← hW1]; exact (Below.heap_alloc _ _ _ (by simp)).trans (World.alloc_heap_new w _)
  have hI1 : I [] W1 := by rw [← hW1]; exact hI.alloc _ (hI.alloc _ h0)
  have hb1 : Below w0.heap.size w0 W1 := by
    rw [← hW1]; exact hb0.trans ((((Below.refl _ w).alloc (Nat.le_refl _) _).alloc (by simp) _).mono hb0.size)
  refine ⟨w.heap.size + 1, [{ target := .collected w.heap.size, args := #[] }], W1, { target := .fn (.func gf) lb, args := #[.func (.yield (w.heap.size + 1)) #[] #[]] }, W1, gf,
    #[.func (.yield (w.heap.size + 1)) #[] #[]] ++ lb, W1, ?_, ?_, ?_, ?_, fun _ => h1, ?_⟩
  · rw [← hW1, hrec]; exact run_enterLoop_outer _ _ _ _ _
  · simp only [resolve, hg]
    simp [go_sem]
  · intro f' hf'; simp [Target.leads] at hf'; subst hf'; exact trivial
  · simp [invoke, go_sem, eg]
  · have hrow : ∀ {A B : World} {row : Option Nat}, (∀ r, row = some r → W1.heap.size ≤ r ∧ ∃ o : Obj, A.heap[r]? = some o ∧ o.isCells = false) → A.grownBy B row → ∀ (k : Nat) (o : Obj), k < W1.heap.size → A.heap[k]? = some o → B.heap[k]? = some o :=
      fun hr hg' k o hk ho => (hg'.block k (Array.getElem?_eq_some_iff.1 ho).1 (fun he => by have := (hr k he.symm).1; omega)).trans ho
    have hlow : ∀ {A : World} {row : Option Nat}, (∀ r, row = some r → W1.heap.size ≤ r ∧ ∃ o : Obj, A.heap[r]? = some o ∧ o.isCells = false) → (∀ r, row = some r → w.heap.size ≤ r ∧ ∃ o : Obj, A.heap[r]? = some o ∧ o.isCells = false) :=
      fun hr r e => ⟨by have := (hr r e).1; omega, (hr r e).2⟩
    refine (hseq (w.heap.size + 1)
      (fun pre W => I pre W ∧ W.heap[w.heap.size + 1]? = some (.loop (rec .ready none)) ∧ W.heap[w.heap.size]? = some (.deferred (some [])))
      (fun pre W => ∃ c, Ix c pre W ∧ W.heap[w.heap.size + 1]? = some (.loop (rec .done (some c))) ∧ W.heap[w.heap.size]? = some (.deferred (some [])))
      W1 hb1 (by omega)
      (fun s A B row hs hg' hr => ⟨hI s A B row hs.1 hg' (hlow hr), hrow hr hg' _ _ (by omega) hs.2.1, hrow hr hg' _ _ (by omega) hs.2.2⟩)
      (fun s A B row hs hg' hr => by
        obtain ⟨c, hc, hl, hk⟩ := hs
        exact ⟨c, hIx c s A B row hc hg' (hlow hr), hrow hr hg' _ _ (by omega) hl, hrow hr hg' _ _ (by omega) hk⟩)
      ?_ ⟨hI1, hL1, hK1⟩).mono ?_
    · rintro pre x W ⟨hi, hl, hk⟩ hlen hWz
      have hlt : w.heap.size + 1 < W.heap.size := (Array.getElem?_eq_some_iff.1 hl).1
      have hy := run_yield (P := Try.prog) (args := encs x) hl (by rw [hrec]; exact hps x)
      rw [hrec] at hy
      refine ⟨fn, _, assign, body, hy, roundIn_of_wpIn hfn (hassign _ x W _ ⟨_, run_beginRound hl (by rw [hrec]), ?_⟩)⟩
      have hl2 : (W.putObj (w.heap.size + 1) (.loop { rec .ready none with state := .busy })).heap[w.heap.size + 1]? = some (.loop { rec .ready none with state := .busy }) := World.putObj_heap_same hlt
      have hk2 : (W.putObj (w.heap.size + 1) (.loop { rec .ready none with state := .busy })).heap[w.heap.size]? = some (.deferred (some [])) := (World.putObj_heap_other (by omega)).trans hk
      have hsz2 : (W.putObj (w.heap.size + 1) (.loop { rec .ready none with state := .busy })).heap.size = W.heap.size := by simp [World.putObj]
      refine wpIn_mono (hbody _ pre x _ (hI.putObj _ hi (by omega) hl rfl) hlen (by rw [hsz2]; omega)) ?_
      have fin : ∀ (jump : Option Code) (W3 : World), KeepsN w.heap.size (W.putObj (w.heap.size + 1) (.loop { rec .ready none with state := .busy })) W3 →
          (Instr.endRound (w.heap.size + 1) jump).run Try.prog W3 = .ok (.bool jump.isNone) (W3.putObj (w.heap.size + 1) (.loop (rec (if jump.isNone then .ready else .done) jump))) ∧
          W3.heap[w.heap.size + 1]? = some (.loop { rec .ready none with state := .busy }) ∧
          (W3.putObj (w.heap.size + 1) (.loop (rec (if jump.isNone then .ready else .done) jump))).heap[w.heap.size + 1]? = some (.loop (rec (if jump.isNone then .ready else .done) jump)) ∧
          (W3.putObj (w.heap.size + 1) (.loop (rec (if jump.isNone then .ready else .done) jump))).heap[w.heap.size]? = some (.deferred (some [])) := fun jump W3 hk3 => by
        have hl3 := hk3.same _ _ (by omega) hl2 (fun c t fz he => by cases he)
        have := run_endRound (P := Try.prog) jump hl3
        rw [hrec] at this ⊢
        exact ⟨this, by rw [hrec] at hl3; exact hl3, World.putObj_heap_same (Array.getElem?_eq_some_iff.1 hl3).1, (World.putObj_heap_other (by omega)).trans (hk3.same _ _ (Nat.le_refl _) hk2 (fun c t fz he => by cases he))⟩
      have far : ∀ (jump : Option Code) (W3 : World), KeepsN w.heap.size (W.putObj (w.heap.size + 1) (.loop { rec .ready none with state := .busy })) W3 → KeepsN W1.heap.size W (W3.putObj (w.heap.size + 1) (.loop (rec (if jump.isNone then .ready else .done) jump))) := fun jump W3 hk3 =>
        ((KeepsN.put W _ (by omega)).trans (hk3.mono (by omega))).trans (KeepsN.put W3 _ (by omega))
      rintro e a3 W3 hp
      cases e with
      | normal =>
        obtain ⟨hk3, hkp3, hi3⟩ := hp
        obtain ⟨hr, hl3, hl4, hk4⟩ := fin none W3 (hk3.mono (Nat.min_le_left _ _))
        refine ⟨_, _, hr, .inl ⟨rfl, ⟨hI.putObj _ hi3 (by omega) hl3 rfl, hl4, hk4⟩, ?_, ?_⟩⟩
        · have b1 : Below n₀ W (W.putObj (w.heap.size + 1) (.loop { rec .ready none with state := .busy })) := (Below.refl n₀ W).grown (grownBy_putObj' W _ _) (by omega) (fun k e => by cases e; omega)
          exact (b1.trans hkp3).trans ((Below.refl n₀ W3).grown (grownBy_putObj' W3 _ _) (by have := hk3.size; rw [hsz2] at this; omega) (fun k e => by cases e; omega))
        · refine ⟨?_, fun k o hkD ho hno => ?_⟩
          · have h2 := hk3.size
            rw [hsz2] at h2
            simpa [World.putObj] using h2
          · by_cases hkl : k = w.heap.size + 1
            · subst hkl
              rw [hl] at ho
              injection ho with ho
              subst ho
              exact hl4
            · rw [World.putObj_heap_other (by omega)]
              exact hk3.same k o (by have := Nat.min_le_right w.heap.size D; omega) ((World.putObj_heap_other (by omega)).trans ho) hno
      | ret =>
        obtain ⟨hk3, hi3⟩ := hp
        obtain ⟨hr, hl3, hl4, hk4⟩ := fin (some .ret) W3 hk3
        exact ⟨_, _, hr, .inr ⟨rfl, ⟨.ret, (hIx _).putObj _ hi3 (by omega) hl3 rfl, hl4, hk4⟩, far _ _ hk3⟩⟩
      | exit id =>
        obtain ⟨hk3, hi3⟩ := hp
        obtain ⟨hr, hl3, hl4, hk4⟩ := fin (some (.exit id)) W3 hk3
        exact ⟨_, _, hr, .inr ⟨rfl, ⟨.exit id, (hIx _).putObj _ hi3 (by omega) hl3 rfl, hl4, hk4⟩, far _ _ hk3⟩⟩
      | goto t =>
        obtain ⟨hk3, hi3⟩ := hp
        obtain ⟨hr, hl3, hl4, hk4⟩ := fin (some (.goto t)) W3 hk3
        exact ⟨_, _, hr, .inr ⟨rfl, ⟨.goto t, (hIx _).putObj _ hi3 (by omega) hl3 rfl, hl4, hk4⟩, far _ _ hk3⟩⟩
      | panic ch => exact hp.elim
      | outgrown => exact hp.elim
    · rintro e W2 ⟨⟨v, rfl⟩, (⟨xs, hS, hi, hl, hk⟩ | ⟨pre, hSp, c, hi, hl, hk⟩)⟩
      · exact ⟨none, _, by have := run_endLoop (P := Try.prog) hl (by rw [hrec]; simp); rw [hrec] at this; exact this, hdone _ xs _ (Nat.le_refl _) hS (hI.putObj _ hi (by omega) hl rfl) ((World.putObj_heap_other (by omega)).trans hk)⟩
      · exact ⟨some c, _, by have := run_endLoop (P := Try.prog) hl (by rw [hrec]; simp); rw [hrec] at this; exact this, hstop _ c pre _ (Nat.le_refl _) hSp ((hIx c).putObj _ hi (by omega) hl rfl) ((World.putObj_heap_other (by omega)).trans hk)⟩

end Go.Proofs.Ytjehklkndmdcaaa
/- The path of a node, yielded by an iterator that calls itself. -/
namespace Go.Proofs.Ytjehklkndmdcaaa
open Go.RowKit Go.Shelf
attribute [local go_sem] Oper.semAt_some

theorem yield_any {m : Nat} (m' : Nat) {P : Program} {l : Nat} {args : Array Value} {W : World} {R : Ending → World → Prop} (h : YieldAt Fence.wide m P l args W R) : YieldAt Fence.wide m' P l args W R := by
  obtain ⟨fn, tmps, assign, body, hy, hR⟩ := h
  exact ⟨fn, tmps, assign, body, hy, ⟨hR.1, fun c cs _ => hR.2 c cs (fun d h => by simp [Fence.wide] at h)⟩⟩

/-- From the root down to a segment, by index. -/
def rootPath (l : List Seg) : Nat → Nat → List Nat
  | 0, _ => []
  | f + 1, i => (if parAt l i < 0 then [] else rootPath l f (parAt l i).toNat) ++ [i]
theorem rootPath_len (l : List Seg) : ∀ f i, (rootPath l f i).length ≤ f
  | 0, _ => Nat.le_refl 0
  | f + 1, i => by
    unfold rootPath
    have := rootPath_len l f (parAt l i).toNat
    split <;> simp <;> omega
theorem rootPath_lt {l : List Seg} (hd : Down l l.length) : ∀ f i, i < l.length → ∀ j ∈ rootPath l f i, j < l.length
  | 0, _, _, j, hj => by simp [rootPath] at hj
  | f + 1, i, hi, j, hj => by
    unfold rootPath at hj
    have h1 := hd i hi
    rcases List.mem_append.1 hj with h | h
    · split at h
      · simp at h
      · exact rootPath_lt hd f _ (by omega) j h
    · simp at h; omega
theorem rootPath_chain {l : List Seg} (hd : Down l l.length) : ∀ f i, i < l.length → i < f → (chain l f (i : Int)).reverse = (rootPath l f i).map (fun j : Nat => (j : Int))
  | 0, i, _, h => absurd h (by omega)
  | f + 1, i, hi, hf => by
    have h1 := hd i hi
    unfold chain rootPath
    rw [if_neg (by omega), Int.toNat_natCast, List.reverse_cons, List.map_append]
    congr 1
    by_cases hp : parAt l i < 0
    · rw [if_pos hp]
      cases f with
      | zero => rfl
      | succ f => simp [chain, hp]
    · rw [if_neg hp, ← rootPath_chain hd f _ (by omega) (by omega), Int.toNat_of_nonneg (by omega)]

/-- What an iterator reads of the nodes. -/
def Linked (w : World) (n₀ : Nat) (l : List Seg) (nb : Nat → Nat) : Prop := ∀ j, j < l.length → nb j < n₀ ∧ w.cell? ⟨nb j, 2, none⟩ = some (.pointer (parPtr l nb j))
theorem Linked.below {w w' : World} {n₀ : Nat} {l : List Seg} {nb : Nat → Nat} (h : Linked w n₀ l nb) (hb : Below n₀ w w') : Linked w' n₀ l nb := fun j hj => ⟨(h j hj).1, (hb.cell (p := ⟨nb j, 2, none⟩) (h j hj).1).trans (h j hj).2⟩
/-- A box of one cell, kept by every round that goes on. -/
def BoxAt (W : World) (n₀ D Bs : Nat) (v : Value) (t : TypeId) : Prop := (Bs < n₀ ∨ D ≤ Bs) ∧ t ≠ 5 ∧ W.heap[Bs]? = some (.cells #[v] t (0, 0))
theorem BoxAt.cell {W : World} {n₀ D Bs : Nat} {v : Value} {t : TypeId} (h : BoxAt W n₀ D Bs v t) : W.cell? ⟨Bs, 0, none⟩ = some v := Row.cell (h.2.2 : Row W Bs t #[v]) 0
theorem BoxAt.keep {W W' : World} {n₀ D Bs : Nat} {v : Value} {t : TypeId} (h : BoxAt W n₀ D Bs v t) (hb : Below n₀ W W') (hk : KeepsN D W W') : BoxAt W' n₀ D Bs v t := by
  obtain ⟨h1, h2, h3⟩ := h
  refine ⟨h1, h2, ?_⟩
  rcases h1 with h1 | h1
  · exact (hb.block Bs h1).trans h3
  · exact hk.same Bs _ h1 h3 (fun c t' fz he => by injection he with hc ht; subst hc; subst ht; exact ⟨h2, .inl (Nat.le_refl 1)⟩)
theorem BoxAt.grown {W W' : World} {n₀ D Bs : Nat} {v : Value} {t : TypeId} (h : BoxAt W n₀ D Bs v t) {row : Option Nat} (hg : W.grownBy W' row) (hr : ∀ r, row = some r → ∃ o : Obj, W.heap[r]? = some o ∧ o.isCells = false) : BoxAt W' n₀ D Bs v t :=
  ⟨h.1, h.2.1, (hg.block Bs (Array.getElem?_eq_some_iff.1 h.2.2).1 (fun he => by
    obtain ⟨o, ho, hc⟩ := hr Bs he.symm
    rw [h.2.2] at ho
    injection ho with ho
    subst ho
    cases hc)).trans h.2.2⟩

end Go.Proofs.Ytjehklkndmdcaaa
