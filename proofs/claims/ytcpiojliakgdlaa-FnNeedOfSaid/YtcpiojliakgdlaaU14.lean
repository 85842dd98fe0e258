/- Joined: Gk Gl. -/
import Derived.Test.YtcpiojliakgdlaaU13
/- impl.findState over whatever iterator that yields states. -/
namespace Go.Proofs.Ytcpiojliakgdlaa
open Go.RowKit Go.Shelf
attribute [local go_sem] Oper.semAt_some

theorem find_cong {α : Type} {p q : α → Bool} : ∀ (L : List α), (∀ x ∈ L, p x = q x) → L.find? p = L.find? q
  | [], _ => rfl
  | x :: L, h => by
    rw [List.find?_cons, List.find?_cons, h x List.mem_cons_self, find_cong L (fun y hy => h y (List.mem_cons_of_mem _ hy))]
theorem find_stop {α : Type} {p : α → Bool} {P L : List α} {x : α} (hP : ∀ y ∈ P, p y = false) (hx : p x = true) (hL : P ++ [x] <+: L) : L.find? p = some x := by
  obtain ⟨R, rfl⟩ := hL
  rw [List.append_assoc, List.find?_append]
  have : P.find? p = none := List.find?_eq_none.2 (fun y hy => by rw [hP y hy]; decide)
  rw [this]
  simp [hx]

theorem results_two_cells {fn : Func} {p q : Tmp} {ty tb : TypeId} (h : fn.results = #[.cell p ty, .cell q tb]) (tmps : Array Value) (w : World) (a b : Addr) (u v : Value)
    (hp : tmps.getD p undef = .pointer (some a)) (hu : (loadVar ty a).run Try.prog w = .ok u w) (hq : tmps.getD q undef = .pointer (some b)) (hv : (loadVar tb b).run Try.prog w = .ok v w) :
    (results fn tmps).run Try.prog w = .ok (.tuple #[u, v]) w := by
  have hp' : tmps[p]?.getD undef = .pointer (some a) := by simpa using hp
  have hq' : tmps[q]?.getD undef = .pointer (some b) := by simpa using hq
  simp [results, h, hp', hq', asAddr, hu, hv]
theorem run_loadBool {w : World} {b : Addr} {x : Bool} (h : w.cell? b = some (.bool x)) : (loadVar 4 b).run Try.prog w = .ok (.bool x) w := by
  simp [loadVar, isAgg, go_sem, h]

/-- What the loop keeps. -/
structure Finding (w : World) (v : Value) (s : ByteArray) (nm : List Nat → ByteArray) (pre : List (List Nat)) (W : World) : Prop where
  nodes : Row W w.heap.size 61 #[v]
  text : Row W (w.heap.size + 1) 9 #[.string s]
  res : Row W (w.heap.size + 1 + 1) 64 (bitCells fun _ => false)
  ok : Row W (w.heap.size + 1 + 1 + 1) 4 #[.bool false]
  below : Below w.heap.size w W
  none : ∀ T ∈ pre, sameB (nm T) s = false
theorem Finding.grown {w W W' : World} {v : Value} {s : ByteArray} {nm : List Nat → ByteArray} {pre : List (List Nat)} {B : Nat} {row : Option Nat} (h : Finding w v s nm pre W) (hg : W.grownBy W' row) (hB : w.heap.size ≤ B) (hr : ∀ r, row = some r → B ≤ r ∧ ∃ o : Obj, W.heap[r]? = some o ∧ o.isCells = false) : Finding w v s nm pre W' :=
  ⟨row_grown h.nodes hg hr, row_grown h.text hg hr, row_grown h.res hg hr, row_grown h.ok hg hr, h.below.grown hg h.below.size (fun k e => by have := (hr k e).1; omega), h.none⟩
theorem Finding.below' {w W W' : World} {v : Value} {s : ByteArray} {nm : List Nat → ByteArray} {pre : List (List Nat)} (h : Finding w v s nm pre W) (hb : Below W.heap.size W W') : Finding w v s nm pre W' := h.grown (B := w.heap.size) (grownBy_of_below hb) (Nat.le_refl _) (fun r e => by cases e)
theorem Finding.next {w W : World} {v : Value} {s : ByteArray} {nm : List Nat → ByteArray} {pre : List (List Nat)} {T : List Nat} (h : Finding w v s nm pre W) (hT : sameB (nm T) s = false) : Finding w v s nm (pre ++ [T]) W :=
  ⟨h.nodes, h.text, h.res, h.ok, h.below, fun U hU => by
    rcases List.mem_append.1 hU with hU | hU
    · exact h.none U hU
    · rw [List.mem_singleton.1 hU]; exact hT⟩
/-- How it stops: the state is found and told. -/
structure Found (w : World) (s : ByteArray) (nm : List Nat → ByteArray) (pre : List (List Nat)) (W : World) : Prop where
  ex : ∃ P T, pre = P ++ [T] ∧ (∀ U ∈ P, sameB (nm U) s = false) ∧ sameB (nm T) s = true ∧ Row W (w.heap.size + 1 + 1) 64 (bitCells fun j => decide (j ∈ T))
  ok : Row W (w.heap.size + 1 + 1 + 1) 4 #[.bool true]
  below : Below w.heap.size w W
theorem Found.grown {w W W' : World} {s : ByteArray} {nm : List Nat → ByteArray} {pre : List (List Nat)} {B : Nat} {row : Option Nat} (h : Found w s nm pre W) (hg : W.grownBy W' row) (hB : w.heap.size ≤ B) (hr : ∀ r, row = some r → B ≤ r ∧ ∃ o : Obj, W.heap[r]? = some o ∧ o.isCells = false) : Found w s nm pre W' := by
  obtain ⟨P, T, h1, h2, h3, h4⟩ := h.ex
  exact ⟨⟨P, T, h1, h2, h3, row_grown h4 hg hr⟩, row_grown h.ok hg hr, h.below.grown hg h.below.size (fun k e => by have := (hr k e).1; omega)⟩

def foundIn (L : List (List Nat)) (nm : List Nat → ByteArray) (s : ByteArray) : Option (List Nat) := L.find? (fun T => sameB (nm T) s)

set_option maxRecDepth 100000 in
set_option maxHeartbeats 4000000 in
theorem findState_gen (a : Option Addr) (n c : Nat) (L : List (List Nat)) (nm : List Nat → ByteArray) (s : ByteArray) (w : World)
    (hseq : ∀ (W : World) (Bs : Nat), Below w.heap.size w W → Row W Bs 61 #[.slice a n c] → w.heap.size ≤ Bs →
      SeqStopsK Fence.wide 19 Try.prog 125 #[.pointer (some ⟨Bs, 0, none⟩)] stArgs (Kept W.heap.size W.heap.size) (fun ys => ys = L) (fun pre => pre <+: L) L.length W)
    (hnm : 0 < L.length → ∀ (T : List Nat) (W : World), Below w.heap.size w W → Calls Try.prog 63 #[bitsV fun j => decide (j ∈ T), .slice a n c] W fun e w' => e = .returned (.string (nm T)) ∧ Below W.heap.size W w') :
    Calls Try.prog 71 #[.slice a n c, .string s] w fun e w' => e = .returned (.tuple #[bitsV fun j => decide (j ∈ (foundIn L nm s).getD []), .bool (foundIn L nm s).isSome]) ∧ Below w.heap.size w w' := by
  have HSEQ := Lib.hid hseq
  have HNM := Lib.hid hnm
  clear hseq hnm
  refine (callsIn_wide (n := 20)).1 ?_
  refine callsIn_of_wp_marks Try.func71 rfl trivial ?_ rfl
  simp only [Try.ntmps71, List.size_toArray, List.length_cons, List.length_nil, Nat.reduceAdd, Nat.reduceSub, Array.replicate_succ, Array.replicate_zero, List.push_toArray, List.append_toArray, List.nil_append, List.cons_append]
  gi_wp2_with fail
  have hF0 : Finding w (.slice a n c) s nm [] ((((w.alloc (.cells #[.slice a n c] 61)).alloc (.cells #[.string s] 9)).alloc (.cells (bitCells fun _ => false) 64)).alloc (.cells #[.bool false] 4)) := by
    refine ⟨(((Row.new w _ _).alloc _).alloc _).alloc _, ?_, ?_, ?_, ((((Below.refl _ w).alloc (Nat.le_refl _) _).alloc (by simp) _).alloc (by simp; omega) _).alloc (by simp; omega) _, fun T hT => by cases hT⟩
    · have := ((Row.new (w.alloc (.cells #[.slice a n c] 61)) 9 #[.string s]).alloc (.cells (bitCells fun _ => false) 64)).alloc (.cells #[.bool false] 4)
      simpa using this
    · have := (Row.new ((w.alloc (.cells #[.slice a n c] 61)).alloc (.cells #[.string s] 9)) 64 (bitCells fun _ => false)).alloc (.cells #[.bool false] 4)
      simpa using this
    · have := Row.new (((w.alloc (.cells #[.slice a n c] 61)).alloc (.cells #[.string s] 9)).alloc (.cells (bitCells fun _ => false) 64)) 4 #[.bool false]
      simpa using this
  have hz0 : ((((w.alloc (.cells #[.slice a n c] 61)).alloc (.cells #[.string s] 9)).alloc (.cells (bitCells fun _ => false) 64)).alloc (.cells #[.bool false] 4)).heap.size = w.heap.size + 4 := by simp
  unfold bitCells at hF0 hz0
  generalize (((w.alloc (.cells #[.slice a n c] 61)).alloc (.cells #[.string s] 9)).alloc (.cells #[.bool false, .bool false, .bool false, .bool false, .bool false, .bool false, .bool false, .bool false] 64)).alloc (.cells #[.bool false] 4) = W0 at *
  refine ⟨trivial, ?_⟩
  gi_at_call 83
  refine (callsIn_wide.2 (statesOf_any _ _ _ _)).mono ?_
  rintro e w2 ⟨rfl, rfl⟩
  have hB1 : Below W0.heap.size W0 (W0.alloc (.cells #[.slice a n c] 61)) := (Below.refl _ W0).alloc (Nat.le_refl _) _
  have hF1 := hF0.below' hB1
  have hseq := HSEQ.out (W0.alloc (.cells #[.slice a n c] 61)) W0.heap.size hF1.below (Row.new _ _ _) (by omega)
  have hz1 : (W0.alloc (.cells #[.slice a n c] 61)).heap.size = w.heap.size + 5 := by rw [World.size_alloc]; omega
  rw [hz0] at hseq
  clear HSEQ hB1 hF0
  gi_wp2
  generalize W0.alloc (.cells #[.slice a n c] 61) = W1 at *
  refine wpIn_rangeFunc_ownH rfl (by omega) (gf := 125) (lb := #[.pointer (some ⟨w.heap.size + 4, 0, none⟩)]) rfl trivial (enters_of Try.func125 (by kernel_rfl) rfl) hseq
    (fun h k => h.trans k) (fun W l o o' hl _ _ _ => Kept.put W o' hl) (Below.refl _ _) (fun _ => rfl)
    (fun pre W => Finding w (.slice a n c) s nm pre W) (fun c' pre W => c' = .ret ∧ Found w s nm pre W)
    (fun _ _ _ _ h hg hr => h.grown hg (by omega) hr) (fun _ _ _ _ _ hs hg hr => ⟨hs.1, hs.2.grown hg (by omega) hr⟩) hF1
    (fun x a' W => ∃ p, Row W p 64 (bitCells fun j => decide (j ∈ x)) ∧ w.heap.size + 4 ≤ p ∧ a' = { tmps := #[.slice a n c, .string s, .pointer (some ⟨w.heap.size, 0, none⟩), .pointer (some ⟨w.heap.size + 1, 0, none⟩), .pointer (some ⟨w.heap.size + 1 + 1, 0, none⟩), .pointer (some ⟨w.heap.size + 1 + 1 + 1, 0, none⟩), .pointer (some ⟨p, 0, none⟩), .slice a n c, .func (.func 125) #[] #[.pointer (some ⟨w.heap.size + 4, 0, none⟩)], bitsV fun j => decide (j ∈ x), undef, undef, undef, undef, undef, undef, undef], defers := [] })
    (fun x a' _ _ _ _ ⟨p, h1, h2, h3⟩ hg hr => ⟨p, row_grown h1 hg hr, h2, h3⟩) ?assign ?body ?done ?stop
  case assign =>
    intro l2 pre x W K hI hK
    have hI2 := hI.below' ((Below.refl _ W).alloc (Nat.le_refl _) (.cells (bitCells fun j => decide (j ∈ x)) 64))
    unfold stArgs bitsV bitCells
    gi_wp2
    exact hK _ _ (from_below ((Below.refl _ W).alloc (Nat.le_refl _) _)) (Kept.of_below ((Below.refl _ W).alloc (Nat.le_refl _) _)) hI2 ⟨W.heap.size, Row.new _ _ _, by have := hI.ok.lt; omega, rfl⟩
  case body =>
    rintro l2 pre x a' W hl2 - hI ⟨p, hp, hp4, rfl⟩ hlen
    obtain ⟨⟨c0, c1, c2, c3⟩, c4, c5, c6, c7⟩ := bits_cells hp
    have cn : W.cell? ⟨w.heap.size, 0, none⟩ = some (.slice a n c) := hI.nodes.cell 0
    have ct : W.cell? ⟨w.heap.size + 1, 0, none⟩ = some (.string s) := hI.text.cell 0
    have hct := hI.text.lt
    have HNX := Lib.hid (HNM.out (by omega) x)
    have HI := Lib.hid hI
    have HP := Lib.hid hp
    have HWD : Hid (Below w.heap.size w W.drew) := hI.below.drew
    have hmx : Try.prog.follows .mixedOrders = true := by kernel_rfl
    clear hI hp
    cases hsm : sameB (nm x) s with
    | false =>
      have hts : ((nm x).toList == s.toList) = false := hsm
      have HSM := Lib.hid hsm
      clear hsm
      generalize nm x = nx at HNX hts
      unfold bitsV bitCells at HNX
      gi_wp2
      gi_region_with_o (refine ⟨trivial, ?_⟩; gi_at_call 63; refine (CallsIn.inRound l2 (callsIn_wide.2 (HNX.out _ HWD.out))).mono ?_; rintro e w1 ⟨rfl, hb1⟩; have hbw : Below W.heap.size W w1 := ((Below.refl _ W).drew).trans hb1; have ct1 : w1.cell? ⟨w.heap.size + 1, 0, none⟩ = some (.string s) := (hbw.cell (p := ⟨w.heap.size + 1, 0, none⟩) hct).trans ct)
      all_goals
        have HB := Lib.hid hbw
        clear hbw hb1 ct1 HNX
        gi_wp2
        exact ⟨from_below HB.out, Kept.of_below HB.out, (HI.out.below' HB.out).next HSM.out⟩
    | true =>
      have hts : ((nm x).toList == s.toList) = true := hsm
      have HSM := Lib.hid hsm
      clear hsm
      generalize nm x = nx at HNX hts
      unfold bitsV bitCells at HNX
      gi_wp2
      gi_region_with_o (refine ⟨trivial, ?_⟩; gi_at_call 63; refine (CallsIn.inRound l2 (callsIn_wide.2 (HNX.out _ HWD.out))).mono ?_; rintro e w1 ⟨rfl, hb1⟩; have hbw : Below W.heap.size W w1 := ((Below.refl _ W).drew).trans hb1; have ct1 : w1.cell? ⟨w.heap.size + 1, 0, none⟩ = some (.string s) := (hbw.cell (p := ⟨w.heap.size + 1, 0, none⟩) hct).trans ct)
      all_goals
        have hF2 := HI.out.below' hbw
        have hP2 := HP.out.below hbw HP.out.lt
        clear c0 c1 c2 c3 c4 c5 c6 c7
        obtain ⟨⟨e0, e1, e2, e3⟩, e4, e5, e6, e7⟩ := bits_cells hP2
        obtain ⟨⟨d0, d1, d2, d3⟩, d4, d5, d6, d7⟩ := bits_cells hF2.res
        have hfz := fun j => hF2.res.free j
        have z0 := hfz 0
        have z1 := hfz 1
        have z2 := hfz 2
        have z3 := hfz 3
        have z4 := hfz 4
        have z5 := hfz 5
        have z6 := hfz 6
        have z7 := hfz 7
        have ok0 : w1.cell? ⟨w.heap.size + 1 + 1 + 1, 0, none⟩ = some (.bool false) := hF2.ok.cell 0
        have ok1 : w1.frozen? ⟨w.heap.size + 1 + 1 + 1, 0, none⟩ = false := hF2.ok.free 0
        have HB := Lib.hid hbw
        have HFd : Hid (Found w s nm (pre ++ [x]) ((putBits w1 (w.heap.size + 1 + 1) fun j => decide (j ∈ x)).setCell ⟨w.heap.size + 1 + 1 + 1, 0, none⟩ (.bool true))) :=
          ⟨⟨pre, x, rfl, hF2.none, HSM.out, Row.far (putBits_row hF2.res) (by show w.heap.size + 1 + 1 ≠ w.heap.size + 1 + 1 + 1; omega) _⟩, Row.put (putBits_far hF2.ok (by omega)) 0 _, (putBits_below hF2.below (by omega)).setCell (by show w.heap.size ≤ w.heap.size + 1 + 1 + 1; omega) _⟩
        have HKF : Hid (KeepsFrom W1.heap.size w1 ((putBits w1 (w.heap.size + 1 + 1) fun j => decide (j ∈ x)).setCell ⟨w.heap.size + 1 + 1 + 1, 0, none⟩ (.bool true))) :=
          ⟨by simp [putBits], fun k o hk ho _ => (Below.heap_setCell _ ⟨w.heap.size + 1 + 1 + 1, 0, none⟩ _ k (by show k ≠ w.heap.size + 1 + 1 + 1; omega)).trans ((putBits_block w1 _ _ (by omega)).trans ho)⟩
        clear hbw hb1 ct1 HNX hF2 hP2 hfz ct cn
        gi_wp2
        exact ⟨(from_below HB.out).trans HKF.out, rfl, HFd.out⟩
  case done =>
    rintro D xs W hD rfl hI hK
    have HF : Hid (foundIn xs nm s = none) := List.find?_eq_none.2 (fun T hT => by rw [hI.none T hT]; decide)
    obtain ⟨⟨d0, d1, d2, d3⟩, d4, d5, d6, d7⟩ := bits_cells hI.res
    have hfz := fun j => hI.res.free j
    have z0 := hfz 0
    have z1 := hfz 1
    have z2 := hfz 2
    have z3 := hfz 3
    have z4 := hfz 4
    have z5 := hfz 5
    have z6 := hfz 6
    have z7 := hfz 7
    have ok0 : W.cell? ⟨w.heap.size + 1 + 1 + 1, 0, none⟩ = some (.bool false) := hI.ok.cell 0
    have ok1 : W.frozen? ⟨w.heap.size + 1 + 1 + 1, 0, none⟩ = false := hI.ok.free 0
    clear hfz
    have HI := Lib.hid hI
    have HK : Hid (((putBits W (w.heap.size + 1 + 1) fun _ => false).setCell ⟨w.heap.size + 1 + 1 + 1, 0, none⟩ (.bool false)).heap[D]? = some (.deferred (some []))) :=
      (Below.heap_setCell _ ⟨w.heap.size + 1 + 1 + 1, 0, none⟩ _ D (by show D ≠ w.heap.size + 1 + 1 + 1; omega)).trans ((putBits_block W _ _ (by omega)).trans hK)
    have HR : Hid (Row ((putBits W (w.heap.size + 1 + 1) fun _ => false).setCell ⟨w.heap.size + 1 + 1 + 1, 0, none⟩ (.bool false)) (w.heap.size + 1 + 1) 64 (bitCells fun _ => false)) := Row.far (putBits_row HI.out.res) (by show w.heap.size + 1 + 1 ≠ w.heap.size + 1 + 1 + 1; omega) _
    have HO : Hid (Row ((putBits W (w.heap.size + 1 + 1) fun _ => false).setCell ⟨w.heap.size + 1 + 1 + 1, 0, none⟩ (.bool false)) (w.heap.size + 1 + 1 + 1) 4 #[.bool false]) := Row.put (putBits_far HI.out.ok (by omega)) 0 _
    have HBl : Hid (Below w.heap.size w ((putBits W (w.heap.size + 1 + 1) fun _ => false).setCell ⟨w.heap.size + 1 + 1 + 1, 0, none⟩ (.bool false))) := (putBits_below HI.out.below (by omega)).setCell (by show w.heap.size ≤ w.heap.size + 1 + 1 + 1; omega) _
    clear hI hK
    gi_wp2
    refine ⟨by simp, .inl ⟨_, _, rfl, run_takeDeferred HK.out, ?_⟩⟩
    refine ⟨_, results_two_cells (p := 4) (q := 5) (ty := 64) (tb := 4) rfl _ (((putBits W (w.heap.size + 1 + 1) fun _ => false).setCell ⟨w.heap.size + 1 + 1 + 1, 0, none⟩ (.bool false)).putObj D _) ⟨w.heap.size + 1 + 1, 0, none⟩ ⟨w.heap.size + 1 + 1 + 1, 0, none⟩ _ (.bool false) rfl (run_loadState (row_grown HR.out (grownBy_putObj' _ D _) (B := 0) (fun r e => by cases e; exact ⟨Nat.zero_le _, _, HK.out, rfl⟩))) rfl
      (run_loadBool ((row_grown HO.out (grownBy_putObj' _ D _) (B := 0) (fun r e => by cases e; exact ⟨Nat.zero_le _, _, HK.out, rfl⟩)).cell 0)), ?_, ?_⟩
    · rw [HF.out]; rfl
    · exact HBl.out.trans (belowK_b (w := w) (Nat.le_refl _) _ D _ _ (by omega) HK.out rfl rfl)
  case stop =>
    rintro D c' pre W hD hSp ⟨rfl, hFd⟩ hK
    obtain ⟨P, T, rfl, hPn, hTn, hR⟩ := hFd.ex
    have HF : Hid (foundIn L nm s = some T) := find_stop hPn hTn hSp
    have HK : Hid (W.heap[D]? = some (.deferred (some []))) := hK
    have HFd := Lib.hid hFd
    have HR := Lib.hid hR
    clear hFd hR hK
    gi_wp2
    refine ⟨by simp, .inl ⟨_, _, rfl, run_takeDeferred HK.out, ?_⟩⟩
    refine ⟨_, results_two_cells (p := 4) (q := 5) (ty := 64) (tb := 4) rfl _ (W.putObj D _) ⟨w.heap.size + 1 + 1, 0, none⟩ ⟨w.heap.size + 1 + 1 + 1, 0, none⟩ _ (.bool true) rfl (run_loadState (row_grown HR.out (grownBy_putObj' _ D _) (B := 0) (fun r e => by cases e; exact ⟨Nat.zero_le _, _, HK.out, rfl⟩))) rfl
      (run_loadBool ((row_grown HFd.out.ok (grownBy_putObj' _ D _) (B := 0) (fun r e => by cases e; exact ⟨Nat.zero_le _, _, HK.out, rfl⟩)).cell 0)), ?_, ?_⟩
    · rw [HF.out]; rfl
    · exact HFd.out.below.trans (belowK_b (w := w) (Nat.le_refl _) _ D _ _ (by omega) HK.out rfl rfl)

end Go.Proofs.Ytcpiojliakgdlaa
/- impl.findState at nodes; needFor, meet; StateValid. -/
namespace Go.Proofs.Ytcpiojliakgdlaa
open Go.RowKit Go.Shelf

/-- The truths of a state. -/
def inT (T : List Nat) (j : Nat) : Bool := decide (j ∈ T)

theorem findState_bad (s : ByteArray) (w : World) :
    Calls Try.prog 71 #[.slice none 0 0, .string s] w fun e w' => e = .returned (.tuple #[bitsV (inT []), .bool false]) ∧ Below w.heap.size w w' := by
  refine (findState_gen none 0 0 [] (fun _ => ⟨#[]⟩) s w (fun W Bs _ hB _ => states_stops_nil 19 Bs _ W hB) (fun h => absurd h (by decide))).mono ?_
  rintro e w' ⟨rfl, hb⟩
  exact ⟨rfl, hb⟩

theorem findState_any (B g : Nat) (l : List Seg) (nb : Nat → Nat) (cv : Nat → Value) (s : ByteArray) (w : World) (h : Nodes w B g l.length l.length l nb cv) (hv : validB l = true) :
    Calls Try.prog 71 #[.slice (some ⟨g, 0, none⟩) l.length l.length, .string s] w fun e w' => e = .returned (.tuple #[bitsV (inT (stT l s)), .bool (stOk l s)]) ∧ Below w.heap.size w w' := by
  have hd := (valid_all hv).1.down
  refine (findState_gen (some ⟨g, 0, none⟩) l.length l.length (statesIx l) (fun T => namesAt l (selIx (fun j => decide (j ∈ T)) l.length)) s w
    (fun W Bs hW hB hBs => states_stops 19 (by omega) Bs _ B g l nb cv hv W (h.below hW) (fun q _ hq => by omega) hB (by have := hB.lt; omega))
    (fun _ T W hW => names_any B g l nb cv _ W (h.below hW) hv)).mono ?_
  rintro e w' ⟨rfl, hb⟩
  have e1 : foundIn (statesIx l) (fun T => namesAt l (selIx (fun j => decide (j ∈ T)) l.length)) s = stIx l s := by
    have h1 : stIx l s = (statesIx l).find? (fun T => sameB (namesAt l T) s) := if_pos hv
    rw [h1]
    refine find_cong _ (fun T hT => ?_)
    have hT' := mem_states.1 hT
    dsimp only
    rw [sel_mem (hT'.asc hd) (hT'.lt hd)]
  rw [e1]
  exact ⟨rfl, hb⟩

set_option maxRecDepth 100000 in
set_option maxHeartbeats 400000 in
theorem needFor_any (B g i : Nat) (l : List Seg) (nb : Nat → Nat) (cv : Nat → Value) (w : World) (h : Nodes w B g l.length l.length l nb cv) (hv : validB l = true) (hi : i < l.length) :
    Calls Try.prog 113 #[.slice (some ⟨g, 0, none⟩) l.length l.length, .pointer (some ⟨nb i, 0, none⟩)] w fun e w' => e = .returned (bitsV (inT (rp l i))) ∧ Below w.heap.size w w' := by
  have HN := Lib.hid h
  clear h
  go_enter Try.func113, Try.ntmps113
  go_wp2_with fail
  refine (pathState_any B g i l nb cv _ (HN.out.below ((Below.refl _ w).alloc (Nat.le_refl _) _)) hv hi).mono ?_
  rintro e w1 ⟨rfl, hb1⟩
  have hR1 : Row w1 w.heap.size 142 (bitCells fun _ => false) := (Row.new w _ _).below hb1 (by simp)
  obtain ⟨⟨d0, d1, d2, d3⟩, d4, d5, d6, d7⟩ := bits_cells hR1
  have hfz := fun j => hR1.free j
  have z0 := hfz 0
  have z1 := hfz 1
  have z2 := hfz 2
  have z3 := hfz 3
  have z4 := hfz 4
  have z5 := hfz 5
  have z6 := hfz 6
  have z7 := hfz 7
  have HRow : Hid (Row (putBits w1 w.heap.size fun j => decide (j ∈ rp l i)) w.heap.size 142 (bitCells fun j => decide (j ∈ rp l i))) := putBits_row hR1
  have HBel : Hid (Below w.heap.size w (putBits w1 w.heap.size fun j => decide (j ∈ rp l i))) := putBits_below (((Below.refl _ w).alloc (Nat.le_refl _) _).trans (hb1.mono (by simp))) (Nat.le_refl _)
  clear hR1 hfz hb1
  unfold bitsV bitCells
  go_wp2
  exact bodyPost_ret (v := bitsV (inT (rp l i))) (results_cell_row (p := 4) (ty := 142) rfl _ (putBits w1 w.heap.size fun j => decide (j ∈ rp l i)) w.heap.size 142 _ (0, 0) _ rfl HRow.out Try.underlying142 rfl (by kernel_rfl)) rfl ⟨rfl, HBel.out⟩

theorem eql_none (w : World) : (Op.equalIn 10000 64 (.agg #[.bool false, .bool false, .bool false, .bool false, .bool false, .bool false, .bool false, .bool false]) (.agg #[.bool false, .bool false, .bool false, .bool false, .bool false, .bool false, .bool false, .bool false])).run Try.prog w = .ok true w := by kernel_rfl
theorem eql_true0 (b1 b2 b3 b4 b5 b6 b7 : Bool) (w : World) : (Op.equalIn 10000 64 (.agg #[.bool true, .bool b1, .bool b2, .bool b3, .bool b4, .bool b5, .bool b6, .bool b7]) (.agg #[.bool false, .bool false, .bool false, .bool false, .bool false, .bool false, .bool false, .bool false])).run Try.prog w = .ok false w := by kernel_rfl
theorem eql_true1 (b2 b3 b4 b5 b6 b7 : Bool) (w : World) : (Op.equalIn 10000 64 (.agg #[.bool false, .bool true, .bool b2, .bool b3, .bool b4, .bool b5, .bool b6, .bool b7]) (.agg #[.bool false, .bool false, .bool false, .bool false, .bool false, .bool false, .bool false, .bool false])).run Try.prog w = .ok false w := by kernel_rfl
theorem eql_true2 (b3 b4 b5 b6 b7 : Bool) (w : World) : (Op.equalIn 10000 64 (.agg #[.bool false, .bool false, .bool true, .bool b3, .bool b4, .bool b5, .bool b6, .bool b7]) (.agg #[.bool false, .bool false, .bool false, .bool false, .bool false, .bool false, .bool false, .bool false])).run Try.prog w = .ok false w := by kernel_rfl
theorem eql_true3 (b4 b5 b6 b7 : Bool) (w : World) : (Op.equalIn 10000 64 (.agg #[.bool false, .bool false, .bool false, .bool true, .bool b4, .bool b5, .bool b6, .bool b7]) (.agg #[.bool false, .bool false, .bool false, .bool false, .bool false, .bool false, .bool false, .bool false])).run Try.prog w = .ok false w := by kernel_rfl
theorem eql_true4 (b5 b6 b7 : Bool) (w : World) : (Op.equalIn 10000 64 (.agg #[.bool false, .bool false, .bool false, .bool false, .bool true, .bool b5, .bool b6, .bool b7]) (.agg #[.bool false, .bool false, .bool false, .bool false, .bool false, .bool false, .bool false, .bool false])).run Try.prog w = .ok false w := by kernel_rfl
theorem eql_true5 (b6 b7 : Bool) (w : World) : (Op.equalIn 10000 64 (.agg #[.bool false, .bool false, .bool false, .bool false, .bool false, .bool true, .bool b6, .bool b7]) (.agg #[.bool false, .bool false, .bool false, .bool false, .bool false, .bool false, .bool false, .bool false])).run Try.prog w = .ok false w := by kernel_rfl
theorem eql_true6 (b7 : Bool) (w : World) : (Op.equalIn 10000 64 (.agg #[.bool false, .bool false, .bool false, .bool false, .bool false, .bool false, .bool true, .bool b7]) (.agg #[.bool false, .bool false, .bool false, .bool false, .bool false, .bool false, .bool false, .bool false])).run Try.prog w = .ok false w := by kernel_rfl
theorem eql_true7 (w : World) : (Op.equalIn 10000 64 (.agg #[.bool false, .bool false, .bool false, .bool false, .bool false, .bool false, .bool false, .bool true]) (.agg #[.bool false, .bool false, .bool false, .bool false, .bool false, .bool false, .bool false, .bool false])).run Try.prog w = .ok false w := by kernel_rfl
theorem eql_bools (b0 b1 b2 b3 b4 b5 b6 b7 : Bool) (w : World) : (Op.equalIn 10000 64 (.agg #[.bool b0, .bool b1, .bool b2, .bool b3, .bool b4, .bool b5, .bool b6, .bool b7]) (.agg #[.bool false, .bool false, .bool false, .bool false, .bool false, .bool false, .bool false, .bool false])).run Try.prog w = .ok (!b0 && !b1 && !b2 && !b3 && !b4 && !b5 && !b6 && !b7) w := by
  cases b0 with
  | true => exact eql_true0 b1 b2 b3 b4 b5 b6 b7 w
  | false =>
    cases b1 with
    | true => exact eql_true1 b2 b3 b4 b5 b6 b7 w
    | false =>
      cases b2 with
      | true => exact eql_true2 b3 b4 b5 b6 b7 w
      | false =>
        cases b3 with
        | true => exact eql_true3 b4 b5 b6 b7 w
        | false =>
          cases b4 with
          | true => exact eql_true4 b5 b6 b7 w
          | false =>
            cases b5 with
            | true => exact eql_true5 b6 b7 w
            | false =>
              cases b6 with
              | true => exact eql_true6 b7 w
              | false =>
                cases b7 with
                | true => exact eql_true7  w
                | false =>
                  exact eql_none w
def offB (f : Nat → Bool) : Bool := !f 0 && !f 1 && !f 2 && !f 3 && !f 4 && !f 5 && !f 6 && !f 7
theorem offB_iff (f : Nat → Bool) : offB f = true ↔ ∀ j, j < 8 → f j = false := by
  unfold offB
  simp only [Bool.and_eq_true, Bool.not_eq_true']
  constructor
  · rintro ⟨⟨⟨⟨⟨⟨⟨h0, h1⟩, h2⟩, h3⟩, h4⟩, h5⟩, h6⟩, h7⟩ j hj
    match j, hj with
    | 0, _ => exact h0
    | 1, _ => exact h1
    | 2, _ => exact h2
    | 3, _ => exact h3
    | 4, _ => exact h4
    | 5, _ => exact h5
    | 6, _ => exact h6
    | 7, _ => exact h7
  · intro h
    exact ⟨⟨⟨⟨⟨⟨⟨h 0 (by decide), h 1 (by decide)⟩, h 2 (by decide)⟩, h 3 (by decide)⟩, h 4 (by decide)⟩, h 5 (by decide)⟩, h 6 (by decide)⟩, h 7 (by decide)⟩

set_option maxRecDepth 100000 in
set_option maxHeartbeats 400000 in
theorem meet_any (T P : List Nat) (w : World) (hP : ∀ j ∈ P, j < 8) :
    Calls Try.prog 114 #[bitsV (inT P), bitsV (inT T)] w fun e w' => e = .returned (bitsV (inT (needT T P))) ∧ Below w.heap.size w w' := by
  have HL := Lib.hid (fun W => less_any (inT P) (inT T) W)
  have HE := Lib.hid (fun W => eql_bools (inT P 0 && !inT T 0) (inT P 1 && !inT T 1) (inT P 2 && !inT T 2) (inT P 3 && !inT T 3) (inT P 4 && !inT T 4) (inT P 5 && !inT T 5) (inT P 6 && !inT T 6) (inT P 7 && !inT T 7) W)
  have hiff : offB (fun j => inT P j && !inT T j) = true ↔ ∀ x ∈ P, x ∈ T := by
    rw [offB_iff]
    constructor
    · intro h x hx
      have := h x (hP x hx)
      unfold inT at this
      rw [decide_eq_true hx] at this
      simpa using this
    · intro h j _
      unfold inT
      by_cases hj : j ∈ P
      · rw [decide_eq_true (h j hj)]
        simp
      · rw [decide_eq_false hj]
        rfl
  by_cases hs : ∀ x ∈ P, x ∈ T
  · have HT : Hid (needT T P = T) := if_pos hs
    have HO : Hid (offB (fun j => inT P j && !inT T j) = true) := hiff.2 hs
    have he : ∀ W, (Op.equalIn 10000 64 (bitsV fun j => inT P j && !inT T j) (bitsV fun _ => false)).run Try.prog W = .ok true W := fun W => by
      have h1 := HE.out W
      exact h1.trans (congrArg (fun b => Result.ok b W) HO.out)
    unfold bitsV bitCells at HL he ⊢
    clear hiff hs HE
    rw [HT.out]
    have hR1 : ∀ W1, Below (w.heap.size + 1 + 1 + 1) (((w.alloc (.cells (bitCells (inT P)) 142)).alloc (.cells (bitCells (inT T)) 64)).alloc (.cells (bitCells fun _ => false) 64)) W1 → Row W1 (w.heap.size + 1 + 1) 64 (bitCells fun _ => false) ∧ Row W1 (w.heap.size + 1) 64 (bitCells (inT T)) ∧ Row W1 w.heap.size 142 (bitCells (inT P)) ∧ Below w.heap.size w W1 := fun W1 hb => by
      refine ⟨Row.below ?_ hb (by omega), Row.below ?_ hb (by omega), (((Row.new w _ _).alloc _).alloc _).below hb (by omega), ((((Below.refl _ w).alloc (Nat.le_refl _) _).alloc (by simp) _).alloc (by simp; omega) _).trans (hb.mono (by omega))⟩
      · have := Row.new ((w.alloc (.cells (bitCells (inT P)) 142)).alloc (.cells (bitCells (inT T)) 64)) 64 (bitCells fun _ => false)
        simpa using this
      · have := (Row.new (w.alloc (.cells (bitCells (inT P)) 142)) 64 (bitCells (inT T))).alloc (.cells (bitCells fun _ => false) 64)
        simpa using this
    have HR1 := Lib.hid hR1
    clear hR1
    go_enter Try.func114, Try.ntmps114
    go_wp2_with fail
    refine (HL.out _).mono ?_
    rintro e w1 ⟨rfl, hb1⟩
    rw [World.size_alloc, World.size_alloc, World.size_alloc] at hb1
    obtain ⟨r1, r2, r3, r4⟩ := HR1.out w1 hb1
    obtain ⟨⟨d0, d1, d2, d3⟩, d4, d5, d6, d7⟩ := bits_cells r1
    obtain ⟨⟨e0, e1, e2, e3⟩, e4, e5, e6, e7⟩ := bits_cells r2
    have hfz := fun j => r1.free j
    have z0 := hfz 0
    have z1 := hfz 1
    have z2 := hfz 2
    have z3 := hfz 3
    have z4 := hfz 4
    have z5 := hfz 5
    have z6 := hfz 6
    have z7 := hfz 7
    have HRow : Hid (Row (putBits w1 (w.heap.size + 1 + 1) (inT T)) (w.heap.size + 1 + 1) 64 (bitCells (inT T))) := putBits_row r1
    have HBel : Hid (Below w.heap.size w (putBits w1 (w.heap.size + 1 + 1) (inT T))) := putBits_below r4 (by omega)
    clear r1 r2 r3 r4 hfz hb1
    go_wp2
    exact bodyPost_ret (v := bitsV (inT T)) (results_cell_row (p := 4) (ty := 64) rfl _ (putBits w1 (w.heap.size + 1 + 1) (inT T)) (w.heap.size + 1 + 1) 64 _ (0, 0) _ rfl HRow.out Try.underlying64 rfl (by kernel_rfl)) rfl ⟨rfl, HBel.out⟩
  · have HT : Hid (needT T P = P) := if_neg hs
    have HO : Hid (offB (fun j => inT P j && !inT T j) = false) := Bool.eq_false_iff.2 (fun h => hs (hiff.1 h))
    have he : ∀ W, (Op.equalIn 10000 64 (bitsV fun j => inT P j && !inT T j) (bitsV fun _ => false)).run Try.prog W = .ok false W := fun W => by
      have h1 := HE.out W
      exact h1.trans (congrArg (fun b => Result.ok b W) HO.out)
    unfold bitsV bitCells at HL he ⊢
    clear hiff hs HE
    rw [HT.out]
    have hR1 : ∀ W1, Below (w.heap.size + 1 + 1 + 1) (((w.alloc (.cells (bitCells (inT P)) 142)).alloc (.cells (bitCells (inT T)) 64)).alloc (.cells (bitCells fun _ => false) 64)) W1 → Row W1 (w.heap.size + 1 + 1) 64 (bitCells fun _ => false) ∧ Row W1 (w.heap.size + 1) 64 (bitCells (inT T)) ∧ Row W1 w.heap.size 142 (bitCells (inT P)) ∧ Below w.heap.size w W1 := fun W1 hb => by
      refine ⟨Row.below ?_ hb (by omega), Row.below ?_ hb (by omega), (((Row.new w _ _).alloc _).alloc _).below hb (by omega), ((((Below.refl _ w).alloc (Nat.le_refl _) _).alloc (by simp) _).alloc (by simp; omega) _).trans (hb.mono (by omega))⟩
      · have := Row.new ((w.alloc (.cells (bitCells (inT P)) 142)).alloc (.cells (bitCells (inT T)) 64)) 64 (bitCells fun _ => false)
        simpa using this
      · have := (Row.new (w.alloc (.cells (bitCells (inT P)) 142)) 64 (bitCells (inT T))).alloc (.cells (bitCells fun _ => false) 64)
        simpa using this
    have HR1 := Lib.hid hR1
    clear hR1
    go_enter Try.func114, Try.ntmps114
    go_wp2_with fail
    refine (HL.out _).mono ?_
    rintro e w1 ⟨rfl, hb1⟩
    rw [World.size_alloc, World.size_alloc, World.size_alloc] at hb1
    obtain ⟨r1, r2, r3, r4⟩ := HR1.out w1 hb1
    obtain ⟨⟨d0, d1, d2, d3⟩, d4, d5, d6, d7⟩ := bits_cells r1
    obtain ⟨⟨e0, e1, e2, e3⟩, e4, e5, e6, e7⟩ := bits_cells r3
    have hfz := fun j => r1.free j
    have z0 := hfz 0
    have z1 := hfz 1
    have z2 := hfz 2
    have z3 := hfz 3
    have z4 := hfz 4
    have z5 := hfz 5
    have z6 := hfz 6
    have z7 := hfz 7
    have HRow : Hid (Row (putBits w1 (w.heap.size + 1 + 1) (inT P)) (w.heap.size + 1 + 1) 64 (bitCells (inT P))) := putBits_row r1
    have HBel : Hid (Below w.heap.size w (putBits w1 (w.heap.size + 1 + 1) (inT P))) := putBits_below r4 (by omega)
    clear r1 r2 r3 r4 hfz hb1
    go_wp2
    exact bodyPost_ret (v := bitsV (inT P)) (results_cell_row (p := 4) (ty := 64) rfl _ (putBits w1 (w.heap.size + 1 + 1) (inT P)) (w.heap.size + 1 + 1) 64 _ (0, 0) _ rfl HRow.out Try.underlying64 rfl (by kernel_rfl)) rfl ⟨rfl, HBel.out⟩

end Go.Proofs.Ytcpiojliakgdlaa
