/- Joined: Gk Gl Gm Gn Go. -/
import Derived.Test.YtbmfbnlmdjnddaaGreatU17
import Derived.Test.YtbmfbnlmdjnddaaGreatU02
/- impl.findState over whatever iterator that yields states. -/
namespace Go.Proofs.YtbmfbnlmdjnddaaGreat
open Go.RowKit Go.Shelf
attribute [local go_sem] Oper.semAt_some

theorem find_cong {α : Type} {p q : α → Bool} : ∀ (L : List α), (∀ x ∈ L, p x = q x) → L.find? p = L.find? q
  | [], _ => rfl
  | x :: L, h => by
    rw [List.find?_cons, List.find?_cons, h x List.mem_cons_self, find_cong L (fun y hy => h y (List.mem_cons_of_mem _ hy))]
theorem find_stop {α : Type} {p : α → Bool} {P L : List α} {x : α} (hP : ∀ y ∈ P, p y = false) (hx : p x = true) (hL : P ++ [x] <+: L) : L.find? p = some x := by
  obtain ⟨R, rfl⟩ := hL
  rw [List.append_assoc, List.find?_append]
  have : P.find? p = none := List.find?_eq_none.2 (fun y hy => by rw [hP y hy]; decide)
  rw [this]
  simp [hx]

theorem results_two_cells {fn : Func} {p q : Tmp} {ty tb : TypeId} (h : fn.results = #[.cell p ty, .cell q tb]) (tmps : Array Value) (w : World) (a b : Addr) (u v : Value)
    (hp : tmps.getD p undef = .pointer (some a)) (hu : (loadVar ty a).run Tryz.prog w = .ok u w) (hq : tmps.getD q undef = .pointer (some b)) (hv : (loadVar tb b).run Tryz.prog w = .ok v w) :
    (results fn tmps).run Tryz.prog w = .ok (.tuple #[u, v]) w := by
  have hp' : tmps[p]?.getD undef = .pointer (some a) := by simpa using hp
  have hq' : tmps[q]?.getD undef = .pointer (some b) := by simpa using hq
  simp [results, h, hp', hq', asAddr, hu, hv]
theorem run_loadBool {w : World} {b : Addr} {x : Bool} (h : w.cell? b = some (.bool x)) : (loadVar 4 b).run Tryz.prog w = .ok (.bool x) w := by
  simp [loadVar, isAgg, go_sem, h]

/-- What the loop keeps. -/
structure Finding (w : World) (v : Value) (s : ByteArray) (nm : List Nat → ByteArray) (pre : List (List Nat)) (W : World) : Prop where
  nodes : Row W w.heap.size 62 #[v]
  text : Row W (w.heap.size + 1) 9 #[.string s]
  res : Row W (w.heap.size + 1 + 1) 79 (bitCells fun _ => false)
  ok : Row W (w.heap.size + 1 + 1 + 1) 4 #[.bool false]
  below : Below w.heap.size w W
  none : ∀ T ∈ pre, sameB (nm T) s = false
theorem Finding.grown {w W W' : World} {v : Value} {s : ByteArray} {nm : List Nat → ByteArray} {pre : List (List Nat)} {B : Nat} {row : Option Nat} (h : Finding w v s nm pre W) (hg : W.grownBy W' row) (hB : w.heap.size ≤ B) (hr : ∀ r, row = some r → B ≤ r ∧ ∃ o : Obj, W.heap[r]? = some o ∧ o.isCells = false) : Finding w v s nm pre W' :=
  ⟨row_grown h.nodes hg hr, row_grown h.text hg hr, row_grown h.res hg hr, row_grown h.ok hg hr, h.below.grown hg h.below.size (fun k e => by have := (hr k e).1; omega), h.none⟩
theorem Finding.below' {w W W' : World} {v : Value} {s : ByteArray} {nm : List Nat → ByteArray} {pre : List (List Nat)} (h : Finding w v s nm pre W) (hb : Below W.heap.size W W') : Finding w v s nm pre W' := h.grown (B := w.heap.size) (grownBy_of_below hb) (Nat.le_refl _) (fun r e => by cases e)
theorem Finding.next {w W : World} {v : Value} {s : ByteArray} {nm : List Nat → ByteArray} {pre : List (List Nat)} {T : List Nat} (h : Finding w v s nm pre W) (hT : sameB (nm T) s = false) : Finding w v s nm (pre ++ [T]) W :=
  ⟨h.nodes, h.text, h.res, h.ok, h.below, fun U hU => by
    rcases List.mem_append.1 hU with hU | hU
    · exact h.none U hU
    · rw [List.mem_singleton.1 hU]; exact hT⟩
/-- How it stops: the state is found and told. -/
structure Found (w : World) (s : ByteArray) (nm : List Nat → ByteArray) (pre : List (List Nat)) (W : World) : Prop where
  ex : ∃ P T, pre = P ++ [T] ∧ (∀ U ∈ P, sameB (nm U) s = false) ∧ sameB (nm T) s = true ∧ Row W (w.heap.size + 1 + 1) 79 (bitCells fun j => decide (j ∈ T))
  ok : Row W (w.heap.size + 1 + 1 + 1) 4 #[.bool true]
  below : Below w.heap.size w W
theorem Found.grown {w W W' : World} {s : ByteArray} {nm : List Nat → ByteArray} {pre : List (List Nat)} {B : Nat} {row : Option Nat} (h : Found w s nm pre W) (hg : W.grownBy W' row) (hB : w.heap.size ≤ B) (hr : ∀ r, row = some r → B ≤ r ∧ ∃ o : Obj, W.heap[r]? = some o ∧ o.isCells = false) : Found w s nm pre W' := by
  obtain ⟨P, T, h1, h2, h3, h4⟩ := h.ex
  exact ⟨⟨P, T, h1, h2, h3, row_grown h4 hg hr⟩, row_grown h.ok hg hr, h.below.grown hg h.below.size (fun k e => by have := (hr k e).1; omega)⟩

def foundIn (L : List (List Nat)) (nm : List Nat → ByteArray) (s : ByteArray) : Option (List Nat) := L.find? (fun T => sameB (nm T) s)

set_option maxRecDepth 100000 in
set_option maxHeartbeats 4000000 in
theorem findState_gen (a : Option Addr) (n c : Nat) (L : List (List Nat)) (nm : List Nat → ByteArray) (s : ByteArray) (w : World)
    (hseq : ∀ (W : World) (Bs : Nat), Below w.heap.size w W → Row W Bs 62 #[.slice a n c] → w.heap.size ≤ Bs →
      SeqStopsK Fence.wide 19 Tryz.prog 181 #[.pointer (some ⟨Bs, 0, none⟩)] stArgs (Kept W.heap.size W.heap.size) (fun ys => ys = L) (fun pre => pre <+: L) L.length W)
    (hnm : 0 < L.length → ∀ (T : List Nat) (W : World), Below w.heap.size w W → Calls Tryz.prog 132 #[bitsV fun j => decide (j ∈ T), .slice a n c] W fun e w' => e = .returned (.string (nm T)) ∧ Below W.heap.size W w') :
    Calls Tryz.prog 67 #[.slice a n c, .string s] w fun e w' => e = .returned (.tuple #[bitsV fun j => decide (j ∈ (foundIn L nm s).getD []), .bool (foundIn L nm s).isSome]) ∧ Below w.heap.size w w' := by
  have HSEQ := Lib.hid hseq
  have HNM := Lib.hid hnm
  clear hseq hnm
  refine (callsIn_wide (n := 20)).1 ?_
  refine callsIn_of_wp_marks Tryz.func67 rfl trivial ?_ rfl
  simp only [Tryz.ntmps67, List.size_toArray, List.length_cons, List.length_nil, Nat.reduceAdd, Nat.reduceSub, Array.replicate_succ, Array.replicate_zero, List.push_toArray, List.append_toArray, List.nil_append, List.cons_append]
  gi_wp2_with fail
  have hF0 : Finding w (.slice a n c) s nm [] ((((w.alloc (.cells #[.slice a n c] 62)).alloc (.cells #[.string s] 9)).alloc (.cells (bitCells fun _ => false) 79)).alloc (.cells #[.bool false] 4)) := by
    refine ⟨(((Row.new w _ _).alloc _).alloc _).alloc _, ?_, ?_, ?_, ((((Below.refl _ w).alloc (Nat.le_refl _) _).alloc (by simp) _).alloc (by simp; omega) _).alloc (by simp; omega) _, fun T hT => by cases hT⟩
    · have := ((Row.new (w.alloc (.cells #[.slice a n c] 62)) 9 #[.string s]).alloc (.cells (bitCells fun _ => false) 79)).alloc (.cells #[.bool false] 4)
      simpa using this
    · have := (Row.new ((w.alloc (.cells #[.slice a n c] 62)).alloc (.cells #[.string s] 9)) 79 (bitCells fun _ => false)).alloc (.cells #[.bool false] 4)
      simpa using this
    · have := Row.new (((w.alloc (.cells #[.slice a n c] 62)).alloc (.cells #[.string s] 9)).alloc (.cells (bitCells fun _ => false) 79)) 4 #[.bool false]
      simpa using this
  have hz0 : ((((w.alloc (.cells #[.slice a n c] 62)).alloc (.cells #[.string s] 9)).alloc (.cells (bitCells fun _ => false) 79)).alloc (.cells #[.bool false] 4)).heap.size = w.heap.size + 4 := by simp
  unfold bitCells at hF0 hz0
  generalize (((w.alloc (.cells #[.slice a n c] 62)).alloc (.cells #[.string s] 9)).alloc (.cells #[.bool false, .bool false, .bool false, .bool false, .bool false, .bool false, .bool false, .bool false] 79)).alloc (.cells #[.bool false] 4) = W0 at *
  refine ⟨trivial, ?_⟩
  gi_at_call 131
  refine (callsIn_wide.2 (statesOf_any _ _ _ _)).mono ?_
  rintro e w2 ⟨rfl, rfl⟩
  have hB1 : Below W0.heap.size W0 (W0.alloc (.cells #[.slice a n c] 62)) := (Below.refl _ W0).alloc (Nat.le_refl _) _
  have hF1 := hF0.below' hB1
  have hseq := HSEQ.out (W0.alloc (.cells #[.slice a n c] 62)) W0.heap.size hF1.below (Row.new _ _ _) (by omega)
  have hz1 : (W0.alloc (.cells #[.slice a n c] 62)).heap.size = w.heap.size + 5 := by rw [World.size_alloc]; omega
  rw [hz0] at hseq
  clear HSEQ hB1 hF0
  gi_wp2
  generalize W0.alloc (.cells #[.slice a n c] 62) = W1 at *
  refine wpIn_rangeFunc_ownH rfl (by omega) (gf := 181) (lb := #[.pointer (some ⟨w.heap.size + 4, 0, none⟩)]) rfl trivial (enters_of Tryz.func181 (by kernel_rfl) rfl) hseq
    (fun h k => h.trans k) (fun W l o o' hl _ _ _ => Kept.put W o' hl) (Below.refl _ _) (fun _ => rfl)
    (fun pre W => Finding w (.slice a n c) s nm pre W) (fun c' pre W => c' = .ret ∧ Found w s nm pre W)
    (fun _ _ _ _ h hg hr => h.grown hg (by omega) hr) (fun _ _ _ _ _ hs hg hr => ⟨hs.1, hs.2.grown hg (by omega) hr⟩) hF1
    (fun x a' W => ∃ p, Row W p 79 (bitCells fun j => decide (j ∈ x)) ∧ w.heap.size + 4 ≤ p ∧ a' = { tmps := #[.slice a n c, .string s, .pointer (some ⟨w.heap.size, 0, none⟩), .pointer (some ⟨w.heap.size + 1, 0, none⟩), .pointer (some ⟨w.heap.size + 1 + 1, 0, none⟩), .pointer (some ⟨w.heap.size + 1 + 1 + 1, 0, none⟩), .pointer (some ⟨p, 0, none⟩), .slice a n c, .func (.func 181) #[] #[.pointer (some ⟨w.heap.size + 4, 0, none⟩)], bitsV fun j => decide (j ∈ x), undef, undef, undef, undef, undef, undef, undef], defers := [] })
    (fun x a' _ _ _ _ ⟨p, h1, h2, h3⟩ hg hr => ⟨p, row_grown h1 hg hr, h2, h3⟩) ?assign ?body ?done ?stop
  case assign =>
    intro l2 pre x W K hI hK
    have hI2 := hI.below' ((Below.refl _ W).alloc (Nat.le_refl _) (.cells (bitCells fun j => decide (j ∈ x)) 79))
    unfold stArgs bitsV bitCells
    gi_wp2
    exact hK _ _ (from_below ((Below.refl _ W).alloc (Nat.le_refl _) _)) (Kept.of_below ((Below.refl _ W).alloc (Nat.le_refl _) _)) hI2 ⟨W.heap.size, Row.new _ _ _, by have := hI.ok.lt; omega, rfl⟩
  case body =>
    rintro l2 pre x a' W hl2 - hI ⟨p, hp, hp4, rfl⟩ hlen
    obtain ⟨⟨c0, c1, c2, c3⟩, c4, c5, c6, c7⟩ := bits_cells hp
    have cn : W.cell? ⟨w.heap.size, 0, none⟩ = some (.slice a n c) := hI.nodes.cell 0
    have ct : W.cell? ⟨w.heap.size + 1, 0, none⟩ = some (.string s) := hI.text.cell 0
    have hct := hI.text.lt
    have HNX := Lib.hid (HNM.out (by omega) x)
    have HI := Lib.hid hI
    have HP := Lib.hid hp
    have HWD : Hid (Below w.heap.size w W.drew) := hI.below.drew
    have hmx : Tryz.prog.follows .mixedOrders = true := by kernel_rfl
    clear hI hp
    cases hsm : sameB (nm x) s with
    | false =>
      have hts : ((nm x).toList == s.toList) = false := hsm
      have HSM := Lib.hid hsm
      clear hsm
      generalize nm x = nx at HNX hts
      unfold bitsV bitCells at HNX
      gi_wp2
      gi_region_with_o (refine ⟨trivial, ?_⟩; gi_at_call 132; refine (CallsIn.inRound l2 (callsIn_wide.2 (HNX.out _ HWD.out))).mono ?_; rintro e w1 ⟨rfl, hb1⟩; have hbw : Below W.heap.size W w1 := ((Below.refl _ W).drew).trans hb1; have ct1 : w1.cell? ⟨w.heap.size + 1, 0, none⟩ = some (.string s) := (hbw.cell (p := ⟨w.heap.size + 1, 0, none⟩) hct).trans ct)
      all_goals
        have HB := Lib.hid hbw
        clear hbw hb1 ct1 HNX
        gi_wp2
        exact ⟨from_below HB.out, Kept.of_below HB.out, (HI.out.below' HB.out).next HSM.out⟩
    | true =>
      have hts : ((nm x).toList == s.toList) = true := hsm
      have HSM := Lib.hid hsm
      clear hsm
      generalize nm x = nx at HNX hts
      unfold bitsV bitCells at HNX
      gi_wp2
      gi_region_with_o (refine ⟨trivial, ?_⟩; gi_at_call 132; refine (CallsIn.inRound l2 (callsIn_wide.2 (HNX.out _ HWD.out))).mono ?_; rintro e w1 ⟨rfl, hb1⟩; have hbw : Below W.heap.size W w1 := ((Below.refl _ W).drew).trans hb1; have ct1 : w1.cell? ⟨w.heap.size + 1, 0, none⟩ = some (.string s) := (hbw.cell (p := ⟨w.heap.size + 1, 0, none⟩) hct).trans ct)
      all_goals
        have hF2 := HI.out.below' hbw
        have hP2 := HP.out.below hbw HP.out.lt
        clear c0 c1 c2 c3 c4 c5 c6 c7
        obtain ⟨⟨e0, e1, e2, e3⟩, e4, e5, e6, e7⟩ := bits_cells hP2
        obtain ⟨⟨d0, d1, d2, d3⟩, d4, d5, d6, d7⟩ := bits_cells hF2.res
        have hfz := fun j => hF2.res.free j
        have z0 := hfz 0
        have z1 := hfz 1
        have z2 := hfz 2
        have z3 := hfz 3
        have z4 := hfz 4
        have z5 := hfz 5
        have z6 := hfz 6
        have z7 := hfz 7
        have ok0 : w1.cell? ⟨w.heap.size + 1 + 1 + 1, 0, none⟩ = some (.bool false) := hF2.ok.cell 0
        have ok1 : w1.frozen? ⟨w.heap.size + 1 + 1 + 1, 0, none⟩ = false := hF2.ok.free 0
        have HB := Lib.hid hbw
        have HFd : Hid (Found w s nm (pre ++ [x]) ((putBits w1 (w.heap.size + 1 + 1) fun j => decide (j ∈ x)).setCell ⟨w.heap.size + 1 + 1 + 1, 0, none⟩ (.bool true))) :=
          ⟨⟨pre, x, rfl, hF2.none, HSM.out, Row.far (putBits_row hF2.res) (by show w.heap.size + 1 + 1 ≠ w.heap.size + 1 + 1 + 1; omega) _⟩, Row.put (putBits_far hF2.ok (by omega)) 0 _, (putBits_below hF2.below (by omega)).setCell (by show w.heap.size ≤ w.heap.size + 1 + 1 + 1; omega) _⟩
        have HKF : Hid (KeepsFrom W1.heap.size w1 ((putBits w1 (w.heap.size + 1 + 1) fun j => decide (j ∈ x)).setCell ⟨w.heap.size + 1 + 1 + 1, 0, none⟩ (.bool true))) :=
          ⟨by simp [putBits], fun k o hk ho _ => (Below.heap_setCell _ ⟨w.heap.size + 1 + 1 + 1, 0, none⟩ _ k (by show k ≠ w.heap.size + 1 + 1 + 1; omega)).trans ((putBits_block w1 _ _ (by omega)).trans ho)⟩
        clear hbw hb1 ct1 HNX hF2 hP2 hfz ct cn
        gi_wp2
        exact ⟨(from_below HB.out).trans HKF.out, rfl, HFd.out⟩
  case done =>
    rintro D xs W hD rfl hI hK
    have HF : Hid (foundIn xs nm s = none) := List.find?_eq_none.2 (fun T hT => by rw [hI.none T hT]; decide)
    obtain ⟨⟨d0, d1, d2, d3⟩, d4, d5, d6, d7⟩ := bits_cells hI.res
    have hfz := fun j => hI.res.free j
    have z0 := hfz 0
    have z1 := hfz 1
    have z2 := hfz 2
    have z3 := hfz 3
    have z4 := hfz 4
    have z5 := hfz 5
    have z6 := hfz 6
    have z7 := hfz 7
    have ok0 : W.cell? ⟨w.heap.size + 1 + 1 + 1, 0, none⟩ = some (.bool false) := hI.ok.cell 0
    have ok1 : W.frozen? ⟨w.heap.size + 1 + 1 + 1, 0, none⟩ = false := hI.ok.free 0
    clear hfz
    have HI := Lib.hid hI
    have HK : Hid (((putBits W (w.heap.size + 1 + 1) fun _ => false).setCell ⟨w.heap.size + 1 + 1 + 1, 0, none⟩ (.bool false)).heap[D]? = some (.deferred (some []))) :=
      (Below.heap_setCell _ ⟨w.heap.size + 1 + 1 + 1, 0, none⟩ _ D (by show D ≠ w.heap.size + 1 + 1 + 1; omega)).trans ((putBits_block W _ _ (by omega)).trans hK)
    have HR : Hid (Row ((putBits W (w.heap.size + 1 + 1) fun _ => false).setCell ⟨w.heap.size + 1 + 1 + 1, 0, none⟩ (.bool false)) (w.heap.size + 1 + 1) 79 (bitCells fun _ => false)) := Row.far (putBits_row HI.out.res) (by show w.heap.size + 1 + 1 ≠ w.heap.size + 1 + 1 + 1; omega) _
    have HO : Hid (Row ((putBits W (w.heap.size + 1 + 1) fun _ => false).setCell ⟨w.heap.size + 1 + 1 + 1, 0, none⟩ (.bool false)) (w.heap.size + 1 + 1 + 1) 4 #[.bool false]) := Row.put (putBits_far HI.out.ok (by omega)) 0 _
    have HBl : Hid (Below w.heap.size w ((putBits W (w.heap.size + 1 + 1) fun _ => false).setCell ⟨w.heap.size + 1 + 1 + 1, 0, none⟩ (.bool false))) := (putBits_below HI.out.below (by omega)).setCell (by show w.heap.size ≤ w.heap.size + 1 + 1 + 1; omega) _
    clear hI hK
    gi_wp2
    refine ⟨by simp, .inl ⟨_, _, rfl, run_takeDeferred HK.out, ?_⟩⟩
    refine ⟨_, results_two_cells (p := 4) (q := 5) (ty := 79) (tb := 4) rfl _ (((putBits W (w.heap.size + 1 + 1) fun _ => false).setCell ⟨w.heap.size + 1 + 1 + 1, 0, none⟩ (.bool false)).putObj D _) ⟨w.heap.size + 1 + 1, 0, none⟩ ⟨w.heap.size + 1 + 1 + 1, 0, none⟩ _ (.bool false) rfl (run_loadState (row_grown HR.out (grownBy_putObj' _ D _) (B := 0) (fun r e => by cases e; exact ⟨Nat.zero_le _, _, HK.out, rfl⟩))) rfl
      (run_loadBool ((row_grown HO.out (grownBy_putObj' _ D _) (B := 0) (fun r e => by cases e; exact ⟨Nat.zero_le _, _, HK.out, rfl⟩)).cell 0)), ?_, ?_⟩
    · rw [HF.out]; rfl
    · exact HBl.out.trans (belowK_b (w := w) (Nat.le_refl _) _ D _ _ (by omega) HK.out rfl rfl)
  case stop =>
    rintro D c' pre W hD hSp ⟨rfl, hFd⟩ hK
    obtain ⟨P, T, rfl, hPn, hTn, hR⟩ := hFd.ex
    have HF : Hid (foundIn L nm s = some T) := find_stop hPn hTn hSp
    have HK : Hid (W.heap[D]? = some (.deferred (some []))) := hK
    have HFd := Lib.hid hFd
    have HR := Lib.hid hR
    clear hFd hR hK
    gi_wp2
    refine ⟨by simp, .inl ⟨_, _, rfl, run_takeDeferred HK.out, ?_⟩⟩
    refine ⟨_, results_two_cells (p := 4) (q := 5) (ty := 79) (tb := 4) rfl _ (W.putObj D _) ⟨w.heap.size + 1 + 1, 0, none⟩ ⟨w.heap.size + 1 + 1 + 1, 0, none⟩ _ (.bool true) rfl (run_loadState (row_grown HR.out (grownBy_putObj' _ D _) (B := 0) (fun r e => by cases e; exact ⟨Nat.zero_le _, _, HK.out, rfl⟩))) rfl
      (run_loadBool ((row_grown HFd.out.ok (grownBy_putObj' _ D _) (B := 0) (fun r e => by cases e; exact ⟨Nat.zero_le _, _, HK.out, rfl⟩)).cell 0)), ?_, ?_⟩
    · rw [HF.out]; rfl
    · exact HFd.out.below.trans (belowK_b (w := w) (Nat.le_refl _) _ D _ _ (by omega) HK.out rfl rfl)

end Go.Proofs.YtbmfbnlmdjnddaaGreat
/- impl.findState at nodes; needFor, meet; StateValid. -/
namespace Go.Proofs.YtbmfbnlmdjnddaaGreat
open Go.RowKit Go.Shelf

/-- The truths of a state. -/
def inT (T : List Nat) (j : Nat) : Bool := decide (j ∈ T)

theorem findState_bad (s : ByteArray) (w : World) :
    Calls Tryz.prog 67 #[.slice none 0 0, .string s] w fun e w' => e = .returned (.tuple #[bitsV (inT []), .bool false]) ∧ Below w.heap.size w w' := by
  refine (findState_gen none 0 0 [] (fun _ => ⟨#[]⟩) s w (fun W Bs _ hB _ => states_stops_nil 19 Bs _ W hB) (fun h => absurd h (by decide))).mono ?_
  rintro e w' ⟨rfl, hb⟩
  exact ⟨rfl, hb⟩

theorem findState_any (B g : Nat) (l : List Seg) (nb : Nat → Nat) (cv : Nat → Value) (s : ByteArray) (w : World) (h : Nodes w B g l.length l.length l nb cv) (hv : validB l = true) :
    Calls Tryz.prog 67 #[.slice (some ⟨g, 0, none⟩) l.length l.length, .string s] w fun e w' => e = .returned (.tuple #[bitsV (inT (stT l s)), .bool (stOk l s)]) ∧ Below w.heap.size w w' := by
  have hd := (valid_all hv).1.down
  refine (findState_gen (some ⟨g, 0, none⟩) l.length l.length (statesIx l) (fun T => namesAt l (selIx (fun j => decide (j ∈ T)) l.length)) s w
    (fun W Bs hW hB hBs => states_stops 19 (by omega) Bs _ B g l nb cv hv W (h.below hW) (fun q _ hq => by omega) hB (by have := hB.lt; omega))
    (fun _ T W hW => names_any B g l nb cv _ W (h.below hW) hv)).mono ?_
  rintro e w' ⟨rfl, hb⟩
  have e1 : foundIn (statesIx l) (fun T => namesAt l (selIx (fun j => decide (j ∈ T)) l.length)) s = stIx l s := by
    have h1 : stIx l s = (statesIx l).find? (fun T => sameB (namesAt l T) s) := if_pos hv
    rw [h1]
    refine find_cong _ (fun T hT => ?_)
    have hT' := mem_states.1 hT
    dsimp only
    rw [sel_mem (hT'.asc hd) (hT'.lt hd)]
  rw [e1]
  exact ⟨rfl, hb⟩

end Go.Proofs.YtbmfbnlmdjnddaaGreat
/- impl.meetNeed: the states ahead of a need and behind it. -/
namespace Go.Proofs.YtbmfbnlmdjnddaaGreat
open Go.RowKit Go.Shelf

end Go.Proofs.YtbmfbnlmdjnddaaGreat
/- impl.StateValid, DropsOf, NeedOf. -/
namespace Go.Proofs.YtbmfbnlmdjnddaaGreat
open Go.RowKit Go.Shelf

set_option maxRecDepth 100000 in
set_option maxHeartbeats 400000 in
theorem stateValid_any (A : Option Addr) (l : List Seg) (c : Nat) (s : ByteArray) (w : World) (hw : Segs w w.heap.size A l) (hl : l.length ≤ 1048576) (hlc : l.length ≤ c) (hcm : c ≤ 9223372036854775807) (hn : Short l) :
    Calls Tryz.prog 14 #[.slice A l.length c, .string s] w fun e w' => e = .returned (.bool (stOk l s)) ∧ Below w.heap.size w w' := by
  have HW : Hid (Segs w w.heap.size A l) := hw
  clear hw
  cases hv : validB l with
  | false =>
    have HF := Lib.hid (stOk_bad s hv)
    go_enter Tryz.func14, Tryz.ntmps14
    go_wp2_with fail
    refine (nodesOf_bad _ _ _ _ HW.out hl hlc hcm hn hv).mono ?_
    rintro e w1 ⟨rfl, hb1⟩
    go_wp2_with fail
    refine (findState_bad _ _).mono ?_
    unfold bitsV bitCells
    rintro e w2 ⟨rfl, hb2⟩
    have B2 := hb1.trans (hb2.mono hb1.size)
    clear hb1 hb2
    go_wp2
    go_ret
    exact ⟨ret_bool HF.out.symm, B2.alloc B2.size _⟩
  | true =>
    have HV := Lib.hid hv
    clear hv
    go_enter Tryz.func14, Tryz.ntmps14
    go_wp2_with fail
    refine (nodesOf_any _ _ _ _ HW.out hl hlc hcm hn HV.out).mono ?_
    rintro e w1 ⟨g, nb, cv, rfl, hN, hb1⟩
    have HN := Lib.hid hN
    clear hN
    go_wp2_with fail
    refine (findState_any _ _ _ _ _ _ _ HN.out HV.out).mono ?_
    unfold bitsV bitCells
    rintro e w2 ⟨rfl, hb2⟩
    have B2 := hb1.trans (hb2.mono hb1.size)
    clear hb1 hb2
    go_wp2
    go_ret
    exact ⟨rfl, B2.alloc B2.size _⟩

end Go.Proofs.YtbmfbnlmdjnddaaGreat
/- impl.nodesNamed, sizesTogether, CostOf, LoadCost. -/
namespace Go.Proofs.YtbmfbnlmdjnddaaGreat
open Go.RowKit Go.Shelf

/-- The nodes that are named, in a row of the call's own. -/
def NamedPost (w : World) (l : List Seg) (nb : Nat → Nat) (s : ByteArray) (e : Ending) (w' : World) : Prop :=
  ∃ v, e = .returned (.tuple #[v, .bool true]) ∧ w'.ownsRow w.heap.size 89 1 v (namedJs l s.data.toList).length (ptrsOf nb (namedJs l s.data.toList)) ∧ Below w.heap.size w w'

set_option maxRecDepth 100000 in
set_option maxHeartbeats 400000 in
theorem nodesNamed_bad (s : ByteArray) (w : World) (hs : s.size ≤ 1048576) :
    Calls Tryz.prog 63 #[.slice none 0 0, .string s] w fun e w' => e = .returned (.tuple #[.slice none 0 0, .bool (decide (s.size = 0))]) ∧ w = w' := by
  by_cases h0 : s.size = 0
  · have HD : Hid (decide (s.size = 0) = true) := decide_eq_true h0
    go_enter Tryz.func63, Tryz.ntmps63
    go_wp2
    go_loop [6, 11] (fun v i => v = .slice none 0 0 ∧ i = .int .i64 0) (fun _ _ => 0)
    case atStart => exact ⟨rfl, rfl⟩
    case round =>
      obtain ⟨rfl, rfl⟩ := hrel
      go_wp2
      refine bodyPost_ret (v := .tuple #[.slice none 0 0, .bool true]) (by simp [results, Tryz.results63, go_sem]) rfl ?_
      exact ⟨rfl, rfl⟩
  · have HD : Hid (decide (s.size = 0) = false) := decide_eq_false h0
    have hp : 0 < s.size := by omega
    clear h0
    go_enter Tryz.func63, Tryz.ntmps63
    go_wp2
    go_loop [6, 11] (fun v i => v = .slice none 0 0 ∧ i = .int .i64 0) (fun _ _ => 0)
    case atStart => exact ⟨rfl, rfl⟩
    case round =>
      obtain ⟨rfl, rfl⟩ := hrel
      go_wp2_with fail
      refine (findNode_nil _ _).mono ?_
      rintro e w1 ⟨rfl, rfl⟩
      go_wp2
      refine bodyPost_ret (v := .tuple #[.slice none 0 0, .bool false]) (by simp [results, Tryz.results63, go_sem]) rfl ?_
      exact ⟨by rw [HD.out], rfl⟩

theorem found_byte {l : List Seg} {nb : Nat → Nat} {b : UInt8} (h : 0 ≤ bSeek l b) : foundPtr l nb ⟨#[b]⟩ = some ⟨nb (bSeek l b).toNat, 0, none⟩ := if_neg (by unfold bSeek at h; omega)
theorem found_none {l : List Seg} {nb : Nat → Nat} {b : UInt8} (h : bSeek l b < 0) : foundPtr l nb ⟨#[b]⟩ = none := if_pos h

def NamedEither (w : World) (l : List Seg) (nb : Nat → Nat) (s : ByteArray) (e : Ending) (w' : World) : Prop :=
  (namedOk l s.data.toList = true ∧ NamedPost w l nb s e w') ∨ (namedOk l s.data.toList = false ∧ e = .returned (.tuple #[.slice none 0 0, .bool false]) ∧ Below w.heap.size w w')

set_option maxRecDepth 100000 in
set_option maxHeartbeats 1000000 in
theorem nodesNamed_any (B g : Nat) (l : List Seg) (nb : Nat → Nat) (cv : Nat → Value) (s : ByteArray) (w : World) (h : Nodes w B g l.length l.length l nb cv) (hv : validB l = true) (hs : s.size ≤ 1048576) :
    Calls Tryz.prog 63 #[.slice (some ⟨g, 0, none⟩) l.length l.length, .string s] w (NamedEither w l nb s) := by
  have h8 := (valid_all hv).2.1
  have HN := Lib.hid h
  obtain ⟨i0, hi0, hz0, hz1, hz2⟩ := info_parts info_ptr
  have I0 := Lib.hid hi0
  have Z0 := Lib.hid hz0
  have Z1 := Lib.hid hz1
  have Z2 := Lib.hid hz2
  clear hi0 hz0 hz1 hz2 h hv
  go_enter Tryz.func63, Tryz.ntmps63
  go_wp2
  go_loopw [6, 11] (fun v i wr => ∃ k : Nat, k ≤ s.size ∧ i = .int .i64 k ∧ Hid (namedOk l (s.data.toList.take k) = true) ∧ Hid (wr.ownsRow w.heap.size 89 1 v (namedJs l (s.data.toList.take k)).length (ptrsOf nb (namedJs l (s.data.toList.take k)))) ∧ Hid (Below w.heap.size w wr) ∧ ∃ a n c, v = .slice a n c)
    (fun _ i _ => s.size - (intOf i).toNat)
  case atStart => exact ⟨0, Nat.zero_le _, rfl, rfl, World.ownsRow_nil _ _ _ _, Below.refl _ _, _, _, _, rfl⟩
  case round =>
    obtain ⟨k, hk, rfl, HK, HO, HB, a, n, c, rfl⟩ := hrel
    have hk0 : (0 : Int) ≤ (k : Int) := Int.natCast_nonneg _
    by_cases hlt : k < s.size
    · have hlt' : (k : Int) < (s.size : Int) := by omega
      have h1 : (k : Int) + 1 ≤ (s.size : Int) := by omega
      obtain ⟨t1, t2⟩ := named_take (l := l) s hlt
      have HM : Hid (s[k] ∈ s.data.toList) := by
        show s.data.toList[k]'(by simpa using hlt) ∈ _
        exact List.getElem_mem _
      have HX := Lib.hid (one_byte s hlt)
      have HT1 := Lib.hid t1
      have HT2 := Lib.hid t2
      have hbd := bSeek_bd l s[k]
      clear t1 t2
      generalize s[k] = b at *
      have HNk := Lib.hid (HN.out.below HB.out)
      go_wp2_with fail
      refine (findNode_any _ _ _ _ _ _ _ HNk.out (by omega)).mono ?_
      rw [HX.out]
      rcases hbd with hbd | ⟨hb0, hb1⟩
      · have HF : Hid (namedOk l s.data.toList = false) := namedOk_bad HM.out (by omega)
        rw [found_none (by omega)]
        rintro e w1 ⟨rfl, rfl⟩
        clear hbd
        go_wp2
        refine bodyPost_ret (v := .tuple #[.slice none 0 0, .bool false]) (by simp [results, Tryz.results63, go_sem]) rfl ?_
        exact .inr ⟨HF.out, rfl, HB.out⟩
      · rw [found_byte hb0]
        rintro e w1 ⟨rfl, rfl⟩
        have hlen : (namedJs l (s.data.toList.take k)).length = k := by
          unfold namedJs
          rw [List.length_map, List.length_take]
          simp
          omega
        have HK1 : Hid (namedOk l (s.data.toList.take (k + 1)) = true) := by
          show _ = _
          rw [HT1.out, HK.out, decide_eq_true hb0]
          rfl
        generalize (bSeek l b).toNat = j at *
        clear hb0 hb1
        have HJ : Hid (ptrsOf nb (namedJs l (s.data.toList.take (k + 1))) = ptrsOf nb (namedJs l (s.data.toList.take k)) ++ [.pointer (some ⟨nb j, 0, none⟩)] ∧ (namedJs l (s.data.toList.take (k + 1))).length = (namedJs l (s.data.toList.take k)).length + 1) := by
          rw [HT2.out]
          exact ⟨by simp [ptrsOf, ptrTo], by simp⟩
        have hHO := HO.out
        rw [hlen] at hHO
        have HO2 := Lib.hid (hHO.alloc (.cells #[.pointer (some ⟨nb j, 0, none⟩)] 89))
        clear hHO
        have hbz := HB.out.size
        go_wp2_with (at_builtin; refine wpList_append_own_at _ rfl _ _ 62 rfl w.heap.size 89 i0 (.pointer none) 1 8 Tryz.underlying62 I0.out Z0.out Z1.out Z2.out rfl (by decide) _ _ _ rfl HO2.out ⟨wr.heap.size, 0, none⟩ 1 1 [.pointer (some ⟨nb j, 0, none⟩)] rfl rfl (cell_one_new _ _ _) (by simp [Value.oneCell']) (by unfold maxLen; omega) (by omega) (by simp; omega) ?_; intro v4 w4 hown4 hgrow _ _)
        have HB4 : Hid (Below w.heap.size w w4) := (HB.out.alloc hbz _).grown hgrow (by simp; omega) (fun q hq => (World.ownsRow.lt HO2.out q hq).1)
        have HO4 : Hid (w4.ownsRow w.heap.size 89 1 v4 (namedJs l (s.data.toList.take (k + 1))).length (ptrsOf nb (namedJs l (s.data.toList.take (k + 1))))) := by
          show World.ownsRow _ _ _ _ _ _ _
          rw [HJ.out.1, HJ.out.2, hlen]
          exact hown4
        have HV : ∃ a n c, v4 = .slice a n c := by
          obtain ⟨q, cap, rfl⟩ := own_form hown4 (by omega)
          exact ⟨_, _, _, rfl⟩
        clear hown4 hgrow
        go_roundw
        case rel => exact ⟨k + 1, by omega, by go_num, HK1, HO4, HB4, HV⟩
        case measure => simp [intOf]; omega
    · obtain rfl : k = s.size := by omega
      have e : s.data.toList.take s.size = s.data.toList := List.take_of_length_le (by simp)
      rw [e] at HK HO
      go_wp2
      refine bodyPost_ret (v := .tuple #[.slice a n c, .bool true]) (by simp [results, Tryz.results63, go_sem]) rfl ?_
      exact .inl ⟨HK.out, _, rfl, HO.out, HB.out⟩

end Go.Proofs.YtbmfbnlmdjnddaaGreat

/- impl.needsFor: what is to be met, as functions. -/
namespace Go.Proofs.YtbmfbnlmdjnddaaGreat
open Go.RowKit Go.Shelf

end Go.Proofs.YtbmfbnlmdjnddaaGreat
