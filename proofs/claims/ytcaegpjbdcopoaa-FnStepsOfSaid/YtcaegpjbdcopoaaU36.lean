/- Joined: Yz Yu. -/
import Derived.Test.YtcaegpjbdcopoaaU35
import Derived.Test.YtcaegpjbdcopoaaU14
/- Steps compared; marks in steps: what a law writes into what it was given, and whether it is held. -/
namespace Go.Proofs.Ytcaegpjbdcopoaa
open Go.RowKit

theorem stpCells_cons (x : Stp) (ss : List Stp) : stpCells (x :: ss) = .string x.nm :: .string x.ld :: .string x.st :: stpCells ss := rfl
theorem stpCells_nm : ∀ (ss : List Stp) (i : Nat) (s : Stp) (x : ByteArray), ss[i]? = some s → stpCells (ss.set i ⟨x, s.ld, s.st⟩) = (stpCells ss).set (i * 3) (.string x)
  | [], _, _, _, h => by cases h
  | y :: ss, 0, s, x, h => by
    obtain rfl : y = s := by injection h
    rfl
  | y :: ss, i + 1, s, x, h => by
    rw [List.getElem?_cons_succ] at h
    rw [List.set_cons_succ, stpCells_cons, stpCells_cons, stpCells_nm ss i s x h, show (i + 1) * 3 = i * 3 + 3 by omega]
    rfl
theorem stpCells_ld : ∀ (ss : List Stp) (i : Nat) (s : Stp) (x : ByteArray), ss[i]? = some s → stpCells (ss.set i ⟨s.nm, x, s.st⟩) = (stpCells ss).set (i * 3 + 1) (.string x)
  | [], _, _, _, h => by cases h
  | y :: ss, 0, s, x, h => by
    obtain rfl : y = s := by injection h
    rfl
  | y :: ss, i + 1, s, x, h => by
    rw [List.getElem?_cons_succ] at h
    rw [List.set_cons_succ, stpCells_cons, stpCells_cons, stpCells_ld ss i s x h, show (i + 1) * 3 + 1 = i * 3 + 1 + 3 by omega]
    rfl
theorem stpCells_st : ∀ (ss : List Stp) (i : Nat) (s : Stp) (x : ByteArray), ss[i]? = some s → stpCells (ss.set i ⟨s.nm, s.ld, x⟩) = (stpCells ss).set (i * 3 + 2) (.string x)
  | [], _, _, _, h => by cases h
  | y :: ss, 0, s, x, h => by
    obtain rfl : y = s := by injection h
    rfl
  | y :: ss, i + 1, s, x, h => by
    rw [List.getElem?_cons_succ] at h
    rw [List.set_cons_succ, stpCells_cons, stpCells_cons, stpCells_st ss i s x h, show (i + 1) * 3 + 2 = i * 3 + 2 + 3 by omega]
    rfl
theorem OwnSs.put {w : World} {B g n cap : Nat} {ss ss' : List Stp} (h : OwnSs w B (.slice (some ⟨g, 0, none⟩) n cap) ss) (j : Nat) (u : Value) (hl : ss'.length = ss.length) (hc : stpCells ss' = (stpCells ss).set j u) : OwnSs (w.setCell ⟨g, j, none⟩ u) B (.slice (some ⟨g, 0, none⟩) n cap) ss' := by
  unfold OwnSs at h ⊢
  refine ⟨by rw [stpCells_len], ?_⟩
  rcases h.2 with ⟨h0, _⟩ | ⟨g', cap', cur, hv, hg, hh, h1, h2, h3, h4⟩
  · cases h0
  · injection hv with hv1 hv2 hv3
    injection hv1 with hv1
    injection hv1 with hv1
    subst hv1 hv3
    have hr : Row w g 35 cur := hh
    refine .inr ⟨g, cap, _, by rw [hl, hv2], hg, hr.put j _, by omega, h2, by simpa using h3, ?_⟩
    rw [hc, ← h4, hl]
    simp only [Array.toList_setIfInBounds, List.take_set]
theorem OwnSs.cells {w : World} {B g n cap : Nat} {ss : List Stp} (h : OwnSs w B (.slice (some ⟨g, 0, none⟩) n cap) ss) {i : Nat} {s : Stp} (hi : ss[i]? = some s) :
    (w.cell? ⟨g, i * 3, none⟩ = some (.string s.nm) ∧ w.cell? ⟨g, i * 3 + 1, none⟩ = some (.string s.ld) ∧ w.cell? ⟨g, i * 3 + 2, none⟩ = some (.string s.st)) ∧ ∀ j, w.frozen? ⟨g, j, none⟩ = false := by
  rcases h.2 with ⟨h0, _⟩ | ⟨g', cap', cur, hv, hg, hh, h1, h2, h3, h4⟩
  · cases h0
  · have hv' := hv
    injection hv with hv1 hv2 hv3
    injection hv1 with hv1
    injection hv1 with hv1
    subst hv1
    have hlt := (List.getElem?_eq_some_iff.1 hi).1
    obtain ⟨a, b, c⟩ := stpCells_at hi
    have hown : w.ownsRow B 35 3 (.slice (some ⟨g, 0, none⟩) ss.length cap) ss.length (stpCells ss) := by
      have := h
      unfold OwnSs at this
      rw [hv2] at this
      exact this
    have ha : ∀ j, j < ss.length * 3 → w.cell? ⟨g, j, none⟩ = (stpCells ss)[j]? := fun j hj => World.ownsRow.cellAt hown j (by omega)
    exact ⟨⟨(ha _ (by omega)).trans a, (ha _ (by omega)).trans b, (ha _ (by omega)).trans c⟩, fun j => Row.free (hh : Row w g _ cur) j⟩
/-- A slice of steps in memory below 'B'. -/
def Stps (w : World) (B : Nat) (A : Option Addr) (ss : List Stp) : Prop :=
  0 < ss.length → ∃ b o, A = some ⟨b, o, none⟩ ∧ b < B ∧ ∀ (k : Nat) (s : Stp), ss[k]? = some s → w.cell? ⟨b, o + k * 3, none⟩ = some (.string s.nm) ∧ w.cell? ⟨b, o + k * 3 + 1, none⟩ = some (.string s.ld) ∧ w.cell? ⟨b, o + k * 3 + 2, none⟩ = some (.string s.st)
theorem Stps.below {w w' : World} {B : Nat} {A : Option Addr} {ss : List Stp} (h : Stps w B A ss) (hb : Below B w w') : Stps w' B A ss := fun hl => by
  obtain ⟨b, o, e, hB, hc⟩ := h hl
  refine ⟨b, o, e, hB, fun k s hk => ?_⟩
  rw [hb.cell hB, hb.cell hB, hb.cell hB]
  exact hc k s hk
theorem Stps.more {w : World} {B B' : Nat} {A : Option Addr} {ss : List Stp} (h : Stps w B A ss) (hB : B ≤ B') : Stps w B' A ss := fun hl => by
  obtain ⟨b, o, e, hb, hc⟩ := h hl
  exact ⟨b, o, e, Nat.lt_of_lt_of_le hb hB, hc⟩
theorem ssForm {w : World} {B : Nat} {v : Value} {ss : List Stp} (h : OwnSs w B v ss) : ∃ A cap, v = .slice A ss.length cap ∧ Stps w w.heap.size A ss := by
  rcases h.2 with ⟨rfl, h0⟩ | ⟨g, cap, cur, rfl, hg, hh, r⟩
  · exact ⟨none, 0, by rw [h0], fun h => absurd h (by omega)⟩
  · refine ⟨_, cap, rfl, fun _ => ⟨g, 0, rfl, (Array.getElem?_eq_some_iff.1 hh).1, fun k s hk => ?_⟩⟩
    rw [Nat.zero_add]
    exact (OwnSs.cells h hk).1
theorem ssOf {w : World} {B n cap : Nat} {A : Option Addr} {ss : List Stp} (h : OwnSs w B (.slice A n cap) ss) : Stps w w.heap.size A ss := by
  obtain ⟨A', cap', e, h'⟩ := ssForm h
  injection e with e1 e2 e3
  rw [e1]
  exact h'
theorem ssFar {w w' : World} {B : Nat} {v : Value} {ss : List Stp} {may : Nat → Prop} (h : OwnSs w B v ss) (ho : Only w w' may) (hm : ∀ g, v.ownBlock = some g → ¬ may g) : OwnSs w' B v ss :=
  h.far fun g hg => ho.block g (World.ownsRow.lt h g hg).2 (hm g hg)
theorem OwnSteps.ss {w : World} {B g n c : Nat} {ss : List Stp} (h : OwnSteps w B g n c ss) : OwnSs w B (.slice (some ⟨g, 0, none⟩) ss.length c) ss := by
  obtain ⟨rfl, h⟩ := h
  exact h

set_option maxRecDepth 100000 in
set_option maxHeartbeats 400000 in
theorem eqStep_same (s a b : ByteArray) (w : World) :
    Calls Try.prog 55 #[.agg #[.string s, .string a, .string b], .agg #[.string s, .string a, .string b]] w fun e w' => e = .returned (.bool true) ∧ Below w.heap.size w w' := by
  go_enter Try.func55, Try.ntmps55
  go_wp2
  go_ret
  refine ⟨rfl, ?_⟩
  repeat (first | exact Below.refl _ _ | refine Below.setCell ?_ (by simp) _ | refine Below.alloc ?_ (by simp; try omega) _)

set_option maxRecDepth 100000 in
set_option maxHeartbeats 400000 in
theorem eqStepS_same (A A' : Option Addr) (l : List Stp) (c c' : Nat) (w : World) (hw : Stps w w.heap.size A l) (hw' : Stps w w.heap.size A' l) (hl : l.length ≤ 1048576) :
    Calls Try.prog 23 #[.slice A l.length c, .slice A' l.length c'] w fun e w' => e = .returned (.bool true) ∧ Below w.heap.size w w' := by
  have HW : Hid (Stps w w.heap.size A l) := hw
  have HW' : Hid (Stps w w.heap.size A' l) := hw'
  clear hw hw'
  go_enter Try.func23, Try.ntmps23
  go_wp2
  go_loopw [5] (fun i wr => ∃ (k : Nat), k ≤ l.length ∧ i = .int .i64 k ∧ Below w.heap.size w wr)
    (fun i _ => l.length - (intOf i).toNat)
  case atStart => exact ⟨0, Nat.zero_le _, rfl, Below.refl _ _⟩
  case round =>
    obtain ⟨k, hk, rfl, hb⟩ := hrel
    by_cases hlt : k < l.length
    · obtain ⟨b, o, rfl, hB, hc⟩ := HW.out (by omega)
      obtain ⟨b', o', rfl, hB', hc'⟩ := HW'.out (by omega)
      obtain ⟨c0, c1, c2⟩ := hc k l[k] (List.getElem?_eq_getElem hlt)
      obtain ⟨d0, d1, d2⟩ := hc' k l[k] (List.getElem?_eq_getElem hlt)
      clear hc hc'
      rw [← hb.cell hB] at c0 c1 c2
      rw [← hb.cell hB'] at d0 d1 d2
      generalize l[k] = s at *
      go_wp2_with fail
      go_still_tail 8, (by kernel_rfl)
      change wpList _ _ _ _ _ wr.drew
      go_wp2_with fail
      refine (eqStep_same s.nm s.ld s.st _).mono ?_
      rintro e w1 ⟨rfl, hb1⟩
      have hb2 : Below w.heap.size w w1 := hb.drew.trans (hb1.mono hb.drew.size)
      clear hb1
      go_wp2
      go_roundw
      case rel => exact ⟨k + 1, by omega, by go_num, hb2⟩
      case measure => simp [intOf]; omega
    · go_wp2
      go_ret
      exact ⟨rfl, hb⟩

/-- The marks of the step at 'j'. -/
def smarkAt (k j : Nat) : Stp := ⟨St.mt (k + 3 * j), St.mt (k + 3 * j + 1), St.mt (k + 3 * j + 2)⟩
/-- The first 'i' are marked. -/
def stmarked (l : List Stp) (k : Nat) : Nat → List Stp
  | 0 => l
  | i + 1 => (stmarked l k i).set i (smarkAt k i)
theorem stmarked_len (l : List Stp) (k : Nat) : ∀ i, (stmarked l k i).length = l.length
  | 0 => rfl
  | i + 1 => by
    show ((stmarked l k i).set i _).length = _
    rw [List.length_set, stmarked_len l k i]
theorem stmarked_at (l : List Stp) (k : Nat) : ∀ i j, j < i → i ≤ l.length → (stmarked l k i)[j]? = some (smarkAt k j)
  | 0, _, h, _ => absurd h (by omega)
  | i + 1, j, h, hi => by
    show ((stmarked l k i).set i _)[j]? = _
    by_cases hj : j = i
    · subst hj
      rw [List.getElem?_set_self (by rw [stmarked_len]; omega)]
    · rw [List.getElem?_set_ne (by omega)]
      exact stmarked_at l k i j (by omega) (by omega)

set_option maxRecDepth 100000 in
set_option maxHeartbeats 4000000 in
theorem markStepS_any (B k : Nat) (v : Value) (l : List Stp) (w : World) (hown : OwnSs w B v l) (hk : k = 1) (hl : l.length ≤ 1000) :
    Calls Try.prog 26 #[v, .int .i64 k] w fun e w' => e = .returned (.int .i64 ((k + 3 * l.length : Nat) : Int)) ∧ OwnSs w' B v (stmarked l k l.length) ∧ Only w w' (fun b => v.ownBlock = some b) := by
  have h0k : 0 < k := by omega
  have hk9 : k ≤ 10 := by omega
  clear hk
  obtain ⟨A, cap, rfl, -⟩ := ssForm hown
  have HO := Lib.hid hown
  clear hown
  go_enter Try.func26, Try.ntmps26
  go_wp2
  go_loopw [1, 5] (fun a c wr => ∃ (i : Nat), i ≤ l.length ∧ c = .int .i64 i ∧ a = .int .i64 ((k + 3 * i : Nat) : Int) ∧ Hid (OwnSs wr B (.slice A l.length cap) (stmarked l k i)) ∧ Hid (Only w wr (fun b => (Value.slice A l.length cap).ownBlock = some b)))
    (fun _ c _ => l.length - (intOf c).toNat)
  case atStart => exact ⟨0, Nat.zero_le _, rfl, rfl, HO, St.onlyRefl _ _⟩
  case round =>
    obtain ⟨i, hi, rfl, rfl, HT, HY⟩ := hrel
    by_cases hlt : i < l.length
    · have hlt' : (i : Int) < (l.length : Int) := by omega
      have hi0 : (0 : Int) ≤ (i : Int) := Int.natCast_nonneg _
      have hml := stmarked_len l k i
      obtain ⟨g, hA⟩ : ∃ g, A = some ⟨g, 0, none⟩ := by
        rcases HT.out.2 with ⟨h0, h1⟩ | ⟨g', cap', cur, hv, _⟩
        · rw [hml] at h1; omega
        · injection hv with h1
          exact ⟨g', h1⟩
      subst hA
      have hold : (stmarked l k i)[i]? = some ((stmarked l k i)[i]'(by omega)) := List.getElem?_eq_getElem (by omega)
      have hnx : stmarked l k (i + 1) = (stmarked l k i).set i (smarkAt k i) := rfl
      have HNX : Hid (stmarked l k (i + 1) = (((stmarked l k i).set i ⟨St.mt (k + 3 * i), ((stmarked l k i)[i]'(by omega)).ld, ((stmarked l k i)[i]'(by omega)).st⟩).set i ⟨St.mt (k + 3 * i), St.mt (k + 3 * i + 1), ((stmarked l k i)[i]'(by omega)).st⟩).set i ⟨St.mt (k + 3 * i), St.mt (k + 3 * i + 1), St.mt (k + 3 * i + 2)⟩) := by
        show _ = _
        rw [hnx, List.set_set, List.set_set]
        rfl
      have HM0 := Lib.hid (fun W => St.markText_any (k + 3 * i) W (by omega) (by omega))
      have HM1 : Hid (∀ W, Calls Try.prog 57 #[.int .i64 ((k : Int) + 3 * (i : Int) + 1)] W fun e w' => e = .returned (.string (St.mt (k + 3 * i + 1))) ∧ Below W.heap.size W w') := fun W => by
        have := St.markText_any (k + 3 * i + 1) W (by omega) (by omega)
        rwa [show ((k + 3 * i + 1 : Nat) : Int) = (k : Int) + 3 * (i : Int) + 1 by omega] at this
      have HM2 : Hid (∀ W, Calls Try.prog 57 #[.int .i64 ((k : Int) + 3 * (i : Int) + 1 + 1)] W fun e w' => e = .returned (.string (St.mt (k + 3 * i + 2))) ∧ Below W.heap.size W w') := fun W => by
        have := St.markText_any (k + 3 * i + 2) W (by omega) (by omega)
        rwa [show ((k + 3 * i + 2 : Nat) : Int) = (k : Int) + 3 * (i : Int) + 1 + 1 by omega] at this
      generalize (stmarked l k i)[i]'_ = old at *
      generalize hmk : stmarked l k (i + 1) = R3 at *
      generalize stmarked l k i = R0 at *
      generalize St.mt (k + 3 * i) = m0 at *
      generalize St.mt (k + 3 * i + 1) = m1 at *
      generalize St.mt (k + 3 * i + 2) = m2 at *
      have HMK := Lib.hid hmk
      have HOLD := Lib.hid hold
      have hi0' : i < R0.length := by omega
      have HR1 : Hid ((R0.set i ⟨m0, old.ld, old.st⟩)[i]? = some ⟨m0, old.ld, old.st⟩) := List.getElem?_set_self hi0'
      have HR2 : Hid (((R0.set i ⟨m0, old.ld, old.st⟩).set i ⟨m0, m1, old.st⟩)[i]? = some ⟨m0, m1, old.st⟩) := List.getElem?_set_self (by rw [List.length_set]; exact hi0')
      clear hold hnx hmk hml
      go_wp2_with fail
      refine (HM0.out _).mono ?_
      rintro e w1 ⟨rfl, hb1⟩
      have hT1 := HT.out.below hb1
      obtain ⟨⟨d0, d1, d2⟩, z⟩ := hT1.cells HOLD.out
      have z0 := z (i * 3)
      have HT1 := Lib.hid (OwnSs.put hT1 (i * 3) (.string m0) (by rw [List.length_set]) (stpCells_nm R0 i old m0 HOLD.out))
      have HY1 := Lib.hid (St.onlyPut (St.onlyBelow HY.out hb1) (b := g) rfl (i * 3) (.string m0))
      clear hT1 z hb1 HT HY d1 d2
      go_wp2_with fail
      generalize w1.setCell ⟨g, i * 3, none⟩ (.string m0) = W1 at *
      refine (HM1.out _).mono ?_
      rintro e w2 ⟨rfl, hb2⟩
      have hT2 := HT1.out.below hb2
      obtain ⟨⟨f0, f1, f2⟩, y⟩ := hT2.cells HR1.out
      have y1 := y (i * 3 + 1)
      have HT2 := Lib.hid (OwnSs.put hT2 (i * 3 + 1) (.string m1) (by rw [List.length_set]) (stpCells_ld _ i _ m1 HR1.out))
      have HY2 := Lib.hid (St.onlyPut (St.onlyBelow HY1.out hb2) (b := g) rfl (i * 3 + 1) (.string m1))
      clear hT2 y hb2 HT1 HY1 f0 f2 d0 z0
      go_wp2_with fail
      generalize w2.setCell ⟨g, i * 3 + 1, none⟩ (.string m1) = W2 at *
      refine (HM2.out _).mono ?_
      rintro e w3 ⟨rfl, hb3⟩
      have hT3 := HT2.out.below hb3
      obtain ⟨⟨x0, x1, x2⟩, t⟩ := hT3.cells HR2.out
      have t2 := t (i * 3 + 2)
      have HT3 := Lib.hid (OwnSs.put hT3 (i * 3 + 2) (.string m2) (by rw [List.length_set]) (stpCells_st _ i _ m2 HR2.out))
      have HY3 := Lib.hid (St.onlyPut (St.onlyBelow HY2.out hb3) (b := g) rfl (i * 3 + 2) (.string m2))
      clear hT3 t hb3 HT2 HY2 x0 x1 f1 y1
      rw [← HNX.out] at HT3
      go_wp2
      go_roundw
      case rel => exact ⟨i + 1, by omega, by go_num, congrArg (Value.int .i64) (by omega), by rw [HMK.out]; exact HT3, HY3⟩
      case measure => simp [intOf]; omega
    · obtain rfl : i = l.length := by omega
      go_wp2
      go_ret
      exact ⟨rfl, HT.out, HY.out⟩

set_option maxRecDepth 100000 in
set_option maxHeartbeats 4000000 in
theorem heldStepS_any (k : Nat) (A : Option Addr) (cap : Nat) (l : List Stp) (w : World) (hw : Stps w w.heap.size A l) (hm : ∀ j, j < l.length → l[j]? = some (smarkAt k j)) (hk : k = 1) (hl : l.length ≤ 1000) :
    Calls Try.prog 27 #[.slice A l.length cap, .int .i64 k] w fun e w' => e = .returned (.int .i64 ((k + 3 * l.length : Nat) : Int)) ∧ Below w.heap.size w w' := by
  have h0k : 0 < k := by omega
  have hk9 : k ≤ 10 := by omega
  clear hk
  have HW : Hid (Stps w w.heap.size A l) := hw
  have HM := Lib.hid hm
  clear hw hm
  go_enter Try.func27, Try.ntmps27
  go_wp2
  go_loopw [1, 5] (fun a c wr => ∃ (i : Nat), i ≤ l.length ∧ c = .int .i64 i ∧ a = .int .i64 ((k + 3 * i : Nat) : Int) ∧ Below w.heap.size w wr)
    (fun _ c _ => l.length - (intOf c).toNat)
  case atStart => exact ⟨0, Nat.zero_le _, rfl, rfl, Below.refl _ _⟩
  case round =>
    obtain ⟨i, hi, rfl, rfl, hb⟩ := hrel
    by_cases hlt : i < l.length
    · have hlt' : (i : Int) < (l.length : Int) := by omega
      have hi0 : (0 : Int) ≤ (i : Int) := Int.natCast_nonneg _
      obtain ⟨b, o, rfl, hB, hc⟩ := HW.out (by omega)
      obtain ⟨c0, c1, c2⟩ := hc i _ (HM.out i hlt)
      clear hc
      rw [← hb.cell hB] at c0 c1 c2
      have HE0 : Hid (wr.cell? ⟨b, o + i * 3, none⟩ = some (.string (St.mt (k + 3 * i)))) := c0
      have HE1 : Hid (wr.cell? ⟨b, o + i * 3 + 1, none⟩ = some (.string (St.mt (k + 3 * i + 1)))) := c1
      have HE2 : Hid (wr.cell? ⟨b, o + i * 3 + 2, none⟩ = some (.string (St.mt (k + 3 * i + 2)))) := c2
      have hBr : b < wr.heap.size := Nat.lt_of_lt_of_le hB hb.size
      have HB0 := Lib.hid hb
      clear c0 c1 c2 hb
      have HMT0 := Lib.hid (fun W => St.markText_any (k + 3 * i) W (by omega) (by omega))
      have HMT1 : Hid (∀ W, Calls Try.prog 57 #[.int .i64 ((k : Int) + 3 * (i : Int) + 1)] W fun e w' => e = .returned (.string (St.mt (k + 3 * i + 1))) ∧ Below W.heap.size W w') := fun W => by
        have := St.markText_any (k + 3 * i + 1) W (by omega) (by omega)
        rwa [show ((k + 3 * i + 1 : Nat) : Int) = (k : Int) + 3 * (i : Int) + 1 by omega] at this
      have HMT2 : Hid (∀ W, Calls Try.prog 57 #[.int .i64 ((k : Int) + 3 * (i : Int) + 1 + 1)] W fun e w' => e = .returned (.string (St.mt (k + 3 * i + 2))) ∧ Below W.heap.size W w') := fun W => by
        have := St.markText_any (k + 3 * i + 2) W (by omega) (by omega)
        rwa [show ((k + 3 * i + 2 : Nat) : Int) = (k : Int) + 3 * (i : Int) + 1 + 1 by omega] at this
      generalize St.mt (k + 3 * i) = m0 at *
      generalize St.mt (k + 3 * i + 1) = m1 at *
      generalize St.mt (k + 3 * i + 2) = m2 at *
      go_wp2_with fail
      refine wp_region_held_drew (S := (fun w' => w'.cell? ⟨b, o + i * 3, none⟩ = some (.string m0) ∧ Below w.heap.size w w' ∧ Below wr.heap.size wr w')) (by kernel_rfl) ?_ (fun hHeld => ?_)
      · exact ⟨HE0.out, HB0.out.drew, (Below.refl _ _).drew⟩
      refine take_at (i := 0) (d := 12) (v := .slice (some ⟨b, o, none⟩) l.length cap) rfl rfl (by kernel_rfl) (by kernel_rfl) (by kernel_rfl) (fun _ _ _ h => h) (by kernel_rfl) (by (intro w hSw; (try dsimp only at hSw); go_simp)) (by assumption) ?_
      simp only [List.setIfInBounds_toArray, List.set_cons_succ, List.set_cons_zero]
      refine take_at (i := 1) (d := 13) (v := .int .i64 i) rfl rfl (by kernel_rfl) (by kernel_rfl) (by kernel_rfl) (fun _ _ _ h => h) (by kernel_rfl) (by (intro w hSw; (try dsimp only at hSw); go_simp)) (by assumption) ?_
      simp only [List.setIfInBounds_toArray, List.set_cons_succ, List.set_cons_zero]
      refine take_at (i := 2) (d := 14) (v := .pointer (some ⟨b, o + i * 3, none⟩)) rfl rfl (by kernel_rfl) (by kernel_rfl) (by kernel_rfl) (fun _ _ _ h => h) (by kernel_rfl) (by (intro w hSw; (try dsimp only at hSw); go_simp)) (by assumption) ?_
      simp only [List.setIfInBounds_toArray, List.set_cons_succ, List.set_cons_zero]
      refine take_at (i := 3) (d := 15) (v := .pointer (some ⟨b, o + i * 3, none⟩)) rfl rfl (by kernel_rfl) (by kernel_rfl) (by kernel_rfl) (fun _ _ _ h => h) (by kernel_rfl) (by (intro w hSw; (try dsimp only at hSw); go_simp)) (by assumption) ?_
      simp only [List.setIfInBounds_toArray, List.set_cons_succ, List.set_cons_zero]
      refine take_at (i := 4) (d := 16) (v := .string m0) rfl rfl (by kernel_rfl) (by kernel_rfl) (by kernel_rfl) (fun _ _ _ h => h) (by kernel_rfl) (by (intro w hSw; (try dsimp only at hSw); go_simp)) (by assumption) ?_
      simp only [List.setIfInBounds_toArray, List.set_cons_succ, List.set_cons_zero]
      refine take_at (i := 5) (d := 17) (v := .int .i64 ((k + 3 * i : Nat) : Int)) rfl rfl (by kernel_rfl) (by kernel_rfl) (by kernel_rfl) (fun _ _ _ h => h) (by kernel_rfl) (by (intro w hSw; (try dsimp only at hSw); go_simp)) (by assumption) ?_
      simp only [List.setIfInBounds_toArray, List.set_cons_succ, List.set_cons_zero]
      refine wpAnyH_ready (rs := [6]) (by kernel_rfl) (by simp) ?_
      refine AllReadyH.cons rfl (fun K hK => ?_) AllReadyH.nil
      go_simp
      refine (HMT0.out _).mono ?_
      rintro e w02 ⟨rfl, hb2⟩
      have hs2 : w02.cell? ⟨b, o + i * 3, none⟩ = some (.string m0) ∧ Below w.heap.size w w02 ∧ Below wr.heap.size wr w02 := ⟨(hb2.cell (p := ⟨b, o + i * 3, none⟩) (Nat.lt_of_lt_of_le hB hHeld.2.1.size)).trans hHeld.1, hHeld.2.1.trans (hb2.mono hHeld.2.1.size), hHeld.2.2.trans (hb2.mono hHeld.2.2.size)⟩
      clear hb2 hHeld
      refine hK.out _ _ hs2 (fun hHeld => ?_)
      clear hK K hs2
      refine take_at (i := 7) (d := 19) (v := .bool false) rfl rfl (by kernel_rfl) (by kernel_rfl) (by kernel_rfl) (fun _ _ _ h => h) (by kernel_rfl) (by (intro w hSw; (try dsimp only at hSw); go_simp)) (by assumption) ?_
      simp only [List.setIfInBounds_toArray, List.set_cons_succ, List.set_cons_zero]
      refine wpAnyH_done (by kernel_rfl) ?_ _
      have HBA0 : Hid (Below w.heap.size w w02) := hHeld.2.1
      have HBW0 : Hid (Below wr.heap.size wr w02) := hHeld.2.2
      clear hHeld
      go_wp2_with fail
      refine wp_region_held_drew (S := (fun w' => w'.cell? ⟨b, o + i * 3 + 1, none⟩ = some (.string m1) ∧ Below w.heap.size w w' ∧ Below wr.heap.size wr w')) (by kernel_rfl) ?_ (fun hHeld => ?_)
      · exact ⟨(HBW0.out.drew.cell (p := ⟨b, o + i * 3 + 1, none⟩) hBr).trans HE1.out, HBA0.out.drew, HBW0.out.drew⟩
      refine take_at (i := 0) (d := 22) (v := .slice (some ⟨b, o, none⟩) l.length cap) rfl rfl (by kernel_rfl) (by kernel_rfl) (by kernel_rfl) (fun _ _ _ h => h) (by kernel_rfl) (by (intro w hSw; (try dsimp only at hSw); go_simp)) (by assumption) ?_
      simp only [List.setIfInBounds_toArray, List.set_cons_succ, List.set_cons_zero]
      refine take_at (i := 1) (d := 23) (v := .int .i64 i) rfl rfl (by kernel_rfl) (by kernel_rfl) (by kernel_rfl) (fun _ _ _ h => h) (by kernel_rfl) (by (intro w hSw; (try dsimp only at hSw); go_simp)) (by assumption) ?_
      simp only [List.setIfInBounds_toArray, List.set_cons_succ, List.set_cons_zero]
      refine take_at (i := 2) (d := 24) (v := .pointer (some ⟨b, o + i * 3, none⟩)) rfl rfl (by kernel_rfl) (by kernel_rfl) (by kernel_rfl) (fun _ _ _ h => h) (by kernel_rfl) (by (intro w hSw; (try dsimp only at hSw); go_simp)) (by assumption) ?_
      simp only [List.setIfInBounds_toArray, List.set_cons_succ, List.set_cons_zero]
      refine take_at (i := 3) (d := 25) (v := .pointer (some ⟨b, o + i * 3 + 1, none⟩)) rfl rfl (by kernel_rfl) (by kernel_rfl) (by kernel_rfl) (fun _ _ _ h => h) (by kernel_rfl) (by (intro w hSw; (try dsimp only at hSw); go_simp)) (by assumption) ?_
      simp only [List.setIfInBounds_toArray, List.set_cons_succ, List.set_cons_zero]
      refine take_at (i := 4) (d := 26) (v := .string m1) rfl rfl (by kernel_rfl) (by kernel_rfl) (by kernel_rfl) (fun _ _ _ h => h) (by kernel_rfl) (by (intro w hSw; (try dsimp only at hSw); go_simp)) (by assumption) ?_
      simp only [List.setIfInBounds_toArray, List.set_cons_succ, List.set_cons_zero]
      refine take_at (i := 5) (d := 27) (v := .int .i64 ((k : Int) + 3 * (i : Int) + 1)) rfl rfl (by kernel_rfl) (by kernel_rfl) (by kernel_rfl) (fun _ _ _ h => h) (by kernel_rfl) (by (intro w hSw; (try dsimp only at hSw); go_simp)) (by assumption) ?_
      simp only [List.setIfInBounds_toArray, List.set_cons_succ, List.set_cons_zero]
      refine wpAnyH_ready (rs := [6]) (by kernel_rfl) (by simp) ?_
      refine AllReadyH.cons rfl (fun K hK => ?_) AllReadyH.nil
      go_simp
      refine (HMT1.out _).mono ?_
      rintro e w12 ⟨rfl, hb2⟩
      have hs2 : w12.cell? ⟨b, o + i * 3 + 1, none⟩ = some (.string m1) ∧ Below w.heap.size w w12 ∧ Below wr.heap.size wr w12 := ⟨(hb2.cell (p := ⟨b, o + i * 3 + 1, none⟩) (Nat.lt_of_lt_of_le hB hHeld.2.1.size)).trans hHeld.1, hHeld.2.1.trans (hb2.mono hHeld.2.1.size), hHeld.2.2.trans (hb2.mono hHeld.2.2.size)⟩
      clear hb2 hHeld
      refine hK.out _ _ hs2 (fun hHeld => ?_)
      clear hK K hs2
      refine take_at (i := 7) (d := 29) (v := .bool false) rfl rfl (by kernel_rfl) (by kernel_rfl) (by kernel_rfl) (fun _ _ _ h => h) (by kernel_rfl) (by (intro w hSw; (try dsimp only at hSw); go_simp)) (by assumption) ?_
      simp only [List.setIfInBounds_toArray, List.set_cons_succ, List.set_cons_zero]
      refine wpAnyH_done (by kernel_rfl) ?_ _
      have HBA1 : Hid (Below w.heap.size w w12) := hHeld.2.1
      have HBW1 : Hid (Below wr.heap.size wr w12) := hHeld.2.2
      clear hHeld
      go_wp2_with fail
      refine wp_region_held_drew (S := (fun w' => w'.cell? ⟨b, o + i * 3 + 2, none⟩ = some (.string m2) ∧ Below w.heap.size w w' ∧ Below wr.heap.size wr w')) (by kernel_rfl) ?_ (fun hHeld => ?_)
      · exact ⟨(HBW1.out.drew.cell (p := ⟨b, o + i * 3 + 2, none⟩) hBr).trans HE2.out, HBA1.out.drew, HBW1.out.drew⟩
      refine take_at (i := 0) (d := 32) (v := .slice (some ⟨b, o, none⟩) l.length cap) rfl rfl (by kernel_rfl) (by kernel_rfl) (by kernel_rfl) (fun _ _ _ h => h) (by kernel_rfl) (by (intro w hSw; (try dsimp only at hSw); go_simp)) (by assumption) ?_
      simp only [List.setIfInBounds_toArray, List.set_cons_succ, List.set_cons_zero]
      refine take_at (i := 1) (d := 33) (v := .int .i64 i) rfl rfl (by kernel_rfl) (by kernel_rfl) (by kernel_rfl) (fun _ _ _ h => h) (by kernel_rfl) (by (intro w hSw; (try dsimp only at hSw); go_simp)) (by assumption) ?_
      simp only [List.setIfInBounds_toArray, List.set_cons_succ, List.set_cons_zero]
      refine take_at (i := 2) (d := 34) (v := .pointer (some ⟨b, o + i * 3, none⟩)) rfl rfl (by kernel_rfl) (by kernel_rfl) (by kernel_rfl) (fun _ _ _ h => h) (by kernel_rfl) (by (intro w hSw; (try dsimp only at hSw); go_simp)) (by assumption) ?_
      simp only [List.setIfInBounds_toArray, List.set_cons_succ, List.set_cons_zero]
      refine take_at (i := 3) (d := 35) (v := .pointer (some ⟨b, o + i * 3 + 2, none⟩)) rfl rfl (by kernel_rfl) (by kernel_rfl) (by kernel_rfl) (fun _ _ _ h => h) (by kernel_rfl) (by (intro w hSw; (try dsimp only at hSw); go_simp)) (by assumption) ?_
      simp only [List.setIfInBounds_toArray, List.set_cons_succ, List.set_cons_zero]
      refine take_at (i := 4) (d := 36) (v := .string m2) rfl rfl (by kernel_rfl) (by kernel_rfl) (by kernel_rfl) (fun _ _ _ h => h) (by kernel_rfl) (by (intro w hSw; (try dsimp only at hSw); go_simp)) (by assumption) ?_
      simp only [List.setIfInBounds_toArray, List.set_cons_succ, List.set_cons_zero]
      refine take_at (i := 5) (d := 37) (v := .int .i64 ((k : Int) + 3 * (i : Int) + 1 + 1)) rfl rfl (by kernel_rfl) (by kernel_rfl) (by kernel_rfl) (fun _ _ _ h => h) (by kernel_rfl) (by (intro w hSw; (try dsimp only at hSw); go_simp)) (by assumption) ?_
      simp only [List.setIfInBounds_toArray, List.set_cons_succ, List.set_cons_zero]
      refine wpAnyH_ready (rs := [6]) (by kernel_rfl) (by simp) ?_
      refine AllReadyH.cons rfl (fun K hK => ?_) AllReadyH.nil
      go_simp
      refine (HMT2.out _).mono ?_
      rintro e w22 ⟨rfl, hb2⟩
      have hs2 : w22.cell? ⟨b, o + i * 3 + 2, none⟩ = some (.string m2) ∧ Below w.heap.size w w22 ∧ Below wr.heap.size wr w22 := ⟨(hb2.cell (p := ⟨b, o + i * 3 + 2, none⟩) (Nat.lt_of_lt_of_le hB hHeld.2.1.size)).trans hHeld.1, hHeld.2.1.trans (hb2.mono hHeld.2.1.size), hHeld.2.2.trans (hb2.mono hHeld.2.2.size)⟩
      clear hb2 hHeld
      refine hK.out _ _ hs2 (fun hHeld => ?_)
      clear hK K hs2
      refine take_at (i := 7) (d := 39) (v := .bool false) rfl rfl (by kernel_rfl) (by kernel_rfl) (by kernel_rfl) (fun _ _ _ h => h) (by kernel_rfl) (by (intro w hSw; (try dsimp only at hSw); go_simp)) (by assumption) ?_
      simp only [List.setIfInBounds_toArray, List.set_cons_succ, List.set_cons_zero]
      refine wpAnyH_done (by kernel_rfl) ?_ _
      have HBA2 : Hid (Below w.heap.size w w22) := hHeld.2.1
      have HBW2 : Hid (Below wr.heap.size wr w22) := hHeld.2.2
      clear hHeld
      go_wp2
      go_roundw
      case rel => exact ⟨i + 1, by omega, by go_num, congrArg (Value.int .i64) (by omega), HBA2.out⟩
      case measure => simp [intOf]; omega
    · obtain rfl : i = l.length := by omega
      go_wp2
      go_ret
      exact ⟨rfl, hb⟩

theorem stmark1 (B : Nat) (v : Value) (l : List Stp) (w : World) (hown : OwnSs w B v l) (hl : l.length ≤ 1000) :
    Calls Try.prog 26 #[v, .int .i64 1] w fun e w' => e = .returned (.int .i64 ((1 + 3 * l.length : Nat) : Int)) ∧ OwnSs w' B v (stmarked l 1 l.length) ∧ Only w w' (fun b => v.ownBlock = some b) :=
  markStepS_any B 1 v l w hown rfl hl
theorem stheld1 (A : Option Addr) (n cap : Nat) (l : List Stp) (w : World) (hn : l.length = n) (hw : Stps w w.heap.size A (stmarked l 1 l.length)) (hl : l.length ≤ 1000) :
    Calls Try.prog 27 #[.slice A n cap, .int .i64 1] w fun e w' => e = .returned (.int .i64 ((1 + 3 * l.length : Nat) : Int)) ∧ Below w.heap.size w w' := by
  have h := heldStepS_any 1 A cap (stmarked l 1 l.length) w hw (fun j hj => stmarked_at l 1 l.length j (by rw [stmarked_len] at hj; exact hj) (Nat.le_refl _)) rfl (by rw [stmarked_len]; exact hl)
  rw [stmarked_len, hn] at h
  rw [hn]
  exact h

end Go.Proofs.Ytcaegpjbdcopoaa
/- The walk of the law FnExactStepsOf. -/
namespace Go.Proofs.Ytcaegpjbdcopoaa
open Go.RowKit

def stepsRes (l : List Seg) (t : ByteArray) : List Stp := (runRes l t).map (·.1)
theorem stepsRes_le (l : List Seg) (t : ByteArray) : (stepsRes l t).length ≤ 161 := by
  unfold stepsRes
  rw [List.length_map]
  exact runRes_len l t
def StepsPostS (w : World) (l : List Seg) (t : ByteArray) (e : Ending) (w' : World) : Prop :=
  ∃ v, e = .returned (.tuple #[v, .bool (traceB l t.data.toList).isSome]) ∧ OwnSs w' w.heap.size v (stepsRes l t) ∧ Below w.heap.size w w'
theorem specSteps_ss (A : Option Addr) (l : List Seg) (c : Nat) (t : ByteArray) (w : World) (hw : Segs w w.heap.size A l) (hl : l.length ≤ 1048576) (hn : Short l) (ht : t.size ≤ 1048576) :
    Calls Try.prog 12 #[.slice A l.length c, .string t] w (StepsPostS w l t) :=
  (specStepsOf_any A l c t w hw hl hn ht).mono fun e w' ⟨g, n, c', he, hs, hb⟩ => ⟨_, by rw [he, hs.1], hs.ss, hb⟩

set_option maxRecDepth 100000 in
set_option maxHeartbeats 4000000 in
theorem lawStepsOf_any (A : Option Addr) (l : List Seg) (c : Nat) (s : ByteArray) (w : World) (hw : Segs w w.heap.size A l) (hl : l.length ≤ maxLen) (hn : Short l) (hsz : s.size ≤ maxLen) :
    Calls Try.prog 4 #[.slice A l.length c, .string s] w fun e w' => e = .returned (.bool true) ∧ Below w.heap.size w w' := by
  have HW : Hid (Segs w w.heap.size A l) := hw
  clear hw
  unfold maxLen at hsz
  by_cases hbigs : 1048576 < s.size
  · go_enter Try.func4, Try.ntmps4
    go_wp2
    go_ret
    exact ⟨rfl, Below.refl _ _⟩
  by_cases hs : sizeLeft l < 0
  · go_enter Try.func4, Try.ntmps4
    go_wp2_with fail
    refine (szSegmentS_any _ _ _ _ HW.out hl hn).mono ?_
    rintro e w1 ⟨rfl, hb1⟩
    go_wp2
    go_ret
    exact ⟨rfl, hb1⟩
  · have hlen := sizeLeft_len hs
    have hst := stepsRes_le l s
    have hlm : l.length ≤ 9223372036854775807 := Nat.le_trans hlen (by decide)
    have HSP := Lib.hid (fun A c w h => specSteps_ss A l c s w h hlen hn (Nat.le_of_not_lt hbigs))
    have HIM := Lib.hid (fun A w h => stepsOf_any A l l.length s w h hlen (Nat.le_refl _) hlm hn (Nat.le_of_not_lt hbigs))
    unfold StepsPostS at HSP
    unfold StepsPostI at HIM
    rw [show (runRes l s).map (·.1) = stepsRes l s from rfl] at HIM
    go_enter Try.func4, Try.ntmps4
    go_wp2_with fail
    refine (szSegmentS_any _ _ _ _ HW.out hl hn).mono ?_
    rintro e w1 ⟨rfl, hb1⟩
    have hs1 := (HW.out.below hb1).more hb1.size
    have HB1 : Hid (Below w.heap.size w w1) := hb1
    clear hb1
    generalize sizeLeft l = lft at *
    go_wp2_with fail
    refine (toSegmentS_any _ _ _ _ hs1 hlen).mono ?_
    rintro e w2 ⟨rfl, hb2, hx2⟩
    have HB2 : Hid (Below w.heap.size w w2) := HB1.out.trans (hb2.mono HB1.out.size)
    have HX2 := Lib.hid hx2
    clear hb2 hs1 hx2 HB1
    generalize stepsRes l s = ts at *
    generalize (traceB l s.data.toList).isSome = d at *
    go_wp2_with fail
    refine (HSP.out _ _ _ HX2.out).mono ?_
    rintro e w3 ⟨v0, rfl, ho3, hb3⟩
    obtain ⟨A0, cap0, rfl, -⟩ := ssForm ho3
    have HB3 : Hid (Below w.heap.size w w3) := HB2.out.trans (hb3.mono HB2.out.size)
    have HO3 : Hid (OwnSs w3 w2.heap.size (.slice A0 ts.length cap0) ts) := ho3
    have HS3 : Hid (Segs w3 w3.heap.size A l) := (HW.out.below HB3.out).more HB3.out.size
    clear hb3 ho3 HX2 HSP
    go_wp2_with fail
    refine (St.toSegmentS_row _ _ _ _ HS3.out hlen).mono ?_
    rintro e w4 ⟨rfl, hb4, hx4, cs, hr4, hcs⟩
    have HB4 : Hid (Below w.heap.size w w4) := HB3.out.trans (hb4.mono HB3.out.size)
    have HO4 : Hid (OwnSs w4 w2.heap.size (.slice A0 ts.length cap0) ts) := HO3.out.below hb4
    have HL4 : Hid (∀ g, (Value.slice A0 ts.length cap0).ownBlock = some g → g < w3.heap.size) := fun g hg => (World.ownsRow.lt HO3.out g hg).2
    have HX4 := Lib.hid hx4
    have HR4 := Lib.hid hr4
    have HCS := Lib.hid hcs
    have HZ4 : Hid (w3.heap.size < w4.heap.size) := hr4.lt
    clear hb4 hx4 hr4 hcs HS3 HO3
    go_wp2_with fail
    refine (HIM.out _ _ HX4.out).mono ?_
    rintro e w5 ⟨v1, rfl, ho5, hb5⟩
    obtain ⟨A1, cap1, rfl, hf5⟩ := ssForm ho5
    have HB5 : Hid (Below w.heap.size w w5) := HB4.out.trans (hb5.mono HB4.out.size)
    have HO5 : Hid (OwnSs w5 w2.heap.size (.slice A0 ts.length cap0) ts) := HO4.out.below hb5
    have HP5 : Hid (OwnSs w5 w4.heap.size (.slice A1 ts.length cap1) ts) := ho5
    have HR5 : Hid (Row w5 w3.heap.size 75 cs) := HR4.out.below hb5 HZ4.out
    have HX5 : Hid (Segs w5 w5.heap.size (some ⟨w3.heap.size, 0, none⟩) l) := (HX4.out.below hb5).more hb5.size
    have HZ5 : Hid (w4.heap.size ≤ w5.heap.size) := hb5.size
    clear hf5 hb5 ho5 HX4 HR4 HO4
    go_wp2_with fail
    refine (eqStepS_same A1 A0 ts cap1 cap0 w5 (ssOf HP5.out) (ssOf HO5.out) (by omega)).mono ?_
    rintro e w6 ⟨rfl, hb6⟩
    have HB6 : Hid (Below w.heap.size w w6) := HB5.out.trans (hb6.mono HB5.out.size)
    have HO6 : Hid (OwnSs w6 w2.heap.size (.slice A0 ts.length cap0) ts) := HO5.out.below hb6
    have HP6 : Hid (OwnSs w6 w4.heap.size (.slice A1 ts.length cap1) ts) := HP5.out.below hb6
    have HR6 : Hid (Row w6 w3.heap.size 75 cs) := HR5.out.below hb6 HR5.out.lt
    have HX6 : Hid (Segs w6 w6.heap.size (some ⟨w3.heap.size, 0, none⟩) l) := (HX5.out.below hb6).more hb6.size
    have HS6 : Hid (Segs w6 w6.heap.size A l) := (HW.out.below HB6.out).more HB6.out.size
    clear hb6 HB5 HO5 HP5 HR5 HX5 HZ5
    go_wp2_with fail
    refine (toSegmentS_any _ _ _ _ HS6.out hlen).mono ?_
    rintro e w7 ⟨rfl, hb7, hx7⟩
    have HB7 : Hid (Below w.heap.size w w7) := HB6.out.trans (hb7.mono HB6.out.size)
    have HO7 : Hid (OwnSs w7 w2.heap.size (.slice A0 ts.length cap0) ts) := HO6.out.below hb7
    have HP7 : Hid (OwnSs w7 w4.heap.size (.slice A1 ts.length cap1) ts) := HP6.out.below hb7
    have HR7 : Hid (Row w7 w3.heap.size 75 cs) := HR6.out.below hb7 HR6.out.lt
    have HX7 : Hid (Segs w7 w7.heap.size (some ⟨w3.heap.size, 0, none⟩) l) := (HX6.out.below hb7).more hb7.size
    have HY7 := Lib.hid hx7
    clear hb7 hx7 HB6 HO6 HP6 HR6 HX6 HS6
    go_wp2_with fail
    refine (eqSegmentS_same _ _ _ _ _ _ HX7.out HY7.out hlen).mono ?_
    rintro e w8 ⟨rfl, hb8⟩
    have HB8 : Hid (Below w.heap.size w w8) := HB7.out.trans (hb8.mono HB7.out.size)
    have HO8 : Hid (OwnSs w8 w2.heap.size (.slice A0 ts.length cap0) ts) := HO7.out.below hb8
    have HP8 : Hid (OwnSs w8 w4.heap.size (.slice A1 ts.length cap1) ts) := HP7.out.below hb8
    have HR8 : Hid (Row w8 w3.heap.size 75 cs) := HR7.out.below hb8 HR7.out.lt
    clear hb8 HB7 HO7 HP7 HR7 HX7 HY7
    go_wp2_with fail
    refine (mark1 w3.heap.size l.length l.length cs w8 HR8.out HCS.out hlen).mono ?_
    rintro e w9 ⟨rfl, hy9⟩
    have HB9 : Hid (Below w.heap.size w w9) := Only.below HB8.out hy9 HB8.out.size (fun k hk e => by have := HB3.out.size; omega)
    have HO9 : Hid (OwnSs w9 w2.heap.size (.slice A0 ts.length cap0) ts) := ssFar HO8.out hy9 (fun g hg e => by have := HL4.out g hg; omega)
    have HP9 : Hid (OwnSs w9 w4.heap.size (.slice A1 ts.length cap1) ts) := ssFar HP8.out hy9 (fun g hg e => by have := (World.ownsRow.lt HP8.out g hg).1; have := HZ4.out; omega)
    clear hy9 HB8 HO8 HP8 HR8 HCS
    have hq1 : ¬ ((1 + 3 * l.length : Nat) : Int) < 0 := by omega
    have hq0 : (0 : Int) ≤ ((1 + 3 * l.length : Nat) : Int) := by omega
    generalize ((1 + 3 * l.length : Nat) : Int) = q at *
    go_wp2_with fail
    refine (eqStepS_same A1 A0 ts cap1 cap0 w9 (ssOf HP9.out) (ssOf HO9.out) (by omega)).mono ?_
    rintro e w10 ⟨rfl, hb10⟩
    have HB10 : Hid (Below w.heap.size w w10) := HB9.out.trans (hb10.mono HB9.out.size)
    have HO10 : Hid (OwnSs w10 w2.heap.size (.slice A0 ts.length cap0) ts) := HO9.out.below hb10
    have HP10 : Hid (OwnSs w10 w4.heap.size (.slice A1 ts.length cap1) ts) := HP9.out.below hb10
    clear hb10 HB9 HO9 HP9
    go_wp2_with fail
    refine (stmark1 _ _ ts w10 HP10.out (by omega)).mono ?_
    rintro e w11 ⟨rfl, ho11, hy11⟩
    have HB11 : Hid (Below w.heap.size w w11) := Only.below HB10.out hy11 HB10.out.size (fun k hk e => by have := (World.ownsRow.lt HP10.out k e).1; have := HB4.out.size; omega)
    have HO11 : Hid (OwnSs w11 w2.heap.size (.slice A0 ts.length cap0) ts) := ssFar HO10.out hy11 (fun g hg e => by have := HL4.out g hg; have := (World.ownsRow.lt HP10.out g e).1; have := HZ4.out; omega)
    have HM11 : Hid (Stps w11 w11.heap.size A1 (stmarked ts 1 ts.length)) := ssOf ho11
    clear ho11 hy11 HB10 HO10 HP10
    have hm1 : ¬ ((1 + 3 * ts.length : Nat) : Int) < 0 := by omega
    have hm0 : (0 : Int) ≤ ((1 + 3 * ts.length : Nat) : Int) := by omega
    have HH := Lib.hid (fun W h => stheld1 A1 ts.length cap1 ts W rfl h (by omega))
    have HMK := Lib.hid (fun W W' h hb => (Stps.more (Stps.below (w := W) (w' := W') (B := W.heap.size) (A := A1) (ss := stmarked ts 1 ts.length) h hb) hb.size : Stps W' W'.heap.size A1 (stmarked ts 1 ts.length)))
    generalize ((1 + 3 * ts.length : Nat) : Int) = m at *
    go_wp2_with fail
    refine Calls.mono (HH.out w11 HM11.out) ?_
    rintro e w12 ⟨rfl, hb12⟩
    have HB12 : Hid (Below w.heap.size w w12) := HB11.out.trans (hb12.mono HB11.out.size)
    have HO12 : Hid (OwnSs w12 w2.heap.size (.slice A0 ts.length cap0) ts) := HO11.out.below hb12
    have HM12 : Hid (Stps w12 w12.heap.size A1 (stmarked ts 1 ts.length)) := HMK.out w11 w12 HM11.out hb12
    have HS12 : Hid (Segs w12 w12.heap.size A l) := (HW.out.below HB12.out).more HB12.out.size
    clear hb12 HB11 HO11 HM11
    go_wp2_with fail
    refine (toSegmentS_any _ _ _ _ HS12.out hlen).mono ?_
    rintro e w13 ⟨rfl, hb13, hx13⟩
    have HB13 : Hid (Below w.heap.size w w13) := HB12.out.trans (hb13.mono HB12.out.size)
    have HO13 : Hid (OwnSs w13 w2.heap.size (.slice A0 ts.length cap0) ts) := HO12.out.below hb13
    have HM13 : Hid (Stps w13 w13.heap.size A1 (stmarked ts 1 ts.length)) := HMK.out w12 w13 HM12.out hb13
    have HX13 := Lib.hid hx13
    clear hb13 hx13 HB12 HO12 HM12 HS12
    go_wp2_with fail
    refine (HIM.out _ _ HX13.out).mono ?_
    rintro e w14 ⟨v2, rfl, ho14, hb14⟩
    obtain ⟨A2, cap2, rfl, hf14⟩ := ssForm ho14
    have HB14 : Hid (Below w.heap.size w w14) := HB13.out.trans (hb14.mono HB13.out.size)
    have HO14 : Hid (OwnSs w14 w2.heap.size (.slice A0 ts.length cap0) ts) := HO13.out.below hb14
    have HM14 : Hid (Stps w14 w14.heap.size A1 (stmarked ts 1 ts.length)) := HMK.out w13 w14 HM13.out hb14
    have HF14 := Lib.hid hf14
    clear hb14 ho14 hf14 HB13 HO13 HM13 HX13
    go_wp2_with fail
    refine (eqStepS_same A2 A0 ts cap2 cap0 w14 HF14.out (ssOf HO14.out) (by omega)).mono ?_
    rintro e w15 ⟨rfl, hb15⟩
    have HB15 : Hid (Below w.heap.size w w15) := HB14.out.trans (hb15.mono HB14.out.size)
    have HM15 : Hid (Stps w15 w15.heap.size A1 (stmarked ts 1 ts.length)) := HMK.out w14 w15 HM14.out hb15
    clear hb15 HB14 HO14 HM14 HF14
    go_wp2_with fail
    refine Calls.mono (HH.out w15 HM15.out) ?_
    rintro e w16 ⟨rfl, hb16⟩
    have HB16 : Hid (Below w.heap.size w w16) := HB15.out.trans (hb16.mono HB15.out.size)
    clear hb16 HB15 HM15
    go_wp2
    go_ret
    exact ⟨rfl, HB16.out⟩

end Go.Proofs.Ytcaegpjbdcopoaa
