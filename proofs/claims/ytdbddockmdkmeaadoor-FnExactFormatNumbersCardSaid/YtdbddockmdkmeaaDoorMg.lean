/- The walk of the law FnExactFormatNumbers; a row of numbers that came in, and that each is an int. -/
import Derived.Test.YtdbddockmdkmeaaDoorMd
import Derived.Test.YtdbddockmdkmeaaDoorAq
import Derived.Test.YtdbddockmdkmeaaDoorLk
namespace Go.Proofs.YtdbddockmdkmeaaDoor
open Go.RowKit

theorem open_ints12 {H : Type} {enc : TypeId × Value → H} {w : World} {base : Nat} {spare : Nat → Bool} {held : Bool} {fuel : Nat} {a0 : Option Addr} {n c : Nat} {x : DataW H × List MemPlace}
    (h : DataW.trod enc Tryd.prog w base spare held fuel 38 [.slice a0 n c] = some x) : ∃ ts : List Int, ts.length = n ∧ n ≤ maxLen ∧ Si.Ints w w.heap.size a0 ts ∧ ∀ x ∈ ts, -9223372036854775808 ≤ x ∧ x ≤ 9223372036854775807 := by
  rcases Deep.open_slice Tryd.underlying38 h with ⟨hcs, _⟩ | ⟨a, len, cap, m, n', D, Pl, hcs, hb, hl, hm, hmm, hx, hi⟩
  · simp at hcs
    obtain ⟨rfl, rfl, rfl⟩ := hcs
    exact ⟨[], rfl, Nat.zero_le _, fun h0 => absurd h0 (by simp), fun x hx => by simp at hx⟩
  · simp at hcs
    obtain ⟨rfl, rfl, rfl⟩ := hcs
    have hlm : n ≤ m := by rw [hmm]; split <;> omega
    have hs : ∀ i, i < n → ∃ s : Int, w.cell? (a.add i) = some (.int .i64 s) ∧ -9223372036854775808 ≤ s ∧ s ≤ 9223372036854775807 := by
      intro i hin
      obtain ⟨cs', hc, ht'⟩ := hi i (by omega)
      rw [cells_int] at hc
      obtain ⟨_, hcl, hat⟩ := World.cells?_some hc
      obtain ⟨u0, rfl⟩ := one_ofI hcl
      have e0 := hat 0 (by omega)
      obtain ⟨s, hs, _, hwf⟩ := DataW.trod_int Tryd.underlying3 ht'
      simp at hs
      subst hs
      rw [Deep.add_add] at e0
      have hb1 : (-9223372036854775808 : Int) ≤ s ∧ s ≤ 9223372036854775807 := by
        have h2 : (decide (IntKind.i64.min ≤ s) && decide (s ≤ IntKind.i64.max)) = true := hwf
        rw [Bool.and_eq_true, decide_eq_true_iff, decide_eq_true_iff] at h2
        exact h2
      exact ⟨s, by simpa using e0, hb1⟩
    obtain ⟨l, hll, hq⟩ := list_ofI n hs
    refine ⟨l, hll, by omega, fun h0 => ?_, fun y hy => ?_⟩
    · obtain ⟨b, o, spot⟩ := a
      have hc0 := (hq 0 l[0] (List.getElem?_eq_getElem h0)).1
      have hspot : spot = none := by simpa [Addr.add] using World.cell?_spot hc0
      subst hspot
      have hlt := World.block_lt_of_cell? w _ hc0
      rw [WideShapes.add_plain] at hlt
      refine ⟨b, o, rfl, hlt, fun k s hk => ?_⟩
      have := (hq k s hk).1
      rw [WideShapes.add_plain] at this
      exact this
    · obtain ⟨i, hi, rfl⟩ := List.mem_iff_getElem.1 hy
      exact (hq i _ (List.getElem?_eq_getElem hi)).2

set_option maxRecDepth 100000 in
set_option maxHeartbeats 400000 in
theorem lawFormatNumbers_any (A : Option Addr) (xs : List Int) (c : Nat) (w : World) (hw : Si.Ints w w.heap.size A xs) (hl : xs.length ≤ maxLen) (hr : ∀ x ∈ xs, -9223372036854775808 ≤ x ∧ x ≤ 9223372036854775807) (hp : Pow12 w) :
    Calls Tryd.prog 6 #[.slice A xs.length c] w fun e w' => e = .returned (.bool true) ∧ Below w.heap.size w w' := by
  have HW : Hid (Si.Ints w w.heap.size A xs) := hw
  have HR := Lib.hid hr
  have HP := Lib.hid hp
  unfold maxLen at hl
  clear hw hr hp
  by_cases hbig : 1048576 < xs.length
  · have hb' : (1048576 : Int) < (xs.length : Int) := by omega
    go_enter Tryd.func6, Tryd.ntmps6
    go_wp2
    go_ret
    exact ⟨rfl, Below.refl _ _⟩
  · have hlen : xs.length ≤ 1048576 := by omega
    have hb' : ¬ (1048576 : Int) < (xs.length : Int) := by omega
    go_enter Tryd.func6, Tryd.ntmps6
    go_wp2_with fail
    refine (toIntS_any _ _ _ _ HW.out hlen).mono ?_
    rintro e w1 ⟨rfl, hb1, ho1⟩
    have HB1 := Lib.hid hb1
    have HX1 := Lib.hid (Si.intsOf ho1)
    clear hb1 ho1
    go_wp2_with fail
    refine (specFormatNumbers_any _ _ _ _ HX1.out hlen HR.out).mono ?_
    rintro e w2 ⟨rfl, hb2⟩
    have HB2 := Lib.hid (HB1.out.trans (hb2.mono HB1.out.size))
    clear hb2 HB1 HX1
    go_wp2_with fail
    refine (toIntS_any _ _ _ _ ((HW.out.below HB2.out).more HB2.out.size) hlen).mono ?_
    rintro e w3 ⟨rfl, hb3, ho3⟩
    have HB3 := Lib.hid (HB2.out.trans (hb3.mono HB2.out.size))
    have HX3 := Lib.hid (Si.intsOf ho3)
    clear hb3 ho3 HB2
    go_wp2_with fail
    refine (formatNumbers_any _ _ _ _ HX3.out (HP.out.below HB3.out) hlen HR.out).mono ?_
    rintro e w4 ⟨rfl, hb4⟩
    have HB4 := Lib.hid (HB3.out.trans (hb4.mono HB3.out.size))
    have HX4 := Lib.hid ((HX3.out.below hb4).more hb4.size)
    clear hb4 HB3 HX3
    go_wp2_with fail
    refine (toIntS_any _ _ _ _ ((HW.out.below HB4.out).more HB4.out.size) hlen).mono ?_
    rintro e w5 ⟨rfl, hb5, ho5⟩
    have HB5 := Lib.hid (HB4.out.trans (hb5.mono HB4.out.size))
    have HX5 := Lib.hid (Si.intsOf ho5)
    have HX6 := Lib.hid ((HX4.out.below hb5).more hb5.size)
    clear hb5 ho5 HB4 HX4
    go_wp2_with fail
    refine (Si.eqIntS_same _ _ _ _ _ _ HX6.out HX5.out hlen).mono ?_
    rintro e w6 ⟨rfl, hb6⟩
    have HB6 := Lib.hid (HB5.out.trans (hb6.mono HB5.out.size))
    clear hb6 HB5 HX5 HX6
    go_wp2
    go_ret
    exact ⟨rfl, HB6.out⟩

end Go.Proofs.YtdbddockmdkmeaaDoor
