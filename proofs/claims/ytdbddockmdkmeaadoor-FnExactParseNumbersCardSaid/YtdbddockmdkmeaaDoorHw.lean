/- The walk of the law FnExactParseNumbers. -/
import Derived.Test.YtdbddockmdkmeaaDoorHv
import Derived.Test.YtdbddockmdkmeaaDoorLk
namespace Go.Proofs.YtdbddockmdkmeaaDoor
open Go.RowKit

theorem split12_sum : ∀ x : List UInt8, ((split12 x).map List.length).sum + (split12 x).length = x.length + 1
  | [] => rfl
  | c :: r => by
    have ih := split12_sum r
    rw [split12_cons]
    by_cases hc : c = 32
    · rw [if_pos hc, List.map_cons, List.sum_cons, List.length_cons, List.length_cons, List.length_nil]
      omega
    · rw [if_neg hc]
      cases hs : split12 r with
      | nil => exact absurd hs (split12_ne r)
      | cons p ps =>
        rw [hs] at ih
        rw [List.map_cons, List.sum_cons, List.length_cons] at ih
        show (((([c] : List UInt8) ++ p) :: ps).map List.length).sum + ((([c] : List UInt8) ++ p) :: ps).length = (c :: r).length + 1
        rw [List.map_cons, List.sum_cons, List.length_cons, List.length_append, List.length_cons, List.length_cons, List.length_nil]
        omega
theorem sum_ge12 : ∀ ps : List (List UInt8), (∀ p ∈ ps, p ≠ []) → ps.length ≤ (ps.map List.length).sum
  | [], _ => Nat.zero_le _
  | p :: ps, h => by
    have h1 := List.length_pos_iff.2 (h p (by simp))
    have h2 := sum_ge12 ps fun q hq => h q (List.mem_cons_of_mem _ hq)
    rw [List.map_cons, List.sum_cons, List.length_cons]
    omega
theorem nums_len12 {t : ByteArray} (ht : t.size ≤ 1048576) : (numsRes12 t).length ≤ 1048576 := by
  unfold numsRes12
  split
  · simp
  · split
    · rename_i hok
      have h1 := split12_sum t.data.toList
      have h2 : (split12 t.data.toList).length ≤ ((split12 t.data.toList).map List.length).sum := sum_ge12 _ fun p hp => by
        rw [← cutRes_split] at hp
        obtain ⟨s, hs, rfl⟩ := List.mem_map.1 hp
        have h3 := List.all_eq_true.1 hok s hs
        exact (ok12_parts h3).1
      have h4 : (split12 t.data.toList).length = (cutRes t 32).length := by rw [← cutRes_split, List.length_map]
      have h5 : t.data.toList.length = t.size := rfl
      unfold vals12
      rw [List.length_map]
      omega
    · simp

set_option maxRecDepth 100000 in
set_option maxHeartbeats 1000000 in
theorem lawParseNumbers_any (t : ByteArray) (w : World) (htz : t.size ≤ maxLen) (hp : Pow12 w) (he : Errs12 w) :
    Calls Tryd.prog 7 #[.string t] w fun e w' => e = .returned (.bool true) ∧ Below w.heap.size w w' := by
  have HP := Lib.hid hp
  have HE := Lib.hid he
  unfold maxLen at htz
  clear hp he
  by_cases hbig : 1048576 < t.size
  · have hb' : (1048576 : Int) < (t.size : Int) := by omega
    go_enter Tryd.func7, Tryd.ntmps7
    go_wp2
    go_ret
    exact ⟨rfl, Below.refl _ _⟩
  · have ht : t.size ≤ 1048576 := by omega
    have hb' : ¬ (1048576 : Int) < (t.size : Int) := by omega
    have hlen := nums_len12 ht
    have HS := Lib.hid (fun w => specParseNumbers_any t w ht)
    have HI := Lib.hid (fun w hp he => parseNumbers_any t w hp he ht)
    unfold NumsPost12 at HS HI
    generalize numsRes12 t = ts at *
    generalize numsOk12 t = ok at *
    go_enter Tryd.func7, Tryd.ntmps7
    go_wp2_with fail
    refine (HS.out _).mono ?_
    rintro e w1 ⟨v0, rfl, ho1, hb1⟩
    obtain ⟨A0, c0, rfl, -⟩ := Si.intsForm ho1
    have HB1 := Lib.hid hb1
    have HO1 := Lib.hid ho1
    have HL1 := Lib.hid (fun g hg => (World.ownsRow.lt ho1 g hg).2)
    clear ho1 hb1
    go_wp2_with fail
    refine (HI.out _ (HP.out.below HB1.out) (HE.out.below HB1.out)).mono ?_
    rintro e w2 ⟨v1, rfl, ho2, hb2⟩
    obtain ⟨A1, c1, rfl, -⟩ := Si.intsForm ho2
    have HB2 := Lib.hid (HB1.out.trans (hb2.mono HB1.out.size))
    have HO2 : Hid (Si.OwnInts w2 w.heap.size (.slice A0 ts.length c0) ts) := HO1.out.below hb2
    have HP2 := Lib.hid ho2
    have hz1 := HB1.out.size
    clear ho2 hb2 HB1 HO1
    go_wp2_with fail
    refine (Si.eqIntS_same A1 A0 ts c1 c0 w2 (Si.intsOf HP2.out) (Si.intsOf HO2.out) hlen).mono ?_
    rintro e w3 ⟨rfl, hb3⟩
    have HB3 := Lib.hid (HB2.out.trans (hb3.mono HB2.out.size))
    have HO3 : Hid (Si.OwnInts w3 w.heap.size (.slice A0 ts.length c0) ts) := HO2.out.below hb3
    have HP3 : Hid (Si.OwnInts w3 w1.heap.size (.slice A1 ts.length c1) ts) := HP2.out.below hb3
    clear hb3 HB2 HO2 HP2
    go_wp2_with fail
    refine (imark1 _ _ ts w3 HP3.out hlen).mono ?_
    rintro e w4 ⟨rfl, ho4, hy4⟩
    have HB4 : Hid (Below w.heap.size w w4) := Only.below HB3.out hy4 HB3.out.size (fun k hk e => by have := (World.ownsRow.lt HP3.out k e).1; omega)
    have HO4 : Hid (Si.OwnInts w4 w.heap.size (.slice A0 ts.length c0) ts) := Si.intsFar HO3.out hy4 (fun g hg e => by have := HL1.out g hg; have := (World.ownsRow.lt HP3.out g e).1; omega)
    have HM4 : Hid (Si.Ints w4 w4.heap.size A1 (Si.imarked ts 1 ts.length)) := Si.intsOf ho4
    clear ho4 hy4 HB3 HO3 HP3
    have hm1 : ¬ ((1 + ts.length : Nat) : Int) < 0 := by omega
    have hm0 : (0 : Int) ≤ ((1 + ts.length : Nat) : Int) := by omega
    have HH := Lib.hid (fun W h => iheld1 A1 ts.length c1 ts W rfl h hlen)
    have HMK := Lib.hid (fun W W' h hb => (Si.Ints.more (Si.Ints.below (w := W) (w' := W') (B := W.heap.size) (A := A1) (l := Si.imarked ts 1 ts.length) h hb) hb.size : Si.Ints W' W'.heap.size A1 (Si.imarked ts 1 ts.length)))
    generalize ((1 + ts.length : Nat) : Int) = m at *
    go_wp2_with fail
    refine Calls.mono (HH.out w4 HM4.out) ?_
    rintro e w5 ⟨rfl, hb5⟩
    have HB5 := Lib.hid (HB4.out.trans (hb5.mono HB4.out.size))
    have HO5 : Hid (Si.OwnInts w5 w.heap.size (.slice A0 ts.length c0) ts) := HO4.out.below hb5
    have HM5 := Lib.hid (HMK.out w4 w5 HM4.out hb5)
    clear hb5 HB4 HO4 HM4
    go_wp2_with fail
    refine (HI.out _ (HP.out.below HB5.out) (HE.out.below HB5.out)).mono ?_
    rintro e w6 ⟨v2, rfl, ho6, hb6⟩
    obtain ⟨A2, c2, rfl, hf6⟩ := Si.intsForm ho6
    have HB6 := Lib.hid (HB5.out.trans (hb6.mono HB5.out.size))
    have HO6 : Hid (Si.OwnInts w6 w.heap.size (.slice A0 ts.length c0) ts) := HO5.out.below hb6
    have HM6 := Lib.hid (HMK.out w5 w6 HM5.out hb6)
    have HF6 := Lib.hid hf6
    clear hb6 ho6 hf6 HB5 HO5 HM5
    go_wp2_with fail
    refine (Si.eqIntS_same A2 A0 ts c2 c0 w6 HF6.out (Si.intsOf HO6.out) hlen).mono ?_
    rintro e w7 ⟨rfl, hb7⟩
    have HB7 := Lib.hid (HB6.out.trans (hb7.mono HB6.out.size))
    have HM7 := Lib.hid (HMK.out w6 w7 HM6.out hb7)
    clear hb7 HB6 HO6 HM6 HF6
    go_wp2_with fail
    refine Calls.mono (HH.out w7 HM7.out) ?_
    rintro e w8 ⟨rfl, hb8⟩
    have HB8 := Lib.hid (HB7.out.trans (hb8.mono HB7.out.size))
    clear hb8 HB7 HM7
    go_wp2
    go_ret
    exact ⟨rfl, HB8.out⟩

end Go.Proofs.YtdbddockmdkmeaaDoor
