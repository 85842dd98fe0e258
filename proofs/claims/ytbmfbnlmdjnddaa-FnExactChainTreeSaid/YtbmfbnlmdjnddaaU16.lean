/- Joined: Oi. -/
import Derived.Test.YtbmfbnlmdjnddaaU11
import Derived.Test.YtbmfbnlmdjnddaaU02
/- The walk of the law FnExactChainTree. -/
namespace Go.Proofs.Ytbmfbnlmdjnddaa
open Go.RowKit

set_option maxRecDepth 100000 in
set_option maxHeartbeats 4000000 in
theorem lawChainTree_any (A : Option Addr) (l : List Seg) (c : Nat) (w : World) (hw : Segs w w.heap.size A l) (hl : l.length ≤ maxLen) (hn : Short l) :
    Calls Try.prog 7 #[.slice A l.length c] w fun e w' => e = .returned (.bool true) ∧ Below w.heap.size w w' := by
  have HW : Hid (Segs w w.heap.size A l) := hw
  clear hw
  by_cases hs : sizeLeft l < 0
  · go_enter Try.func7, Try.ntmps7
    go_wp2_with fail
    refine (szSegmentS_any _ _ _ _ HW.out hl hn).mono ?_
    rintro e w1 ⟨rfl, hb1⟩
    go_wp2
    go_ret
    exact ⟨rfl, hb1⟩
  have hlen := sizeLeft_len hs
  have hsl := sizeLeft_le l
  have hlm : l.length ≤ 9223372036854775807 := Nat.le_trans hlen (by decide)
  have HSP := Lib.hid (fun A c W h1 => specChainTree_any A l c W h1 hlen hn)
  have HIM := Lib.hid (fun A W h1 => chainTree_any A l l.length W h1 hlen (Nat.le_refl _) hlm hn)
  unfold TreeAns at HSP HIM
  have hrs : (chainRes l).length ≤ 200 := chainRes_len l
  generalize chainRes l = rs at *
  generalize validB l = d at *
  go_enter Try.func7, Try.ntmps7
  go_wp2_with fail
  refine (szSegmentS_any _ _ _ _ HW.out hl hn).mono ?_
  rintro e w1 ⟨rfl, hb1⟩
  have HB1 := Lib.hid hb1
  clear hb1
  go_wp2_with fail
  refine (toSegmentS_any _ _ _ _ ((HW.out.below HB1.out).more HB1.out.size) hlen).mono ?_
  rintro e w2 ⟨rfl, hb2, hx2⟩
  have HX := Lib.hid hx2
  clear hx2
  have HB2 : Hid (Below w.heap.size w w2) := HB1.out.trans (hb2.mono HB1.out.size)
  clear hb2 HB1
  go_wp2_with fail
  refine (HSP.out _ _ _ HX.out).mono ?_
  rintro e w3 ⟨v0, rfl, ho3, hb3⟩
  obtain ⟨A0, cap0, rfl, -⟩ := ho3.form
  have HO : Hid (OwnTree w3 w2.heap.size (.slice A0 rs.length cap0) rs) := ho3
  have HL : Hid (∀ g, (Value.slice A0 rs.length cap0).ownBlock = some g → g < w3.heap.size) := fun g hg => (World.ownsRow.lt ho3 g hg).2
  have HZ5 : Hid (w.heap.size ≤ w3.heap.size) := Nat.le_trans HB2.out.size hb3.size
  clear ho3 HSP
  clear HX
  have HB3 : Hid (Below w.heap.size w w3) := HB2.out.trans (hb3.mono HB2.out.size)
  clear hb3 HB2
  go_wp2_with fail
  refine (St.toSegmentS_row _ _ _ _ ((HW.out.below HB3.out).more HB3.out.size) hlen).mono ?_
  rintro e w4 ⟨rfl, hb4, hx4, cs, hr4, hcs⟩
  have HX := Lib.hid hx4
  have HR := Lib.hid hr4
  have HCS := Lib.hid hcs
  have HZ6 : Hid (w3.heap.size < w4.heap.size) := hr4.lt
  clear hx4 hr4 hcs
  have HB4 : Hid (Below w.heap.size w w4) := HB3.out.trans (hb4.mono HB3.out.size)
  have HO := Lib.hid (treeBelow HO.out hb4)
  clear hb4 HB3
  go_wp2_with fail
  refine (HIM.out _ _ HX.out).mono ?_
  rintro e w5 ⟨v1, rfl, ho5, hb5⟩
  obtain ⟨A1, cap1, rfl, -⟩ := ho5.form
  have HP : Hid (OwnTree w5 w4.heap.size (.slice A1 rs.length cap1) rs) := ho5
  clear ho5
  have HB5 : Hid (Below w.heap.size w w5) := HB4.out.trans (hb5.mono HB4.out.size)
  have HO := Lib.hid (treeBelow HO.out hb5)
  have HX := Lib.hid ((HX.out.below hb5).more hb5.size)
  have HR := Lib.hid (HR.out.below hb5 HR.out.lt)
  clear hb5 HB4
  go_wp2_with fail
  refine (eqSegmentS_same A1 A0 rs cap1 cap0 w5 (treeIs HP.out) (treeIs HO.out) (by omega)).mono ?_
  rintro e w6 ⟨rfl, hb6⟩
  have HB6 : Hid (Below w.heap.size w w6) := HB5.out.trans (hb6.mono HB5.out.size)
  have HO := Lib.hid (treeBelow HO.out hb6)
  have HX := Lib.hid ((HX.out.below hb6).more hb6.size)
  have HR := Lib.hid (HR.out.below hb6 HR.out.lt)
  have HP := Lib.hid (treeBelow HP.out hb6)
  clear hb6 HB5
  go_wp2_with fail
  refine (toSegmentS_any _ _ _ _ ((HW.out.below HB6.out).more HB6.out.size) hlen).mono ?_
  rintro e w7 ⟨rfl, hb7, hx7⟩
  have HX2 := Lib.hid hx7
  clear hx7
  have HB7 : Hid (Below w.heap.size w w7) := HB6.out.trans (hb7.mono HB6.out.size)
  have HO := Lib.hid (treeBelow HO.out hb7)
  have HX := Lib.hid ((HX.out.below hb7).more hb7.size)
  have HR := Lib.hid (HR.out.below hb7 HR.out.lt)
  have HP := Lib.hid (treeBelow HP.out hb7)
  clear hb7 HB6
  go_wp2_with fail
  refine (eqSegmentS_same _ _ _ _ _ _ HX.out HX2.out hlen).mono ?_
  rintro e w8 ⟨rfl, hb8⟩
  have HB8 : Hid (Below w.heap.size w w8) := HB7.out.trans (hb8.mono HB7.out.size)
  have HO := Lib.hid (treeBelow HO.out hb8)
  have HX := Lib.hid ((HX.out.below hb8).more hb8.size)
  have HR := Lib.hid (HR.out.below hb8 HR.out.lt)
  have HP := Lib.hid (treeBelow HP.out hb8)
  have HX2 := Lib.hid ((HX2.out.below hb8).more hb8.size)
  clear hb8 HB7
  clear HX HX2
  go_wp2_with fail
  refine (mark1 w3.heap.size l.length l.length cs w8 HR.out HCS.out hlen).mono ?_
  rintro e w9 ⟨rfl, hy9⟩
  have HB9 : Hid (Below w.heap.size w w9) := Only.below HB8.out hy9 HB8.out.size (fun k hk e => by have := HZ5.out; omega)
  have HO := Lib.hid (treeFar HO.out hy9 (fun g hg e => by have := HL.out g hg; omega))
  have HP := Lib.hid (treeFar HP.out hy9 (fun g hg e => by have := (World.ownsRow.lt HP.out g hg).1; have := HZ6.out; omega))
  clear hy9 HR HCS HB8
  have hk0 : 0 < 1 + 3 * l.length := by omega
  have hk9 : 1 + 3 * l.length ≤ 4000000 := by omega
  have hkn : (0 : Int) ≤ ((1 + 3 * l.length : Nat) : Int) := Int.natCast_nonneg _
  have hkn' : ¬ ((1 + 3 * l.length : Nat) : Int) < 0 := by omega
  generalize ((1 + 3 * l.length : Nat) : Int) = kt at *
  go_wp2_with fail
  refine (eqSegmentS_same A1 A0 rs cap1 cap0 w9 (treeIs HP.out) (treeIs HO.out) (by omega)).mono ?_
  rintro e w10 ⟨rfl, hb10⟩
  have HB10 : Hid (Below w.heap.size w w10) := HB9.out.trans (hb10.mono HB9.out.size)
  have HO := Lib.hid (treeBelow HO.out hb10)
  have HP := Lib.hid (treeBelow HP.out hb10)
  clear hb10 HB9
  go_wp2_with fail
  refine (tmark1 _ _ rs w10 HP.out (by omega)).mono ?_
  rintro e w11 ⟨rfl, ho11, hy11⟩
  have HB11 : Hid (Below w.heap.size w w11) := Only.below HB10.out hy11 HB10.out.size (fun k hk e => by have := (World.ownsRow.lt HP.out k e).1; have := HZ5.out; have := HZ6.out; omega)
  have HO := Lib.hid (treeFar HO.out hy11 (fun g hg e => by have := HL.out g hg; have := (World.ownsRow.lt HP.out g e).1; have := HZ6.out; omega))
  have HM : Hid (Segs w11 w11.heap.size A1 (marked rs 1 rs.length)) := treeIs ho11
  clear ho11 hy11 HB10 HP
  have hm1 : ¬ ((1 + 3 * rs.length : Nat) : Int) < 0 := by omega
  have hm0 : (0 : Int) ≤ ((1 + 3 * rs.length : Nat) : Int) := by omega
  have HH := Lib.hid (fun W h => theld1 A1 rs.length cap1 rs W rfl h (by omega))
  generalize ((1 + 3 * rs.length : Nat) : Int) = m at *
  go_wp2_with fail
  refine Calls.mono (HH.out w11 HM.out) ?_
  rintro e w12 ⟨rfl, hb12⟩
  have HB12 : Hid (Below w.heap.size w w12) := HB11.out.trans (hb12.mono HB11.out.size)
  have HO := Lib.hid (treeBelow HO.out hb12)
  have HM := Lib.hid ((HM.out.below hb12).more hb12.size)
  clear hb12 HB11
  go_wp2_with fail
  refine (toSegmentS_any _ _ _ _ ((HW.out.below HB12.out).more HB12.out.size) hlen).mono ?_
  rintro e w13 ⟨rfl, hb13, hx13⟩
  have HX := Lib.hid hx13
  clear hx13
  have HB13 : Hid (Below w.heap.size w w13) := HB12.out.trans (hb13.mono HB12.out.size)
  have HO := Lib.hid (treeBelow HO.out hb13)
  have HM := Lib.hid ((HM.out.below hb13).more hb13.size)
  clear hb13 HB12
  go_wp2_with fail
  refine (HIM.out _ _ HX.out).mono ?_
  rintro e w14 ⟨v2, rfl, ho14, hb14⟩
  obtain ⟨A3, cap3, rfl, hf14⟩ := ho14.form
  have HV : Hid (Segs w14 w14.heap.size A3 rs) := hf14
  clear ho14 hf14
  clear HX
  have HB14 : Hid (Below w.heap.size w w14) := HB13.out.trans (hb14.mono HB13.out.size)
  have HO := Lib.hid (treeBelow HO.out hb14)
  have HM := Lib.hid ((HM.out.below hb14).more hb14.size)
  clear hb14 HB13
  go_wp2_with fail
  refine (eqSegmentS_same A3 A0 rs cap3 cap0 w14 HV.out (treeIs HO.out) (by omega)).mono ?_
  rintro e w15 ⟨rfl, hb15⟩
  have HB15 : Hid (Below w.heap.size w w15) := HB14.out.trans (hb15.mono HB14.out.size)
  have HO := Lib.hid (treeBelow HO.out hb15)
  have HM := Lib.hid ((HM.out.below hb15).more hb15.size)
  have HV := Lib.hid ((HV.out.below hb15).more hb15.size)
  clear hb15 HB14
  go_wp2_with fail
  refine Calls.mono (HH.out w15 HM.out) ?_
  rintro e w16 ⟨rfl, hb16⟩
  have HB16 : Hid (Below w.heap.size w w16) := HB15.out.trans (hb16.mono HB15.out.size)
  clear hb16 HB15
  go_wp2
  go_ret
  exact ⟨rfl, HB16.out⟩

end Go.Proofs.Ytbmfbnlmdjnddaa
