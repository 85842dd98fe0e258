/- Joined: Oj. -/
import Derived.Test.YtbmfbnlmdjnddaaU17
import Derived.Test.YtbmfbnlmdjnddaaU10
import Derived.Test.YtbmfbnlmdjnddaaU11
import Derived.Test.YtbmfbnlmdjnddaaU02
/- The law of FnExactSameSegments. -/
namespace Go.Proofs.Ytbmfbnlmdjnddaa
open Go.RowKit

/-- What segments leave of a number. -/
def segsLeft (l : List Seg) (left : Int) : Int := if left - (l.length : Int) < 0 then -1 else leftOf l (left - l.length)
theorem segsLeft_len {l : List Seg} {left : Int} (h : ¬ segsLeft l left < 0) : (l.length : Int) ≤ left := by
  unfold segsLeft at h
  split at h
  · exact absurd (by decide : (-1 : Int) < 0) h
  · omega

set_option maxHeartbeats 400000 in
theorem szSegmentS_left (A : Option Addr) (l : List Seg) (c : Nat) (left : Int) (w : World) (hw : Segs w w.heap.size A l) (hl : l.length ≤ maxLen) (hn : Short l) (hl0 : 0 ≤ left) (hl9 : left ≤ 1048576) :
    Calls Try.prog 27 #[.slice A l.length c, .int .i64 left] w fun e w' => e = .returned (.int .i64 (segsLeft l left)) ∧ Below w.heap.size w w' := by
  unfold maxLen at hl
  by_cases h : left - (l.length : Int) < 0
  · have HF : Hid (segsLeft l left = -1) := if_pos h
    go_enter Try.func27, Try.ntmps27
    go_wp2
    go_ret
    exact ⟨ret_int HF.out.symm, Below.refl _ _⟩
  · have HW : Hid (Segs w w.heap.size A l) := hw
    clear hw
    have HF : Hid (segsLeft l left = leftOf l (left - l.length)) := if_neg h
    go_enter Try.func27, Try.ntmps27
    go_wp2
    go_loopw [1, 5] (fun v i wr => ∃ (k : Nat) (n : Int), k ≤ l.length ∧ i = .int .i64 k ∧ v = .int .i64 n ∧ 0 ≤ n ∧ n ≤ 1048576 ∧ leftOf l (left - l.length) = leftOf (l.drop k) n ∧ Below w.heap.size w wr)
      (fun _ i _ => l.length - (intOf i).toNat)
    case atStart => exact ⟨0, _, Nat.zero_le _, rfl, rfl, by omega, by omega, rfl, Below.refl _ _⟩
    case round =>
      obtain ⟨k, n, hk, rfl, rfl, h0, h1, he, hb⟩ := hrel
      have HE := Lib.hid he
      clear he
      by_cases hlt : k < l.length
      · obtain ⟨b, o, rfl, hB, hc⟩ := HW.out (by omega)
        obtain ⟨c0, c1, c2⟩ := hc k l[k] (List.getElem?_eq_getElem hlt)
        clear hc
        rw [← hb.cell hB] at c0 c1 c2
        have hs := hn l[k] (List.getElem_mem hlt)
        have HD : Hid (leftOf (l.drop k) n = if n - l[k].name.size < 0 then -1 else leftOf (l.drop (k + 1)) (n - l[k].name.size)) := by
          rw [List.drop_eq_getElem_cons hlt]; rfl
        generalize l[k] = s at *
        by_cases hle : n - s.name.size < 0
        · have HS : Hid (segLeft s.name n = -1) := if_pos hle
          have HG : Hid (leftOf (l.drop k) n = -1) := HD.out.trans (if_pos hle)
          clear HD
          go_wp2_with fail
          refine (szSegment_any s.name s.size s.par n _ hs h0 h1).mono ?_
          rintro e w1 ⟨rfl, hb1⟩
          rw [HS.out]
          go_wp2
          go_ret
          exact ⟨ret_int (HF.out.trans (HE.out.trans HG.out)).symm, hb.trans (hb1.mono hb.size)⟩
        · have HS : Hid (segLeft s.name n = n - s.name.size) := if_neg hle
          have HG : Hid (leftOf (l.drop k) n = leftOf (l.drop (k + 1)) (n - s.name.size)) := HD.out.trans (if_neg hle)
          clear HD
          go_wp2_with fail
          refine (szSegment_any s.name s.size s.par n _ hs h0 h1).mono ?_
          rintro e w1 ⟨rfl, hb1⟩
          rw [HS.out]
          go_wp2
          go_roundw
          case rel => exact ⟨k + 1, _, by omega, by go_num, rfl, by omega, by omega, HE.out.trans HG.out, hb.trans (hb1.mono hb.size)⟩
          case measure => simp [intOf]; omega
      · go_wp2
        go_ret
        refine ⟨ret_int ?_, hb⟩
        rw [HF.out, HE.out, List.drop_of_length_le (by omega)]; rfl

set_option maxRecDepth 100000 in
set_option maxHeartbeats 1000000 in
theorem lawSameSegments_any (A : Option Addr) (l : List Seg) (c : Nat) (A2 : Option Addr) (l2 : List Seg) (c2 : Nat) (w : World) (hw : Segs w w.heap.size A l) (hl : l.length ≤ maxLen) (hn : Short l) (ht : Segs w w.heap.size A2 l2) (hl2 : l2.length ≤ maxLen) (hn2 : Short l2) :
    Calls Try.prog 9 #[.slice A l.length c, .slice A2 l2.length c2] w fun e w' => e = .returned (.bool true) ∧ Below w.heap.size w w' := by
  have HW : Hid (Segs w w.heap.size A l) := hw
  have HT : Hid (Segs w w.heap.size A2 l2) := ht
  clear hw ht
  by_cases hs : sizeLeft l < 0
  · go_enter Try.func9, Try.ntmps9
    go_wp2_with fail
    refine (szSegmentS_any _ _ _ _ HW.out hl hn).mono ?_
    rintro e w1 ⟨rfl, hb1⟩
    go_wp2
    go_ret
    exact ⟨rfl, hb1⟩
  have hlen := sizeLeft_len hs
  have hsl := sizeLeft_le l
  have hlm : l.length ≤ 9223372036854775807 := Nat.le_trans hlen (by decide)
  by_cases hs2 : segsLeft l2 (sizeLeft l) < 0
  · go_enter Try.func9, Try.ntmps9
    go_wp2_with fail
    refine (szSegmentS_any _ _ _ _ HW.out hl hn).mono ?_
    rintro e w1 ⟨rfl, hb1⟩
    have HB1 := Lib.hid hb1
    clear hb1
    generalize sizeLeft l = lft at *
    go_wp2_with fail
    refine (szSegmentS_left A2 l2 c2 lft _ ((HT.out.below HB1.out).more HB1.out.size) hl2 hn2 (by omega) hsl).mono ?_
    rintro e w2 ⟨rfl, hb2⟩
    have HB2 : Hid (Below w.heap.size w w2) := HB1.out.trans (hb2.mono HB1.out.size)
    clear hb2
    go_wp2
    go_ret
    exact ⟨rfl, HB2.out⟩
  have hlen2 : l2.length ≤ 1048576 := by have := segsLeft_len hs2; omega
  have hlm2 : l2.length ≤ 9223372036854775807 := Nat.le_trans hlen2 (by decide)
  have HSP := Lib.hid (fun A A2 c c2 W h1 h2 => specSame_any A l c A2 l2 c2 W h1 h2 hlen hn hlen2 hn2)
  have HIM := Lib.hid (fun A A2 W h1 h2 => implSame_any A l l.length A2 l2 l2.length W h1 h2 hlen (Nat.le_refl _) hlm hn hlen2 (Nat.le_refl _) hlm2 hn2)
  generalize sameSegs l l2 = d at HSP HIM
  go_enter Try.func9, Try.ntmps9
  go_wp2_with fail
  refine (szSegmentS_any _ _ _ _ HW.out hl hn).mono ?_
  rintro e w1 ⟨rfl, hb1⟩
  have HB1 := Lib.hid hb1
  clear hb1
  generalize sizeLeft l = lft at *
  go_wp2_with fail
  refine (szSegmentS_left A2 l2 c2 lft _ ((HT.out.below HB1.out).more HB1.out.size) hl2 hn2 (by omega) hsl).mono ?_
  rintro e w2 ⟨rfl, hb2⟩
  have HB2 : Hid (Below w.heap.size w w2) := HB1.out.trans (hb2.mono HB1.out.size)
  clear hb2
  go_wp2_with fail
  refine (toSegmentS_any _ _ _ _ ((HW.out.below HB2.out).more HB2.out.size) hlen).mono ?_
  rintro e w3 ⟨rfl, hb3, hx3⟩
  have HB3 : Hid (Below w.heap.size w w3) := HB2.out.trans (hb3.mono HB2.out.size)
  have HX := Lib.hid hx3
  clear hb3 hx3 HB2
  go_wp2_with fail
  refine (toSegmentS_any _ _ _ _ ((HT.out.below HB3.out).more HB3.out.size) hlen2).mono ?_
  rintro e w4 ⟨rfl, hb4, hx4⟩
  have HB4 : Hid (Below w.heap.size w w4) := HB3.out.trans (hb4.mono HB3.out.size)
  have HY : Hid (Segs w4 w4.heap.size (some ⟨w3.heap.size, 0, none⟩) l2) := hx4
  have HX := Lib.hid ((HX.out.below hb4).more hb4.size)
  clear hb4 hx4 HB3
  go_wp2_with fail
  refine (HSP.out _ _ _ _ _ HX.out HY.out).mono ?_
  rintro e w5 ⟨rfl, hb5⟩
  have HB5 : Hid (Below w.heap.size w w5) := HB4.out.trans (hb5.mono HB4.out.size)
  clear hb5 HX HY HB4 HSP
  go_wp2_with fail
  refine (toSegmentS_any _ _ _ _ ((HW.out.below HB5.out).more HB5.out.size) hlen).mono ?_
  rintro e w6 ⟨rfl, hb6, hx6⟩
  have HB6 : Hid (Below w.heap.size w w6) := HB5.out.trans (hb6.mono HB5.out.size)
  have HX := Lib.hid hx6
  clear hb6 hx6 HB5
  go_wp2_with fail
  refine (toSegmentS_any _ _ _ _ ((HT.out.below HB6.out).more HB6.out.size) hlen2).mono ?_
  rintro e w7 ⟨rfl, hb7, hx7⟩
  have HB7 : Hid (Below w.heap.size w w7) := HB6.out.trans (hb7.mono HB6.out.size)
  have HY : Hid (Segs w7 w7.heap.size (some ⟨w6.heap.size, 0, none⟩) l2) := hx7
  have HX := Lib.hid ((HX.out.below hb7).more hb7.size)
  clear hb7 hx7 HB6
  go_wp2_with fail
  refine (HIM.out _ _ _ HX.out HY.out).mono ?_
  rintro e w8 ⟨rfl, hb8⟩
  have HB8 : Hid (Below w.heap.size w w8) := HB7.out.trans (hb8.mono HB7.out.size)
  have HX := Lib.hid ((HX.out.below hb8).more hb8.size)
  have HY := Lib.hid ((HY.out.below hb8).more hb8.size)
  clear hb8 HB7 HIM
  go_wp2_with fail
  refine (toSegmentS_any _ _ _ _ ((HW.out.below HB8.out).more HB8.out.size) hlen).mono ?_
  rintro e w9 ⟨rfl, hb9, hx9⟩
  have HB9 : Hid (Below w.heap.size w w9) := HB8.out.trans (hb9.mono HB8.out.size)
  have HX2 := Lib.hid hx9
  have HX := Lib.hid ((HX.out.below hb9).more hb9.size)
  have HY := Lib.hid ((HY.out.below hb9).more hb9.size)
  clear hb9 hx9 HB8
  go_wp2_with fail
  refine (eqSegmentS_same _ _ _ _ _ _ HX.out HX2.out hlen).mono ?_
  rintro e w10 ⟨rfl, hb10⟩
  have HB10 : Hid (Below w.heap.size w w10) := HB9.out.trans (hb10.mono HB9.out.size)
  have HY := Lib.hid ((HY.out.below hb10).more hb10.size)
  clear hb10 HB9 HX HX2
  go_wp2_with fail
  refine (toSegmentS_any _ _ _ _ ((HT.out.below HB10.out).more HB10.out.size) hlen2).mono ?_
  rintro e w11 ⟨rfl, hb11, hx11⟩
  have HB11 : Hid (Below w.heap.size w w11) := HB10.out.trans (hb11.mono HB10.out.size)
  have HY2 : Hid (Segs w11 w11.heap.size (some ⟨w10.heap.size, 0, none⟩) l2) := hx11
  have HY := Lib.hid ((HY.out.below hb11).more hb11.size)
  clear hb11 hx11 HB10
  go_wp2_with fail
  refine (eqSegmentS_same _ _ _ _ _ _ HY.out HY2.out hlen2).mono ?_
  rintro e w12 ⟨rfl, hb12⟩
  have HB12 : Hid (Below w.heap.size w w12) := HB11.out.trans (hb12.mono HB11.out.size)
  clear hb12 HB11 HY HY2
  go_wp2
  go_ret
  exact ⟨rfl, HB12.out⟩

end Go.Proofs.Ytbmfbnlmdjnddaa
