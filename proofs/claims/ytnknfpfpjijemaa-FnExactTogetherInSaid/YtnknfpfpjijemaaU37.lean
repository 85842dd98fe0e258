/- Joined: Id Ie If Ig. -/
import Derived.Test.YtnknfpfpjijemaaU36
import Derived.Test.YtnknfpfpjijemaaU25
import Derived.Test.YtnknfpfpjijemaaU15
import Derived.Test.YtnknfpfpjijemaaU35
/- The walk of the law FnExactGraphSafe. -/
namespace Go.Proofs.Ytnknfpfpjijemaa
open Go.RowKit

set_option maxRecDepth 100000 in
set_option maxHeartbeats 1000000 in
theorem lawGraphSafe_any (A : Option Addr) (l : List Seg) (c : Nat) (A2 : Option Addr) (ts : List ByteArray) (c2 : Nat) (w : World) (hw : Segs w w.heap.size A l) (hl : l.length ≤ maxLen) (hn : Short l) (ht : St.Strs w w.heap.size A2 ts) (htl : ts.length ≤ maxLen) (hts : Shorts ts) :
    Calls Try.prog 7 #[.slice A l.length c, .slice A2 ts.length c2] w fun e w' => e = .returned (.bool true) ∧ Below w.heap.size w w' := by
  have HW : Hid (Segs w w.heap.size A l) := hw
  have HT : Hid (St.Strs w w.heap.size A2 ts) := ht
  clear hw ht
  by_cases hs : sizeLeft l < 0
  · go_enter Try.func7, Try.ntmps7
    go_wp2_with fail
    refine (szSegmentS_any _ _ _ _ HW.out hl hn).mono ?_
    rintro e w1 ⟨rfl, hb1⟩
    go_wp2
    go_ret
    exact ⟨rfl, hb1⟩
  have hlen := sizeLeft_len hs
  have hsl := sizeLeft_le l
  have hlm : l.length ≤ 9223372036854775807 := Nat.le_trans hlen (by decide)
  by_cases hs2 : textsLeft ts (sizeLeft l) < 0
  · go_enter Try.func7, Try.ntmps7
    go_wp2_with fail
    refine (szSegmentS_any _ _ _ _ HW.out hl hn).mono ?_
    rintro e w1 ⟨rfl, hb1⟩
    have HB1 := Lib.hid hb1
    clear hb1
    generalize sizeLeft l = lft at *
    go_wp2_with fail
    refine (szStringS_any A2 ts c2 lft _ ((HT.out.below HB1.out).more HB1.out.size) htl hts (by omega) hsl).mono ?_
    rintro e w2 ⟨rfl, hb2⟩
    have HB2 : Hid (Below w.heap.size w w2) := HB1.out.trans (hb2.mono HB1.out.size)
    clear hb2
    go_wp2
    go_ret
    exact ⟨rfl, HB2.out⟩
  obtain ⟨htl1, hts1⟩ := textsLeft_ok hsl hs2
  have HSP := Lib.hid (fun A A2 c c2 W h1 h2 => specGsafe_any A l c A2 ts c2 W h1 h2 hlen hn htl1 hts1)
  have HIM := Lib.hid (fun A A2 c2 W h1 h2 => implGsafe_any A l l.length A2 ts c2 W h1 h2 hlen (Nat.le_refl _) hlm hn htl1 hts1)
  generalize gsafeB l ts = ans at HSP HIM
  go_enter Try.func7, Try.ntmps7
  go_wp2_with fail
  refine (szSegmentS_any _ _ _ _ HW.out hl hn).mono ?_
  rintro e w1 ⟨rfl, hb1⟩
  have HB1 := Lib.hid hb1
  clear hb1
  generalize sizeLeft l = lft at *
  go_wp2_with fail
  refine (szStringS_any A2 ts c2 lft _ ((HT.out.below HB1.out).more HB1.out.size) htl hts (by omega) hsl).mono ?_
  rintro e w2 ⟨rfl, hb2⟩
  have HB2 : Hid (Below w.heap.size w w2) := HB1.out.trans (hb2.mono HB1.out.size)
  clear hb2
  go_wp2_with fail
  refine (toSegmentS_any _ _ _ _ ((HW.out.below HB2.out).more HB2.out.size) hlen).mono ?_
  rintro e w3 ⟨rfl, hb3, hx3⟩
  have HB3 : Hid (Below w.heap.size w w3) := HB2.out.trans (hb3.mono HB2.out.size)
  have HX := Lib.hid hx3
  clear hb3 hx3 HB2
  go_wp2_with fail
  refine (toStringS_any _ _ _ _ ((HT.out.below HB3.out).more HB3.out.size) htl1).mono ?_
  rintro e w4 ⟨rfl, hb4, hx4⟩
  have HB4 : Hid (Below w.heap.size w w4) := HB3.out.trans (hb4.mono HB3.out.size)
  have HY : Hid (St.Strs w4 w4.heap.size (some ⟨w3.heap.size, 0, none⟩) ts) := strsOf hx4
  have HX := Lib.hid ((HX.out.below hb4).more hb4.size)
  clear hb4 hx4 HB3
  go_wp2_with fail
  refine (HSP.out _ _ _ _ _ HX.out HY.out).mono ?_
  rintro e w5 ⟨rfl, hb5⟩
  have HB5 : Hid (Below w.heap.size w w5) := HB4.out.trans (hb5.mono HB4.out.size)
  clear hb5 HX HY HB4 HSP
  go_wp2_with fail
  refine (toSegmentS_any _ _ _ _ ((HW.out.below HB5.out).more HB5.out.size) hlen).mono ?_
  rintro e w6 ⟨rfl, hb6, hx6⟩
  have HB6 : Hid (Below w.heap.size w w6) := HB5.out.trans (hb6.mono HB5.out.size)
  have HX := Lib.hid hx6
  clear hb6 hx6 HB5
  go_wp2_with fail
  refine (toStringS_any _ _ _ _ ((HT.out.below HB6.out).more HB6.out.size) htl1).mono ?_
  rintro e w7 ⟨rfl, hb7, hx7⟩
  have HB7 : Hid (Below w.heap.size w w7) := HB6.out.trans (hb7.mono HB6.out.size)
  have HY : Hid (St.Strs w7 w7.heap.size (some ⟨w6.heap.size, 0, none⟩) ts) := strsOf hx7
  have HX := Lib.hid ((HX.out.below hb7).more hb7.size)
  clear hb7 hx7 HB6
  go_wp2_with fail
  refine (HIM.out _ _ _ _ HX.out HY.out).mono ?_
  rintro e w8 ⟨rfl, hb8⟩
  have HB8 : Hid (Below w.heap.size w w8) := HB7.out.trans (hb8.mono HB7.out.size)
  have HX := Lib.hid ((HX.out.below hb8).more hb8.size)
  have HY := Lib.hid ((HY.out.below hb8).more hb8.size)
  clear hb8 HB7 HIM
  go_wp2_with fail
  refine (toSegmentS_any _ _ _ _ ((HW.out.below HB8.out).more HB8.out.size) hlen).mono ?_
  rintro e w9 ⟨rfl, hb9, hx9⟩
  have HB9 : Hid (Below w.heap.size w w9) := HB8.out.trans (hb9.mono HB8.out.size)
  have HX2 := Lib.hid hx9
  have HX := Lib.hid ((HX.out.below hb9).more hb9.size)
  have HY := Lib.hid ((HY.out.below hb9).more hb9.size)
  clear hb9 hx9 HB8
  go_wp2_with fail
  refine (eqSegmentS_same _ _ _ _ _ _ HX.out HX2.out hlen).mono ?_
  rintro e w10 ⟨rfl, hb10⟩
  have HB10 : Hid (Below w.heap.size w w10) := HB9.out.trans (hb10.mono HB9.out.size)
  have HY := Lib.hid ((HY.out.below hb10).more hb10.size)
  clear hb10 HB9 HX HX2
  go_wp2_with fail
  refine (toStringS_any _ _ _ _ ((HT.out.below HB10.out).more HB10.out.size) htl1).mono ?_
  rintro e w11 ⟨rfl, hb11, hx11⟩
  have HB11 : Hid (Below w.heap.size w w11) := HB10.out.trans (hb11.mono HB10.out.size)
  have HY2 : Hid (St.Strs w11 w11.heap.size (some ⟨w10.heap.size, 0, none⟩) ts) := strsOf hx11
  have HY := Lib.hid ((HY.out.below hb11).more hb11.size)
  clear hb11 hx11 HB10
  go_wp2_with fail
  refine (St.eqStringS_same _ _ _ _ _ _ HY.out HY2.out htl1).mono ?_
  rintro e w12 ⟨rfl, hb12⟩
  have HB12 : Hid (Below w.heap.size w w12) := HB11.out.trans (hb12.mono HB11.out.size)
  clear hb12 HB11 HY HY2
  go_wp2
  go_ret
  exact ⟨rfl, HB12.out⟩

end Go.Proofs.Ytnknfpfpjijemaa
/- Marks in a row of texts whose own texts don't matter. -/
namespace Go.Proofs.Ytnknfpfpjijemaa
open Go.RowKit

theorem rowOf_texts {W : World} {B g n : Nat} {ts : List ByteArray} (h : OwnTexts W B (.slice (some ⟨g, 0, none⟩) ts.length n) ts) : ∃ cs, Row W g 9 cs ∧ ts.length ≤ cs.size := by
  rcases h.2 with ⟨h0, _⟩ | ⟨g', cap', cur, e, hB, hh, h1, h2, h3, h4⟩
  · cases h0
  · injection e with e1 _ e3
    injection e1 with e1
    injection e1 with e1
    subst e1 e3
    exact ⟨cur, hh, by omega⟩
namespace St
set_option maxRecDepth 100000 in
set_option maxHeartbeats 2000000 in
theorem markStringS_only (k g n cap : Nat) (cs : Array Value) (w : World) (hr : Row w g 9 cs) (hc : n ≤ cs.size) (h0k : 0 < k) (hk9 : k ≤ 4000000) (hn : n ≤ 1048576) :
    Calls Try.prog 28 #[.slice (some ⟨g, 0, none⟩) n cap, .int .i64 k] w fun e w' => e = .returned (.int .i64 ((k + n : Nat) : Int)) ∧ Only w w' (· = g) := by
  have HR0 : Hid (Row w g 9 cs) := hr
  clear hr
  go_enter Try.func28, Try.ntmps28
  go_wp2
  go_loopw [1, 5] (fun a c wr => ∃ (i : Nat) (cs' : Array Value), i ≤ n ∧ c = .int .i64 i ∧ a = .int .i64 ((k + i : Nat) : Int) ∧ n ≤ cs'.size ∧ Hid (Row wr g 9 cs') ∧ Hid (Only w wr (· = g)))
    (fun _ c _ => n - (intOf c).toNat)
  case atStart => exact ⟨0, cs, Nat.zero_le _, rfl, rfl, hc, HR0, onlyRefl _ _⟩
  case round =>
    obtain ⟨i, cs', hi, rfl, rfl, hz, HR, HY⟩ := hrel
    by_cases hlt : i < n
    · have hlt' : (i : Int) < (n : Int) := by omega
      have hi0 : (0 : Int) ≤ (i : Int) := Int.natCast_nonneg _
      go_wp2_with fail
      refine (markText_any (k + i) _ (by omega) (by omega)).mono ?_
      rintro e w1 ⟨rfl, hb1⟩
      have hr1 := HR.out.below hb1 HR.out.lt
      have z0 := hr1.free i
      have d0 : w1.cell? ⟨g, i, none⟩ = some (cs'[i]'(by omega)) := by rw [hr1.cell, Array.getElem?_eq_getElem]
      have HR2 : Hid (∀ u0, Row (w1.setCell ⟨g, i, none⟩ u0) g 9 (cs'.setIfInBounds i u0)) := fun u0 => hr1.put _ _
      have HZ2 : Hid (∀ u0, n ≤ (cs'.setIfInBounds i u0).size) := fun u0 => by simpa using hz
      have HY1 : Hid (Only w w1 (· = g)) := onlyBelow HY.out hb1
      clear hr1 hb1 HR HY
      generalize cs'[i]'_ = v0 at *
      generalize mt (k + i) = mm at *
      clear hz
      go_wp2
      go_roundw
      case rel => exact ⟨i + 1, _, by omega, by go_num, congrArg (Value.int .i64) (by omega), HZ2.out _, HR2.out _, onlyPut HY1.out rfl _ _⟩
      case measure => simp [intOf]; omega
    · obtain rfl : i = n := by omega
      go_wp2
      go_ret
      exact ⟨rfl, HY.out⟩
end St

end Go.Proofs.Ytnknfpfpjijemaa
/- The walk of the law FnExactTogetherIn. -/
namespace Go.Proofs.Ytnknfpfpjijemaa
open Go.RowKit

set_option maxRecDepth 100000 in
set_option maxHeartbeats 4000000 in
theorem lawTogetherIn_any (A : Option Addr) (l : List Seg) (c : Nat) (A2 : Option Addr) (ts : List ByteArray) (c2 : Nat) (w : World) (hw : Segs w w.heap.size A l) (hl : l.length ≤ maxLen) (hn : Short l) (ht : St.Strs w w.heap.size A2 ts) (htl : ts.length ≤ maxLen) (hts : Shorts ts) :
    Calls Try.prog 6 #[.slice A l.length c, .slice A2 ts.length c2] w fun e w' => e = .returned (.bool true) ∧ Below w.heap.size w w' := by
  have HW : Hid (Segs w w.heap.size A l) := hw
  have HT : Hid (St.Strs w w.heap.size A2 ts) := ht
  clear hw ht
  by_cases hs : sizeLeft l < 0
  · go_enter Try.func6, Try.ntmps6
    go_wp2_with fail
    refine (szSegmentS_any _ _ _ _ HW.out hl hn).mono ?_
    rintro e w1 ⟨rfl, hb1⟩
    go_wp2
    go_ret
    exact ⟨rfl, hb1⟩
  have hlen := sizeLeft_len hs
  have hsl := sizeLeft_le l
  have hlm : l.length ≤ 9223372036854775807 := Nat.le_trans hlen (by decide)
  by_cases hs2 : textsLeft ts (sizeLeft l) < 0
  · go_enter Try.func6, Try.ntmps6
    go_wp2_with fail
    refine (szSegmentS_any _ _ _ _ HW.out hl hn).mono ?_
    rintro e w1 ⟨rfl, hb1⟩
    have HB1 := Lib.hid hb1
    clear hb1
    generalize sizeLeft l = lft at *
    go_wp2_with fail
    refine (szStringS_any A2 ts c2 lft _ ((HT.out.below HB1.out).more HB1.out.size) htl hts (by omega) hsl).mono ?_
    rintro e w2 ⟨rfl, hb2⟩
    have HB2 : Hid (Below w.heap.size w w2) := HB1.out.trans (hb2.mono HB1.out.size)
    clear hb2
    go_wp2
    go_ret
    exact ⟨rfl, HB2.out⟩
  obtain ⟨htl1, hts1⟩ := textsLeft_ok hsl hs2
  have HSP := Lib.hid (fun A A2 c c2 W h1 h2 => specTogether_any A l c A2 ts c2 W h1 h2 hlen hn htl1 hts1)
  have HIM := Lib.hid (fun A A2 c2 W h1 h2 => implTogether_any A l l.length A2 ts c2 W h1 h2 hlen (Nat.le_refl _) hlm hn htl1 hts1)
  unfold TogPost at HSP HIM
  have hrs := (fun (l : List Seg) (ts : List ByteArray) => (by unfold togRes; rw [List.length_map]; exact togTxt_len l ts : (togRes l ts).length ≤ 160)) l ts
  generalize togRes l ts = rs at *
  generalize graphB l ts = d at *
  go_enter Try.func6, Try.ntmps6
  go_wp2_with fail
  refine (szSegmentS_any _ _ _ _ HW.out hl hn).mono ?_
  rintro e w1 ⟨rfl, hb1⟩
  have HB1 := Lib.hid hb1
  clear hb1
  generalize sizeLeft l = lft at *
  go_wp2_with fail
  refine (szStringS_any A2 ts c2 lft _ ((HT.out.below HB1.out).more HB1.out.size) htl hts (by omega) hsl).mono ?_
  rintro e w2 ⟨rfl, hb2⟩
  have HB2 : Hid (Below w.heap.size w w2) := HB1.out.trans (hb2.mono HB1.out.size)
  clear hb2 HB1
  go_wp2_with fail
  refine (toSegmentS_any _ _ _ _ ((HW.out.below HB2.out).more HB2.out.size) hlen).mono ?_
  rintro e w3 ⟨rfl, hb3, hx3⟩
  have HX := Lib.hid hx3
  clear hx3
  have HB3 : Hid (Below w.heap.size w w3) := HB2.out.trans (hb3.mono HB2.out.size)
  clear hb3 HB2
  go_wp2_with fail
  refine (toStringS_any _ _ _ _ ((HT.out.below HB3.out).more HB3.out.size) htl1).mono ?_
  rintro e w4 ⟨rfl, hb4, hx4⟩
  have HY : Hid (St.Strs w4 w4.heap.size (some ⟨w3.heap.size, 0, none⟩) ts) := strsOf hx4
  clear hx4
  have HB4 : Hid (Below w.heap.size w w4) := HB3.out.trans (hb4.mono HB3.out.size)
  have HX := Lib.hid ((HX.out.below hb4).more hb4.size)
  clear hb4 HB3
  go_wp2_with fail
  refine (HSP.out _ _ _ _ _ HX.out HY.out).mono ?_
  rintro e w5 ⟨v0, rfl, ho5, hb5⟩
  obtain ⟨A0, cap0, rfl, -⟩ := St.textsForm ho5
  have HO : Hid (OwnTexts w5 w4.heap.size (.slice A0 rs.length cap0) rs) := ho5
  have HL : Hid (∀ g, (Value.slice A0 rs.length cap0).ownBlock = some g → g < w5.heap.size) := fun g hg => (World.ownsRow.lt ho5 g hg).2
  have HZ5 : Hid (w.heap.size ≤ w5.heap.size) := Nat.le_trans HB4.out.size hb5.size
  clear ho5 HX HY HSP
  have HB5 : Hid (Below w.heap.size w w5) := HB4.out.trans (hb5.mono HB4.out.size)
  clear hb5 HB4
  go_wp2_with fail
  refine (St.toSegmentS_row _ _ _ _ ((HW.out.below HB5.out).more HB5.out.size) hlen).mono ?_
  rintro e w6 ⟨rfl, hb6, hx6, cs, hr6, hcs⟩
  have HX := Lib.hid hx6
  have HR := Lib.hid hr6
  have HCS := Lib.hid hcs
  have HZ6 : Hid (w5.heap.size < w6.heap.size) := hr6.lt
  clear hx6 hr6 hcs
  have HB6 : Hid (Below w.heap.size w w6) := HB5.out.trans (hb6.mono HB5.out.size)
  have HO := Lib.hid (HO.out.below hb6)
  clear hb6 HB5
  go_wp2_with fail
  refine (toStringS_any _ _ _ _ ((HT.out.below HB6.out).more HB6.out.size) htl1).mono ?_
  rintro e w7 ⟨rfl, hb7, hx7⟩
  have HY : Hid (St.Strs w7 w7.heap.size (some ⟨w6.heap.size, 0, none⟩) ts) := strsOf hx7
  obtain ⟨ct, hct, hcz⟩ := rowOf_texts hx7
  have HTR := Lib.hid hct
  have HCT := Lib.hid hcz
  have HZ7 : Hid (w6.heap.size < w7.heap.size) := hct.lt
  clear hx7 hct hcz
  have HB7 : Hid (Below w.heap.size w w7) := HB6.out.trans (hb7.mono HB6.out.size)
  have HO := Lib.hid (HO.out.below hb7)
  have HX := Lib.hid ((HX.out.below hb7).more hb7.size)
  have HR := Lib.hid (HR.out.below hb7 HR.out.lt)
  clear hb7 HB6
  go_wp2_with fail
  refine (HIM.out _ _ _ _ HX.out HY.out).mono ?_
  rintro e w8 ⟨v1, rfl, ho8, hb8⟩
  obtain ⟨A1, cap1, rfl, -⟩ := St.textsForm ho8
  have HP : Hid (OwnTexts w8 w7.heap.size (.slice A1 rs.length cap1) rs) := ho8
  clear ho8
  have HB8 : Hid (Below w.heap.size w w8) := HB7.out.trans (hb8.mono HB7.out.size)
  have HO := Lib.hid (HO.out.below hb8)
  have HX := Lib.hid ((HX.out.below hb8).more hb8.size)
  have HR := Lib.hid (HR.out.below hb8 HR.out.lt)
  have HY := Lib.hid ((HY.out.below hb8).more hb8.size)
  have HTR := Lib.hid (HTR.out.below hb8 HTR.out.lt)
  clear hb8 HB7
  go_wp2_with fail
  refine (St.eqStringS_same A1 A0 rs cap1 cap0 w8 (strsOf HP.out) (strsOf HO.out) (by omega)).mono ?_
  rintro e w9 ⟨rfl, hb9⟩
  have HB9 : Hid (Below w.heap.size w w9) := HB8.out.trans (hb9.mono HB8.out.size)
  have HO := Lib.hid (HO.out.below hb9)
  have HX := Lib.hid ((HX.out.below hb9).more hb9.size)
  have HR := Lib.hid (HR.out.below hb9 HR.out.lt)
  have HY := Lib.hid ((HY.out.below hb9).more hb9.size)
  have HTR := Lib.hid (HTR.out.below hb9 HTR.out.lt)
  have HP := Lib.hid (HP.out.below hb9)
  clear hb9 HB8
  go_wp2_with fail
  refine (toSegmentS_any _ _ _ _ ((HW.out.below HB9.out).more HB9.out.size) hlen).mono ?_
  rintro e w10 ⟨rfl, hb10, hx10⟩
  have HX2 := Lib.hid hx10
  clear hx10
  have HB10 : Hid (Below w.heap.size w w10) := HB9.out.trans (hb10.mono HB9.out.size)
  have HO := Lib.hid (HO.out.below hb10)
  have HX := Lib.hid ((HX.out.below hb10).more hb10.size)
  have HR := Lib.hid (HR.out.below hb10 HR.out.lt)
  have HY := Lib.hid ((HY.out.below hb10).more hb10.size)
  have HTR := Lib.hid (HTR.out.below hb10 HTR.out.lt)
  have HP := Lib.hid (HP.out.below hb10)
  clear hb10 HB9
  go_wp2_with fail
  refine (eqSegmentS_same _ _ _ _ _ _ HX.out HX2.out hlen).mono ?_
  rintro e w11 ⟨rfl, hb11⟩
  have HB11 : Hid (Below w.heap.size w w11) := HB10.out.trans (hb11.mono HB10.out.size)
  have HO := Lib.hid (HO.out.below hb11)
  have HR := Lib.hid (HR.out.below hb11 HR.out.lt)
  have HY := Lib.hid ((HY.out.below hb11).more hb11.size)
  have HTR := Lib.hid (HTR.out.below hb11 HTR.out.lt)
  have HP := Lib.hid (HP.out.below hb11)
  clear hb11 HB10
  clear HX HX2
  go_wp2_with fail
  refine (toStringS_any _ _ _ _ ((HT.out.below HB11.out).more HB11.out.size) htl1).mono ?_
  rintro e w12 ⟨rfl, hb12, hx12⟩
  have HY2 : Hid (St.Strs w12 w12.heap.size (some ⟨w11.heap.size, 0, none⟩) ts) := strsOf hx12
  clear hx12
  have HB12 : Hid (Below w.heap.size w w12) := HB11.out.trans (hb12.mono HB11.out.size)
  have HO := Lib.hid (HO.out.below hb12)
  have HR := Lib.hid (HR.out.below hb12 HR.out.lt)
  have HY := Lib.hid ((HY.out.below hb12).more hb12.size)
  have HTR := Lib.hid (HTR.out.below hb12 HTR.out.lt)
  have HP := Lib.hid (HP.out.below hb12)
  clear hb12 HB11
  go_wp2_with fail
  refine (St.eqStringS_same _ _ _ _ _ w12 HY.out HY2.out htl1).mono ?_
  rintro e w13 ⟨rfl, hb13⟩
  have HB13 : Hid (Below w.heap.size w w13) := HB12.out.trans (hb13.mono HB12.out.size)
  have HO := Lib.hid (HO.out.below hb13)
  have HR := Lib.hid (HR.out.below hb13 HR.out.lt)
  have HTR := Lib.hid (HTR.out.below hb13 HTR.out.lt)
  have HP := Lib.hid (HP.out.below hb13)
  clear hb13 HB12
  clear HY HY2
  go_wp2_with fail
  refine (mark1 w5.heap.size l.length l.length cs w13 HR.out HCS.out hlen).mono ?_
  rintro e w14 ⟨rfl, hy14⟩
  have HB14 : Hid (Below w.heap.size w w14) := Only.below HB13.out hy14 HB13.out.size (fun k hk e => by have := HZ5.out; omega)
  have HO := Lib.hid (St.textsFar HO.out hy14 (fun g hg e => by have := HL.out g hg; omega))
  have HP := Lib.hid (St.textsFar HP.out hy14 (fun g hg e => by have := (World.ownsRow.lt HP.out g hg).1; have := HZ6.out; have := HZ7.out; omega))
  have HTR := Lib.hid (hy14.row HTR.out (by have := HZ6.out; omega))
  clear hy14 HR HCS HB13
  have hk0 : 0 < 1 + 3 * l.length := by omega
  have hk9 : 1 + 3 * l.length ≤ 4000000 := by omega
  have hkn : (0 : Int) ≤ ((1 + 3 * l.length + ts.length : Nat) : Int) := Int.natCast_nonneg _
  have hkn' : ¬ ((1 + 3 * l.length + ts.length : Nat) : Int) < 0 := by omega
  generalize 1 + 3 * l.length = kq at *
  go_wp2_with fail
  refine (St.markStringS_only kq w6.heap.size ts.length ts.length ct w14 HTR.out HCT.out hk0 hk9 htl1).mono ?_
  rintro e w15 ⟨rfl, hy15⟩
  have HB15 : Hid (Below w.heap.size w w15) := Only.below HB14.out hy15 HB14.out.size (fun k hk e => by have := HZ5.out; have := HZ6.out; omega)
  have HO := Lib.hid (St.textsFar HO.out hy15 (fun g hg e => by have := HL.out g hg; have := HZ6.out; omega))
  have HP := Lib.hid (St.textsFar HP.out hy15 (fun g hg e => by have := (World.ownsRow.lt HP.out g hg).1; have := HZ7.out; omega))
  clear hy15 HTR HCT HB14
  generalize ((kq + ts.length : Nat) : Int) = kt at *
  go_wp2_with fail
  refine (St.eqStringS_same A1 A0 rs cap1 cap0 w15 (strsOf HP.out) (strsOf HO.out) (by omega)).mono ?_
  rintro e w16 ⟨rfl, hb16⟩
  have HB16 : Hid (Below w.heap.size w w16) := HB15.out.trans (hb16.mono HB15.out.size)
  have HO := Lib.hid (HO.out.below hb16)
  have HP := Lib.hid (HP.out.below hb16)
  clear hb16 HB15
  go_wp2_with fail
  refine (smark1 _ _ rs w16 HP.out (by omega)).mono ?_
  rintro e w17 ⟨rfl, ho17, hy17⟩
  have HB17 : Hid (Below w.heap.size w w17) := Only.below HB16.out hy17 HB16.out.size (fun k hk e => by have := (World.ownsRow.lt HP.out k e).1; have := HZ5.out; have := HZ6.out; have := HZ7.out; omega)
  have HO := Lib.hid (St.textsFar HO.out hy17 (fun g hg e => by have := HL.out g hg; have := (World.ownsRow.lt HP.out g e).1; have := HZ6.out; have := HZ7.out; omega))
  have HM : Hid (St.Strs w17 w17.heap.size A1 (St.smarked rs 1 rs.length)) := strsOf ho17
  clear ho17 hy17 HB16 HP
  have hm1 : ¬ ((1 + rs.length : Nat) : Int) < 0 := by omega
  have hm0 : (0 : Int) ≤ ((1 + rs.length : Nat) : Int) := by omega
  have HH := Lib.hid (fun W h => sheld1 A1 rs.length cap1 rs W rfl h (by omega))
  generalize ((1 + rs.length : Nat) : Int) = m at *
  go_wp2_with fail
  refine Calls.mono (HH.out w17 HM.out) ?_
  rintro e w18 ⟨rfl, hb18⟩
  have HB18 : Hid (Below w.heap.size w w18) := HB17.out.trans (hb18.mono HB17.out.size)
  have HO := Lib.hid (HO.out.below hb18)
  have HM := Lib.hid ((HM.out.below hb18).more hb18.size)
  clear hb18 HB17
  go_wp2_with fail
  refine (toSegmentS_any _ _ _ _ ((HW.out.below HB18.out).more HB18.out.size) hlen).mono ?_
  rintro e w19 ⟨rfl, hb19, hx19⟩
  have HX := Lib.hid hx19
  clear hx19
  have HB19 : Hid (Below w.heap.size w w19) := HB18.out.trans (hb19.mono HB18.out.size)
  have HO := Lib.hid (HO.out.below hb19)
  have HM := Lib.hid ((HM.out.below hb19).more hb19.size)
  clear hb19 HB18
  go_wp2_with fail
  refine (toStringS_any _ _ _ _ ((HT.out.below HB19.out).more HB19.out.size) htl1).mono ?_
  rintro e w20 ⟨rfl, hb20, hx20⟩
  have HY : Hid (St.Strs w20 w20.heap.size (some ⟨w19.heap.size, 0, none⟩) ts) := strsOf hx20
  clear hx20
  have HB20 : Hid (Below w.heap.size w w20) := HB19.out.trans (hb20.mono HB19.out.size)
  have HO := Lib.hid (HO.out.below hb20)
  have HM := Lib.hid ((HM.out.below hb20).more hb20.size)
  have HX := Lib.hid ((HX.out.below hb20).more hb20.size)
  clear hb20 HB19
  go_wp2_with fail
  refine (HIM.out _ _ _ _ HX.out HY.out).mono ?_
  rintro e w21 ⟨v2, rfl, ho21, hb21⟩
  obtain ⟨A3, cap3, rfl, hf21⟩ := St.textsForm ho21
  have HV := Lib.hid hf21
  clear ho21 hf21 HX HY
  have HB21 : Hid (Below w.heap.size w w21) := HB20.out.trans (hb21.mono HB20.out.size)
  have HO := Lib.hid (HO.out.below hb21)
  have HM := Lib.hid ((HM.out.below hb21).more hb21.size)
  clear hb21 HB20
  go_wp2_with fail
  refine (St.eqStringS_same A3 A0 rs cap3 cap0 w21 HV.out (strsOf HO.out) (by omega)).mono ?_
  rintro e w22 ⟨rfl, hb22⟩
  have HB22 : Hid (Below w.heap.size w w22) := HB21.out.trans (hb22.mono HB21.out.size)
  have HM := Lib.hid ((HM.out.below hb22).more hb22.size)
  clear hb22 HB21
  clear HV HO
  go_wp2_with fail
  refine Calls.mono (HH.out w22 HM.out) ?_
  rintro e w23 ⟨rfl, hb23⟩
  have HB23 : Hid (Below w.heap.size w w23) := HB22.out.trans (hb23.mono HB22.out.size)
  clear hb23 HB22
  go_wp2
  go_ret
  exact ⟨rfl, HB23.out⟩

end Go.Proofs.Ytnknfpfpjijemaa
/- The walk of the law FnExactClashesOf. -/
namespace Go.Proofs.Ytnknfpfpjijemaa
open Go.RowKit

set_option maxRecDepth 100000 in
set_option maxHeartbeats 4000000 in
theorem lawClashesOf_any (A : Option Addr) (l : List Seg) (c : Nat) (A2 : Option Addr) (ts : List ByteArray) (c2 : Nat) (w : World) (hw : Segs w w.heap.size A l) (hl : l.length ≤ maxLen) (hn : Short l) (ht : St.Strs w w.heap.size A2 ts) (htl : ts.length ≤ maxLen) (hts : Shorts ts) :
    Calls Try.prog 8 #[.slice A l.length c, .slice A2 ts.length c2] w fun e w' => e = .returned (.bool true) ∧ Below w.heap.size w w' := by
  have HW : Hid (Segs w w.heap.size A l) := hw
  have HT : Hid (St.Strs w w.heap.size A2 ts) := ht
  clear hw ht
  by_cases hs : sizeLeft l < 0
  · go_enter Try.func8, Try.ntmps8
    go_wp2_with fail
    refine (szSegmentS_any _ _ _ _ HW.out hl hn).mono ?_
    rintro e w1 ⟨rfl, hb1⟩
    go_wp2
    go_ret
    exact ⟨rfl, hb1⟩
  have hlen := sizeLeft_len hs
  have hsl := sizeLeft_le l
  have hlm : l.length ≤ 9223372036854775807 := Nat.le_trans hlen (by decide)
  by_cases hs2 : textsLeft ts (sizeLeft l) < 0
  · go_enter Try.func8, Try.ntmps8
    go_wp2_with fail
    refine (szSegmentS_any _ _ _ _ HW.out hl hn).mono ?_
    rintro e w1 ⟨rfl, hb1⟩
    have HB1 := Lib.hid hb1
    clear hb1
    generalize sizeLeft l = lft at *
    go_wp2_with fail
    refine (szStringS_any A2 ts c2 lft _ ((HT.out.below HB1.out).more HB1.out.size) htl hts (by omega) hsl).mono ?_
    rintro e w2 ⟨rfl, hb2⟩
    have HB2 : Hid (Below w.heap.size w w2) := HB1.out.trans (hb2.mono HB1.out.size)
    clear hb2
    go_wp2
    go_ret
    exact ⟨rfl, HB2.out⟩
  obtain ⟨htl1, hts1⟩ := textsLeft_ok hsl hs2
  have HSP := Lib.hid (fun A A2 c c2 W h1 h2 => specClashes_any A l c A2 ts c2 W h1 h2 hlen hn htl1 hts1)
  have HIM := Lib.hid (fun A A2 c2 W h1 h2 => implClashes_any A l l.length A2 ts c2 W h1 h2 hlen (Nat.le_refl _) hlm hn htl1 hts1)
  unfold ClashPost at HSP HIM
  have hrs := clashRes_len l ts
  generalize clashRes l ts = rs at *
  generalize graphB l ts = d at *
  go_enter Try.func8, Try.ntmps8
  go_wp2_with fail
  refine (szSegmentS_any _ _ _ _ HW.out hl hn).mono ?_
  rintro e w1 ⟨rfl, hb1⟩
  have HB1 := Lib.hid hb1
  clear hb1
  generalize sizeLeft l = lft at *
  go_wp2_with fail
  refine (szStringS_any A2 ts c2 lft _ ((HT.out.below HB1.out).more HB1.out.size) htl hts (by omega) hsl).mono ?_
  rintro e w2 ⟨rfl, hb2⟩
  have HB2 : Hid (Below w.heap.size w w2) := HB1.out.trans (hb2.mono HB1.out.size)
  clear hb2 HB1
  go_wp2_with fail
  refine (toSegmentS_any _ _ _ _ ((HW.out.below HB2.out).more HB2.out.size) hlen).mono ?_
  rintro e w3 ⟨rfl, hb3, hx3⟩
  have HX := Lib.hid hx3
  clear hx3
  have HB3 : Hid (Below w.heap.size w w3) := HB2.out.trans (hb3.mono HB2.out.size)
  clear hb3 HB2
  go_wp2_with fail
  refine (toStringS_any _ _ _ _ ((HT.out.below HB3.out).more HB3.out.size) htl1).mono ?_
  rintro e w4 ⟨rfl, hb4, hx4⟩
  have HY : Hid (St.Strs w4 w4.heap.size (some ⟨w3.heap.size, 0, none⟩) ts) := strsOf hx4
  clear hx4
  have HB4 : Hid (Below w.heap.size w w4) := HB3.out.trans (hb4.mono HB3.out.size)
  have HX := Lib.hid ((HX.out.below hb4).more hb4.size)
  clear hb4 HB3
  go_wp2_with fail
  refine (HSP.out _ _ _ _ _ HX.out HY.out).mono ?_
  rintro e w5 ⟨v0, rfl, ho5, hb5⟩
  obtain ⟨A0, cap0, rfl, -⟩ := St.textsForm ho5
  have HO : Hid (OwnTexts w5 w4.heap.size (.slice A0 rs.length cap0) rs) := ho5
  have HL : Hid (∀ g, (Value.slice A0 rs.length cap0).ownBlock = some g → g < w5.heap.size) := fun g hg => (World.ownsRow.lt ho5 g hg).2
  have HZ5 : Hid (w.heap.size ≤ w5.heap.size) := Nat.le_trans HB4.out.size hb5.size
  clear ho5 HX HY HSP
  have HB5 : Hid (Below w.heap.size w w5) := HB4.out.trans (hb5.mono HB4.out.size)
  clear hb5 HB4
  go_wp2_with fail
  refine (St.toSegmentS_row _ _ _ _ ((HW.out.below HB5.out).more HB5.out.size) hlen).mono ?_
  rintro e w6 ⟨rfl, hb6, hx6, cs, hr6, hcs⟩
  have HX := Lib.hid hx6
  have HR := Lib.hid hr6
  have HCS := Lib.hid hcs
  have HZ6 : Hid (w5.heap.size < w6.heap.size) := hr6.lt
  clear hx6 hr6 hcs
  have HB6 : Hid (Below w.heap.size w w6) := HB5.out.trans (hb6.mono HB5.out.size)
  have HO := Lib.hid (HO.out.below hb6)
  clear hb6 HB5
  go_wp2_with fail
  refine (toStringS_any _ _ _ _ ((HT.out.below HB6.out).more HB6.out.size) htl1).mono ?_
  rintro e w7 ⟨rfl, hb7, hx7⟩
  have HY : Hid (St.Strs w7 w7.heap.size (some ⟨w6.heap.size, 0, none⟩) ts) := strsOf hx7
  obtain ⟨ct, hct, hcz⟩ := rowOf_texts hx7
  have HTR := Lib.hid hct
  have HCT := Lib.hid hcz
  have HZ7 : Hid (w6.heap.size < w7.heap.size) := hct.lt
  clear hx7 hct hcz
  have HB7 : Hid (Below w.heap.size w w7) := HB6.out.trans (hb7.mono HB6.out.size)
  have HO := Lib.hid (HO.out.below hb7)
  have HX := Lib.hid ((HX.out.below hb7).more hb7.size)
  have HR := Lib.hid (HR.out.below hb7 HR.out.lt)
  clear hb7 HB6
  go_wp2_with fail
  refine (HIM.out _ _ _ _ HX.out HY.out).mono ?_
  rintro e w8 ⟨v1, rfl, ho8, hb8⟩
  obtain ⟨A1, cap1, rfl, -⟩ := St.textsForm ho8
  have HP : Hid (OwnTexts w8 w7.heap.size (.slice A1 rs.length cap1) rs) := ho8
  clear ho8
  have HB8 : Hid (Below w.heap.size w w8) := HB7.out.trans (hb8.mono HB7.out.size)
  have HO := Lib.hid (HO.out.below hb8)
  have HX := Lib.hid ((HX.out.below hb8).more hb8.size)
  have HR := Lib.hid (HR.out.below hb8 HR.out.lt)
  have HY := Lib.hid ((HY.out.below hb8).more hb8.size)
  have HTR := Lib.hid (HTR.out.below hb8 HTR.out.lt)
  clear hb8 HB7
  go_wp2_with fail
  refine (St.eqStringS_same A1 A0 rs cap1 cap0 w8 (strsOf HP.out) (strsOf HO.out) (by omega)).mono ?_
  rintro e w9 ⟨rfl, hb9⟩
  have HB9 : Hid (Below w.heap.size w w9) := HB8.out.trans (hb9.mono HB8.out.size)
  have HO := Lib.hid (HO.out.below hb9)
  have HX := Lib.hid ((HX.out.below hb9).more hb9.size)
  have HR := Lib.hid (HR.out.below hb9 HR.out.lt)
  have HY := Lib.hid ((HY.out.below hb9).more hb9.size)
  have HTR := Lib.hid (HTR.out.below hb9 HTR.out.lt)
  have HP := Lib.hid (HP.out.below hb9)
  clear hb9 HB8
  go_wp2_with fail
  refine (toSegmentS_any _ _ _ _ ((HW.out.below HB9.out).more HB9.out.size) hlen).mono ?_
  rintro e w10 ⟨rfl, hb10, hx10⟩
  have HX2 := Lib.hid hx10
  clear hx10
  have HB10 : Hid (Below w.heap.size w w10) := HB9.out.trans (hb10.mono HB9.out.size)
  have HO := Lib.hid (HO.out.below hb10)
  have HX := Lib.hid ((HX.out.below hb10).more hb10.size)
  have HR := Lib.hid (HR.out.below hb10 HR.out.lt)
  have HY := Lib.hid ((HY.out.below hb10).more hb10.size)
  have HTR := Lib.hid (HTR.out.below hb10 HTR.out.lt)
  have HP := Lib.hid (HP.out.below hb10)
  clear hb10 HB9
  go_wp2_with fail
  refine (eqSegmentS_same _ _ _ _ _ _ HX.out HX2.out hlen).mono ?_
  rintro e w11 ⟨rfl, hb11⟩
  have HB11 : Hid (Below w.heap.size w w11) := HB10.out.trans (hb11.mono HB10.out.size)
  have HO := Lib.hid (HO.out.below hb11)
  have HR := Lib.hid (HR.out.below hb11 HR.out.lt)
  have HY := Lib.hid ((HY.out.below hb11).more hb11.size)
  have HTR := Lib.hid (HTR.out.below hb11 HTR.out.lt)
  have HP := Lib.hid (HP.out.below hb11)
  clear hb11 HB10
  clear HX HX2
  go_wp2_with fail
  refine (toStringS_any _ _ _ _ ((HT.out.below HB11.out).more HB11.out.size) htl1).mono ?_
  rintro e w12 ⟨rfl, hb12, hx12⟩
  have HY2 : Hid (St.Strs w12 w12.heap.size (some ⟨w11.heap.size, 0, none⟩) ts) := strsOf hx12
  clear hx12
  have HB12 : Hid (Below w.heap.size w w12) := HB11.out.trans (hb12.mono HB11.out.size)
  have HO := Lib.hid (HO.out.below hb12)
  have HR := Lib.hid (HR.out.below hb12 HR.out.lt)
  have HY := Lib.hid ((HY.out.below hb12).more hb12.size)
  have HTR := Lib.hid (HTR.out.below hb12 HTR.out.lt)
  have HP := Lib.hid (HP.out.below hb12)
  clear hb12 HB11
  go_wp2_with fail
  refine (St.eqStringS_same _ _ _ _ _ w12 HY.out HY2.out htl1).mono ?_
  rintro e w13 ⟨rfl, hb13⟩
  have HB13 : Hid (Below w.heap.size w w13) := HB12.out.trans (hb13.mono HB12.out.size)
  have HO := Lib.hid (HO.out.below hb13)
  have HR := Lib.hid (HR.out.below hb13 HR.out.lt)
  have HTR := Lib.hid (HTR.out.below hb13 HTR.out.lt)
  have HP := Lib.hid (HP.out.below hb13)
  clear hb13 HB12
  clear HY HY2
  go_wp2_with fail
  refine (mark1 w5.heap.size l.length l.length cs w13 HR.out HCS.out hlen).mono ?_
  rintro e w14 ⟨rfl, hy14⟩
  have HB14 : Hid (Below w.heap.size w w14) := Only.below HB13.out hy14 HB13.out.size (fun k hk e => by have := HZ5.out; omega)
  have HO := Lib.hid (St.textsFar HO.out hy14 (fun g hg e => by have := HL.out g hg; omega))
  have HP := Lib.hid (St.textsFar HP.out hy14 (fun g hg e => by have := (World.ownsRow.lt HP.out g hg).1; have := HZ6.out; have := HZ7.out; omega))
  have HTR := Lib.hid (hy14.row HTR.out (by have := HZ6.out; omega))
  clear hy14 HR HCS HB13
  have hk0 : 0 < 1 + 3 * l.length := by omega
  have hk9 : 1 + 3 * l.length ≤ 4000000 := by omega
  have hkn : (0 : Int) ≤ ((1 + 3 * l.length + ts.length : Nat) : Int) := Int.natCast_nonneg _
  have hkn' : ¬ ((1 + 3 * l.length + ts.length : Nat) : Int) < 0 := by omega
  generalize 1 + 3 * l.length = kq at *
  go_wp2_with fail
  refine (St.markStringS_only kq w6.heap.size ts.length ts.length ct w14 HTR.out HCT.out hk0 hk9 htl1).mono ?_
  rintro e w15 ⟨rfl, hy15⟩
  have HB15 : Hid (Below w.heap.size w w15) := Only.below HB14.out hy15 HB14.out.size (fun k hk e => by have := HZ5.out; have := HZ6.out; omega)
  have HO := Lib.hid (St.textsFar HO.out hy15 (fun g hg e => by have := HL.out g hg; have := HZ6.out; omega))
  have HP := Lib.hid (St.textsFar HP.out hy15 (fun g hg e => by have := (World.ownsRow.lt HP.out g hg).1; have := HZ7.out; omega))
  clear hy15 HTR HCT HB14
  generalize ((kq + ts.length : Nat) : Int) = kt at *
  go_wp2_with fail
  refine (St.eqStringS_same A1 A0 rs cap1 cap0 w15 (strsOf HP.out) (strsOf HO.out) (by omega)).mono ?_
  rintro e w16 ⟨rfl, hb16⟩
  have HB16 : Hid (Below w.heap.size w w16) := HB15.out.trans (hb16.mono HB15.out.size)
  have HO := Lib.hid (HO.out.below hb16)
  have HP := Lib.hid (HP.out.below hb16)
  clear hb16 HB15
  go_wp2_with fail
  refine (smark1 _ _ rs w16 HP.out (by omega)).mono ?_
  rintro e w17 ⟨rfl, ho17, hy17⟩
  have HB17 : Hid (Below w.heap.size w w17) := Only.below HB16.out hy17 HB16.out.size (fun k hk e => by have := (World.ownsRow.lt HP.out k e).1; have := HZ5.out; have := HZ6.out; have := HZ7.out; omega)
  have HO := Lib.hid (St.textsFar HO.out hy17 (fun g hg e => by have := HL.out g hg; have := (World.ownsRow.lt HP.out g e).1; have := HZ6.out; have := HZ7.out; omega))
  have HM : Hid (St.Strs w17 w17.heap.size A1 (St.smarked rs 1 rs.length)) := strsOf ho17
  clear ho17 hy17 HB16 HP
  have hm1 : ¬ ((1 + rs.length : Nat) : Int) < 0 := by omega
  have hm0 : (0 : Int) ≤ ((1 + rs.length : Nat) : Int) := by omega
  have HH := Lib.hid (fun W h => sheld1 A1 rs.length cap1 rs W rfl h (by omega))
  generalize ((1 + rs.length : Nat) : Int) = m at *
  go_wp2_with fail
  refine Calls.mono (HH.out w17 HM.out) ?_
  rintro e w18 ⟨rfl, hb18⟩
  have HB18 : Hid (Below w.heap.size w w18) := HB17.out.trans (hb18.mono HB17.out.size)
  have HO := Lib.hid (HO.out.below hb18)
  have HM := Lib.hid ((HM.out.below hb18).more hb18.size)
  clear hb18 HB17
  go_wp2_with fail
  refine (toSegmentS_any _ _ _ _ ((HW.out.below HB18.out).more HB18.out.size) hlen).mono ?_
  rintro e w19 ⟨rfl, hb19, hx19⟩
  have HX := Lib.hid hx19
  clear hx19
  have HB19 : Hid (Below w.heap.size w w19) := HB18.out.trans (hb19.mono HB18.out.size)
  have HO := Lib.hid (HO.out.below hb19)
  have HM := Lib.hid ((HM.out.below hb19).more hb19.size)
  clear hb19 HB18
  go_wp2_with fail
  refine (toStringS_any _ _ _ _ ((HT.out.below HB19.out).more HB19.out.size) htl1).mono ?_
  rintro e w20 ⟨rfl, hb20, hx20⟩
  have HY : Hid (St.Strs w20 w20.heap.size (some ⟨w19.heap.size, 0, none⟩) ts) := strsOf hx20
  clear hx20
  have HB20 : Hid (Below w.heap.size w w20) := HB19.out.trans (hb20.mono HB19.out.size)
  have HO := Lib.hid (HO.out.below hb20)
  have HM := Lib.hid ((HM.out.below hb20).more hb20.size)
  have HX := Lib.hid ((HX.out.below hb20).more hb20.size)
  clear hb20 HB19
  go_wp2_with fail
  refine (HIM.out _ _ _ _ HX.out HY.out).mono ?_
  rintro e w21 ⟨v2, rfl, ho21, hb21⟩
  obtain ⟨A3, cap3, rfl, hf21⟩ := St.textsForm ho21
  have HV := Lib.hid hf21
  clear ho21 hf21 HX HY
  have HB21 : Hid (Below w.heap.size w w21) := HB20.out.trans (hb21.mono HB20.out.size)
  have HO := Lib.hid (HO.out.below hb21)
  have HM := Lib.hid ((HM.out.below hb21).more hb21.size)
  clear hb21 HB20
  go_wp2_with fail
  refine (St.eqStringS_same A3 A0 rs cap3 cap0 w21 HV.out (strsOf HO.out) (by omega)).mono ?_
  rintro e w22 ⟨rfl, hb22⟩
  have HB22 : Hid (Below w.heap.size w w22) := HB21.out.trans (hb22.mono HB21.out.size)
  have HM := Lib.hid ((HM.out.below hb22).more hb22.size)
  clear hb22 HB21
  clear HV HO
  go_wp2_with fail
  refine Calls.mono (HH.out w22 HM.out) ?_
  rintro e w23 ⟨rfl, hb23⟩
  have HB23 : Hid (Below w.heap.size w w23) := HB22.out.trans (hb23.mono HB22.out.size)
  clear hb23 HB22
  go_wp2
  go_ret
  exact ⟨rfl, HB23.out⟩

end Go.Proofs.Ytnknfpfpjijemaa
