/- Joined: El Ev Ew. -/
import Derived.Test.YtcpiojliakgdlaaU28
import Derived.Test.YtcpiojliakgdlaaU29
import Derived.Test.YtcpiojliakgdlaaU27
import Derived.Test.YtcpiojliakgdlaaU07
/- The program's PinLoads and PinCost. -/
namespace Go.Proofs.Ytcpiojliakgdlaa
open Go.RowKit

theorem pl_no10 {l : List Seg} {t s : ByteArray} (h : plOk10 l t s = false) : plRes10 l t s = ⟨#[]⟩ := by unfold plRes10; rw [if_neg (by rw [h]; decide)]

set_option maxRecDepth 100000 in
set_option maxHeartbeats 2000000 in
theorem pinLoads_any (A : Option Addr) (l : List Seg) (c : Nat) (t s : ByteArray) (w : World) (hw : Segs w w.heap.size A l) (hl : l.length ≤ 1048576) (hlc : l.length ≤ c) (hcm : c ≤ 9223372036854775807) (hn : Short l) (ht : t.size ≤ 1048576) (hs : s.size ≤ 1048576) :
    Calls Try.prog 52 #[.slice A l.length c, .string t, .string s] w fun e w' => e = .returned (.tuple #[.string (plRes10 l t s), .bool (plOk10 l t s)]) ∧ Below w.heap.size w w' := by
  have HW : Hid (Segs w w.heap.size A l) := hw
  cases hR : traceB l t.data.toList with
  | none =>
    have hno : plOk10 l t s = false := by unfold plOk10; rw [hR]; rfl
    have HNR := Lib.hid (newRun_none A l c t w hw hl hlc hcm hn ht hR)
    have HFB := Lib.hid (fun W => findPins_bad s W hs)
    rw [pl_no10 hno, hno]
    clear hw hR hno hn
    go_enter Try.func52, Try.ntmps52
    go_wp2_with fail
    refine Calls.mono HNR.out ?_
    rintro e w1 ⟨rfl, hb1⟩
    have HR1 : Hid (Row (w1.alloc (.cells #[.slice none 0 0, .slice none 0 0] 132)) w1.heap.size 132 #[.slice none 0 0, .slice none 0 0]) := Row.new w1 _ _
    have HB1 := Lib.hid (hb1.alloc hb1.size (.cells #[.slice none 0 0, .slice none 0 0] 132))
    have c0 := HR1.out.cell 0
    clear hb1
    go_wp2_with fail
    refine (HFB.out _).mono ?_
    rintro e w2 ⟨rfl, rfl⟩
    go_wp2
    go_ret2
    exact ⟨rfl, HB1.out⟩
  | some f =>
    obtain ⟨hv, -, -⟩ := traceB_some hR
    obtain ⟨-, hjs, hjz⟩ := needIx10_lt hR
    have HNR := Lib.hid (newRun_some A l c t w hw hl hlc hcm hn ht hR)
    unfold RunMade10 at HNR
    have HFP := Lib.hid (fun B g nb cv W h => findPins_any B g l nb cv s W h hv hs)
    cases hp : pinOk10 l s with
    | false =>
      have hno : plOk10 l t s = false := by unfold plOk10; rw [hp, Bool.and_false]
      rw [hp] at HFP
      rw [pl_no10 hno, hno]
      clear hw hR hno hn hp hv hjs
      generalize needIx10 l t = js at *
      generalize (stay10 l s : Int) = y at *
      go_enter Try.func52, Try.ntmps52
      go_wp2_with fail
      refine Calls.mono HNR.out ?_
      rintro e w1 ⟨B, g, nb, cv, v, hB, rfl, hN, hO, hb1⟩
      obtain ⟨A4, c4, rfl⟩ := hO.form
      have HR1 : Hid (Row (w1.alloc (.cells #[.slice (some ⟨g, 0, none⟩) l.length l.length, .slice A4 js.length c4] 132)) w1.heap.size 132 #[.slice (some ⟨g, 0, none⟩) l.length l.length, .slice A4 js.length c4]) := Row.new w1 _ _
      have hba : Below w1.heap.size w1 (w1.alloc (.cells #[.slice (some ⟨g, 0, none⟩) l.length l.length, .slice A4 js.length c4] 132)) := (Below.refl _ w1).alloc (Nat.le_refl _) _
      have HN1 := Lib.hid (hN.below hba)
      have HB1 := Lib.hid (hb1.trans (hba.mono hb1.size))
      have c0 := HR1.out.cell 0
      clear hb1 hN hO hba HNR hB
      go_wp2_with fail
      refine (HFP.out _ _ _ _ _ HN1.out).mono ?_
      rintro e w2 ⟨rfl, hb2⟩
      have HB2 := Lib.hid (HB1.out.trans (hb2.mono HB1.out.size))
      clear hb2 c0
      go_wp2
      go_ret2
      exact ⟨rfl, HB2.out⟩
    | true =>
      have hyes : plOk10 l t s = true := by unfold plOk10; rw [hp, hR]; rfl
      have HE : Hid (plRes10 l t s = namesAt l (loads10 l (pinT10 l s) (needIx10 l t))) := if_pos hyes
      have HS : Hid (stay10 l s = setF (memF (0 :: pinT10 l s))) := if_pos hp
      have HRL := Lib.hid (fun B g nb cv B' v W hN hO => runLoads_any B g l nb cv B' v (needIx10 l t) (pinT10 l s) W hN hv (pinOk10_pins hp).2.1 hO hjs hjz)
      rw [hp, HS.out] at HFP
      rw [HE.out, hyes]
      clear hw hR hyes hn hp hv hjs HS HE
      generalize namesAt l (loads10 l (pinT10 l s) (needIx10 l t)) = res at *
      generalize needIx10 l t = js at *
      generalize (setF (memF (0 :: pinT10 l s)) : Int) = y at *
      go_enter Try.func52, Try.ntmps52
      go_wp2_with fail
      refine Calls.mono HNR.out ?_
      rintro e w1 ⟨B, g, nb, cv, v, hB, rfl, hN, hO, hb1⟩
      obtain ⟨A4, c4, rfl⟩ := hO.form
      have HR1 : Hid (Row (w1.alloc (.cells #[.slice (some ⟨g, 0, none⟩) l.length l.length, .slice A4 js.length c4] 132)) w1.heap.size 132 #[.slice (some ⟨g, 0, none⟩) l.length l.length, .slice A4 js.length c4]) := Row.new w1 _ _
      have hba : Below w1.heap.size w1 (w1.alloc (.cells #[.slice (some ⟨g, 0, none⟩) l.length l.length, .slice A4 js.length c4] 132)) := (Below.refl _ w1).alloc (Nat.le_refl _) _
      have HN1 := Lib.hid (hN.below hba)
      have HO1 := Lib.hid (hO.below hba)
      have HB1 := Lib.hid (hb1.trans (hba.mono hb1.size))
      have c0 := HR1.out.cell 0
      clear hb1 hN hO hba HNR hB
      go_wp2_with fail
      refine (HFP.out _ _ _ _ _ HN1.out).mono ?_
      rintro e w2 ⟨rfl, hb2⟩
      have HB2 := Lib.hid (HB1.out.trans (hb2.mono HB1.out.size))
      have HN2 := Lib.hid (HN1.out.below hb2)
      have HO2 := Lib.hid (HO1.out.below hb2)
      have HR2 := Lib.hid (HR1.out.below hb2 HR1.out.lt)
      clear hb2 c0 HN1 HO1 HB1
      have c0 := HR2.out.cell 0
      have c1 := HR2.out.cell 1
      go_wp2_with fail
      refine (HRL.out _ _ _ _ _ _ _ HN2.out HO2.out).mono ?_
      rintro e w3 ⟨rfl, hb3⟩
      have HB3 := Lib.hid (HB2.out.trans (hb3.mono HB2.out.size))
      clear hb3
      go_wp2
      go_ret2
      exact ⟨rfl, HB3.out⟩

set_option maxRecDepth 100000 in
set_option maxHeartbeats 1000000 in
theorem pinCost_any (A : Option Addr) (l : List Seg) (c : Nat) (t s : ByteArray) (w : World) (hw : Segs w w.heap.size A l) (hl : l.length ≤ 1048576) (hlc : l.length ≤ c) (hcm : c ≤ 9223372036854775807) (hn : Short l) (ht : t.size ≤ 1048576) (hs : s.size ≤ 1048576) :
    Calls Try.prog 54 #[.slice A l.length c, .string t, .string s] w fun e w' => e = .returned (.int .i64 (pcRes10 l t s)) ∧ Below w.heap.size w w' := by
  have HW : Hid (Segs w w.heap.size A l) := hw
  have HPL := Lib.hid (fun W h => pinLoads_any A l c t s W h hl hlc hcm hn ht hs)
  have hz := plRes10_size (l := l) (t := t) (s := s)
  have HCO := Lib.hid (fun W h => costOf_any A l c (plRes10 l t s) W h hl hlc hcm hn (by omega))
  clear hw
  cases hp : plOk10 l t s with
  | false =>
    have HF : Hid (pcRes10 l t s = -1) := if_neg (by rw [hp]; decide)
    rw [hp] at HPL
    rw [HF.out]
    clear hp hz HCO
    generalize plRes10 l t s = r at *
    go_enter Try.func54, Try.ntmps54
    go_wp2_with fail
    refine (HPL.out _ HW.out).mono ?_
    rintro e w1 ⟨rfl, hb1⟩
    go_wp2
    go_ret
    exact ⟨rfl, hb1⟩
  | true =>
    rw [plRes10_cost hp] at HCO
    rw [hp] at HPL
    clear hp hz
    generalize plRes10 l t s = r at *
    generalize pcRes10 l t s = x at *
    go_enter Try.func54, Try.ntmps54
    go_wp2_with fail
    refine (HPL.out _ HW.out).mono ?_
    rintro e w1 ⟨rfl, hb1⟩
    go_wp2_with fail
    refine (HCO.out _ ((HW.out.below hb1).more hb1.size)).mono ?_
    rintro e w2 ⟨rfl, hb2⟩
    have B2 := hb1.trans (hb2.mono hb1.size)
    clear hb1 hb2
    go_wp2
    go_ret
    exact ⟨rfl, B2⟩

end Go.Proofs.Ytcpiojliakgdlaa
/- The walk of the law FnExactPinLoads. -/
namespace Go.Proofs.Ytcpiojliakgdlaa
open Go.RowKit

set_option maxRecDepth 100000 in
set_option maxHeartbeats 400000 in
theorem lawPinLoads_any (A : Option Addr) (l : List Seg) (c : Nat) (s : ByteArray) (t : ByteArray) (w : World) (hw : Segs w w.heap.size A l) (hl : l.length ≤ maxLen) (hn : Short l) (hsz : s.size ≤ maxLen) (htz : t.size ≤ maxLen) :
    Calls Try.prog 9 #[.slice A l.length c, .string s, .string t] w fun e w' => e = .returned (.bool true) ∧ Below w.heap.size w w' := by
  have HW : Hid (Segs w w.heap.size A l) := hw
  clear hw
  unfold maxLen at hsz htz
  by_cases hbigs : 1048576 < s.size
  · go_enter Try.func9, Try.ntmps9
    go_wp2
    go_ret
    exact ⟨rfl, Below.refl _ _⟩
  by_cases hbigt : 1048576 < t.size
  · go_enter Try.func9, Try.ntmps9
    go_wp2
    go_ret
    exact ⟨rfl, Below.refl _ _⟩
  by_cases hs : sizeLeft l < 0
  · go_enter Try.func9, Try.ntmps9
    go_wp2_with fail
    refine (szSegmentS_any _ _ _ _ HW.out hl hn).mono ?_
    rintro e w1 ⟨rfl, hb1⟩
    go_wp2
    go_ret
    exact ⟨rfl, hb1⟩
  · have hlen := sizeLeft_len hs
    go_enter Try.func9, Try.ntmps9
    go_wp2_with fail
    refine (szSegmentS_any _ _ _ _ HW.out hl hn).mono ?_
    rintro e w1 ⟨rfl, hb1⟩
    have hs1 := (HW.out.below hb1).more hb1.size
    go_wp2_with fail
    refine (toSegmentS_any _ _ _ _ hs1 hlen).mono ?_
    rintro e w2 ⟨rfl, hb2, hx2⟩
    have B2 : Below w.heap.size w w2 := hb1.trans (hb2.mono hb1.size)
    clear hb2 hs1
    go_wp2_with fail
    refine (specPinLoads_any _ _ _ _ _ _ hx2 hlen hn (Nat.le_of_not_lt hbigs) (Nat.le_of_not_lt hbigt)).mono ?_
    rintro e w3 ⟨rfl, hb3⟩
    have B3 : Below w.heap.size w w3 := B2.trans (hb3.mono B2.size)
    clear hb3 hx2 B2
    have hs3 := (HW.out.below B3).more B3.size
    go_wp2_with fail
    refine (toSegmentS_any _ _ _ _ hs3 hlen).mono ?_
    rintro e w4 ⟨rfl, hb4, hx4⟩
    have B4 : Below w.heap.size w w4 := B3.trans (hb4.mono B3.size)
    clear hb4 hs3
    go_wp2_with fail
    refine (pinLoads_any _ _ _ _ _ _ hx4 hlen (Nat.le_refl _) (Nat.le_trans hlen (by decide)) hn (Nat.le_of_not_lt hbigs) (Nat.le_of_not_lt hbigt)).mono ?_
    rintro e w5 ⟨rfl, hb5⟩
    have B5 : Below w.heap.size w w5 := B4.trans (hb5.mono B4.size)
    have hx5 := (hx4.below hb5).more hb5.size
    clear hb5 hx4 B4
    have hs5 := (HW.out.below B5).more B5.size
    go_wp2_with fail
    refine (toSegmentS_any _ _ _ _ hs5 hlen).mono ?_
    rintro e w6 ⟨rfl, hb6, hx6⟩
    have B6 : Below w.heap.size w w6 := B5.trans (hb6.mono B5.size)
    have hx7 := (hx5.below hb6).more hb6.size
    clear hb6 hs5 hx5 B5
    go_wp2_with fail
    refine (eqSegmentS_same _ _ _ _ _ _ hx7 hx6 hlen).mono ?_
    rintro e w7 ⟨rfl, hb7⟩
    have B7 : Below w.heap.size w w7 := B6.trans (hb7.mono B6.size)
    clear hb7 hx6 hx7 B6
    go_wp2
    go_ret
    exact ⟨rfl, B7⟩

end Go.Proofs.Ytcpiojliakgdlaa
/- The walk of the law FnExactPinCost. -/
namespace Go.Proofs.Ytcpiojliakgdlaa
open Go.RowKit

set_option maxRecDepth 100000 in
set_option maxHeartbeats 400000 in
theorem lawPinCost_any (A : Option Addr) (l : List Seg) (c : Nat) (s : ByteArray) (t : ByteArray) (w : World) (hw : Segs w w.heap.size A l) (hl : l.length ≤ maxLen) (hn : Short l) (hsz : s.size ≤ maxLen) (htz : t.size ≤ maxLen) :
    Calls Try.prog 10 #[.slice A l.length c, .string s, .string t] w fun e w' => e = .returned (.bool true) ∧ Below w.heap.size w w' := by
  have HW : Hid (Segs w w.heap.size A l) := hw
  clear hw
  unfold maxLen at hsz htz
  by_cases hbigs : 1048576 < s.size
  · go_enter Try.func10, Try.ntmps10
    go_wp2
    go_ret
    exact ⟨rfl, Below.refl _ _⟩
  by_cases hbigt : 1048576 < t.size
  · go_enter Try.func10, Try.ntmps10
    go_wp2
    go_ret
    exact ⟨rfl, Below.refl _ _⟩
  by_cases hs : sizeLeft l < 0
  · go_enter Try.func10, Try.ntmps10
    go_wp2_with fail
    refine (szSegmentS_any _ _ _ _ HW.out hl hn).mono ?_
    rintro e w1 ⟨rfl, hb1⟩
    go_wp2
    go_ret
    exact ⟨rfl, hb1⟩
  · have hlen := sizeLeft_len hs
    go_enter Try.func10, Try.ntmps10
    go_wp2_with fail
    refine (szSegmentS_any _ _ _ _ HW.out hl hn).mono ?_
    rintro e w1 ⟨rfl, hb1⟩
    have hs1 := (HW.out.below hb1).more hb1.size
    go_wp2_with fail
    refine (toSegmentS_any _ _ _ _ hs1 hlen).mono ?_
    rintro e w2 ⟨rfl, hb2, hx2⟩
    have B2 : Below w.heap.size w w2 := hb1.trans (hb2.mono hb1.size)
    clear hb2 hs1
    go_wp2_with fail
    refine (specPinCost_any _ _ _ _ _ _ hx2 hlen hn (Nat.le_of_not_lt hbigs) (Nat.le_of_not_lt hbigt)).mono ?_
    rintro e w3 ⟨rfl, hb3⟩
    have B3 : Below w.heap.size w w3 := B2.trans (hb3.mono B2.size)
    clear hb3 hx2 B2
    have hs3 := (HW.out.below B3).more B3.size
    go_wp2_with fail
    refine (toSegmentS_any _ _ _ _ hs3 hlen).mono ?_
    rintro e w4 ⟨rfl, hb4, hx4⟩
    have B4 : Below w.heap.size w w4 := B3.trans (hb4.mono B3.size)
    clear hb4 hs3
    go_wp2_with fail
    refine (pinCost_any _ _ _ _ _ _ hx4 hlen (Nat.le_refl _) (Nat.le_trans hlen (by decide)) hn (Nat.le_of_not_lt hbigs) (Nat.le_of_not_lt hbigt)).mono ?_
    rintro e w5 ⟨rfl, hb5⟩
    have B5 : Below w.heap.size w w5 := B4.trans (hb5.mono B4.size)
    have hx5 := (hx4.below hb5).more hb5.size
    clear hb5 hx4 B4
    have hs5 := (HW.out.below B5).more B5.size
    go_wp2_with fail
    refine (toSegmentS_any _ _ _ _ hs5 hlen).mono ?_
    rintro e w6 ⟨rfl, hb6, hx6⟩
    have B6 : Below w.heap.size w w6 := B5.trans (hb6.mono B5.size)
    have hx7 := (hx5.below hb6).more hb6.size
    clear hb6 hs5 hx5 B5
    go_wp2_with fail
    refine (eqSegmentS_same _ _ _ _ _ _ hx7 hx6 hlen).mono ?_
    rintro e w7 ⟨rfl, hb7⟩
    have B7 : Below w.heap.size w w7 := B6.trans (hb7.mono B6.size)
    clear hb7 hx6 hx7 B6
    go_wp2
    go_ret
    exact ⟨rfl, B7⟩

end Go.Proofs.Ytcpiojliakgdlaa
