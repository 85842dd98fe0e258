/- The law FnTreeText: trees and their texts. -/
import Derived.Test.YtdbddockmdkmeaaDoorZn
import Derived.Test.YtdbddockmdkmeaaDoorTv
namespace Go.Proofs.YtdbddockmdkmeaaDoor
open Go.RowKit

theorem bytes_later1 {w w' : World} {A : Option Addr} {m : Nat} (h : ∀ b, w.heap.size ≤ b → Bytes w b A m) (hb : Below w.heap.size w w') : ∀ b, w'.heap.size ≤ b → Bytes w' b A m := fun b hbb h0 => by
  have hz := hb.size
  obtain ⟨g, o, rfl, hne, hlt, hx⟩ := h b (by omega) h0
  refine ⟨g, o, rfl, hne, by omega, fun i hi => ?_⟩
  obtain ⟨x, hc, hx2⟩ := hx i hi
  exact ⟨x, (hb.cell (p := ⟨g, o + i, none⟩) hlt).trans hc, hx2⟩
theorem text_bad {l : List Seg} (hv : validB l = false) : treeText l = ⟨#[]⟩ := if_neg (by rw [hv]; decide)
theorem text_parsed {l : List Seg} (hv : validB l = true) : parsed (treeText l).data.toList = some l := by
  unfold treeText
  rw [if_pos hv]
  exact parsed_back hv
theorem parsed_nil : parsed (⟨#[]⟩ : ByteArray).data.toList = none := rfl
/-- A tree kept in memory. -/
structure Kept1 (w : World) (A : Option Addr) (l : List Seg) (W : World) : Prop where
  tree : Segs W W.heap.size A l
  below : Below w.heap.size w W
theorem Kept1.on {w W W' : World} {A : Option Addr} {l : List Seg} (h : Kept1 w A l W) (hb : Below W.heap.size W W') : Kept1 w A l W' :=
  ⟨(h.tree.below hb).more hb.size, h.below.trans (hb.mono h.below.size)⟩
/-- Two trees kept in memory. -/
structure Both1 (w : World) (A A2 : Option Addr) (l l2 : List Seg) (W : World) : Prop where
  one : Segs W W.heap.size A l
  two : Segs W W.heap.size A2 l2
  below : Below w.heap.size w W
theorem Both1.on {w W W' : World} {A A2 : Option Addr} {l l2 : List Seg} (h : Both1 w A A2 l l2 W) (hb : Below W.heap.size W W') : Both1 w A A2 l l2 W' :=
  ⟨(h.one.below hb).more hb.size, (h.two.below hb).more hb.size, h.below.trans (hb.mono h.below.size)⟩
theorem parsed_few (t : List UInt8) : ((parsed t).getD []).length ≤ 8 := by
  cases hp : parsed t with
  | none => exact Nat.zero_le _
  | some tr => exact (valid_all (parsed_some hp).2).2.1
theorem text_again {t : ByteArray} (h : (parsed t.data.toList).isSome = true) : treeText ((parsed t.data.toList).getD []) = t := by
  cases hp : parsed t.data.toList with
  | none => rw [hp] at h; cases h
  | some tr =>
    rw [Option.getD_some, parsed_fwd hp]
    rfl

set_option maxRecDepth 100000 in
set_option maxHeartbeats 4000000 in
theorem treeTextLaw_any (hgood : GoodVSaid) (A0 : Option Addr) (n c0 : Nat) (A9 : Option Addr) (n2 c2 : Nat) (w : World) (hn : n ≤ c0) (hm : n ≤ maxLen) (hx : ∀ b, w.heap.size ≤ b → Bytes w b A0 n) (hn2 : n2 ≤ c2) (hm2 : n2 ≤ maxLen) (hx2 : ∀ b, w.heap.size ≤ b → Bytes w b A9 n2) :
    Calls Tryd.prog 3 #[.slice A0 n c0, .slice A9 n2 c2] w fun e w' => e = .returned (.bool true) ∧ Below w.heap.size w w' := by
  unfold maxLen at hm hm2
  by_cases hbig : 1048576 < n
  · clear hx hx2 hgood
    go_enter Tryd.func3, Tryd.ntmps3
    go_wp2
    go_ret
    exact ⟨rfl, Below.refl _ _⟩
  by_cases hbig2 : 1048576 < n2
  · clear hx hx2 hgood
    go_enter Tryd.func3, Tryd.ntmps3
    go_wp2
    go_ret
    exact ⟨rfl, Below.refl _ _⟩
  have hgood0 : GoodSaid := fun b P w hP hr => (hgood b P w hP hr).mono fun e w' ⟨v, l, h1, h2, _, h4, h5⟩ => ⟨v, l, h1, h2, h4, h5⟩
  have HD := Lib.hid (drawFormatTree_any hgood0 A0 n c0 w hn hx)
  have HD3 := Lib.hid (fun w' (hb : Below w.heap.size w w') => drawParseTree_any hgood A9 n2 c2 w' hn2 (bytes_later1 hx2 hb))
  unfold TreeHad at HD
  unfold TextDrawn1 at HD3
  clear hx hx2 hgood hgood0
  go_enter Tryd.func3, Tryd.ntmps3
  go_wp2_with fail
  refine Calls.mono HD.out ?_
  rintro e w1 ⟨A, l, c, rfl, ⟨hs, hl, hsh⟩, hb1⟩
  have HK1 : Hid (Kept1 w A l w1) := ⟨hs, hb1⟩
  have HSH : Hid (Short l) := fun s hs => Nat.le_trans (hsh s hs) (by decide)
  have hl1 : l.length ≤ 1048576 := by omega
  have C1 : Hid (∀ W, Kept1 w A l W → Calls Tryd.prog 11 #[.slice A l.length c] W fun e w' => e = .returned (.string (treeText l)) ∧ Below W.heap.size W w') := fun W h => formatTree_any A l c W h.tree hl1 hl.2.1 hl.2.2 HSH.out
  have C2 : Hid (∀ W, Kept1 w A l W → Calls Tryd.prog 13 #[.slice A l.length c] W fun e w' => e = .returned (.string (treeText l)) ∧ Below W.heap.size W w') := fun W h => specFormatTree_any A l c W h.tree hl1 HSH.out
  have C3 : Hid (∀ W, Kept1 w A l W → Calls Tryd.prog 14 #[.slice A l.length c] W fun e w' => e = .returned (.bool (validB l)) ∧ Below W.heap.size W w') := fun W h => treeValid_any A l c W h.tree hl1 hl.2.1 hl.2.2 HSH.out
  have C4 : Hid (∀ W, Kept1 w A l W → Calls Tryd.prog 15 #[.slice A l.length c] W fun e w' => e = .returned (.bool (validB l)) ∧ Below W.heap.size W w') := fun W h => specTreeValid_any A l c W h.tree hl1 HSH.out
  have CT : Hid (∀ (W : World) (B2 : Option Addr) (c2 : Nat), Segs W W.heap.size B2 l → Kept1 w A l W → Calls Tryd.prog 16 #[.slice B2 l.length c2, .slice A l.length c] W fun e w' => e = .returned (.bool true) ∧ Below W.heap.size W w') := fun W B2 c2 h2 h => soTree_any B2 A l c2 c W h2 h.tree (by omega)
  have HV0 := Lib.hid (fun (h : validB l = false) => text_bad h)
  have HV1 := Lib.hid (fun (h : validB l = true) => text_parsed h)
  have HZ : Hid ((treeText l).size ≤ 1048576) := by
    show _ ≤ _
    cases hv : validB l with
    | false => rw [text_bad hv]; decide
    | true => have := (treeText_size hv).2; omega
  have CP := Lib.hid (fun W => parseTree_any (treeText l) W HZ.out)
  unfold ParsePost at CP
  clear hs hb1 hsh hl HSH HZ HD
  go_wp2_with fail
  refine Calls.mono (C1.out _ HK1.out) ?_
  rintro e w2 ⟨rfl, hb2⟩
  have HK2 := Lib.hid (HK1.out.on hb2)
  clear hb2 HK1 C1
  cases hv : validB l with
  | false =>
    have hte := HV0.out hv
    rw [hv] at C3 C4
    rw [hte] at C2 CP
    rw [hte]
    clear HV0 HV1 hte CT
    go_wp2_with fail
    refine Calls.mono (CP.out _) ?_
    rintro e w3 ⟨v, rfl, ho, hb⟩
    rw [parsed_nil] at ho
    obtain ⟨B0, k0, rfl, -, -, -⟩ := treeCap ho
    have HK3 := Lib.hid (HK2.out.on hb)
    clear ho hb HK2 CP
    rw [parsed_nil]
    go_wp2_with fail
    refine Calls.mono (C2.out _ HK3.out) ?_
    rintro e w4 ⟨rfl, hb⟩
    have HK4 := Lib.hid (HK3.out.on hb)
    clear hb HK3
    go_wp2_with fail
    refine Calls.mono (C3.out _ HK4.out) ?_
    rintro e w5 ⟨rfl, hb⟩
    have HK5 := Lib.hid (HK4.out.on hb)
    clear hb HK4
    go_wp2_with fail
    refine Calls.mono (C4.out _ HK5.out) ?_
    rintro e w6 ⟨rfl, hb⟩
    have HK6 := Lib.hid (HK5.out.on hb)
    clear hb HK5
    go_wp2_with fail
    refine Calls.mono (C3.out _ HK6.out) ?_
    rintro e w7 ⟨rfl, hb⟩
    have HK7 := Lib.hid (HK6.out.on hb)
    clear hb HK6
    clear C2 C3 C4
    go_wp2_with fail
    refine Calls.mono (HD3.out _ HK7.out.below) ?_
    rintro e v1 ⟨t, rfl, htz, hb⟩
    have HB1 := Lib.hid (HK7.out.below.trans (hb.mono HK7.out.below.size))
    have HPI := Lib.hid (fun W => parseTree_any t W (by omega))
    have HPS := Lib.hid (fun W => specParse_any t W (by omega))
    have HTA := Lib.hid (fun h => text_again (t := t) h)
    have hfew := parsed_few t.data.toList
    have HSN := Lib.hid (parsed_short t.data.toList)
    unfold ParsePost at HPI HPS
    clear hb HK7 HD3 htz
    generalize (parsed t.data.toList).getD [] = tr at *
    generalize (parsed t.data.toList).isSome = fine at *
    go_wp2_with fail
    refine Calls.mono (HPI.out _) ?_
    rintro e v2 ⟨g, rfl, ho, hb⟩
    obtain ⟨B1, k1, rfl, hk1, hkm1, hs1⟩ := treeCap ho
    have HB2 := Lib.hid (HB1.out.trans (hb.mono HB1.out.size))
    have HS2 := Lib.hid hs1
    clear ho hb hs1 HB1 HPI
    go_wp2_with fail
    refine Calls.mono (HPS.out _) ?_
    rintro e v3 ⟨g, rfl, ho, hb⟩
    obtain ⟨B2, k2, rfl, hk2, hkm2, hs2⟩ := treeCap ho
    have HF3 : Hid (Both1 w B1 B2 tr tr v3) := ⟨(HS2.out.below hb).more hb.size, hs2, HB2.out.trans (hb.mono HB2.out.size)⟩
    clear ho hb hs2 HB2 HS2 HPS hk2 hkm2
    go_wp2_with fail
    refine (soTree_any B1 B2 tr k1 k2 v3 HF3.out.one HF3.out.two (by omega)).mono ?_
    rintro e v4 ⟨rfl, hb⟩
    have HF4 := Lib.hid (HF3.out.on hb)
    clear hb HF3
    cases fine with
    | false =>
      go_wp2
      go_ret
      exact ⟨rfl, HF4.out.below⟩
    | true =>
      have HTT := Lib.hid (HTA.out rfl)
      have HFT := Lib.hid (formatTree_any B1 tr k1 v4 HF4.out.one (by omega) hk1 hkm1 (fun s hs => Nat.le_trans (HSN.out s hs) (by decide)))
      rw [HTT.out] at HFT
      go_wp2_with fail
      refine Calls.mono HFT.out ?_
      rintro e v5 ⟨rfl, hb⟩
      have HF5 := Lib.hid (HF4.out.on hb)
      clear hb HF4
      go_wp2
      go_ret
      exact ⟨rfl, HF5.out.below⟩
  | true =>
    have hpa := HV1.out hv
    rw [hv] at C3 C4
    rw [hpa] at CP
    clear HV0 HV1
    generalize treeText l = x at *
    go_wp2_with fail
    refine Calls.mono (CP.out _) ?_
    rintro e w3 ⟨v, rfl, ho, hb⟩
    rw [Option.getD_some] at ho
    obtain ⟨B0, k0, rfl, -, -, hs0⟩ := treeCap ho
    have HJ3 : Hid (Both1 w A B0 l l w3) := ⟨(HK2.out.tree.below hb).more hb.size, hs0, HK2.out.below.trans (hb.mono HK2.out.below.size)⟩
    clear ho hb HK2 CP hs0
    rw [Option.isSome_some]
    go_wp2_with fail
    refine Calls.mono (C2.out _ ⟨HJ3.out.one, HJ3.out.below⟩) ?_
    rintro e w4 ⟨rfl, hb⟩
    have HJ4 := Lib.hid (HJ3.out.on hb)
    clear hb HJ3
    go_wp2_with fail
    refine Calls.mono (C3.out _ ⟨HJ4.out.one, HJ4.out.below⟩) ?_
    rintro e w5 ⟨rfl, hb⟩
    have HJ5 := Lib.hid (HJ4.out.on hb)
    clear hb HJ4
    go_wp2_with fail
    refine Calls.mono (C4.out _ ⟨HJ5.out.one, HJ5.out.below⟩) ?_
    rintro e w6 ⟨rfl, hb⟩
    have HJ6 := Lib.hid (HJ5.out.on hb)
    clear hb HJ5
    go_wp2_with fail
    refine Calls.mono (C3.out _ ⟨HJ6.out.one, HJ6.out.below⟩) ?_
    rintro e w7 ⟨rfl, hb⟩
    have HJ7 := Lib.hid (HJ6.out.on hb)
    clear hb HJ6
    clear C2 C3 C4
    go_wp2_with fail
    refine Calls.mono (CT.out _ B0 k0 HJ7.out.two ⟨HJ7.out.one, HJ7.out.below⟩) ?_
    rintro e w8 ⟨rfl, hb⟩
    have HK8 : Hid (Kept1 w A l w8) := ⟨(HJ7.out.on hb).one, (HJ7.out.on hb).below⟩
    clear hb HJ7 CT
    go_wp2_with fail
    refine Calls.mono (HD3.out _ HK8.out.below) ?_
    rintro e v1 ⟨t, rfl, htz, hb⟩
    have HB1 := Lib.hid (HK8.out.below.trans (hb.mono HK8.out.below.size))
    have HPI := Lib.hid (fun W => parseTree_any t W (by omega))
    have HPS := Lib.hid (fun W => specParse_any t W (by omega))
    have HTA := Lib.hid (fun h => text_again (t := t) h)
    have hfew := parsed_few t.data.toList
    have HSN := Lib.hid (parsed_short t.data.toList)
    unfold ParsePost at HPI HPS
    clear hb HK8 HD3 htz
    generalize (parsed t.data.toList).getD [] = tr at *
    generalize (parsed t.data.toList).isSome = fine at *
    go_wp2_with fail
    refine Calls.mono (HPI.out _) ?_
    rintro e v2 ⟨g, rfl, ho, hb⟩
    obtain ⟨B1, k1, rfl, hk1, hkm1, hs1⟩ := treeCap ho
    have HB2 := Lib.hid (HB1.out.trans (hb.mono HB1.out.size))
    have HS2 := Lib.hid hs1
    clear ho hb hs1 HB1 HPI
    go_wp2_with fail
    refine Calls.mono (HPS.out _) ?_
    rintro e v3 ⟨g, rfl, ho, hb⟩
    obtain ⟨B2, k2, rfl, hk2, hkm2, hs2⟩ := treeCap ho
    have HF3 : Hid (Both1 w B1 B2 tr tr v3) := ⟨(HS2.out.below hb).more hb.size, hs2, HB2.out.trans (hb.mono HB2.out.size)⟩
    clear ho hb hs2 HB2 HS2 HPS hk2 hkm2
    go_wp2_with fail
    refine (soTree_any B1 B2 tr k1 k2 v3 HF3.out.one HF3.out.two (by omega)).mono ?_
    rintro e v4 ⟨rfl, hb⟩
    have HF4 := Lib.hid (HF3.out.on hb)
    clear hb HF3
    cases fine with
    | false =>
      go_wp2
      go_ret
      exact ⟨rfl, HF4.out.below⟩
    | true =>
      have HTT := Lib.hid (HTA.out rfl)
      have HFT := Lib.hid (formatTree_any B1 tr k1 v4 HF4.out.one (by omega) hk1 hkm1 (fun s hs => Nat.le_trans (HSN.out s hs) (by decide)))
      rw [HTT.out] at HFT
      go_wp2_with fail
      refine Calls.mono HFT.out ?_
      rintro e v5 ⟨rfl, hb⟩
      have HF5 := Lib.hid (HF4.out.on hb)
      clear hb HF4
      go_wp2
      go_ret
      exact ⟨rfl, HF5.out.below⟩

end Go.Proofs.YtdbddockmdkmeaaDoor
