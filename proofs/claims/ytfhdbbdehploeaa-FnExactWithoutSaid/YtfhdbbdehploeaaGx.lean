/- Without: the reference's and the program's. -/
import Derived.Test.YtfhdbbdehploeaaFk
import Derived.Test.YtfhdbbdehploeaaFr
import Derived.Test.YtfhdbbdehploeaaFt
import Derived.Test.YtfhdbbdehploeaaFf
namespace Go.Proofs.Ytfhdbbdehploeaa
open Go.RowKit

def withoutOk (l : List Seg) (t n : ByteArray) : Bool := (traceB l t.data.toList).isSome && decide (0 ≤ indexB l n)
def withoutRes (l : List Seg) (t n : ByteArray) : ByteArray := match traceB l t.data.toList with
  | none => ⟨#[]⟩
  | some f => if 0 ≤ indexB l n then strOf (textB (lessB n f)) else ⟨#[]⟩
theorem without_none {l : List Seg} {t n : ByteArray} (h : traceB l t.data.toList = none) : withoutOk l t n = false ∧ withoutRes l t n = ⟨#[]⟩ := by
  unfold withoutOk withoutRes
  rw [h]; exact ⟨rfl, rfl⟩
theorem without_no {l : List Seg} {t n : ByteArray} (h : indexB l n < 0) : withoutOk l t n = false ∧ withoutRes l t n = ⟨#[]⟩ := by
  have h1 : ¬ (0 ≤ indexB l n) := by omega
  unfold withoutOk withoutRes
  rw [decide_eq_false h1, Bool.and_false]
  refine ⟨rfl, ?_⟩
  cases traceB l t.data.toList with
  | none => rfl
  | some f => exact if_neg h1
theorem without_yes {l : List Seg} {t n : ByteArray} {f : Forest} (h : traceB l t.data.toList = some f) (hi : 0 ≤ indexB l n) : withoutOk l t n = true ∧ withoutRes l t n = strOf (textB (lessB n f)) := by
  unfold withoutOk withoutRes
  rw [h, decide_eq_true hi]
  exact ⟨rfl, if_pos hi⟩

set_option maxRecDepth 100000 in
set_option maxHeartbeats 1000000 in
theorem specWithout_any (A : Option Addr) (l : List Seg) (c : Nat) (t n : ByteArray) (w : World) (hw : Segs w w.heap.size A l) (hl : l.length ≤ 1048576) (hn : Short l) (ht : t.size ≤ 1048576) :
    Calls Try.prog 65 #[.slice A l.length c, .string t, .string n] w fun e w' => e = .returned (.tuple #[.string (withoutRes l t n), .bool (withoutOk l t n)]) ∧ Below w.heap.size w w' := by
  have HQ := Lib.hid (l4Read_any A l c t w hw hl hn ht)
  have HW : Hid (Segs w w.heap.size A l) := hw
  cases hR : traceB l t.data.toList with
  | none =>
    have HO := Lib.hid (without_none (n := n) hR)
    rw [hR] at HQ
    clear hw hn hR
    go_enter Try.func65, Try.ntmps65
    go_wp2_with fail
    refine Calls.mono HQ.out ?_
    rintro e w2 ⟨v, rfl, -, hb⟩
    go_wp2
    go_ret2
    exact ⟨by rw [HO.out.1, HO.out.2]; rfl, hb⟩
  | some f =>
    have hsz := (traceB_size hR).1
    have HI := Lib.hid (fun W h => l1Index_any A l c n W h hl hn)
    have HN := Lib.hid (fun h => without_no (l := l) (t := t) (n := n) h)
    have HY := Lib.hid (fun h => without_yes (n := n) hR h)
    rw [hR] at HQ
    clear hw hn hR
    go_enter Try.func65, Try.ntmps65
    go_wp2_with fail
    refine Calls.mono HQ.out ?_
    rintro e w2 ⟨v, rfl, (⟨f', hf', hsl⟩ | ⟨h0, -⟩), hb⟩
    · obtain rfl : f = f' := by injection hf'
      have HSL : Hid (IsKids w2 (· < w2.heap.size) f v) := hsl.keep fun q hq => ⟨hq.2, rfl⟩
      have HB := Lib.hid hb
      have HS2 := Lib.hid ((HW.out.below hb).more hb.size)
      obtain ⟨A2, cap2, rfl, -⟩ := id hsl
      clear hsl hb hf' HQ
      go_wp2_with fail
      refine Calls.mono (HI.out _ HS2.out) ?_
      rintro e w3 ⟨rfl, hb3⟩
      have HB3 := Lib.hid (HB.out.trans (hb3.mono HB.out.size))
      have HSL3 : Hid (IsKids w3 (· < w3.heap.size) f (.slice A2 f.len cap2)) := (HSL.out.below hb3).up hb3.size
      clear hb3 HB HSL HS2 HI
      by_cases hi : indexB l n < 0
      · have HO := Lib.hid (HN.out hi)
        generalize indexB l n = ix at *
        have hi2 : decide (ix < 0) = true := decide_eq_true hi
        clear HN HY
        go_wp2
        go_ret2
        exact ⟨by rw [HO.out.1, HO.out.2]; rfl, HB3.out⟩
      · have HO := Lib.hid (HY.out (by omega))
        generalize indexB l n = ix at *
        have hi2 : decide (ix < 0) = false := decide_eq_false hi
        clear HN HY
        go_wp2_with fail
        refine (l4Less_any n (f.size + 1) f _ w3 (by omega) (by omega) HSL3.out).mono ?_
        rintro e w4 ⟨v4, rfl, hs4, hb4⟩
        have HS4 : Hid (IsKids w4 (· < w4.heap.size) (lessB n f) v4) := hs4.1.kids.keep fun q hq => ⟨hq.2, rfl⟩
        have HB4 := Lib.hid (HB3.out.trans (hb4.mono HB3.out.size))
        obtain ⟨g4, cap4, rfl⟩ := hs4.form
        have hls := lessB_size n f
        clear hs4 hb4 HB3 HSL3
        go_wp2_with fail
        refine (l4Text_any (f.size + 1) (lessB n f) _ w4 (by omega) (by omega) HS4.out).mono ?_
        rintro e w5 ⟨rfl, hb5⟩
        have HB5 := Lib.hid (HB4.out.trans (hb5.mono HB4.out.size))
        clear hb5 HB4
        go_wp2
        go_ret2
        exact ⟨by rw [HO.out.1, HO.out.2]; rfl, HB5.out⟩
    · cases h0

theorem indexB_of {l : List Seg} (hv : validB l = true) (s : ByteArray) : indexB l s = seek l s := if_pos hv

set_option maxRecDepth 100000 in
set_option maxHeartbeats 2000000 in
theorem without_any (A : Option Addr) (l : List Seg) (c : Nat) (t n : ByteArray) (w : World) (hw : Segs w w.heap.size A l) (hl : l.length ≤ 1048576) (hlc : l.length ≤ c) (hcm : c ≤ 9223372036854775807) (hn : Short l) (ht : t.size ≤ 1048576) :
    Calls Try.prog 64 #[.slice A l.length c, .string t, .string n] w fun e w' => e = .returned (.tuple #[.string (withoutRes l t n), .bool (withoutOk l t n)]) ∧ Below w.heap.size w w' := by
  have HQ := Lib.hid (readTrace_any A l c t w hw hl hlc hcm hn ht)
  have HW : Hid (Segs w w.heap.size A l) := hw
  cases hR : traceB l t.data.toList with
  | none =>
    have HO := Lib.hid (without_none (n := n) hR)
    rw [hR] at HQ
    clear hw hn hR
    go_enter Try.func64, Try.ntmps64
    go_wp2_with fail
    refine Calls.mono HQ.out ?_
    rintro e w2 ⟨v, rfl, -, hb⟩
    go_wp2
    go_ret2
    exact ⟨by rw [HO.out.1, HO.out.2]; rfl, hb⟩
  | some f =>
    have hsz := (traceB_size hR).1
    have hv := (traceB_some hR).1
    have HIX := Lib.hid (indexB_of hv n)
    have HNO := Lib.hid (fun W h => nodesOf_any A l c W h hl hlc hcm hn hv)
    have HFN := Lib.hid (fun g nb cv W h => findNode_any w.heap.size g l nb cv n W h hl)
    have HN := Lib.hid (fun h => without_no (l := l) (t := t) (n := n) h)
    have HY := Lib.hid (fun h => without_yes (n := n) hR h)
    rw [hR] at HQ
    clear hw hn hR hv
    go_enter Try.func64, Try.ntmps64
    go_wp2_with fail
    refine Calls.mono HQ.out ?_
    rintro e w2 ⟨v, rfl, (⟨f', hf', hsl⟩ | ⟨h0, -⟩), hb⟩
    · obtain rfl : f = f' := by injection hf'
      have HSL : Hid (SliceIs w2 (· < w2.heap.size) v f) := hsl.keep fun q hq => ⟨hq.2, rfl⟩
      have HB := Lib.hid hb
      have HS2 := Lib.hid ((HW.out.below hb).more hb.size)
      obtain ⟨A2, cap2, rfl, -⟩ := id hsl
      clear hsl hb hf' HQ
      go_wp2_with fail
      refine Calls.mono (HNO.out _ HS2.out) ?_
      rintro e w3 ⟨g3, nb, cv, rfl, hN, hb3⟩
      have HND := Lib.hid hN
      have HB3 := Lib.hid (HB.out.trans (hb3.mono HB.out.size))
      have HSL3 : Hid (SliceIs w3 (· < w3.heap.size) (.slice A2 f.len cap2) f) := (HSL.out.below hb3).keep fun q hq => ⟨Nat.lt_of_lt_of_le hq hb3.size, rfl⟩
      clear hb3 HB HSL HS2 HNO hN HFN
      go_wp2_with fail
      refine (findNode_any _ _ _ _ _ _ _ HND.out hl).mono ?_
      by_cases hi : indexB l n < 0
      · have HO := Lib.hid (HN.out hi)
        have HP : Hid (foundPtr l nb n = none) := if_pos (by rw [← HIX.out]; exact hi)
        rw [HP.out]
        rintro e w4 ⟨rfl, rfl⟩
        clear HN HY hi
        go_wp2
        go_ret2
        exact ⟨by rw [HO.out.1, HO.out.2]; rfl, HB3.out⟩
      · have HO := Lib.hid (HY.out (by omega))
        have HP : Hid (foundPtr l nb n = some ⟨nb (seek l n).toNat, 0, none⟩) := if_neg (by rw [← HIX.out]; exact hi)
        rw [HP.out]
        rintro e w4 ⟨rfl, rfl⟩
        clear HN HY hi HIX HP HND
        generalize nb (seek l n).toNat = nq at *
        go_wp2_with fail
        have HI0 : Hid (Lib.IsBuilderF 94 5 w3.heap.size w3.heap.size (Lib.byteCells []) (w3.alloc (.cells #[.pointer none, .slice none 0 0] 94))) := Lib.IsBuilderF.of (Lib.fresh_isBuilder _ _ w3)
        have HB0 : Hid (Below w3.heap.size w3 (w3.alloc (.cells #[.pointer none, .slice none 0 0] 94))) := (Below.refl _ w3).alloc (Nat.le_refl _) _
        have HZ0 : Hid ((w3.alloc (.cells #[.pointer none, .slice none 0 0] 94)).heap.size = w3.heap.size + 1) := by show _ = _; simp
        generalize w3.alloc (.cells #[.pointer none, .slice none 0 0] 94) = W4 at *
        have hsl4 : SliceIs W4 (· < W4.heap.size) (.slice A2 f.len cap2) f := (HSL3.out.below HB0.out).keep fun q hq => ⟨Nat.lt_of_lt_of_le hq HB0.out.size, rfl⟩
        refine (callsWithout_any n (f.size + 1) f _ W4 (by omega) (by omega) hsl4).mono ?_
        rintro e w5 ⟨v5, rfl, ho5, hb5⟩
        have HSL5 : Hid (SliceIs w5 (SafeC w5 w3.heap.size) v5 (lessB n f)) := ho5.slice.keep fun q hq => ⟨⟨by have := HZ0.out; omega, hq.2.2⟩, rfl⟩
        have HI5 : Hid (Lib.IsBuilderF 94 5 w3.heap.size w3.heap.size (Lib.byteCells []) w5) := isB_keep HI0.out fun q o ho _ => (hb5.block q (Array.getElem?_eq_some_iff.1 ho).1).trans ho
        have HB5 : Hid (Below w3.heap.size w3 w5) := HB0.out.trans (hb5.mono (by have := HZ0.out; omega))
        have hls := lessB_size n f
        obtain ⟨A5, cap5, rfl, -⟩ := ho5.slice
        clear ho5 hb5 hsl4 HI0 HB0 HZ0 HSL3
        go_wp2_with fail
        refine (writeCalls_any w3.heap.size w3.heap.size (f.size + 1) (lessB n f) _ [] w5 (by omega) (by simp; omega) HSL5.out HI5.out HB5.out.size).mono ?_
        rintro e w6 ⟨rfl, hI6, hb6, -⟩
        have HI6 := Lib.hid hI6
        have HB6 := Lib.hid (HB5.out.trans hb6)
        clear hI6 hb6 HI5 HB5 HSL5
        go_wp2_with fail
        refine (Try.Builder_String_any_k w3.heap.size w3.heap.size _ _ HI6.out HB6.out.size).mono ?_
        rintro e w7 ⟨rfl, -, hb7, -⟩
        have HB7 := Lib.hid (HB3.out.trans ((HB6.out.trans hb7).mono HB3.out.size))
        clear hb7 HI6 HB6
        go_wp2
        go_ret2
        exact ⟨by rw [HO.out.1, HO.out.2]; rfl, HB7.out⟩
    · cases h0

end Go.Proofs.Ytfhdbbdehploeaa
