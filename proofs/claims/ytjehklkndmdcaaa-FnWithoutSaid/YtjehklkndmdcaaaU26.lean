/- Joined: Gx Lh Fu Xe Fv. -/
import Derived.Test.YtjehklkndmdcaaaU15
import Derived.Test.YtjehklkndmdcaaaU17
import Derived.Test.YtjehklkndmdcaaaU25
import Derived.Test.YtjehklkndmdcaaaU16
import Derived.Test.YtjehklkndmdcaaaU01
import Derived.Test.YtjehklkndmdcaaaU09
import Derived.Test.YtjehklkndmdcaaaU18
import Derived.Test.YtjehklkndmdcaaaU19
/- Without: the reference's and the program's. -/
namespace Go.Proofs.Ytjehklkndmdcaaa
open Go.RowKit

def withoutOk (l : List Seg) (t n : ByteArray) : Bool := (traceB l t.data.toList).isSome && decide (0 ≤ indexB l n)
def withoutRes (l : List Seg) (t n : ByteArray) : ByteArray := match traceB l t.data.toList with
  | none => ⟨#[]⟩
  | some f => if 0 ≤ indexB l n then strOf (textB (lessB n f)) else ⟨#[]⟩
theorem without_none {l : List Seg} {t n : ByteArray} (h : traceB l t.data.toList = none) : withoutOk l t n = false ∧ withoutRes l t n = ⟨#[]⟩ := by
  unfold withoutOk withoutRes
  rw [h]; exact ⟨rfl, rfl⟩
theorem without_no {l : List Seg} {t n : ByteArray} (h : indexB l n < 0) : withoutOk l t n = false ∧ withoutRes l t n = ⟨#[]⟩ := by
  have h1 : ¬ (0 ≤ indexB l n) := by omega
  unfold withoutOk withoutRes
  rw [decide_eq_false h1, Bool.and_false]
  refine ⟨rfl, ?_⟩
  cases traceB l t.data.toList with
  | none => rfl
  | some f => exact if_neg h1
theorem without_yes {l : List Seg} {t n : ByteArray} {f : Forest} (h : traceB l t.data.toList = some f) (hi : 0 ≤ indexB l n) : withoutOk l t n = true ∧ withoutRes l t n = strOf (textB (lessB n f)) := by
  unfold withoutOk withoutRes
  rw [h, decide_eq_true hi]
  exact ⟨rfl, if_pos hi⟩

set_option maxRecDepth 100000 in
set_option maxHeartbeats 1000000 in
theorem specWithout_any (A : Option Addr) (l : List Seg) (c : Nat) (t n : ByteArray) (w : World) (hw : Segs w w.heap.size A l) (hl : l.length ≤ 1048576) (hn : Short l) (ht : t.size ≤ 1048576) :
    Calls Try.prog 15 #[.slice A l.length c, .string t, .string n] w fun e w' => e = .returned (.tuple #[.string (withoutRes l t n), .bool (withoutOk l t n)]) ∧ Below w.heap.size w w' := by
  have HQ := Lib.hid (l4Read_any A l c t w hw hl hn ht)
  have HW : Hid (Segs w w.heap.size A l) := hw
  cases hR : traceB l t.data.toList with
  | none =>
    have HO := Lib.hid (without_none (n := n) hR)
    rw [hR] at HQ
    clear hw hn hR
    go_enter Try.func15, Try.ntmps15
    go_wp2_with fail
    refine Calls.mono HQ.out ?_
    rintro e w2 ⟨v, rfl, -, hb⟩
    go_wp2
    go_ret2
    exact ⟨by rw [HO.out.1, HO.out.2]; rfl, hb⟩
  | some f =>
    have hsz := (traceB_size hR).1
    have HI := Lib.hid (fun W h => l1Index_any A l c n W h hl hn)
    have HN := Lib.hid (fun h => without_no (l := l) (t := t) (n := n) h)
    have HY := Lib.hid (fun h => without_yes (n := n) hR h)
    rw [hR] at HQ
    clear hw hn hR
    go_enter Try.func15, Try.ntmps15
    go_wp2_with fail
    refine Calls.mono HQ.out ?_
    rintro e w2 ⟨v, rfl, (⟨f', hf', hsl⟩ | ⟨h0, -⟩), hb⟩
    · obtain rfl : f = f' := by injection hf'
      have HSL : Hid (IsKids w2 (· < w2.heap.size) f v) := hsl.keep fun q hq => ⟨hq.2, rfl⟩
      have HB := Lib.hid hb
      have HS2 := Lib.hid ((HW.out.below hb).more hb.size)
      obtain ⟨A2, cap2, rfl, -⟩ := id hsl
      clear hsl hb hf' HQ
      go_wp2_with fail
      refine Calls.mono (HI.out _ HS2.out) ?_
      rintro e w3 ⟨rfl, hb3⟩
      have HB3 := Lib.hid (HB.out.trans (hb3.mono HB.out.size))
      have HSL3 : Hid (IsKids w3 (· < w3.heap.size) f (.slice A2 f.len cap2)) := (HSL.out.below hb3).up hb3.size
      clear hb3 HB HSL HS2 HI
      by_cases hi : indexB l n < 0
      · have HO := Lib.hid (HN.out hi)
        generalize indexB l n = ix at *
        have hi2 : decide (ix < 0) = true := decide_eq_true hi
        clear HN HY
        go_wp2
        go_ret2
        exact ⟨by rw [HO.out.1, HO.out.2]; rfl, HB3.out⟩
      · have HO := Lib.hid (HY.out (by omega))
        generalize indexB l n = ix at *
        have hi2 : decide (ix < 0) = false := decide_eq_false hi
        clear HN HY
        go_wp2_with fail
        refine (l4Less_any n (f.size + 1) f _ w3 (by omega) (by omega) HSL3.out).mono ?_
        rintro e w4 ⟨v4, rfl, hs4, hb4⟩
        have HS4 : Hid (IsKids w4 (· < w4.heap.size) (lessB n f) v4) := hs4.1.kids.keep fun q hq => ⟨hq.2, rfl⟩
        have HB4 := Lib.hid (HB3.out.trans (hb4.mono HB3.out.size))
        obtain ⟨g4, cap4, rfl⟩ := hs4.form
        have hls := lessB_size n f
        clear hs4 hb4 HB3 HSL3
        go_wp2_with fail
        refine (l4Text_any (f.size + 1) (lessB n f) _ w4 (by omega) (by omega) HS4.out).mono ?_
        rintro e w5 ⟨rfl, hb5⟩
        have HB5 := Lib.hid (HB4.out.trans (hb5.mono HB4.out.size))
        clear hb5 HB4
        go_wp2
        go_ret2
        exact ⟨by rw [HO.out.1, HO.out.2]; rfl, HB5.out⟩
    · cases h0

theorem indexB_of {l : List Seg} (hv : validB l = true) (s : ByteArray) : indexB l s = seek l s := if_pos hv

set_option maxRecDepth 100000 in
set_option maxHeartbeats 2000000 in
theorem without_any (A : Option Addr) (l : List Seg) (c : Nat) (t n : ByteArray) (w : World) (hw : Segs w w.heap.size A l) (hl : l.length ≤ 1048576) (hlc : l.length ≤ c) (hcm : c ≤ 9223372036854775807) (hn : Short l) (ht : t.size ≤ 1048576) :
    Calls Try.prog 14 #[.slice A l.length c, .string t, .string n] w fun e w' => e = .returned (.tuple #[.string (withoutRes l t n), .bool (withoutOk l t n)]) ∧ Below w.heap.size w w' := by
  have HQ := Lib.hid (readTrace_any A l c t w hw hl hlc hcm hn ht)
  have HW : Hid (Segs w w.heap.size A l) := hw
  cases hR : traceB l t.data.toList with
  | none =>
    have HO := Lib.hid (without_none (n := n) hR)
    rw [hR] at HQ
    clear hw hn hR
    go_enter Try.func14, Try.ntmps14
    go_wp2_with fail
    refine Calls.mono HQ.out ?_
    rintro e w2 ⟨v, rfl, -, hb⟩
    go_wp2
    go_ret2
    exact ⟨by rw [HO.out.1, HO.out.2]; rfl, hb⟩
  | some f =>
    have hsz := (traceB_size hR).1
    have hv := (traceB_some hR).1
    have HIX := Lib.hid (indexB_of hv n)
    have HNO := Lib.hid (fun W h => nodesOf_any A l c W h hl hlc hcm hn hv)
    have HFN := Lib.hid (fun g nb cv W h => findNode_any w.heap.size g l nb cv n W h hl)
    have HN := Lib.hid (fun h => without_no (l := l) (t := t) (n := n) h)
    have HY := Lib.hid (fun h => without_yes (n := n) hR h)
    rw [hR] at HQ
    clear hw hn hR hv
    go_enter Try.func14, Try.ntmps14
    go_wp2_with fail
    refine Calls.mono HQ.out ?_
    rintro e w2 ⟨v, rfl, (⟨f', hf', hsl⟩ | ⟨h0, -⟩), hb⟩
    · obtain rfl : f = f' := by injection hf'
      have HSL : Hid (SliceIs w2 (· < w2.heap.size) v f) := hsl.keep fun q hq => ⟨hq.2, rfl⟩
      have HB := Lib.hid hb
      have HS2 := Lib.hid ((HW.out.below hb).more hb.size)
      obtain ⟨A2, cap2, rfl, -⟩ := id hsl
      clear hsl hb hf' HQ
      go_wp2_with fail
      refine Calls.mono (HNO.out _ HS2.out) ?_
      rintro e w3 ⟨g3, nb, cv, rfl, hN, hb3⟩
      have HND := Lib.hid hN
      have HB3 := Lib.hid (HB.out.trans (hb3.mono HB.out.size))
      have HSL3 : Hid (SliceIs w3 (· < w3.heap.size) (.slice A2 f.len cap2) f) := (HSL.out.below hb3).keep fun q hq => ⟨Nat.lt_of_lt_of_le hq hb3.size, rfl⟩
      clear hb3 HB HSL HS2 HNO hN HFN
      go_wp2_with fail
      refine (findNode_any _ _ _ _ _ _ _ HND.out hl).mono ?_
      by_cases hi : indexB l n < 0
      · have HO := Lib.hid (HN.out hi)
        have HP : Hid (foundPtr l nb n = none) := if_pos (by rw [← HIX.out]; exact hi)
        rw [HP.out]
        rintro e w4 ⟨rfl, rfl⟩
        clear HN HY hi
        go_wp2
        go_ret2
        exact ⟨by rw [HO.out.1, HO.out.2]; rfl, HB3.out⟩
      · have HO := Lib.hid (HY.out (by omega))
        have HP : Hid (foundPtr l nb n = some ⟨nb (seek l n).toNat, 0, none⟩) := if_neg (by rw [← HIX.out]; exact hi)
        rw [HP.out]
        rintro e w4 ⟨rfl, rfl⟩
        clear HN HY hi HIX HP HND
        generalize nb (seek l n).toNat = nq at *
        go_wp2_with fail
        have HI0 : Hid (Lib.IsBuilderF 45 5 w3.heap.size w3.heap.size (Lib.byteCells []) (w3.alloc (.cells #[.pointer none, .slice none 0 0] 45))) := Lib.IsBuilderF.of (Lib.fresh_isBuilder _ _ w3)
        have HB0 : Hid (Below w3.heap.size w3 (w3.alloc (.cells #[.pointer none, .slice none 0 0] 45))) := (Below.refl _ w3).alloc (Nat.le_refl _) _
        have HZ0 : Hid ((w3.alloc (.cells #[.pointer none, .slice none 0 0] 45)).heap.size = w3.heap.size + 1) := by show _ = _; simp
        generalize w3.alloc (.cells #[.pointer none, .slice none 0 0] 45) = W4 at *
        have hsl4 : SliceIs W4 (· < W4.heap.size) (.slice A2 f.len cap2) f := (HSL3.out.below HB0.out).keep fun q hq => ⟨Nat.lt_of_lt_of_le hq HB0.out.size, rfl⟩
        refine (callsWithout_any n (f.size + 1) f _ W4 (by omega) (by omega) hsl4).mono ?_
        rintro e w5 ⟨v5, rfl, ho5, hb5⟩
        have HSL5 : Hid (SliceIs w5 (SafeC w5 w3.heap.size) v5 (lessB n f)) := ho5.slice.keep fun q hq => ⟨⟨by have := HZ0.out; omega, hq.2.2⟩, rfl⟩
        have HI5 : Hid (Lib.IsBuilderF 45 5 w3.heap.size w3.heap.size (Lib.byteCells []) w5) := isB_keep HI0.out fun q o ho _ => (hb5.block q (Array.getElem?_eq_some_iff.1 ho).1).trans ho
        have HB5 : Hid (Below w3.heap.size w3 w5) := HB0.out.trans (hb5.mono (by have := HZ0.out; omega))
        have hls := lessB_size n f
        obtain ⟨A5, cap5, rfl, -⟩ := ho5.slice
        clear ho5 hb5 hsl4 HI0 HB0 HZ0 HSL3
        go_wp2_with fail
        refine (writeCalls_any w3.heap.size w3.heap.size (f.size + 1) (lessB n f) _ [] w5 (by omega) (by simp; omega) HSL5.out HI5.out HB5.out.size).mono ?_
        rintro e w6 ⟨rfl, hI6, hb6, -⟩
        have HI6 := Lib.hid hI6
        have HB6 := Lib.hid (HB5.out.trans hb6)
        clear hI6 hb6 HI5 HB5 HSL5
        go_wp2_with fail
        refine (Try.Builder_String_any_k w3.heap.size w3.heap.size _ _ HI6.out HB6.out.size).mono ?_
        rintro e w7 ⟨rfl, -, hb7, -⟩
        have HB7 := Lib.hid (HB3.out.trans ((HB6.out.trans hb7).mono HB3.out.size))
        clear hb7 HI6 HB6
        go_wp2
        go_ret2
        exact ⟨by rw [HO.out.1, HO.out.2]; rfl, HB7.out⟩
    · cases h0

end Go.Proofs.Ytjehklkndmdcaaa
/- soHas: one of a text's characters is another text. -/
namespace Go.Proofs.Ytjehklkndmdcaaa
open Go.RowKit

/-- One of the text's characters is 'c'. -/
def hasT (s c : ByteArray) : Bool := decide (∃ i, i < s.size ∧ s.extract i (i + 1) = c)

set_option maxRecDepth 100000 in
set_option maxHeartbeats 1000000 in
theorem soHas_any (s c : ByteArray) (w : World) (hs : s.size ≤ 1048576) :
    Calls Try.prog 20 #[.string s, .string c] w fun e w' => e = .returned (.bool (hasT s c)) ∧ Below w.heap.size w w' := by
  go_enter Try.func20, Try.ntmps20
  go_wp2
  go_loopw [8] (fun i wr => ∃ k : Nat, k ≤ s.size ∧ i = .int .i64 k ∧ Hid (∀ j, j < k → s.extract j (j + 1) ≠ c) ∧ Below w.heap.size w wr)
    (fun i _ => s.size - (intOf i).toNat)
  case atStart => exact ⟨0, Nat.zero_le _, rfl, fun j hj => absurd hj (by omega), Below.refl _ _⟩
  case round =>
    obtain ⟨k, hk, rfl, HN, hb⟩ := hrel
    by_cases hlt : k < s.size
    · have hlt' : (k : Int) < (s.size : Int) := by omega
      have hk0 : (0 : Int) ≤ (k : Int) := Int.natCast_nonneg _
      have hq : ((k : Int) + 1).toNat = k + 1 := by omega
      by_cases he : s.extract k (k + 1) = c
      · have ht : ((s.extract k (k + 1)).toList == c.toList) = true := by rw [he]; simp
        have HF : Hid (hasT s c = true) := decide_eq_true ⟨k, hlt, he⟩
        clear he HN
        go_wp2
        go_ret
        exact ⟨ret_bool HF.out.symm, hb⟩
      · have ht : ((s.extract k (k + 1)).toList == c.toList) = false := by
          have := (sameB_iff (a := s.extract k (k + 1)) (b := c))
          unfold sameB at this
          cases hq2 : ((s.extract k (k + 1)).toList == c.toList) with
          | false => rfl
          | true => exact absurd (this.1 hq2) he
        have HM : Hid (∀ j, j < k + 1 → s.extract j (j + 1) ≠ c) := fun j hj => by
          rcases Nat.lt_or_ge j k with h | h
          · exact HN.out j h
          · obtain rfl : j = k := by omega
            exact he
        clear he HN
        go_wp2
        go_roundw
        case rel => exact ⟨k + 1, by omega, by go_num, HM, hb⟩
        case measure => simp [intOf]; omega
    · have HF : Hid (hasT s c = false) := decide_eq_false (fun ⟨j, hj, he⟩ => HN.out j (by omega) he)
      clear HN
      go_wp2
      go_ret
      exact ⟨ret_bool HF.out.symm, hb⟩

end Go.Proofs.Ytjehklkndmdcaaa
/- Twice: the reference's and the program's. -/
namespace Go.Proofs.Ytjehklkndmdcaaa
open Go.RowKit

/-- May a trace be done twice? -/
def twiceOk (l : List Seg) (t : ByteArray) : Bool := (traceB l t.data.toList).isSome && decide (t.size + t.size ≤ 80)
def twiceRes (l : List Seg) (t : ByteArray) : ByteArray := if twiceOk l t = true then t ++ t else ⟨#[]⟩
theorem twice_data (t : ByteArray) : (t ++ t).data.toList = t.data.toList ++ t.data.toList := by rw [ByteArray.data_append, Array.toList_append]
theorem twice_some {l : List Seg} {t : ByteArray} (h : (traceB l t.data.toList).isSome = true) : t.size ≤ 80 ∧ (traceB l (t ++ t).data.toList).isSome = decide (t.size + t.size ≤ 80) := by
  obtain ⟨f, hf⟩ := Option.isSome_iff_exists.1 h
  have h80 := (traceB_some hf).2.1
  have hl : t.data.toList.length = t.size := by simp
  rw [twice_data, traceB_twice hf, hl]
  refine ⟨by omega, ?_⟩
  by_cases hs : t.size + t.size ≤ 80
  · rw [if_pos hs, decide_eq_true hs]; rfl
  · rw [if_neg hs, decide_eq_false hs]; rfl

set_option maxRecDepth 100000 in
set_option maxHeartbeats 1000000 in
theorem specTwice_any (A : Option Addr) (l : List Seg) (c : Nat) (t : ByteArray) (w : World) (hw : Segs w w.heap.size A l) (hl : l.length ≤ 1048576) (hn : Short l) (ht : t.size ≤ 1048576) :
    Calls Try.prog 18 #[.slice A l.length c, .string t] w fun e w' => e = .returned (.tuple #[.string (twiceRes l t), .bool (twiceOk l t)]) ∧ Below w.heap.size w w' := by
  have HW : Hid (Segs w w.heap.size A l) := hw
  have HQ := Lib.hid (specTraceValid_any A l c t w hw hl hn ht)
  clear hw
  cases hR : (traceB l t.data.toList).isSome with
  | false =>
    have HO : Hid (twiceOk l t = false ∧ twiceRes l t = ⟨#[]⟩) := by
      have h1 : twiceOk l t = false := by unfold twiceOk; rw [hR]; rfl
      refine ⟨h1, ?_⟩
      unfold twiceRes
      rw [h1]; rfl
    rw [hR] at HQ
    clear hR
    go_enter Try.func18, Try.ntmps18
    go_wp2_with fail
    refine Calls.mono HQ.out ?_
    rintro e w2 ⟨rfl, hb⟩
    go_wp2
    go_ret2
    exact ⟨by rw [HO.out.1, HO.out.2]; rfl, hb⟩
  | true =>
    obtain ⟨h80, h2⟩ := twice_some hR
    have HO : Hid (twiceOk l t = decide (t.size + t.size ≤ 80)) := by
      show _ = _
      unfold twiceOk
      rw [hR, Bool.true_and]
    have HQ2 := Lib.hid (fun W h => specTraceValid_any A l c (t ++ t) W h hl hn (by rw [ByteArray.size_append]; omega))
    rw [hR] at HQ
    have H2 := Lib.hid h2
    clear hR h2
    have hsz : (t ++ t).size ≤ 160 := by rw [ByteArray.size_append]; omega
    go_enter Try.func18, Try.ntmps18
    go_wp2_with fail
    refine Calls.mono HQ.out ?_
    rintro e w2 ⟨rfl, hb⟩
    have hs2 := (HW.out.below hb).more hb.size
    have HB := Lib.hid hb
    have HS2 := Lib.hid hs2
    clear hb hs2
    go_wp2_with fail
    refine Calls.mono (HQ2.out _ HS2.out) ?_
    rw [H2.out]
    rintro e w3 ⟨rfl, hb3⟩
    have HB3 := Lib.hid (HB.out.trans (hb3.mono HB.out.size))
    clear hb3 HB
    cases hd : decide (t.size + t.size ≤ 80) with
    | false =>
      have HE : Hid (twiceOk l t = false ∧ twiceRes l t = ⟨#[]⟩) := by
        have h1 : twiceOk l t = false := by rw [HO.out, hd]
        refine ⟨h1, ?_⟩
        unfold twiceRes
        rw [h1]; rfl
      clear hd
      go_wp2
      go_ret2
      exact ⟨by rw [HE.out.1, HE.out.2]; rfl, HB3.out⟩
    | true =>
      have HE : Hid (twiceOk l t = true ∧ twiceRes l t = t ++ t) := by
        have h1 : twiceOk l t = true := by rw [HO.out, hd]
        refine ⟨h1, ?_⟩
        unfold twiceRes
        rw [h1]; rfl
      clear hd
      go_wp2
      go_ret2
      exact ⟨by rw [HE.out.1, HE.out.2]; rfl, HB3.out⟩

set_option maxRecDepth 100000 in
set_option maxHeartbeats 1000000 in
theorem twice_any (A : Option Addr) (l : List Seg) (c : Nat) (t : ByteArray) (w : World) (hw : Segs w w.heap.size A l) (hl : l.length ≤ 1048576) (hlc : l.length ≤ c) (hcm : c ≤ 9223372036854775807) (hn : Short l) (ht : t.size ≤ 1048576) :
    Calls Try.prog 17 #[.slice A l.length c, .string t] w fun e w' => e = .returned (.tuple #[.string (twiceRes l t), .bool (twiceOk l t)]) ∧ Below w.heap.size w w' := by
  have HQ := Lib.hid (traceValid_any A l c t w hw hl hlc hcm hn ht)
  clear hw
  cases hR : (traceB l t.data.toList).isSome with
  | false =>
    have HO : Hid (twiceOk l t = false ∧ twiceRes l t = ⟨#[]⟩) := by
      have h1 : twiceOk l t = false := by unfold twiceOk; rw [hR]; rfl
      refine ⟨h1, ?_⟩
      unfold twiceRes
      rw [h1]; rfl
    rw [hR] at HQ
    clear hR
    go_enter Try.func17, Try.ntmps17
    go_wp2_with fail
    refine Calls.mono HQ.out ?_
    rintro e w2 ⟨rfl, hb⟩
    go_wp2
    go_ret2
    exact ⟨by rw [HO.out.1, HO.out.2]; rfl, hb⟩
  | true =>
    obtain ⟨h80, _⟩ := twice_some hR
    have HO : Hid (twiceOk l t = decide (t.size + t.size ≤ 80)) := by
      show _ = _
      unfold twiceOk
      rw [hR, Bool.true_and]
    rw [hR] at HQ
    clear hR
    by_cases hd : t.size + t.size ≤ 80
    · have HE : Hid (twiceOk l t = true ∧ twiceRes l t = t ++ t) := by
        have h1 : twiceOk l t = true := by rw [HO.out]; exact decide_eq_true hd
        refine ⟨h1, ?_⟩
        unfold twiceRes
        rw [h1]; rfl
      have q1 : ¬ (80 : Int) < 2 * (t.size : Int) := by omega
      have q2 : decide ((80 : Int) < 2 * (t.size : Int)) = false := decide_eq_false q1
      clear hd HO
      go_enter Try.func17, Try.ntmps17
      go_wp2_with fail
      refine Calls.mono HQ.out ?_
      rintro e w2 ⟨rfl, hb⟩
      go_wp2
      go_ret2
      exact ⟨by rw [HE.out.1, HE.out.2]; rfl, hb⟩
    · have HE : Hid (twiceOk l t = false ∧ twiceRes l t = ⟨#[]⟩) := by
        have h1 : twiceOk l t = false := by rw [HO.out]; exact decide_eq_false hd
        refine ⟨h1, ?_⟩
        unfold twiceRes
        rw [h1]; rfl
      have q1 : (80 : Int) < 2 * (t.size : Int) := by omega
      have q2 : decide ((80 : Int) < 2 * (t.size : Int)) = true := decide_eq_true q1
      clear hd HO
      go_enter Try.func17, Try.ntmps17
      go_wp2_with fail
      refine Calls.mono HQ.out ?_
      rintro e w2 ⟨rfl, hb⟩
      go_wp2
      go_ret2
      exact ⟨by rw [HE.out.1, HE.out.2]; rfl, hb⟩

end Go.Proofs.Ytjehklkndmdcaaa
/- The law FnWithout: what is said of what is left, plain. -/
namespace Go.Proofs.Ytjehklkndmdcaaa
open Go.RowKit

theorem hasT_str (bs : List UInt8) (c : UInt8) : hasT (strOf bs) ⟨#[c]⟩ = decide (c ∈ bs) := by
  have hsz : (strOf bs).size = bs.length := bytes_size bs
  unfold hasT
  congr 1
  refine propext ⟨fun ⟨i, hi, he⟩ => ?_, fun h => ?_⟩
  · have h1 := cut_one bs i _ (List.getElem?_eq_getElem (by omega : i < bs.length))
    have h2 : (⟨#[bs[i]]⟩ : ByteArray) = ⟨#[c]⟩ := h1.symm.trans he
    have h3 : bs[i] = c := by injection h2 with h2; injection h2 with h2; injection h2
    rw [← h3]
    exact List.getElem_mem _
  · obtain ⟨i, hi, he⟩ := List.mem_iff_getElem.1 h
    exact ⟨i, by omega, cut_one bs i c (by rw [List.getElem?_eq_getElem hi, he])⟩
theorem one_inj {c d : UInt8} (h : (⟨#[c]⟩ : ByteArray) = ⟨#[d]⟩) : c = d := by
  injection h with h; injection h with h; injection h
theorem less_out {P : UInt8 → Bool} (hP : ∀ c, P c = true → c ≠ 40 ∧ c ≠ 41) {c : UInt8} (hc : c ≠ 40 ∧ c ≠ 41) : ∀ f : Forest, c ∉ textB (lessB ⟨#[c]⟩ f)
  | .nil => by intro h; cases h
  | .cons d k r => by
    have hk := less_out hP hc k
    have hr := less_out hP hc r
    show c ∉ textB (if (⟨#[d]⟩ : ByteArray) = ⟨#[c]⟩ then lessB ⟨#[c]⟩ r else .cons d (lessB ⟨#[c]⟩ k) (lessB ⟨#[c]⟩ r))
    split
    · exact hr
    · next hne =>
      intro h
      rcases List.mem_cons.1 h with h | h
      · exact hne (by rw [h])
      · rcases List.mem_append.1 h with h | h
        · split at h
          · cases h
          · rcases List.mem_cons.1 h with h | h
            · exact hc.1 h
            · rcases List.mem_append.1 h with h | h
              · exact hk h
              · rcases List.mem_cons.1 h with h | h
                · exact hc.2 h
                · cases h
        · exact hr h
theorem less_none {c : UInt8} : ∀ f : Forest, c ∉ textB f → lessB ⟨#[c]⟩ f = f
  | .nil, _ => rfl
  | .cons d k r, h => by
    have h1 : c ≠ d := fun e => h (by rw [e]; exact List.mem_cons_self ..)
    have h2 : c ∉ textB r := fun e => h (List.mem_cons_of_mem _ (List.mem_append_right _ e))
    have h3 : c ∉ textB k := fun e => by
      apply h
      refine List.mem_cons_of_mem _ (List.mem_append_left _ ?_)
      cases k with
      | nil => cases e
      | cons c' k' f' => exact List.mem_cons_of_mem _ (List.mem_append_left _ e)
    show (if (⟨#[d]⟩ : ByteArray) = ⟨#[c]⟩ then lessB ⟨#[c]⟩ r else .cons d (lessB ⟨#[c]⟩ k) (lessB ⟨#[c]⟩ r)) = _
    rw [if_neg (fun e => h1 (one_inj e).symm), less_none k h3, less_none r h2]
theorem name_letter {l : List Seg} {n : ByteArray} (hi : 0 ≤ indexB l n) : ∃ c : UInt8, n = ⟨#[c]⟩ ∧ callP l c = true := by
  have hv : validB l = true := by
    by_cases hv : validB l = true
    · exact hv
    · unfold indexB at hi
      rw [if_neg hv] at hi
      omega
  have hs : indexB l n = seek l n := indexB_of hv n
  obtain ⟨j, hj⟩ := Int.eq_ofNat_of_zero_le hi
  obtain ⟨x, hx, hn⟩ := seek_name (l := l) (s := n) (j := j) (by rw [← hs]; exact hj)
  obtain ⟨c, h1, -⟩ := nameOk_one (validB_names hv (List.mem_of_getElem? hx))
  refine ⟨c, by rw [← hn]; exact h1, ?_⟩
  unfold callP
  rw [← h1, hn]
  exact decide_eq_true hi

/-- What the law asks of a trace without a name. -/
theorem less_said {l : List Seg} {t n : ByteArray} {f : Forest} (h : traceB l t.data.toList = some f) (hi : 0 ≤ indexB l n) :
    ∃ x : ByteArray, withoutRes l t n = x ∧ withoutOk l t n = true ∧ (traceB l x.data.toList).isSome = true ∧ withoutRes l x n = x ∧ withoutOk l x n = true ∧ x.size ≤ 80 ∧ countRes l x ≤ countRes l t ∧ hasT x n = false ∧ (hasT t n = true ∨ x = t) := by
  obtain ⟨hv, h80, hcl⟩ := traceB_some h
  have hall := traceB_all h
  obtain ⟨hz, hd⟩ := traceB_size h
  obtain ⟨c, hc, hcp⟩ := name_letter hi
  have ht : t.data.toList = textB f := by
    have := calls_text hcl
    rw [List.append_nil] at this
    exact this
  have htx : t = strOf (textB f) := by
    apply ByteArray.ext
    apply Array.ext'
    exact ht
  obtain ⟨l1, l2, l3⟩ := lessB_le n f
  have hx80 : (textB (lessB n f)).length ≤ 80 := by rw [ht] at h80; omega
  have hg : traceB l (strOf (textB (lessB n f))).data.toList = some (lessB n f) := by
    show traceB l (textB (lessB n f)) = _
    unfold traceB
    rw [hv, decide_eq_true hx80]
    have h5 := text_calls (P := callP l) (fun c h => callP_sign c h) (lessB n f) 8 [] (lessB_all n f hall) (by omega) (.inl rfl)
    rw [List.append_nil] at h5
    rw [h5]
    rfl
  obtain ⟨w1, w2⟩ := without_yes h hi
  obtain ⟨w3, w4⟩ := without_yes hg hi
  rw [lessB_again] at w4
  refine ⟨strOf (textB (lessB n f)), w2, w1, by rw [hg]; rfl, w4, w3, by rw [show (strOf (textB (lessB n f))).size = _ from bytes_size _]; exact hx80, ?_, ?_, ?_⟩
  · unfold countRes
    rw [h, hg]
    show ((lessB n f).size : Int) ≤ (f.size : Int)
    omega
  · rw [hc, hasT_str]
    exact decide_eq_false (less_out (P := callP l) (fun c h => callP_sign c h) (callP_sign c hcp) f)
  · by_cases hm : c ∈ textB f
    · left
      rw [htx, hc, hasT_str]
      exact decide_eq_true hm
    · right
      rw [htx, hc, less_none f hm]
theorem lessN_said {l : List Seg} {t n : ByteArray} (h : withoutOk l t n = false) : withoutRes l t n = ⟨#[]⟩ := by
  cases hR : traceB l t.data.toList with
  | none => exact (without_none hR).2
  | some f =>
    by_cases hi : 0 ≤ indexB l n
    · rw [(without_yes hR hi).1] at h; cases h
    · exact (without_no (by omega)).2

theorem mxLen_from : ∀ (M : List (List UInt8)) (a : Nat), M.foldl (fun m x => max m x.length) a = max a (mxLen M)
  | [], a => by simp [mxLen]
  | x :: r, a => by
    have h1 := mxLen_from r (max a x.length)
    have h2 := mxLen_from r (max 0 x.length)
    show r.foldl (fun m x => max m x.length) (max a x.length) = max a (r.foldl (fun m x => max m x.length) (max 0 x.length))
    rw [h1, h2]
    omega
theorem mxLen_twice (M : List (List UInt8)) : mxLen (M ++ M) = mxLen M := by
  show (M ++ M).foldl (fun m x => max m x.length) 0 = _
  rw [List.foldl_append, mxLen_from]
  show max (mxLen M) (mxLen M) = _
  omega
theorem twice_said {l : List Seg} {t : ByteArray} (h : twiceOk l t = true) : (twiceRes l t).size ≤ 80 ∧ ∃ k : Nat, k ≤ 80 ∧ countRes l t = k ∧ countRes l (twiceRes l t) = ((2 * k : Nat) : Int) ∧ depthRes l (twiceRes l t) = depthRes l t := by
  have hr : twiceRes l t = t ++ t := if_pos h
  rw [hr]
  unfold twiceOk at h
  simp only [Bool.and_eq_true, decide_eq_true_eq] at h
  obtain ⟨f, hf⟩ := Option.isSome_iff_exists.1 h.1
  have hl : t.data.toList.length = t.size := by simp
  have h2 : traceB l (t ++ t).data.toList = some (f.app f) := by
    rw [twice_data, traceB_twice hf, hl, if_pos h.2]
  refine ⟨by rw [ByteArray.size_append]; exact h.2, f.size, (traceB_size hf).1, by unfold countRes; rw [hf], ?_, ?_⟩
  · unfold countRes
    rw [h2]
    show (((f.app f).size : Nat) : Int) = _
    rw [Forest.app_size]
    congr 1
    omega
  · unfold depthRes
    rw [h2, hf]
    show ((mxLen (chainsB [] (f.app f)) : Nat) : Int) = ((mxLen (chainsB [] f) : Nat) : Int)
    rw [chainsB_app, mxLen_twice]

end Go.Proofs.Ytjehklkndmdcaaa
/- The program's DepthOf. -/
namespace Go.Proofs.Ytjehklkndmdcaaa
open Go.RowKit Go.Shelf
attribute [local go_sem] Oper.semAt_some

set_option maxRecDepth 100000 in
set_option maxHeartbeats 2000000 in
theorem implDepthOf_any (A : Option Addr) (l : List Seg) (c : Nat) (t : ByteArray) (w : World) (hw : Segs w w.heap.size A l) (hl : l.length ≤ 1048576) (hlc : l.length ≤ c) (hcm : c ≤ 9223372036854775807) (hn : Short l) (ht : t.size ≤ 1048576) :
    Calls Try.prog 19 #[.slice A l.length c, .string t] w fun e w' => e = .returned (.int .i64 (depthRes l t)) ∧ Below w.heap.size w w' := by
  have HQ := Lib.hid (readTrace_any A l c t w hw hl hlc hcm hn ht)
  unfold depthRes
  cases hR : traceB l t.data.toList with
  | none =>
    rw [hR] at HQ
    clear hw hn hR
    go_enter Try.func19, Try.ntmps19
    go_wp2_with fail
    refine Calls.mono HQ.out ?_
    rintro e w2 ⟨v, rfl, -, hb⟩
    go_wp2
    go_ret
    exact ⟨rfl, hb⟩
  | some f =>
    have hsz := traceB_size hR
    rw [hR] at HQ
    clear hw hn hR
    refine (callsIn_wide (n := 20)).1 ?_
    refine callsIn_of_wp_marks Try.func19 rfl trivial ?_ rfl
    simp only [Try.ntmps19, List.size_toArray, List.length_cons, List.length_nil, Nat.reduceAdd, Nat.reduceSub, Array.replicate_succ, Array.replicate_zero, List.push_toArray, List.append_toArray, List.nil_append, List.cons_append]
    gi_wp2_with fail
    refine ⟨trivial, ?_⟩
    gi_at_call 23
    refine (callsIn_wide.2 HQ.out).mono ?_
    rintro e w2 ⟨v, rfl, (⟨f', hf', hsl⟩ | ⟨h0, -⟩), hb⟩
    · obtain rfl : f = f' := by injection hf'
      have HSL : Hid (SliceIs w2 (· < w2.heap.size) v f) := hsl.keep fun q hq => ⟨hq.2, rfl⟩
      have HB := Lib.hid hb
      obtain ⟨A2, cap2, rfl, -⟩ := id hsl
      clear hsl hb hf' HQ
      gi_wp2_with fail
      refine ⟨trivial, ?_⟩
      gi_at_call 44
      refine (callsIn_wide.2 (chainsOf_any _ _ _ _ _)).mono ?_
      rintro e w3 ⟨rfl, rfl⟩
      gi_wp2
      have hz0 : (((w2.alloc (.cells #[.int .i64 0] 3)).alloc (.cells #[.string ⟨#[]⟩] 9)).alloc (.cells #[.slice A2 f.len cap2] 40)).heap.size = w2.heap.size + 3 := by simp
      have hr0 : Row (((w2.alloc (.cells #[.int .i64 0] 3)).alloc (.cells #[.string ⟨#[]⟩] 9)).alloc (.cells #[.slice A2 f.len cap2] 40)) w2.heap.size 3 #[.int .i64 ((mxLen [] : Nat) : Int)] := ((Row.new w2 _ _).alloc _).alloc _
      have hr1 : Row (((w2.alloc (.cells #[.int .i64 0] 3)).alloc (.cells #[.string ⟨#[]⟩] 9)).alloc (.cells #[.slice A2 f.len cap2] 40)) (w2.heap.size + 1) 9 #[.string ⟨#[]⟩] := by
        have := Row.new (w2.alloc (.cells #[.int .i64 0] 3)) 9 #[.string ⟨#[]⟩]
        rw [World.size_alloc] at this
        exact this.alloc _
      have hr2 : Row (((w2.alloc (.cells #[.int .i64 0] 3)).alloc (.cells #[.string ⟨#[]⟩] 9)).alloc (.cells #[.slice A2 f.len cap2] 40)) (w2.heap.size + 2) 40 #[.slice A2 f.len cap2] := by
        have := Row.new ((w2.alloc (.cells #[.int .i64 0] 3)).alloc (.cells #[.string ⟨#[]⟩] 9)) 40 #[.slice A2 f.len cap2]
        rw [World.size_alloc, World.size_alloc] at this
        exact this
      have hb0 : Below w2.heap.size w2 (((w2.alloc (.cells #[.int .i64 0] 3)).alloc (.cells #[.string ⟨#[]⟩] 9)).alloc (.cells #[.slice A2 f.len cap2] 40)) := (((Below.refl _ w2).alloc (Nat.le_refl _) _).alloc (by simp) _).alloc (by simp; omega) _
      generalize ((w2.alloc (.cells #[.int .i64 0] 3)).alloc (.cells #[.string ⟨#[]⟩] 9)).alloc (.cells #[.slice A2 f.len cap2] 40) = W0 at *
      refine wpIn_rangeFunc_R (by omega) (gf := 59) (lb := #[.pointer (some ⟨w2.heap.size + 1 + 1, 0, none⟩), .pointer (some ⟨w2.heap.size + 1, 0, none⟩)]) rfl (enters_of Try.func59 (by kernel_rfl) rfl)
        (chains1_seq w2.heap.size (w2.heap.size + 1) (fun x => x) (f.size + 1) f [] f.size 19 (w2.heap.size + 2) (w2.heap.size + 1) (.slice A2 f.len cap2) W0 (by omega) (by simp; omega) (fun _ _ => rfl) ⟨.inr (by omega), by decide, hr2⟩ ⟨.inr (by omega), by decide, hr1⟩ (HSL.out.below hb0) (by omega) (Nat.le_refl _) (by omega))
        (by omega) (by omega) (Below.refl _ _) (fun _ => rfl)
        (fun pre W => Row W w2.heap.size 3 #[.int .i64 ((mxLen pre : Nat) : Int)] ∧ Below w2.heap.size w2 W)
        (fun _ _ _ => False)
        (fun pre X Y row hs hg hr => ⟨row_grownT hs.1 hg hr, hs.2.grown hg hs.2.size (fun k e => by have := (hr k e).1; omega)⟩)
        (fun _ _ _ _ _ hs _ _ => hs)
        ⟨hr0, hb0⟩
        (fun x => { tmps := #[.slice A l.length c, .string t, undef, undef, .int .i64 0, .slice A2 f.len cap2, .bool true, .pointer (some ⟨w2.heap.size, 0, none⟩), .string (strOf x), .tuple #[.slice A2 f.len cap2, .bool true], .slice A l.length c, .string t, .tuple #[.slice A2 f.len cap2, .bool true], .slice A2 f.len cap2, .bool true, .bool true, .bool false, .slice A2 f.len cap2, .func (.func 59) #[] #[.pointer (some ⟨w2.heap.size + 1 + 1, 0, none⟩), .pointer (some ⟨w2.heap.size + 1, 0, none⟩)], .string (strOf x), undef, undef, undef, undef, undef], defers := [] }) ?assign ?body ?done ?stop
      case assign =>
        intro l2 x X K hK
        gi_wp2
        exact hK
      case body =>
        rintro l2 pre x X ⟨hr, hbx⟩ hlen hz
        have d0 : X.cell? ⟨w2.heap.size, 0, none⟩ = some (.int .i64 ((mxLen pre : Nat) : Int)) := hr.cell 0
        have z0 : X.frozen? ⟨w2.heap.size, 0, none⟩ = false := hr.free 0
        have HM : Hid (max ((mxLen pre : Nat) : Int) ((strOf x).size : Int) = ((mxLen (pre ++ [x]) : Nat) : Int)) := by
          show _ = _
          rw [mxLen_snoc, str_size]
          omega
        have HR := Lib.hid hr
        have HBX := Lib.hid hbx
        clear hr hbx
        gi_wp2
        refine ⟨⟨by simp [World.setCell], fun k o hk ho _ => (Below.heap_setCell X _ _ k (by show k ≠ w2.heap.size; omega)).trans ho⟩, (Below.refl w2.heap.size X).setCell (p := ⟨w2.heap.size, 0, none⟩) (Nat.le_refl _) _, ?_, HBX.out.setCell (p := ⟨w2.heap.size, 0, none⟩) (Nat.le_refl _) _⟩
        rw [← HM.out]
        exact HR.out.put 0 _
      case done =>
        rintro L ys X hL rfl ⟨hr, hbx⟩ hK
        have d0 : X.cell? ⟨w2.heap.size, 0, none⟩ = some (.int .i64 ((mxLen (chainsB [] f) : Nat) : Int)) := hr.cell 0
        have HBX := Lib.hid hbx
        clear hr hbx
        gi_wp2
        refine ⟨by simp, .inl ⟨_, _, rfl, run_takeDeferred hK, ?_⟩⟩
        refine ⟨_, results_tmp rfl _ _ _, rfl, (HB.out.trans (HBX.out.mono HB.out.size)).trans (belowK_b (w := w) (Nat.le_refl _) X L _ _ (by have := HB.out.size; omega) hK rfl rfl)⟩
      case stop =>
        rintro L c' pre X _ _ h _
        exact h.elim
    · cases h0

end Go.Proofs.Ytjehklkndmdcaaa
