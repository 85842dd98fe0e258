/- Twice: the reference's and the program's. -/
import Derived.Test.YtfhdbbdehploeaaFk
import Derived.Test.YtfhdbbdehploeaaFl
import Derived.Test.YtfhdbbdehploeaaFj
namespace Go.Proofs.Ytfhdbbdehploeaa
open Go.RowKit

/-- May a trace be done twice? -/
def twiceOk (l : List Seg) (t : ByteArray) : Bool := (traceB l t.data.toList).isSome && decide (t.size + t.size ≤ 80)
def twiceRes (l : List Seg) (t : ByteArray) : ByteArray := if twiceOk l t = true then t ++ t else ⟨#[]⟩
theorem twice_data (t : ByteArray) : (t ++ t).data.toList = t.data.toList ++ t.data.toList := by rw [ByteArray.data_append, Array.toList_append]
theorem twice_some {l : List Seg} {t : ByteArray} (h : (traceB l t.data.toList).isSome = true) : t.size ≤ 80 ∧ (traceB l (t ++ t).data.toList).isSome = decide (t.size + t.size ≤ 80) := by
  obtain ⟨f, hf⟩ := Option.isSome_iff_exists.1 h
  have h80 := (traceB_some hf).2.1
  have hl : t.data.toList.length = t.size := by simp
  rw [twice_data, traceB_twice hf, hl]
  refine ⟨by omega, ?_⟩
  by_cases hs : t.size + t.size ≤ 80
  · rw [if_pos hs, decide_eq_true hs]; rfl
  · rw [if_neg hs, decide_eq_false hs]; rfl

set_option maxRecDepth 100000 in
set_option maxHeartbeats 1000000 in
theorem specTwice_any (A : Option Addr) (l : List Seg) (c : Nat) (t : ByteArray) (w : World) (hw : Segs w w.heap.size A l) (hl : l.length ≤ 1048576) (hn : Short l) (ht : t.size ≤ 1048576) :
    Calls Try.prog 68 #[.slice A l.length c, .string t] w fun e w' => e = .returned (.tuple #[.string (twiceRes l t), .bool (twiceOk l t)]) ∧ Below w.heap.size w w' := by
  have HW : Hid (Segs w w.heap.size A l) := hw
  have HQ := Lib.hid (specTraceValid_any A l c t w hw hl hn ht)
  clear hw
  cases hR : (traceB l t.data.toList).isSome with
  | false =>
    have HO : Hid (twiceOk l t = false ∧ twiceRes l t = ⟨#[]⟩) := by
      have h1 : twiceOk l t = false := by unfold twiceOk; rw [hR]; rfl
      refine ⟨h1, ?_⟩
      unfold twiceRes
      rw [h1]; rfl
    rw [hR] at HQ
    clear hR
    go_enter Try.func68, Try.ntmps68
    go_wp2_with fail
    refine Calls.mono HQ.out ?_
    rintro e w2 ⟨rfl, hb⟩
    go_wp2
    go_ret2
    exact ⟨by rw [HO.out.1, HO.out.2]; rfl, hb⟩
  | true =>
    obtain ⟨h80, h2⟩ := twice_some hR
    have HO : Hid (twiceOk l t = decide (t.size + t.size ≤ 80)) := by
      show _ = _
      unfold twiceOk
      rw [hR, Bool.true_and]
    have HQ2 := Lib.hid (fun W h => specTraceValid_any A l c (t ++ t) W h hl hn (by rw [ByteArray.size_append]; omega))
    rw [hR] at HQ
    have H2 := Lib.hid h2
    clear hR h2
    have hsz : (t ++ t).size ≤ 160 := by rw [ByteArray.size_append]; omega
    go_enter Try.func68, Try.ntmps68
    go_wp2_with fail
    refine Calls.mono HQ.out ?_
    rintro e w2 ⟨rfl, hb⟩
    have hs2 := (HW.out.below hb).more hb.size
    have HB := Lib.hid hb
    have HS2 := Lib.hid hs2
    clear hb hs2
    go_wp2_with fail
    refine Calls.mono (HQ2.out _ HS2.out) ?_
    rw [H2.out]
    rintro e w3 ⟨rfl, hb3⟩
    have HB3 := Lib.hid (HB.out.trans (hb3.mono HB.out.size))
    clear hb3 HB
    cases hd : decide (t.size + t.size ≤ 80) with
    | false =>
      have HE : Hid (twiceOk l t = false ∧ twiceRes l t = ⟨#[]⟩) := by
        have h1 : twiceOk l t = false := by rw [HO.out, hd]
        refine ⟨h1, ?_⟩
        unfold twiceRes
        rw [h1]; rfl
      clear hd
      go_wp2
      go_ret2
      exact ⟨by rw [HE.out.1, HE.out.2]; rfl, HB3.out⟩
    | true =>
      have HE : Hid (twiceOk l t = true ∧ twiceRes l t = t ++ t) := by
        have h1 : twiceOk l t = true := by rw [HO.out, hd]
        refine ⟨h1, ?_⟩
        unfold twiceRes
        rw [h1]; rfl
      clear hd
      go_wp2
      go_ret2
      exact ⟨by rw [HE.out.1, HE.out.2]; rfl, HB3.out⟩

set_option maxRecDepth 100000 in
set_option maxHeartbeats 1000000 in
theorem twice_any (A : Option Addr) (l : List Seg) (c : Nat) (t : ByteArray) (w : World) (hw : Segs w w.heap.size A l) (hl : l.length ≤ 1048576) (hlc : l.length ≤ c) (hcm : c ≤ 9223372036854775807) (hn : Short l) (ht : t.size ≤ 1048576) :
    Calls Try.prog 67 #[.slice A l.length c, .string t] w fun e w' => e = .returned (.tuple #[.string (twiceRes l t), .bool (twiceOk l t)]) ∧ Below w.heap.size w w' := by
  have HQ := Lib.hid (traceValid_any A l c t w hw hl hlc hcm hn ht)
  clear hw
  cases hR : (traceB l t.data.toList).isSome with
  | false =>
    have HO : Hid (twiceOk l t = false ∧ twiceRes l t = ⟨#[]⟩) := by
      have h1 : twiceOk l t = false := by unfold twiceOk; rw [hR]; rfl
      refine ⟨h1, ?_⟩
      unfold twiceRes
      rw [h1]; rfl
    rw [hR] at HQ
    clear hR
    go_enter Try.func67, Try.ntmps67
    go_wp2_with fail
    refine Calls.mono HQ.out ?_
    rintro e w2 ⟨rfl, hb⟩
    go_wp2
    go_ret2
    exact ⟨by rw [HO.out.1, HO.out.2]; rfl, hb⟩
  | true =>
    obtain ⟨h80, _⟩ := twice_some hR
    have HO : Hid (twiceOk l t = decide (t.size + t.size ≤ 80)) := by
      show _ = _
      unfold twiceOk
      rw [hR, Bool.true_and]
    rw [hR] at HQ
    clear hR
    by_cases hd : t.size + t.size ≤ 80
    · have HE : Hid (twiceOk l t = true ∧ twiceRes l t = t ++ t) := by
        have h1 : twiceOk l t = true := by rw [HO.out]; exact decide_eq_true hd
        refine ⟨h1, ?_⟩
        unfold twiceRes
        rw [h1]; rfl
      have q1 : ¬ (80 : Int) < 2 * (t.size : Int) := by omega
      have q2 : decide ((80 : Int) < 2 * (t.size : Int)) = false := decide_eq_false q1
      clear hd HO
      go_enter Try.func67, Try.ntmps67
      go_wp2_with fail
      refine Calls.mono HQ.out ?_
      rintro e w2 ⟨rfl, hb⟩
      go_wp2
      go_ret2
      exact ⟨by rw [HE.out.1, HE.out.2]; rfl, hb⟩
    · have HE : Hid (twiceOk l t = false ∧ twiceRes l t = ⟨#[]⟩) := by
        have h1 : twiceOk l t = false := by rw [HO.out]; exact decide_eq_false hd
        refine ⟨h1, ?_⟩
        unfold twiceRes
        rw [h1]; rfl
      have q1 : (80 : Int) < 2 * (t.size : Int) := by omega
      have q2 : decide ((80 : Int) < 2 * (t.size : Int)) = true := decide_eq_true q1
      clear hd HO
      go_enter Try.func67, Try.ntmps67
      go_wp2_with fail
      refine Calls.mono HQ.out ?_
      rintro e w2 ⟨rfl, hb⟩
      go_wp2
      go_ret2
      exact ⟨by rw [HE.out.1, HE.out.2]; rfl, hb⟩

end Go.Proofs.Ytfhdbbdehploeaa
