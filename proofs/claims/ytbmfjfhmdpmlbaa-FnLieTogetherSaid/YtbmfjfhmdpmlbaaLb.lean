/- The model's side of rooms: the whole room, what is saved, who lies together. -/
import Derived.Test.YtbmfjfhmdpmlbaaLa
import Derived.Test.YtbmfjfhmdpmlbaaEr
namespace Go.Proofs.Ytbmfjfhmdpmlbaa
open Go.RowKit

set_option maxRecDepth 100000 in
set_option maxHeartbeats 400000 in
theorem l2Room_any (A : Option Addr) (l : List Seg) (c : Nat) (w : World) (hw : Segs w w.heap.size A l) (hv : validB l = true) :
    Calls Try.prog 113 #[.slice A l.length c] w fun e w' => e = .returned (.int .i64 (roomTo l l.length)) ∧ Below w.heap.size w w' := by
  have HW : Hid (Segs w w.heap.size A l) := hw
  have HV := Lib.hid hv
  have hl8 := (valid_all hv).2.1
  clear hw hv
  go_enter Try.func113, Try.ntmps113
  go_wp2
  go_loopw [3, 7] (fun s i wr => ∃ (k : Nat) (n : Int), k ≤ l.length ∧ i = .int .i64 k ∧ s = .int .i64 n ∧ Hid (roomTo l k = n) ∧ Below w.heap.size w wr)
    (fun _ i _ => l.length - (intOf i).toNat)
  case atStart => exact ⟨0, 0, Nat.zero_le _, rfl, rfl, rfl, Below.refl _ _⟩
  case round =>
    obtain ⟨k, n, hk, rfl, rfl, HN, hb⟩ := hrel
    by_cases hlt : k < l.length
    · have HR : Hid (roomTo l (k + 1) = max n (endAt l k)) := by
        show _ = _
        rw [roomTo, HN.out]
      obtain ⟨n1, n2, n3⟩ := place_small HV.out hlt
      have hr := roomTo_bd HV.out k hk
      rw [HN.out] at hr
      obtain ⟨r1, r2⟩ := hr
      have he0 : 0 ≤ endAt l k := by omega
      clear n1 n2 HN
      go_wp2_with fail
      refine (l2End_any _ _ _ _ _ ((HW.out.below hb).more hb.size) HV.out hlt).mono ?_
      rintro e w1 ⟨rfl, hb1⟩
      have B1 := hb.trans (hb1.mono hb.size)
      clear hb hb1
      generalize endAt l k = en at *
      go_wp2
      all_goals go_roundw
      all_goals first
        | exact ⟨k + 1, _, by omega, by go_num, rfl, by rw [HR.out]; omega, B1⟩
        | exact ⟨k + 1, _, by omega, by go_num, rfl, HR, B1⟩
        | (simp [intOf]; omega)
    · obtain rfl : k = l.length := by omega
      go_wp2
      go_ret
      exact ⟨ret_int HN.out.symm, hb⟩

set_option maxRecDepth 100000 in
set_option maxHeartbeats 400000 in
theorem specRoom_any (A : Option Addr) (l : List Seg) (c : Nat) (w : World) (hw : Segs w w.heap.size A l) (hl : l.length ≤ 1048576) (hn : Short l) :
    Calls Try.prog 111 #[.slice A l.length c] w fun e w' => e = .returned (.int .i64 (roomB l)) ∧ Below w.heap.size w w' := by
  have HW : Hid (Segs w w.heap.size A l) := hw
  clear hw
  cases hv : validB l with
  | false =>
    have HF : Hid (roomB l = -1) := if_neg (by rw [hv]; decide)
    go_enter Try.func111, Try.ntmps111
    go_wp2_with fail
    refine (specTreeValid_any _ _ _ _ HW.out hl hn).mono ?_
    rw [hv]
    rintro e w1 ⟨rfl, hb1⟩
    go_wp2
    go_ret
    exact ⟨ret_int HF.out.symm, hb1⟩
  | true =>
    have HF : Hid (roomB l = roomTo l l.length) := if_pos hv
    go_enter Try.func111, Try.ntmps111
    go_wp2_with fail
    refine (specTreeValid_any _ _ _ _ HW.out hl hn).mono ?_
    rw [hv]
    rintro e w1 ⟨rfl, hb1⟩
    have HV := Lib.hid hv
    clear hv
    go_wp2_with fail
    refine (l2Room_any _ _ _ _ ((HW.out.below hb1).more hb1.size) HV.out).mono ?_
    rintro e w2 ⟨rfl, hb2⟩
    have B2 := hb1.trans (hb2.mono hb1.size)
    clear hb1 hb2
    go_wp2
    go_ret
    exact ⟨ret_int HF.out.symm, B2⟩

theorem beq_str {a b : ByteArray} : (a.toList == b.toList) = decide (a = b) := by
  have h := sameB_iff (a := a) (b := b)
  unfold sameB at h
  by_cases he : a = b
  · rw [decide_eq_true he]; exact h.2 he
  · rw [decide_eq_false he]
    cases hh : (a.toList == b.toList) with
    | false => rfl
    | true => exact absurd (h.1 hh) he

set_option maxRecDepth 100000 in
set_option maxHeartbeats 400000 in
theorem specLie_any (A : Option Addr) (l : List Seg) (c : Nat) (s t : ByteArray) (w : World) (hw : Segs w w.heap.size A l) (hl : l.length ≤ 1048576) (hn : Short l) :
    Calls Try.prog 37 #[.slice A l.length c, .string s, .string t] w fun e w' => e = .returned (.bool (lieB l s t)) ∧ Below w.heap.size w w' := by
  have HW : Hid (Segs w w.heap.size A l) := hw
  clear hw
  by_cases hst : 0 ≤ indexB l s ∧ 0 ≤ indexB l t
  · have h1 : ((comStr l s t).toList == s.toList) = decide ((indexB l s).toNat ∈ pathIx l t) := by rw [beq_str, decide_eq_decide]; exact lie_left hst.1 hst.2
    have h2 : ((comStr l s t).toList == t.toList) = decide ((indexB l t).toNat ∈ pathIx l s) := by rw [beq_str, decide_eq_decide]; exact lie_right hst.1 hst.2
    have hO : comOk l s t = true := by
      unfold comOk hasSeg
      rw [decide_eq_true hst.1, decide_eq_true hst.2]
      rfl
    have HF : Hid (lieB l s t = (decide ((indexB l s).toNat ∈ pathIx l t) || decide ((indexB l t).toNat ∈ pathIx l s))) := by
      show lieB l s t = _
      unfold lieB
      rw [hO, Bool.true_and]
    clear hst
    have HO := Lib.hid hO
    clear hO
    generalize decide ((indexB l s).toNat ∈ pathIx l t) = p at *
    generalize decide ((indexB l t).toNat ∈ pathIx l s) = q at *
    cases p <;> cases q
    all_goals
      go_enter Try.func37, Try.ntmps37
      go_wp2_with fail
      refine (specCommon_any _ _ _ _ _ _ HW.out hl hn).mono ?_
      rw [HO.out]
      rintro e w1 ⟨rfl, hb1⟩
      go_wp2
      go_ret
      exact ⟨ret_bool HF.out.symm, hb1⟩
  · have hO : comOk l s t = false := by
      unfold comOk hasSeg
      by_cases h1 : 0 ≤ indexB l s
      · rw [decide_eq_false (p := 0 ≤ indexB l t) (fun h2 => hst ⟨h1, h2⟩), Bool.and_false]
      · rw [decide_eq_false h1, Bool.false_and]
    have HF : Hid (lieB l s t = false) := by
      show lieB l s t = _
      unfold lieB
      rw [hO, Bool.false_and]
    clear hst
    have HO := Lib.hid hO
    clear hO
    go_enter Try.func37, Try.ntmps37
    go_wp2_with fail
    refine (specCommon_any _ _ _ _ _ _ HW.out hl hn).mono ?_
    rw [HO.out]
    rintro e w1 ⟨rfl, hb1⟩
    go_wp2
    go_ret
    exact ⟨ret_bool HF.out.symm, hb1⟩

end Go.Proofs.Ytbmfjfhmdpmlbaa
