/- The reference's text of numbers. -/
import Derived.Test.YtdbddockmdkmeaaDoorMk
import Derived.Test.YtdbddockmdkmeaaDoorTi
import Derived.Test.YtdbddockmdkmeaaDoorPl
namespace Go.Proofs.YtdbddockmdkmeaaDoor
open Go.RowKit

theorem fmtB_take {xs : List Int} {k : Nat} (hk : k < xs.length) : fmtB (xs.take (k + 1)) = if k = 0 then Lib.itoa xs[k] else fmtB (xs.take k) ++ 32 :: Lib.itoa xs[k] := by
  rw [List.take_succ_eq_append_getElem hk, fmtB_snoc]
  by_cases h : k = 0
  · subst h; rw [if_pos rfl, if_pos (by simp)]
  · rw [if_neg h, if_neg (fun e => by
      have h2 := congrArg List.length e
      rw [List.length_take, List.length_nil] at h2
      omega)]

set_option maxRecDepth 100000 in
set_option maxHeartbeats 1000000 in
theorem specFormatNumbers_any (A : Option Addr) (xs : List Int) (c : Nat) (w : World) (hw : Si.Ints w w.heap.size A xs) (hl : xs.length ≤ 1048576) (hr : ∀ x ∈ xs, -9223372036854775808 ≤ x ∧ x ≤ 9223372036854775807) :
    Calls Tryd.prog 39 #[.slice A xs.length c] w fun e w' => e = .returned (.string (fmtRes xs)) ∧ Below w.heap.size w w' := by
  have HW := Lib.hid hw
  have HR := Lib.hid hr
  clear hw hr
  go_enter Tryd.func39, Tryd.ntmps39
  go_wp2
  go_loopw [3, 8] (fun s i wr => ∃ (k : Nat) (z : ByteArray), s = .string z ∧ i = .int .i64 k ∧ k ≤ xs.length ∧ z.size ≤ 21 * k ∧ Hid (z = txt12 (fmtB (xs.take k))) ∧ Hid (Below w.heap.size w wr))
    (fun _ i _ => xs.length - (intOf i).toNat)
  case atStart => exact ⟨0, _, rfl, rfl, Nat.zero_le _, Nat.le_refl _, Lib.hid rfl, Lib.hid (Below.refl _ _)⟩
  case round =>
    obtain ⟨k, z, rfl, rfl, hk, hz, HZ, HB⟩ := hrel
    by_cases hlt : k < xs.length
    · have hlt' : (k : Int) < (xs.length : Int) := by omega
      obtain ⟨b, o, rfl, hb, hcs⟩ := HW.out (by omega)
      have e1 := hcs k xs[k] (List.getElem?_eq_getElem hlt)
      rw [← HB.out.cell hb] at e1
      obtain ⟨hx0, hx1⟩ := HR.out xs[k] (List.getElem_mem hlt)
      have HT := Lib.hid (fmtB_take hlt)
      have hyl := itoa_len xs[k] hx0 hx1
      clear hcs
      generalize xs[k] = x at *
      have HQ := Lib.hid (fun w => l13Dec_any x w hx0 hx1)
      obtain ⟨y, HY⟩ : ∃ y, Hid (y = txt12 (Lib.itoa x)) := ⟨_, rfl⟩
      have hys : y.size ≤ 20 := by rw [HY.out, txt12_size]; exact hyl
      rw [← HY.out] at HQ
      by_cases h0 : k = 0
      · have h0' : ¬ (0 : Int) < (k : Int) := by omega
        have HN : Hid (z ++ y = txt12 (fmtB (xs.take (k + 1)))) := by
          show _ = _
          have h2 := HT.out
          rw [if_pos h0] at h2
          rw [HZ.out, HY.out, h2, h0, txt12_app]
          simp [fmtB]
        have hsz : z.size + y.size ≤ 9223372036854775807 := by omega
        clear HT HZ HY h0
        go_wp2_with fail
        refine Calls.mono (HQ.out _) ?_
        rintro e w2 ⟨rfl, hb2⟩
        have HB2 : Hid (Below w.heap.size w w2) := HB.out.trans (hb2.mono HB.out.size)
        have hsn : (z ++ y).size ≤ 21 * (k + 1) := by rw [ByteArray.size_append]; omega
        clear hb2 HQ HB
        go_wp2
        go_roundw
        case rel => exact ⟨k + 1, _, rfl, by go_num, by omega, hsn, HN, HB2⟩
        case measure => simp [intOf]; omega
      · have h0' : (0 : Int) < (k : Int) := by omega
        have HN : Hid (z ++ ⟨#[32]⟩ ++ y = txt12 (fmtB (xs.take (k + 1)))) := by
          show z ++ txt12 [32] ++ y = _
          have h2 := HT.out
          rw [if_neg h0] at h2
          rw [HZ.out, HY.out, h2, txt12_app, txt12_app, List.append_assoc]
          rfl
        have hsz0 : z.size + (⟨#[32]⟩ : ByteArray).size ≤ 9223372036854775807 := by show z.size + 1 ≤ _; omega
        have hs1 : (z ++ (⟨#[32]⟩ : ByteArray)).size = z.size + 1 := by rw [ByteArray.size_append]; rfl
        have hsz : (z ++ (⟨#[32]⟩ : ByteArray)).size + y.size ≤ 9223372036854775807 := by omega
        clear HT HZ HY h0
        go_wp2_with fail
        refine Calls.mono (HQ.out _) ?_
        rintro e w2 ⟨rfl, hb2⟩
        have HB2 : Hid (Below w.heap.size w w2) := HB.out.trans (hb2.mono HB.out.size)
        have hsn : (z ++ (⟨#[32]⟩ : ByteArray) ++ y).size ≤ 21 * (k + 1) := by rw [ByteArray.size_append, hs1]; omega
        clear hb2 HQ HB
        go_wp2
        go_roundw
        case rel => exact ⟨k + 1, _, rfl, by go_num, by omega, hsn, HN, HB2⟩
        case measure => simp [intOf]; omega
    · have hke : k = xs.length := by omega
      have HZ2 : Hid (z = txt12 (fmtB xs)) := by
        show _ = _
        rw [HZ.out, hke, List.take_length]
      have HR2 : Hid (fmtRes xs = txt12 (if xs = [] then [45] else fmtB xs)) := rfl
      clear HR
      by_cases hx : xs = []
      · have hz0 : z = ⟨#[]⟩ := by rw [HZ2.out, hx]; rfl
        have HF : Hid (fmtRes xs = ⟨#[45]⟩) := by
          show _ = _
          rw [HR2.out, if_pos hx]; rfl
        subst hz0
        clear hx HZ HZ2 HR2
        go_wp2
        go_ret
        exact ⟨by rw [HF.out]; rfl, HB.out⟩
      · have HF : Hid (fmtRes xs = z) := by
          show _ = _
          rw [HR2.out, if_neg hx, HZ2.out]
        have hne : z.toList.isEmpty = false := by
          rw [← Bool.not_eq_true]
          intro e
          have h0 : z.toList = [] := List.isEmpty_iff.1 e
          have e : sameB z ⟨#[]⟩ = true := by
            unfold sameB
            rw [h0]
            unfold ByteArray.toList ByteArray.toList.loop
            decide
          have e := sameB_iff.1 e
          rw [HZ2.out] at e
          have h2 := congrArg ByteArray.size e
          rw [txt12_size] at h2
          have h3 : fmtB xs = [] := List.eq_nil_of_length_eq_zero h2
          exact hx (fmtB_nil.1 h3)
        clear hx HZ HZ2 HR2
        go_wp2
        go_ret
        exact ⟨by rw [HF.out]; rfl, HB.out⟩

end Go.Proofs.YtdbddockmdkmeaaDoor
