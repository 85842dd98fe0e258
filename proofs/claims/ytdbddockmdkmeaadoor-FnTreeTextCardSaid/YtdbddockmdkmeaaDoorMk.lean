/- The reference's decimal numerals. -/
import Derived.Test.YtdbddockmdkmeaaDoorMj
import Derived.Test.YtdbddockmdkmeaaDoorSz
import Derived.Laws.IdiomStrings
namespace Go.Proofs.YtdbddockmdkmeaaDoor
open Go.RowKit

theorem digit_byte (d : Nat) (h : d < 10) : (UInt8.ofNat (48 + d)).toNat = 48 + d := by
  rw [UInt8.toNat_ofNat']
  omega
set_option maxRecDepth 100000 in
/-- A byte in a new block is one sign. -/
theorem conv_digit (w : World) (d : Nat) (h : d < 10) (v : Int) (hv : v = 48 + (d : Int)) :
    (convert 22 9 (.slice (some ⟨w.heap.size, 0, none⟩) 1 1)).run Tryd.prog (w.alloc (.cells #[.int .u8 v] 5)) = .ok (.string (txt12 [UInt8.ofNat (48 + d)])) (w.alloc (.cells #[.int .u8 v] 5)) :=
  run_convert_bytes_back _ _ _ 5 _ 1 [UInt8.ofNat (48 + d)] Tryd.underlying22 Tryd.underlying5 Tryd.underlying9 fun j hj => by
    have hj0 : j = 0 := by simp at hj; exact hj
    subst hj0
    have h1 : (w.alloc (.cells #[.int .u8 v] 5)).cell? ⟨w.heap.size, 0, none⟩ = some (.int .u8 v) := Row.cell (Row.new w 5 #[.int .u8 v]) 0
    have h2 : ((UInt8.ofNat (48 + d)).toNat : Int) = v := by rw [digit_byte d h, hv]; omega
    show (w.alloc _).cell? (Addr.add ⟨w.heap.size, 0, none⟩ 0) = some (.int .u8 (((UInt8.ofNat (48 + d)).toNat : Nat) : Int))
    rw [h2]
    exact h1

set_option maxRecDepth 100000 in
set_option maxHeartbeats 1000000 in
theorem l13Dec_nat (n : Nat) (w : World) (hn : n ≤ 9223372036854775807) :
    Calls Tryd.prog 84 #[.int .i64 n] w fun e w' => e = .returned (.string (txt12 (Lib.decDigits n))) ∧ Below w.heap.size w w' := by
  have h1 : ¬ (n : Int) < -9223372036854775807 := by omega
  have h2 : ¬ (n : Int) < 0 := by omega
  obtain ⟨D, HD⟩ : ∃ D, Hid (D = Lib.decDigits n) := ⟨_, rfl⟩
  have HL : Hid (D.length ≤ 19) := by
    show _ ≤ _
    rw [HD.out, Lib.decDigits_length]
    exact nDigits_le n (by omega)
  rw [← HD.out]
  go_enter Tryd.func84, Tryd.ntmps84
  go_wp2
  go_loopw [0, 3] (fun v0 v3 wr => ∃ (k : Nat) (out : List UInt8), v0 = .int .i64 k ∧ v3 = .string (txt12 out) ∧ k ≤ n ∧ Hid (D = Lib.decDigits k ++ out) ∧ Hid (Below w.heap.size w wr))
    (fun v0 _ _ => (intOf v0).toNat)
  case atStart => exact ⟨n, [], rfl, rfl, Nat.le_refl _, by rw [List.append_nil]; exact HD, Lib.hid (Below.refl _ _)⟩
  case round =>
    obtain ⟨k, out, rfl, rfl, hkn, HE, HB⟩ := hrel
    have hol : (txt12 out).size ≤ 19 := by
      have h1 := HL.out
      rw [HE.out, List.length_append] at h1
      rw [txt12_size]; omega
    have hz := HB.out.size
    by_cases h9 : 9 < k
    · have h9' : (9 : Int) < (k : Int) := by omega
      obtain ⟨d, HDD⟩ : ∃ d : Nat, Hid (d = k % 10) := ⟨_, rfl⟩
      have hd10 : d < 10 := by rw [HDD.out]; omega
      have hcv := conv_digit wr d hd10 (48 + (k : Int) % 10) (by have := HDD.out; omega)
      obtain ⟨q, HQ⟩ : ∃ q, Hid (q = UInt8.ofNat (48 + d)) := ⟨_, rfl⟩
      rw [← HQ.out] at hcv
      have hsz1 : (txt12 [q]).size + (txt12 out).size ≤ 9223372036854775807 := by rw [txt12_size]; simp; omega
      have HN : Hid (D = Lib.decDigits (k / 10) ++ ([q] ++ out)) := by
        show _ = _
        rw [HQ.out, HE.out, decDigits_big (by omega), HDD.out, List.append_assoc]
      have HB2 : Hid (Below w.heap.size w (wr.alloc (.cells #[.int .u8 (48 + (k : Int) % 10)] 5))) := HB.out.alloc hz _
      go_wp2
      go_roundw
      case rel => exact ⟨k / 10, [q] ++ out, by go_num, by rw [txt12_app], by omega, HN, HB2⟩
      case measure => simp [intOf]; omega
    · have h9' : ¬ (9 : Int) < (k : Int) := by omega
      have hk10 : k < 10 := by omega
      have hcv := conv_digit wr k hk10 (48 + (k : Int)) rfl
      obtain ⟨q, HQ⟩ : ∃ q, Hid (q = UInt8.ofNat (48 + k)) := ⟨_, rfl⟩
      rw [← HQ.out] at hcv
      have hsz1 : (txt12 [q]).size + (txt12 out).size ≤ 9223372036854775807 := by rw [txt12_size]; simp; omega
      have HB2 : Hid (Below w.heap.size w (wr.alloc (.cells #[.int .u8 (48 + (k : Int))] 5))) := HB.out.alloc hz _
      have HN : Hid (txt12 D = txt12 [q] ++ txt12 out) := by
        show _ = _
        rw [HQ.out, HE.out, decDigits_small hk10, txt12_app]
      go_wp2
      go_ret
      exact ⟨by rw [HN.out]; rfl, HB2.out⟩

set_option maxRecDepth 100000 in
set_option maxHeartbeats 1000000 in
theorem l13Dec_any (n : Int) (w : World) (hn : -9223372036854775808 ≤ n) (hn2 : n ≤ 9223372036854775807) :
    Calls Tryd.prog 84 #[.int .i64 n] w fun e w' => e = .returned (.string (txt12 (Lib.itoa n))) ∧ Below w.heap.size w w' := by
  by_cases h0 : 0 ≤ n
  · obtain ⟨m, rfl⟩ := Int.eq_ofNat_of_zero_le h0
    have h := l13Dec_nat m w (by omega)
    have e : Lib.itoa (m : Int) = Lib.decDigits m := by
      unfold Lib.itoa
      rw [if_neg (by omega), Int.toNat_natCast]
    rw [e]
    exact h
  · by_cases hm : n < -9223372036854775807
    · have e : n = -9223372036854775808 := by omega
      subst e
      have HE : Hid (txt12 (Lib.itoa (-9223372036854775808)) = ⟨#[45, 57, 50, 50, 51, 51, 55, 50, 48, 51, 54, 56, 53, 52, 55, 55, 53, 56, 48, 56]⟩) := by
        show _ = _
        have h : Lib.itoa (-9223372036854775808) = [45, 57, 50, 50, 51, 51, 55, 50, 48, 51, 54, 56, 53, 52, 55, 55, 53, 56, 48, 56] := by
          unfold Lib.itoa
          rw [if_pos (by decide)]
          show 45 :: Lib.decDigits 9223372036854775808 = _
          rw [decDigits_big (by decide), decDigits_big (by decide), decDigits_big (by decide), decDigits_big (by decide), decDigits_big (by decide), decDigits_big (by decide), decDigits_big (by decide), decDigits_big (by decide), decDigits_big (by decide), decDigits_big (by decide), decDigits_big (by decide), decDigits_big (by decide), decDigits_big (by decide), decDigits_big (by decide), decDigits_big (by decide), decDigits_big (by decide), decDigits_big (by decide), decDigits_big (by decide), decDigits_small (by decide)]
          rfl
        rw [h]; rfl
      rw [HE.out]
      clear HE
      go_enter Tryd.func84, Tryd.ntmps84
      go_wp2
      go_ret
      exact ⟨rfl, Below.refl _ _⟩
    · obtain ⟨m, hmn⟩ : ∃ m : Nat, n = -(m : Int) := ⟨n.natAbs, by omega⟩
      have hm1 : m ≤ 9223372036854775807 := by omega
      have HQ := Lib.hid (fun w => l13Dec_nat m w hm1)
      have HE : Hid (txt12 (Lib.itoa n) = (⟨#[45]⟩ : ByteArray) ++ txt12 (Lib.decDigits m)) := by
        show _ = txt12 [45] ++ _
        rw [txt12_app]
        unfold Lib.itoa
        rw [if_pos (by omega), show n.natAbs = m by omega]
        rfl
      have hsz : (⟨#[45]⟩ : ByteArray).size + (txt12 (Lib.decDigits m)).size ≤ 9223372036854775807 := by
        rw [txt12_size, Lib.decDigits_length]
        have := nDigits_le m (by omega)
        show 1 + _ ≤ _
        omega
      have hneg : IntKind.i64.wrap (-n) = (m : Int) := (IntWalk.i64_in _ (by omega)).trans (by omega)
      have h2 : n < 0 := by omega
      rw [HE.out]
      clear HE
      generalize txt12 (Lib.decDigits m) = y at *
      go_enter Tryd.func84, Tryd.ntmps84
      go_wp2_with fail
      refine Calls.mono (HQ.out w) ?_
      rintro e w2 ⟨rfl, hb⟩
      go_wp2
      go_ret
      exact ⟨rfl, hb⟩

end Go.Proofs.YtdbddockmdkmeaaDoor
