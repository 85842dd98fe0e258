/- formatThings. -/
import Derived.Test.YtdbddockmdkmeaaDoorMb
namespace Go.Proofs.YtdbddockmdkmeaaDoor
open Go.RowKit

set_option maxRecDepth 100000 in
set_option maxHeartbeats 2000000 in
theorem formatThings_any (b0 : Nat) (A : Option Addr) (xs : List ByteArray) (c : Nat) (w : World) (h : St.Strs w w.heap.size A xs) (hxs : ∀ x ∈ xs, x.size ≤ b0) (hb0 : (b0 + 2) * xs.length ≤ 90000000) :
    Calls Tryd.prog 95 #[.slice A xs.length c] w fun e w' => e = .returned (.string (thRes xs)) ∧ Below w.heap.size w w' := by
  by_cases h00 : xs.length = 0
  · have HE : Hid (⟨#[45]⟩ = thRes xs) := by
      show _ = _
      unfold thRes
      rw [if_pos h00]
    go_enter Tryd.func95, Tryd.ntmps95
    go_wp2
    go_ret
    exact ⟨congrArg (fun z => Ending.returned (.string z)) HE.out, Below.refl _ _⟩
  have HS : Hid (St.Strs w w.heap.size A xs) := h
  have H0 := Lib.hid h00
  have HXS := Lib.hid hxs
  have hpos : ((xs.length : Int) == 0) = false := by rw [beq_eq_false_iff_ne]; omega
  have HB0 := Lib.hid hb0
  have HTS := Lib.hid (fun k hk => thTo_size hxs k hk)
  have hxl : xs.length ≤ 90000000 := by
    have : 1 * xs.length ≤ (b0 + 2) * xs.length := Nat.mul_le_mul_right _ (by omega)
    omega
  have HMX : Hid (∀ k, k ≤ xs.length → (b0 + 2) * k ≤ 90000000) := fun k hk => Nat.le_trans (Nat.mul_le_mul_left _ hk) hb0
  have hb9 : b0 ≤ 90000000 := by
    have : (b0 + 2) * 1 ≤ (b0 + 2) * xs.length := Nat.mul_le_mul_left _ (by omega)
    omega
  clear h hxs h00 hb0
  go_enter Tryd.func95, Tryd.ntmps95
  go_wp2
  have HI0 : Hid (Bld12 w.heap.size w (thTo xs 0) (w.alloc (.cells #[.pointer none, .slice none 0 0] 56))) := Bld12.fresh w
  generalize w.alloc (.cells #[.pointer none, .slice none 0 0] 56) = W0 at *
  go_loopw [11] (fun i wr => ∃ (k : Nat) (x : ByteArray), k ≤ xs.length ∧ i = .int .i64 k ∧ Hid (x = thTo xs k) ∧ Hid (Bld12 w.heap.size w x wr))
    (fun i _ => xs.length - (intOf i).toNat)
  case atStart => exact ⟨0, _, Nat.zero_le _, rfl, Lib.hid rfl, HI0⟩
  case round =>
    obtain ⟨k, x, hk, rfl, HX, HI⟩ := hrel
    clear HI0
    by_cases hlt : k < xs.length
    · have hlt' : (k : Int) < (xs.length : Int) := by omega
      obtain ⟨g, o, rfl, hg, hc⟩ := HS.out (by omega)
      have e0 := hc k _ (List.getElem?_eq_getElem hlt)
      rw [← HI.out.2.cell hg] at e0
      have hs1 := HXS.out _ (List.getElem_mem hlt)
      have hxz : x.size ≤ 90000000 := by
        rw [HX.out]
        exact Nat.le_trans (HTS.out k hk) (HMX.out k hk)
      have HXN := Lib.hid (thTo_succ hlt)
      rw [← HX.out] at HXN
      clear hc
      generalize xs[k] = s at *
      by_cases h0 : k = 0
      · subst h0
        rw [if_pos rfl] at HXN
        simp only [Nat.add_zero] at e0
        have hx0 : x = ⟨#[]⟩ := HX.out
        subst hx0
        cases he : s.toList.isEmpty with
        | true =>
          unfold dash12 at HXN
          rw [if_pos he] at HXN
          go_wp2_with fail
          refine (bldStr12 _ w _ ⟨#[45]⟩ wr HI.out (by omega) (by rw [one12]; omega)).mono ?_
          rintro e W2 ⟨rfl, HB2, hk2⟩
          clear hk2
          go_wp2
          go_roundw
          case rel => exact ⟨1, _, by omega, rfl, Lib.hid HXN.out.symm, HB2⟩
          case measure => simp [intOf]; omega
        | false =>
          unfold dash12 at HXN
          rw [if_neg (by rw [he]; simp)] at HXN
          go_wp2_with fail
          refine (bldStr12 _ w _ s wr HI.out (by omega) (by omega)).mono ?_
          rintro e W2 ⟨rfl, HB2, hk2⟩
          clear hk2
          go_wp2
          go_roundw
          case rel => exact ⟨1, _, by omega, rfl, Lib.hid HXN.out.symm, HB2⟩
          case measure => simp [intOf]; omega
      · have h0' : (0 : Int) < (k : Int) := by omega
        rw [if_neg h0] at HXN
        have hs32 : (x ++ (⟨#[32]⟩ : ByteArray)).size ≤ 100000000 := by rw [ByteArray.size_append, one12]; omega
        go_wp2_with fail
        refine (bldByte12 _ w _ 32 _ (by decide) wr HI.out (by omega)).mono ?_
        rintro e W1 ⟨rfl, HB1, hk1⟩
        have hgk := (HB1.out.2.cell (p := ⟨g, o + k, none⟩) hg).trans ((HI.out.2.cell (p := ⟨g, o + k, none⟩) hg).symm)
        clear hk1
        cases he : s.toList.isEmpty with
        | true =>
          unfold dash12 at HXN
          rw [if_pos he] at HXN
          go_wp2_with fail
          refine (bldStr12 _ w _ ⟨#[45]⟩ W1 HB1.out hs32 (by rw [one12]; omega)).mono ?_
          rintro e W2 ⟨rfl, HB2, hk2⟩
          clear hk2
          go_wp2
          go_roundw
          case rel => exact ⟨k + 1, _, by omega, by go_num, Lib.hid HXN.out.symm, HB2⟩
          case measure => simp [intOf]; omega
        | false =>
          unfold dash12 at HXN
          rw [if_neg (by rw [he]; simp)] at HXN
          go_wp2_with fail
          refine (bldStr12 _ w _ s W1 HB1.out hs32 (by omega)).mono ?_
          rintro e W2 ⟨rfl, HB2, hk2⟩
          clear hk2
          go_wp2
          go_roundw
          case rel => exact ⟨k + 1, _, by omega, by go_num, Lib.hid HXN.out.symm, HB2⟩
          case measure => simp [intOf]; omega
    · obtain rfl : k = xs.length := by omega
      have HE : Hid (⟨x.data.toList.toArray⟩ = thRes xs) := by
        show _ = _
        unfold thRes
        rw [if_neg H0.out, ← HX.out]
      go_wp2_with fail
      refine (Tryd.Builder_String_any_k w.heap.size w.heap.size _ _ HI.out.1 HI.out.2.size).mono ?_
      rintro e w5 ⟨rfl, -, hb5, -⟩
      have HB5 := Lib.hid (HI.out.2.trans hb5)
      clear hb5 HI
      go_wp2
      go_ret
      exact ⟨congrArg (fun z => Ending.returned (.string z)) HE.out, HB5.out⟩

end Go.Proofs.YtdbddockmdkmeaaDoor
