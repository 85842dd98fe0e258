/- Which texts are numbers: those that are a number's decimal digits. Plain. -/
import Derived.Test.YtdbddockmdkmeaaDoorMn
import Derived.Test.YtdbddockmdkmeaaDoorMj
import Derived.Lib.AtoiAll
namespace Go.Proofs.YtdbddockmdkmeaaDoor
open Go.RowKit

theorem val12_snoc (x : List UInt8) (c : UInt8) : val12 (x ++ [c]) = val12 x * 10 + (c.toNat - 48) := by unfold val12; rw [List.foldl_append]; rfl
theorem val12_nil : val12 [] = 0 := rfl
theorem digC12 {d : Nat} (h : d < 10) : (UInt8.ofNat (48 + d)).toNat = 48 + d := by rw [UInt8.toNat_ofNat']; omega
theorem dig_of12 {d : Nat} (h : d < 10) : dig12 (UInt8.ofNat (48 + d)) = true := dig12_iff.2 (by rw [digC12 h]; omega)
theorem headD_app {x : List UInt8} (h : x ≠ []) (y : List UInt8) : (x ++ y).headD 0 = x.headD 0 := by
  cases x with
  | nil => exact absurd rfl h
  | cons a r => rfl
theorem dec_ne12 (u : Nat) : Lib.decDigits u ≠ [] := by
  intro e
  have h := congrArg List.length e
  rw [Lib.decDigits_length] at h
  have := Lib.nDigits_pos u
  simp at h
  omega
/-- The digits of a number are digits, tell it, and begin with 0 only where it is 0. -/
theorem dec_said (u : Nat) : (Lib.decDigits u).all dig12 = true ∧ val12 (Lib.decDigits u) = u ∧ ((Lib.decDigits u).headD 0 = 48 → u = 0) := by
  by_cases h : u < 10
  · rw [decDigits_small h]
    refine ⟨by rw [List.all_cons, dig_of12 h]; rfl, ?_, fun e => ?_⟩
    · show val12 ([] ++ [_]) = _
      rw [val12_snoc, val12_nil, digC12 h]; omega
    · have e2 := congrArg UInt8.toNat (show UInt8.ofNat (48 + u) = 48 from e)
      rw [digC12 h] at e2
      have e3 : (48 : UInt8).toNat = 48 := rfl
      omega
  · have ih := dec_said (u / 10)
    rw [decDigits_big h]
    refine ⟨by rw [List.all_append, ih.1, List.all_cons, dig_of12 (show u % 10 < 10 by omega)]; rfl, ?_, fun e => ?_⟩
    · rw [val12_snoc, ih.2.1, digC12 (by omega)]; omega
    · rw [headD_app (dec_ne12 _)] at e
      have := ih.2.2 e
      omega
termination_by u
decreasing_by omega
theorem dec_zero : Lib.decDigits 0 = [48] := by rw [decDigits_small (by decide)]; rfl
theorem ok_dec {u : Nat} (h : (Lib.decDigits u).length ≤ 17) : ok12 (Lib.decDigits u) = true := by
  obtain ⟨h1, _, h3⟩ := dec_said u
  unfold ok12
  rw [h1, decide_eq_true h]
  have e1 : (Lib.decDigits u).isEmpty = false := by
    cases hx : Lib.decDigits u with
    | nil => exact absurd hx (dec_ne12 u)
    | cons a r => rfl
  rw [e1]
  by_cases hz : (Lib.decDigits u).headD 0 = 48
  · have hu := h3 hz
    subst hu
    rw [dec_zero]
    rfl
  · have : ((Lib.decDigits u).headD 0 == 48) = false := by rw [beq_eq_false_iff_ne]; exact hz
    rw [this]
    rfl
theorem ok12_parts {x : List UInt8} (h : ok12 x = true) : x ≠ [] ∧ x.length ≤ 17 ∧ x.all dig12 = true ∧ (x.headD 0 = 48 → x.length = 1) := by
  unfold ok12 at h
  simp only [Bool.and_eq_true] at h
  obtain ⟨⟨⟨h1, h2⟩, h3⟩, h4⟩ := h
  have hn : x ≠ [] := fun e => by rw [e] at h1; cases h1
  refine ⟨hn, of_decide_eq_true h2, h3, fun e => ?_⟩
  have e2 : (x.headD 0 == 48) = true := by rw [e]; rfl
  rw [e2, Bool.true_and] at h4
  have h5 : ¬ 1 < x.length := fun hc => by rw [decide_eq_true hc] at h4; cases h4
  have := List.length_pos_iff.2 hn
  omega
/-- Digits that don't begin with 0 are those of the number that they tell. -/
theorem dec_val : ∀ n (x : List UInt8), x.length = n → x ≠ [] → x.all dig12 = true → (x.headD 0 = 48 → x.length = 1) → Lib.decDigits (val12 x) = x ∧ (x.headD 0 ≠ 48 → 1 ≤ val12 x)
  | 0, x, hl, hn, _, _ => absurd (List.eq_nil_of_length_eq_zero hl) hn
  | n + 1, x, hl, hn, hd, hz => by
    obtain ⟨y, c, rfl⟩ : ∃ y c, x = y ++ [c] := ⟨x.dropLast, x.getLast hn, (List.dropLast_concat_getLast hn).symm⟩
    have hyl : y.length = n := by simpa using hl
    rw [List.all_append, Bool.and_eq_true] at hd
    obtain ⟨hd1, hd2⟩ := hd
    have hc : dig12 c = true := by simpa using hd2
    have hc2 := dig12_iff.1 hc
    have ec : UInt8.ofNat (48 + (c.toNat - 48)) = c := by
      apply UInt8.toNat_inj.1
      rw [digC12 (by omega)]; omega
    by_cases hy : y = []
    · subst hy
      rw [val12_snoc, val12_nil]
      refine ⟨?_, fun e => ?_⟩
      · rw [decDigits_small (by omega)]
        simp only [Nat.zero_mul, Nat.zero_add]
        rw [ec]; rfl
      · have : c ≠ 48 := e
        have h2 : c.toNat ≠ 48 := fun e2 => this (UInt8.toNat_inj.1 (by rw [e2]; rfl))
        omega
    · have hh : (y ++ [c]).headD 0 = y.headD 0 := headD_app hy _
      have hne : y.headD 0 ≠ 48 := fun e => by
        have h1 := hz (by rw [hh]; exact e)
        have h2 := List.length_pos_iff.2 hy
        simp at h1
        exact hy h1
      obtain ⟨i1, i2⟩ := dec_val n y hyl hy hd1 (fun e => absurd e hne)
      have i3 := i2 hne
      rw [val12_snoc]
      refine ⟨?_, fun _ => by omega⟩
      rw [decDigits_big (by omega), show (val12 y * 10 + (c.toNat - 48)) / 10 = val12 y by omega, show (val12 y * 10 + (c.toNat - 48)) % 10 = c.toNat - 48 by omega, i1, ec]
theorem dec_ok {x : List UInt8} (h : ok12 x = true) : Lib.decDigits (val12 x) = x := by
  obtain ⟨h1, _, h3, h4⟩ := ok12_parts h
  exact (dec_val _ x rfl h1 h3 h4).1

theorem parse_ok : ∀ (x : List UInt8) (acc k : Nat), acc < 10 ^ k → x.length + k ≤ 17 → x.all dig12 = true → Lib.parseUint10 acc x = .ok (x.foldl (fun n c => n * 10 + (c.toNat - 48)) acc)
  | [], acc, _, _, _, _ => rfl
  | c :: r, acc, k, ha, hl, hd => by
    rw [List.all_cons, Bool.and_eq_true] at hd
    have hc := dig12_iff.1 hd.1
    rw [List.length_cons] at hl
    have hp : 10 ^ k ≤ 10 ^ 16 := Nat.pow_le_pow_right (by decide) (by omega)
    have ha2 : acc * 10 + (c.toNat - 48) < 10 ^ (k + 1) := by rw [Nat.pow_succ]; omega
    have hp2 : acc < 10000000000000000 := by omega
    unfold Lib.parseUint10
    rw [if_pos hc, if_neg (by omega), if_neg (by omega)]
    exact parse_ok r _ (k + 1) ha2 (by omega) hd.2
theorem atoi_ok {x : List UInt8} (h : ok12 x = true) : Lib.atoiAll x = .ok (val12 x : Int) := by
  obtain ⟨h1, h2, h3, _⟩ := ok12_parts h
  cases x with
  | nil => exact absurd rfl h1
  | cons c r =>
    have hd := h3
    rw [List.all_cons, Bool.and_eq_true] at hd
    have hc := dig12_iff.1 hd.1
    have hm : Lib.parseMag (c :: r) = .ok (val12 (c :: r)) := by
      unfold Lib.parseMag
      rw [if_neg (by simp)]
      exact parse_ok (c :: r) 0 0 (by decide) (by omega) h3
    have hb : val12 (c :: r) < 10 ^ 17 := by
      have := val12_lt h3 (c :: r).length (Nat.le_refl _)
      rw [List.take_length] at this
      exact Nat.lt_of_lt_of_le this (Nat.pow_le_pow_right (by decide) h2)
    unfold Lib.atoiAll
    simp only []
    rw [if_neg (by omega), hm]
    simp only []
    rw [if_neg (by omega), if_neg (by omega), if_neg (by omega)]
/-- What the program asks of a text and the number that is read from it. -/
theorem num_said {x : List UInt8} {v : Int} (ha : Lib.atoiAll x = .ok v) : (0 ≤ v ∧ x.length ≤ 17 ∧ Lib.itoa v = x) ↔ ok12 x = true := by
  constructor
  · rintro ⟨h0, h1, h2⟩
    unfold Lib.itoa at h2
    rw [if_neg (by omega)] at h2
    rw [← h2] at h1 ⊢
    exact ok_dec h1
  · intro h
    have e := atoi_ok h
    rw [ha] at e
    injection e with e
    subst e
    refine ⟨by omega, (ok12_parts h).2.1, ?_⟩
    unfold Lib.itoa
    rw [if_neg (by omega), Int.toNat_natCast]
    exact dec_ok h

end Go.Proofs.YtdbddockmdkmeaaDoor
