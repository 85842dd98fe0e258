/- The reference reads a number, whatever the text. -/
import Derived.Test.YtdbddockmdkmeaaDoorMn
namespace Go.Proofs.YtdbddockmdkmeaaDoor
open Go.RowKit

/-- What was read: a number that is not below nought, just where the text is a numeral. -/
def NumPost (s : ByteArray) (e : Ending) : Prop := ∃ (n : Int) (ok : Bool), e = .returned (.tuple #[.int .i64 n, .bool ok]) ∧ (ok && decide (0 ≤ n)) = ok12 s.data.toList ∧ (ok12 s.data.toList = true → n = (val12 s.data.toList : Int))
theorem head12 (s : ByteArray) (h : 0 < s.size) : s.data.toList.headD 0 = s[0] := by
  have h1 := at12 s 0 h
  rw [← h1]
  cases s.data.toList <;> rfl
theorem first_bad : ∀ (L : List UInt8), L.all dig12 = false → ∃ j, ∃ h : j < L.length, dig12 L[j] = false ∧ (L.take j).all dig12 = true
  | [], h => by cases h
  | a :: r, h => by
    by_cases ha : dig12 a = true
    · have hr : r.all dig12 = false := by
        rw [List.all_cons, ha, Bool.true_and] at h; exact h
      obtain ⟨j, hj, h1, h2⟩ := first_bad r hr
      exact ⟨j + 1, by simpa using hj, by simpa using h1, by rw [List.take_succ_cons, List.all_cons, ha, h2]; rfl⟩
    · exact ⟨0, by simp, by simpa using ha, rfl⟩
theorem l13Num_any (s : ByteArray) (w : World) : Calls Tryd.prog 93 #[.string s] w fun e w' => NumPost s e ∧ w = w' := by
  have hlen : s.data.toList.length = s.size := by simp
  by_cases h0 : 0 < s.size
  · have hhd := head12 s h0
    have hne : s.data.toList.isEmpty = false := by
      rw [← Bool.not_eq_true, List.isEmpty_iff]
      intro e
      rw [e] at hlen
      simp at hlen
      omega
    have no : ok12 s.data.toList = false → ∀ e w', (e = Ending.returned (.tuple #[.int .i64 0, .bool false]) ∧ w = w') → NumPost s e ∧ w = w' := fun hf e w' ⟨h1, h2⟩ => ⟨⟨0, false, h1, by rw [hf]; rfl, fun h => by rw [hf] at h; cases h⟩, h2⟩
    by_cases h45 : s[0] = 45
    · have hf : ok12 s.data.toList = false := by
        unfold ok12
        have : s.data.toList.all dig12 = false := by
          rw [← Bool.not_eq_true, List.all_eq_true]
          intro h
          cases hL : s.data.toList with
          | nil => rw [hL] at hne; cases hne
          | cons a r =>
            rw [hL] at h hhd
            have ha := h a List.mem_cons_self
            have hb : a = 45 := by rw [← h45, ← hhd]; rfl
            subst hb
            revert ha
            decide
        rw [this]; simp
      refine (l13Num_neg s w h0 h45).mono ?_
      rintro e w' ⟨⟨n, ok, h1, h2⟩, h3⟩
      refine ⟨⟨n, ok, h1, ?_, fun h => by rw [hf] at h; cases h⟩, h3⟩
      rw [hf]
      cases ok with
      | false => rfl
      | true =>
        have := h2 rfl
        rw [Bool.true_and]
        exact decide_eq_false (by omega)
    by_cases h17 : 17 < s.size
    · refine (l13Num_long s w h17 h45).mono fun e w' h => no ?_ e w' h
      unfold ok12
      rw [decide_eq_false (by omega)]; simp
    by_cases hld : s[0] = 48 ∧ 1 < s.size
    · refine (l13Num_lead s w (by omega) hld.2 hld.1).mono fun e w' h => no ?_ e w' h
      unfold ok12
      rw [hhd, hld.1, decide_eq_true (show 1 < s.data.toList.length by omega)]
      simp
    have hor : s[0] ≠ 48 ∨ s.size = 1 := by
      by_cases h : s[0] = 48
      · exact .inr (by have : ¬ 1 < s.size := fun h2 => hld ⟨h, h2⟩; omega)
      · exact .inl h
    cases hd : s.data.toList.all dig12 with
    | true =>
      have hok : ok12 s.data.toList = true := by
        unfold ok12
        rw [hne, hd, decide_eq_true (show s.data.toList.length ≤ 17 by omega), hhd]
        rcases hor with h | h
        · rw [beq_false_of_ne h]; rfl
        · rw [decide_eq_false (show ¬ 1 < s.data.toList.length by omega), Bool.and_false]; rfl
      refine (l13Num_ok s w h0 (by omega) hd hor).mono ?_
      rintro e w' ⟨h1, h2⟩
      exact ⟨⟨_, true, h1, by rw [hok, Bool.true_and]; exact decide_eq_true (by omega), fun _ => rfl⟩, h2⟩
    | false =>
      obtain ⟨j, hj, hb, ht⟩ := first_bad _ hd
      have hj2 : j < s.size := by omega
      have hbj : dig12 s[j] = false := by
        have := at12 s j hj2
        rw [List.getD_eq_getElem?_getD, List.getElem?_eq_getElem hj] at this
        rw [← this]; exact hb
      refine (l13Num_odd s w h0 (by omega) j hj2 hbj ht h45 hor).mono fun e w' h => no ?_ e w' h
      unfold ok12
      rw [hd]; simp
  · have hs : s = ⟨#[]⟩ := by
      apply ByteArray.ext
      exact Array.eq_empty_of_size_eq_zero (by have : s.data.size = s.size := rfl; omega)
    subst hs
    refine (l13Num_empty w).mono ?_
    rintro e w' ⟨h1, h2⟩
    exact ⟨⟨0, false, h1, rfl, fun h => by cases h⟩, h2⟩

end Go.Proofs.YtdbddockmdkmeaaDoor
