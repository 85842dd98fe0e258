/- A trace twice, plain; which letters stand in a trace. -/
import Derived.Test.YtfhdbbdehploeaaFi
namespace Go.Proofs.Ytfhdbbdehploeaa
open Go.RowKit

theorem callA_some {P : UInt8 → Bool} {d : Nat} {c : UInt8} {s : List UInt8} {k : Forest} {r1 : List UInt8} (h : callA P d c s = some (k, r1)) : ∃ d', d = d' + 1 ∧ P c = true ∧
    ((k = .nil ∧ r1 = s ∧ ∀ x u, s = x :: u → x ≠ 40) ∨ (∃ s', s = 40 :: s' ∧ k.isNil = false ∧ calls P d' s' = some (k, 41 :: r1))) := by
  cases d with
  | zero => rw [callA_zero] at h; cases h
  | succ d =>
    refine ⟨d, rfl, ?_⟩
    cases hP : P c with
    | false => rw [callA_no hP] at h; cases h
    | true =>
      refine ⟨rfl, ?_⟩
      cases s with
      | nil =>
        rw [callA_leaf hP (fun x u e => by cases e)] at h
        injection h with h
        injection h with h1 h2
        exact .inl ⟨h1.symm, h2.symm, fun x u e => by cases e⟩
      | cons x u =>
        by_cases hx : x = 40
        · subst hx
          rw [callA_open hP] at h
          refine .inr ⟨u, rfl, ?_⟩
          unfold closed at h
          split at h
          · cases h
          · cases h
          · cases h
          · next c' k' f' x' r' h7 =>
            split at h
            · next h8 =>
              injection h with h
              injection h with h1 h2
              subst h1 h2 h8
              exact ⟨rfl, h7⟩
            · cases h
        · rw [callA_leaf hP (fun y v e => by injection e with e1 e2; rw [← e1]; exact hx)] at h
          injection h with h
          injection h with h1 h2
          exact .inl ⟨h1.symm, h2.symm, fun y v e => by injection e with e1 e2; rw [← e1]; exact hx⟩

theorem calls_some_cons {P : UInt8 → Bool} {d : Nat} {c : UInt8} {s : List UInt8} {f : Forest} {r : List UInt8} (hc : c ≠ 41) (h : calls P d (c :: s) = some (f, r)) :
    ∃ k r1 f', callA P d c s = some (k, r1) ∧ calls P d r1 = some (f', r) ∧ f = .cons c k f' := by
  rw [calls_cons P d s hc] at h
  unfold thenBy at h
  split at h
  · cases h
  · next k r1 h2 =>
    split at h
    · cases h
    · next f' r2 h4 =>
      injection h with h
      injection h with h1 h2'
      subst h1 h2'
      exact ⟨k, r1, f', h2, h4, rfl⟩

theorem calls_more {P : UInt8 → Bool} {u : List UInt8} (hu : ∀ x v, u = x :: v → x ≠ 40) : ∀ (n d : Nat) (s : List UInt8), s.length ≤ n → ∀ f r, calls P d s = some (f, r) → calls P d (s ++ u) = if r = [] then ahead f (calls P d u) else some (f, r ++ u)
  | n, d, [], _, f, r, h => by
    rw [calls_nil] at h
    injection h with h
    injection h with h1 h2
    subst h1 h2
    rw [if_pos rfl, List.nil_append, ahead_nil]
  | 0, d, c :: s, hn, f, r, h => absurd hn (by simp)
  | n + 1, d, c :: s, hn, f, r, h => by
    by_cases hc : c = 41
    · subst hc
      rw [calls_close] at h
      injection h with h
      injection h with h1 h2
      subst h1 h2
      rw [if_neg (by simp), List.cons_append, calls_close]
    · obtain ⟨k, r1, f', h1, h2, rfl⟩ := calls_some_cons hc h
      have hl : r1.length ≤ s.length := callA_less P d c s k r1 h1
      have hn' : s.length ≤ n := by simpa using hn
      have h3 : callA P d c (s ++ u) = some (k, r1 ++ u) := by
        obtain ⟨d', rfl, hP, ⟨rfl, rfl, hx⟩ | ⟨s', rfl, hk, hcs⟩⟩ := callA_some h1
        · refine callA_leaf hP fun x v e => ?_
          cases r1 with
          | nil => exact hu x v e
          | cons y w => injection e with e1 e2; rw [← e1]; exact hx y w rfl
        · have := calls_more hu n d' s' (by simp at hn'; omega) _ _ hcs
          rw [if_neg (by simp)] at this
          rw [List.cons_append, callA_open hP, this]
          exact closed_app hk _
      rw [List.cons_append, calls_step .nil hc h3 |> (ahead_nil _).symm.trans, calls_more hu n d r1 (by omega) _ _ h2]
      split
      · rw [ahead_ahead]; rfl
      · rfl

theorem trace_head {l : List Seg} {d : Nat} {t : List UInt8} {f : Forest} (h : calls (callP l) d t = some (f, [])) : ∀ x v, t = x :: v → x ≠ 40 := by
  rintro x v rfl rfl
  obtain ⟨k, r1, f', h1, _⟩ := calls_some_cons (by decide) h
  rw [callA_no (callP_open l)] at h1
  cases h1

/-- A trace twice is one, unless it is too long. -/
theorem traceB_twice {l : List Seg} {t : List UInt8} {f : Forest} (h : traceB l t = some f) : traceB l (t ++ t) = if t.length + t.length ≤ 80 then some (f.app f) else none := by
  obtain ⟨h1, h2, h3⟩ := traceB_some h
  rw [traceB_eq, h1, Bool.true_and, List.length_append]
  by_cases hl : t.length + t.length ≤ 80
  · rw [if_pos (decide_eq_true hl), if_pos hl, calls_more (trace_head h3) _ _ _ (Nat.le_refl _) _ _ h3, if_pos rfl, h3]
    rfl
  · rw [if_neg (by simpa using hl), if_neg hl]

/-- All letters of calls are names. -/
def Forest.all (P : UInt8 → Bool) : Forest → Prop
  | .nil => True
  | .cons c k r => P c = true ∧ k.all P ∧ r.all P
theorem calls_all {P : UInt8 → Bool} : ∀ (n d : Nat) (s : List UInt8), s.length ≤ n → ∀ f r, calls P d s = some (f, r) → f.all P
  | n, d, [], _, f, r, h => by
    rw [calls_nil] at h
    injection h with h
    injection h with h1 h2
    subst h1
    exact trivial
  | 0, d, c :: s, hn, f, r, h => absurd hn (by simp)
  | n + 1, d, c :: s, hn, f, r, h => by
    by_cases hc : c = 41
    · subst hc
      rw [calls_close] at h
      injection h with h
      injection h with h1 h2
      subst h1
      exact trivial
    · obtain ⟨k, r1, f', h1, h2, rfl⟩ := calls_some_cons hc h
      have hl : r1.length ≤ s.length := callA_less P d c s k r1 h1
      have hn' : s.length ≤ n := by simpa using hn
      obtain ⟨d', rfl, hP, h4⟩ := callA_some h1
      refine ⟨hP, ?_, calls_all n _ r1 (by omega) _ _ h2⟩
      rcases h4 with ⟨rfl, _⟩ | ⟨s', rfl, _, hcs⟩
      · exact trivial
      · exact calls_all n d' s' (by simp at hn'; omega) _ _ hcs
theorem traceB_all {l : List Seg} {t : List UInt8} {f : Forest} (h : traceB l t = some f) : f.all (callP l) := by
  obtain ⟨_, _, h3⟩ := traceB_some h
  exact calls_all _ _ _ (Nat.le_refl _) _ _ h3

end Go.Proofs.Ytfhdbbdehploeaa
