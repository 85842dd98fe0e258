/- Joined: Bf. -/
import Derived.Lib.SlicesCompact
import Derived.Sort.OwnSorted
import Derived.Test.YtnknfpfpjijemaaU02
/- Texts put into their places one by one, and sorted and compacted at once: plain. -/
namespace Go.Proofs.Ytnknfpfpjijemaa
open Go.RowKit

abbrev Txt := List UInt8
/-- One text in its place. -/
def putB (L : List Txt) (s : Txt) : List Txt :=
  if (L.dropWhile fun x => decide (x < s)).head? = some s then L else L.takeWhile (fun x => decide (x < s)) ++ s :: L.dropWhile (fun x => decide (x < s))
def putAll (L : List Txt) (xs : List Txt) : List Txt := xs.foldl putB L
theorem putAll_snoc (L xs : List Txt) (s : Txt) : putAll L (xs ++ [s]) = putB (putAll L xs) s := by unfold putAll; rw [List.foldl_append]; rfl
theorem take_drop_while {p : Txt → Bool} (L : List Txt) : L.takeWhile p ++ L.dropWhile p = L := List.takeWhile_append_dropWhile
theorem takeWhile_all {p : Txt → Bool} : ∀ (L : List Txt), ∀ x ∈ L.takeWhile p, p x = true
  | [], x, h => by cases h
  | y :: L, x, h => by
    rw [List.takeWhile_cons] at h
    by_cases hy : p y = true
    · rw [if_pos hy] at h
      rcases List.mem_cons.1 h with rfl | h
      · exact hy
      · exact takeWhile_all L x h
    · rw [if_neg hy] at h
      cases h
theorem dropWhile_head {p : Txt → Bool} : ∀ (L : List Txt) (y : Txt) (r : List Txt), L.dropWhile p = y :: r → p y = false
  | [], y, r, h => by cases h
  | z :: L, y, r, h => by
    rw [List.dropWhile_cons] at h
    by_cases hz : p z = true
    · rw [if_pos hz] at h
      exact dropWhile_head L y r h
    · rw [if_neg hz] at h
      injection h with h1 _
      subst h1
      simpa using hz
theorem txt_tri (x y : Txt) : x < y ∨ x = y ∨ y < x := by
  by_cases h1 : x < y
  · exact .inl h1
  · by_cases h2 : y < x
    · exact .inr (.inr h2)
    · exact .inr (.inl (List.le_antisymm (List.not_lt.1 h2) (List.not_lt.1 h1)))
theorem txt_irr (x : Txt) : ¬ x < x := List.lt_irrefl x
theorem txt_trans {x y z : Txt} (h1 : x < y) (h2 : y < z) : x < z := List.lt_trans h1 h2
theorem putB_mem (L : List Txt) (s x : Txt) : x ∈ putB L s ↔ x ∈ L ∨ x = s := by
  have e := take_drop_while (p := fun x => decide (x < s)) L
  unfold putB
  by_cases h : (L.dropWhile fun x => decide (x < s)).head? = some s
  · rw [if_pos h]
    constructor
    · exact .inl
    · rintro (h' | rfl)
      · exact h'
      · have h2 : x ∈ L.dropWhile fun y => decide (y < x) := List.mem_of_mem_head? h
        rw [← e]
        exact List.mem_append.2 (.inr h2)
  · rw [if_neg h]
    constructor
    · intro h'
      rcases List.mem_append.1 h' with h' | h'
      · exact .inl (by rw [← e]; exact List.mem_append.2 (.inl h'))
      · rcases List.mem_cons.1 h' with h' | h'
        · exact .inr h'
        · exact .inl (by rw [← e]; exact List.mem_append.2 (.inr h'))
    · rintro (h' | rfl)
      · rw [← e] at h'
        rcases List.mem_append.1 h' with h' | h'
        · exact List.mem_append.2 (.inl h')
        · exact List.mem_append.2 (.inr (List.mem_cons_of_mem _ h'))
      · exact List.mem_append.2 (.inr List.mem_cons_self)
theorem putB_sorted {L : List Txt} (hL : L.Pairwise (· < ·)) (s : Txt) : (putB L s).Pairwise (· < ·) := by
  have e := take_drop_while (p := fun x => decide (x < s)) L
  unfold putB
  by_cases h : (L.dropWhile fun x => decide (x < s)).head? = some s
  · rw [if_pos h]; exact hL
  · rw [if_neg h]
    rw [← e, List.pairwise_append] at hL
    obtain ⟨h1, h2, h3⟩ := hL
    have hlo : ∀ x ∈ L.takeWhile (fun x => decide (x < s)), x < s := fun x hx => of_decide_eq_true (takeWhile_all (p := fun x => decide (x < s)) L x hx)
    have hhi : ∀ x ∈ L.dropWhile (fun x => decide (x < s)), s < x := by
      cases hd : L.dropWhile (fun x => decide (x < s)) with
      | nil => intro x hx; cases hx
      | cons y r =>
        rw [hd] at h h2
        have hy := of_decide_eq_false (dropWhile_head (p := fun x => decide (x < s)) L y r hd)
        have hsy : s < y := by
          rcases txt_tri y s with h' | h' | h'
          · exact absurd h' hy
          · exact absurd (by rw [h']; rfl) h
          · exact h'
        intro x hx
        rcases List.mem_cons.1 hx with rfl | hx
        · exact hsy
        · exact txt_trans hsy ((List.pairwise_cons.1 h2).1 x hx)
    rw [List.pairwise_append]
    refine ⟨h1, List.pairwise_cons.2 ⟨hhi, h2⟩, fun a ha b hb => ?_⟩
    rcases List.mem_cons.1 hb with rfl | hb
    · exact hlo a ha
    · exact h3 a ha b hb
theorem putB_len (L : List Txt) (s : Txt) : (putB L s).length ≤ L.length + 1 := by
  have e := congrArg List.length (take_drop_while (p := fun x => decide (x < s)) L)
  rw [List.length_append] at e
  unfold putB
  split
  · omega
  · rw [List.length_append, List.length_cons]; omega
theorem putAll_len : ∀ (xs L : List Txt), (putAll L xs).length ≤ L.length + xs.length
  | [], L => Nat.le_refl _
  | x :: xs, L => by
    have h1 := putAll_len xs (putB L x)
    have h2 := putB_len L x
    show (putAll (putB L x) xs).length ≤ _
    rw [List.length_cons]
    omega
theorem putAll_sorted : ∀ (xs L : List Txt), L.Pairwise (· < ·) → (putAll L xs).Pairwise (· < ·)
  | [], _, h => h
  | x :: xs, L, h => putAll_sorted xs (putB L x) (putB_sorted h x)
theorem putAll_mem : ∀ (xs L : List Txt) (x : Txt), x ∈ putAll L xs ↔ x ∈ L ∨ x ∈ xs
  | [], L, x => by simp [putAll]
  | y :: xs, L, x => by
    show x ∈ putAll (putB L y) xs ↔ _
    rw [putAll_mem xs (putB L y) x, putB_mem, List.mem_cons]
    constructor
    · rintro ((h | h) | h)
      · exact .inl h
      · exact .inr (.inl h)
      · exact .inr (.inr h)
    · rintro (h | h | h)
      · exact .inl (.inl h)
      · exact .inl (.inr h)
      · exact .inr h
/-- Two rows that ascend and have the same texts are one. -/
theorem asc_txt : ∀ {a b : List Txt}, a.Pairwise (· < ·) → b.Pairwise (· < ·) → (∀ x, x ∈ a ↔ x ∈ b) → a = b
  | [], [], _, _, _ => rfl
  | [], y :: b, _, _, h => by
    have := (h y).2 List.mem_cons_self
    cases this
  | x :: a, [], _, _, h => by
    have := (h x).1 List.mem_cons_self
    cases this
  | x :: a, y :: b, ha, hb, h => by
    have ha' := List.pairwise_cons.1 ha
    have hb' := List.pairwise_cons.1 hb
    have hxy : x = y := by
      have h1 := (h x).1 List.mem_cons_self
      have h2 := (h y).2 List.mem_cons_self
      rcases List.mem_cons.1 h1 with e | e
      · exact e
      · rcases List.mem_cons.1 h2 with e2 | e2
        · exact e2.symm
        · exact absurd (txt_trans (hb'.1 x e) (ha'.1 y e2)) (txt_irr y)
    subst hxy
    rw [asc_txt ha'.2 hb'.2]
    intro z
    constructor
    · intro hz
      have := ha'.1 z hz
      rcases List.mem_cons.1 ((h z).1 (List.mem_cons_of_mem _ hz)) with e | e
      · subst e; exact absurd this (txt_irr z)
      · exact e
    · intro hz
      have := hb'.1 z hz
      rcases List.mem_cons.1 ((h z).2 (List.mem_cons_of_mem _ hz)) with e | e
      · subst e; exact absurd this (txt_irr z)
      · exact e

/-- What compacting leaves of a row in which equal ones lie together: each once. -/
theorem upTo_sorted (d : Array Txt) (hd : d.toList.Pairwise (· ≤ ·)) : ∀ m, m ≤ d.size → (Lib.compactUpTo d m).Pairwise (· < ·) ∧ (∀ x, x ∈ Lib.compactUpTo d m ↔ ∃ j, j < m ∧ d[j]! = x) := by
  have hle : ∀ i j, i < j → j < d.size → d[i]! ≤ d[j]! := fun i j hij hj => by
    have := List.pairwise_iff_getElem.1 hd i j (by simpa using (by omega : i < d.size)) (by simpa using hj) hij
    rw [getElem!_pos d i (by omega), getElem!_pos d j hj]
    simpa using this
  intro m
  induction m with
  | zero =>
    intro _
    refine ⟨List.Pairwise.nil, fun x => ?_⟩
    constructor
    · intro h; cases h
    · rintro ⟨j, hj, _⟩; omega
  | succ m ih =>
    intro hm
    obtain ⟨h1, h2⟩ := ih (by omega)
    rw [Lib.compactUpTo_succ]
    by_cases hk : Lib.keeps d m = true
    · rw [if_pos hk]
      constructor
      · rw [List.pairwise_append]
        refine ⟨h1, List.pairwise_singleton _ _, fun a ha b hb => ?_⟩
        rw [List.mem_singleton] at hb
        subst hb
        obtain ⟨j, hj, rfl⟩ := (h2 a).1 ha
        have hm0 : ¬ m = 0 := by omega
        have hne : d[m]! ≠ d[m - 1]! := by
          unfold Lib.keeps at hk
          have := of_decide_eq_true hk
          rcases this with h | h
          · exact absurd h hm0
          · exact h
        have hl1 : d[m - 1]! ≤ d[m]! := hle (m - 1) m (by omega) (by omega)
        have hl2 : d[m - 1]! < d[m]! := by
          rcases txt_tri d[m - 1]! d[m]! with h | h | h
          · exact h
          · exact absurd h.symm hne
          · exact absurd h (List.not_lt.2 hl1)
        by_cases hj1 : j = m - 1
        · rw [hj1]; exact hl2
        · have hl3 := hle j (m - 1) (by omega) (by omega)
          rcases txt_tri d[j]! d[m - 1]! with h | h | h
          · exact txt_trans h hl2
          · rw [h]; exact hl2
          · exact absurd h (List.not_lt.2 hl3)
      · intro x
        rw [List.mem_append, h2, List.mem_singleton]
        constructor
        · rintro (⟨j, hj, e⟩ | e)
          · exact ⟨j, by omega, e⟩
          · exact ⟨m, by omega, e.symm⟩
        · rintro ⟨j, hj, e⟩
          by_cases hjm : j = m
          · subst hjm; exact .inr e.symm
          · exact .inl ⟨j, by omega, e⟩
    · rw [if_neg hk, List.append_nil]
      refine ⟨h1, fun x => ?_⟩
      rw [h2]
      have hk' : ¬ (m = 0 ∨ d[m]! ≠ d[m - 1]!) := fun h => hk (decide_eq_true h)
      have hm0 : ¬ m = 0 := fun h => hk' (.inl h)
      have he : d[m]! = d[m - 1]! := Classical.byContradiction fun h => hk' (.inr h)
      constructor
      · rintro ⟨j, hj, e⟩; exact ⟨j, by omega, e⟩
      · rintro ⟨j, hj, e⟩
        by_cases hjm : j = m
        · subst hjm; exact ⟨j - 1, by omega, by rw [← he]; exact e⟩
        · exact ⟨j, by omega, e⟩
/-- Sorted and compacted is put in one by one. -/
theorem compact_sort (xs : List Txt) : Lib.compact (xs.mergeSort fun x y => decide (x ≤ y)) = putAll [] xs := by
  have tr : ∀ a b c : Txt, decide (a ≤ b) = true → decide (b ≤ c) = true → decide (a ≤ c) = true := fun a b c h1 h2 => decide_eq_true (List.le_trans (of_decide_eq_true h1) (of_decide_eq_true h2))
  have hto : ∀ a b : Txt, (decide (a ≤ b) || decide (b ≤ a)) = true := fun a b => by
    rw [Bool.or_eq_true, decide_eq_true_eq, decide_eq_true_eq]
    exact List.le_total a b
  have hp : (xs.mergeSort fun x y => decide (x ≤ y)).Pairwise (· ≤ ·) := (List.pairwise_mergeSort tr hto xs).imp (fun {a b} h => of_decide_eq_true h)
  have hm : ∀ x, x ∈ (xs.mergeSort fun x y => decide (x ≤ y)) ↔ x ∈ xs := fun x => (List.mergeSort_perm xs _).mem_iff
  generalize (xs.mergeSort fun x y => decide (x ≤ y)) = ss at *
  obtain ⟨h1, h2⟩ := upTo_sorted ss.toArray (by simpa using hp) ss.length (by simp)
  refine asc_txt h1 (putAll_sorted xs [] List.Pairwise.nil) fun x => ?_
  rw [show (x ∈ Lib.compact ss ↔ x ∈ putAll [] xs) = (x ∈ Lib.compactUpTo ss.toArray ss.length ↔ x ∈ putAll [] xs) from rfl, h2, putAll_mem, ← hm]
  constructor
  · rintro ⟨j, hj, e⟩
    refine .inr ?_
    rw [← e, getElem!_pos ss.toArray j (by simpa using hj)]
    simp
  · rintro (h | h)
    · cases h
    · obtain ⟨j, hj, e⟩ := List.getElem_of_mem h
      refine ⟨j, hj, ?_⟩
      rw [getElem!_pos ss.toArray j (by simpa using hj)]
      simpa using e

end Go.Proofs.Ytnknfpfpjijemaa
