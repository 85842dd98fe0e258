/- Joined: Bf Fa Fb Fc Fd Fe Fg. -/
import Derived.Lib.SlicesCompact
import Derived.Sort.OwnSorted
import Derived.Test.YtbmfbnlmdjnddaaU02
import Derived.Test.YtbmfbnlmdjnddaaU03
import Derived.Test.YtbmfbnlmdjnddaaU08
import Derived.Test.YtbmfbnlmdjnddaaSh
import Derived.Maps.AppendAt
import Derived.Deep.AppendLies
import Derived.Defers
import Derived.Recover
/- Texts put into their places one by one, and sorted and compacted at once: plain. -/
namespace Go.Proofs.Ytbmfbnlmdjnddaa
open Go.RowKit

abbrev Txt := List UInt8
/-- One text in its place. -/
def putB (L : List Txt) (s : Txt) : List Txt :=
  if (L.dropWhile fun x => decide (x < s)).head? = some s then L else L.takeWhile (fun x => decide (x < s)) ++ s :: L.dropWhile (fun x => decide (x < s))
def putAll (L : List Txt) (xs : List Txt) : List Txt := xs.foldl putB L
theorem putAll_snoc (L xs : List Txt) (s : Txt) : putAll L (xs ++ [s]) = putB (putAll L xs) s := by unfold putAll; rw [List.foldl_append]; rfl
theorem take_drop_while {p : Txt → Bool} (L : List Txt) : L.takeWhile p ++ L.dropWhile p = L := List.takeWhile_append_dropWhile
theorem takeWhile_all {p : Txt → Bool} : ∀ (L : List Txt), ∀ x ∈ L.takeWhile p, p x = true
  | [], x, h => by cases h
  | y :: L, x, h => by
    rw [List.takeWhile_cons] at h
    by_cases hy : p y = true
    · rw [if_pos hy] at h
      rcases List.mem_cons.1 h with rfl | h
      · exact hy
      · exact takeWhile_all L x h
    · rw [if_neg hy] at h
      cases h
theorem dropWhile_head {p : Txt → Bool} : ∀ (L : List Txt) (y : Txt) (r : List Txt), L.dropWhile p = y :: r → p y = false
  | [], y, r, h => by cases h
  | z :: L, y, r, h => by
    rw [List.dropWhile_cons] at h
    by_cases hz : p z = true
    · rw [if_pos hz] at h
      exact dropWhile_head L y r h
    · rw [if_neg hz] at h
      injection h with h1 _
      subst h1
      simpa using hz
theorem txt_tri (x y : Txt) : x < y ∨ x = y ∨ y < x := by
  by_cases h1 : x < y
  · exact .inl h1
  · by_cases h2 : y < x
    · exact .inr (.inr h2)
    · exact .inr (.inl (List.le_antisymm (List.not_lt.1 h2) (List.not_lt.1 h1)))
theorem txt_irr (x : Txt) : ¬ x < x := List.lt_irrefl x
theorem txt_trans {x y z : Txt} (h1 : x < y) (h2 : y < z) : x < z := List.lt_trans h1 h2
theorem putB_mem (L : List Txt) (s x : Txt) : x ∈ putB L s ↔ x ∈ L ∨ x = s := by
  have e := take_drop_while (p := fun x => decide (x < s)) L
  unfold putB
  by_cases h : (L.dropWhile fun x => decide (x < s)).head? = some s
  · rw [if_pos h]
    constructor
    · exact .inl
    · rintro (h' | rfl)
      · exact h'
      · have h2 : x ∈ L.dropWhile fun y => decide (y < x) := List.mem_of_mem_head? h
        rw [← e]
        exact List.mem_append.2 (.inr h2)
  · rw [if_neg h]
    constructor
    · intro h'
      rcases List.mem_append.1 h' with h' | h'
      · exact .inl (by rw [← e]; exact List.mem_append.2 (.inl h'))
      · rcases List.mem_cons.1 h' with h' | h'
        · exact .inr h'
        · exact .inl (by rw [← e]; exact List.mem_append.2 (.inr h'))
    · rintro (h' | rfl)
      · rw [← e] at h'
        rcases List.mem_append.1 h' with h' | h'
        · exact List.mem_append.2 (.inl h')
        · exact List.mem_append.2 (.inr (List.mem_cons_of_mem _ h'))
      · exact List.mem_append.2 (.inr List.mem_cons_self)
theorem putB_sorted {L : List Txt} (hL : L.Pairwise (· < ·)) (s : Txt) : (putB L s).Pairwise (· < ·) := by
  have e := take_drop_while (p := fun x => decide (x < s)) L
  unfold putB
  by_cases h : (L.dropWhile fun x => decide (x < s)).head? = some s
  · rw [if_pos h]; exact hL
  · rw [if_neg h]
    rw [← e, List.pairwise_append] at hL
    obtain ⟨h1, h2, h3⟩ := hL
    have hlo : ∀ x ∈ L.takeWhile (fun x => decide (x < s)), x < s := fun x hx => of_decide_eq_true (takeWhile_all (p := fun x => decide (x < s)) L x hx)
    have hhi : ∀ x ∈ L.dropWhile (fun x => decide (x < s)), s < x := by
      cases hd : L.dropWhile (fun x => decide (x < s)) with
      | nil => intro x hx; cases hx
      | cons y r =>
        rw [hd] at h h2
        have hy := of_decide_eq_false (dropWhile_head (p := fun x => decide (x < s)) L y r hd)
        have hsy : s < y := by
          rcases txt_tri y s with h' | h' | h'
          · exact absurd h' hy
          · exact absurd (by rw [h']; rfl) h
          · exact h'
        intro x hx
        rcases List.mem_cons.1 hx with rfl | hx
        · exact hsy
        · exact txt_trans hsy ((List.pairwise_cons.1 h2).1 x hx)
    rw [List.pairwise_append]
    refine ⟨h1, List.pairwise_cons.2 ⟨hhi, h2⟩, fun a ha b hb => ?_⟩
    rcases List.mem_cons.1 hb with rfl | hb
    · exact hlo a ha
    · exact h3 a ha b hb
theorem putB_len (L : List Txt) (s : Txt) : (putB L s).length ≤ L.length + 1 := by
  have e := congrArg List.length (take_drop_while (p := fun x => decide (x < s)) L)
  rw [List.length_append] at e
  unfold putB
  split
  · omega
  · rw [List.length_append, List.length_cons]; omega
theorem putAll_len : ∀ (xs L : List Txt), (putAll L xs).length ≤ L.length + xs.length
  | [], L => Nat.le_refl _
  | x :: xs, L => by
    have h1 := putAll_len xs (putB L x)
    have h2 := putB_len L x
    show (putAll (putB L x) xs).length ≤ _
    rw [List.length_cons]
    omega
theorem putAll_sorted : ∀ (xs L : List Txt), L.Pairwise (· < ·) → (putAll L xs).Pairwise (· < ·)
  | [], _, h => h
  | x :: xs, L, h => putAll_sorted xs (putB L x) (putB_sorted h x)
theorem putAll_mem : ∀ (xs L : List Txt) (x : Txt), x ∈ putAll L xs ↔ x ∈ L ∨ x ∈ xs
  | [], L, x => by simp [putAll]
  | y :: xs, L, x => by
    show x ∈ putAll (putB L y) xs ↔ _
    rw [putAll_mem xs (putB L y) x, putB_mem, List.mem_cons]
    constructor
    · rintro ((h | h) | h)
      · exact .inl h
      · exact .inr (.inl h)
      · exact .inr (.inr h)
    · rintro (h | h | h)
      · exact .inl (.inl h)
      · exact .inl (.inr h)
      · exact .inr h
/-- Two rows that ascend and have the same texts are one. -/
theorem asc_txt : ∀ {a b : List Txt}, a.Pairwise (· < ·) → b.Pairwise (· < ·) → (∀ x, x ∈ a ↔ x ∈ b) → a = b
  | [], [], _, _, _ => rfl
  | [], y :: b, _, _, h => by
    have := (h y).2 List.mem_cons_self
    cases this
  | x :: a, [], _, _, h => by
    have := (h x).1 List.mem_cons_self
    cases this
  | x :: a, y :: b, ha, hb, h => by
    have ha' := List.pairwise_cons.1 ha
    have hb' := List.pairwise_cons.1 hb
    have hxy : x = y := by
      have h1 := (h x).1 List.mem_cons_self
      have h2 := (h y).2 List.mem_cons_self
      rcases List.mem_cons.1 h1 with e | e
      · exact e
      · rcases List.mem_cons.1 h2 with e2 | e2
        · exact e2.symm
        · exact absurd (txt_trans (hb'.1 x e) (ha'.1 y e2)) (txt_irr y)
    subst hxy
    rw [asc_txt ha'.2 hb'.2]
    intro z
    constructor
    · intro hz
      have := ha'.1 z hz
      rcases List.mem_cons.1 ((h z).1 (List.mem_cons_of_mem _ hz)) with e | e
      · subst e; exact absurd this (txt_irr z)
      · exact e
    · intro hz
      have := hb'.1 z hz
      rcases List.mem_cons.1 ((h z).2 (List.mem_cons_of_mem _ hz)) with e | e
      · subst e; exact absurd this (txt_irr z)
      · exact e

/-- What compacting leaves of a row in which equal ones lie together: each once. -/
theorem upTo_sorted (d : Array Txt) (hd : d.toList.Pairwise (· ≤ ·)) : ∀ m, m ≤ d.size → (Lib.compactUpTo d m).Pairwise (· < ·) ∧ (∀ x, x ∈ Lib.compactUpTo d m ↔ ∃ j, j < m ∧ d[j]! = x) := by
  have hle : ∀ i j, i < j → j < d.size → d[i]! ≤ d[j]! := fun i j hij hj => by
    have := List.pairwise_iff_getElem.1 hd i j (by simpa using (by omega : i < d.size)) (by simpa using hj) hij
    rw [getElem!_pos d i (by omega), getElem!_pos d j hj]
    simpa using this
  intro m
  induction m with
  | zero =>
    intro _
    refine ⟨List.Pairwise.nil, fun x => ?_⟩
    constructor
    · intro h; cases h
    · rintro ⟨j, hj, _⟩; omega
  | succ m ih =>
    intro hm
    obtain ⟨h1, h2⟩ := ih (by omega)
    rw [Lib.compactUpTo_succ]
    by_cases hk : Lib.keeps d m = true
    · rw [if_pos hk]
      constructor
      · rw [List.pairwise_append]
        refine ⟨h1, List.pairwise_singleton _ _, fun a ha b hb => ?_⟩
        rw [List.mem_singleton] at hb
        subst hb
        obtain ⟨j, hj, rfl⟩ := (h2 a).1 ha
        have hm0 : ¬ m = 0 := by omega
        have hne : d[m]! ≠ d[m - 1]! := by
          unfold Lib.keeps at hk
          have := of_decide_eq_true hk
          rcases this with h | h
          · exact absurd h hm0
          · exact h
        have hl1 : d[m - 1]! ≤ d[m]! := hle (m - 1) m (by omega) (by omega)
        have hl2 : d[m - 1]! < d[m]! := by
          rcases txt_tri d[m - 1]! d[m]! with h | h | h
          · exact h
          · exact absurd h.symm hne
          · exact absurd h (List.not_lt.2 hl1)
        by_cases hj1 : j = m - 1
        · rw [hj1]; exact hl2
        · have hl3 := hle j (m - 1) (by omega) (by omega)
          rcases txt_tri d[j]! d[m - 1]! with h | h | h
          · exact txt_trans h hl2
          · rw [h]; exact hl2
          · exact absurd h (List.not_lt.2 hl3)
      · intro x
        rw [List.mem_append, h2, List.mem_singleton]
        constructor
        · rintro (⟨j, hj, e⟩ | e)
          · exact ⟨j, by omega, e⟩
          · exact ⟨m, by omega, e.symm⟩
        · rintro ⟨j, hj, e⟩
          by_cases hjm : j = m
          · subst hjm; exact .inr e.symm
          · exact .inl ⟨j, by omega, e⟩
    · rw [if_neg hk, List.append_nil]
      refine ⟨h1, fun x => ?_⟩
      rw [h2]
      have hk' : ¬ (m = 0 ∨ d[m]! ≠ d[m - 1]!) := fun h => hk (decide_eq_true h)
      have hm0 : ¬ m = 0 := fun h => hk' (.inl h)
      have he : d[m]! = d[m - 1]! := Classical.byContradiction fun h => hk' (.inr h)
      constructor
      · rintro ⟨j, hj, e⟩; exact ⟨j, by omega, e⟩
      · rintro ⟨j, hj, e⟩
        by_cases hjm : j = m
        · subst hjm; exact ⟨j - 1, by omega, by rw [← he]; exact e⟩
        · exact ⟨j, by omega, e⟩
/-- Sorted and compacted is put in one by one. -/
theorem compact_sort (xs : List Txt) : Lib.compact (xs.mergeSort fun x y => decide (x ≤ y)) = putAll [] xs := by
  have tr : ∀ a b c : Txt, decide (a ≤ b) = true → decide (b ≤ c) = true → decide (a ≤ c) = true := fun a b c h1 h2 => decide_eq_true (List.le_trans (of_decide_eq_true h1) (of_decide_eq_true h2))
  have hto : ∀ a b : Txt, (decide (a ≤ b) || decide (b ≤ a)) = true := fun a b => by
    rw [Bool.or_eq_true, decide_eq_true_eq, decide_eq_true_eq]
    exact List.le_total a b
  have hp : (xs.mergeSort fun x y => decide (x ≤ y)).Pairwise (· ≤ ·) := (List.pairwise_mergeSort tr hto xs).imp (fun {a b} h => of_decide_eq_true h)
  have hm : ∀ x, x ∈ (xs.mergeSort fun x y => decide (x ≤ y)) ↔ x ∈ xs := fun x => (List.mergeSort_perm xs _).mem_iff
  generalize (xs.mergeSort fun x y => decide (x ≤ y)) = ss at *
  obtain ⟨h1, h2⟩ := upTo_sorted ss.toArray (by simpa using hp) ss.length (by simp)
  refine asc_txt h1 (putAll_sorted xs [] List.Pairwise.nil) fun x => ?_
  rw [show (x ∈ Lib.compact ss ↔ x ∈ putAll [] xs) = (x ∈ Lib.compactUpTo ss.toArray ss.length ↔ x ∈ putAll [] xs) from rfl, h2, putAll_mem, ← hm]
  constructor
  · rintro ⟨j, hj, e⟩
    refine .inr ?_
    rw [← e, getElem!_pos ss.toArray j (by simpa using hj)]
    simp
  · rintro (h | h)
    · cases h
    · obtain ⟨j, hj, e⟩ := List.getElem_of_mem h
      refine ⟨j, hj, ?_⟩
      rw [getElem!_pos ss.toArray j (by simpa using hj)]
      simpa using e

end Go.Proofs.Ytbmfbnlmdjnddaa
/- Traces, plain: the calls of a trace, how they are read, and what they tell. -/
namespace Go.Proofs.Ytbmfbnlmdjnddaa
open Go.RowKit

/-- Calls one behind the other: the first one's segment, the calls within it, and those behind it. -/
inductive Forest where
  | nil
  | cons (c : UInt8) (k r : Forest)

namespace Forest
def len : Forest → Nat
  | nil => 0
  | cons _ _ r => r.len + 1
def isNil : Forest → Bool
  | nil => true
  | cons _ _ _ => false
def app : Forest → Forest → Forest
  | nil, g => g
  | cons c k r, g => cons c k (r.app g)
theorem app_nil : ∀ f : Forest, f.app nil = f
  | nil => rfl
  | cons c k r => by show cons c k (r.app nil) = _; rw [app_nil r]
theorem app_assoc : ∀ f g h : Forest, (f.app g).app h = f.app (g.app h)
  | nil, _, _ => rfl
  | cons c k r, g, h => by show cons c k ((r.app g).app h) = _; rw [app_assoc r]; rfl
theorem app_len : ∀ f g : Forest, (f.app g).len = f.len + g.len
  | nil, g => by show g.len = 0 + g.len; omega
  | cons c k r, g => by show (r.app g).len + 1 = r.len + 1 + g.len; rw [app_len r]; omega
theorem isNil_len (f : Forest) : f.isNil = decide (f.len = 0) := by cases f <;> simp [isNil, len]
theorem snoc_isNil (f : Forest) (c : UInt8) (k : Forest) : (f.app (cons c k nil)).isNil = false := by cases f <;> rfl
/-- How many calls there are in all. -/
def size : Forest → Nat
  | nil => 0
  | cons _ k r => k.size + r.size + 1
theorem len_size : ∀ f : Forest, f.len ≤ f.size
  | nil => Nat.le_refl 0
  | cons _ k r => by have := len_size r; show r.len + 1 ≤ k.size + r.size + 1; omega
/-- How many lie within each other. -/
def deep : Forest → Nat
  | nil => 0
  | cons _ k r => max (k.deep + 1) r.deep
end Forest

/-- What was read, and the rest. -/
abbrev Got := Option (Forest × List UInt8)

/-- A closing parenthesis behind at least one call. -/
def closed : Got → Got
  | none => none
  | some (.nil, _) => none
  | some (.cons _ _ _, []) => none
  | some (.cons c k f, x :: r) => if x = 41 then some (.cons c k f, r) else none
/-- What comes behind a name. -/
def innerBy (rd : Nat → List UInt8 → Got) (d : Nat) : List UInt8 → Got
  | [] => some (.nil, [])
  | c :: r => if c = 40 then closed (rd d r) else some (.nil, c :: r)
def callBy (P : UInt8 → Bool) (rd : Nat → List UInt8 → Got) : Nat → UInt8 → List UInt8 → Got
  | 0, _, _ => none
  | d + 1, c, r => if P c = true then innerBy rd d r else none
/-- The calls behind a call. -/
def thenBy (c : UInt8) (more : List UInt8 → Got) : Got → Got
  | none => none
  | some (k, r) => match more r with
    | none => none
    | some (f, r2) => some (.cons c k f, r2)
/-- Calls up to the end or to a closing parenthesis, with so many levels left. -/
def rd (P : UInt8 → Bool) : Nat → Nat → List UInt8 → Got
  | 0, _, _ => none
  | _ + 1, _, [] => some (.nil, [])
  | n + 1, d, c :: r => if c = 41 then some (.nil, c :: r) else thenBy c (fun s => rd P n d s) (callBy P (fun e s => rd P n e s) d c r)

/-- No longer than it was. -/
def Less (g : Got) (n : Nat) : Prop := ∀ f r, g = some (f, r) → r.length ≤ n
theorem closed_less {g : Got} {n : Nat} (h : Less g (n + 1)) : Less (closed g) n := by
  intro f r e
  unfold closed at e
  split at e
  · cases e
  · cases e
  · cases e
  · next c k f' x r' =>
    split at e
    · injection e with e
      injection e with e1 e2
      subst e2
      have := h _ _ rfl
      simp at this
      omega
    · cases e
theorem Less.mono {g : Got} {n m : Nat} (h : Less g n) (hm : n ≤ m) : Less g m := fun f r e => Nat.le_trans (h f r e) hm
theorem innerBy_less {rd : Nat → List UInt8 → Got} {d : Nat} {s : List UInt8} (h : ∀ e r, r.length < s.length → Less (rd e r) r.length) : Less (innerBy rd d s) s.length := by
  unfold innerBy
  split
  · intro f r e
    injection e with e
    injection e with e1 e2
    subst e2
    exact Nat.le_refl _
  · next c r =>
    split
    · exact closed_less (((h d r (by simp)).mono (by simp; omega)))
    · intro f r' e
      injection e with e
      injection e with e1 e2
      subst e2
      exact Nat.le_refl _
theorem callBy_less {P : UInt8 → Bool} {rd : Nat → List UInt8 → Got} {d : Nat} {c : UInt8} {s : List UInt8} (h : ∀ e r, r.length < s.length → Less (rd e r) r.length) : Less (callBy P rd d c s) s.length := by
  unfold callBy
  split
  · intro f r e; cases e
  · split
    · exact innerBy_less h
    · intro f r e; cases e
theorem rd_less (P : UInt8 → Bool) : ∀ (n d : Nat) (s : List UInt8), Less (rd P n d s) s.length
  | 0, _, _ => fun f r e => by cases e
  | n + 1, d, [] => fun f r e => by
    injection e with e
    injection e with e1 e2
    subst e2
    exact Nat.le_refl _
  | n + 1, d, c :: s => fun f r e => by
    unfold rd at e
    split at e
    · injection e with e
      injection e with e1 e2
      subst e2
      exact Nat.le_refl _
    · have h1 : Less (callBy P (fun e s => rd P n e s) d c s) s.length := callBy_less fun e r _ => rd_less P n e r
      unfold thenBy at e
      split at e
      · cases e
      · next k r1 h2 =>
        have h3 := h1 _ _ h2
        split at e
        · cases e
        · next f' r2 h4 =>
          injection e with e
          injection e with e1 e2
          subst e2
          have := rd_less P n d r1 _ _ h4
          simp
          omega

theorem innerBy_congr {rd rd' : Nat → List UInt8 → Got} {d : Nat} {s : List UInt8} (h : ∀ e r, r.length < s.length → rd e r = rd' e r) : innerBy rd d s = innerBy rd' d s := by
  unfold innerBy
  split
  · rfl
  · next c r => rw [h d r (by simp)]
theorem callBy_congr {P : UInt8 → Bool} {rd rd' : Nat → List UInt8 → Got} {d : Nat} {c : UInt8} {s : List UInt8} (h : ∀ e r, r.length < s.length → rd e r = rd' e r) : callBy P rd d c s = callBy P rd' d c s := by
  unfold callBy
  split
  · rfl
  · rw [innerBy_congr h]
theorem thenBy_congr {c : UInt8} {m m' : List UInt8 → Got} {g : Got} {n : Nat} (hg : Less g n) (h : ∀ s, s.length ≤ n → m s = m' s) : thenBy c m g = thenBy c m' g := by
  unfold thenBy
  split
  · rfl
  · next k r => rw [h r (hg _ _ rfl)]
theorem rd_fuel (P : UInt8 → Bool) : ∀ (n m d : Nat) (s : List UInt8), s.length < n → s.length < m → rd P n d s = rd P m d s
  | 0, _, _, _, h, _ => absurd h (by omega)
  | _, 0, _, _, _, h => absurd h (by omega)
  | n + 1, m + 1, d, [], _, _ => rfl
  | n + 1, m + 1, d, c :: s, h, h' => by
    have hn : s.length < n := by simp at h; omega
    have hm : s.length < m := by simp at h'; omega
    show (if c = 41 then _ else _) = (if c = 41 then _ else _)
    split
    · rfl
    · have e1 : callBy P (fun e s => rd P n e s) d c s = callBy P (fun e s => rd P m e s) d c s := callBy_congr fun e r hr => rd_fuel P n m e r (by omega) (by omega)
      rw [← e1]
      exact thenBy_congr (callBy_less fun e r _ => rd_less P n e r) fun r hr => rd_fuel P n m d r (by omega) (by omega)

/-- The same without a bound on the steps. -/
def calls (P : UInt8 → Bool) (d : Nat) (s : List UInt8) : Got := rd P (s.length + 1) d s
def callA (P : UInt8 → Bool) (d : Nat) (c : UInt8) (r : List UInt8) : Got := callBy P (calls P) d c r
theorem calls_less (P : UInt8 → Bool) (d : Nat) (s : List UInt8) : Less (calls P d s) s.length := rd_less P _ d s
theorem callA_less (P : UInt8 → Bool) (d : Nat) (c : UInt8) (s : List UInt8) : Less (callA P d c s) s.length := callBy_less fun e r _ => calls_less P e r
theorem calls_nil (P : UInt8 → Bool) (d : Nat) : calls P d [] = some (.nil, []) := rfl
theorem calls_close (P : UInt8 → Bool) (d : Nat) (r : List UInt8) : calls P d (41 :: r) = some (.nil, 41 :: r) := rfl
theorem calls_cons (P : UInt8 → Bool) (d : Nat) {c : UInt8} (r : List UInt8) (h : c ≠ 41) : calls P d (c :: r) = thenBy c (calls P d) (callA P d c r) := by
  show (if c = 41 then _ else _) = _
  rw [if_neg h]
  have e1 : callBy P (fun e s => rd P (r.length + 1) e s) d c r = callA P d c r := callBy_congr fun e s hs => rd_fuel P _ _ e s (by omega) (by omega)
  show thenBy c _ (callBy P (fun e s => rd P (r.length + 1) e s) d c r) = _
  rw [e1]
  exact thenBy_congr (callA_less P d c r) fun s hs => rd_fuel P _ _ d s (by simp; omega) (by omega)
theorem callA_zero (P : UInt8 → Bool) (c : UInt8) (r : List UInt8) : callA P 0 c r = none := rfl
theorem callA_no {P : UInt8 → Bool} {d : Nat} {c : UInt8} {r : List UInt8} (h : P c = false) : callA P d c r = none := by
  unfold callA callBy
  split
  · rfl
  · rw [if_neg (by rw [h]; decide)]
theorem callA_leaf {P : UInt8 → Bool} {d : Nat} {c : UInt8} {r : List UInt8} (h : P c = true) (hr : ∀ x u, r = x :: u → x ≠ 40) : callA P (d + 1) c r = some (.nil, r) := by
  unfold callA callBy
  dsimp only
  rw [if_pos h]
  unfold innerBy
  split
  · rfl
  · next x u => rw [if_neg (hr x u rfl)]
theorem callA_open {P : UInt8 → Bool} {d : Nat} {c : UInt8} {r : List UInt8} (h : P c = true) : callA P (d + 1) c (40 :: r) = closed (calls P d r) := by
  unfold callA callBy
  dsimp only
  rw [if_pos h]
  rfl

/-- Calls ahead of what is read. -/
def ahead (f : Forest) : Got → Got
  | none => none
  | some (g, r) => some (f.app g, r)
theorem ahead_nil (g : Got) : ahead .nil g = g := by cases g <;> rfl
theorem ahead_ahead (f f' : Forest) (g : Got) : ahead f (ahead f' g) = ahead (f.app f') g := by
  cases g with
  | none => rfl
  | some x => show some (f.app (f'.app x.1), x.2) = _; rw [← Forest.app_assoc]; rfl
theorem thenBy_ahead (c : UInt8) (k : Forest) (r : List UInt8) (more : List UInt8 → Got) : thenBy c more (some (k, r)) = ahead (.cons c k .nil) (more r) := by
  unfold thenBy ahead
  dsimp only
  cases more r <;> rfl
/-- One more call is read: what is behind it. -/
theorem calls_step {P : UInt8 → Bool} {d : Nat} {c : UInt8} {r r1 : List UInt8} {k : Forest} (f : Forest) (hc : c ≠ 41) (h : callA P d c r = some (k, r1)) : ahead f (calls P d (c :: r)) = ahead (f.app (.cons c k .nil)) (calls P d r1) := by
  rw [calls_cons P d r hc, h, thenBy_ahead, ahead_ahead]
theorem calls_fail {P : UInt8 → Bool} {d : Nat} {c : UInt8} {r : List UInt8} (f : Forest) (hc : c ≠ 41) (h : callA P d c r = none) : ahead f (calls P d (c :: r)) = none := by
  rw [calls_cons P d r hc, h]; rfl

/-- The rest behind calls is empty or begins with a closing parenthesis. -/
theorem rd_rest (P : UInt8 → Bool) : ∀ (n d : Nat) (s : List UInt8) f r, rd P n d s = some (f, r) → r = [] ∨ ∃ u, r = 41 :: u
  | 0, _, _, _, _, e => by cases e
  | n + 1, d, [], f, r, e => by
    injection e with e
    injection e with e1 e2
    exact .inl e2.symm
  | n + 1, d, c :: s, f, r, e => by
    unfold rd at e
    split at e
    · next h =>
      injection e with e
      injection e with e1 e2
      subst h
      exact .inr ⟨s, e2.symm⟩
    · unfold thenBy at e
      split at e
      · cases e
      · next k r1 h2 =>
        split at e
        · cases e
        · next f' r2 h4 =>
          injection e with e
          injection e with e1 e2
          subst e2
          exact rd_rest P n d r1 _ _ h4
theorem calls_rest {P : UInt8 → Bool} {d : Nat} {s : List UInt8} {f : Forest} {r : List UInt8} (h : calls P d s = some (f, r)) : r = [] ∨ ∃ u, r = 41 :: u := rd_rest P _ d s f r h

/-- Which letters name a segment of a valid tree. -/
def callP (l : List Seg) (c : UInt8) : Bool := decide (0 ≤ indexB l ⟨#[c]⟩)
/-- The calls of a trace within a tree, if a text is one. -/
def traceB (l : List Seg) (t : List UInt8) : Option Forest :=
  if (validB l && decide (t.length ≤ 80)) = true then (match calls (callP l) 8 t with
    | some (f, []) => some f
    | _ => none) else none

theorem seekFrom_has (s : ByteArray) : ∀ (l : List Seg) (k : Nat), decide (0 ≤ seekFrom s l k) = takenB l s
  | [], k => by unfold seekFrom takenB; simp
  | x :: l, k => by
    have ih := seekFrom_has s l (k + 1)
    unfold seekFrom takenB
    rw [List.any_cons]
    by_cases h : sameB x.name s = true
    · rw [if_pos h, h, Bool.true_or]; exact decide_eq_true (by omega)
    · rw [if_neg h, Bool.eq_false_iff.2 h, Bool.false_or]
      exact ih
theorem callP_taken {l : List Seg} (hv : validB l = true) (c : UInt8) : callP l c = takenB l ⟨#[c]⟩ := by
  unfold callP indexB
  rw [if_pos hv]
  exact seekFrom_has _ l 0
theorem callP_bad {l : List Seg} (hv : validB l = false) (c : UInt8) : callP l c = false := by
  unfold callP indexB
  rw [if_neg (by rw [hv]; decide)]
  rfl
theorem validB_names {l : List Seg} (hv : validB l = true) {s : Seg} (hs : s ∈ l) : nameOk s.name = true := by
  unfold validB at hv
  simp only [Bool.and_eq_true, decide_eq_true_eq] at hv
  have h := allB_iff.1 hv.2
  have : l.take l.length = l := List.take_length
  exact mem_take_name h (by rw [this]; exact hs)
theorem callP_letter {l : List Seg} {c : UInt8} (h : callP l c = true) : 65 ≤ c.toNat ∧ c.toNat ≤ 72 := by
  cases hv : validB l with
  | false => rw [callP_bad hv] at h; cases h
  | true =>
    rw [callP_taken hv] at h
    unfold takenB at h
    obtain ⟨s, hs, he⟩ := List.any_eq_true.1 h
    obtain ⟨d, hd, h1, h2⟩ := nameOk_one (validB_names hv hs)
    have := sameB_iff.1 he
    rw [hd] at this
    injection this with this
    have h3 : [d] = [c] := congrArg Array.toList this
    injection h3 with h3
    subst h3
    exact ⟨h1, h2⟩
theorem callP_open (l : List Seg) : callP l 40 = false := by
  cases h : callP l 40 with
  | false => rfl
  | true => have := (callP_letter h).1; revert this; decide
theorem callP_shut (l : List Seg) : callP l 41 = false := by
  cases h : callP l 41 with
  | false => rfl
  | true => have := (callP_letter h).1; revert this; decide

end Go.Proofs.Ytbmfbnlmdjnddaa
/- The program's reader of traces: skip, readName, newCall. -/
namespace Go.Proofs.Ytbmfbnlmdjnddaa
open Go.RowKit

/-- Is this byte the next one? -/
def headIs (s : List UInt8) (c : UInt8) : Bool := match s with
  | [] => false
  | x :: _ => decide (x = c)
/-- What is left behind it. -/
def tailIf (s : List UInt8) (c : UInt8) : List UInt8 := if headIs s c = true then s.drop 1 else s
theorem headIs_yes {s : List UInt8} {c : UInt8} (h : headIs s c = true) : ∃ r, s = c :: r ∧ tailIf s c = r := by
  cases s with
  | nil => cases h
  | cons x r =>
    have hx : x = c := of_decide_eq_true h
    refine ⟨r, by rw [hx], ?_⟩
    unfold tailIf
    rw [if_pos h]; rfl
theorem headIs_no {s : List UInt8} {c : UInt8} (h : headIs s c = false) : (∀ x u, s = x :: u → x ≠ c) ∧ tailIf s c = s := by
  refine ⟨fun x u e hx => ?_, ?_⟩
  · subst e
    exact absurd hx (of_decide_eq_false h)
  · unfold tailIf
    rw [if_neg (by rw [h]; decide)]
theorem hasPrefix_one (s : List UInt8) (c : UInt8) : Lib.hasPrefix s [c] = headIs s c := by
  unfold Lib.hasPrefix headIs
  cases s with
  | nil => rfl
  | cons x r =>
    rw [List.isPrefixOf_cons_cons]
    dsimp only
    by_cases h : x = c
    · subst h; simp
    · rw [decide_eq_false h, show (c == x) = false from beq_eq_false_iff_ne.2 (fun e => h e.symm)]; rfl
theorem trimPrefix_one (s : List UInt8) (c : UInt8) : Lib.trimPrefix s [c] = tailIf s c := by
  unfold Lib.trimPrefix tailIf
  rw [hasPrefix_one]
  rfl

/-- The nodes' names lie below block 'b'. -/
def Known (w : World) (b g : Nat) (l : List Seg) (nb : Nat → Nat) : Prop :=
  g < b ∧ ∀ i x, l[i]? = some x → nb i < b ∧ w.cell? ⟨g, i, none⟩ = some (.pointer (some ⟨nb i, 0, none⟩)) ∧ w.cell? ⟨nb i, 0, none⟩ = some (.string x.name)
theorem Known.below {w w' : World} {b g : Nat} {l : List Seg} {nb : Nat → Nat} (h : Known w b g l nb) (hb : Below b w w') : Known w' b g l nb :=
  ⟨h.1, fun i x hx => by
    obtain ⟨h1, h2, h3⟩ := h.2 i x hx
    exact ⟨h1, (hb.cell (p := ⟨g, i, none⟩) h.1).trans h2, (hb.cell (p := ⟨nb i, 0, none⟩) h1).trans h3⟩⟩
theorem Only.belowRow {w w' : World} {b : Nat} (ho : Only w w' (· = b)) (hb : b ≤ w.heap.size) : Below b w w' :=
  Only.below (Below.refl b w) ho hb (fun k h1 h2 => by omega)

theorem taken_take_succ {l : List Seg} {c d : UInt8} {k : Nat} (hk : k < l.length) (hd : l[k].name = ⟨#[d]⟩) (hcd : c ≠ d) (h : takenB (l.take k) ⟨#[c]⟩ = false) : takenB (l.take (k + 1)) ⟨#[c]⟩ = false := by
  rw [takenB_take_succ hk, h, hd]
  rw [Bool.false_or, Bool.eq_false_iff]
  intro he
  have := sameB_iff.1 he
  injection this with this
  have h3 : [d] = [c] := congrArg Array.toList this
  injection h3 with h3
  exact hcd h3.symm
theorem callP_at {l : List Seg} (hv : validB l = true) {c : UInt8} {k : Nat} (hk : k < l.length) (hd : l[k].name = ⟨#[c]⟩) : callP l c = true := by
  rw [callP_taken hv]
  exact List.any_eq_true.2 ⟨l[k], List.getElem_mem hk, sameB_iff.2 hd⟩

end Go.Proofs.Ytbmfbnlmdjnddaa
/- The program's calls in memory, and how one is read: readCall. -/
namespace Go.Proofs.Ytbmfbnlmdjnddaa
open Go.RowKit

theorem cell_same {w w' : World} {g : Nat} (h : w'.heap[g]? = w.heap[g]?) (i : Nat) : w'.cell? ⟨g, i, none⟩ = w.cell? ⟨g, i, none⟩ := by
  simp [World.cell?, h]

/-- What one call reads. -/
def named (c : UInt8) : Got → Option (UInt8 × Forest × List UInt8)
  | none => none
  | some (k, r) => some (c, k, r)
def readA (P : UInt8 → Bool) (d : Nat) : List UInt8 → Option (UInt8 × Forest × List UInt8)
  | [] => none
  | c :: r => named c (callA P d c r)
theorem readA_zero (P : UInt8 → Bool) (s : List UInt8) : readA P 0 s = none := by cases s <;> rfl
theorem readA_no {P : UInt8 → Bool} {d : Nat} {s : List UInt8} (h : ∀ c r, s = c :: r → P c = false) : readA P d s = none := by
  cases s with
  | nil => rfl
  | cons c r => unfold readA; dsimp only; rw [callA_no (h c r rfl)]; rfl
theorem readA_some {P : UInt8 → Bool} {d : Nat} {s r' : List UInt8} {c : UInt8} {k : Forest} (hP : P 41 = false) (h : readA P d s = some (c, k, r')) : ∃ r, s = c :: r ∧ callA P d c r = some (k, r') ∧ c ≠ 41 ∧ r'.length < s.length := by
  cases s with
  | nil => cases h
  | cons x r =>
    unfold readA named at h
    dsimp only at h
    cases hc : callA P d x r with
    | none => rw [hc] at h; cases h
    | some y =>
      rw [hc] at h
      injection h with h
      injection h with h1 h2
      injection h2 with h2 h3
      subst h1
      refine ⟨r, rfl, ?_, ?_, ?_⟩
      · rw [hc, ← h2, ← h3]
      · rintro rfl
        rw [callA_no hP] at hc
        cases hc
      · have := callA_less P d x r y.1 y.2 (by rw [hc])
        rw [← h3]
        simp
        omega
theorem closed_app {f : Forest} (h : f.isNil = false) (u : List UInt8) : closed (some (f, 41 :: u)) = some (f, u) := by
  cases f with
  | nil => cases h
  | cons c k r => rfl
theorem closed_end (f : Forest) : closed (some (f, [])) = none := by cases f <;> rfl
theorem closed_first {P : UInt8 → Bool} {d : Nat} {s : List UInt8} (h : readA P d s = none) : closed (calls P d s) = none := by
  cases s with
  | nil => rfl
  | cons c r =>
    by_cases hc : c = 41
    · subst hc; rfl
    · have h1 : callA P d c r = none := by
        unfold readA named at h
        dsimp only at h
        cases hx : callA P d c r with
        | none => rfl
        | some y => rw [hx] at h; cases h
      rw [calls_cons P d r hc, h1]; rfl
theorem closed_next {P : UInt8 → Bool} {d : Nat} {s : List UInt8} (f : Forest) (h : readA P d s = none) (hs : ∀ x u, s = x :: u → x ≠ 41) : closed (ahead f (calls P d s)) = none := by
  cases s with
  | nil => rw [calls_nil]; show closed (some (f.app .nil, [])) = none; exact closed_end _
  | cons c r =>
    have h1 : callA P d c r = none := by
      unfold readA named at h
      dsimp only at h
      cases hx : callA P d c r with
      | none => rfl
      | some y => rw [hx] at h; cases h
    rw [calls_fail f (hs c r rfl) h1]; rfl
theorem ahead_step {P : UInt8 → Bool} {d : Nat} {s r' : List UInt8} {c : UInt8} {k : Forest} (f : Forest) (hP : P 41 = false) (h : readA P d s = some (c, k, r')) : ahead f (calls P d s) = ahead (f.app (.cons c k .nil)) (calls P d r') := by
  obtain ⟨r, rfl, h1, h2, _⟩ := readA_some hP h
  exact calls_step f h2 h1
theorem ahead_shut {P : UInt8 → Bool} {d : Nat} (f : Forest) (u : List UInt8) : ahead f (calls P d (41 :: u)) = some (f, 41 :: u) := by
  rw [calls_close]; show some (f.app .nil, 41 :: u) = _; rw [Forest.app_nil]
theorem ahead_end {P : UInt8 → Bool} {d : Nat} (f : Forest) : ahead f (calls P d []) = some (f, []) := by
  rw [calls_nil]; show some (f.app .nil, []) = _; rw [Forest.app_nil]
theorem readA_leaf {P : UInt8 → Bool} {d : Nat} {c : UInt8} {r : List UInt8} (h : P c = true) (hr : ∀ x u, r = x :: u → x ≠ 40) : readA P (d + 1) (c :: r) = some (c, .nil, r) := by
  unfold readA; dsimp only; rw [callA_leaf h hr]; rfl
theorem readA_open {P : UInt8 → Bool} {d : Nat} {c : UInt8} {r : List UInt8} (h : P c = true) : readA P (d + 1) (c :: 40 :: r) = named c (closed (calls P d r)) := by
  unfold readA; dsimp only; rw [callA_open h]

/-- How much is left to read. -/
def restAt (b : Nat) (w : World) : Nat := match w.cell? ⟨b, 1, none⟩ with
  | some (.string x) => x.size
  | _ => 0
end Go.Proofs.Ytbmfbnlmdjnddaa
/- The program's reader of traces: readCall, readOutermost. -/
namespace Go.Proofs.Ytbmfbnlmdjnddaa
open Go.RowKit

theorem Only.andLow {w w1 w2 : World} {may : Nat → Prop} (h : Only w w1 may) (hb : Below w.heap.size w1 w2) : Only w w2 may :=
  ⟨hb.os.trans h.os, hb.tape.trans h.tape, hb.output.trans h.output, Nat.le_trans h.size hb.size, fun k hk hm => (hb.block k hk).trans (h.block k hk hm)⟩
theorem Row.only {w w' : World} {b g : Nat} {t : TypeId} {cs : Array Value} (h : Row w g t cs) (ho : Only w w' (· = b)) (hg : g ≠ b) : Row w' g t cs := ho.row h hg

end Go.Proofs.Ytbmfbnlmdjnddaa
/- The program's readOutermost and readTrace: it recovers. -/
namespace Go.Proofs.Ytbmfbnlmdjnddaa
open Go.RowKit

/-- All is read. -/
def whole : Got → Option Forest
  | some (f, []) => some f
  | _ => none
theorem whole_end {P : UInt8 → Bool} {d : Nat} (f : Forest) : whole (ahead f (calls P d [])) = some f := by rw [ahead_end]; rfl
theorem whole_fail {P : UInt8 → Bool} {d : Nat} {s : List UInt8} (f : Forest) (h : readA P d s = none) (hs : s ≠ []) : whole (ahead f (calls P d s)) = none := by
  cases s with
  | nil => exact absurd rfl hs
  | cons c r =>
    by_cases hc : c = 41
    · subst hc; rw [ahead_shut]; rfl
    · have h1 : callA P d c r = none := by
        unfold readA named at h
        dsimp only at h
        cases hx : callA P d c r with
        | none => rfl
        | some y => rw [hx] at h; cases h
      rw [calls_fail f hc h1]; rfl
theorem traceB_eq (l : List Seg) (t : List UInt8) : traceB l t = if (validB l && decide (t.length ≤ 80)) = true then whole (calls (callP l) 8 t) else none := by
  unfold traceB whole
  split <;> rfl

end Go.Proofs.Ytbmfbnlmdjnddaa
/- The reference's calls in memory. -/
namespace Go.Proofs.Ytbmfbnlmdjnddaa
open Go.RowKit

/-- The reference's calls 'f' lie in block 'g' from cell 'o' on. -/
def SCells (w : World) (S : Nat → Prop) : Forest → Nat → Nat → Prop
  | .nil, _, _ => True
  | .cons c k r, g, o => w.cell? ⟨g, o, none⟩ = some (.string ⟨#[c]⟩) ∧ (∃ A cap, w.cell? ⟨g, o + 1, none⟩ = some (.slice A k.len cap) ∧ (k.isNil = false → ∃ h, A = some ⟨h, 0, none⟩ ∧ S h ∧ SCells w S k h 0)) ∧ SCells w S r g (o + 2)
def IsKids (w : World) (S : Nat → Prop) (k : Forest) (v : Value) : Prop :=
  ∃ A cap, v = .slice A k.len cap ∧ (k.isNil = false → ∃ h, A = some ⟨h, 0, none⟩ ∧ S h ∧ SCells w S k h 0)
theorem SCells.keep {w w' : World} {S S' : Nat → Prop} (hS : ∀ q, S q → S' q ∧ w'.heap[q]? = w.heap[q]?) : ∀ (f : Forest) (g o : Nat), w'.heap[g]? = w.heap[g]? → SCells w S f g o → SCells w' S' f g o
  | .nil, _, _, _, _ => trivial
  | .cons c k r, g, o, hg, h => by
    obtain ⟨hc, ⟨A, cap, hv, hk⟩, hr⟩ := h
    refine ⟨(cell_same hg o).trans hc, ⟨A, cap, (cell_same hg _).trans hv, fun hn => ?_⟩, SCells.keep hS r g (o + 2) hg hr⟩
    obtain ⟨q, e, hs, hk⟩ := hk hn
    exact ⟨q, e, (hS q hs).1, SCells.keep hS k q 0 (hS q hs).2 hk⟩
theorem IsKids.keep {w w' : World} {S S' : Nat → Prop} (hS : ∀ q, S q → S' q ∧ w'.heap[q]? = w.heap[q]?) {k : Forest} {v : Value} (h : IsKids w S k v) : IsKids w' S' k v := by
  obtain ⟨A, cap, hv, hk⟩ := h
  refine ⟨A, cap, hv, fun hn => ?_⟩
  obtain ⟨q, e, hs, hk⟩ := hk hn
  exact ⟨q, e, (hS q hs).1, SCells.keep hS k q 0 (hS q hs).2 hk⟩

def SVals (w : World) (S : Nat → Prop) : Forest → List Value → Prop
  | .nil, xs => xs = []
  | .cons c k r, xs => ∃ v vs, xs = .string ⟨#[c]⟩ :: v :: vs ∧ IsKids w S k v ∧ SVals w S r vs
theorem SVals.keep {w w' : World} {S S' : Nat → Prop} (hS : ∀ q, S q → S' q ∧ w'.heap[q]? = w.heap[q]?) : ∀ (f : Forest) (xs : List Value), SVals w S f xs → SVals w' S' f xs
  | .nil, _, h => h
  | .cons c k r, xs, h => by
    obtain ⟨v, vs, e, hc, hr⟩ := h
    exact ⟨v, vs, e, hc.keep hS, SVals.keep hS r vs hr⟩
theorem SVals.snoc {w : World} {S : Nat → Prop} {c : UInt8} {k : Forest} {v : Value} (hc : IsKids w S k v) : ∀ (f : Forest) (xs : List Value), SVals w S f xs → SVals w S (f.app (.cons c k .nil)) (xs ++ [.string ⟨#[c]⟩, v])
  | .nil, xs, h => by
    have h' : xs = [] := h
    subst h'
    exact ⟨v, [], rfl, hc, rfl⟩
  | .cons c' k' r, xs, h => by
    obtain ⟨v', vs, e, hc', hr⟩ := h
    subst e
    exact ⟨v', vs ++ [.string ⟨#[c]⟩, v], rfl, hc', SVals.snoc hc r vs hr⟩
theorem SVals.len {w : World} {S : Nat → Prop} : ∀ (f : Forest) (xs : List Value), SVals w S f xs → xs.length = f.len * 2
  | .nil, xs, h => by
    have h' : xs = [] := h
    subst h'; rfl
  | .cons c k r, xs, h => by
    obtain ⟨v, vs, e, _, hr⟩ := h
    subst e
    show vs.length + 1 + 1 = (r.len + 1) * 2
    rw [SVals.len r vs hr]; omega
theorem SVals.cells {w : World} {S : Nat → Prop} {g : Nat} : ∀ (f : Forest) (xs : List Value) (o : Nat), SVals w S f xs → (∀ i, i < xs.length → w.cell? ⟨g, o + i, none⟩ = xs[i]?) → SCells w S f g o
  | .nil, _, _, _, _ => trivial
  | .cons c k r, xs, o, h, hx => by
    obtain ⟨v, vs, e, ⟨A, cap, hv, hk⟩, hr⟩ := h
    subst e
    refine ⟨hx 0 (by simp), ⟨A, cap, ?_, hk⟩, SVals.cells r vs (o + 2) hr fun i hi => ?_⟩
    · rw [← hv]; exact hx 1 (by simp)
    · have := hx (i + 2) (by simp; omega)
      rw [show o + 2 + i = o + (i + 2) by omega, this]
      simp

theorem own_form2 {w : World} {base : Nat} {e : TypeId} {v : Value} {n : Nat} {xs : List Value} (h : w.ownsRow base e 2 v n xs) (hn : 0 < n) : ∃ g cap, v = .slice (some ⟨g, 0, none⟩) n cap := by
  rcases h.2 with ⟨rfl, h0⟩ | ⟨g, cap, cur, rfl, hg, hh, r⟩
  · omega
  · exact ⟨g, cap, rfl⟩

/-- The reference's reader. -/
def rdCells (t : ByteArray) (a : Int) (bad : Bool) (tv : Value) (dp : Int) : Array Value := #[.string t, .int .i64 a, .bool bad, tv, .int .i64 dp]

/-- How much is left. -/
def leftS (t : ByteArray) (b : Nat) (w : World) : Nat := match w.cell? ⟨b, 2, none⟩, w.cell? ⟨b, 1, none⟩ with
  | some (.bool false), some i => t.size + 1 - (intOf i).toNat
  | _, _ => 0
end Go.Proofs.Ytbmfbnlmdjnddaa
