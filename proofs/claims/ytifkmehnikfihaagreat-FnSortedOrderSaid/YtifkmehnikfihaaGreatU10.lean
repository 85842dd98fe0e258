/- Joined: Da Lk Nd. -/
import Derived.Test.YtifkmehnikfihaaGreatU09
import Derived.Test.YtifkmehnikfihaaGreatU02
import Derived.Test.YtifkmehnikfihaaGreatU01
import Derived.Test.YtifkmehnikfihaaGreatU05
/- A stable sort, plain: blocks that are sorted by insertion, and merged by rotations. What stands at place k is d k; places are compared by a key, and of one key by their number. -/
namespace Go.Proofs.YtifkmehnikfihaaGreat
open Go.RowKit

/-- x comes ahead of y. -/
def Ahead (key : Nat → Int) (x y : Nat) : Prop := key x < key y ∨ (key x = key y ∧ x < y)
theorem Ahead.trans {key : Nat → Int} {x y z : Nat} (h : Ahead key x y) (k : Ahead key y z) : Ahead key x z := by
  unfold Ahead at *; omega
theorem Ahead.irrefl {key : Nat → Int} {x : Nat} (h : Ahead key x x) : False := by
  unfold Ahead at h; omega
theorem Ahead.total {key : Nat → Int} {x y : Nat} (h : x ≠ y) : Ahead key x y ∨ Ahead key y x := by
  unfold Ahead; omega
theorem ahead_less {key : Nat → Int} {x y : Nat} (h : key x < key y) : Ahead key x y := .inl h
theorem ahead_not {key : Nat → Int} {x y : Nat} (h : ¬ key y < key x) (hxy : x < y) : Ahead key x y := by
  unfold Ahead; omega

/-- Sorted from a on and ahead of b. -/
def Sorted11 (key : Nat → Int) (d : Nat → Nat) (a b : Nat) : Prop := ∀ i j, a ≤ i → i < j → j < b → Ahead key (d i) (d j)
/-- What stood ahead of m has lower numbers than what stands behind. -/
def Cross11 (d : Nat → Nat) (a m b : Nat) : Prop := ∀ i j, a ≤ i → i < m → m ≤ j → j < b → d i < d j
/-- What stands from a to b is taken from there, and the rest stands. -/
def Inside (d d' : Nat → Nat) (a b : Nat) : Prop := (∀ k, a ≤ k → k < b → ∃ j, a ≤ j ∧ j < b ∧ d' k = d j) ∧ ∀ k, k < a ∨ b ≤ k → d' k = d k
theorem Inside.refl (d : Nat → Nat) (a b : Nat) : Inside d d a b := ⟨fun k h1 h2 => ⟨k, h1, h2, rfl⟩, fun _ _ => rfl⟩
theorem Inside.trans {d d' d'' : Nat → Nat} {a b : Nat} (h : Inside d d' a b) (k : Inside d' d'' a b) : Inside d d'' a b := by
  refine ⟨fun i h1 h2 => ?_, fun i hi => (k.2 i hi).trans (h.2 i hi)⟩
  obtain ⟨j, j1, j2, e⟩ := k.1 i h1 h2
  obtain ⟨j', j3, j4, e'⟩ := h.1 j j1 j2
  exact ⟨j', j3, j4, e.trans e'⟩
theorem Inside.wide {d d' : Nat → Nat} {a b a' b' : Nat} (h : Inside d d' a b) (h1 : a' ≤ a) (h2 : b ≤ b') : Inside d d' a' b' := by
  refine ⟨fun k k1 k2 => ?_, fun k hk => h.2 k (by omega)⟩
  by_cases hin : a ≤ k ∧ k < b
  · obtain ⟨j, j1, j2, e⟩ := h.1 k hin.1 hin.2
    exact ⟨j, by omega, by omega, e⟩
  · exact ⟨k, k1, k2, h.2 k (by omega)⟩

/-- Two places that change. -/
def swap11 (d : Nat → Nat) (i j : Nat) (k : Nat) : Nat := if k = i then d j else if k = j then d i else d k
/-- Two stretches of n places that change. -/
def swaps11 (d : Nat → Nat) (a b n : Nat) (k : Nat) : Nat := if a ≤ k ∧ k < a + n then d (b + (k - a)) else if b ≤ k ∧ k < b + n then d (a + (k - b)) else d k
/-- What stands from m to b comes ahead of what stands from a to m. -/
def rot11 (d : Nat → Nat) (a m b : Nat) (k : Nat) : Nat := if a ≤ k ∧ k < a + (b - m) then d (k + (m - a)) else if a + (b - m) ≤ k ∧ k < b then d (k - (b - m)) else d k
theorem swaps11_zero (d : Nat → Nat) (a b : Nat) : swaps11 d a b 0 = d := by
  funext k
  unfold swaps11
  rw [if_neg (by omega), if_neg (by omega)]
theorem swaps11_next {d : Nat → Nat} {a b n : Nat} (h : a + n < b) : swap11 (swaps11 d a b n) (a + n) (b + n) = swaps11 d a b (n + 1) := by
  funext k
  unfold swap11 swaps11
  repeat' split
  all_goals first | (exfalso; omega) | rfl | (congr 1; omega)
theorem rot11_big {d : Nat → Nat} {p i j m : Nat} (hp : p + i = m) (h : j < i) : rot11 (swaps11 d p m j) (p + j) m (m + j) = rot11 d p m (m + j) := by
  funext k
  unfold rot11 swaps11
  repeat' split
  all_goals first | (exfalso; omega) | rfl | (congr 1; omega)
theorem rot11_small {d : Nat → Nat} {p i j m : Nat} (hp : p + i = m) (h : i < j) : rot11 (swaps11 d p (m + j - i) i) p m (m + j - i) = rot11 d p m (m + j) := by
  funext k
  unfold rot11 swaps11
  repeat' split
  all_goals first | (exfalso; omega) | rfl | (congr 1; omega)
theorem rot11_same {d : Nat → Nat} {p i m : Nat} (hp : p + i = m) : swaps11 d p m i = rot11 d p m (m + i) := by
  funext k
  unfold rot11 swaps11
  repeat' split
  all_goals first | (exfalso; omega) | rfl | (congr 1; omega)
theorem rot11_inside {d : Nat → Nat} {a m b : Nat} (h1 : a ≤ m) (h2 : m ≤ b) : Inside d (rot11 d a m b) a b := by
  refine ⟨fun k k1 k2 => ?_, fun k hk => ?_⟩
  · unfold rot11
    by_cases h : a ≤ k ∧ k < a + (b - m)
    · exact ⟨k + (m - a), by omega, by omega, if_pos h⟩
    · exact ⟨k - (b - m), by omega, by omega, by rw [if_neg h, if_pos (by omega)]⟩
  · unfold rot11
    rw [if_neg (by omega), if_neg (by omega)]
/-- One place goes behind those from a + 1 to i. -/
def goes11 (d : Nat → Nat) (a i : Nat) (k : Nat) : Nat := if a ≤ k ∧ k < i then d (k + 1) else if k = i then d a else d k
theorem goes11_zero (d : Nat → Nat) (a : Nat) : goes11 d a a = d := by
  funext k
  unfold goes11
  by_cases h : k = a
  · rw [if_neg (by omega), if_pos h, h]
  · rw [if_neg (by omega), if_neg h]
theorem goes11_next {d : Nat → Nat} {a i : Nat} (h : a ≤ i) : swap11 (goes11 d a i) i (i + 1) = goes11 d a (i + 1) := by
  funext k
  unfold swap11 goes11
  repeat' split
  all_goals first | (exfalso; omega) | rfl | (congr 1; omega)
/-- One place comes ahead of those from i to m - 1. -/
def comes11 (d : Nat → Nat) (i m : Nat) (k : Nat) : Nat := if k = i then d m else if i < k ∧ k ≤ m then d (k - 1) else d k
theorem comes11_zero (d : Nat → Nat) (m : Nat) : comes11 d m m = d := by
  funext k
  unfold comes11
  by_cases h : k = m
  · rw [if_pos h, h]
  · rw [if_neg h, if_neg (by omega)]
theorem comes11_next {d : Nat → Nat} {i m : Nat} (h : i + 1 ≤ m) : swap11 (comes11 d (i + 1) m) (i + 1) i = comes11 d i m := by
  funext k
  unfold swap11 comes11
  repeat' split
  all_goals first | (exfalso; omega) | rfl | (congr 1; omega)
theorem goes11_inside {d : Nat → Nat} {a i b : Nat} (h1 : a ≤ i) (h2 : i < b) : Inside d (goes11 d a i) a b := by
  refine ⟨fun k k1 k2 => ?_, fun k hk => ?_⟩
  · unfold goes11
    by_cases h : a ≤ k ∧ k < i
    · exact ⟨k + 1, by omega, by omega, if_pos h⟩
    · by_cases h3 : k = i
      · exact ⟨a, by omega, by omega, by rw [if_neg h, if_pos h3]⟩
      · exact ⟨k, k1, k2, by rw [if_neg h, if_neg h3]⟩
  · unfold goes11
    rw [if_neg (by omega), if_neg (by omega)]
theorem comes11_inside {d : Nat → Nat} {i m a b : Nat} (h0 : a ≤ i) (h1 : i ≤ m) (h2 : m < b) : Inside d (comes11 d i m) a b := by
  refine ⟨fun k k1 k2 => ?_, fun k hk => ?_⟩
  · unfold comes11
    by_cases h : k = i
    · exact ⟨m, by omega, by omega, if_pos h⟩
    · by_cases h3 : i < k ∧ k ≤ m
      · exact ⟨k - 1, by omega, by omega, by rw [if_neg h, if_pos h3]⟩
      · exact ⟨k, k1, k2, by rw [if_neg h, if_neg h3]⟩
  · unfold comes11
    rw [if_neg (by omega), if_neg (by omega)]

/-- One place ahead of a sorted stretch is put where it belongs. -/
theorem goes_sorted {key : Nat → Int} {d : Nat → Nat} {a b i : Nat} (hs : Sorted11 key d (a + 1) b) (hc : Cross11 d a (a + 1) b) (h1 : a + 1 ≤ i) (h2 : i ≤ b)
    (hl : i = a + 1 ∨ key (d (i - 1)) < key (d a)) (hr : i = b ∨ ¬ key (d i) < key (d a)) : Sorted11 key (goes11 d a (i - 1)) a b := by
  have lo : ∀ k, a + 1 ≤ k → k < i → Ahead key (d k) (d a) := fun k k1 k2 => by
    rcases hl with h | h
    · omega
    · by_cases e : k = i - 1
      · rw [e]; exact .inl h
      · exact (hs k (i - 1) k1 (by omega) (by omega)).trans (.inl h)
  have hi : ∀ k, i ≤ k → k < b → Ahead key (d a) (d k) := fun k k1 k2 => by
    rcases hr with h | h
    · omega
    · have h0 : Ahead key (d a) (d i) := ahead_not h (hc a i (Nat.le_refl _) (by omega) (by omega) (by omega))
      by_cases e : k = i
      · rw [e]; exact h0
      · exact h0.trans (hs i k (by omega) (by omega) k2)
  intro x y hx hxy hy
  unfold goes11
  by_cases x1 : a ≤ x ∧ x < i - 1
  · rw [if_pos x1]
    by_cases y1 : a ≤ y ∧ y < i - 1
    · rw [if_pos y1]; exact hs _ _ (by omega) (by omega) (by omega)
    · rw [if_neg y1]
      by_cases y2 : y = i - 1
      · rw [if_pos y2]; exact lo _ (by omega) (by omega)
      · rw [if_neg y2]; exact hs _ _ (by omega) (by omega) hy
  · rw [if_neg x1, if_neg (show ¬ (a ≤ y ∧ y < i - 1) by omega)]
    by_cases x2 : x = i - 1
    · rw [if_pos x2, if_neg (by omega)]; exact hi _ (by omega) hy
    · rw [if_neg x2, if_neg (by omega)]; exact hs _ _ (by omega) hxy hy
/-- One place behind a sorted stretch is put where it belongs. -/
theorem comes_sorted {key : Nat → Int} {d : Nat → Nat} {a m i : Nat} (hs : Sorted11 key d a m) (hc : Cross11 d a m (m + 1)) (h1 : a ≤ i) (h2 : i ≤ m)
    (hl : i = a ∨ ¬ key (d m) < key (d (i - 1))) (hr : i = m ∨ key (d m) < key (d i)) : Sorted11 key (comes11 d i m) a (m + 1) := by
  have lo : ∀ k, a ≤ k → k < i → Ahead key (d k) (d m) := fun k k1 k2 => by
    rcases hl with h | h
    · omega
    · have h0 : Ahead key (d (i - 1)) (d m) := ahead_not h (hc (i - 1) m (by omega) (by omega) (Nat.le_refl _) (by omega))
      by_cases e : k = i - 1
      · rw [e]; exact h0
      · exact (hs k (i - 1) k1 (by omega) (by omega)).trans h0
  have hi : ∀ k, i ≤ k → k < m → Ahead key (d m) (d k) := fun k k1 k2 => by
    rcases hr with h | h
    · omega
    · by_cases e : k = i
      · rw [e]; exact .inl h
      · exact Ahead.trans (.inl h) (hs i k (by omega) (by omega) k2)
  intro x y hx hxy hy
  unfold comes11
  by_cases x1 : x = i
  · rw [if_pos x1, if_neg (by omega), if_pos (by omega)]; exact hi _ (by omega) (by omega)
  · rw [if_neg x1]
    by_cases x2 : i < x ∧ x ≤ m
    · rw [if_pos x2, if_neg (by omega), if_pos (by omega)]; exact hs _ _ (by omega) (by omega) (by omega)
    · rw [if_neg x2]
      by_cases y1 : y = i
      · rw [if_pos y1]; exact lo _ hx (by omega)
      · rw [if_neg y1]
        by_cases y2 : i < y ∧ y ≤ m
        · rw [if_pos y2]; exact hs _ _ hx (by omega) (by omega)
        · rw [if_neg y2]; exact hs _ _ hx hxy (by omega)

/-- Where a merge parts its two stretches. -/
structure Parts11 (key : Nat → Int) (d : Nat → Nat) (a m b s : Nat) : Prop where
  lo : a ≤ s
  mid : s ≤ m
  e1 : m ≤ (a + b) / 2 + m - s
  e2 : (a + b) / 2 + m - s ≤ b
  h1 : a ≤ (a + b) / 2
  hl : s = a ∨ (a + b) / 2 + m - s = b ∨ ¬ key (d ((a + b) / 2 + m - s)) < key (d (s - 1))
  hr : s = m ∨ (a + b) / 2 + m - s = m ∨ key (d ((a + b) / 2 + m - s - 1)) < key (d s)
/-- Behind the rotation all that stands ahead of the middle comes ahead of what stands behind it. -/
theorem parts_cross {key : Nat → Int} {d : Nat → Nat} {a m b s : Nat} (h1 : Sorted11 key d a m) (h2 : Sorted11 key d m b) (hc : Cross11 d a m b) (P : Parts11 key d a m b s) :
    ∀ i j, a ≤ i → i < (a + b) / 2 → (a + b) / 2 ≤ j → j < b → Ahead key (rot11 d s m ((a + b) / 2 + m - s) i) (rot11 d s m ((a + b) / 2 + m - s) j) := by
  obtain ⟨lo, mid, e1, e2, h0, hl, hr⟩ := P
  generalize hM : (a + b) / 2 = M at *
  have hMb : M ≤ b := by omega
  generalize hE : M + m - s = E at *
  have hEM : s + (E - m) = M := by omega
  -- the four meetings
  have LL : ∀ i j, a ≤ i → i < s → s ≤ j → j < m → Ahead key (d i) (d j) := fun i j i1 i2 j1 j2 => h1 i j i1 (by omega) j2
  have RR : ∀ i j, m ≤ i → i < E → E ≤ j → j < b → Ahead key (d i) (d j) := fun i j i1 i2 j1 j2 => h2 i j i1 (by omega) j2
  have LR : ∀ i j, a ≤ i → i < s → E ≤ j → j < b → Ahead key (d i) (d j) := fun i j i1 i2 j1 j2 => by
    rcases hl with h | h | h
    · omega
    · omega
    · have x0 : Ahead key (d (s - 1)) (d E) := ahead_not h (hc (s - 1) E (by omega) (by omega) (by omega) (by omega))
      have x1 : Ahead key (d (s - 1)) (d j) := by
        by_cases e : j = E
        · rw [e]; exact x0
        · exact x0.trans (h2 E j (by omega) (by omega) j2)
      by_cases e : i = s - 1
      · rw [e]; exact x1
      · exact (h1 i (s - 1) i1 (by omega) (by omega)).trans x1
  have RL : ∀ i j, m ≤ i → i < E → s ≤ j → j < m → Ahead key (d i) (d j) := fun i j i1 i2 j1 j2 => by
    rcases hr with h | h | h
    · omega
    · omega
    · have x1 : Ahead key (d i) (d s) := by
        by_cases e : i = E - 1
        · rw [e]; exact .inl h
        · exact (h2 i (E - 1) i1 (by omega) (by omega)).trans (.inl h)
      by_cases e : j = s
      · rw [e]; exact x1
      · exact x1.trans (h1 s j (by omega) (by omega) j2)
  intro i j i1 i2 j1 j2
  unfold rot11
  by_cases x1 : s ≤ i ∧ i < s + (E - m)
  · rw [if_pos x1]
    by_cases y1 : s + (E - m) ≤ j ∧ j < E
    · rw [if_neg (by omega), if_pos y1]; exact RL _ _ (by omega) (by omega) (by omega) (by omega)
    · rw [if_neg (by omega), if_neg y1]; exact RR _ _ (by omega) (by omega) (by omega) j2
  · rw [if_neg x1, if_neg (by omega)]
    by_cases y1 : s + (E - m) ≤ j ∧ j < E
    · rw [if_neg (by omega), if_pos y1]; exact LL _ _ i1 (by omega) (by omega) (by omega)
    · rw [if_neg (by omega), if_neg y1]; exact LR _ _ i1 (by omega) (by omega) j2
/-- The two halves behind the rotation, each of two stretches. -/
theorem parts_left {key : Nat → Int} {d : Nat → Nat} {a m b s : Nat} (h1 : Sorted11 key d a m) (h2 : Sorted11 key d m b) (hc : Cross11 d a m b) (P : Parts11 key d a m b s) :
    Sorted11 key (rot11 d s m ((a + b) / 2 + m - s)) a s ∧ Sorted11 key (rot11 d s m ((a + b) / 2 + m - s)) s ((a + b) / 2) ∧ Cross11 (rot11 d s m ((a + b) / 2 + m - s)) a s ((a + b) / 2) := by
  obtain ⟨lo, mid, e1, e2, h0, -, -⟩ := P
  generalize hM : (a + b) / 2 = M at *
  generalize hE : M + m - s = E at *
  have hEM : s + (E - m) = M := by omega
  refine ⟨fun i j i1 i2 i3 => ?_, fun i j i1 i2 i3 => ?_, fun i j i1 i2 i3 i4 => ?_⟩
  · unfold rot11
    rw [if_neg (by omega), if_neg (by omega), if_neg (by omega), if_neg (by omega)]
    exact h1 i j i1 i2 (by omega)
  · unfold rot11
    rw [if_pos (by omega), if_pos (by omega)]
    exact h2 _ _ (by omega) (by omega) (by omega)
  · unfold rot11
    rw [if_neg (by omega), if_neg (by omega), if_pos (by omega)]
    exact hc _ _ i1 (by omega) (by omega) (by omega)
theorem parts_right {key : Nat → Int} {d : Nat → Nat} {a m b s : Nat} (h1 : Sorted11 key d a m) (h2 : Sorted11 key d m b) (hc : Cross11 d a m b) (P : Parts11 key d a m b s) :
    Sorted11 key (rot11 d s m ((a + b) / 2 + m - s)) ((a + b) / 2) ((a + b) / 2 + m - s) ∧ Sorted11 key (rot11 d s m ((a + b) / 2 + m - s)) ((a + b) / 2 + m - s) b ∧ Cross11 (rot11 d s m ((a + b) / 2 + m - s)) ((a + b) / 2) ((a + b) / 2 + m - s) b := by
  obtain ⟨lo, mid, e1, e2, h0, -, -⟩ := P
  generalize hM : (a + b) / 2 = M at *
  generalize hE : M + m - s = E at *
  have hEM : s + (E - m) = M := by omega
  refine ⟨fun i j i1 i2 i3 => ?_, fun i j i1 i2 i3 => ?_, fun i j i1 i2 i3 i4 => ?_⟩
  · unfold rot11
    rw [if_neg (by omega), if_pos (by omega), if_neg (by omega), if_pos (by omega)]
    exact h1 _ _ (by omega) (by omega) (by omega)
  · unfold rot11
    rw [if_neg (by omega), if_neg (by omega), if_neg (by omega), if_neg (by omega)]
    exact h2 i j (by omega) i2 (by omega)
  · unfold rot11
    rw [if_neg (by omega), if_pos (by omega), if_neg (by omega), if_neg (by omega)]
    exact hc _ _ (by omega) (by omega) (by omega) i4
/-- Two sorted halves, of which all of one comes ahead of all of the other. -/
theorem Sorted11.join {key : Nat → Int} {d : Nat → Nat} {a m b : Nat} (h1 : Sorted11 key d a m) (h2 : Sorted11 key d m b) (h : ∀ i j, a ≤ i → i < m → m ≤ j → j < b → Ahead key (d i) (d j)) : Sorted11 key d a b := by
  intro i j i1 i2 i3
  by_cases x : j < m
  · exact h1 i j i1 i2 x
  · by_cases y : i < m
    · exact h i j i1 y (by omega) i3
    · exact h2 i j (by omega) i2 i3
/-- What is merged within its half keeps what both halves say of each other. -/
theorem cross_inside {key : Nat → Int} {d d' d'' : Nat → Nat} {a m b : Nat} (h : ∀ i j, a ≤ i → i < m → m ≤ j → j < b → Ahead key (d i) (d j)) (k1 : Inside d d' a m) (k2 : Inside d' d'' m b) :
    ∀ i j, a ≤ i → i < m → m ≤ j → j < b → Ahead key (d'' i) (d'' j) := by
  intro i j i1 i2 j1 j2
  obtain ⟨x, x1, x2, ex⟩ := k1.1 i i1 i2
  obtain ⟨y, y1, y2, ey⟩ := k2.1 j j1 j2
  rw [k2.2 i (by omega), ex, ey, k1.2 y (by omega)]
  exact h x y x1 x2 y1 y2
theorem Sorted11.same {key : Nat → Int} {d d' : Nat → Nat} {a b : Nat} (h : Sorted11 key d a b) (e : ∀ k, a ≤ k → k < b → d' k = d k) : Sorted11 key d' a b := fun i j i1 i2 i3 => by
  rw [e i i1 (by omega), e j (by omega) i3]
  exact h i j i1 i2 i3
theorem Cross11.same {d d' : Nat → Nat} {a m b : Nat} (h : Cross11 d a m b) (e : ∀ k, a ≤ k → k < b → d' k = d k) : Cross11 d' a m b := fun i j i1 i2 i3 i4 => by
  rw [e i i1 (by omega), e j (by omega) i4]
  exact h i j i1 i2 i3 i4
/-- What is taken from where lower numbers stood has lower numbers. -/
theorem Cross11.inside {d d' : Nat → Nat} {a m b : Nat} (h : Cross11 d a m b) (k1 : ∀ i, a ≤ i → i < m → ∃ j, a ≤ j ∧ j < m ∧ d' i = d j) (k2 : ∀ i, m ≤ i → i < b → ∃ j, m ≤ j ∧ j < b ∧ d' i = d j) : Cross11 d' a m b := by
  intro i j i1 i2 j1 j2
  obtain ⟨x, x1, x2, ex⟩ := k1 i i1 i2
  obtain ⟨y, y1, y2, ey⟩ := k2 j j1 j2
  rw [ex, ey]
  exact h x y x1 x2 y1 y2

end Go.Proofs.YtifkmehnikfihaaGreat
/- A list that is not too large. -/
namespace Go.Proofs.YtifkmehnikfihaaGreat
open Go.RowKit

theorem sizeLeft_len {l : List Seg} (h : ¬ sizeLeft l < 0) : l.length ≤ 1048576 := by
  unfold sizeLeft at h
  by_cases h1 : 1048576 - (l.length : Int) < 0
  · rw [if_pos h1] at h; omega
  · omega

end Go.Proofs.YtifkmehnikfihaaGreat
/- The nodes of a tree in memory: what holds while they are made. -/
namespace Go.Proofs.YtifkmehnikfihaaGreat
open Go.RowKit

def upd {α : Type} (f : Nat → α) (k : Nat) (x : α) : Nat → α := fun j => if j = k then x else f j
theorem upd_same {α : Type} (f : Nat → α) (k : Nat) (x : α) : upd f k x k = x := if_pos rfl
theorem upd_ne {α : Type} (f : Nat → α) {k j : Nat} (x : α) (h : j ≠ k) : upd f k x j = f j := if_neg h

def kidsOf (l : List Seg) (i k : Nat) : List Nat := (List.range k).filter (fun j => decide (parAt l j = (i : Int)))
theorem kidsOf_succ (l : List Seg) (i k : Nat) : kidsOf l i (k + 1) = kidsOf l i k ++ if parAt l k = (i : Int) then [k] else [] := by
  unfold kidsOf
  rw [List.range_succ, List.filter_append]
  by_cases h : parAt l k = (i : Int) <;> simp [h]
theorem kidsOf_lt {l : List Seg} {i k j : Nat} (h : j ∈ kidsOf l i k) : j < k := by
  unfold kidsOf at h
  exact List.mem_range.1 (List.mem_filter.1 h).1
theorem kidsOf_par {l : List Seg} {i k j : Nat} (h : j ∈ kidsOf l i k) : parAt l j = (i : Int) := by
  unfold kidsOf at h
  simpa using (List.mem_filter.1 h).2
theorem kidsOf_none {l : List Seg} {i k : Nat} (hd : Down l k) (hk : k ≤ i) : kidsOf l i k = [] := by
  apply List.eq_nil_iff_forall_not_mem.2
  intro j hj
  have h1 := kidsOf_lt hj
  have h2 := kidsOf_par hj
  have h3 := hd j h1
  omega
theorem kidsOf_len (l : List Seg) (i k : Nat) : (kidsOf l i k).length ≤ k := by
  have := List.length_filter_le (fun j => decide (parAt l j = (i : Int))) (List.range k)
  simpa [kidsOf] using this

def nilKids : Value := .slice none 0 0
def parPtr (l : List Seg) (nb : Nat → Nat) (i : Nat) : Option Addr := if parAt l i < 0 then none else some ⟨nb (parAt l i).toNat, 0, none⟩
def ptrsOf (nb : Nat → Nat) (ks : List Nat) : List Value := ks.map fun j => ptrTo (nb j)
theorem ptrsOf_upd {nb : Nat → Nat} {k x : Nat} {ks : List Nat} (h : ∀ j ∈ ks, j ≠ k) : ptrsOf (upd nb k x) ks = ptrsOf nb ks :=
  List.map_congr_left fun j hj => by rw [upd_ne nb x (h j hj)]

/-- 'm' nodes are made, 'k' of them have been adopted (or are the root). -/
structure Nodes (w : World) (B g m k : Nat) (l : List Seg) (nb : Nat → Nat) (cv : Nat → Value) : Prop where
  row : ∃ cs, Row w g 87 cs ∧ cs.size = l.length ∧ ∀ i, i < m → cs[i]? = some (ptrTo (nb i))
  node : ∀ i s, i < k → l[i]? = some s → Row w (nb i) 173 (nodeCells s.name s.size (parPtr l nb i) (cv i))
  fresh : ∀ i s, k ≤ i → i < m → l[i]? = some s → Row w (nb i) 173 (nodeCells s.name s.size none nilKids)
  kids : ∀ i, i < k → w.ownsRow B 87 1 (cv i) (kidsOf l i k).length (ptrsOf nb (kidsOf l i k))
  apart : ∀ i j, i < m → j < m → i ≠ j → nb i ≠ nb j
  apartC : ∀ i j, i < k → j < k → i ≠ j → (cv i).ownBlock = none ∨ (cv i).ownBlock ≠ (cv j).ownBlock
  notg : ∀ i, i < k → (cv i).ownBlock ≠ some g
  low : B ≤ g ∧ ∀ i, i < m → B ≤ nb i

theorem parPtr_upd {l : List Seg} {nb : Nat → Nat} {i k x : Nat} (hd : Down l k) (hi : i < k) : parPtr l (upd nb k x) i = parPtr l nb i := by
  unfold parPtr
  have := hd i hi
  by_cases h : parAt l i < 0
  · rw [if_pos h, if_pos h]
  · rw [if_neg h, if_neg h, upd_ne nb x (by omega)]

/-- A node more is made and stored. -/
theorem Nodes.made {w : World} {B g k : Nat} {l : List Seg} {nb : Nat → Nat} {cv : Nat → Value} (h : Nodes w B g k k l nb cv) (hd : Down l k) {s : Seg} (hk : k < l.length) (hs : l[k]? = some s) (hB : B ≤ w.heap.size) (o : Obj) :
    Nodes (((w.alloc o).alloc (.cells (nodeCells s.name s.size none nilKids) 173)).setCell ⟨g, k, none⟩ (ptrTo (w.heap.size + 1))) B g (k + 1) k l (upd nb k (w.heap.size + 1)) cv := by
  have hz : (w.alloc o).heap.size = w.heap.size + 1 := by simp
  have hnew : Row ((w.alloc o).alloc (.cells (nodeCells s.name s.size none nilKids) 173)) (w.heap.size + 1) 173 (nodeCells s.name s.size none nilKids) := by
    have := Row.new (w.alloc o) 173 (nodeCells s.name s.size none nilKids)
    rw [hz] at this
    exact this
  obtain ⟨cs, hg, hcs, hci⟩ := h.row
  have hgl := hg.lt
  have hg2 : Row ((w.alloc o).alloc (.cells (nodeCells s.name s.size none nilKids) 173)) g 87 cs := (hg.alloc o).alloc _
  have hold : ∀ i t, i < k → l[i]? = some t → nb i ≠ g := fun i t hi ht he => by
    have h1 := h.node i t hi ht
    unfold Row at h1 hg
    rw [he, hg] at h1
    injection h1 with h1
    injection h1 with _ h2
    exact absurd h2 (by decide)
  have hlt : ∀ i, i < k → nb i < w.heap.size := fun i hi => (h.node i l[i] hi (List.getElem?_eq_getElem (by omega))).lt
  refine ⟨⟨_, hg2.put k _, by simpa using hcs, fun i hi => ?_⟩, fun i t hi ht => ?_, fun i t hi hi2 ht => ?_, fun i hi => ?_, fun i j hi hj hne => ?_, h.apartC, h.notg, h.low.1, fun i hi => ?_⟩
  · rcases Nat.lt_or_ge i k with hlt' | hge
    · rw [Array.getElem?_setIfInBounds_ne (by omega), hci i hlt', upd_ne nb _ (by omega)]
    · obtain rfl : i = k := by omega
      rw [Array.getElem?_setIfInBounds_self_of_lt (by omega), upd_same]
  · rw [parPtr_upd hd hi, upd_ne nb _ (by omega)]
    exact (((h.node i t hi ht).alloc o).alloc _).far (hold i t hi ht) _
  · obtain rfl : i = k := by omega
    rw [hs] at ht
    injection ht with ht
    subst ht
    rw [upd_same]
    exact hnew.far (p := ⟨g, i, none⟩) (show w.heap.size + 1 ≠ g by omega) _
  · rw [ptrsOf_upd fun j hj => by have := kidsOf_lt hj; omega]
    have h1 := ((h.kids i hi).alloc o).alloc (.cells (nodeCells s.name s.size none nilKids) 173)
    exact own_keep h1 fun b hb => Below.heap_setCell _ _ _ _ (fun he => h.notg i hi (by rw [hb, he]))
  · rcases Nat.lt_or_ge i k with h1 | h1 <;> rcases Nat.lt_or_ge j k with h2 | h2
    · rw [upd_ne nb _ (by omega), upd_ne nb _ (by omega)]
      exact h.apart i j h1 h2 hne
    · obtain rfl : j = k := by omega
      rw [upd_ne nb _ (by omega), upd_same]
      have := hlt i h1
      omega
    · obtain rfl : i = k := by omega
      rw [upd_same, upd_ne nb _ (by omega)]
      have := hlt j h2
      omega
    · omega
  · rcases Nat.lt_or_ge i k with h1 | h1
    · rw [upd_ne nb _ (by omega)]
      exact h.low.2 i h1
    · obtain rfl : i = k := by omega
      rw [upd_same]
      omega

theorem own_nil (w : World) (B : Nat) : w.ownsRow B 87 1 nilKids 0 [] := World.ownsRow_nil w B _ 1

/-- The root is adopted by none. -/
theorem Nodes.root {w : World} {B g k : Nat} {l : List Seg} {nb : Nat → Nat} {cv : Nat → Value} (h : Nodes w B g (k + 1) k l nb cv) (hd : Down l (k + 1)) (hk : k < l.length) (hp : parAt l k < 0) :
    Nodes w B g (k + 1) (k + 1) l nb (upd cv k nilKids) := by
  have hkids : ∀ i, i < k → kidsOf l i (k + 1) = kidsOf l i k := fun i _ => by rw [kidsOf_succ, if_neg (by omega), List.append_nil]
  refine ⟨h.row, fun i t hi ht => ?_, fun i t hi hi2 ht => absurd hi (by omega), fun i hi => ?_, h.apart, fun i j hi hj hne => ?_, fun i hi => ?_, h.low⟩
  · rcases Nat.lt_or_ge i k with h1 | h1
    · rw [upd_ne cv _ (by omega)]
      exact h.node i t h1 ht
    · obtain rfl : i = k := by omega
      rw [upd_same]
      have := h.fresh i t (Nat.le_refl _) (by omega) ht
      unfold parPtr
      rw [if_pos hp]
      exact this
  · rcases Nat.lt_or_ge i k with h1 | h1
    · rw [upd_ne cv _ (by omega), hkids i h1]
      exact h.kids i h1
    · obtain rfl : i = k := by omega
      rw [upd_same, kidsOf_succ, if_neg (by omega), List.append_nil, kidsOf_none (hd.mono (by omega)) (Nat.le_refl _)]
      exact own_nil w B
  · rcases Nat.lt_or_ge i k with h1 | h1
    · rcases Nat.lt_or_ge j k with h2 | h2
      · rw [upd_ne cv _ (by omega), upd_ne cv _ (by omega)]
        exact h.apartC i j h1 h2 hne
      · obtain rfl : j = k := by omega
        rw [upd_ne cv _ (by omega), upd_same]
        cases hb : (cv i).ownBlock with
        | none => exact .inl rfl
        | some b => exact .inr (by simp [nilKids, Value.ownBlock])
    · obtain rfl : i = k := by omega
      rw [upd_same]
      exact .inl rfl
  · rcases Nat.lt_or_ge i k with h1 | h1
    · rw [upd_ne cv _ (by omega)]
      exact h.notg i h1
    · obtain rfl : i = k := by omega
      rw [upd_same]
      simp [nilKids, Value.ownBlock]

/-- The new node is adopted by its parent. -/
theorem Nodes.child {w w' : World} {B g k p : Nat} {l : List Seg} {nb : Nat → Nat} {cv : Nat → Value} {s sp : Seg} {e : Ending} (h : Nodes w B g (k + 1) k l nb cv) (hd : Down l (k + 1)) (hk : k < l.length) (hs : l[k]? = some s) (hsp : l[p]? = some sp)
    (hp : parAt l k = (p : Int)) (hpk : p < k)
    (ha : Adopted w B (nb p) (nb k) (kidsOf l p k).length s.name sp.name s.size sp.size (parPtr l nb p) nilKids (cv p) (ptrsOf nb (kidsOf l p k)) e w') :
    ∃ v', Nodes w' B g (k + 1) (k + 1) l nb (upd (upd cv k nilKids) p v') := by
  obtain ⟨_, v', hc, hpr, hown, hat, honly⟩ := ha
  refine ⟨v', ?_⟩
  have hr := h.root
  have hkidsP : kidsOf l p (k + 1) = kidsOf l p k ++ [k] := by rw [kidsOf_succ, if_pos hp]
  have hkids : ∀ i, i ≠ p → kidsOf l i (k + 1) = kidsOf l i k := fun i hi => by rw [kidsOf_succ, if_neg (by omega), List.append_nil]
  obtain ⟨cs, hg, hcs, hci⟩ := h.row
  have hnode : ∀ i, i < k + 1 → ∃ c, Row w (nb i) 173 c := fun i hi => by
    rcases Nat.lt_or_ge i k with h1 | h1
    · exact ⟨_, h.node i _ h1 (List.getElem?_eq_getElem (by omega))⟩
    · exact ⟨_, h.fresh i _ h1 hi (List.getElem?_eq_getElem (by omega))⟩
  have hgn : ∀ i, i < k + 1 → g ≠ nb i := fun i hi he => by
    obtain ⟨c, h1⟩ := hnode i hi
    unfold Row at h1 hg
    rw [← he, hg] at h1
    injection h1 with h1
    injection h1 with _ h2
    exact absurd h2 (by decide)
  have hcvn : ∀ i j, i < k → j < k + 1 → (cv i).ownBlock ≠ some (nb j) := fun i j hi hj => by
    obtain ⟨c, h1⟩ := hnode j hj
    exact own_ne (h.kids i hi) h1 (by decide)
  have hgmay : ¬ (g = nb p ∨ g = nb k ∨ some g = (cv p).ownBlock) := by
    rintro (he | he | he)
    · exact hgn p (by omega) he
    · exact hgn k (by omega) he
    · exact h.notg p hpk he.symm
  have hlts : ∀ i, i < k → ∀ b, (cv i).ownBlock = some b → b < w.heap.size := fun i hi b hb => ((h.kids i hi).lt b hb).2
  refine ⟨⟨cs, honly.row hg hgmay, hcs, hci⟩, fun i t hi ht => ?_, fun i t hi hi2 ht => absurd hi (by omega), fun i hi => ?_, h.apart, ?_, fun i hi => ?_, h.low⟩
  · rcases Nat.lt_or_ge i k with h1 | h1
    · by_cases hip : i = p
      · subst hip
        rw [hsp] at ht
        injection ht with ht
        subst ht
        rw [upd_same]
        exact hpr
      · rw [upd_ne _ _ hip, upd_ne _ _ (by omega)]
        refine honly.row (h.node i t h1 ht) ?_
        rintro (he | he | he)
        · exact h.apart i p (by omega) (by omega) hip he
        · exact h.apart i k (by omega) (by omega) (by omega) he
        · exact hcvn p i hpk hi he.symm
    · obtain rfl : i = k := by omega
      rw [upd_ne _ _ (by omega), upd_same]
      rw [hs] at ht
      injection ht with ht
      subst ht
      unfold parPtr
      rw [if_neg (by omega), hp, Int.toNat_natCast]
      exact hc
  · by_cases hip : i = p
    · subst hip
      rw [upd_same, hkidsP, List.length_append]
      have : ptrsOf nb (kidsOf l i k ++ [k]) = ptrsOf nb (kidsOf l i k) ++ [ptrTo (nb k)] := by simp [ptrsOf]
      rw [this]
      exact hown
    · rw [upd_ne _ _ hip, hkids i hip]
      rcases Nat.lt_or_ge i k with h1 | h1
      · rw [upd_ne _ _ (by omega)]
        refine own_keep (h.kids i h1) fun b hb => honly.block b (hlts i h1 b hb) ?_
        rintro (he | he | he)
        · exact hcvn i p h1 (by omega) (by rw [hb, he])
        · exact hcvn i k h1 (by omega) (by rw [hb, he])
        · rcases h.apartC i p h1 hpk hip with h2 | h2
          · rw [hb] at h2; cases h2
          · exact h2 (by rw [hb, he])
      · obtain rfl : i = k := by omega
        rw [upd_same, kidsOf_none (hd.mono (by omega)) (Nat.le_refl _)]
        exact own_nil w' B
  · have hv : ∀ j, j < k → j ≠ p → v'.ownBlock = none ∨ v'.ownBlock ≠ (cv j).ownBlock := fun j hj hjp => by
      rcases hat with h1 | ⟨b, h1, h2⟩
      · rw [h1]
        exact h.apartC p j hpk hj (Ne.symm hjp)
      · right
        rw [h1]
        intro he
        have := hlts j hj b he.symm
        omega
    intro i j hi hj hne
    by_cases hip : i = p
    · subst hip
      rw [upd_same, upd_ne _ _ (Ne.symm hne)]
      rcases Nat.lt_or_ge j k with h2 | h2
      · rw [upd_ne _ _ (by omega)]
        exact hv j h2 (Ne.symm hne)
      · obtain rfl : j = k := by omega
        rw [upd_same]
        cases hb : v'.ownBlock with
        | none => exact .inl rfl
        | some b => exact .inr (by simp [nilKids, Value.ownBlock])
    · rw [upd_ne _ _ hip]
      rcases Nat.lt_or_ge i k with h1 | h1
      · rw [upd_ne _ _ (by omega)]
        by_cases hjp : j = p
        · subst hjp
          rw [upd_same]
          rcases hv i h1 hip with h2 | h2
          · rw [h2]
            cases (cv i).ownBlock with
            | none => exact .inl rfl
            | some b => exact .inr (by simp)
          · exact .inr (Ne.symm h2)
        · rw [upd_ne _ _ hjp]
          rcases Nat.lt_or_ge j k with h2 | h2
          · rw [upd_ne _ _ (by omega)]
            exact h.apartC i j h1 h2 hne
          · obtain rfl : j = k := by omega
            rw [upd_same]
            cases hb : (cv i).ownBlock with
            | none => exact .inl rfl
            | some b => exact .inr (by simp [nilKids, Value.ownBlock])
      · obtain rfl : i = k := by omega
        rw [upd_same]
        exact .inl rfl
  · by_cases hip : i = p
    · subst hip
      rw [upd_same]
      rcases hat with h1 | ⟨b, h1, h2⟩
      · rw [h1]
        exact h.notg i hpk
      · rw [h1]
        intro he
        injection he with he
        have := hg.lt
        omega
    · rw [upd_ne _ _ hip]
      rcases Nat.lt_or_ge i k with h1 | h1
      · rw [upd_ne _ _ (by omega)]
        exact h.notg i h1
      · obtain rfl : i = k := by omega
        rw [upd_same]
        simp [nilKids, Value.ownBlock]

end Go.Proofs.YtifkmehnikfihaaGreat
