/- Joined: Bh Ge Qd Gh Bj Gf Gj Gk Gl Gm Gn. -/
import Derived.Test.YtbmfbnlmdjnddaaU26
import Derived.Test.YtbmfbnlmdjnddaaU30
import Derived.Test.YtbmfbnlmdjnddaaU02
import Derived.Laws.Rows
import Derived.Test.YtbmfbnlmdjnddaaU25
import Derived.RangeFuncWrites
import Derived.Test.YtbmfbnlmdjnddaaU05
import Derived.IntWalk
import Derived.Test.YtbmfbnlmdjnddaaU10
import Derived.Maps.AppendAt
import Derived.Deep.AppendLies
/- Sets of segments as bits, and chains that lie together: plain. -/
namespace Go.Proofs.Ytbmfbnlmdjnddaa
open Go.RowKit

/-- A set of eight as bits. -/
def setF (f : Nat → Bool) : Nat := (f 0).toNat + 2 * (f 1).toNat + 4 * (f 2).toNat + 8 * (f 3).toNat + 16 * (f 4).toNat + 32 * (f 5).toNat + 64 * (f 6).toNat + 128 * (f 7).toNat
theorem setF_lt (f : Nat → Bool) : setF f < 256 := by
  unfold setF
  have h : ∀ b : Bool, b.toNat ≤ 1 := fun b => by cases b <;> decide
  have := h (f 0); have := h (f 1); have := h (f 2); have := h (f 3); have := h (f 4); have := h (f 5); have := h (f 6); have := h (f 7)
  omega
theorem set_brute : ∀ b0 b1 b2 b3 b4 b5 b6 b7 : Bool,
    (b0.toNat + 2 * b1.toNat + 4 * b2.toNat + 8 * b3.toNat + 16 * b4.toNat + 32 * b5.toNat + 64 * b6.toNat + 128 * b7.toNat).testBit 0 = b0 ∧
    (b0.toNat + 2 * b1.toNat + 4 * b2.toNat + 8 * b3.toNat + 16 * b4.toNat + 32 * b5.toNat + 64 * b6.toNat + 128 * b7.toNat).testBit 1 = b1 ∧
    (b0.toNat + 2 * b1.toNat + 4 * b2.toNat + 8 * b3.toNat + 16 * b4.toNat + 32 * b5.toNat + 64 * b6.toNat + 128 * b7.toNat).testBit 2 = b2 ∧
    (b0.toNat + 2 * b1.toNat + 4 * b2.toNat + 8 * b3.toNat + 16 * b4.toNat + 32 * b5.toNat + 64 * b6.toNat + 128 * b7.toNat).testBit 3 = b3 ∧
    (b0.toNat + 2 * b1.toNat + 4 * b2.toNat + 8 * b3.toNat + 16 * b4.toNat + 32 * b5.toNat + 64 * b6.toNat + 128 * b7.toNat).testBit 4 = b4 ∧
    (b0.toNat + 2 * b1.toNat + 4 * b2.toNat + 8 * b3.toNat + 16 * b4.toNat + 32 * b5.toNat + 64 * b6.toNat + 128 * b7.toNat).testBit 5 = b5 ∧
    (b0.toNat + 2 * b1.toNat + 4 * b2.toNat + 8 * b3.toNat + 16 * b4.toNat + 32 * b5.toNat + 64 * b6.toNat + 128 * b7.toNat).testBit 6 = b6 ∧
    (b0.toNat + 2 * b1.toNat + 4 * b2.toNat + 8 * b3.toNat + 16 * b4.toNat + 32 * b5.toNat + 64 * b6.toNat + 128 * b7.toNat).testBit 7 = b7 := by
  decide +kernel
theorem setF_bit (f : Nat → Bool) (i : Nat) : (setF f).testBit i = (decide (i < 8) && f i) := by
  by_cases hi : i < 8
  · rw [decide_eq_true hi, Bool.true_and]
    obtain ⟨h0, h1, h2, h3, h4, h5, h6, h7⟩ := set_brute (f 0) (f 1) (f 2) (f 3) (f 4) (f 5) (f 6) (f 7)
    unfold setF
    have : i = 0 ∨ i = 1 ∨ i = 2 ∨ i = 3 ∨ i = 4 ∨ i = 5 ∨ i = 6 ∨ i = 7 := by omega
    rcases this with rfl | rfl | rfl | rfl | rfl | rfl | rfl | rfl <;> assumption
  · rw [decide_eq_false hi, Bool.false_and]
    exact Nat.testBit_lt_two_pow (Nat.lt_of_lt_of_le (setF_lt f) (Nat.pow_le_pow_right (n := 2) (by decide) (by omega : 8 ≤ i)))
theorem setF_none : setF (fun _ => false) = 0 := rfl
theorem setF_congr {f g : Nat → Bool} (h : ∀ i, i < 8 → f i = g i) : setF f = setF g := by
  unfold setF
  rw [h 0 (by decide), h 1 (by decide), h 2 (by decide), h 3 (by decide), h 4 (by decide), h 5 (by decide), h 6 (by decide), h 7 (by decide)]
theorem setF_with (f : Nat → Bool) {i : Nat} (hi : i < 8) : setF f ||| 2 ^ i = setF (fun j => f j || decide (j = i)) := by
  apply Nat.eq_of_testBit_eq
  intro j
  rw [Nat.testBit_or, setF_bit, setF_bit, Nat.testBit_two_pow]
  by_cases hj : j < 8
  · rw [decide_eq_true hj, Bool.true_and, Bool.true_and]
    congr 1
    exact decide_eq_decide.2 ⟨fun h => h.symm, fun h => h.symm⟩
  · rw [decide_eq_false hj, Bool.false_and, Bool.false_and, Bool.false_or]
    exact decide_eq_false (by omega)
theorem setF_joined (f g : Nat → Bool) : setF f ||| setF g = setF (fun j => f j || g j) := by
  apply Nat.eq_of_testBit_eq
  intro j
  rw [Nat.testBit_or, setF_bit, setF_bit, setF_bit]
  cases decide (j < 8) <;> simp
theorem setF_and (f : Nat → Bool) {i : Nat} (hi : i < 8) : setF f &&& 2 ^ i = if f i = true then 2 ^ i else 0 := by
  apply Nat.eq_of_testBit_eq
  intro j
  rw [Nat.testBit_and, setF_bit, Nat.testBit_two_pow]
  by_cases hj : i = j
  · subst hj
    rw [decide_eq_true hi, decide_eq_true rfl, Bool.true_and, Bool.and_true]
    cases f i with
    | false => simp
    | true => rw [if_pos rfl, Nat.testBit_two_pow, decide_eq_true rfl]
  · rw [decide_eq_false hj, Bool.and_false]
    cases f i with
    | false => simp
    | true => rw [if_pos rfl, Nat.testBit_two_pow, decide_eq_false hj]
theorem setF_has (f : Nat → Bool) {i : Nat} (hi : i < 8) : (setF f &&& 2 ^ i != 0) = f i := by
  rw [setF_and f hi]
  have hp : 0 < 2 ^ i := Nat.pow_pos (by decide)
  cases f i with
  | false => simp
  | true =>
    rw [if_pos rfl, bne_iff_ne]
    omega

/-- Whether two segments lie together, by their indices. -/
def lieIx (l : List Seg) (a b : Nat) : Bool := decide (a ∈ rp l b) || decide (b ∈ rp l a)
theorem lieIx_comm (l : List Seg) (a b : Nat) : lieIx l a b = lieIx l b a := Bool.or_comm _ _
theorem lieIx_self (l : List Seg) (a : Nat) : lieIx l a a = true := by
  have : a ∈ rp l a := List.mem_append.2 (.inr (List.mem_singleton.2 rfl))
  unfold lieIx
  rw [decide_eq_true this]
  rfl
theorem kindIx_side (l : List Seg) (a b : Nat) : decide (kindIx l a b = 2) = !lieIx l a b := by
  unfold kindIx lieIx
  by_cases h1 : b ∈ rp l a
  · rw [if_pos h1]; simp [h1]
  · rw [if_neg h1]
    by_cases h2 : a ∈ rp l b
    · rw [if_pos h2]; simp [h2]
    · rw [if_neg h2]; simp [h1, h2]
theorem lieB_bytes {l : List Seg} (hv : validB l = true) {u v : UInt8} : lieB l ⟨#[u]⟩ ⟨#[v]⟩ = (decide (0 ≤ bSeek l u) && decide (0 ≤ bSeek l v) && lieIx l (bSeek l u).toNat (bSeek l v).toNat) := by
  have h1 : indexB l ⟨#[u]⟩ = bSeek l u := if_pos hv
  have h2 : indexB l ⟨#[v]⟩ = bSeek l v := if_pos hv
  unfold lieB comOk hasSeg pathIx lieIx
  rw [h1, h2]
theorem lieB_bad {l : List Seg} (hv : validB l = false) (s t : ByteArray) : lieB l s t = false := by
  have h1 : indexB l s = -1 := if_neg (by rw [hv]; decide)
  unfold lieB comOk hasSeg
  rw [h1]
  rfl
/-- Whether the segments that a text names lie together, as the reference asks. -/
def liesTo (l : List Seg) (s : ByteArray) (i n : Nat) : Bool := (List.range n).all fun k => lieB l (s.extract k (k + 1)) (s.extract i (i + 1))
def liesUp (l : List Seg) (s : ByteArray) (n : Nat) : Bool := (List.range n).all fun i => liesTo l s i (i + 1)
def liesB (l : List Seg) (s : ByteArray) : Bool := liesUp l s s.size && validB l
theorem liesTo_succ (l : List Seg) (s : ByteArray) (i n : Nat) : liesTo l s i (n + 1) = (liesTo l s i n && lieB l (s.extract n (n + 1)) (s.extract i (i + 1))) := by
  unfold liesTo
  rw [List.range_succ, List.all_append]
  simp
theorem liesUp_succ (l : List Seg) (s : ByteArray) (n : Nat) : liesUp l s (n + 1) = (liesUp l s n && liesTo l s n (n + 1)) := by
  unfold liesUp
  rw [List.range_succ, List.all_append]
  simp
theorem all_range {n : Nat} {p : Nat → Bool} : (List.range n).all p = true ↔ ∀ i, i < n → p i = true := by
  rw [List.all_eq_true]
  exact ⟨fun h i hi => h i (List.mem_range.2 hi), fun h i hi => h i (List.mem_range.1 hi)⟩
theorem liesTo_false {l : List Seg} {s : ByteArray} {i n k : Nat} (hk : k < n) (h : lieB l (s.extract k (k + 1)) (s.extract i (i + 1)) = false) : liesTo l s i n = false := by
  rw [Bool.eq_false_iff]
  intro h'
  rw [all_range.1 h' k hk] at h
  cases h
theorem liesB_false {l : List Seg} {s : ByteArray} {i : Nat} (hi : i < s.size) (h : liesTo l s i (i + 1) = false) : liesB l s = false := by
  rw [Bool.eq_false_iff]
  intro h'
  unfold liesB at h'
  rw [Bool.and_eq_true] at h'
  rw [all_range.1 h'.1 i hi] at h
  cases h
/-- Whether the segments of a set lie together. -/
def togeB (l : List Seg) (f : Nat → Bool) : Bool := (List.range l.length).all fun i => (List.range i).all fun j => !(f i && f j && decide (kindIx l i j = 2))
theorem liesB_bad {l : List Seg} (hv : validB l = false) (s : ByteArray) : liesB l s = false := by
  unfold liesB
  rw [hv, Bool.and_false]
theorem liesB_unnamed {l : List Seg} (hv : validB l = true) {s : ByteArray} (h : namedOk l s.data.toList = false) : liesB l s = false := by
  unfold namedOk at h
  rw [List.all_eq_false] at h
  obtain ⟨b, hb, hn⟩ := h
  obtain ⟨i, hi, he⟩ := List.getElem_of_mem hb
  have hi' : i < s.size := by simpa using hi
  refine liesB_false hi' (liesTo_false (Nat.lt_succ_self i) ?_)
  rw [one_byte s hi', show s[i] = b from he, lieB_bytes hv, Bool.eq_false_iff.2 hn]
  rfl
theorem liesB_named {l : List Seg} (hv : validB l = true) {s : ByteArray} (h : namedOk l s.data.toList = true) : liesB l s = togeB l (fun i => decide (i ∈ namedJs l s.data.toList)) := by
  have hnm : ∀ k (hk : k < s.size), 0 ≤ bSeek l s[k] := fun k hk => by
    have := List.all_eq_true.1 h s[k] (List.getElem_mem (l := s.data.toList) (by simpa using hk))
    exact of_decide_eq_true this
  have hlie : ∀ i k (hi : i < s.size) (hk : k < s.size), lieB l (s.extract k (k + 1)) (s.extract i (i + 1)) = lieIx l (bSeek l s[k]).toNat (bSeek l s[i]).toNat := fun i k hi hk => by
    rw [one_byte s hi, one_byte s hk, lieB_bytes hv, decide_eq_true (hnm k hk), decide_eq_true (hnm i hi)]
    rfl
  rw [Bool.eq_iff_iff]
  unfold liesB
  rw [hv, Bool.and_true]
  unfold liesUp togeB
  rw [all_range, all_range]
  constructor
  · intro H i hi
    rw [all_range]
    intro j hj
    show (!(decide (i ∈ namedJs l s.data.toList) && decide (j ∈ namedJs l s.data.toList) && decide (kindIx l i j = 2))) = true
    cases h1 : decide (i ∈ namedJs l s.data.toList) with
    | false => rfl
    | true =>
      cases h2 : decide (j ∈ namedJs l s.data.toList) with
      | false => rfl
      | true =>
        obtain ⟨u, hu, he⟩ := List.mem_map.1 (of_decide_eq_true h1)
        obtain ⟨v, hv', he'⟩ := List.mem_map.1 (of_decide_eq_true h2)
        obtain ⟨p, hp, hpe⟩ := List.getElem_of_mem hu
        obtain ⟨q, hq, hqe⟩ := List.getElem_of_mem hv'
        have hp' : p < s.size := by simpa using hp
        have hq' : q < s.size := by simpa using hq
        have key : lieIx l i j = true := by
          rcases Nat.le_total q p with hle | hle
          · have := all_range.1 (H p hp') q (by omega)
            rw [hlie p q hp' hq', show s[q] = v from hqe, show s[p] = u from hpe, he, he'] at this
            rw [lieIx_comm]; exact this
          · have := all_range.1 (H q hq') p (by omega)
            rw [hlie q p hq' hp', show s[q] = v from hqe, show s[p] = u from hpe, he, he'] at this
            exact this
        rw [kindIx_side, key]
        rfl
  · intro H i hi
    unfold liesTo
    rw [all_range]
    intro k hk
    have hk' : k < s.size := by omega
    rw [hlie i k hi hk']
    have m1 : (bSeek l s[i]).toNat ∈ namedJs l s.data.toList := List.mem_map.2 ⟨s[i], List.getElem_mem (l := s.data.toList) (by simpa using hi), rfl⟩
    have m2 : (bSeek l s[k]).toNat ∈ namedJs l s.data.toList := List.mem_map.2 ⟨s[k], List.getElem_mem (l := s.data.toList) (by simpa using hk'), rfl⟩
    have l1 := namedJs_lt h _ m1
    have l2 := namedJs_lt h _ m2
    generalize (bSeek l s[i]).toNat = a at *
    generalize (bSeek l s[k]).toNat = b at *
    rcases Nat.lt_trichotomy a b with hab | hab | hab
    · have := all_range.1 (H b l2) a hab
      dsimp only at this
      rw [decide_eq_true m1, decide_eq_true m2, kindIx_side] at this
      simpa using this
    · rw [hab]; exact lieIx_self l b
    · have := all_range.1 (H a l1) b hab
      dsimp only at this
      rw [decide_eq_true m1, decide_eq_true m2, kindIx_side] at this
      rw [lieIx_comm]
      simpa using this

end Go.Proofs.Ytbmfbnlmdjnddaa
/- A state as an array of eight truths: what is in one and not in another. -/
namespace Go.Proofs.Ytbmfbnlmdjnddaa
open Go.RowKit

def bitCells (f : Nat → Bool) : Array Value := #[.bool (f 0), .bool (f 1), .bool (f 2), .bool (f 3), .bool (f 4), .bool (f 5), .bool (f 6), .bool (f 7)]
def bitsV (f : Nat → Bool) : Value := .agg (bitCells f)
theorem bits_at (f : Nat → Bool) {k : Nat} (h : k < 8) : (bitCells f)[k]? = some (.bool (f k)) := by
  match k, h with
  | 0, _ => rfl
  | 1, _ => rfl
  | 2, _ => rfl
  | 3, _ => rfl
  | 4, _ => rfl
  | 5, _ => rfl
  | 6, _ => rfl
  | 7, _ => rfl
theorem bits_set (f : Nat → Bool) {k : Nat} (h : k < 8) (b : Bool) : (bitCells f).setIfInBounds k (.bool b) = bitCells (fun j => if j = k then b else f j) := by
  match k, h with
  | 0, _ => rfl
  | 1, _ => rfl
  | 2, _ => rfl
  | 3, _ => rfl
  | 4, _ => rfl
  | 5, _ => rfl
  | 6, _ => rfl
  | 7, _ => rfl
theorem bits_congr {f g : Nat → Bool} (h : ∀ j, j < 8 → f j = g j) : bitCells f = bitCells g := by
  unfold bitCells
  rw [h 0 (by decide), h 1 (by decide), h 2 (by decide), h 3 (by decide), h 4 (by decide), h 5 (by decide), h 6 (by decide), h 7 (by decide)]
/-- What is left after the first 'k' have been gone over. -/
def lessTo (f g : Nat → Bool) (k j : Nat) : Bool := if j < k then f j && !g j else f j
theorem lessTo_step (f g : Nat → Bool) {k : Nat} (h : k < 8) (b : Bool) (hb : b = (f k && !g k)) : (bitCells (lessTo f g k)).setIfInBounds k (.bool b) = bitCells (lessTo f g (k + 1)) := by
  rw [bits_set _ h]
  apply bits_congr
  intro j hj
  unfold lessTo
  by_cases h1 : j = k
  · subst h1
    rw [if_pos rfl, if_pos (by omega), hb]
  · rw [if_neg h1]
    by_cases h2 : j < k
    · rw [if_pos h2, if_pos (by omega)]
    · rw [if_neg h2, if_neg (by omega)]
theorem bits_cells {t : TypeId} {w : World} {b : Nat} {f : Nat → Bool} (h : Row w b t (bitCells f)) : (w.cell? ⟨b, 0, none⟩ = some (.bool (f 0)) ∧ w.cell? ⟨b, 1, none⟩ = some (.bool (f 1)) ∧ w.cell? ⟨b, 2, none⟩ = some (.bool (f 2)) ∧ w.cell? ⟨b, 3, none⟩ = some (.bool (f 3))) ∧
    (w.cell? ⟨b, 4, none⟩ = some (.bool (f 4)) ∧ w.cell? ⟨b, 5, none⟩ = some (.bool (f 5)) ∧ w.cell? ⟨b, 6, none⟩ = some (.bool (f 6)) ∧ w.cell? ⟨b, 7, none⟩ = some (.bool (f 7))) :=
  ⟨⟨h.cell 0, h.cell 1, h.cell 2, h.cell 3⟩, h.cell 4, h.cell 5, h.cell 6, h.cell 7⟩
/-- The world behind a store of a whole state. -/
def putBits (w : World) (b : Nat) (f : Nat → Bool) : World :=
  (((((((w.setCell ⟨b, 0, none⟩ (.bool (f 0))).setCell ⟨b, 1, none⟩ (.bool (f 1))).setCell ⟨b, 2, none⟩ (.bool (f 2))).setCell ⟨b, 3, none⟩ (.bool (f 3))).setCell ⟨b, 4, none⟩ (.bool (f 4))).setCell ⟨b, 5, none⟩ (.bool (f 5))).setCell ⟨b, 6, none⟩ (.bool (f 6))).setCell ⟨b, 7, none⟩ (.bool (f 7))
def upTo (f g : Nat → Bool) (k j : Nat) : Bool := if j < k then f j else g j
theorem upTo_step {t : TypeId} {w : World} {b k : Nat} {f g : Nat → Bool} (h : Row w b t (bitCells (upTo f g k))) (hk : k < 8) : Row (w.setCell ⟨b, k, none⟩ (.bool (f k))) b t (bitCells (upTo f g (k + 1))) := by
  have h1 := h.put k (.bool (f k))
  rw [bits_set _ hk] at h1
  rw [bits_congr (f := upTo f g (k + 1)) (g := fun j => if j = k then f k else upTo f g k j)]
  · exact h1
  · intro j _
    unfold upTo
    by_cases e : j = k
    · subst e
      rw [if_pos (by omega), if_pos rfl]
    · rw [if_neg e]
      by_cases e2 : j < k
      · rw [if_pos e2, if_pos (by omega)]
      · rw [if_neg e2, if_neg (by omega)]
theorem putBits_row {t : TypeId} {w : World} {b : Nat} {f g : Nat → Bool} (h : Row w b t (bitCells g)) : Row (putBits w b f) b t (bitCells f) := by
  have h0 : Row w b t (bitCells (upTo f g 0)) := h
  have h8 := upTo_step (upTo_step (upTo_step (upTo_step (upTo_step (upTo_step (upTo_step (upTo_step h0 (by decide)) (by decide)) (by decide)) (by decide)) (by decide)) (by decide)) (by decide)) (by decide)
  rw [bits_congr (f := f) (g := upTo f g 8) (fun j hj => (if_pos hj).symm)]
  exact h8
theorem putBits_far {w : World} {b b' : Nat} {f : Nat → Bool} {t : TypeId} {cs : Array Value} (h : Row w b' t cs) (hne : b' ≠ b) : Row (putBits w b f) b' t cs :=
  (((((((h.far (p := ⟨b, 0, none⟩) hne _).far (p := ⟨b, 1, none⟩) hne _).far (p := ⟨b, 2, none⟩) hne _).far (p := ⟨b, 3, none⟩) hne _).far (p := ⟨b, 4, none⟩) hne _).far (p := ⟨b, 5, none⟩) hne _).far (p := ⟨b, 6, none⟩) hne _).far (p := ⟨b, 7, none⟩) hne _
theorem putBits_block (w : World) (b : Nat) (f : Nat → Bool) {k : Nat} (h : k ≠ b) : (putBits w b f).heap[k]? = w.heap[k]? := by
  unfold putBits
  rw [Below.heap_setCell _ ⟨b, 7, none⟩ _ k h, Below.heap_setCell _ ⟨b, 6, none⟩ _ k h, Below.heap_setCell _ ⟨b, 5, none⟩ _ k h, Below.heap_setCell _ ⟨b, 4, none⟩ _ k h, Below.heap_setCell _ ⟨b, 3, none⟩ _ k h, Below.heap_setCell _ ⟨b, 2, none⟩ _ k h, Below.heap_setCell _ ⟨b, 1, none⟩ _ k h, Below.heap_setCell _ ⟨b, 0, none⟩ _ k h]
theorem putBits_below {w0 w : World} {B b : Nat} {f : Nat → Bool} (h : Below B w0 w) (hb : B ≤ b) : Below B w0 (putBits w b f) :=
  (((((((h.setCell (p := ⟨b, 0, none⟩) hb _).setCell (p := ⟨b, 1, none⟩) hb _).setCell (p := ⟨b, 2, none⟩) hb _).setCell (p := ⟨b, 3, none⟩) hb _).setCell (p := ⟨b, 4, none⟩) hb _).setCell (p := ⟨b, 5, none⟩) hb _).setCell (p := ⟨b, 6, none⟩) hb _).setCell (p := ⟨b, 7, none⟩) hb _

end Go.Proofs.Ytbmfbnlmdjnddaa
/- Where nodes lie, yielded one by one. -/
namespace Go.Proofs.Ytbmfbnlmdjnddaa
open Go.RowKit Go.Shelf
attribute [local go_sem] Oper.semAt_some

/-- All blocks below 'n₀' but 'bb', rows of bytes aside, lie as they lay. -/
def Kept (n₀ bb : Nat) (W W' : World) : Prop := ∀ (k : Nat) (o : Obj), k < n₀ → k ≠ bb → W.heap[k]? = some o → (∀ c fz, o ≠ .cells c 5 fz) → W'.heap[k]? = some o
theorem Kept.refl (n₀ bb : Nat) (W : World) : Kept n₀ bb W W := fun _ _ _ _ h _ => h
theorem Kept.trans {n₀ bb : Nat} {A B C : World} (h : Kept n₀ bb A B) (k : Kept n₀ bb B C) : Kept n₀ bb A C := fun i o h1 h2 h3 h4 => k i o h1 h2 (h i o h1 h2 h3 h4) h4
theorem Kept.of_below {n₀ bb : Nat} {A B : World} (h : Below A.heap.size A B) : Kept n₀ bb A B := fun i _ _ _ h3 _ => (h.block i (Array.getElem?_eq_some_iff.1 h3).1).trans h3
theorem Kept.row {n₀ bb : Nat} {A B : World} (h : Kept n₀ bb A B) {b : Nat} {t : TypeId} {cs : Array Value} (hr : Row A b t cs) (h1 : b < n₀) (h2 : b ≠ bb) (h3 : t ≠ 5) : Row B b t cs :=
  h b _ h1 h2 hr (fun c fz he => by injection he with _ ht; exact h3 ht)
theorem Kept.put {n₀ bb : Nat} (W : World) {l : Nat} (o : Obj) (hl : n₀ ≤ l) : Kept n₀ bb W (W.putObj l o) := fun _ _ _ _ h3 _ => (World.putObj_heap_other (by omega)).trans h3
theorem grownBy_of_below {A B : World} (h : Below A.heap.size A B) : A.grownBy B none := ⟨h.os, h.tape, h.output, h.size, fun k hk _ => h.block k hk⟩

/-- The nodes that the iterator reads. -/
structure Lain (w : World) (n₀ bb g : Nat) (l : List Seg) (nb : Nat → Nat) : Prop where
  row : ∃ cs, Row w g 88 cs ∧ ∀ i, i < l.length → cs[i]? = some (.pointer (some ⟨nb i, 0, none⟩))
  rowAt : g < n₀ ∧ g ≠ bb
  node : ∀ (i : Nat) (hi : i < l.length), ∃ cv, Row w (nb i) 103 #[.string (l[i]'hi).name, .int .i64 (l[i]'hi).size, .pointer (parPtr l nb i), cv]
  nodeAt : ∀ i, i < l.length → nb i < n₀ ∧ nb i ≠ bb
theorem Lain.kept {w w' : World} {n₀ bb g : Nat} {l : List Seg} {nb : Nat → Nat} (h : Lain w n₀ bb g l nb) (hk : Kept n₀ bb w w') : Lain w' n₀ bb g l nb := by
  obtain ⟨cs, hr, hc⟩ := h.row
  refine ⟨⟨cs, hk.row hr h.rowAt.1 h.rowAt.2 (by decide), hc⟩, h.rowAt, fun i hi => ?_, h.nodeAt⟩
  obtain ⟨cv, hn⟩ := h.node i hi
  exact ⟨cv, hk.row hn (h.nodeAt i hi).1 (h.nodeAt i hi).2 (by decide)⟩
theorem Lain.placed {w : World} {n₀ bb g : Nat} {l : List Seg} {nb : Nat → Nat} (h : Lain w n₀ bb g l nb) : Placed w l nb := fun j hj => by
  obtain ⟨cv, hn⟩ := h.node j hj
  refine ⟨hn.lt, ?_, hn.cell 2⟩
  rw [sizeAt_of hj]
  exact hn.cell 1

/-- What a round says, by the truth it hands back. -/
def YP {α : Type} (J Jx : List α → World → Prop) (Kp : World → World → Prop) (ys : List α) (W1 : World) (b : Bool) (W' : World) : Prop := if b then J ys W' ∧ Kp W1 W' else Jx ys W'

theorem YP.yes {α : Type} {J Jx : List α → World → Prop} {Kp : World → World → Prop} {ys : List α} {W1 W' : World} (h : YP J Jx Kp ys W1 true W') : J ys W' ∧ Kp W1 W' := by
  unfold YP at h
  rwa [if_pos rfl] at h
theorem YP.no {α : Type} {J Jx : List α → World → Prop} {Kp : World → World → Prop} {ys : List α} {W1 W' : World} (h : YP J Jx Kp ys W1 false W') : Jx ys W' := by
  unfold YP at h
  rwa [if_neg (by decide)] at h

def placeArgs (l : List Seg) (x : Ix l) : Array Value := #[.string (l[x.1]'x.2).name, .agg #[.int .i64 (begAt l x.1), .int .i64 (endAt l x.1)]]

theorem builder_cells {T e : TypeId} {B b : Nat} {bs : List Value} {w : World} (h : Lib.IsBuilderF T e B b bs w) : ∃ c, w.heap[b]? = some (.cells c T (0, 0)) := by
  rcases h with ⟨_, v, h2, _⟩ | ⟨_, v, h2, _⟩
  · exact ⟨_, h2⟩
  · exact ⟨_, h2⟩


end Go.Proofs.Ytbmfbnlmdjnddaa
/- The names of what is loaded in a state. -/
namespace Go.Proofs.Ytbmfbnlmdjnddaa
open Go.RowKit Go.Shelf

theorem asc_ext : ∀ {a b : List Nat}, a.Pairwise (· < ·) → b.Pairwise (· < ·) → (∀ x, x ∈ a ↔ x ∈ b) → a = b
  | [], [], _, _, _ => rfl
  | [], y :: b, _, _, h => by
    have := (h y).2 List.mem_cons_self
    cases this
  | x :: a, [], _, _, h => by
    have := (h x).1 List.mem_cons_self
    cases this
  | x :: a, y :: b, ha, hb, h => by
    have ha' := List.pairwise_cons.1 ha
    have hb' := List.pairwise_cons.1 hb
    have hxy : x = y := by
      have h1 := (h x).1 List.mem_cons_self
      have h2 := (h y).2 List.mem_cons_self
      rcases List.mem_cons.1 h1 with e | e
      · exact e
      · rcases List.mem_cons.1 h2 with e2 | e2
        · exact e2.symm
        · have := hb'.1 x e
          have := ha'.1 y e2
          omega
    subst hxy
    rw [asc_ext ha'.2 hb'.2]
    intro z
    constructor
    · intro hz
      have := ha'.1 z hz
      rcases List.mem_cons.1 ((h z).1 (List.mem_cons_of_mem _ hz)) with e | e
      · omega
      · exact e
    · intro hz
      have := hb'.1 z hz
      rcases List.mem_cons.1 ((h z).2 (List.mem_cons_of_mem _ hz)) with e | e
      · omega
      · exact e
/-- The segments of which a truth is told, among the first 'k'. -/
def selIx (f : Nat → Bool) (k : Nat) : List Nat := (List.range k).filter f
theorem selIx_succ (f : Nat → Bool) (k : Nat) : selIx f (k + 1) = selIx f k ++ if f k = true then [k] else [] := by
  unfold selIx
  rw [List.range_succ, List.filter_append]
  by_cases h : f k = true <;> simp [h]
theorem selIx_len (f : Nat → Bool) (k : Nat) : (selIx f k).length ≤ k := by
  have := List.length_filter_le f (List.range k)
  simpa [selIx] using this
theorem selIx_lt {f : Nat → Bool} {k j : Nat} (h : j ∈ selIx f k) : j < k := List.mem_range.1 (List.mem_filter.1 h).1
theorem sel_mem {T : List Nat} {n : Nat} (ha : T.Pairwise (· < ·)) (hl : ∀ j ∈ T, j < n) : selIx (fun j => decide (j ∈ T)) n = T := by
  apply asc_ext
  · exact List.Pairwise.filter _ List.pairwise_lt_range
  · exact ha
  · intro x
    unfold selIx
    rw [List.mem_filter, List.mem_range]
    constructor
    · intro h; simpa using h.2
    · intro h; exact ⟨hl x h, by simpa using h⟩

theorem kept_row {T : TypeId} {w w' : World} {b k : Nat} {cs : Array Value} (h : Lib.OthersKept 5 (some b) w w') (hr : Row w k T cs) (hk : k ≠ b) (hT : T ≠ 5) : Row w' k T cs :=
  h k _ hr (fun e => hk (by injection e)) (fun c fz e => by injection e with _ e2; exact hT e2)

end Go.Proofs.Ytbmfbnlmdjnddaa

/- The state in which the path of a node is loaded. -/
namespace Go.Proofs.Ytbmfbnlmdjnddaa
open Go.RowKit Go.Shelf
attribute [local go_sem] Oper.semAt_some

theorem nodes_own {w : World} {B g : Nat} {l : List Seg} {nb : Nat → Nat} {cv : Nat → Value} (h : Nodes w B g l.length l.length l nb cv) (hl : l.length ≤ 1000) :
    w.ownsRow B 88 1 (.slice (some ⟨g, 0, none⟩) (List.range l.length).length l.length) (List.range l.length).length (ptrsOf nb (List.range l.length)) := by
  obtain ⟨cs, hrow, hcs, hci⟩ := h.row
  refine ⟨by simp [ptrsOf], .inr ⟨g, l.length, cs, rfl, h.low.1, hrow, by simp, by unfold maxLen; omega, by omega, ?_⟩⟩
  apply List.ext_getElem?
  intro k
  rw [List.getElem?_take]
  by_cases hk : k < l.length
  · rw [if_pos (by simpa using hk)]
    have h1 := hci k hk
    rw [← Array.getElem?_toList] at h1
    rw [h1]
    simp [ptrsOf, hk]
  · rw [if_neg (by simpa using hk)]
    simp [ptrsOf, hk]

/-- Where a node stands. -/
theorem indexAll_any (B g i : Nat) (l : List Seg) (nb : Nat → Nat) (cv : Nat → Value) (w : World) (h : Nodes w B g l.length l.length l nb cv) (hl : l.length ≤ 1000) (hi : i < l.length) :
    Calls Try.prog 128 #[.slice (some ⟨g, 0, none⟩) l.length l.length, .pointer (some ⟨nb i, 0, none⟩)] w fun e w' => e = .returned (.int .i64 i) ∧ w = w' := by
  have h1 := index_any g l.length B (List.range l.length) nb i w (nodes_own h hl) (by simpa using hl) (fun j hj => by
    have hjl : j < l.length := hj.elim (fun e => e ▸ hi) (fun h => List.mem_range.1 h)
    exact ⟨_, h.node j _ hjl (List.getElem?_eq_getElem hjl)⟩) (fun j hj he => Classical.byContradiction fun hne => h.apart i j hi (List.mem_range.1 hj) hne he)
  rw [List.length_range] at h1
  refine h1.mono ?_
  rintro e w' ⟨r, rfl, h2, h3, rfl⟩
  have h4 : 0 ≤ r := h2.2 (List.mem_range.2 hi)
  have h5 := h3 h4
  obtain ⟨q, rfl⟩ := Int.eq_ofNat_of_zero_le h4
  rw [Int.toNat_natCast] at h5
  have hq : q < l.length := by
    have := (List.getElem?_eq_some_iff.1 h5).1
    simpa using this
  rw [List.getElem?_range hq] at h5
  injection h5 with h5
  exact ⟨by rw [h5], rfl⟩

end Go.Proofs.Ytbmfbnlmdjnddaa
/- Sets of segments: the program's small functions on bits. -/
namespace Go.Proofs.Ytbmfbnlmdjnddaa
open Go.RowKit Go.Shelf

theorem ret_u64 {a b : Int} (h : a = b) : Ending.returned (.int .u64 a) = .returned (.int .u64 b) := by rw [h]
theorem bits_or_nat {a b : Nat} (ha : a < 256) (hb : b < 256) : bits .or .u64 (a : Int) (b : Int) = ((a ||| b : Nat) : Int) := by
  have h : a ||| b < 2 ^ 8 := Nat.or_lt_two_pow (by omega) (by omega)
  have e : ((BitVec.ofInt IntKind.u64.bits (a : Int)) ||| (BitVec.ofInt IntKind.u64.bits (b : Int))).toNat = a ||| b := by
    show ((BitVec.ofInt 64 (a : Int)) ||| (BitVec.ofInt 64 (b : Int))).toNat = a ||| b
    rw [BitVec.toNat_or, BitVec.ofInt_natCast, BitVec.ofInt_natCast, BitVec.toNat_ofNat, BitVec.toNat_ofNat, Nat.mod_eq_of_lt (by omega), Nat.mod_eq_of_lt (by omega)]
  show IntKind.u64.wrap (((BitVec.ofInt IntKind.u64.bits (a : Int)) ||| (BitVec.ofInt IntKind.u64.bits (b : Int))).toNat : Int) = _
  rw [e]
  exact IntWalk.u64_in _ (by omega)
theorem bits_and_nat {a b : Nat} (ha : a < 256) (hb : b < 256) : bits .and .u64 (a : Int) (b : Int) = ((a &&& b : Nat) : Int) := by
  have h : a &&& b ≤ a := Nat.and_le_left
  have e : ((BitVec.ofInt IntKind.u64.bits (a : Int)) &&& (BitVec.ofInt IntKind.u64.bits (b : Int))).toNat = a &&& b := by
    show ((BitVec.ofInt 64 (a : Int)) &&& (BitVec.ofInt 64 (b : Int))).toNat = a &&& b
    rw [BitVec.toNat_and, BitVec.ofInt_natCast, BitVec.ofInt_natCast, BitVec.toNat_ofNat, BitVec.toNat_ofNat, Nat.mod_eq_of_lt (by omega), Nat.mod_eq_of_lt (by omega)]
  show IntKind.u64.wrap (((BitVec.ofInt IntKind.u64.bits (a : Int)) &&& (BitVec.ofInt IntKind.u64.bits (b : Int))).toNat : Int) = _
  rw [e]
  exact IntWalk.u64_in _ (by omega)
theorem one_shl {i : Nat} (hi : i < 8) : IntKind.u64.wrap ((2 : Int) ^ i) = ((2 ^ i : Nat) : Int) := by
  have : i = 0 ∨ i = 1 ∨ i = 2 ∨ i = 3 ∨ i = 4 ∨ i = 5 ∨ i = 6 ∨ i = 7 := by omega
  rcases this with rfl | rfl | rfl | rfl | rfl | rfl | rfl | rfl <;> decide +kernel
theorem pow_lt {i : Nat} (hi : i < 8) : 2 ^ i < 256 := by
  have : i = 0 ∨ i = 1 ∨ i = 2 ∨ i = 3 ∨ i = 4 ∨ i = 5 ∨ i = 6 ∨ i = 7 := by omega
  rcases this with rfl | rfl | rfl | rfl | rfl | rfl | rfl | rfl <;> decide

set_option maxRecDepth 100000 in
set_option maxHeartbeats 400000 in
theorem has_any (f : Nat → Bool) (i : Nat) (w : World) (hi : i < 8) :
    Calls Try.prog 122 #[.int .u64 (setF f : Int), .int .i64 (i : Int)] w fun e w' => e = .returned (.bool (f i)) ∧ w = w' := by
  have H1 := Lib.hid (one_shl hi)
  have H2 := Lib.hid (bits_and_nat (setF_lt f) (pow_lt hi))
  have H3 : Hid (f i = (((setF f &&& 2 ^ i : Nat) : Int) != 0)) := by
    show _ = _
    rw [← setF_has f hi, Bool.eq_iff_iff, bne_iff_ne, bne_iff_ne]
    omega
  go_enter Try.func122, Try.ntmps122
  go_wp2
  go_ret
  exact ⟨ret_bool (show (bits .and .u64 (setF f : Int) (IntKind.u64.wrap ((2 : Int) ^ i)) != 0) = f i by rw [H1.out, H2.out, H3.out]), rfl⟩

set_option maxRecDepth 100000 in
set_option maxHeartbeats 400000 in
theorem with_any (f : Nat → Bool) (i : Nat) (w : World) (hi : i < 8) :
    Calls Try.prog 81 #[.int .u64 (setF f : Int), .int .i64 (i : Int)] w fun e w' => e = .returned (.int .u64 (setF (fun j => f j || decide (j = i)) : Int)) ∧ w = w' := by
  have H1 := Lib.hid (one_shl hi)
  have H2 := Lib.hid (bits_or_nat (setF_lt f) (pow_lt hi))
  have H3 := Lib.hid (setF_with f hi)
  go_enter Try.func81, Try.ntmps81
  go_wp2
  go_ret
  exact ⟨ret_u64 (show bits .or .u64 (setF f : Int) (IntKind.u64.wrap ((2 : Int) ^ i)) = _ by rw [H1.out, H2.out, H3.out]), rfl⟩

set_option maxRecDepth 100000 in
set_option maxHeartbeats 400000 in
theorem joined_any (f g : Nat → Bool) (w : World) :
    Calls Try.prog 114 #[.int .u64 (setF f : Int), .int .u64 (setF g : Int)] w fun e w' => e = .returned (.int .u64 (setF (fun j => f j || g j) : Int)) ∧ w = w' := by
  have H2 := Lib.hid (bits_or_nat (setF_lt f) (setF_lt g))
  have H3 := Lib.hid (setF_joined f g)
  go_enter Try.func114, Try.ntmps114
  go_wp2
  go_ret
  exact ⟨ret_u64 (show bits .or .u64 (setF f : Int) (setF g : Int) = _ by rw [H2.out, H3.out]), rfl⟩

end Go.Proofs.Ytbmfbnlmdjnddaa
/- The model's NeedAll and CheapestNeed. -/
namespace Go.Proofs.Ytbmfbnlmdjnddaa
open Go.RowKit

theorem names_append (l : List Seg) (a b : List Nat) : namesAt l (a ++ b) = namesAt l a ++ namesAt l b := by
  apply ByteArray.ext
  apply Array.ext'
  rw [ByteArray.data_append, Array.toList_append]
  show (a ++ b).flatMap (nmAt l) = a.flatMap (nmAt l) ++ b.flatMap (nmAt l)
  rw [List.flatMap_append]
theorem need_byte {l : List Seg} (hv : validB l = true) {T : List Nat} (hT : IsState l T) {b : UInt8} (hb : 0 ≤ bSeek l b) : needOk l (namesAt l T) ⟨#[b]⟩ = true ∧ afterStr l (namesAt l T) ⟨#[b]⟩ = namesAt l (needT T (rp l (bSeek l b).toNat)) ∧
    loadStr l (namesAt l T) ⟨#[b]⟩ = namesAt l (loadT T (rp l (bSeek l b).toNat)) ∧ dropStr l (namesAt l T) ⟨#[b]⟩ = namesAt l (dropT T (rp l (bSeek l b).toNat)) := by
  obtain ⟨h1, h2⟩ := stT_names hv hT
  have hi : indexB l ⟨#[b]⟩ = bSeek l b := if_pos hv
  have h3 : needOk l (namesAt l T) ⟨#[b]⟩ = true := by
    unfold needOk hasSeg
    rw [h1, hi, decide_eq_true hb]
    rfl
  refine ⟨h3, ?_, ?_, ?_⟩
  · unfold afterStr afterIx pathIx
    rw [if_pos h3, h2, hi]
  · unfold loadStr loadIx pathIx
    rw [if_pos h3, h2, hi]
  · unfold dropStr dropIx pathIx
    rw [if_pos h3, h2, hi]
theorem need_none {l : List Seg} (hv : validB l = true) (s : ByteArray) {b : UInt8} (hb : bSeek l b < 0) : needOk l s ⟨#[b]⟩ = false := by
  have hi : indexB l ⟨#[b]⟩ = bSeek l b := if_pos hv
  unfold needOk hasSeg
  rw [hi, decide_eq_false (by omega), Bool.and_false]
theorem bSeek_lt {l : List Seg} {b : UInt8} (hb : 0 ≤ bSeek l b) : (bSeek l b).toNat < l.length := by
  rcases bSeek_bd l b with h | ⟨_, h⟩ <;> omega

/-- The name and the cost of the best one so far. -/
def bestNm (l : List Seg) (T : List Nat) (k : Nat) : ByteArray := match cheapIx l T k with
  | none => ⟨#[]⟩
  | some j => namesAt l [j]
def bestCost (l : List Seg) (T : List Nat) (k : Nat) : Int := match cheapIx l T k with
  | none => 0
  | some j => nCost l T j
theorem best_in {l : List Seg} {T : List Nat} {k : Nat} (h : k ∈ T) : bestNm l T (k + 1) = bestNm l T k ∧ bestCost l T (k + 1) = bestCost l T k := by
  have e : cheapIx l T (k + 1) = cheapIx l T k := by
    show (if k ∈ T then _ else _) = _
    rw [if_pos h]
  unfold bestNm bestCost
  rw [e]
  exact ⟨rfl, rfl⟩
/-- A segment that isn't loaded: taken if there is none yet, or it costs less. -/
theorem best_out {l : List Seg} (hv : validB l = true) {T : List Nat} {k : Nat} (hk : k < l.length) (h : k ∉ T) :
    (bestNm l T k = ⟨#[]⟩ ∧ bestNm l T (k + 1) = namesAt l [k] ∧ bestCost l T (k + 1) = nCost l T k) ∨
    (∃ c : UInt8, bestNm l T k = ⟨#[c]⟩ ∧ (nCost l T k < bestCost l T k → bestNm l T (k + 1) = namesAt l [k] ∧ bestCost l T (k + 1) = nCost l T k) ∧ (¬ nCost l T k < bestCost l T k → bestNm l T (k + 1) = bestNm l T k ∧ bestCost l T (k + 1) = bestCost l T k)) := by
  have e : cheapIx l T (k + 1) = match cheapIx l T k with
    | none => some k
    | some j => if nCost l T k < nCost l T j then some k else some j := by
    show (if k ∈ T then _ else _) = _
    rw [if_neg h]
    cases cheapIx l T k <;> rfl
  unfold bestNm bestCost
  cases hc : cheapIx l T k with
  | none =>
    rw [hc] at e
    rw [e]
    exact .inl ⟨rfl, rfl, rfl⟩
  | some j =>
    rw [hc] at e
    dsimp only at e
    have hj := cheapIx_lt l T k j hc
    refine .inr ⟨byteOf l j, ?_, fun hlt => ?_, fun hlt => ?_⟩
    · show (⟨([j].flatMap (nmAt l)).toArray⟩ : ByteArray) = _
      rw [List.flatMap_cons, (nmAt_one hv (by omega)).1]
      rfl
    · rw [if_pos hlt] at e
      rw [e]
      exact ⟨rfl, rfl⟩
    · rw [if_neg hlt] at e
      rw [e]
      exact ⟨rfl, rfl⟩
theorem best_cost {l : List Seg} (hv : validB l = true) {T : List Nat} (hT : IsState l T) {k : Nat} (hk : k ≤ l.length) : 0 ≤ bestCost l T k ∧ bestCost l T k ≤ 792 := by
  unfold bestCost
  cases hc : cheapIx l T k with
  | none => exact ⟨Int.le_refl 0, (by decide : (0 : Int) ≤ 792)⟩
  | some j =>
    have hj := cheapIx_lt l T k j hc
    show 0 ≤ nCost l T j ∧ nCost l T j ≤ 792
    by_cases h : j ∈ T
    · rw [nCost_in (valid_all hv).1.down hT h]
      exact ⟨Int.le_refl 0, by decide⟩
    · have := nCost_out hv hT (show j < l.length by omega) h
      omega
theorem best_end {l : List Seg} (s : ByteArray) (h : stOk l s = true) : cheapStr l s = bestNm l (stT l s) l.length ∧ cheapOk l s = decide (bestNm l (stT l s) l.length ≠ ⟨#[]⟩) := by
  obtain ⟨hv, _, _⟩ := stT_state h
  unfold cheapStr cheapOk bestNm
  rw [if_pos h]
  cases hc : cheapIx l (stT l s) l.length with
  | none => exact ⟨rfl, by simp⟩
  | some j =>
    refine ⟨rfl, ?_⟩
    have hj := cheapIx_lt l _ _ j hc
    symm
    apply decide_eq_true
    intro e
    have := names_size hv (P := [j]) (fun x hx => by rw [List.mem_singleton.1 hx]; exact hj)
    dsimp only at e
    rw [e] at this
    cases this

end Go.Proofs.Ytbmfbnlmdjnddaa

/- The model's StatesOf: all states, as texts of the call's own. -/
namespace Go.Proofs.Ytbmfbnlmdjnddaa
open Go.RowKit

def stTexts (l : List Seg) (k : Nat) : List ByteArray := ⟨#[]⟩ :: (List.range k).map (fun i => namesAt l (rp l i))
theorem stTexts_succ (l : List Seg) (k : Nat) : stTexts l (k + 1) = stTexts l k ++ [namesAt l (rp l k)] := by
  unfold stTexts
  rw [List.range_succ, List.map_append]
  rfl
theorem stTexts_len (l : List Seg) (k : Nat) : (stTexts l k).length = k + 1 := by simp [stTexts]
/-- All states as texts; none of a list that is no tree. -/
def statesB (l : List Seg) : List ByteArray := if validB l = true then stTexts l l.length else []
def StatesPost (w : World) (l : List Seg) (e : Ending) (w' : World) : Prop :=
  ∃ v, e = .returned (.tuple #[v, .bool (validB l)]) ∧ OwnTexts w' w.heap.size v (statesB l) ∧ Below w.heap.size w w'
end Go.Proofs.Ytbmfbnlmdjnddaa
/- All states, yielded one by one. -/
namespace Go.Proofs.Ytbmfbnlmdjnddaa
open Go.RowKit Go.Shelf
attribute [local go_sem] Oper.semAt_some

/-- Nodes lie where all blocks below 'w' but one are kept. -/
theorem Nodes.kept {w w' : World} {B g m k bb : Nat} {l : List Seg} {nb : Nat → Nat} {cv : Nat → Value} (h : Nodes w B g m k l nb cv) (hk : Kept w.heap.size bb w w') (hbb : ∀ q, B ≤ q → q < w.heap.size → q ≠ bb) (hkm : k ≤ m) : Nodes w' B g m k l nb cv := by
  obtain ⟨cs, hg, hcs, hci⟩ := h.row
  refine ⟨⟨cs, hk.row hg hg.lt (hbb _ h.low.1 hg.lt) (by decide), hcs, hci⟩, fun i t hi ht => ?_, fun i t hi hi2 ht => ?_, fun i hi => ?_, h.apart, h.apartC, h.notg, h.low⟩
  · have h1 := h.node i t hi ht
    exact hk.row h1 h1.lt (hbb _ (h.low.2 i (by omega)) h1.lt) (by decide)
  · have h1 := h.fresh i t hi hi2 ht
    exact hk.row h1 h1.lt (hbb _ (h.low.2 i hi2) h1.lt) (by decide)
  · refine own_keep (h.kids i hi) fun b hb' => ?_
    have hlt := (h.kids i hi).lt b hb'
    rcases (h.kids i hi).2 with ⟨he, _⟩ | ⟨g', cap, cur, he, _, hh, _⟩
    · rw [he] at hb'
      cases hb'
    · rw [he] at hb'
      have : g' = b := by simpa [Value.ownBlock] using hb'
      subst this
      rw [hh]
      exact hk g' _ hlt.2 (hbb _ hlt.1 hlt.2) hh (fun c fz e => by injection e with _ e2; exact absurd e2 (by decide))

def stArgs (T : List Nat) : Array Value := #[bitsV fun j => decide (j ∈ T)]
theorem states_at {l : List Seg} {k : Nat} (h : k < l.length) : (statesIx l).take (k + 2) = (statesIx l).take (k + 1) ++ [rp l k] := by
  have h1 : k + 1 < (statesIx l).length := by simp [statesIx]; omega
  rw [List.take_succ_eq_append_getElem h1]
  congr 1
  simp [statesIx]
theorem states_len (l : List Seg) : (statesIx l).length = l.length + 1 := by simp [statesIx]

theorem Kept.less {n₀ n₁ bb : Nat} {A B : World} (h : Kept n₀ bb A B) (hn : n₁ ≤ n₀) : Kept n₁ bb A B := fun k o h1 h2 h3 h4 => h k o (Nat.lt_of_lt_of_le h1 hn) h2 h3 h4
end Go.Proofs.Ytbmfbnlmdjnddaa
/- impl.findState over whatever iterator that yields states. -/
namespace Go.Proofs.Ytbmfbnlmdjnddaa
open Go.RowKit Go.Shelf
attribute [local go_sem] Oper.semAt_some

theorem find_cong {α : Type} {p q : α → Bool} : ∀ (L : List α), (∀ x ∈ L, p x = q x) → L.find? p = L.find? q
  | [], _ => rfl
  | x :: L, h => by
    rw [List.find?_cons, List.find?_cons, h x List.mem_cons_self, find_cong L (fun y hy => h y (List.mem_cons_of_mem _ hy))]
theorem find_stop {α : Type} {p : α → Bool} {P L : List α} {x : α} (hP : ∀ y ∈ P, p y = false) (hx : p x = true) (hL : P ++ [x] <+: L) : L.find? p = some x := by
  obtain ⟨R, rfl⟩ := hL
  rw [List.append_assoc, List.find?_append]
  have : P.find? p = none := List.find?_eq_none.2 (fun y hy => by rw [hP y hy]; decide)
  rw [this]
  simp [hx]

theorem results_two_cells {fn : Func} {p q : Tmp} {ty tb : TypeId} (h : fn.results = #[.cell p ty, .cell q tb]) (tmps : Array Value) (w : World) (a b : Addr) (u v : Value)
    (hp : tmps.getD p undef = .pointer (some a)) (hu : (loadVar ty a).run Try.prog w = .ok u w) (hq : tmps.getD q undef = .pointer (some b)) (hv : (loadVar tb b).run Try.prog w = .ok v w) :
    (results fn tmps).run Try.prog w = .ok (.tuple #[u, v]) w := by
  have hp' : tmps[p]?.getD undef = .pointer (some a) := by simpa using hp
  have hq' : tmps[q]?.getD undef = .pointer (some b) := by simpa using hq
  simp [results, h, hp', hq', asAddr, hu, hv]
theorem run_loadBool {w : World} {b : Addr} {x : Bool} (h : w.cell? b = some (.bool x)) : (loadVar 4 b).run Try.prog w = .ok (.bool x) w := by
  simp [loadVar, isAgg, go_sem, h]

def foundIn (L : List (List Nat)) (nm : List Nat → ByteArray) (s : ByteArray) : Option (List Nat) := L.find? (fun T => sameB (nm T) s)

end Go.Proofs.Ytbmfbnlmdjnddaa
/- impl.findState at nodes; needFor, meet; StateValid. -/
namespace Go.Proofs.Ytbmfbnlmdjnddaa
open Go.RowKit Go.Shelf

theorem ret_stOk {f g : Nat → Bool} {a b : Bool} (h : ∀ j, j < 8 → f j = g j) (k : a = b) : Ending.returned (.tuple #[bitsV f, .bool a]) = .returned (.tuple #[bitsV g, .bool b]) := by
  unfold bitsV
  rw [bits_congr h, k]
/-- The truths of a state. -/
def inT (T : List Nat) (j : Nat) : Bool := decide (j ∈ T)

def offB (f : Nat → Bool) : Bool := !f 0 && !f 1 && !f 2 && !f 3 && !f 4 && !f 5 && !f 6 && !f 7
theorem offB_iff (f : Nat → Bool) : offB f = true ↔ ∀ j, j < 8 → f j = false := by
  unfold offB
  simp only [Bool.and_eq_true, Bool.not_eq_true']
  constructor
  · rintro ⟨⟨⟨⟨⟨⟨⟨h0, h1⟩, h2⟩, h3⟩, h4⟩, h5⟩, h6⟩, h7⟩ j hj
    match j, hj with
    | 0, _ => exact h0
    | 1, _ => exact h1
    | 2, _ => exact h2
    | 3, _ => exact h3
    | 4, _ => exact h4
    | 5, _ => exact h5
    | 6, _ => exact h6
    | 7, _ => exact h7
  · intro h
    exact ⟨⟨⟨⟨⟨⟨⟨h 0 (by decide), h 1 (by decide)⟩, h 2 (by decide)⟩, h 3 (by decide)⟩, h 4 (by decide)⟩, h 5 (by decide)⟩, h 6 (by decide)⟩, h 7 (by decide)⟩

end Go.Proofs.Ytbmfbnlmdjnddaa
/- impl.meetNeed: the states ahead of a need and behind it. -/
namespace Go.Proofs.Ytbmfbnlmdjnddaa
open Go.RowKit Go.Shelf

theorem results_two_states {fn : Func} {p q r : Tmp} {ty tz : TypeId} (h : fn.results = #[.cell p ty, .cell q tz, .tmp r]) (tmps : Array Value) (w : World) (a b : Addr) (u v : Value)
    (hp : tmps.getD p undef = .pointer (some a)) (hu : (loadVar ty a).run Try.prog w = .ok u w) (hq : tmps.getD q undef = .pointer (some b)) (hv : (loadVar tz b).run Try.prog w = .ok v w) :
    (results fn tmps).run Try.prog w = .ok (.tuple #[u, v, tmps.getD r undef]) w := by
  have hp' : tmps[p]?.getD undef = .pointer (some a) := by simpa using hp
  have hq' : tmps[q]?.getD undef = .pointer (some b) := by simpa using hq
  simp [results, h, hp', hq', asAddr, hu, hv]
end Go.Proofs.Ytbmfbnlmdjnddaa
/- impl.StateValid, DropsOf, NeedOf. -/
namespace Go.Proofs.Ytbmfbnlmdjnddaa
open Go.RowKit Go.Shelf

theorem less_in (T U : List Nat) : ∀ j, (inT T j && !inT U j) = inT (lessT T U) j := fun j => by
  unfold inT lessT
  rw [Bool.eq_iff_iff]
  simp [List.mem_filter]
theorem less_asc {T U : List Nat} (h : T.Pairwise (· < ·)) : (lessT T U).Pairwise (· < ·) := List.Pairwise.filter _ h

end Go.Proofs.Ytbmfbnlmdjnddaa
