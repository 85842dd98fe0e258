/- Joined: Bh Ge Qd Qf. -/
import Derived.Test.YtafpefjjeddmeaaGreatU07
import Derived.Test.YtafpefjjeddmeaaGreatU18
import Derived.Test.YtafpefjjeddmeaaGreatU02
import Derived.Laws.Rows
import Derived.RangeFuncWrites
import Derived.Test.YtafpefjjeddmeaaGreatU06
import Derived.Test.YtafpefjjeddmeaaGreatU05
/- Sets of segments as bits, and chains that lie together: plain. -/
namespace Go.Proofs.YtafpefjjeddmeaaGreat
open Go.RowKit

/-- A set of eight as bits. -/
def setF (f : Nat → Bool) : Nat := (f 0).toNat + 2 * (f 1).toNat + 4 * (f 2).toNat + 8 * (f 3).toNat + 16 * (f 4).toNat + 32 * (f 5).toNat + 64 * (f 6).toNat + 128 * (f 7).toNat
theorem setF_lt (f : Nat → Bool) : setF f < 256 := by
  unfold setF
  have h : ∀ b : Bool, b.toNat ≤ 1 := fun b => by cases b <;> decide
  have := h (f 0); have := h (f 1); have := h (f 2); have := h (f 3); have := h (f 4); have := h (f 5); have := h (f 6); have := h (f 7)
  omega
theorem set_brute : ∀ b0 b1 b2 b3 b4 b5 b6 b7 : Bool,
    (b0.toNat + 2 * b1.toNat + 4 * b2.toNat + 8 * b3.toNat + 16 * b4.toNat + 32 * b5.toNat + 64 * b6.toNat + 128 * b7.toNat).testBit 0 = b0 ∧
    (b0.toNat + 2 * b1.toNat + 4 * b2.toNat + 8 * b3.toNat + 16 * b4.toNat + 32 * b5.toNat + 64 * b6.toNat + 128 * b7.toNat).testBit 1 = b1 ∧
    (b0.toNat + 2 * b1.toNat + 4 * b2.toNat + 8 * b3.toNat + 16 * b4.toNat + 32 * b5.toNat + 64 * b6.toNat + 128 * b7.toNat).testBit 2 = b2 ∧
    (b0.toNat + 2 * b1.toNat + 4 * b2.toNat + 8 * b3.toNat + 16 * b4.toNat + 32 * b5.toNat + 64 * b6.toNat + 128 * b7.toNat).testBit 3 = b3 ∧
    (b0.toNat + 2 * b1.toNat + 4 * b2.toNat + 8 * b3.toNat + 16 * b4.toNat + 32 * b5.toNat + 64 * b6.toNat + 128 * b7.toNat).testBit 4 = b4 ∧
    (b0.toNat + 2 * b1.toNat + 4 * b2.toNat + 8 * b3.toNat + 16 * b4.toNat + 32 * b5.toNat + 64 * b6.toNat + 128 * b7.toNat).testBit 5 = b5 ∧
    (b0.toNat + 2 * b1.toNat + 4 * b2.toNat + 8 * b3.toNat + 16 * b4.toNat + 32 * b5.toNat + 64 * b6.toNat + 128 * b7.toNat).testBit 6 = b6 ∧
    (b0.toNat + 2 * b1.toNat + 4 * b2.toNat + 8 * b3.toNat + 16 * b4.toNat + 32 * b5.toNat + 64 * b6.toNat + 128 * b7.toNat).testBit 7 = b7 := by
  decide +kernel
theorem setF_bit (f : Nat → Bool) (i : Nat) : (setF f).testBit i = (decide (i < 8) && f i) := by
  by_cases hi : i < 8
  · rw [decide_eq_true hi, Bool.true_and]
    obtain ⟨h0, h1, h2, h3, h4, h5, h6, h7⟩ := set_brute (f 0) (f 1) (f 2) (f 3) (f 4) (f 5) (f 6) (f 7)
    unfold setF
    have : i = 0 ∨ i = 1 ∨ i = 2 ∨ i = 3 ∨ i = 4 ∨ i = 5 ∨ i = 6 ∨ i = 7 := by omega
    rcases this with rfl | rfl | rfl | rfl | rfl | rfl | rfl | rfl <;> assumption
  · rw [decide_eq_false hi, Bool.false_and]
    exact Nat.testBit_lt_two_pow (Nat.lt_of_lt_of_le (setF_lt f) (Nat.pow_le_pow_right (n := 2) (by decide) (by omega : 8 ≤ i)))
theorem setF_none : setF (fun _ => false) = 0 := rfl
theorem setF_congr {f g : Nat → Bool} (h : ∀ i, i < 8 → f i = g i) : setF f = setF g := by
  unfold setF
  rw [h 0 (by decide), h 1 (by decide), h 2 (by decide), h 3 (by decide), h 4 (by decide), h 5 (by decide), h 6 (by decide), h 7 (by decide)]
theorem setF_with (f : Nat → Bool) {i : Nat} (hi : i < 8) : setF f ||| 2 ^ i = setF (fun j => f j || decide (j = i)) := by
  apply Nat.eq_of_testBit_eq
  intro j
  rw [Nat.testBit_or, setF_bit, setF_bit, Nat.testBit_two_pow]
  by_cases hj : j < 8
  · rw [decide_eq_true hj, Bool.true_and, Bool.true_and]
    congr 1
    exact decide_eq_decide.2 ⟨fun h => h.symm, fun h => h.symm⟩
  · rw [decide_eq_false hj, Bool.false_and, Bool.false_and, Bool.false_or]
    exact decide_eq_false (by omega)
theorem setF_joined (f g : Nat → Bool) : setF f ||| setF g = setF (fun j => f j || g j) := by
  apply Nat.eq_of_testBit_eq
  intro j
  rw [Nat.testBit_or, setF_bit, setF_bit, setF_bit]
  cases decide (j < 8) <;> simp
theorem setF_and (f : Nat → Bool) {i : Nat} (hi : i < 8) : setF f &&& 2 ^ i = if f i = true then 2 ^ i else 0 := by
  apply Nat.eq_of_testBit_eq
  intro j
  rw [Nat.testBit_and, setF_bit, Nat.testBit_two_pow]
  by_cases hj : i = j
  · subst hj
    rw [decide_eq_true hi, decide_eq_true rfl, Bool.true_and, Bool.and_true]
    cases f i with
    | false => simp
    | true => rw [if_pos rfl, Nat.testBit_two_pow, decide_eq_true rfl]
  · rw [decide_eq_false hj, Bool.and_false]
    cases f i with
    | false => simp
    | true => rw [if_pos rfl, Nat.testBit_two_pow, decide_eq_false hj]
theorem setF_has (f : Nat → Bool) {i : Nat} (hi : i < 8) : (setF f &&& 2 ^ i != 0) = f i := by
  rw [setF_and f hi]
  have hp : 0 < 2 ^ i := Nat.pow_pos (by decide)
  cases f i with
  | false => simp
  | true =>
    rw [if_pos rfl, bne_iff_ne]
    omega

/-- Whether two segments lie together, by their indices. -/
def lieIx (l : List Seg) (a b : Nat) : Bool := decide (a ∈ rp l b) || decide (b ∈ rp l a)
theorem lieIx_comm (l : List Seg) (a b : Nat) : lieIx l a b = lieIx l b a := Bool.or_comm _ _
theorem lieIx_self (l : List Seg) (a : Nat) : lieIx l a a = true := by
  have : a ∈ rp l a := List.mem_append.2 (.inr (List.mem_singleton.2 rfl))
  unfold lieIx
  rw [decide_eq_true this]
  rfl
theorem kindIx_side (l : List Seg) (a b : Nat) : decide (kindIx l a b = 2) = !lieIx l a b := by
  unfold kindIx lieIx
  by_cases h1 : b ∈ rp l a
  · rw [if_pos h1]; simp [h1]
  · rw [if_neg h1]
    by_cases h2 : a ∈ rp l b
    · rw [if_pos h2]; simp [h2]
    · rw [if_neg h2]; simp [h1, h2]
theorem lieB_bytes {l : List Seg} (hv : validB l = true) {u v : UInt8} : lieB l ⟨#[u]⟩ ⟨#[v]⟩ = (decide (0 ≤ bSeek l u) && decide (0 ≤ bSeek l v) && lieIx l (bSeek l u).toNat (bSeek l v).toNat) := by
  have h1 : indexB l ⟨#[u]⟩ = bSeek l u := if_pos hv
  have h2 : indexB l ⟨#[v]⟩ = bSeek l v := if_pos hv
  unfold lieB comOk hasSeg pathIx lieIx
  rw [h1, h2]
theorem lieB_bad {l : List Seg} (hv : validB l = false) (s t : ByteArray) : lieB l s t = false := by
  have h1 : indexB l s = -1 := if_neg (by rw [hv]; decide)
  unfold lieB comOk hasSeg
  rw [h1]
  rfl
/-- Whether the segments that a text names lie together, as the reference asks. -/
def liesTo (l : List Seg) (s : ByteArray) (i n : Nat) : Bool := (List.range n).all fun k => lieB l (s.extract k (k + 1)) (s.extract i (i + 1))
def liesUp (l : List Seg) (s : ByteArray) (n : Nat) : Bool := (List.range n).all fun i => liesTo l s i (i + 1)
def liesB (l : List Seg) (s : ByteArray) : Bool := liesUp l s s.size && validB l
theorem liesTo_succ (l : List Seg) (s : ByteArray) (i n : Nat) : liesTo l s i (n + 1) = (liesTo l s i n && lieB l (s.extract n (n + 1)) (s.extract i (i + 1))) := by
  unfold liesTo
  rw [List.range_succ, List.all_append]
  simp
theorem liesUp_succ (l : List Seg) (s : ByteArray) (n : Nat) : liesUp l s (n + 1) = (liesUp l s n && liesTo l s n (n + 1)) := by
  unfold liesUp
  rw [List.range_succ, List.all_append]
  simp
theorem all_range {n : Nat} {p : Nat → Bool} : (List.range n).all p = true ↔ ∀ i, i < n → p i = true := by
  rw [List.all_eq_true]
  exact ⟨fun h i hi => h i (List.mem_range.2 hi), fun h i hi => h i (List.mem_range.1 hi)⟩
theorem liesTo_false {l : List Seg} {s : ByteArray} {i n k : Nat} (hk : k < n) (h : lieB l (s.extract k (k + 1)) (s.extract i (i + 1)) = false) : liesTo l s i n = false := by
  rw [Bool.eq_false_iff]
  intro h'
  rw [all_range.1 h' k hk] at h
  cases h
theorem liesB_false {l : List Seg} {s : ByteArray} {i : Nat} (hi : i < s.size) (h : liesTo l s i (i + 1) = false) : liesB l s = false := by
  rw [Bool.eq_false_iff]
  intro h'
  unfold liesB at h'
  rw [Bool.and_eq_true] at h'
  rw [all_range.1 h'.1 i hi] at h
  cases h
/-- Whether the segments of a set lie together. -/
def togeB (l : List Seg) (f : Nat → Bool) : Bool := (List.range l.length).all fun i => (List.range i).all fun j => !(f i && f j && decide (kindIx l i j = 2))
theorem liesB_bad {l : List Seg} (hv : validB l = false) (s : ByteArray) : liesB l s = false := by
  unfold liesB
  rw [hv, Bool.and_false]
theorem liesB_unnamed {l : List Seg} (hv : validB l = true) {s : ByteArray} (h : namedOk l s.data.toList = false) : liesB l s = false := by
  unfold namedOk at h
  rw [List.all_eq_false] at h
  obtain ⟨b, hb, hn⟩ := h
  obtain ⟨i, hi, he⟩ := List.getElem_of_mem hb
  have hi' : i < s.size := by simpa using hi
  refine liesB_false hi' (liesTo_false (Nat.lt_succ_self i) ?_)
  rw [one_byte s hi', show s[i] = b from he, lieB_bytes hv, Bool.eq_false_iff.2 hn]
  rfl
theorem liesB_named {l : List Seg} (hv : validB l = true) {s : ByteArray} (h : namedOk l s.data.toList = true) : liesB l s = togeB l (fun i => decide (i ∈ namedJs l s.data.toList)) := by
  have hnm : ∀ k (hk : k < s.size), 0 ≤ bSeek l s[k] := fun k hk => by
    have := List.all_eq_true.1 h s[k] (List.getElem_mem (l := s.data.toList) (by simpa using hk))
    exact of_decide_eq_true this
  have hlie : ∀ i k (hi : i < s.size) (hk : k < s.size), lieB l (s.extract k (k + 1)) (s.extract i (i + 1)) = lieIx l (bSeek l s[k]).toNat (bSeek l s[i]).toNat := fun i k hi hk => by
    rw [one_byte s hi, one_byte s hk, lieB_bytes hv, decide_eq_true (hnm k hk), decide_eq_true (hnm i hi)]
    rfl
  rw [Bool.eq_iff_iff]
  unfold liesB
  rw [hv, Bool.and_true]
  unfold liesUp togeB
  rw [all_range, all_range]
  constructor
  · intro H i hi
    rw [all_range]
    intro j hj
    show (!(decide (i ∈ namedJs l s.data.toList) && decide (j ∈ namedJs l s.data.toList) && decide (kindIx l i j = 2))) = true
    cases h1 : decide (i ∈ namedJs l s.data.toList) with
    | false => rfl
    | true =>
      cases h2 : decide (j ∈ namedJs l s.data.toList) with
      | false => rfl
      | true =>
        obtain ⟨u, hu, he⟩ := List.mem_map.1 (of_decide_eq_true h1)
        obtain ⟨v, hv', he'⟩ := List.mem_map.1 (of_decide_eq_true h2)
        obtain ⟨p, hp, hpe⟩ := List.getElem_of_mem hu
        obtain ⟨q, hq, hqe⟩ := List.getElem_of_mem hv'
        have hp' : p < s.size := by simpa using hp
        have hq' : q < s.size := by simpa using hq
        have key : lieIx l i j = true := by
          rcases Nat.le_total q p with hle | hle
          · have := all_range.1 (H p hp') q (by omega)
            rw [hlie p q hp' hq', show s[q] = v from hqe, show s[p] = u from hpe, he, he'] at this
            rw [lieIx_comm]; exact this
          · have := all_range.1 (H q hq') p (by omega)
            rw [hlie q p hq' hp', show s[q] = v from hqe, show s[p] = u from hpe, he, he'] at this
            exact this
        rw [kindIx_side, key]
        rfl
  · intro H i hi
    unfold liesTo
    rw [all_range]
    intro k hk
    have hk' : k < s.size := by omega
    rw [hlie i k hi hk']
    have m1 : (bSeek l s[i]).toNat ∈ namedJs l s.data.toList := List.mem_map.2 ⟨s[i], List.getElem_mem (l := s.data.toList) (by simpa using hi), rfl⟩
    have m2 : (bSeek l s[k]).toNat ∈ namedJs l s.data.toList := List.mem_map.2 ⟨s[k], List.getElem_mem (l := s.data.toList) (by simpa using hk'), rfl⟩
    have l1 := namedJs_lt h _ m1
    have l2 := namedJs_lt h _ m2
    generalize (bSeek l s[i]).toNat = a at *
    generalize (bSeek l s[k]).toNat = b at *
    rcases Nat.lt_trichotomy a b with hab | hab | hab
    · have := all_range.1 (H b l2) a hab
      dsimp only at this
      rw [decide_eq_true m1, decide_eq_true m2, kindIx_side] at this
      simpa using this
    · rw [hab]; exact lieIx_self l b
    · have := all_range.1 (H a l1) b hab
      dsimp only at this
      rw [decide_eq_true m1, decide_eq_true m2, kindIx_side] at this
      rw [lieIx_comm]
      simpa using this

end Go.Proofs.YtafpefjjeddmeaaGreat
/- A state as an array of eight truths: what is in one and not in another. -/
namespace Go.Proofs.YtafpefjjeddmeaaGreat
open Go.RowKit

def bitCells (f : Nat → Bool) : Array Value := #[.bool (f 0), .bool (f 1), .bool (f 2), .bool (f 3), .bool (f 4), .bool (f 5), .bool (f 6), .bool (f 7)]
def bitsV (f : Nat → Bool) : Value := .agg (bitCells f)
theorem bits_at (f : Nat → Bool) {k : Nat} (h : k < 8) : (bitCells f)[k]? = some (.bool (f k)) := by
  match k, h with
  | 0, _ => rfl
  | 1, _ => rfl
  | 2, _ => rfl
  | 3, _ => rfl
  | 4, _ => rfl
  | 5, _ => rfl
  | 6, _ => rfl
  | 7, _ => rfl
theorem bits_set (f : Nat → Bool) {k : Nat} (h : k < 8) (b : Bool) : (bitCells f).setIfInBounds k (.bool b) = bitCells (fun j => if j = k then b else f j) := by
  match k, h with
  | 0, _ => rfl
  | 1, _ => rfl
  | 2, _ => rfl
  | 3, _ => rfl
  | 4, _ => rfl
  | 5, _ => rfl
  | 6, _ => rfl
  | 7, _ => rfl
theorem bits_congr {f g : Nat → Bool} (h : ∀ j, j < 8 → f j = g j) : bitCells f = bitCells g := by
  unfold bitCells
  rw [h 0 (by decide), h 1 (by decide), h 2 (by decide), h 3 (by decide), h 4 (by decide), h 5 (by decide), h 6 (by decide), h 7 (by decide)]
theorem bits_ix0 (f : Nat → Bool) (w : World) : (Instr.index 92 (bitsV f) (.int .i64 0)).run Tryz.prog w = .ok (.bool (f 0)) w := by kernel_rfl
theorem bits_ix1 (f : Nat → Bool) (w : World) : (Instr.index 92 (bitsV f) (.int .i64 1)).run Tryz.prog w = .ok (.bool (f 1)) w := by kernel_rfl
theorem bits_ix2 (f : Nat → Bool) (w : World) : (Instr.index 92 (bitsV f) (.int .i64 2)).run Tryz.prog w = .ok (.bool (f 2)) w := by kernel_rfl
theorem bits_ix3 (f : Nat → Bool) (w : World) : (Instr.index 92 (bitsV f) (.int .i64 3)).run Tryz.prog w = .ok (.bool (f 3)) w := by kernel_rfl
theorem bits_ix4 (f : Nat → Bool) (w : World) : (Instr.index 92 (bitsV f) (.int .i64 4)).run Tryz.prog w = .ok (.bool (f 4)) w := by kernel_rfl
theorem bits_ix5 (f : Nat → Bool) (w : World) : (Instr.index 92 (bitsV f) (.int .i64 5)).run Tryz.prog w = .ok (.bool (f 5)) w := by kernel_rfl
theorem bits_ix6 (f : Nat → Bool) (w : World) : (Instr.index 92 (bitsV f) (.int .i64 6)).run Tryz.prog w = .ok (.bool (f 6)) w := by kernel_rfl
theorem bits_ix7 (f : Nat → Bool) (w : World) : (Instr.index 92 (bitsV f) (.int .i64 7)).run Tryz.prog w = .ok (.bool (f 7)) w := by kernel_rfl
theorem bits_ix (f : Nat → Bool) {k : Nat} (h : k < 8) (w : World) : (Instr.index 92 (bitsV f) (.int .i64 (k : Int))).run Tryz.prog w = .ok (.bool (f k)) w := by
  match k, h with
  | 0, _ => exact bits_ix0 f w
  | 1, _ => exact bits_ix1 f w
  | 2, _ => exact bits_ix2 f w
  | 3, _ => exact bits_ix3 f w
  | 4, _ => exact bits_ix4 f w
  | 5, _ => exact bits_ix5 f w
  | 6, _ => exact bits_ix6 f w
  | 7, _ => exact bits_ix7 f w

/-- What is left after the first 'k' have been gone over. -/
def lessTo (f g : Nat → Bool) (k j : Nat) : Bool := if j < k then f j && !g j else f j
theorem lessTo_step (f g : Nat → Bool) {k : Nat} (h : k < 8) (b : Bool) (hb : b = (f k && !g k)) : (bitCells (lessTo f g k)).setIfInBounds k (.bool b) = bitCells (lessTo f g (k + 1)) := by
  rw [bits_set _ h]
  apply bits_congr
  intro j hj
  unfold lessTo
  by_cases h1 : j = k
  · subst h1
    rw [if_pos rfl, if_pos (by omega), hb]
  · rw [if_neg h1]
    by_cases h2 : j < k
    · rw [if_pos h2, if_pos (by omega)]
    · rw [if_neg h2, if_neg (by omega)]
theorem run_loadState {w : World} {b : Nat} {f : Nat → Bool} (h : Row w b 92 (bitCells f)) : (loadVar 92 ⟨b, 0, none⟩).run Tryz.prog w = .ok (bitsV f) w :=
  run_loadVar_row w b 92 92 (bitCells f) (0, 0) _ h Tryz.underlying92 rfl (by kernel_rfl)
theorem bits_cells {t : TypeId} {w : World} {b : Nat} {f : Nat → Bool} (h : Row w b t (bitCells f)) : (w.cell? ⟨b, 0, none⟩ = some (.bool (f 0)) ∧ w.cell? ⟨b, 1, none⟩ = some (.bool (f 1)) ∧ w.cell? ⟨b, 2, none⟩ = some (.bool (f 2)) ∧ w.cell? ⟨b, 3, none⟩ = some (.bool (f 3))) ∧
    (w.cell? ⟨b, 4, none⟩ = some (.bool (f 4)) ∧ w.cell? ⟨b, 5, none⟩ = some (.bool (f 5)) ∧ w.cell? ⟨b, 6, none⟩ = some (.bool (f 6)) ∧ w.cell? ⟨b, 7, none⟩ = some (.bool (f 7))) :=
  ⟨⟨h.cell 0, h.cell 1, h.cell 2, h.cell 3⟩, h.cell 4, h.cell 5, h.cell 6, h.cell 7⟩
/-- The world behind a store of a whole state. -/
def putBits (w : World) (b : Nat) (f : Nat → Bool) : World :=
  (((((((w.setCell ⟨b, 0, none⟩ (.bool (f 0))).setCell ⟨b, 1, none⟩ (.bool (f 1))).setCell ⟨b, 2, none⟩ (.bool (f 2))).setCell ⟨b, 3, none⟩ (.bool (f 3))).setCell ⟨b, 4, none⟩ (.bool (f 4))).setCell ⟨b, 5, none⟩ (.bool (f 5))).setCell ⟨b, 6, none⟩ (.bool (f 6))).setCell ⟨b, 7, none⟩ (.bool (f 7))
def upTo (f g : Nat → Bool) (k j : Nat) : Bool := if j < k then f j else g j
theorem upTo_step {t : TypeId} {w : World} {b k : Nat} {f g : Nat → Bool} (h : Row w b t (bitCells (upTo f g k))) (hk : k < 8) : Row (w.setCell ⟨b, k, none⟩ (.bool (f k))) b t (bitCells (upTo f g (k + 1))) := by
  have h1 := h.put k (.bool (f k))
  rw [bits_set _ hk] at h1
  rw [bits_congr (f := upTo f g (k + 1)) (g := fun j => if j = k then f k else upTo f g k j)]
  · exact h1
  · intro j _
    unfold upTo
    by_cases e : j = k
    · subst e
      rw [if_pos (by omega), if_pos rfl]
    · rw [if_neg e]
      by_cases e2 : j < k
      · rw [if_pos e2, if_pos (by omega)]
      · rw [if_neg e2, if_neg (by omega)]
theorem putBits_row {t : TypeId} {w : World} {b : Nat} {f g : Nat → Bool} (h : Row w b t (bitCells g)) : Row (putBits w b f) b t (bitCells f) := by
  have h0 : Row w b t (bitCells (upTo f g 0)) := h
  have h8 := upTo_step (upTo_step (upTo_step (upTo_step (upTo_step (upTo_step (upTo_step (upTo_step h0 (by decide)) (by decide)) (by decide)) (by decide)) (by decide)) (by decide)) (by decide)) (by decide)
  rw [bits_congr (f := f) (g := upTo f g 8) (fun j hj => (if_pos hj).symm)]
  exact h8
theorem putBits_far {w : World} {b b' : Nat} {f : Nat → Bool} {t : TypeId} {cs : Array Value} (h : Row w b' t cs) (hne : b' ≠ b) : Row (putBits w b f) b' t cs :=
  (((((((h.far (p := ⟨b, 0, none⟩) hne _).far (p := ⟨b, 1, none⟩) hne _).far (p := ⟨b, 2, none⟩) hne _).far (p := ⟨b, 3, none⟩) hne _).far (p := ⟨b, 4, none⟩) hne _).far (p := ⟨b, 5, none⟩) hne _).far (p := ⟨b, 6, none⟩) hne _).far (p := ⟨b, 7, none⟩) hne _
theorem putBits_block (w : World) (b : Nat) (f : Nat → Bool) {k : Nat} (h : k ≠ b) : (putBits w b f).heap[k]? = w.heap[k]? := by
  unfold putBits
  rw [Below.heap_setCell _ ⟨b, 7, none⟩ _ k h, Below.heap_setCell _ ⟨b, 6, none⟩ _ k h, Below.heap_setCell _ ⟨b, 5, none⟩ _ k h, Below.heap_setCell _ ⟨b, 4, none⟩ _ k h, Below.heap_setCell _ ⟨b, 3, none⟩ _ k h, Below.heap_setCell _ ⟨b, 2, none⟩ _ k h, Below.heap_setCell _ ⟨b, 1, none⟩ _ k h, Below.heap_setCell _ ⟨b, 0, none⟩ _ k h]
theorem putBits_below {w0 w : World} {B b : Nat} {f : Nat → Bool} (h : Below B w0 w) (hb : B ≤ b) : Below B w0 (putBits w b f) :=
  (((((((h.setCell (p := ⟨b, 0, none⟩) hb _).setCell (p := ⟨b, 1, none⟩) hb _).setCell (p := ⟨b, 2, none⟩) hb _).setCell (p := ⟨b, 3, none⟩) hb _).setCell (p := ⟨b, 4, none⟩) hb _).setCell (p := ⟨b, 5, none⟩) hb _).setCell (p := ⟨b, 6, none⟩) hb _).setCell (p := ⟨b, 7, none⟩) hb _

set_option maxRecDepth 100000 in
set_option maxHeartbeats 400000 in
theorem less_any (f g : Nat → Bool) (w : World) :
    Calls Tryz.prog 120 #[bitsV f, bitsV g] w fun e w' => e = .returned (bitsV (fun j => f j && !g j)) ∧ Below w.heap.size w w' := by
  unfold bitsV bitCells
  go_enter Tryz.func120, Tryz.ntmps120
  go_wp2
  have hz0 : Row (((w.alloc (.cells (bitCells f) 92)).alloc (.cells (bitCells g) 92)).alloc (.cells (bitCells fun _ => false) 92)) w.heap.size 92 (bitCells (lessTo f g 0)) := ((Row.new w _ _).alloc _).alloc _
  have hz2 : Row (((w.alloc (.cells (bitCells f) 92)).alloc (.cells (bitCells g) 92)).alloc (.cells (bitCells fun _ => false) 92)) (w.heap.size + 1 + 1) 92 (bitCells fun _ => false) := by
    have := Row.new ((w.alloc (.cells (bitCells f) 92)).alloc (.cells (bitCells g) 92)) 92 (bitCells fun _ => false)
    simpa using this
  have hb0 : Below w.heap.size w (((w.alloc (.cells (bitCells f) 92)).alloc (.cells (bitCells g) 92)).alloc (.cells (bitCells fun _ => false) 92)) := (((Below.refl _ w).alloc (Nat.le_refl _) _).alloc (by simp) _).alloc (by simp; omega) _
  go_loopw [8] (fun i wr => ∃ (k : Nat), k ≤ 8 ∧ i = .int .i64 k ∧ Hid (Row wr w.heap.size 92 (bitCells (lessTo f g k))) ∧ Hid (Row wr (w.heap.size + 1 + 1) 92 (bitCells fun _ => false)) ∧ Hid (Below w.heap.size w wr))
    (fun i _ => 8 - (intOf i).toNat)
  case atStart => exact ⟨0, Nat.zero_le _, rfl, hz0, hz2, hb0⟩
  case round =>
    clear hz0 hz2 hb0
    obtain ⟨k, hk, rfl, HR, HZ, HB⟩ := hrel
    have hk0 : (0 : Int) ≤ (k : Int) := Int.natCast_nonneg _
    by_cases hlt : k < 8
    · have hlt' : (k : Int) < 8 := by omega
      have hc : wr.cell? ⟨w.heap.size, k, none⟩ = some (.bool (f k)) := by
        have h1 : lessTo f g k k = f k := if_neg (by omega)
        rw [HR.out.cell, bits_at _ hlt, h1]
      have hfz : wr.frozen? ⟨w.heap.size, k, none⟩ = false := HR.out.free k
      have hx : ∀ W : World, (Instr.index 92 (.agg #[.bool (g 0), .bool (g 1), .bool (g 2), .bool (g 3), .bool (g 4), .bool (g 5), .bool (g 6), .bool (g 7)]) (.int .i64 (k : Int))).run Tryz.prog W = .ok (.bool (g k)) W := fun W => bits_ix g hlt W
      have HR1 : Hid (∀ b, b = (f k && !g k) → Row (wr.setCell ⟨w.heap.size, k, none⟩ (.bool b)) w.heap.size 92 (bitCells (lessTo f g (k + 1)))) := fun b hb => by
        have := HR.out.put k (.bool b)
        rw [lessTo_step f g hlt b hb] at this
        exact this
      have HZ1 : Hid (∀ b, Row (wr.setCell ⟨w.heap.size, k, none⟩ (.bool b)) (w.heap.size + 1 + 1) 92 (bitCells fun _ => false)) := fun b => Row.far HZ.out (by show w.heap.size + 1 + 1 ≠ w.heap.size; omega) _
      have HB1 : Hid (∀ b, Below w.heap.size w (wr.setCell ⟨w.heap.size, k, none⟩ (.bool b))) := fun b => HB.out.setCell (Nat.le_refl _) _
      generalize f k = fk at *
      generalize g k = gk at *
      cases fk <;> cases gk
      all_goals
        go_wp2
        go_roundw
        case rel => exact ⟨k + 1, by omega, by go_num, HR1.out _ rfl, HZ1.out _, HB1.out _⟩
        case measure => simp [intOf]; omega
    · obtain rfl : k = 8 := by omega
      have HL : Hid (bitCells (lessTo f g 8) = bitCells (fun j => f j && !g j)) := bits_congr fun j hj => if_pos hj
      have hr := HR.out
      rw [HL.out] at hr
      obtain ⟨⟨c0, c1, c2, c3⟩, c4, c5, c6, c7⟩ := bits_cells hr
      obtain ⟨⟨d0, d1, d2, d3⟩, d4, d5, d6, d7⟩ := bits_cells HZ.out
      have hfz := fun j => HZ.out.free j
      have z0 := hfz 0
      have z1 := hfz 1
      have z2 := hfz 2
      have z3 := hfz 3
      have z4 := hfz 4
      have z5 := hfz 5
      have z6 := hfz 6
      have z7 := hfz 7
      have HRow : Hid (Row (putBits wr (w.heap.size + 1 + 1) fun j => f j && !g j) (w.heap.size + 1 + 1) 92 (bitCells fun j => f j && !g j)) := putBits_row HZ.out
      have HBel : Hid (Below w.heap.size w (putBits wr (w.heap.size + 1 + 1) fun j => f j && !g j)) := putBits_below HB.out (by omega)
      clear hr hfz HR HZ HB HL
      go_wp2
      exact bodyPost_ret (v := bitsV fun j => f j && !g j) (results_cell_row (p := 4) (ty := 92) rfl _ (putBits wr (w.heap.size + 1 + 1) fun j => f j && !g j) (w.heap.size + 1 + 1) 92 _ (0, 0) _ rfl HRow.out Tryz.underlying92 rfl (by kernel_rfl)) rfl ⟨rfl, HBel.out⟩

end Go.Proofs.YtafpefjjeddmeaaGreat
/- Where nodes lie, yielded one by one. -/
namespace Go.Proofs.YtafpefjjeddmeaaGreat
open Go.RowKit Go.Shelf
attribute [local go_sem] Oper.semAt_some

/-- All blocks below 'n₀' but 'bb', rows of bytes aside, lie as they lay. -/
def Kept (n₀ bb : Nat) (W W' : World) : Prop := ∀ (k : Nat) (o : Obj), k < n₀ → k ≠ bb → W.heap[k]? = some o → (∀ c fz, o ≠ .cells c 5 fz) → W'.heap[k]? = some o
theorem Kept.refl (n₀ bb : Nat) (W : World) : Kept n₀ bb W W := fun _ _ _ _ h _ => h
theorem Kept.trans {n₀ bb : Nat} {A B C : World} (h : Kept n₀ bb A B) (k : Kept n₀ bb B C) : Kept n₀ bb A C := fun i o h1 h2 h3 h4 => k i o h1 h2 (h i o h1 h2 h3 h4) h4
theorem Kept.of_below {n₀ bb : Nat} {A B : World} (h : Below A.heap.size A B) : Kept n₀ bb A B := fun i _ _ _ h3 _ => (h.block i (Array.getElem?_eq_some_iff.1 h3).1).trans h3
theorem Kept.row {n₀ bb : Nat} {A B : World} (h : Kept n₀ bb A B) {b : Nat} {t : TypeId} {cs : Array Value} (hr : Row A b t cs) (h1 : b < n₀) (h2 : b ≠ bb) (h3 : t ≠ 5) : Row B b t cs :=
  h b _ h1 h2 hr (fun c fz he => by injection he with _ ht; exact h3 ht)
theorem Kept.put {n₀ bb : Nat} (W : World) {l : Nat} (o : Obj) (hl : n₀ ≤ l) : Kept n₀ bb W (W.putObj l o) := fun _ _ _ _ h3 _ => (World.putObj_heap_other (by omega)).trans h3
theorem grownBy_of_below {A B : World} (h : Below A.heap.size A B) : A.grownBy B none := ⟨h.os, h.tape, h.output, h.size, fun k hk _ => h.block k hk⟩

/-- The nodes that the iterator reads. -/
structure Lain (w : World) (n₀ bb g : Nat) (l : List Seg) (nb : Nat → Nat) : Prop where
  row : ∃ cs, Row w g 95 cs ∧ ∀ i, i < l.length → cs[i]? = some (.pointer (some ⟨nb i, 0, none⟩))
  rowAt : g < n₀ ∧ g ≠ bb
  node : ∀ (i : Nat) (hi : i < l.length), ∃ cv, Row w (nb i) 117 #[.string (l[i]'hi).name, .int .i64 (l[i]'hi).size, .pointer (parPtr l nb i), cv]
  nodeAt : ∀ i, i < l.length → nb i < n₀ ∧ nb i ≠ bb
theorem Lain.kept {w w' : World} {n₀ bb g : Nat} {l : List Seg} {nb : Nat → Nat} (h : Lain w n₀ bb g l nb) (hk : Kept n₀ bb w w') : Lain w' n₀ bb g l nb := by
  obtain ⟨cs, hr, hc⟩ := h.row
  refine ⟨⟨cs, hk.row hr h.rowAt.1 h.rowAt.2 (by decide), hc⟩, h.rowAt, fun i hi => ?_, h.nodeAt⟩
  obtain ⟨cv, hn⟩ := h.node i hi
  exact ⟨cv, hk.row hn (h.nodeAt i hi).1 (h.nodeAt i hi).2 (by decide)⟩
theorem Lain.placed {w : World} {n₀ bb g : Nat} {l : List Seg} {nb : Nat → Nat} (h : Lain w n₀ bb g l nb) : Placed w l nb := fun j hj => by
  obtain ⟨cv, hn⟩ := h.node j hj
  refine ⟨hn.lt, ?_, hn.cell 2⟩
  rw [sizeAt_of hj]
  exact hn.cell 1

/-- What a round says, by the truth it hands back. -/
def YP {α : Type} (J Jx : List α → World → Prop) (Kp : World → World → Prop) (ys : List α) (W1 : World) (b : Bool) (W' : World) : Prop := if b then J ys W' ∧ Kp W1 W' else Jx ys W'

theorem YP.yes {α : Type} {J Jx : List α → World → Prop} {Kp : World → World → Prop} {ys : List α} {W1 W' : World} (h : YP J Jx Kp ys W1 true W') : J ys W' ∧ Kp W1 W' := by
  unfold YP at h
  rwa [if_pos rfl] at h
theorem YP.no {α : Type} {J Jx : List α → World → Prop} {Kp : World → World → Prop} {ys : List α} {W1 W' : World} (h : YP J Jx Kp ys W1 false W') : Jx ys W' := by
  unfold YP at h
  rwa [if_neg (by decide)] at h

def placeArgs (l : List Seg) (x : Ix l) : Array Value := #[.string (l[x.1]'x.2).name, .agg #[.int .i64 (begAt l x.1), .int .i64 (endAt l x.1)]]

end Go.Proofs.YtafpefjjeddmeaaGreat
/- The program's LiesAt. -/
namespace Go.Proofs.YtafpefjjeddmeaaGreat
open Go.RowKit Go.Shelf
attribute [local go_sem] Oper.semAt_some

/-- How many segments the program goes over. -/
def shown (l : List Seg) : Nat := if validB l = true then l.length else 0

theorem Nodes.lain {w' W : World} {B g bb : Nat} {l : List Seg} {nb : Nat → Nat} {cv : Nat → Value} (h : Nodes w' B g l.length l.length l nb cv) (hb : Below w'.heap.size w' W) (hbb : bb < B) : Lain W W.heap.size bb g l nb := by
  have h2 := h.below hb
  obtain ⟨cs, hr, _, hc⟩ := h2.row
  refine ⟨⟨cs, hr, hc⟩, ⟨hr.lt, by have := h.low.1; omega⟩, fun i hi => ⟨cv i, h2.node i _ hi (List.getElem?_eq_getElem hi)⟩, fun i hi => ⟨(h2.node i _ hi (List.getElem?_eq_getElem hi)).lt, by have := h.low.2 i hi; omega⟩⟩

/-- The bytes of the names that were told. -/
def toldB (l : List Seg) (a : Int) (ys : List (Ix l)) : List UInt8 := nameBytes l (ys.filter fun x => holdsB l a x.1)
theorem told_snoc (l : List Seg) (a : Int) (ys : List (Ix l)) (x : Ix l) : toldB l a (ys ++ [x]) = if holdsB l a x.1 = true then toldB l a ys ++ (l[x.1]'x.2).name.data.toList else toldB l a ys := by
  unfold toldB
  rw [List.filter_append]
  by_cases h : holdsB l a x.1 = true
  · rw [if_pos h, List.filter_cons, if_pos h]
    exact nameBytes_snoc l _ x
  · rw [if_neg h, List.filter_cons, if_neg h]
    simp
theorem told_all {l : List Seg} {a : Int} {ys : List (Ix l)} (h : ys.map (·.1) = List.range (shown l)) : (⟨(toldB l a ys).toArray⟩ : ByteArray) = overStr l a ∧ decide (0 < (toldB l a ys).length) = overOk l a := by
  have h1 : (toldB l a ys) = ((List.range (shown l)).filter (holdsB l a)).flatMap (nmAt l) := by
    unfold toldB
    rw [nameBytes_map, ← h, List.filter_map]
    rfl
  by_cases hv : validB l = true
  · have hs : shown l = l.length := if_pos hv
    rw [hs] at h1
    have h2 : (⟨(toldB l a ys).toArray⟩ : ByteArray) = overStr l a := by
      unfold overStr
      rw [if_pos hv, h1]
      rfl
    refine ⟨h2, ?_⟩
    rw [← overStr_size hv a, ← h2]
    rfl
  · have hs : shown l = 0 := if_neg hv
    rw [hs] at h1
    have h3 : toldB l a ys = [] := h1
    rw [h3]
    refine ⟨(if_neg hv).symm, ?_⟩
    unfold overOk
    rw [show validB l = false by simpa using hv]
    rfl
theorem shown_valid {l : List Seg} {n : Nat} (h : n < shown l) : validB l = true := Classical.byContradiction fun hv => by
  have : shown l = 0 := if_neg hv
  omega
theorem told_len {l : List Seg} (a : Int) (ys : List (Ix l)) (hv : validB l = true) : (toldB l a ys).length ≤ ys.length :=
  Nat.le_trans (nameBytes_len (valid_names hv) _) (List.length_filter_le _ _)
theorem shown_le {l : List Seg} : shown l ≤ 8 := by
  by_cases hv : validB l = true
  · have : shown l = l.length := if_pos hv
    have := (valid_all hv).2.1
    omega
  · have : shown l = 0 := if_neg hv
    omega

theorem kept_others {n₀ bb : Nat} {W W' : World} (h : Lib.OthersKept 5 (some bb) W W') : Kept n₀ bb W W' := fun k o _ h2 h3 h4 => h k o h3 (fun e => h2 (by cases e; rfl)) h4
theorem from_below {B : Nat} {W W' : World} (h : Below W.heap.size W W') : KeepsFrom B W W' := KeepsFrom.of_grownBy (grownBy_of_below h) (fun j e => by cases e)

theorem builder_cells {T e : TypeId} {B b : Nat} {bs : List Value} {w : World} (h : Lib.IsBuilderF T e B b bs w) : ∃ c, w.heap[b]? = some (.cells c T (0, 0)) := by
  rcases h with ⟨_, v, h2, _⟩ | ⟨_, v, h2, _⟩
  · exact ⟨_, h2⟩
  · exact ⟨_, h2⟩

/-- What the loop keeps. -/
structure Telling (w : World) (l : List Seg) (a : Int) (pre : List (Ix l)) (W : World) : Prop where
  text : Lib.IsBuilderF 58 5 (w.heap.size + 1) (w.heap.size + 1) (Lib.byteCells (toldB l a pre)) W
  box : Row W w.heap.size 3 #[.int .i64 a]
  below : Below w.heap.size w W
theorem Telling.grown {w W W' : World} {l : List Seg} {a : Int} {pre : List (Ix l)} {B : Nat} {row : Option Nat} (h : Telling w l a pre W) (hg : W.grownBy W' row) (hB : w.heap.size ≤ B) (hr : ∀ r, row = some r → B ≤ r ∧ ∃ o : Obj, W.heap[r]? = some o ∧ o.isCells = false) : Telling w l a pre W' :=
  ⟨isB_own _ _ _ _ B (fun _ : List Unit => Lib.byteCells (toldB l a pre)) [] W W' row h.text hg hr, row_grown h.box hg hr, h.below.grown hg h.below.size (fun k e => by have := (hr k e).1; omega)⟩
theorem Telling.below' {w W W' : World} {l : List Seg} {a : Int} {pre : List (Ix l)} (h : Telling w l a pre W) (hb : Below W.heap.size W W') : Telling w l a pre W' := h.grown (B := w.heap.size) (grownBy_of_below hb) (Nat.le_refl _) (fun r e => by cases e)

end Go.Proofs.YtafpefjjeddmeaaGreat
