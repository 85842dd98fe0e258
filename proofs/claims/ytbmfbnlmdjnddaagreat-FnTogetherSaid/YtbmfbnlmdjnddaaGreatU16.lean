/- Joined: Ga Gc Bh Ge Qd. -/
import Derived.Test.YtbmfbnlmdjnddaaGreatU06
import Derived.BigQuiet
import Derived.Test.YtbmfbnlmdjnddaaGreatU07
import Derived.Test.YtbmfbnlmdjnddaaGreatU02
import Derived.Laws.Rows
import Derived.Test.YtbmfbnlmdjnddaaGreatU05
import Derived.RangeFuncWrites
/- States, needs and what they load: no program. -/
namespace Go.Proofs.YtbmfbnlmdjnddaaGreat
open Go.RowKit

/-- All states of a tree: none is loaded, or a path. -/
def statesIx (l : List Seg) : List (List Nat) := [] :: (List.range l.length).map (rp l)
def IsState (l : List Seg) (T : List Nat) : Prop := T = [] ∨ ∃ j, j < l.length ∧ T = rp l j
theorem mem_states {l : List Seg} {T : List Nat} : T ∈ statesIx l ↔ IsState l T := by
  unfold statesIx IsState
  rw [List.mem_cons, List.mem_map]
  constructor
  · rintro (h | ⟨j, hj, h⟩)
    · exact .inl h
    · exact .inr ⟨j, List.mem_range.1 hj, h.symm⟩
  · rintro (h | ⟨j, hj, h⟩)
    · exact .inl h
    · exact .inr ⟨j, List.mem_range.2 hj, h.symm⟩
theorem IsState.lt {l : List Seg} (hd : Down l l.length) {T : List Nat} (h : IsState l T) : ∀ j ∈ T, j < l.length := by
  rcases h with rfl | ⟨i, hi, rfl⟩
  · intro j hj; cases hj
  · intro j hj
    have := rp_le hd i hi j hj
    omega
theorem IsState.asc {l : List Seg} (hd : Down l l.length) {T : List Nat} (h : IsState l T) : T.Pairwise (· < ·) := by
  rcases h with rfl | ⟨i, hi, rfl⟩
  · exact List.Pairwise.nil
  · exact rp_asc hd i hi
/-- The state that a text tells. -/
def stIx (l : List Seg) (s : ByteArray) : Option (List Nat) := if validB l = true then (statesIx l).find? (fun T => sameB (namesAt l T) s) else none
theorem stIx_some {l : List Seg} {s : ByteArray} {T : List Nat} (h : stIx l s = some T) : validB l = true ∧ IsState l T ∧ namesAt l T = s := by
  unfold stIx at h
  by_cases hv : validB l = true
  · rw [if_pos hv] at h
    exact ⟨hv, mem_states.1 (List.mem_of_find?_eq_some h), sameB_iff.1 (List.find?_some (p := fun T => sameB (namesAt l T) s) h)⟩
  · rw [if_neg hv] at h; cases h
theorem stIx_bad {l : List Seg} (s : ByteArray) (h : validB l = false) : stIx l s = none := if_neg (by rw [h]; decide)
def stOk (l : List Seg) (s : ByteArray) : Bool := (stIx l s).isSome
theorem stOk_bad {l : List Seg} (s : ByteArray) (h : validB l = false) : stOk l s = false := by unfold stOk; rw [stIx_bad s h]; rfl
theorem seek_nm {l : List Seg} (hv : validB l = true) {i : Nat} (hi : i < l.length) : indexB l (namesAt l [i]) = (i : Int) := by
  have h1 : indexB l (namesAt l [i]) = seek l (namesAt l [i]) := if_pos hv
  have h2 : 0 ≤ indexB l (namesAt l [i]) := by
    rw [h1]
    have key : ∀ (k : Nat), k ≤ i → seek l (namesAt l [i]) = seekFrom (namesAt l [i]) (l.drop k) k ∨ 0 ≤ seek l (namesAt l [i]) := by
      intro k
      induction k with
      | zero => intro _; exact .inl rfl
      | succ k ih =>
        intro hk
        rcases ih (by omega) with h | h
        · rw [seekFrom_drop l _ k (by omega)] at h
          by_cases hs : sameB (l[k]'(by omega)).name (namesAt l [i]) = true
          · rw [if_pos hs] at h; right; omega
          · rw [if_neg hs] at h; exact .inl h
        · exact .inr h
    rcases key i (Nat.le_refl _) with h | h
    · rw [seekFrom_drop l _ i hi, if_pos (sameB_iff.2 ?_)] at h
      · omega
      · rw [(nmAt_one hv hi).2]
        show _ = (⟨([i].flatMap (nmAt l)).toArray⟩ : ByteArray)
        rw [List.flatMap_cons, (nmAt_one hv hi).1]
        rfl
    · exact h
  have h3 := index_nm h2
  have h4 := namesAt_one_inj hv (index_lt h2) hi h3
  omega

end Go.Proofs.YtbmfbnlmdjnddaaGreat

/- Costs, needs one after the other, the cheapest need: no program. -/
namespace Go.Proofs.YtbmfbnlmdjnddaaGreat
open Go.RowKit

/-- Where the segment that a byte names stands. -/
def bSeek (l : List Seg) (b : UInt8) : Int := seek l ⟨#[b]⟩
def namedOk (l : List Seg) (bs : List UInt8) : Bool := bs.all (fun b => decide (0 ≤ bSeek l b))
def namedJs (l : List Seg) (bs : List UInt8) : List Nat := bs.map (fun b => (bSeek l b).toNat)
theorem namedOk_snoc (l : List Seg) (bs : List UInt8) (b : UInt8) : namedOk l (bs ++ [b]) = (namedOk l bs && decide (0 ≤ bSeek l b)) := by
  unfold namedOk
  rw [List.all_append]
  simp
theorem namedJs_snoc (l : List Seg) (bs : List UInt8) (b : UInt8) : namedJs l (bs ++ [b]) = namedJs l bs ++ [(bSeek l b).toNat] := by
  unfold namedJs
  rw [List.map_append]
  rfl
theorem namedOk_bad {l : List Seg} {bs : List UInt8} {b : UInt8} (h : b ∈ bs) (hb : bSeek l b < 0) : namedOk l bs = false := by
  unfold namedOk
  rw [List.all_eq_false]
  exact ⟨b, h, by simp; omega⟩
theorem namedJs_lt {l : List Seg} {bs : List UInt8} (h : namedOk l bs = true) : ∀ j ∈ namedJs l bs, j < l.length := by
  intro j hj
  obtain ⟨b, hb, rfl⟩ := List.mem_map.1 hj
  have h1 := List.all_eq_true.1 h b hb
  have h2 : 0 ≤ bSeek l b := by simpa using h1
  rcases seek_bd l ⟨#[b]⟩ with h3 | ⟨_, h3⟩
  · unfold bSeek at h2; omega
  · unfold bSeek at *; omega
theorem bSeek_byte {l : List Seg} (hv : validB l = true) {i : Nat} (hi : i < l.length) : bSeek l (byteOf l i) = (i : Int) := by
  have h := seek_nm hv hi
  have h1 : namesAt l [i] = ⟨#[byteOf l i]⟩ := by
    show (⟨([i].flatMap (nmAt l)).toArray⟩ : ByteArray) = _
    rw [List.flatMap_cons, (nmAt_one hv hi).1]
    rfl
  rw [h1] at h
  have h2 : indexB l ⟨#[byteOf l i]⟩ = seek l ⟨#[byteOf l i]⟩ := if_pos hv
  unfold bSeek
  omega
def stT (l : List Seg) (s : ByteArray) : List Nat := (stIx l s).getD []
end Go.Proofs.YtbmfbnlmdjnddaaGreat
/- The model's side of loading: states and needs. -/
namespace Go.Proofs.YtbmfbnlmdjnddaaGreat
open Go.RowKit

end Go.Proofs.YtbmfbnlmdjnddaaGreat

/- The model's NeedOf, DropsOf, CostOf, LoadCost. -/
namespace Go.Proofs.YtbmfbnlmdjnddaaGreat
open Go.RowKit

theorem named_take {l : List Seg} (s : ByteArray) {k : Nat} (h : k < s.size) : namedOk l (s.data.toList.take (k + 1)) = (namedOk l (s.data.toList.take k) && decide (0 ≤ bSeek l s[k])) ∧ namedJs l (s.data.toList.take (k + 1)) = namedJs l (s.data.toList.take k) ++ [(bSeek l s[k]).toNat] := by
  have e : s.data.toList.take (k + 1) = s.data.toList.take k ++ [s[k]] := by
    rw [List.take_succ_eq_append_getElem (by simpa using h)]
    rfl
  rw [e, namedOk_snoc, namedJs_snoc]
  exact ⟨rfl, rfl⟩
theorem one_byte (s : ByteArray) {k : Nat} (h : k < s.size) : s.extract k (k + 1) = ⟨#[s[k]]⟩ := by
  apply ByteArray.ext
  apply Array.ext'
  have : s.data.toList.drop k = s[k] :: s.data.toList.drop (k + 1) := List.drop_eq_getElem_cons (by simpa using h)
  simp [ByteArray.data_extract, this]
theorem bSeek_bd (l : List Seg) (b : UInt8) : bSeek l b = -1 ∨ (0 ≤ bSeek l b ∧ bSeek l b < l.length) := seek_bd l _

end Go.Proofs.YtbmfbnlmdjnddaaGreat
/- Sets of segments as bits, and chains that lie together: plain. -/
namespace Go.Proofs.YtbmfbnlmdjnddaaGreat
open Go.RowKit

/-- A set of eight as bits. -/
def setF (f : Nat → Bool) : Nat := (f 0).toNat + 2 * (f 1).toNat + 4 * (f 2).toNat + 8 * (f 3).toNat + 16 * (f 4).toNat + 32 * (f 5).toNat + 64 * (f 6).toNat + 128 * (f 7).toNat
theorem setF_lt (f : Nat → Bool) : setF f < 256 := by
  unfold setF
  have h : ∀ b : Bool, b.toNat ≤ 1 := fun b => by cases b <;> decide
  have := h (f 0); have := h (f 1); have := h (f 2); have := h (f 3); have := h (f 4); have := h (f 5); have := h (f 6); have := h (f 7)
  omega
theorem set_brute : ∀ b0 b1 b2 b3 b4 b5 b6 b7 : Bool,
    (b0.toNat + 2 * b1.toNat + 4 * b2.toNat + 8 * b3.toNat + 16 * b4.toNat + 32 * b5.toNat + 64 * b6.toNat + 128 * b7.toNat).testBit 0 = b0 ∧
    (b0.toNat + 2 * b1.toNat + 4 * b2.toNat + 8 * b3.toNat + 16 * b4.toNat + 32 * b5.toNat + 64 * b6.toNat + 128 * b7.toNat).testBit 1 = b1 ∧
    (b0.toNat + 2 * b1.toNat + 4 * b2.toNat + 8 * b3.toNat + 16 * b4.toNat + 32 * b5.toNat + 64 * b6.toNat + 128 * b7.toNat).testBit 2 = b2 ∧
    (b0.toNat + 2 * b1.toNat + 4 * b2.toNat + 8 * b3.toNat + 16 * b4.toNat + 32 * b5.toNat + 64 * b6.toNat + 128 * b7.toNat).testBit 3 = b3 ∧
    (b0.toNat + 2 * b1.toNat + 4 * b2.toNat + 8 * b3.toNat + 16 * b4.toNat + 32 * b5.toNat + 64 * b6.toNat + 128 * b7.toNat).testBit 4 = b4 ∧
    (b0.toNat + 2 * b1.toNat + 4 * b2.toNat + 8 * b3.toNat + 16 * b4.toNat + 32 * b5.toNat + 64 * b6.toNat + 128 * b7.toNat).testBit 5 = b5 ∧
    (b0.toNat + 2 * b1.toNat + 4 * b2.toNat + 8 * b3.toNat + 16 * b4.toNat + 32 * b5.toNat + 64 * b6.toNat + 128 * b7.toNat).testBit 6 = b6 ∧
    (b0.toNat + 2 * b1.toNat + 4 * b2.toNat + 8 * b3.toNat + 16 * b4.toNat + 32 * b5.toNat + 64 * b6.toNat + 128 * b7.toNat).testBit 7 = b7 := by
  decide +kernel
theorem setF_bit (f : Nat → Bool) (i : Nat) : (setF f).testBit i = (decide (i < 8) && f i) := by
  by_cases hi : i < 8
  · rw [decide_eq_true hi, Bool.true_and]
    obtain ⟨h0, h1, h2, h3, h4, h5, h6, h7⟩ := set_brute (f 0) (f 1) (f 2) (f 3) (f 4) (f 5) (f 6) (f 7)
    unfold setF
    have : i = 0 ∨ i = 1 ∨ i = 2 ∨ i = 3 ∨ i = 4 ∨ i = 5 ∨ i = 6 ∨ i = 7 := by omega
    rcases this with rfl | rfl | rfl | rfl | rfl | rfl | rfl | rfl <;> assumption
  · rw [decide_eq_false hi, Bool.false_and]
    exact Nat.testBit_lt_two_pow (Nat.lt_of_lt_of_le (setF_lt f) (Nat.pow_le_pow_right (n := 2) (by decide) (by omega : 8 ≤ i)))
theorem setF_congr {f g : Nat → Bool} (h : ∀ i, i < 8 → f i = g i) : setF f = setF g := by
  unfold setF
  rw [h 0 (by decide), h 1 (by decide), h 2 (by decide), h 3 (by decide), h 4 (by decide), h 5 (by decide), h 6 (by decide), h 7 (by decide)]
theorem setF_with (f : Nat → Bool) {i : Nat} (hi : i < 8) : setF f ||| 2 ^ i = setF (fun j => f j || decide (j = i)) := by
  apply Nat.eq_of_testBit_eq
  intro j
  rw [Nat.testBit_or, setF_bit, setF_bit, Nat.testBit_two_pow]
  by_cases hj : j < 8
  · rw [decide_eq_true hj, Bool.true_and, Bool.true_and]
    congr 1
    exact decide_eq_decide.2 ⟨fun h => h.symm, fun h => h.symm⟩
  · rw [decide_eq_false hj, Bool.false_and, Bool.false_and, Bool.false_or]
    exact decide_eq_false (by omega)
theorem setF_joined (f g : Nat → Bool) : setF f ||| setF g = setF (fun j => f j || g j) := by
  apply Nat.eq_of_testBit_eq
  intro j
  rw [Nat.testBit_or, setF_bit, setF_bit, setF_bit]
  cases decide (j < 8) <;> simp
theorem setF_and (f : Nat → Bool) {i : Nat} (hi : i < 8) : setF f &&& 2 ^ i = if f i = true then 2 ^ i else 0 := by
  apply Nat.eq_of_testBit_eq
  intro j
  rw [Nat.testBit_and, setF_bit, Nat.testBit_two_pow]
  by_cases hj : i = j
  · subst hj
    rw [decide_eq_true hi, decide_eq_true rfl, Bool.true_and, Bool.and_true]
    cases f i with
    | false => simp
    | true => rw [if_pos rfl, Nat.testBit_two_pow, decide_eq_true rfl]
  · rw [decide_eq_false hj, Bool.and_false]
    cases f i with
    | false => simp
    | true => rw [if_pos rfl, Nat.testBit_two_pow, decide_eq_false hj]
theorem setF_has (f : Nat → Bool) {i : Nat} (hi : i < 8) : (setF f &&& 2 ^ i != 0) = f i := by
  rw [setF_and f hi]
  have hp : 0 < 2 ^ i := Nat.pow_pos (by decide)
  cases f i with
  | false => simp
  | true =>
    rw [if_pos rfl, bne_iff_ne]
    omega

/-- Whether two segments lie together, by their indices. -/
def lieIx (l : List Seg) (a b : Nat) : Bool := decide (a ∈ rp l b) || decide (b ∈ rp l a)
theorem lieIx_comm (l : List Seg) (a b : Nat) : lieIx l a b = lieIx l b a := Bool.or_comm _ _
theorem lieIx_self (l : List Seg) (a : Nat) : lieIx l a a = true := by
  have : a ∈ rp l a := List.mem_append.2 (.inr (List.mem_singleton.2 rfl))
  unfold lieIx
  rw [decide_eq_true this]
  rfl
theorem kindIx_side (l : List Seg) (a b : Nat) : decide (kindIx l a b = 2) = !lieIx l a b := by
  unfold kindIx lieIx
  by_cases h1 : b ∈ rp l a
  · rw [if_pos h1]; simp [h1]
  · rw [if_neg h1]
    by_cases h2 : a ∈ rp l b
    · rw [if_pos h2]; simp [h2]
    · rw [if_neg h2]; simp [h1, h2]
theorem lieB_bytes {l : List Seg} (hv : validB l = true) {u v : UInt8} : lieB l ⟨#[u]⟩ ⟨#[v]⟩ = (decide (0 ≤ bSeek l u) && decide (0 ≤ bSeek l v) && lieIx l (bSeek l u).toNat (bSeek l v).toNat) := by
  have h1 : indexB l ⟨#[u]⟩ = bSeek l u := if_pos hv
  have h2 : indexB l ⟨#[v]⟩ = bSeek l v := if_pos hv
  unfold lieB comOk hasSeg pathIx lieIx
  rw [h1, h2]
/-- Whether the segments that a text names lie together, as the reference asks. -/
def liesTo (l : List Seg) (s : ByteArray) (i n : Nat) : Bool := (List.range n).all fun k => lieB l (s.extract k (k + 1)) (s.extract i (i + 1))
def liesUp (l : List Seg) (s : ByteArray) (n : Nat) : Bool := (List.range n).all fun i => liesTo l s i (i + 1)
def liesB (l : List Seg) (s : ByteArray) : Bool := liesUp l s s.size && validB l
theorem liesTo_succ (l : List Seg) (s : ByteArray) (i n : Nat) : liesTo l s i (n + 1) = (liesTo l s i n && lieB l (s.extract n (n + 1)) (s.extract i (i + 1))) := by
  unfold liesTo
  rw [List.range_succ, List.all_append]
  simp
theorem liesUp_succ (l : List Seg) (s : ByteArray) (n : Nat) : liesUp l s (n + 1) = (liesUp l s n && liesTo l s n (n + 1)) := by
  unfold liesUp
  rw [List.range_succ, List.all_append]
  simp
theorem all_range {n : Nat} {p : Nat → Bool} : (List.range n).all p = true ↔ ∀ i, i < n → p i = true := by
  rw [List.all_eq_true]
  exact ⟨fun h i hi => h i (List.mem_range.2 hi), fun h i hi => h i (List.mem_range.1 hi)⟩
theorem liesTo_false {l : List Seg} {s : ByteArray} {i n k : Nat} (hk : k < n) (h : lieB l (s.extract k (k + 1)) (s.extract i (i + 1)) = false) : liesTo l s i n = false := by
  rw [Bool.eq_false_iff]
  intro h'
  rw [all_range.1 h' k hk] at h
  cases h
theorem liesB_false {l : List Seg} {s : ByteArray} {i : Nat} (hi : i < s.size) (h : liesTo l s i (i + 1) = false) : liesB l s = false := by
  rw [Bool.eq_false_iff]
  intro h'
  unfold liesB at h'
  rw [Bool.and_eq_true] at h'
  rw [all_range.1 h'.1 i hi] at h
  cases h
/-- Whether the segments of a set lie together. -/
def togeB (l : List Seg) (f : Nat → Bool) : Bool := (List.range l.length).all fun i => (List.range i).all fun j => !(f i && f j && decide (kindIx l i j = 2))
theorem liesB_bad {l : List Seg} (hv : validB l = false) (s : ByteArray) : liesB l s = false := by
  unfold liesB
  rw [hv, Bool.and_false]
theorem liesB_unnamed {l : List Seg} (hv : validB l = true) {s : ByteArray} (h : namedOk l s.data.toList = false) : liesB l s = false := by
  unfold namedOk at h
  rw [List.all_eq_false] at h
  obtain ⟨b, hb, hn⟩ := h
  obtain ⟨i, hi, he⟩ := List.getElem_of_mem hb
  have hi' : i < s.size := by simpa using hi
  refine liesB_false hi' (liesTo_false (Nat.lt_succ_self i) ?_)
  rw [one_byte s hi', show s[i] = b from he, lieB_bytes hv, Bool.eq_false_iff.2 hn]
  rfl
theorem liesB_named {l : List Seg} (hv : validB l = true) {s : ByteArray} (h : namedOk l s.data.toList = true) : liesB l s = togeB l (fun i => decide (i ∈ namedJs l s.data.toList)) := by
  have hnm : ∀ k (hk : k < s.size), 0 ≤ bSeek l s[k] := fun k hk => by
    have := List.all_eq_true.1 h s[k] (List.getElem_mem (l := s.data.toList) (by simpa using hk))
    exact of_decide_eq_true this
  have hlie : ∀ i k (hi : i < s.size) (hk : k < s.size), lieB l (s.extract k (k + 1)) (s.extract i (i + 1)) = lieIx l (bSeek l s[k]).toNat (bSeek l s[i]).toNat := fun i k hi hk => by
    rw [one_byte s hi, one_byte s hk, lieB_bytes hv, decide_eq_true (hnm k hk), decide_eq_true (hnm i hi)]
    rfl
  rw [Bool.eq_iff_iff]
  unfold liesB
  rw [hv, Bool.and_true]
  unfold liesUp togeB
  rw [all_range, all_range]
  constructor
  · intro H i hi
    rw [all_range]
    intro j hj
    show (!(decide (i ∈ namedJs l s.data.toList) && decide (j ∈ namedJs l s.data.toList) && decide (kindIx l i j = 2))) = true
    cases h1 : decide (i ∈ namedJs l s.data.toList) with
    | false => rfl
    | true =>
      cases h2 : decide (j ∈ namedJs l s.data.toList) with
      | false => rfl
      | true =>
        obtain ⟨u, hu, he⟩ := List.mem_map.1 (of_decide_eq_true h1)
        obtain ⟨v, hv', he'⟩ := List.mem_map.1 (of_decide_eq_true h2)
        obtain ⟨p, hp, hpe⟩ := List.getElem_of_mem hu
        obtain ⟨q, hq, hqe⟩ := List.getElem_of_mem hv'
        have hp' : p < s.size := by simpa using hp
        have hq' : q < s.size := by simpa using hq
        have key : lieIx l i j = true := by
          rcases Nat.le_total q p with hle | hle
          · have := all_range.1 (H p hp') q (by omega)
            rw [hlie p q hp' hq', show s[q] = v from hqe, show s[p] = u from hpe, he, he'] at this
            rw [lieIx_comm]; exact this
          · have := all_range.1 (H q hq') p (by omega)
            rw [hlie q p hq' hp', show s[q] = v from hqe, show s[p] = u from hpe, he, he'] at this
            exact this
        rw [kindIx_side, key]
        rfl
  · intro H i hi
    unfold liesTo
    rw [all_range]
    intro k hk
    have hk' : k < s.size := by omega
    rw [hlie i k hi hk']
    have m1 : (bSeek l s[i]).toNat ∈ namedJs l s.data.toList := List.mem_map.2 ⟨s[i], List.getElem_mem (l := s.data.toList) (by simpa using hi), rfl⟩
    have m2 : (bSeek l s[k]).toNat ∈ namedJs l s.data.toList := List.mem_map.2 ⟨s[k], List.getElem_mem (l := s.data.toList) (by simpa using hk'), rfl⟩
    have l1 := namedJs_lt h _ m1
    have l2 := namedJs_lt h _ m2
    generalize (bSeek l s[i]).toNat = a at *
    generalize (bSeek l s[k]).toNat = b at *
    rcases Nat.lt_trichotomy a b with hab | hab | hab
    · have := all_range.1 (H b l2) a hab
      dsimp only at this
      rw [decide_eq_true m1, decide_eq_true m2, kindIx_side] at this
      simpa using this
    · rw [hab]; exact lieIx_self l b
    · have := all_range.1 (H a l1) b hab
      dsimp only at this
      rw [decide_eq_true m1, decide_eq_true m2, kindIx_side] at this
      rw [lieIx_comm]
      simpa using this

end Go.Proofs.YtbmfbnlmdjnddaaGreat
/- A state as an array of eight truths: what is in one and not in another. -/
namespace Go.Proofs.YtbmfbnlmdjnddaaGreat
open Go.RowKit

def bitCells (f : Nat → Bool) : Array Value := #[.bool (f 0), .bool (f 1), .bool (f 2), .bool (f 3), .bool (f 4), .bool (f 5), .bool (f 6), .bool (f 7)]
def bitsV (f : Nat → Bool) : Value := .agg (bitCells f)
theorem bits_at (f : Nat → Bool) {k : Nat} (h : k < 8) : (bitCells f)[k]? = some (.bool (f k)) := by
  match k, h with
  | 0, _ => rfl
  | 1, _ => rfl
  | 2, _ => rfl
  | 3, _ => rfl
  | 4, _ => rfl
  | 5, _ => rfl
  | 6, _ => rfl
  | 7, _ => rfl
theorem bits_set (f : Nat → Bool) {k : Nat} (h : k < 8) (b : Bool) : (bitCells f).setIfInBounds k (.bool b) = bitCells (fun j => if j = k then b else f j) := by
  match k, h with
  | 0, _ => rfl
  | 1, _ => rfl
  | 2, _ => rfl
  | 3, _ => rfl
  | 4, _ => rfl
  | 5, _ => rfl
  | 6, _ => rfl
  | 7, _ => rfl
theorem bits_congr {f g : Nat → Bool} (h : ∀ j, j < 8 → f j = g j) : bitCells f = bitCells g := by
  unfold bitCells
  rw [h 0 (by decide), h 1 (by decide), h 2 (by decide), h 3 (by decide), h 4 (by decide), h 5 (by decide), h 6 (by decide), h 7 (by decide)]
theorem run_loadState {w : World} {b : Nat} {f : Nat → Bool} (h : Row w b 79 (bitCells f)) : (loadVar 79 ⟨b, 0, none⟩).run Tryz.prog w = .ok (bitsV f) w :=
  run_loadVar_row w b 79 79 (bitCells f) (0, 0) _ h Tryz.underlying79 rfl (by kernel_rfl)
theorem bits_cells {t : TypeId} {w : World} {b : Nat} {f : Nat → Bool} (h : Row w b t (bitCells f)) : (w.cell? ⟨b, 0, none⟩ = some (.bool (f 0)) ∧ w.cell? ⟨b, 1, none⟩ = some (.bool (f 1)) ∧ w.cell? ⟨b, 2, none⟩ = some (.bool (f 2)) ∧ w.cell? ⟨b, 3, none⟩ = some (.bool (f 3))) ∧
    (w.cell? ⟨b, 4, none⟩ = some (.bool (f 4)) ∧ w.cell? ⟨b, 5, none⟩ = some (.bool (f 5)) ∧ w.cell? ⟨b, 6, none⟩ = some (.bool (f 6)) ∧ w.cell? ⟨b, 7, none⟩ = some (.bool (f 7))) :=
  ⟨⟨h.cell 0, h.cell 1, h.cell 2, h.cell 3⟩, h.cell 4, h.cell 5, h.cell 6, h.cell 7⟩
/-- The world behind a store of a whole state. -/
def putBits (w : World) (b : Nat) (f : Nat → Bool) : World :=
  (((((((w.setCell ⟨b, 0, none⟩ (.bool (f 0))).setCell ⟨b, 1, none⟩ (.bool (f 1))).setCell ⟨b, 2, none⟩ (.bool (f 2))).setCell ⟨b, 3, none⟩ (.bool (f 3))).setCell ⟨b, 4, none⟩ (.bool (f 4))).setCell ⟨b, 5, none⟩ (.bool (f 5))).setCell ⟨b, 6, none⟩ (.bool (f 6))).setCell ⟨b, 7, none⟩ (.bool (f 7))
def upTo (f g : Nat → Bool) (k j : Nat) : Bool := if j < k then f j else g j
theorem upTo_step {t : TypeId} {w : World} {b k : Nat} {f g : Nat → Bool} (h : Row w b t (bitCells (upTo f g k))) (hk : k < 8) : Row (w.setCell ⟨b, k, none⟩ (.bool (f k))) b t (bitCells (upTo f g (k + 1))) := by
  have h1 := h.put k (.bool (f k))
  rw [bits_set _ hk] at h1
  rw [bits_congr (f := upTo f g (k + 1)) (g := fun j => if j = k then f k else upTo f g k j)]
  · exact h1
  · intro j _
    unfold upTo
    by_cases e : j = k
    · subst e
      rw [if_pos (by omega), if_pos rfl]
    · rw [if_neg e]
      by_cases e2 : j < k
      · rw [if_pos e2, if_pos (by omega)]
      · rw [if_neg e2, if_neg (by omega)]
theorem putBits_row {t : TypeId} {w : World} {b : Nat} {f g : Nat → Bool} (h : Row w b t (bitCells g)) : Row (putBits w b f) b t (bitCells f) := by
  have h0 : Row w b t (bitCells (upTo f g 0)) := h
  have h8 := upTo_step (upTo_step (upTo_step (upTo_step (upTo_step (upTo_step (upTo_step (upTo_step h0 (by decide)) (by decide)) (by decide)) (by decide)) (by decide)) (by decide)) (by decide)) (by decide)
  rw [bits_congr (f := f) (g := upTo f g 8) (fun j hj => (if_pos hj).symm)]
  exact h8
theorem putBits_far {w : World} {b b' : Nat} {f : Nat → Bool} {t : TypeId} {cs : Array Value} (h : Row w b' t cs) (hne : b' ≠ b) : Row (putBits w b f) b' t cs :=
  (((((((h.far (p := ⟨b, 0, none⟩) hne _).far (p := ⟨b, 1, none⟩) hne _).far (p := ⟨b, 2, none⟩) hne _).far (p := ⟨b, 3, none⟩) hne _).far (p := ⟨b, 4, none⟩) hne _).far (p := ⟨b, 5, none⟩) hne _).far (p := ⟨b, 6, none⟩) hne _).far (p := ⟨b, 7, none⟩) hne _
theorem putBits_block (w : World) (b : Nat) (f : Nat → Bool) {k : Nat} (h : k ≠ b) : (putBits w b f).heap[k]? = w.heap[k]? := by
  unfold putBits
  rw [Below.heap_setCell _ ⟨b, 7, none⟩ _ k h, Below.heap_setCell _ ⟨b, 6, none⟩ _ k h, Below.heap_setCell _ ⟨b, 5, none⟩ _ k h, Below.heap_setCell _ ⟨b, 4, none⟩ _ k h, Below.heap_setCell _ ⟨b, 3, none⟩ _ k h, Below.heap_setCell _ ⟨b, 2, none⟩ _ k h, Below.heap_setCell _ ⟨b, 1, none⟩ _ k h, Below.heap_setCell _ ⟨b, 0, none⟩ _ k h]
theorem putBits_below {w0 w : World} {B b : Nat} {f : Nat → Bool} (h : Below B w0 w) (hb : B ≤ b) : Below B w0 (putBits w b f) :=
  (((((((h.setCell (p := ⟨b, 0, none⟩) hb _).setCell (p := ⟨b, 1, none⟩) hb _).setCell (p := ⟨b, 2, none⟩) hb _).setCell (p := ⟨b, 3, none⟩) hb _).setCell (p := ⟨b, 4, none⟩) hb _).setCell (p := ⟨b, 5, none⟩) hb _).setCell (p := ⟨b, 6, none⟩) hb _).setCell (p := ⟨b, 7, none⟩) hb _

end Go.Proofs.YtbmfbnlmdjnddaaGreat
/- Where nodes lie, yielded one by one. -/
namespace Go.Proofs.YtbmfbnlmdjnddaaGreat
open Go.RowKit Go.Shelf
attribute [local go_sem] Oper.semAt_some

/-- All blocks below 'n₀' but 'bb', rows of bytes aside, lie as they lay. -/
def Kept (n₀ bb : Nat) (W W' : World) : Prop := ∀ (k : Nat) (o : Obj), k < n₀ → k ≠ bb → W.heap[k]? = some o → (∀ c fz, o ≠ .cells c 5 fz) → W'.heap[k]? = some o
theorem Kept.refl (n₀ bb : Nat) (W : World) : Kept n₀ bb W W := fun _ _ _ _ h _ => h
theorem Kept.trans {n₀ bb : Nat} {A B C : World} (h : Kept n₀ bb A B) (k : Kept n₀ bb B C) : Kept n₀ bb A C := fun i o h1 h2 h3 h4 => k i o h1 h2 (h i o h1 h2 h3 h4) h4
theorem Kept.of_below {n₀ bb : Nat} {A B : World} (h : Below A.heap.size A B) : Kept n₀ bb A B := fun i _ _ _ h3 _ => (h.block i (Array.getElem?_eq_some_iff.1 h3).1).trans h3
theorem Kept.row {n₀ bb : Nat} {A B : World} (h : Kept n₀ bb A B) {b : Nat} {t : TypeId} {cs : Array Value} (hr : Row A b t cs) (h1 : b < n₀) (h2 : b ≠ bb) (h3 : t ≠ 5) : Row B b t cs :=
  h b _ h1 h2 hr (fun c fz he => by injection he with _ ht; exact h3 ht)
theorem Kept.put {n₀ bb : Nat} (W : World) {l : Nat} (o : Obj) (hl : n₀ ≤ l) : Kept n₀ bb W (W.putObj l o) := fun _ _ _ _ h3 _ => (World.putObj_heap_other (by omega)).trans h3
theorem grownBy_of_below {A B : World} (h : Below A.heap.size A B) : A.grownBy B none := ⟨h.os, h.tape, h.output, h.size, fun k hk _ => h.block k hk⟩

/-- The nodes that the iterator reads. -/
structure Lain (w : World) (n₀ bb g : Nat) (l : List Seg) (nb : Nat → Nat) : Prop where
  row : ∃ cs, Row w g 89 cs ∧ ∀ i, i < l.length → cs[i]? = some (.pointer (some ⟨nb i, 0, none⟩))
  rowAt : g < n₀ ∧ g ≠ bb
  node : ∀ (i : Nat) (hi : i < l.length), ∃ cv, Row w (nb i) 128 #[.string (l[i]'hi).name, .int .i64 (l[i]'hi).size, .pointer (parPtr l nb i), cv]
  nodeAt : ∀ i, i < l.length → nb i < n₀ ∧ nb i ≠ bb
theorem Lain.kept {w w' : World} {n₀ bb g : Nat} {l : List Seg} {nb : Nat → Nat} (h : Lain w n₀ bb g l nb) (hk : Kept n₀ bb w w') : Lain w' n₀ bb g l nb := by
  obtain ⟨cs, hr, hc⟩ := h.row
  refine ⟨⟨cs, hk.row hr h.rowAt.1 h.rowAt.2 (by decide), hc⟩, h.rowAt, fun i hi => ?_, h.nodeAt⟩
  obtain ⟨cv, hn⟩ := h.node i hi
  exact ⟨cv, hk.row hn (h.nodeAt i hi).1 (h.nodeAt i hi).2 (by decide)⟩
/-- What a round says, by the truth it hands back. -/
def YP {α : Type} (J Jx : List α → World → Prop) (Kp : World → World → Prop) (ys : List α) (W1 : World) (b : Bool) (W' : World) : Prop := if b then J ys W' ∧ Kp W1 W' else Jx ys W'

theorem YP.yes {α : Type} {J Jx : List α → World → Prop} {Kp : World → World → Prop} {ys : List α} {W1 W' : World} (h : YP J Jx Kp ys W1 true W') : J ys W' ∧ Kp W1 W' := by
  unfold YP at h
  rwa [if_pos rfl] at h
theorem YP.no {α : Type} {J Jx : List α → World → Prop} {Kp : World → World → Prop} {ys : List α} {W1 W' : World} (h : YP J Jx Kp ys W1 false W') : Jx ys W' := by
  unfold YP at h
  rwa [if_neg (by decide)] at h

theorem from_below {B : Nat} {W W' : World} (h : Below W.heap.size W W') : KeepsFrom B W W' := KeepsFrom.of_grownBy (grownBy_of_below h) (fun j e => by cases e)
theorem builder_cells {T e : TypeId} {B b : Nat} {bs : List Value} {w : World} (h : Lib.IsBuilderF T e B b bs w) : ∃ c, w.heap[b]? = some (.cells c T (0, 0)) := by
  rcases h with ⟨_, v, h2, _⟩ | ⟨_, v, h2, _⟩
  · exact ⟨_, h2⟩
  · exact ⟨_, h2⟩


end Go.Proofs.YtbmfbnlmdjnddaaGreat
