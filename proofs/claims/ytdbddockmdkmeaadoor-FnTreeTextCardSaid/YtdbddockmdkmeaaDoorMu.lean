/- The text of a tree, plain. -/
import Derived.Test.YtdbddockmdkmeaaDoorMj
import Derived.Test.YtdbddockmdkmeaaDoorTt
import Derived.Test.YtdbddockmdkmeaaDoorNd
import Derived.Test.YtdbddockmdkmeaaDoorIx
namespace Go.Proofs.YtdbddockmdkmeaaDoor
open Go.RowKit

/-- Texts with commas between them. -/
def joinC : List (List UInt8) → List UInt8
  | [] => []
  | x :: r => x ++ r.flatMap fun y => 44 :: y
theorem joinC_snoc (xs : List (List UInt8)) (y : List UInt8) : joinC (xs ++ [y]) = if xs = [] then y else joinC xs ++ 44 :: y := by
  cases xs with
  | nil => simp [joinC]
  | cons x r => simp [joinC]
theorem joinC_len (b : Nat) : ∀ xs : List (List UInt8), (∀ x ∈ xs, x.length ≤ b) → (joinC xs).length ≤ xs.length * (b + 1) := by
  intro xs h
  cases xs with
  | nil => simp [joinC]
  | cons x r =>
    have h1 := h x (by simp)
    have h2 : ∀ r : List (List UInt8), (∀ x ∈ r, x.length ≤ b) → (r.flatMap fun y => (44 : UInt8) :: y).length ≤ r.length * (b + 1) := by
      intro r
      induction r with
      | nil => intro _; simp
      | cons y r ih =>
        intro hr
        have i1 := ih fun x hx => hr x (List.mem_cons_of_mem _ hx)
        have i2 := hr y (by simp)
        rw [List.flatMap_cons, List.length_append, List.length_cons, List.length_cons, Nat.succ_mul]
        omega
    have h3 := h2 r fun x hx => h x (List.mem_cons_of_mem _ hx)
    rw [joinC, List.length_append, List.length_cons, Nat.succ_mul]
    omega
def nameB (l : List Seg) (i : Nat) : List UInt8 := match l[i]? with
  | some s => s.name.data.toList
  | none => []
/-- The text of a segment and of all below it. -/
def textT (l : List Seg) : Nat → Nat → List UInt8
  | 0, _ => []
  | f + 1, i => nameB l i ++ Lib.itoa (sizeAt l i) ++ (if kidsOf l i l.length = [] then [] else 40 :: (joinC ((kidsOf l i l.length).map (textT l f)) ++ [41]))
theorem textT_succ (l : List Seg) (f i : Nat) : textT l (f + 1) i = nameB l i ++ Lib.itoa (sizeAt l i) ++ (if kidsOf l i l.length = [] then [] else 40 :: (joinC ((kidsOf l i l.length).map (textT l f)) ++ [41])) := rfl
theorem itoa_99 {n : Int} (h1 : 1 ≤ n) (h2 : n ≤ 99) : (Lib.itoa n).length ≤ 2 := by
  unfold Lib.itoa
  rw [if_neg (by omega), Lib.decDigits_length]
  by_cases h : n.toNat < 10
  · rw [Lib.nDigits_small h]; omega
  · rw [Lib.nDigits_big h, Lib.nDigits_small (by omega)]; omega
theorem nameB_len {l : List Seg} (hv : validB l = true) {i : Nat} (hi : i < l.length) : (nameB l i).length = 1 := by
  have h := (valid_all hv).1 i hi
  unfold segOk at h
  unfold nameB
  rw [List.getElem?_eq_getElem hi] at h ⊢
  simp only [Bool.and_eq_true] at h
  obtain ⟨c, e, _, _⟩ := nameOk_one h.1.1.1
  show l[i].name.data.toList.length = 1
  rw [e]; rfl
theorem sizeAt_in {l : List Seg} (hv : validB l = true) {i : Nat} (hi : i < l.length) : 1 ≤ sizeAt l i ∧ sizeAt l i ≤ 99 := by
  rw [sizeAt_of hi]
  exact valid_size hv hi
theorem kids_lt {l : List Seg} (hv : validB l = true) {i j : Nat} (hj : j ∈ kidsOf l i l.length) : i < j ∧ j < l.length := by
  have h1 := kidsOf_lt hj
  have h2 := kidsOf_par hj
  have h3 := (AllOk.down (valid_all hv).1) j h1
  omega
theorem kids_seven {l : List Seg} (hv : validB l = true) (i : Nat) : (kidsOf l i l.length).length ≤ 7 := by
  have h8 := (valid_all hv).2.1
  have h1 := (valid_all hv).2.2
  have hz : ∀ n, n ≤ l.length → (kidsOf l i n).length + 1 ≤ n ∨ n = 0 := by
    intro n
    induction n with
    | zero => intro _; exact .inr rfl
    | succ n ih =>
      intro hn
      rw [kidsOf_succ, List.length_append]
      rcases ih (by omega) with h | h
      · left
        split
        · simp; omega
        · simp; omega
      · subst h
        left
        have h0 := (AllOk.down (valid_all hv).1) 0 (by omega)
        rw [if_neg (by omega)]
        unfold kidsOf
        simp
  rcases hz l.length (Nat.le_refl _) with h | h <;> omega
theorem textT_len {l : List Seg} (hv : validB l = true) : ∀ f i, i < l.length → (textT l f i).length + 2 ≤ 2 * 8 ^ f
  | 0, i, _ => by simp [textT]
  | f + 1, i, hi => by
    have h1 := nameB_len hv hi
    have h2 := sizeAt_in hv hi
    have h3 := itoa_99 h2.1 h2.2
    have h7 := kids_seven hv i
    have hp : 1 ≤ 8 ^ f := Nat.pos_of_ne_zero (by simp)
    have h4 := joinC_len (2 * 8 ^ f - 2) ((kidsOf l i l.length).map (textT l f)) (fun x hx => by
      obtain ⟨j, hj, rfl⟩ := List.mem_map.1 hx
      have := textT_len hv f j (kids_lt hv hj).2
      omega)
    rw [List.length_map] at h4
    have h5 : (kidsOf l i l.length).length * (2 * 8 ^ f - 2 + 1) ≤ 7 * (2 * 8 ^ f - 2 + 1) := Nat.mul_le_mul_right _ h7
    rw [textT_succ, List.length_append, List.length_append, h1, Nat.pow_succ]
    split
    · simp; omega
    · simp; omega
theorem textT_ne (l : List Seg) (f i : Nat) : textT l (f + 1) i ≠ [] := by
  intro e
  rw [textT_succ] at e
  exact itoa_ne _ (List.append_eq_nil_iff.1 (List.append_eq_nil_iff.1 e).1).2
/-- What FormatTree answers. -/
def treeText (l : List Seg) : ByteArray := if validB l = true then txt12 (textT l l.length 0) else ⟨#[]⟩

end Go.Proofs.YtdbddockmdkmeaaDoor
