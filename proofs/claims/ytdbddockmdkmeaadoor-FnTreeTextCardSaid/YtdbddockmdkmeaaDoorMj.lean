/- The text of numbers, plain. -/
import Derived.Test.YtdbddockmdkmeaaDoorSz
import Derived.Lib.ItoaNum
namespace Go.Proofs.YtdbddockmdkmeaaDoor
open Go.RowKit

/-- Signs as a text. -/
def txt12 (x : List UInt8) : ByteArray := ⟨x.toArray⟩
theorem txt12_size (x : List UInt8) : (txt12 x).size = x.length := by unfold txt12; show x.toArray.size = _; simp
theorem txt12_app (x y : List UInt8) : txt12 x ++ txt12 y = txt12 (x ++ y) := by
  unfold txt12
  apply ByteArray.ext
  simp
/-- The text of numbers, where there are any: decimal, spaces between them. -/
def fmtB : List Int → List UInt8
  | [] => []
  | x :: r => Lib.itoa x ++ r.flatMap fun y => 32 :: Lib.itoa y
theorem itoa_ne (n : Int) : Lib.itoa n ≠ [] := by
  unfold Lib.itoa
  split
  · simp
  · intro e
    have h := congrArg List.length e
    rw [Lib.decDigits_length] at h
    have := Lib.nDigits_pos n.toNat
    simp at h
    omega
theorem fmtB_snoc (xs : List Int) (y : Int) : fmtB (xs ++ [y]) = if xs = [] then Lib.itoa y else fmtB xs ++ 32 :: Lib.itoa y := by
  cases xs with
  | nil => simp [fmtB]
  | cons x r => simp [fmtB]
theorem fmtB_nil {xs : List Int} : fmtB xs = [] ↔ xs = [] := by
  cases xs with
  | nil => simp [fmtB]
  | cons x r =>
    constructor
    · intro h
      exact absurd (List.append_eq_nil_iff.1 h).1 (itoa_ne x)
    · intro h; cases h
/-- What FormatNumbers answers. -/
def fmtRes (xs : List Int) : ByteArray := txt12 (if xs = [] then [45] else fmtB xs)

theorem decDigits_small {u : Nat} (h : u < 10) : Lib.decDigits u = [UInt8.ofNat (48 + u)] := by rw [Lib.decDigits, dif_pos h]
theorem decDigits_big {u : Nat} (h : ¬ u < 10) : Lib.decDigits u = Lib.decDigits (u / 10) ++ [UInt8.ofNat (48 + u % 10)] := by rw [Lib.decDigits, dif_neg h]
theorem nDigits_le (u : Nat) (h : u ≤ 9223372036854775808) : Lib.nDigits u ≤ 19 := by
  have go : ∀ (k u : Nat), u < 10 ^ (k + 1) → Lib.nDigits u ≤ k + 1 := by
    intro k
    induction k with
    | zero => intro u h; rw [Lib.nDigits_small (by simpa using h)]; exact Nat.le_refl _
    | succ k ih =>
      intro u h
      by_cases h10 : u < 10
      · rw [Lib.nDigits_small h10]; omega
      · rw [Lib.nDigits_big h10]
        have := ih (u / 10) (by rw [Nat.pow_succ] at h; omega)
        omega
  exact go 18 u (by omega)
theorem itoa_len (n : Int) (h : -9223372036854775808 ≤ n) (h2 : n ≤ 9223372036854775807) : (Lib.itoa n).length ≤ 20 := by
  unfold Lib.itoa
  split
  · rw [List.length_cons, Lib.decDigits_length]
    have := nDigits_le n.natAbs (by omega)
    omega
  · rw [Lib.decDigits_length]
    have := nDigits_le n.toNat (by omega)
    omega

end Go.Proofs.YtdbddockmdkmeaaDoor
