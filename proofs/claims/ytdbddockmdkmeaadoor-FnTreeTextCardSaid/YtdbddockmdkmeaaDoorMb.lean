/- The program's text of things: plain, and formatThings. -/
import Derived.Test.YtdbddockmdkmeaaDoorMj
import Derived.Test.YtdbddockmdkmeaaDoorTx
import Derived.Test.YtdbddockmdkmeaaDoorWz
namespace Go.Proofs.YtdbddockmdkmeaaDoor
open Go.RowKit

/-- A thing, or a dash for the empty one. -/
def dash12 (x : ByteArray) : ByteArray := if x.toList.isEmpty = true then ⟨#[45]⟩ else x
/-- The text of the first things. -/
def thTo (xs : List ByteArray) : Nat → ByteArray
  | 0 => ⟨#[]⟩
  | k + 1 => (if k = 0 then ⟨#[]⟩ else thTo xs k ++ ⟨#[32]⟩) ++ dash12 (xs.getD k ⟨#[]⟩)
/-- What formatThings answers. -/
def thRes (xs : List ByteArray) : ByteArray := if xs.length = 0 then ⟨#[45]⟩ else thTo xs xs.length
theorem thTo_succ {xs : List ByteArray} {k : Nat} (h : k < xs.length) : thTo xs (k + 1) = (if k = 0 then ⟨#[]⟩ else thTo xs k ++ ⟨#[32]⟩) ++ dash12 xs[k] := by
  have e : xs.getD k ⟨#[]⟩ = xs[k] := by rw [List.getD_eq_getElem?_getD, List.getElem?_eq_getElem h]; rfl
  rw [← e]; rfl
theorem nil12 : (⟨#[]⟩ : ByteArray).size = 0 := rfl
theorem one12 (c : UInt8) : (⟨#[c]⟩ : ByteArray).size = 1 := rfl
theorem dash12_size (x : ByteArray) : (dash12 x).size ≤ x.size + 1 := by
  unfold dash12
  split
  · rw [one12]; omega
  · omega
theorem nil_app12 (x : ByteArray) : (⟨#[]⟩ : ByteArray) ++ x = x := by
  apply ByteArray.ext
  simp
/-- How long the text is, where each thing has at most 'b' signs. -/
theorem thTo_size {xs : List ByteArray} {b : Nat} (hb : ∀ x ∈ xs, x.size ≤ b) : ∀ k, k ≤ xs.length → (thTo xs k).size ≤ (b + 2) * k
  | 0, _ => by rw [thTo, nil12]; omega
  | k + 1, h => by
    have ih := thTo_size hb k (by omega)
    have h1 := dash12_size xs[k]
    have h2 := hb xs[k] (List.getElem_mem (by omega))
    rw [thTo_succ (by omega), ByteArray.size_append, Nat.mul_add, Nat.mul_one]
    split
    · rw [nil12]; omega
    · rw [ByteArray.size_append, one12]; omega

/-- A Builder in block 'b', of a call that was entered at 'w', that has written the text 'y'. -/
def Bld12 (b : Nat) (w : World) (y : ByteArray) (W : World) : Prop := Lib.IsBuilderF 56 5 w.heap.size b (Lib.byteCells y.data.toList) W ∧ Below w.heap.size w W
theorem cells_cat12 (y s : ByteArray) : Lib.byteCells y.data.toList ++ Lib.strCells s = Lib.byteCells (y ++ s).data.toList := by
  rw [ByteArray.data_append, Array.toList_append, byteCells_app]
  rfl
theorem cells_size12 (y : ByteArray) : (Lib.byteCells y.data.toList).length = y.size := by
  rw [byteCells_len]; rfl
theorem bldStr12 (b : Nat) (w : World) (y s : ByteArray) (W : World) (h : Bld12 b w y W) (hy : y.size ≤ 100000000) (hs : s.size ≤ 100000000) :
    Calls Tryd.prog 82 #[.pointer (some ⟨b, 0, none⟩), .string s] W fun e W' => e = .returned (.tuple #[.int .i64 s.size, .nilIface]) ∧ Hid (Bld12 b w (y ++ s) W') ∧ Lib.OthersKept 5 (some b) W W' := by
  refine (writeString_any w.heap.size b _ s W h.1 (by rw [cells_size12]; omega) h.2.size).mono ?_
  rintro e W' ⟨rfl, hI, hb, hk⟩
  rw [cells_cat12] at hI
  exact ⟨rfl, ⟨hI, h.2.trans hb⟩, hk⟩
theorem bldByte12 (b : Nat) (w : World) (y : ByteArray) (c : UInt8) (n : Int) (hc : n = (c.toNat : Int)) (W : World) (h : Bld12 b w y W) (hy : y.size ≤ 100000000) :
    Calls Tryd.prog 81 #[.pointer (some ⟨b, 0, none⟩), .int .u8 n] W fun e W' => e = .returned .nilIface ∧ Hid (Bld12 b w (y ++ ⟨#[c]⟩) W') ∧ Lib.OthersKept 5 (some b) W W' := by
  subst hc
  refine (writeByte_any w.heap.size b _ _ W h.1 (by rw [cells_size12]; omega) h.2.size).mono ?_
  rintro e W' ⟨rfl, hI, hb, hk⟩
  have e1 : ([.int .u8 (c.toNat : Int)] : List Value) = Lib.strCells ⟨#[c]⟩ := rfl
  rw [e1, cells_cat12] at hI
  exact ⟨rfl, ⟨hI, h.2.trans hb⟩, hk⟩
theorem Bld12.fresh (w : World) : Bld12 w.heap.size w ⟨#[]⟩ (w.alloc (.cells #[.pointer none, .slice none 0 0] 56)) :=
  ⟨Lib.IsBuilderF.of (Lib.fresh_isBuilder _ _ w), (Below.refl _ w).alloc (Nat.le_refl _) _⟩
theorem Bld12.box {b : Nat} {w W : World} {y : ByteArray} (h : Bld12 b w y W) (o : Obj) : Bld12 b w y (W.alloc o) := ⟨h.1.alloc o, h.2.alloc h.2.size _⟩

end Go.Proofs.YtdbddockmdkmeaaDoor
