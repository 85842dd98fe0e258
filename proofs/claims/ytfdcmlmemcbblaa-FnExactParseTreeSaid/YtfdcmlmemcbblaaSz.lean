/- Contracts of the laws' helpers: how large an argument is. -/
import Derived.Test.YtfdcmlmemcbblaaRows
import Derived.WalkKit
import Derived.WalkSpells
import Derived.WalkLawsBesides
import Derived.Lib.Hide
namespace Go.Proofs.Ytfdcmlmemcbblaa
open Go.RowKit

theorem ret_int {k : IntKind} {a b : Int} (h : a = b) : Ending.returned (.int k a) = .returned (.int k b) := by rw [h]
theorem ret_bool {a b : Bool} (h : a = b) : Ending.returned (.bool a) = .returned (.bool b) := by rw [h]

/-- A segment as plain data. -/
structure Seg where
  name : ByteArray
  size : Int
  par : Int

/-- 'w' holds the segments 'l' from the address 'A' on, below block 'B'. -/
def Segs (w : World) (B : Nat) (A : Option Addr) (l : List Seg) : Prop :=
  0 < l.length → ∃ b o, A = some ⟨b, o, none⟩ ∧ b < B ∧ ∀ (k : Nat) (s : Seg), l[k]? = some s →
    w.cell? ⟨b, o + k * 3, none⟩ = some (.string s.name) ∧ w.cell? ⟨b, o + k * 3 + 1, none⟩ = some (.int .i64 s.size) ∧ w.cell? ⟨b, o + k * 3 + 2, none⟩ = some (.int .i64 s.par)

theorem Segs.below {w w' : World} {B : Nat} {A : Option Addr} {l : List Seg} (h : Segs w B A l) (hb : Below B w w') : Segs w' B A l := fun hl => by
  obtain ⟨b, o, e, hB, hc⟩ := h hl
  refine ⟨b, o, e, hB, fun k s hk => ?_⟩
  rw [hb.cell hB, hb.cell hB, hb.cell hB]
  exact hc k s hk
theorem Segs.more {w : World} {B B' : Nat} {A : Option Addr} {l : List Seg} (h : Segs w B A l) (hB : B ≤ B') : Segs w B' A l := fun hl => by
  obtain ⟨b, o, e, hb, hc⟩ := h hl
  exact ⟨b, o, e, Nat.lt_of_lt_of_le hb hB, hc⟩

/-- Names no longer than Go allows. -/
def Short (l : List Seg) : Prop := ∀ s ∈ l, s.name.size ≤ maxLen

/-- What one segment leaves. -/
def segLeft (s : ByteArray) (left : Int) : Int := if left - s.size < 0 then -1 else left - s.size

set_option maxHeartbeats 400000 in
theorem szSegment_any (s : ByteArray) (a b left : Int) (w : World) (hs : s.size ≤ maxLen) (h1 : 0 ≤ left) (h2 : left ≤ 1048576) :
    Calls Try.prog 102 #[.agg #[.string s, .int .i64 a, .int .i64 b], .int .i64 left] w fun e w' => e = .returned (.int .i64 (segLeft s left)) ∧ Below w.heap.size w w' := by
  unfold maxLen at hs
  by_cases h : left - s.size < 0
  · have HF : Hid (segLeft s left = -1) := if_pos h
    go_enter Try.func102, Try.ntmps102
    go_wp2
    go_ret
    exact ⟨ret_int HF.out.symm, (Below.refl _ _).alloc (Nat.le_refl _) _⟩
  · have HF : Hid (segLeft s left = left - s.size) := if_neg h
    go_enter Try.func102, Try.ntmps102
    go_wp2
    go_ret
    exact ⟨ret_int HF.out.symm, (Below.refl _ _).alloc (Nat.le_refl _) _⟩

/-- The number that is left: -1 where it runs out. -/
def leftOf : List Seg → Int → Int
  | [], n => n
  | s :: l, n => if n - s.name.size < 0 then -1 else leftOf l (n - s.name.size)
def sizeLeft (l : List Seg) : Int := if 1048576 - (l.length : Int) < 0 then -1 else leftOf l (1048576 - l.length)

set_option maxHeartbeats 400000 in
theorem szSegmentS_any (A : Option Addr) (l : List Seg) (c : Nat) (w : World) (hw : Segs w w.heap.size A l) (hl : l.length ≤ maxLen) (hn : Short l) :
    Calls Try.prog 52 #[.slice A l.length c, .int .i64 1048576] w fun e w' => e = .returned (.int .i64 (sizeLeft l)) ∧ Below w.heap.size w w' := by
  unfold maxLen at hl
  by_cases h : 1048576 - (l.length : Int) < 0
  · have HF : Hid (sizeLeft l = -1) := if_pos h
    go_enter Try.func52, Try.ntmps52
    go_wp2
    go_ret
    exact ⟨ret_int HF.out.symm, Below.refl _ _⟩
  · have HW : Hid (Segs w w.heap.size A l) := hw
    clear hw
    have HF : Hid (sizeLeft l = leftOf l (1048576 - l.length)) := if_neg h
    go_enter Try.func52, Try.ntmps52
    go_wp2
    go_loopw [1, 5] (fun v i wr => ∃ (k : Nat) (n : Int), k ≤ l.length ∧ i = .int .i64 k ∧ v = .int .i64 n ∧ 0 ≤ n ∧ n ≤ 1048576 ∧ leftOf l (1048576 - l.length) = leftOf (l.drop k) n ∧ Below w.heap.size w wr)
      (fun _ i _ => l.length - (intOf i).toNat)
    case atStart => exact ⟨0, _, Nat.zero_le _, rfl, rfl, by omega, by omega, rfl, Below.refl _ _⟩
    case round =>
      obtain ⟨k, n, hk, rfl, rfl, h0, h1, he, hb⟩ := hrel
      have HE := Lib.hid he
      clear he
      by_cases hlt : k < l.length
      · obtain ⟨b, o, rfl, hB, hc⟩ := HW.out (by omega)
        obtain ⟨c0, c1, c2⟩ := hc k l[k] (List.getElem?_eq_getElem hlt)
        clear hc
        rw [← hb.cell hB] at c0 c1 c2
        have hs := hn l[k] (List.getElem_mem hlt)
        have HD : Hid (leftOf (l.drop k) n = if n - l[k].name.size < 0 then -1 else leftOf (l.drop (k + 1)) (n - l[k].name.size)) := by
          rw [List.drop_eq_getElem_cons hlt]; rfl
        generalize l[k] = s at *
        by_cases hle : n - s.name.size < 0
        · have HS : Hid (segLeft s.name n = -1) := if_pos hle
          have HG : Hid (leftOf (l.drop k) n = -1) := HD.out.trans (if_pos hle)
          clear HD
          go_wp2_with fail
          refine (szSegment_any s.name s.size s.par n _ hs h0 h1).mono ?_
          rintro e w1 ⟨rfl, hb1⟩
          rw [HS.out]
          go_wp2
          go_ret
          exact ⟨ret_int (HF.out.trans (HE.out.trans HG.out)).symm, hb.trans (hb1.mono hb.size)⟩
        · have HS : Hid (segLeft s.name n = n - s.name.size) := if_neg hle
          have HG : Hid (leftOf (l.drop k) n = leftOf (l.drop (k + 1)) (n - s.name.size)) := HD.out.trans (if_neg hle)
          clear HD
          go_wp2_with fail
          refine (szSegment_any s.name s.size s.par n _ hs h0 h1).mono ?_
          rintro e w1 ⟨rfl, hb1⟩
          rw [HS.out]
          go_wp2
          go_roundw
          case rel => exact ⟨k + 1, _, by omega, by go_num, rfl, by omega, by omega, HE.out.trans HG.out, hb.trans (hb1.mono hb.size)⟩
          case measure => simp [intOf]; omega
      · go_wp2
        go_ret
        refine ⟨ret_int ?_, hb⟩
        rw [HF.out, HE.out, List.drop_of_length_le (by omega)]; rfl

end Go.Proofs.Ytfdcmlmemcbblaa
