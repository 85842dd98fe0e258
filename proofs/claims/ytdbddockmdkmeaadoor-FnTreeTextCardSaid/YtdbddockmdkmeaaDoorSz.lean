/- Contracts of the laws' helpers: how large an argument is. -/
import Derived.Test.YtdbddockmdkmeaaDoorRows
import Derived.WalkKit
import Derived.WalkSpells
import Derived.WalkLawsBesides
import Derived.Lib.Hide
import Derived.KernelRfl
import Derived.StillTailTactics
namespace Go.Proofs.YtdbddockmdkmeaaDoor
open Go.RowKit

theorem ret_int {k : IntKind} {a b : Int} (h : a = b) : Ending.returned (.int k a) = .returned (.int k b) := by rw [h]
theorem ret_bool {a b : Bool} (h : a = b) : Ending.returned (.bool a) = .returned (.bool b) := by rw [h]

/-- A segment as plain data. -/
structure Seg where
  name : ByteArray
  size : Int
  par : Int

/-- 'w' holds the segments 'l' from the address 'A' on, below block 'B'. -/
def Segs (w : World) (B : Nat) (A : Option Addr) (l : List Seg) : Prop :=
  0 < l.length → ∃ b o, A = some ⟨b, o, none⟩ ∧ b < B ∧ ∀ (k : Nat) (s : Seg), l[k]? = some s →
    w.cell? ⟨b, o + k * 3, none⟩ = some (.string s.name) ∧ w.cell? ⟨b, o + k * 3 + 1, none⟩ = some (.int .i64 s.size) ∧ w.cell? ⟨b, o + k * 3 + 2, none⟩ = some (.int .i64 s.par)

theorem Segs.below {w w' : World} {B : Nat} {A : Option Addr} {l : List Seg} (h : Segs w B A l) (hb : Below B w w') : Segs w' B A l := fun hl => by
  obtain ⟨b, o, e, hB, hc⟩ := h hl
  refine ⟨b, o, e, hB, fun k s hk => ?_⟩
  rw [hb.cell hB, hb.cell hB, hb.cell hB]
  exact hc k s hk
theorem Segs.more {w : World} {B B' : Nat} {A : Option Addr} {l : List Seg} (h : Segs w B A l) (hB : B ≤ B') : Segs w B' A l := fun hl => by
  obtain ⟨b, o, e, hb, hc⟩ := h hl
  exact ⟨b, o, e, Nat.lt_of_lt_of_le hb hB, hc⟩

/-- Names no longer than Go allows. -/
def Short (l : List Seg) : Prop := ∀ s ∈ l, s.name.size ≤ maxLen

/-- What one segment leaves. -/
def segLeft (s : ByteArray) (left : Int) : Int := if left - s.size < 0 then -1 else left - s.size

set_option maxHeartbeats 400000 in
theorem szSegment_any (s : ByteArray) (a b left : Int) (w : World) (hs : s.size ≤ maxLen) (h1 : 0 ≤ left) (h2 : left ≤ 1048576) :
    Calls Tryd.prog 96 #[.agg #[.string s, .int .i64 a, .int .i64 b], .int .i64 left] w fun e w' => e = .returned (.int .i64 (segLeft s left)) ∧ Below w.heap.size w w' := by
  unfold maxLen at hs
  by_cases h : left - s.size < 0
  · have HF : Hid (segLeft s left = -1) := if_pos h
    go_enter Tryd.func96, Tryd.ntmps96
    go_wp2
    go_ret
    exact ⟨ret_int HF.out.symm, (Below.refl _ _).alloc (Nat.le_refl _) _⟩
  · have HF : Hid (segLeft s left = left - s.size) := if_neg h
    go_enter Tryd.func96, Tryd.ntmps96
    go_wp2
    go_ret
    exact ⟨ret_int HF.out.symm, (Below.refl _ _).alloc (Nat.le_refl _) _⟩

/-- The number that is left: -1 where it runs out. -/
def leftOf : List Seg → Int → Int
  | [], n => n
  | s :: l, n => if n - s.name.size < 0 then -1 else leftOf l (n - s.name.size)
def sizeLeft (l : List Seg) : Int := if 1048576 - (l.length : Int) < 0 then -1 else leftOf l (1048576 - l.length)

set_option maxHeartbeats 400000 in
theorem szSegmentS_any (A : Option Addr) (l : List Seg) (c : Nat) (w : World) (hw : Segs w w.heap.size A l) (hl : l.length ≤ maxLen) (hn : Short l) :
    Calls Tryd.prog 45 #[.slice A l.length c, .int .i64 1048576] w fun e w' => e = .returned (.int .i64 (sizeLeft l)) ∧ Below w.heap.size w w' := by
  unfold maxLen at hl
  by_cases h : 1048576 - (l.length : Int) < 0
  · have HF : Hid (sizeLeft l = -1) := if_pos h
    go_enter Tryd.func45, Tryd.ntmps45
    go_wp2
    go_ret
    exact ⟨ret_int HF.out.symm, Below.refl _ _⟩
  · have HW : Hid (Segs w w.heap.size A l) := hw
    clear hw
    have HF : Hid (sizeLeft l = leftOf l (1048576 - l.length)) := if_neg h
    go_enter Tryd.func45, Tryd.ntmps45
    go_wp2
    go_loopw [1, 5] (fun v i wr => ∃ (k : Nat) (n : Int), k ≤ l.length ∧ i = .int .i64 k ∧ v = .int .i64 n ∧ 0 ≤ n ∧ n ≤ 1048576 ∧ leftOf l (1048576 - l.length) = leftOf (l.drop k) n ∧ Below w.heap.size w wr)
      (fun _ i _ => l.length - (intOf i).toNat)
    case atStart => exact ⟨0, _, Nat.zero_le _, rfl, rfl, by omega, by omega, rfl, Below.refl _ _⟩
    case round =>
      obtain ⟨k, n, hk, rfl, rfl, h0, h1, he, hb⟩ := hrel
      have HE := Lib.hid he
      clear he
      by_cases hlt : k < l.length
      · obtain ⟨b, o, rfl, hB, hc⟩ := HW.out (by omega)
        obtain ⟨c0, c1, c2⟩ := hc k l[k] (List.getElem?_eq_getElem hlt)
        clear hc
        rw [← hb.cell hB] at c0 c1 c2
        have hs := hn l[k] (List.getElem_mem hlt)
        have HD : Hid (leftOf (l.drop k) n = if n - l[k].name.size < 0 then -1 else leftOf (l.drop (k + 1)) (n - l[k].name.size)) := by
          rw [List.drop_eq_getElem_cons hlt]; rfl
        generalize l[k] = s at *
        by_cases hle : n - s.name.size < 0
        · have HS : Hid (segLeft s.name n = -1) := if_pos hle
          have HG : Hid (leftOf (l.drop k) n = -1) := HD.out.trans (if_pos hle)
          clear HD
          go_wp2_with fail
          refine (szSegment_any s.name s.size s.par n _ hs h0 h1).mono ?_
          rintro e w1 ⟨rfl, hb1⟩
          rw [HS.out]
          go_wp2
          go_ret
          exact ⟨ret_int (HF.out.trans (HE.out.trans HG.out)).symm, hb.trans (hb1.mono hb.size)⟩
        · have HS : Hid (segLeft s.name n = n - s.name.size) := if_neg hle
          have HG : Hid (leftOf (l.drop k) n = leftOf (l.drop (k + 1)) (n - s.name.size)) := HD.out.trans (if_neg hle)
          clear HD
          go_wp2_with fail
          refine (szSegment_any s.name s.size s.par n _ hs h0 h1).mono ?_
          rintro e w1 ⟨rfl, hb1⟩
          rw [HS.out]
          go_wp2
          go_roundw
          case rel => exact ⟨k + 1, _, by omega, by go_num, rfl, by omega, by omega, HE.out.trans HG.out, hb.trans (hb1.mono hb.size)⟩
          case measure => simp [intOf]; omega
      · go_wp2
        go_ret
        refine ⟨ret_int ?_, hb⟩
        rw [HF.out, HE.out, List.drop_of_length_le (by omega)]; rfl

end Go.Proofs.YtdbddockmdkmeaaDoor

/- Contracts of the laws' helpers: the argument turned into the program's own segments. -/
namespace Go.Proofs.YtdbddockmdkmeaaDoor
open Go.RowKit

/-- Block 'g' holds just the cells 'cs' of type 't', none frozen. -/
def Row (w : World) (g : Nat) (t : TypeId) (cs : Array Value) : Prop := w.heap[g]? = some (.cells cs t (0, 0))

theorem Row.lt {w : World} {g : Nat} {t : TypeId} {cs : Array Value} (h : Row w g t cs) : g < w.heap.size := by
  unfold Row at h
  exact (Array.getElem?_eq_some_iff.1 h).1
theorem Row.cell {w : World} {g : Nat} {t : TypeId} {cs : Array Value} (h : Row w g t cs) (i : Nat) : w.cell? ⟨g, i, none⟩ = cs[i]? := by
  unfold Row at h; simp [World.cell?, h]
theorem Row.free {w : World} {g : Nat} {t : TypeId} {cs : Array Value} (h : Row w g t cs) (i : Nat) : w.frozen? ⟨g, i, none⟩ = false := by
  unfold Row at h; simp [World.frozen?, h]
theorem Row.new (w : World) (t : TypeId) (cs : Array Value) : Row (w.alloc (.cells cs t)) w.heap.size t cs := by
  show (w.heap.push (.cells cs t))[w.heap.size]? = _
  simp
theorem Row.below {w w' : World} {B g : Nat} {t : TypeId} {cs : Array Value} (h : Row w g t cs) (hb : Below B w w') (hg : g < B) : Row w' g t cs := (hb.block g hg).trans h
theorem Row.alloc {w : World} {g : Nat} {t : TypeId} {cs : Array Value} (h : Row w g t cs) (o : Obj) : Row (w.alloc o) g t cs := (Below.heap_alloc w o g h.lt).trans h
theorem Row.put {w : World} {g : Nat} {t : TypeId} {cs : Array Value} (h : Row w g t cs) (i : Nat) (u : Value) : Row (w.setCell ⟨g, i, none⟩ u) g t (cs.setIfInBounds i u) := by
  unfold Row at h ⊢
  simp [World.setCell, Array.getElem?_modify, h]
theorem Row.far {w : World} {g : Nat} {t : TypeId} {cs : Array Value} (h : Row w g t cs) {p : Addr} (hp : g ≠ p.block) (u : Value) : Row (w.setCell p u) g t cs := (Below.heap_setCell w p u g hp).trans h

set_option maxHeartbeats 400000 in
theorem toSegment_any (s : ByteArray) (a b : Int) (w : World) :
    Calls Tryd.prog 97 #[.agg #[.string s, .int .i64 a, .int .i64 b]] w fun e w' => e = .returned (.agg #[.string s, .int .i64 a, .int .i64 b]) ∧ Below w.heap.size w w' := by
  go_enter Tryd.func97, Tryd.ntmps97
  go_wp2
  refine bodyPost_ret (v := .agg #[.string s, .int .i64 a, .int .i64 b]) (by simp [results, Tryd.results97, go_sem]) rfl ⟨rfl, ?_⟩
  repeat (first | exact Below.refl _ _ | refine Below.setCell ?_ (by simp) _ | refine Below.alloc ?_ (by simp; try omega) _)

def zeroSeg : Value := .agg #[.string ByteArray.empty, .int .i64 0, .int .i64 0]
theorem info_seg : (Tryd.prog.info? 66).map (fun i => (i.zero, i.size, i.bytes)) = some (some zeroSeg, 3, 32) := by kernel_rfl

/-- What a slice of 'n' new segments is made as. -/
theorem run_make_segs (n : Nat) (hn : n ≤ 1048576) (W : World) :
    (Instr.makeSlice 23 (.int .i64 (n : Int)) (.int .i64 (n : Int))).run Tryd.prog W = .ok (.slice (some ⟨W.heap.size, 0, none⟩) n n) (W.alloc (.cells (madeCells zeroSeg.cells (n * 3)) 66)) := by
  obtain ⟨i0, hi, hz0, hz1, hz2⟩ := info_parts info_seg
  have hr := run_make (P := Tryd.prog) W 23 66 i0 zeroSeg Tryd.underlying23 hi hz0 .i64 .i64 n n (by omega) (by omega) (by rw [hz2]; omega) (by omega)
  simp only [Int.toNat_natCast, hz1] at hr
  exact hr

/-- The first 'k' of the segments lie in the cells. -/
def Filled (l : List Seg) (k : Nat) (cs : Array Value) : Prop :=
  cs.size = l.length * 3 ∧ ∀ (j : Nat) (s : Seg), j < k → l[j]? = some s → cs[j * 3]? = some (.string s.name) ∧ cs[j * 3 + 1]? = some (.int .i64 s.size) ∧ cs[j * 3 + 2]? = some (.int .i64 s.par)

theorem Filled.start {l : List Seg} (cs : Array Value) (h : cs.size = l.length * 3) : Filled l 0 cs := ⟨h, fun j _ hj => absurd hj (by omega)⟩
theorem Filled.next {l : List Seg} {k : Nat} {cs : Array Value} (h : Filled l k cs) (hk : k < l.length) :
    Filled l (k + 1) (((cs.setIfInBounds (k * 3) (.string l[k].name)).setIfInBounds (k * 3 + 1) (.int .i64 l[k].size)).setIfInBounds (k * 3 + 2) (.int .i64 l[k].par)) := by
  refine ⟨by simpa using h.1, fun j s hj hs => ?_⟩
  have hz := h.1
  rcases Nat.lt_or_ge j k with hlt | hge
  · obtain ⟨a, b, c⟩ := h.2 j s hlt hs
    refine ⟨?_, ?_, ?_⟩
    · rw [Array.getElem?_setIfInBounds_ne (by omega), Array.getElem?_setIfInBounds_ne (by omega), Array.getElem?_setIfInBounds_ne (by omega)]; exact a
    · rw [Array.getElem?_setIfInBounds_ne (by omega), Array.getElem?_setIfInBounds_ne (by omega), Array.getElem?_setIfInBounds_ne (by omega)]; exact b
    · rw [Array.getElem?_setIfInBounds_ne (by omega), Array.getElem?_setIfInBounds_ne (by omega), Array.getElem?_setIfInBounds_ne (by omega)]; exact c
  · obtain rfl : j = k := by omega
    rw [List.getElem?_eq_getElem hk] at hs
    injection hs with hs
    subst hs
    refine ⟨?_, ?_, ?_⟩
    · rw [Array.getElem?_setIfInBounds_ne (by omega), Array.getElem?_setIfInBounds_ne (by omega), Array.getElem?_setIfInBounds_self_of_lt (by omega)]
    · rw [Array.getElem?_setIfInBounds_ne (by omega), Array.getElem?_setIfInBounds_self_of_lt (by simp; omega)]
    · rw [Array.getElem?_setIfInBounds_self_of_lt (by simp; omega)]
theorem Filled.done {l : List Seg} {cs : Array Value} {w : World} {g : Nat} {t : TypeId} (h : Filled l l.length cs) (hr : Row w g t cs) : Segs w w.heap.size (some ⟨g, 0, none⟩) l := fun _ => by
  refine ⟨g, 0, rfl, hr.lt, fun k s hk => ?_⟩
  rw [hr.cell, hr.cell, hr.cell]
  simp only [Nat.zero_add]
  exact h.2 k s (List.getElem?_eq_some_iff.1 hk).1 hk

set_option maxHeartbeats 400000 in
theorem toSegmentS_any (A : Option Addr) (l : List Seg) (c : Nat) (w : World) (hw : Segs w w.heap.size A l) (hl : l.length ≤ 1048576) :
    Calls Tryd.prog 46 #[.slice A l.length c] w fun e w' => e = .returned (.slice (some ⟨w.heap.size, 0, none⟩) l.length l.length) ∧ Below w.heap.size w w' ∧ Segs w' w'.heap.size (some ⟨w.heap.size, 0, none⟩) l := by
  have HW : Hid (Segs w w.heap.size A l) := hw
  clear hw
  have hmk := run_make_segs l.length hl
  go_enter Tryd.func46, Tryd.ntmps46
  go_wp2
  go_loopw [4] (fun i wr => ∃ (k : Nat) (cs : Array Value), k ≤ l.length ∧ i = .int .i64 k ∧ Below w.heap.size w wr ∧ Row wr w.heap.size 66 cs ∧ Filled l k cs)
    (fun i _ => l.length - (intOf i).toNat)
  case atStart => exact ⟨0, _, Nat.zero_le _, rfl, (Below.refl _ _).alloc (Nat.le_refl _) _, Row.new _ _ _, Filled.start _ (size_madeCells _ _)⟩
  case round =>
    obtain ⟨k, cs, hk, rfl, hb, hrow, hf⟩ := hrel
    have hz : w.heap.size < wr.heap.size := hrow.lt
    by_cases hlt : k < l.length
    · obtain ⟨b, o, rfl, hB, hc⟩ := HW.out (by omega)
      obtain ⟨c0, c1, c2⟩ := hc k l[k] (List.getElem?_eq_getElem hlt)
      clear hc
      rw [← hb.cell hB] at c0 c1 c2
      have HN := Lib.hid (hf.next hlt)
      have HS := Lib.hid hf.1
      clear hf
      generalize l[k] = s at *
      go_wp2_with fail
      refine (toSegment_any s.name s.size s.par _).mono ?_
      rintro e w1 ⟨rfl, hb1⟩
      have hrow1 := hrow.below hb1 hz
      clear hrow
      have hb2 : Below w.heap.size w w1 := hb.trans (hb1.mono hb.size)
      have f0 := hrow1.free (k * 3)
      have f1 := hrow1.free (k * 3 + 1)
      have f2 := hrow1.free (k * 3 + 2)
      have d0 : w1.cell? ⟨w.heap.size, k * 3, none⟩ = some (cs[k * 3]'(by have := HS.out; omega)) := by rw [hrow1.cell, Array.getElem?_eq_getElem]
      have d1 : w1.cell? ⟨w.heap.size, k * 3 + 1, none⟩ = some (cs[k * 3 + 1]'(by have := HS.out; omega)) := by rw [hrow1.cell, Array.getElem?_eq_getElem]
      have d2 : w1.cell? ⟨w.heap.size, k * 3 + 2, none⟩ = some (cs[k * 3 + 2]'(by have := HS.out; omega)) := by rw [hrow1.cell, Array.getElem?_eq_getElem]
      have HR := Lib.hid hrow1
      clear hrow1
      generalize cs[k * 3]'_ = u0 at *
      generalize cs[k * 3 + 1]'_ = u1 at *
      generalize cs[k * 3 + 2]'_ = u2 at *
      go_wp2
      go_roundw
      case rel => exact ⟨k + 1, _, by omega, by go_num, ((hb2.setCell (Nat.le_refl _) _).setCell (Nat.le_refl _) _).setCell (Nat.le_refl _) _, ((HR.out.put _ _).put _ _).put _ _, HN.out⟩
      case measure => simp [intOf]; omega
    · obtain rfl : k = l.length := by omega
      have hd := hf.done hrow
      clear hf
      go_wp2
      go_ret
      exact ⟨rfl, hb, hd⟩

end Go.Proofs.YtdbddockmdkmeaaDoor

/- Contracts of the laws' helpers: two lists of the same segments are found the same. -/
namespace Go.Proofs.YtdbddockmdkmeaaDoor
open Go.RowKit

set_option maxHeartbeats 400000 in
theorem eqSegment_same (s : ByteArray) (a b : Int) (w : World) :
    Calls Tryd.prog 98 #[.agg #[.string s, .int .i64 a, .int .i64 b], .agg #[.string s, .int .i64 a, .int .i64 b]] w fun e w' => e = .returned (.bool true) ∧ Below w.heap.size w w' := by
  go_enter Tryd.func98, Tryd.ntmps98
  go_wp2
  go_ret
  refine ⟨rfl, ?_⟩
  repeat (first | exact Below.refl _ _ | refine Below.setCell ?_ (by simp) _ | refine Below.alloc ?_ (by simp; try omega) _)

set_option maxRecDepth 100000 in
set_option maxHeartbeats 400000 in
theorem eqSegmentS_same (A A' : Option Addr) (l : List Seg) (c c' : Nat) (w : World) (hw : Segs w w.heap.size A l) (hw' : Segs w w.heap.size A' l) (hl : l.length ≤ 1048576) :
    Calls Tryd.prog 47 #[.slice A l.length c, .slice A' l.length c'] w fun e w' => e = .returned (.bool true) ∧ Below w.heap.size w w' := by
  have HW : Hid (Segs w w.heap.size A l) := hw
  have HW' : Hid (Segs w w.heap.size A' l) := hw'
  clear hw hw'
  go_enter Tryd.func47, Tryd.ntmps47
  go_wp2
  go_loopw [5] (fun i wr => ∃ (k : Nat), k ≤ l.length ∧ i = .int .i64 k ∧ Below w.heap.size w wr)
    (fun i _ => l.length - (intOf i).toNat)
  case atStart => exact ⟨0, Nat.zero_le _, rfl, Below.refl _ _⟩
  case round =>
    obtain ⟨k, hk, rfl, hb⟩ := hrel
    by_cases hlt : k < l.length
    · obtain ⟨b, o, rfl, hB, hc⟩ := HW.out (by omega)
      obtain ⟨b', o', rfl, hB', hc'⟩ := HW'.out (by omega)
      obtain ⟨c0, c1, c2⟩ := hc k l[k] (List.getElem?_eq_getElem hlt)
      obtain ⟨d0, d1, d2⟩ := hc' k l[k] (List.getElem?_eq_getElem hlt)
      clear hc hc'
      rw [← hb.cell hB] at c0 c1 c2
      rw [← hb.cell hB'] at d0 d1 d2
      generalize l[k] = s at *
      go_wp2_with fail
      go_still_tail 8, (by kernel_rfl)
      change wpList _ _ _ _ _ wr.drew
      go_wp2_with fail
      refine (eqSegment_same s.name s.size s.par _).mono ?_
      rintro e w1 ⟨rfl, hb1⟩
      have hb2 : Below w.heap.size w w1 := hb.drew.trans (hb1.mono hb.drew.size)
      clear hb1
      go_wp2
      go_roundw
      case rel => exact ⟨k + 1, by omega, by go_num, hb2⟩
      case measure => simp [intOf]; omega
    · go_wp2
      go_ret
      exact ⟨rfl, hb⟩

end Go.Proofs.YtdbddockmdkmeaaDoor
