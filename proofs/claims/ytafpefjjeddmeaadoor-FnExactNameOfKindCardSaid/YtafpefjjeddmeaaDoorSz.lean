/- Contracts of the laws' helpers: how large an argument is. -/
import Derived.Test.YtafpefjjeddmeaaDoorRows
import Derived.WalkKit
import Derived.WalkSpells
import Derived.WalkLawsBesides
import Derived.Lib.Hide
import Derived.KernelRfl
import Derived.StillTailTactics
namespace Go.Proofs.YtafpefjjeddmeaaDoor
open Go.RowKit

theorem ret_int {k : IntKind} {a b : Int} (h : a = b) : Ending.returned (.int k a) = .returned (.int k b) := by rw [h]
theorem ret_bool {a b : Bool} (h : a = b) : Ending.returned (.bool a) = .returned (.bool b) := by rw [h]

/-- A segment as plain data. -/
structure Seg where
  name : ByteArray
  size : Int
  par : Int

/-- 'w' holds the segments 'l' from the address 'A' on, below block 'B'. -/
def Segs (w : World) (B : Nat) (A : Option Addr) (l : List Seg) : Prop :=
  0 < l.length → ∃ b o, A = some ⟨b, o, none⟩ ∧ b < B ∧ ∀ (k : Nat) (s : Seg), l[k]? = some s →
    w.cell? ⟨b, o + k * 3, none⟩ = some (.string s.name) ∧ w.cell? ⟨b, o + k * 3 + 1, none⟩ = some (.int .i64 s.size) ∧ w.cell? ⟨b, o + k * 3 + 2, none⟩ = some (.int .i64 s.par)

theorem Segs.below {w w' : World} {B : Nat} {A : Option Addr} {l : List Seg} (h : Segs w B A l) (hb : Below B w w') : Segs w' B A l := fun hl => by
  obtain ⟨b, o, e, hB, hc⟩ := h hl
  refine ⟨b, o, e, hB, fun k s hk => ?_⟩
  rw [hb.cell hB, hb.cell hB, hb.cell hB]
  exact hc k s hk
theorem Segs.more {w : World} {B B' : Nat} {A : Option Addr} {l : List Seg} (h : Segs w B A l) (hB : B ≤ B') : Segs w B' A l := fun hl => by
  obtain ⟨b, o, e, hb, hc⟩ := h hl
  exact ⟨b, o, e, Nat.lt_of_lt_of_le hb hB, hc⟩

/-- Names no longer than Go allows. -/
def Short (l : List Seg) : Prop := ∀ s ∈ l, s.name.size ≤ maxLen

/-- What one segment leaves. -/
def segLeft (s : ByteArray) (left : Int) : Int := if left - s.size < 0 then -1 else left - s.size

/-- The number that is left: -1 where it runs out. -/
def leftOf : List Seg → Int → Int
  | [], n => n
  | s :: l, n => if n - s.name.size < 0 then -1 else leftOf l (n - s.name.size)
def sizeLeft (l : List Seg) : Int := if 1048576 - (l.length : Int) < 0 then -1 else leftOf l (1048576 - l.length)

end Go.Proofs.YtafpefjjeddmeaaDoor

/- Contracts of the laws' helpers: the argument turned into the program's own segments. -/
namespace Go.Proofs.YtafpefjjeddmeaaDoor
open Go.RowKit

/-- Block 'g' holds just the cells 'cs' of type 't', none frozen. -/
def Row (w : World) (g : Nat) (t : TypeId) (cs : Array Value) : Prop := w.heap[g]? = some (.cells cs t (0, 0))

theorem Row.lt {w : World} {g : Nat} {t : TypeId} {cs : Array Value} (h : Row w g t cs) : g < w.heap.size := by
  unfold Row at h
  exact (Array.getElem?_eq_some_iff.1 h).1
theorem Row.cell {w : World} {g : Nat} {t : TypeId} {cs : Array Value} (h : Row w g t cs) (i : Nat) : w.cell? ⟨g, i, none⟩ = cs[i]? := by
  unfold Row at h; simp [World.cell?, h]
theorem Row.free {w : World} {g : Nat} {t : TypeId} {cs : Array Value} (h : Row w g t cs) (i : Nat) : w.frozen? ⟨g, i, none⟩ = false := by
  unfold Row at h; simp [World.frozen?, h]
theorem Row.new (w : World) (t : TypeId) (cs : Array Value) : Row (w.alloc (.cells cs t)) w.heap.size t cs := by
  show (w.heap.push (.cells cs t))[w.heap.size]? = _
  simp
theorem Row.below {w w' : World} {B g : Nat} {t : TypeId} {cs : Array Value} (h : Row w g t cs) (hb : Below B w w') (hg : g < B) : Row w' g t cs := (hb.block g hg).trans h
theorem Row.alloc {w : World} {g : Nat} {t : TypeId} {cs : Array Value} (h : Row w g t cs) (o : Obj) : Row (w.alloc o) g t cs := (Below.heap_alloc w o g h.lt).trans h
theorem Row.put {w : World} {g : Nat} {t : TypeId} {cs : Array Value} (h : Row w g t cs) (i : Nat) (u : Value) : Row (w.setCell ⟨g, i, none⟩ u) g t (cs.setIfInBounds i u) := by
  unfold Row at h ⊢
  simp [World.setCell, Array.getElem?_modify, h]
theorem Row.far {w : World} {g : Nat} {t : TypeId} {cs : Array Value} (h : Row w g t cs) {p : Addr} (hp : g ≠ p.block) (u : Value) : Row (w.setCell p u) g t cs := (Below.heap_setCell w p u g hp).trans h

def zeroSeg : Value := .agg #[.string ByteArray.empty, .int .i64 0, .int .i64 0]
theorem info_seg : (Tryd.prog.info? 74).map (fun i => (i.zero, i.size, i.bytes)) = some (some zeroSeg, 3, 32) := by kernel_rfl

/-- What a slice of 'n' new segments is made as. -/
theorem run_make_segs (n : Nat) (hn : n ≤ 1048576) (W : World) :
    (Instr.makeSlice 23 (.int .i64 (n : Int)) (.int .i64 (n : Int))).run Tryd.prog W = .ok (.slice (some ⟨W.heap.size, 0, none⟩) n n) (W.alloc (.cells (madeCells zeroSeg.cells (n * 3)) 74)) := by
  obtain ⟨i0, hi, hz0, hz1, hz2⟩ := info_parts info_seg
  have hr := run_make (P := Tryd.prog) W 23 74 i0 zeroSeg Tryd.underlying23 hi hz0 .i64 .i64 n n (by omega) (by omega) (by rw [hz2]; omega) (by omega)
  simp only [Int.toNat_natCast, hz1] at hr
  exact hr

/-- The first 'k' of the segments lie in the cells. -/
def Filled (l : List Seg) (k : Nat) (cs : Array Value) : Prop :=
  cs.size = l.length * 3 ∧ ∀ (j : Nat) (s : Seg), j < k → l[j]? = some s → cs[j * 3]? = some (.string s.name) ∧ cs[j * 3 + 1]? = some (.int .i64 s.size) ∧ cs[j * 3 + 2]? = some (.int .i64 s.par)

theorem Filled.start {l : List Seg} (cs : Array Value) (h : cs.size = l.length * 3) : Filled l 0 cs := ⟨h, fun j _ hj => absurd hj (by omega)⟩
theorem Filled.next {l : List Seg} {k : Nat} {cs : Array Value} (h : Filled l k cs) (hk : k < l.length) :
    Filled l (k + 1) (((cs.setIfInBounds (k * 3) (.string l[k].name)).setIfInBounds (k * 3 + 1) (.int .i64 l[k].size)).setIfInBounds (k * 3 + 2) (.int .i64 l[k].par)) := by
  refine ⟨by simpa using h.1, fun j s hj hs => ?_⟩
  have hz := h.1
  rcases Nat.lt_or_ge j k with hlt | hge
  · obtain ⟨a, b, c⟩ := h.2 j s hlt hs
    refine ⟨?_, ?_, ?_⟩
    · rw [Array.getElem?_setIfInBounds_ne (by omega), Array.getElem?_setIfInBounds_ne (by omega), Array.getElem?_setIfInBounds_ne (by omega)]; exact a
    · rw [Array.getElem?_setIfInBounds_ne (by omega), Array.getElem?_setIfInBounds_ne (by omega), Array.getElem?_setIfInBounds_ne (by omega)]; exact b
    · rw [Array.getElem?_setIfInBounds_ne (by omega), Array.getElem?_setIfInBounds_ne (by omega), Array.getElem?_setIfInBounds_ne (by omega)]; exact c
  · obtain rfl : j = k := by omega
    rw [List.getElem?_eq_getElem hk] at hs
    injection hs with hs
    subst hs
    refine ⟨?_, ?_, ?_⟩
    · rw [Array.getElem?_setIfInBounds_ne (by omega), Array.getElem?_setIfInBounds_ne (by omega), Array.getElem?_setIfInBounds_self_of_lt (by omega)]
    · rw [Array.getElem?_setIfInBounds_ne (by omega), Array.getElem?_setIfInBounds_self_of_lt (by simp; omega)]
    · rw [Array.getElem?_setIfInBounds_self_of_lt (by simp; omega)]
theorem Filled.done {l : List Seg} {cs : Array Value} {w : World} {g : Nat} {t : TypeId} (h : Filled l l.length cs) (hr : Row w g t cs) : Segs w w.heap.size (some ⟨g, 0, none⟩) l := fun _ => by
  refine ⟨g, 0, rfl, hr.lt, fun k s hk => ?_⟩
  rw [hr.cell, hr.cell, hr.cell]
  simp only [Nat.zero_add]
  exact h.2 k s (List.getElem?_eq_some_iff.1 hk).1 hk

end Go.Proofs.YtafpefjjeddmeaaDoor

/- Contracts of the laws' helpers: two lists of the same segments are found the same. -/
namespace Go.Proofs.YtafpefjjeddmeaaDoor
open Go.RowKit

end Go.Proofs.YtafpefjjeddmeaaDoor
