/- Joined: Sz Mj Rg Pl Pa Tv Sn Ts Lk Tt Ix Ad Nd No Tx Mm. -/
import Derived.Test.YtdbddockmdkmeaaDoorRows
import Derived.WalkKit
import Derived.WalkSpells
import Derived.WalkLawsBesides
import Derived.Lib.Hide
import Derived.KernelRfl
import Derived.StillTailTactics
import Derived.Lib.ItoaNum
import Derived.Deep.RegionHeld3
import Derived.WideShapes
import Derived.Maps.AppendAt
import Derived.Deep.RegionWith
import Derived.BigQuiet
import Derived.WalkSmall
import Derived.Deep.QuietTactic
/- Contracts of the laws' helpers: how large an argument is. -/
namespace Go.Proofs.YtdbddockmdkmeaaDoor
open Go.RowKit

theorem ret_int {k : IntKind} {a b : Int} (h : a = b) : Ending.returned (.int k a) = .returned (.int k b) := by rw [h]
/-- A segment as plain data. -/
structure Seg where
  name : ByteArray
  size : Int
  par : Int

/-- 'w' holds the segments 'l' from the address 'A' on, below block 'B'. -/
def Segs (w : World) (B : Nat) (A : Option Addr) (l : List Seg) : Prop :=
  0 < l.length → ∃ b o, A = some ⟨b, o, none⟩ ∧ b < B ∧ ∀ (k : Nat) (s : Seg), l[k]? = some s →
    w.cell? ⟨b, o + k * 3, none⟩ = some (.string s.name) ∧ w.cell? ⟨b, o + k * 3 + 1, none⟩ = some (.int .i64 s.size) ∧ w.cell? ⟨b, o + k * 3 + 2, none⟩ = some (.int .i64 s.par)

theorem Segs.below {w w' : World} {B : Nat} {A : Option Addr} {l : List Seg} (h : Segs w B A l) (hb : Below B w w') : Segs w' B A l := fun hl => by
  obtain ⟨b, o, e, hB, hc⟩ := h hl
  refine ⟨b, o, e, hB, fun k s hk => ?_⟩
  rw [hb.cell hB, hb.cell hB, hb.cell hB]
  exact hc k s hk
theorem Segs.more {w : World} {B B' : Nat} {A : Option Addr} {l : List Seg} (h : Segs w B A l) (hB : B ≤ B') : Segs w B' A l := fun hl => by
  obtain ⟨b, o, e, hb, hc⟩ := h hl
  exact ⟨b, o, e, Nat.lt_of_lt_of_le hb hB, hc⟩

end Go.Proofs.YtdbddockmdkmeaaDoor

/- Contracts of the laws' helpers: the argument turned into the program's own segments. -/
namespace Go.Proofs.YtdbddockmdkmeaaDoor
open Go.RowKit

/-- Block 'g' holds just the cells 'cs' of type 't', none frozen. -/
def Row (w : World) (g : Nat) (t : TypeId) (cs : Array Value) : Prop := w.heap[g]? = some (.cells cs t (0, 0))

theorem Row.lt {w : World} {g : Nat} {t : TypeId} {cs : Array Value} (h : Row w g t cs) : g < w.heap.size := by
  unfold Row at h
  exact (Array.getElem?_eq_some_iff.1 h).1
theorem Row.cell {w : World} {g : Nat} {t : TypeId} {cs : Array Value} (h : Row w g t cs) (i : Nat) : w.cell? ⟨g, i, none⟩ = cs[i]? := by
  unfold Row at h; simp [World.cell?, h]
theorem Row.free {w : World} {g : Nat} {t : TypeId} {cs : Array Value} (h : Row w g t cs) (i : Nat) : w.frozen? ⟨g, i, none⟩ = false := by
  unfold Row at h; simp [World.frozen?, h]
theorem Row.new (w : World) (t : TypeId) (cs : Array Value) : Row (w.alloc (.cells cs t)) w.heap.size t cs := by
  show (w.heap.push (.cells cs t))[w.heap.size]? = _
  simp
theorem Row.below {w w' : World} {B g : Nat} {t : TypeId} {cs : Array Value} (h : Row w g t cs) (hb : Below B w w') (hg : g < B) : Row w' g t cs := (hb.block g hg).trans h
theorem Row.alloc {w : World} {g : Nat} {t : TypeId} {cs : Array Value} (h : Row w g t cs) (o : Obj) : Row (w.alloc o) g t cs := (Below.heap_alloc w o g h.lt).trans h
theorem Row.put {w : World} {g : Nat} {t : TypeId} {cs : Array Value} (h : Row w g t cs) (i : Nat) (u : Value) : Row (w.setCell ⟨g, i, none⟩ u) g t (cs.setIfInBounds i u) := by
  unfold Row at h ⊢
  simp [World.setCell, Array.getElem?_modify, h]
theorem Row.far {w : World} {g : Nat} {t : TypeId} {cs : Array Value} (h : Row w g t cs) {p : Addr} (hp : g ≠ p.block) (u : Value) : Row (w.setCell p u) g t cs := (Below.heap_setCell w p u g hp).trans h

/-- The first 'k' of the segments lie in the cells. -/
def Filled (l : List Seg) (k : Nat) (cs : Array Value) : Prop :=
  cs.size = l.length * 3 ∧ ∀ (j : Nat) (s : Seg), j < k → l[j]? = some s → cs[j * 3]? = some (.string s.name) ∧ cs[j * 3 + 1]? = some (.int .i64 s.size) ∧ cs[j * 3 + 2]? = some (.int .i64 s.par)

theorem Filled.next {l : List Seg} {k : Nat} {cs : Array Value} (h : Filled l k cs) (hk : k < l.length) :
    Filled l (k + 1) (((cs.setIfInBounds (k * 3) (.string l[k].name)).setIfInBounds (k * 3 + 1) (.int .i64 l[k].size)).setIfInBounds (k * 3 + 2) (.int .i64 l[k].par)) := by
  refine ⟨by simpa using h.1, fun j s hj hs => ?_⟩
  have hz := h.1
  rcases Nat.lt_or_ge j k with hlt | hge
  · obtain ⟨a, b, c⟩ := h.2 j s hlt hs
    refine ⟨?_, ?_, ?_⟩
    · rw [Array.getElem?_setIfInBounds_ne (by omega), Array.getElem?_setIfInBounds_ne (by omega), Array.getElem?_setIfInBounds_ne (by omega)]; exact a
    · rw [Array.getElem?_setIfInBounds_ne (by omega), Array.getElem?_setIfInBounds_ne (by omega), Array.getElem?_setIfInBounds_ne (by omega)]; exact b
    · rw [Array.getElem?_setIfInBounds_ne (by omega), Array.getElem?_setIfInBounds_ne (by omega), Array.getElem?_setIfInBounds_ne (by omega)]; exact c
  · obtain rfl : j = k := by omega
    rw [List.getElem?_eq_getElem hk] at hs
    injection hs with hs
    subst hs
    refine ⟨?_, ?_, ?_⟩
    · rw [Array.getElem?_setIfInBounds_ne (by omega), Array.getElem?_setIfInBounds_ne (by omega), Array.getElem?_setIfInBounds_self_of_lt (by omega)]
    · rw [Array.getElem?_setIfInBounds_ne (by omega), Array.getElem?_setIfInBounds_self_of_lt (by simp; omega)]
    · rw [Array.getElem?_setIfInBounds_self_of_lt (by simp; omega)]
theorem Filled.done {l : List Seg} {cs : Array Value} {w : World} {g : Nat} {t : TypeId} (h : Filled l l.length cs) (hr : Row w g t cs) : Segs w w.heap.size (some ⟨g, 0, none⟩) l := fun _ => by
  refine ⟨g, 0, rfl, hr.lt, fun k s hk => ?_⟩
  rw [hr.cell, hr.cell, hr.cell]
  simp only [Nat.zero_add]
  exact h.2 k s (List.getElem?_eq_some_iff.1 hk).1 hk

end Go.Proofs.YtdbddockmdkmeaaDoor

/- Contracts of the laws' helpers: two lists of the same segments are found the same. -/
namespace Go.Proofs.YtdbddockmdkmeaaDoor
open Go.RowKit

end Go.Proofs.YtdbddockmdkmeaaDoor
/- The text of numbers, plain. -/
namespace Go.Proofs.YtdbddockmdkmeaaDoor
open Go.RowKit

/-- Signs as a text. -/
def txt12 (x : List UInt8) : ByteArray := ⟨x.toArray⟩
theorem txt12_size (x : List UInt8) : (txt12 x).size = x.length := by unfold txt12; show x.toArray.size = _; simp
theorem txt12_app (x y : List UInt8) : txt12 x ++ txt12 y = txt12 (x ++ y) := by
  unfold txt12
  apply ByteArray.ext
  simp
/-- The text of numbers, where there are any: decimal, spaces between them. -/
def fmtB : List Int → List UInt8
  | [] => []
  | x :: r => Lib.itoa x ++ r.flatMap fun y => 32 :: Lib.itoa y
theorem itoa_ne (n : Int) : Lib.itoa n ≠ [] := by
  unfold Lib.itoa
  split
  · simp
  · intro e
    have h := congrArg List.length e
    rw [Lib.decDigits_length] at h
    have := Lib.nDigits_pos n.toNat
    simp at h
    omega
theorem fmtB_snoc (xs : List Int) (y : Int) : fmtB (xs ++ [y]) = if xs = [] then Lib.itoa y else fmtB xs ++ 32 :: Lib.itoa y := by
  cases xs with
  | nil => simp [fmtB]
  | cons x r => simp [fmtB]
theorem fmtB_nil {xs : List Int} : fmtB xs = [] ↔ xs = [] := by
  cases xs with
  | nil => simp [fmtB]
  | cons x r =>
    constructor
    · intro h
      exact absurd (List.append_eq_nil_iff.1 h).1 (itoa_ne x)
    · intro h; cases h
/-- What FormatNumbers answers. -/
def fmtRes (xs : List Int) : ByteArray := txt12 (if xs = [] then [45] else fmtB xs)

theorem decDigits_small {u : Nat} (h : u < 10) : Lib.decDigits u = [UInt8.ofNat (48 + u)] := by rw [Lib.decDigits, dif_pos h]
theorem decDigits_big {u : Nat} (h : ¬ u < 10) : Lib.decDigits u = Lib.decDigits (u / 10) ++ [UInt8.ofNat (48 + u % 10)] := by rw [Lib.decDigits, dif_neg h]
theorem nDigits_le (u : Nat) (h : u ≤ 9223372036854775808) : Lib.nDigits u ≤ 19 := by
  have go : ∀ (k u : Nat), u < 10 ^ (k + 1) → Lib.nDigits u ≤ k + 1 := by
    intro k
    induction k with
    | zero => intro u h; rw [Lib.nDigits_small (by simpa using h)]; exact Nat.le_refl _
    | succ k ih =>
      intro u h
      by_cases h10 : u < 10
      · rw [Lib.nDigits_small h10]; omega
      · rw [Lib.nDigits_big h10]
        have := ih (u / 10) (by rw [Nat.pow_succ] at h; omega)
        omega
  exact go 18 u (by omega)
theorem itoa_len (n : Int) (h : -9223372036854775808 ≤ n) (h2 : n ≤ 9223372036854775807) : (Lib.itoa n).length ≤ 20 := by
  unfold Lib.itoa
  split
  · rw [List.length_cons, Lib.decDigits_length]
    have := nDigits_le n.natAbs (by omega)
    omega
  · rw [Lib.decDigits_length]
    have := nDigits_le n.toNat (by omega)
    omega

end Go.Proofs.YtdbddockmdkmeaaDoor
/- A region that draws its order, walked step by step: each operation that only reads is taken in the text's order. -/
namespace Go.Proofs.YtdbddockmdkmeaaDoor
open Go.RowKit

section
variable {P : Program} {ops : Array Oper} {Q : Exit → Act → World → Prop} {md : Region.Mode} {S : World → Prop}

end

end Go.Proofs.YtdbddockmdkmeaaDoor
/- The plain mathematics of trees: no program. -/
namespace Go.Proofs.YtdbddockmdkmeaaDoor

def nameOk (s : ByteArray) : Bool := match s.data.toList with
  | [c] => decide (65 ≤ c.toNat) && decide (c.toNat ≤ 72)
  | _ => false
theorem nameOk_one {s : ByteArray} (h : nameOk s = true) : ∃ c : UInt8, s = ⟨#[c]⟩ ∧ 65 ≤ c.toNat ∧ c.toNat ≤ 72 := by
  obtain ⟨⟨l⟩⟩ := s
  unfold nameOk at h
  match l, h with
  | [c], h => simp at h; exact ⟨c, rfl, h.1, h.2⟩
def sizeOk (n : Int) : Bool := decide (1 ≤ n) && decide (n ≤ 99)
def sameB (a b : ByteArray) : Bool := a.toList == b.toList
theorem sameB_iff {a b : ByteArray} : sameB a b = true ↔ a = b := by
  unfold sameB
  rw [beq_iff_eq, ByteArray.toList_eq, ByteArray.toList_eq]
  exact ⟨WideShapes.bytes_inj, fun h => by rw [h]⟩
def takenB (l : List Seg) (s : ByteArray) : Bool := l.any (fun x => sameB x.name s)

/-- The parent of a segment. -/
def parAt (l : List Seg) (i : Nat) : Int := match l[i]? with
  | some s => s.par
  | none => -1
/-- From a segment up to the root. -/
def chain (l : List Seg) : Nat → Int → List Int
  | 0, _ => []
  | f + 1, i => if i < 0 then [] else i :: chain l f (parAt l i.toNat)
/-- The parents of the first 'k' stand ahead of them. -/
def Down (l : List Seg) (k : Nat) : Prop := ∀ j : Nat, j < k → -1 ≤ parAt l j ∧ parAt l j < j
theorem Down.mono {l : List Seg} {k k' : Nat} (h : Down l k) (hk : k' ≤ k) : Down l k' := fun j hj => h j (by omega)
def parOk (l : List Seg) (i : Nat) : Bool := if i = 0 then parAt l 0 == -1 else (chain l i ((i : Int) - 1)).contains (parAt l i)
def segOk (l : List Seg) (i : Nat) : Bool := match l[i]? with
  | some s => nameOk s.name && !takenB (l.take i) s.name && sizeOk s.size && parOk l i
  | none => false
def AllOk (l : List Seg) (k : Nat) : Prop := ∀ j : Nat, j < k → segOk l j = true
end Go.Proofs.YtdbddockmdkmeaaDoor

/- Contracts of the small functions. -/
namespace Go.Proofs.YtdbddockmdkmeaaDoor
open Go.RowKit

end Go.Proofs.YtdbddockmdkmeaaDoor
/- spec.l1Path and spec.l1Has. -/
namespace Go.Proofs.YtdbddockmdkmeaaDoor
open Go.RowKit

theorem info_int : (Tryd.prog.info? 3).map (fun i => (i.zero, i.size, i.bytes)) = some (some (.int .i64 0), 1, 8) := by kernel_rfl

end Go.Proofs.YtdbddockmdkmeaaDoor
/- impl.TreeValid is 'validB'. -/
namespace Go.Proofs.YtdbddockmdkmeaaDoor
open Go.RowKit

theorem Segs.take {w : World} {B : Nat} {A : Option Addr} {l : List Seg} (h : Segs w B A l) (k : Nat) : Segs w B A (l.take k) := fun hl => by
  obtain ⟨b, o, e, hB, hc⟩ := h (by have := List.length_take_le k l; have : (l.take k).length ≤ l.length := List.length_take_le' k l; omega)
  refine ⟨b, o, e, hB, fun j s hj => hc j s ?_⟩
  rw [List.getElem?_take] at hj
  split at hj
  · exact hj
  · cases hj
theorem AllOk.succ {l : List Seg} {k : Nat} (h : AllOk l k) (hk : segOk l k = true) : AllOk l (k + 1) := fun j hj => by
  rcases Nat.lt_or_ge j k with hlt | hge
  · exact h j hlt
  · obtain rfl : j = k := by omega
    exact hk

end Go.Proofs.YtdbddockmdkmeaaDoor
/- The names that were seen. -/
namespace Go.Proofs.YtdbddockmdkmeaaDoor
open Go.RowKit

theorem AllOk.name {l : List Seg} {k j : Nat} (h : AllOk l k) (hj : j < k) {s : Seg} (hs : l[j]? = some s) : nameOk s.name = true := by
  have := h j hj
  unfold segOk at this
  rw [hs] at this
  simp only [Bool.and_eq_true] at this
  exact this.1.1.1
end Go.Proofs.YtdbddockmdkmeaaDoor
/- spec.TreeValid is 'validB'. -/
namespace Go.Proofs.YtdbddockmdkmeaaDoor
open Go.RowKit

end Go.Proofs.YtdbddockmdkmeaaDoor
/- A list that is not too large. -/
namespace Go.Proofs.YtdbddockmdkmeaaDoor
open Go.RowKit

end Go.Proofs.YtdbddockmdkmeaaDoor
/- Totals of sizes: the program's and the model's. -/
namespace Go.Proofs.YtdbddockmdkmeaaDoor
open Go.RowKit

end Go.Proofs.YtdbddockmdkmeaaDoor
/- Which segment has a name: the model's side. -/
namespace Go.Proofs.YtdbddockmdkmeaaDoor
open Go.RowKit

end Go.Proofs.YtdbddockmdkmeaaDoor
/- One node adopts another. -/
namespace Go.Proofs.YtdbddockmdkmeaaDoor
open Go.RowKit

theorem own_keep {w w' : World} {base n : Nat} {e : TypeId} {v : Value} {xs : List Value} (h : w.ownsRow base e 1 v n xs) (hk : ∀ g, v.ownBlock = some g → w'.heap[g]? = w.heap[g]?) : w'.ownsRow base e 1 v n xs := by
  refine ⟨h.1, ?_⟩
  rcases h.2 with h0 | ⟨g', cap, cur, rfl, hg, hh, r⟩
  · exact .inl h0
  · exact .inr ⟨g', cap, cur, rfl, hg, (hk g' rfl).trans hh, r⟩
/-- All blocks but those that 'may' names are as they were. -/
structure Only (w w' : World) (may : Nat → Prop) : Prop where
  os : w'.os = w.os
  tape : w'.tape = w.tape
  output : w'.output = w.output
  size : w.heap.size ≤ w'.heap.size
  block : ∀ k, k < w.heap.size → ¬ may k → w'.heap[k]? = w.heap[k]?

theorem Only.below {w0 w w' : World} {B : Nat} {may : Nat → Prop} (hb : Below B w0 w) (h : Only w w' may) (hB : B ≤ w.heap.size) (hm : ∀ k, k < B → ¬ may k) : Below B w0 w' :=
  hb.trans ⟨h.os, h.tape, h.output, h.size, fun k hk => h.block k (by omega) (hm k hk)⟩
theorem Only.row {w w' : World} {may : Nat → Prop} (h : Only w w' may) {g : Nat} {t : TypeId} {cs : Array Value} (hr : Row w g t cs) (hg : ¬ may g) : Row w' g t cs := (h.block g hr.lt hg).trans hr

def nodeCells (nm : ByteArray) (sz : Int) (pp : Option Addr) (cv : Value) : Array Value := #[.string nm, .int .i64 sz, .pointer pp, cv]
def ptrTo (b : Nat) : Value := .pointer (some ⟨b, 0, none⟩)

end Go.Proofs.YtdbddockmdkmeaaDoor
/- The nodes of a tree in memory: what holds while they are made. -/
namespace Go.Proofs.YtdbddockmdkmeaaDoor
open Go.RowKit

def upd {α : Type} (f : Nat → α) (k : Nat) (x : α) : Nat → α := fun j => if j = k then x else f j
theorem upd_same {α : Type} (f : Nat → α) (k : Nat) (x : α) : upd f k x k = x := if_pos rfl
theorem upd_ne {α : Type} (f : Nat → α) {k j : Nat} (x : α) (h : j ≠ k) : upd f k x j = f j := if_neg h

def kidsOf (l : List Seg) (i k : Nat) : List Nat := (List.range k).filter (fun j => decide (parAt l j = (i : Int)))
theorem kidsOf_succ (l : List Seg) (i k : Nat) : kidsOf l i (k + 1) = kidsOf l i k ++ if parAt l k = (i : Int) then [k] else [] := by
  unfold kidsOf
  rw [List.range_succ, List.filter_append]
  by_cases h : parAt l k = (i : Int) <;> simp [h]
theorem kidsOf_lt {l : List Seg} {i k j : Nat} (h : j ∈ kidsOf l i k) : j < k := by
  unfold kidsOf at h
  exact List.mem_range.1 (List.mem_filter.1 h).1
theorem kidsOf_par {l : List Seg} {i k j : Nat} (h : j ∈ kidsOf l i k) : parAt l j = (i : Int) := by
  unfold kidsOf at h
  simpa using (List.mem_filter.1 h).2
theorem kidsOf_none {l : List Seg} {i k : Nat} (hd : Down l k) (hk : k ≤ i) : kidsOf l i k = [] := by
  apply List.eq_nil_iff_forall_not_mem.2
  intro j hj
  have h1 := kidsOf_lt hj
  have h2 := kidsOf_par hj
  have h3 := hd j h1
  omega
def nilKids : Value := .slice none 0 0
def parPtr (l : List Seg) (nb : Nat → Nat) (i : Nat) : Option Addr := if parAt l i < 0 then none else some ⟨nb (parAt l i).toNat, 0, none⟩
def ptrsOf (nb : Nat → Nat) (ks : List Nat) : List Value := ks.map fun j => ptrTo (nb j)
theorem ptrsOf_upd {nb : Nat → Nat} {k x : Nat} {ks : List Nat} (h : ∀ j ∈ ks, j ≠ k) : ptrsOf (upd nb k x) ks = ptrsOf nb ks :=
  List.map_congr_left fun j hj => by rw [upd_ne nb x (h j hj)]

/-- 'm' nodes are made, 'k' of them have been adopted (or are the root). -/
structure Nodes (w : World) (B g m k : Nat) (l : List Seg) (nb : Nat → Nat) (cv : Nat → Value) : Prop where
  row : ∃ cs, Row w g 57 cs ∧ cs.size = l.length ∧ ∀ i, i < m → cs[i]? = some (ptrTo (nb i))
  node : ∀ i s, i < k → l[i]? = some s → Row w (nb i) 106 (nodeCells s.name s.size (parPtr l nb i) (cv i))
  fresh : ∀ i s, k ≤ i → i < m → l[i]? = some s → Row w (nb i) 106 (nodeCells s.name s.size none nilKids)
  kids : ∀ i, i < k → w.ownsRow B 57 1 (cv i) (kidsOf l i k).length (ptrsOf nb (kidsOf l i k))
  apart : ∀ i j, i < m → j < m → i ≠ j → nb i ≠ nb j
  apartC : ∀ i j, i < k → j < k → i ≠ j → (cv i).ownBlock = none ∨ (cv i).ownBlock ≠ (cv j).ownBlock
  notg : ∀ i, i < k → (cv i).ownBlock ≠ some g
  low : B ≤ g ∧ ∀ i, i < m → B ≤ nb i

theorem parPtr_upd {l : List Seg} {nb : Nat → Nat} {i k x : Nat} (hd : Down l k) (hi : i < k) : parPtr l (upd nb k x) i = parPtr l nb i := by
  unfold parPtr
  have := hd i hi
  by_cases h : parAt l i < 0
  · rw [if_pos h, if_pos h]
  · rw [if_neg h, if_neg h, upd_ne nb x (by omega)]

/-- A node more is made and stored. -/
theorem Nodes.made {w : World} {B g k : Nat} {l : List Seg} {nb : Nat → Nat} {cv : Nat → Value} (h : Nodes w B g k k l nb cv) (hd : Down l k) {s : Seg} (hk : k < l.length) (hs : l[k]? = some s) (hB : B ≤ w.heap.size) (o : Obj) :
    Nodes (((w.alloc o).alloc (.cells (nodeCells s.name s.size none nilKids) 106)).setCell ⟨g, k, none⟩ (ptrTo (w.heap.size + 1))) B g (k + 1) k l (upd nb k (w.heap.size + 1)) cv := by
  have hz : (w.alloc o).heap.size = w.heap.size + 1 := by simp
  have hnew : Row ((w.alloc o).alloc (.cells (nodeCells s.name s.size none nilKids) 106)) (w.heap.size + 1) 106 (nodeCells s.name s.size none nilKids) := by
    have := Row.new (w.alloc o) 106 (nodeCells s.name s.size none nilKids)
    rw [hz] at this
    exact this
  obtain ⟨cs, hg, hcs, hci⟩ := h.row
  have hgl := hg.lt
  have hg2 : Row ((w.alloc o).alloc (.cells (nodeCells s.name s.size none nilKids) 106)) g 57 cs := (hg.alloc o).alloc _
  have hold : ∀ i t, i < k → l[i]? = some t → nb i ≠ g := fun i t hi ht he => by
    have h1 := h.node i t hi ht
    unfold Row at h1 hg
    rw [he, hg] at h1
    injection h1 with h1
    injection h1 with _ h2
    exact absurd h2 (by decide)
  have hlt : ∀ i, i < k → nb i < w.heap.size := fun i hi => (h.node i l[i] hi (List.getElem?_eq_getElem (by omega))).lt
  refine ⟨⟨_, hg2.put k _, by simpa using hcs, fun i hi => ?_⟩, fun i t hi ht => ?_, fun i t hi hi2 ht => ?_, fun i hi => ?_, fun i j hi hj hne => ?_, h.apartC, h.notg, h.low.1, fun i hi => ?_⟩
  · rcases Nat.lt_or_ge i k with hlt' | hge
    · rw [Array.getElem?_setIfInBounds_ne (by omega), hci i hlt', upd_ne nb _ (by omega)]
    · obtain rfl : i = k := by omega
      rw [Array.getElem?_setIfInBounds_self_of_lt (by omega), upd_same]
  · rw [parPtr_upd hd hi, upd_ne nb _ (by omega)]
    exact (((h.node i t hi ht).alloc o).alloc _).far (hold i t hi ht) _
  · obtain rfl : i = k := by omega
    rw [hs] at ht
    injection ht with ht
    subst ht
    rw [upd_same]
    exact hnew.far (p := ⟨g, i, none⟩) (show w.heap.size + 1 ≠ g by omega) _
  · rw [ptrsOf_upd fun j hj => by have := kidsOf_lt hj; omega]
    have h1 := ((h.kids i hi).alloc o).alloc (.cells (nodeCells s.name s.size none nilKids) 106)
    exact own_keep h1 fun b hb => Below.heap_setCell _ _ _ _ (fun he => h.notg i hi (by rw [hb, he]))
  · rcases Nat.lt_or_ge i k with h1 | h1 <;> rcases Nat.lt_or_ge j k with h2 | h2
    · rw [upd_ne nb _ (by omega), upd_ne nb _ (by omega)]
      exact h.apart i j h1 h2 hne
    · obtain rfl : j = k := by omega
      rw [upd_ne nb _ (by omega), upd_same]
      have := hlt i h1
      omega
    · obtain rfl : i = k := by omega
      rw [upd_same, upd_ne nb _ (by omega)]
      have := hlt j h2
      omega
    · omega
  · rcases Nat.lt_or_ge i k with h1 | h1
    · rw [upd_ne nb _ (by omega)]
      exact h.low.2 i h1
    · obtain rfl : i = k := by omega
      rw [upd_same]
      omega

theorem own_nil (w : World) (B : Nat) : w.ownsRow B 57 1 nilKids 0 [] := World.ownsRow_nil w B _ 1

/-- The root is adopted by none. -/
theorem Nodes.root {w : World} {B g k : Nat} {l : List Seg} {nb : Nat → Nat} {cv : Nat → Value} (h : Nodes w B g (k + 1) k l nb cv) (hd : Down l (k + 1)) (hk : k < l.length) (hp : parAt l k < 0) :
    Nodes w B g (k + 1) (k + 1) l nb (upd cv k nilKids) := by
  have hkids : ∀ i, i < k → kidsOf l i (k + 1) = kidsOf l i k := fun i _ => by rw [kidsOf_succ, if_neg (by omega), List.append_nil]
  refine ⟨h.row, fun i t hi ht => ?_, fun i t hi hi2 ht => absurd hi (by omega), fun i hi => ?_, h.apart, fun i j hi hj hne => ?_, fun i hi => ?_, h.low⟩
  · rcases Nat.lt_or_ge i k with h1 | h1
    · rw [upd_ne cv _ (by omega)]
      exact h.node i t h1 ht
    · obtain rfl : i = k := by omega
      rw [upd_same]
      have := h.fresh i t (Nat.le_refl _) (by omega) ht
      unfold parPtr
      rw [if_pos hp]
      exact this
  · rcases Nat.lt_or_ge i k with h1 | h1
    · rw [upd_ne cv _ (by omega), hkids i h1]
      exact h.kids i h1
    · obtain rfl : i = k := by omega
      rw [upd_same, kidsOf_succ, if_neg (by omega), List.append_nil, kidsOf_none (hd.mono (by omega)) (Nat.le_refl _)]
      exact own_nil w B
  · rcases Nat.lt_or_ge i k with h1 | h1
    · rcases Nat.lt_or_ge j k with h2 | h2
      · rw [upd_ne cv _ (by omega), upd_ne cv _ (by omega)]
        exact h.apartC i j h1 h2 hne
      · obtain rfl : j = k := by omega
        rw [upd_ne cv _ (by omega), upd_same]
        cases hb : (cv i).ownBlock with
        | none => exact .inl rfl
        | some b => exact .inr (by simp [nilKids, Value.ownBlock])
    · obtain rfl : i = k := by omega
      rw [upd_same]
      exact .inl rfl
  · rcases Nat.lt_or_ge i k with h1 | h1
    · rw [upd_ne cv _ (by omega)]
      exact h.notg i h1
    · obtain rfl : i = k := by omega
      rw [upd_same]
      simp [nilKids, Value.ownBlock]

end Go.Proofs.YtdbddockmdkmeaaDoor
/- impl.nodesOf makes the nodes of a valid tree. -/
namespace Go.Proofs.YtdbddockmdkmeaaDoor
open Go.RowKit

theorem Nodes.drew {w : World} {B g m k : Nat} {l : List Seg} {nb : Nat → Nat} {cv : Nat → Value} (h : Nodes w B g m k l nb cv) : Nodes w.drew B g m k l nb cv :=
  ⟨h.row, h.node, h.fresh, h.kids, h.apart, h.apartC, h.notg, h.low⟩
end Go.Proofs.YtdbddockmdkmeaaDoor

/- impl.findNode and impl.SizeOf. -/
namespace Go.Proofs.YtdbddockmdkmeaaDoor
open Go.RowKit

end Go.Proofs.YtdbddockmdkmeaaDoor
/- A row of texts of the call's own; marks in segments and in texts: what a law writes into what it was given, and whether it is held. -/
namespace Go.Proofs.YtdbddockmdkmeaaDoor
open Go.RowKit

/-- Texts in a row of the call's own. -/
def OwnTexts (w : World) (B : Nat) (v : Value) (ts : List ByteArray) : Prop := w.ownsRow B 9 1 v ts.length (ts.map Value.string)
theorem OwnTexts.far {w w' : World} {B : Nat} {v : Value} {ts : List ByteArray} (h : OwnTexts w B v ts) (hk : ∀ g, v.ownBlock = some g → w'.heap[g]? = w.heap[g]?) : OwnTexts w' B v ts := by
  refine ⟨h.1, ?_⟩
  rcases h.2 with h0 | ⟨g', cap, cur, rfl, hg, hh, r⟩
  · exact .inl h0
  · exact .inr ⟨g', cap, cur, rfl, hg, (hk g' rfl).trans hh, r⟩
theorem OwnTexts.below {w w' : World} {B : Nat} {v : Value} {ts : List ByteArray} (h : OwnTexts w B v ts) (hb : Below w.heap.size w w') : OwnTexts w' B v ts := h.far fun g hg => hb.block g (World.ownsRow.lt h g hg).2
theorem info_str : (Tryd.prog.info? 9).map (fun i => (i.zero, i.size, i.bytes)) = some (some (.string ByteArray.empty), 1, 16) := by kernel_rfl

theorem OwnTexts.empty (w : World) {B : Nat} (hB : B ≤ w.heap.size) : OwnTexts (w.alloc (.cells #[] 9)) B (.slice (some ⟨w.heap.size, 0, none⟩) 0 0) [] :=
  World.ownsRow_lit w #[] 0 hB (by simp [maxLen]) rfl
theorem OwnTexts.one (w : World) {B : Nat} (hB : B ≤ w.heap.size) (s : ByteArray) : OwnTexts (w.alloc (.cells #[.string s] 9)) B (.slice (some ⟨w.heap.size, 0, none⟩) 1 1) [s] :=
  World.ownsRow_lit w #[.string s] 1 hB (by simp [maxLen]) rfl
end Go.Proofs.YtdbddockmdkmeaaDoor
namespace Go.Proofs.YtdbddockmdkmeaaDoor.St
open Go.RowKit

theorem onlyRefl (w : World) (may : Nat → Prop) : Only w w may := ⟨rfl, rfl, rfl, Nat.le_refl _, fun _ _ _ => rfl⟩
theorem onlyPut {w w' : World} {may : Nat → Prop} (h : Only w w' may) {b : Nat} (hm : may b) (i : Nat) (u : Value) : Only w (w'.setCell ⟨b, i, none⟩ u) may := by
  have hb : Below 0 w' (w'.setCell ⟨b, i, none⟩ u) := (Below.refl 0 w').setCell (Nat.zero_le _) u
  exact ⟨hb.os.trans h.os, hb.tape.trans h.tape, hb.output.trans h.output, by have := h.size; have := hb.size; omega, fun k hk hn => (Below.heap_setCell w' ⟨b, i, none⟩ u k (fun e => hn (by rw [e]; exact hm))).trans (h.block k hk hn)⟩

/-- A slice of texts in memory below 'B'. -/
def Strs (w : World) (B : Nat) (A : Option Addr) (ts : List ByteArray) : Prop :=
  0 < ts.length → ∃ b o, A = some ⟨b, o, none⟩ ∧ b < B ∧ ∀ (k : Nat) (s : ByteArray), ts[k]? = some s → w.cell? ⟨b, o + k, none⟩ = some (.string s)
theorem Strs.below {w w' : World} {B : Nat} {A : Option Addr} {l : List ByteArray} (h : Strs w B A l) (hb : Below B w w') : Strs w' B A l := fun hl => by
  obtain ⟨b, o, e, hB, hc⟩ := h hl
  refine ⟨b, o, e, hB, fun k s hk => ?_⟩
  rw [hb.cell hB]
  exact hc k s hk
theorem Strs.more {w : World} {B B' : Nat} {A : Option Addr} {l : List ByteArray} (h : Strs w B A l) (hB : B ≤ B') : Strs w B' A l := fun hl => by
  obtain ⟨b, o, e, hb, hc⟩ := h hl
  exact ⟨b, o, e, Nat.lt_of_lt_of_le hb hB, hc⟩
theorem textsCell {w : World} {B g cap : Nat} {ts : List ByteArray} (h : OwnTexts w B (.slice (some ⟨g, 0, none⟩) ts.length cap) ts) {i : Nat} {s : ByteArray} (hi : ts[i]? = some s) : w.cell? ⟨g, i, none⟩ = some (.string s) := by
  have hlt := (List.getElem?_eq_some_iff.1 hi).1
  have := World.ownsRow.cellAt h i (by omega)
  rw [this, List.getElem?_map, hi]
  rfl
theorem textsForm {w : World} {B : Nat} {v : Value} {ts : List ByteArray} (h : OwnTexts w B v ts) : ∃ A cap, v = .slice A ts.length cap ∧ Strs w w.heap.size A ts := by
  have h' := h
  rcases h.2 with ⟨rfl, h0⟩ | ⟨g, cap, cur, rfl, hg, hh, r⟩
  · exact ⟨none, 0, by rw [h0], fun h => absurd h (by omega)⟩
  · refine ⟨_, cap, rfl, fun _ => ⟨g, 0, rfl, (Array.getElem?_eq_some_iff.1 hh).1, fun k s hk => ?_⟩⟩
    rw [Nat.zero_add]
    exact textsCell h' hk
end Go.Proofs.YtdbddockmdkmeaaDoor.St

namespace Go.Proofs.YtdbddockmdkmeaaDoor
open Go.RowKit

end Go.Proofs.YtdbddockmdkmeaaDoor
/- The reference cuts a text. -/
namespace Go.Proofs.YtdbddockmdkmeaaDoor
open Go.RowKit

set_option maxRecDepth 100000 in
/-- Texts put behind texts: append, where what is put behind lies somewhere else. -/
theorem wp_app12 {ops : Array Oper} {rest : List Oper} {o : Oper} {a : Act} {Q : Exit → Act → World → Prop} (hgd : o.guard = none) (S X : Operand)
    (ho : o.op = Op.call { callee := Callee.builtin Builtin.append, args := #[S, X], argTypes := #[79, 79] })
    (B : Nat) (v : Value) (ts : List ByteArray) (W : World) (hs : a.eval S = v) (hown : OwnTexts W B v ts) (htl : ts.length ≤ 100000000) (hB : B ≤ W.heap.size)
    (g off m c : Nat) (us : List ByteArray) (hx : a.eval X = .slice (some ⟨g, off, none⟩) m c) (hm : us.length = m) (hul : us.length ≤ 1000)
    (hnew : ∀ j x, us[j]? = some x → W.cell? ⟨g, off + j, none⟩ = some (.string x))
    (h : ∀ v' w', OwnTexts w' B v' (ts ++ us) → Below B W w' → (∀ k, k < W.heap.size → v.ownBlock ≠ some k → w'.heap[k]? = W.heap[k]?) → (v' = .slice none 0 0 ↔ v = .slice none 0 0 ∧ m = 0) → wpList Tryd.prog ops Q rest (a.put o.dst v') w') :
    wpList Tryd.prog ops Q (o :: rest) a W := by
  obtain ⟨i0, hi, hz0, hz1, hz2⟩ := info_parts info_str
  refine wpList_append_own W hgd S X 79 ho B 9 i0 (.string ByteArray.empty) 1 16 Tryd.underlying79 hi hz0 hz1 hz2 rfl (by decide) v ts.length (ts.map Value.string) hs hown ⟨g, off, none⟩ m c (us.map Value.string) hx (by rw [List.length_map, hm, Nat.mul_one]) ?_ ?_ (by unfold maxLen; omega) (by omega) hB ?_
  · intro j u hj
    rw [List.getElem?_map] at hj
    rw [Addr.add_lit]
    cases hu : us[j]? with
    | none => rw [hu] at hj; cases hj
    | some x =>
      rw [hu] at hj
      injection hj with hj
      rw [← hj]
      exact hnew j x hu
  · intro u hu
    obtain ⟨x, _, rfl⟩ := List.mem_map.1 hu
    rfl
  · intro v' w' h1 h2 h3
    refine h v' w' ?_ ?_ ?_ h3
    · show w'.ownsRow B _ 1 v' (ts ++ us).length ((ts ++ us).map Value.string)
      rw [List.length_append, List.map_append, hm]
      exact h1
    · exact (Below.refl B W).grown h2 hB (fun k e => (World.ownsRow.lt hown k e).1)
    · exact fun k hk hne => h2.block k hk (fun e => hne e.symm)


/-- What stands after i steps: the pieces, and where the next one begins. -/
def cutSt (s : ByteArray) (c : UInt8) : Nat → List ByteArray × Nat
  | 0 => ([], 0)
  | i + 1 => if (i == s.size || s.data.toList.getD i 0 == c) = true then ((cutSt s c i).1 ++ [s.extract (cutSt s c i).2 i], i + 1) else cutSt s c i
def cutRes (s : ByteArray) (c : UInt8) : List ByteArray := (cutSt s c (s.size + 1)).1
theorem cutSt_le (s : ByteArray) (c : UInt8) : ∀ i, (cutSt s c i).2 ≤ i ∧ (cutSt s c i).1.length ≤ i
  | 0 => ⟨Nat.le_refl _, Nat.le_refl _⟩
  | i + 1 => by
    have h := cutSt_le s c i
    show (if _ then _ else _ : List ByteArray × Nat).2 ≤ _ ∧ (if _ then _ else _ : List ByteArray × Nat).1.length ≤ _
    split
    · exact ⟨Nat.le_refl _, by rw [List.length_append]; show _ + 1 ≤ _; omega⟩
    · exact ⟨by omega, by omega⟩
theorem at12 (s : ByteArray) (i : Nat) (h : i < s.size) : s.data.toList.getD i 0 = s[i] := by
  have h' : i < s.data.toList.length := by simpa using h
  rw [List.getD_eq_getElem?_getD, List.getElem?_eq_getElem h']
  simp
  rfl

set_option maxRecDepth 100000 in
set_option maxHeartbeats 1000000 in
theorem l13Cut_any (s : ByteArray) (c : UInt8) (w : World) (hs : s.size ≤ 1048576) :
    Calls Tryd.prog 92 #[.string s, .int .u8 c.toNat] w fun e w' => (∃ v, e = .returned v ∧ OwnTexts w' w.heap.size v (cutRes s c)) ∧ Below w.heap.size w w' := by
  have HO1 : Hid (OwnTexts (w.alloc (.cells #[] 9)) w.heap.size (.slice (some ⟨w.heap.size, 0, none⟩) 0 0) (cutSt s c 0).1) := OwnTexts.empty w (Nat.le_refl _)
  have HB1 : Hid (Below w.heap.size w (w.alloc (.cells #[] 9))) := (Below.refl _ w).alloc (Nat.le_refl _) _
  have HLE := Lib.hid (cutSt_le s c)
  have HNX : Hid (∀ i, cutSt s c (i + 1) = if (i == s.size || s.data.toList.getD i 0 == c) = true then ((cutSt s c i).1 ++ [s.extract (cutSt s c i).2 i], i + 1) else cutSt s c i) := fun i => rfl
  have HRS : Hid (cutRes s c = (cutSt s c (s.size + 1)).1) := rfl
  have HZ : Hid ((cutSt s c 0).2 = 0) := rfl
  generalize cutRes s c = R at *
  generalize cutSt s c = st at *
  go_enter Tryd.func92, Tryd.ntmps92
  go_wp2
  go_loopw [5, 6, 7] (fun v f i wr => ∃ (k m : Nat), f = .int .i64 m ∧ i = .int .i64 k ∧ k ≤ s.size + 1 ∧ m ≤ k ∧ Hid (m = (st k).2) ∧ Hid (OwnTexts wr w.heap.size v (st k).1) ∧ Hid (Below w.heap.size w wr))
    (fun _ _ i _ => s.size + 1 - (intOf i).toNat)
  case atStart => exact ⟨0, 0, rfl, rfl, by omega, by omega, Lib.hid HZ.out.symm, HO1, HB1⟩
  case round =>
    obtain ⟨k, m, rfl, rfl, hk, hm, HM, HO, HB⟩ := hrel
    clear HO1 HB1 HZ
    obtain ⟨A1, cap1, rfl, -⟩ := St.textsForm HO.out
    have hz := HB.out.size
    by_cases hlt : k ≤ s.size
    · have hlt' : (k : Int) ≤ (s.size : Int) := by omega
      have hml : (m : Int) ≤ (k : Int) := by omega
      have hm0 : (0 : Int) ≤ (m : Int) := Int.natCast_nonneg _
      have hk0 : (0 : Int) ≤ (k : Int) := Int.natCast_nonneg _
      have htl := (HLE.out k).2
      have HN := Lib.hid (HNX.out k)
      obtain ⟨ts, HTS⟩ : ∃ ts, Hid (ts = (st k).1) := ⟨_, rfl⟩
      rw [← HTS.out] at HO htl
      rw [← HTS.out]
      have HT6 : Hid (OwnTexts (wr.alloc (.cells #[.string (s.extract m k)] 9)) w.heap.size (.slice A1 ts.length cap1) ts) := HO.out.below ((Below.refl _ wr).alloc (Nat.le_refl _) _)
      have HN6 : Hid (∀ j x, [s.extract m k][j]? = some x → (wr.alloc (.cells #[.string (s.extract m k)] 9)).cell? ⟨wr.heap.size, 0 + j, none⟩ = some (.string x)) := by
        intro j x hj
        have hj0 : j = 0 := by have := (List.getElem?_eq_some_iff.1 hj).1; simp at this; omega
        subst hj0
        simp at hj
        subst hj
        exact Row.cell (Row.new wr 9 #[.string (s.extract m k)]) 0
      by_cases heq : k = s.size
      · have hc1 : ((k : Int) == (s.size : Int)) = true := by rw [heq]; simp
        have HST : Hid (st (k + 1) = (ts ++ [s.extract m k], k + 1)) := by
          show _ = _
          rw [HN.out, if_pos (by rw [heq]; simp), ← HTS.out, ← HM.out]
        clear heq HN HTS HM
        go_wp2_with (at_builtin; go_loud (refine wp_app12 rfl (.tmp 26) (.tmp 31) rfl w.heap.size _ ts _ rfl HT6.out (by omega) (by simp; omega) wr.heap.size 0 1 1 [s.extract m k] rfl rfl (by simp) HN6.out ?_); intro v7 w7 ho7 hb7 _ _; have HO7 := Lib.hid ho7; have HB7 : Hid (Below w.heap.size w w7) := (HB.out.alloc hz _).trans hb7; clear ho7 hb7 HN6 HT6 HO HB)
        go_roundw
        case rel => exact ⟨k + 1, k + 1, by go_num, by go_num, by omega, by omega, by rw [HST.out]; exact Lib.hid rfl, by rw [HST.out]; exact HO7, HB7⟩
        case measure => simp [intOf]; omega
      · have hlt2 : k < s.size := by omega
        have hlt3 : (k : Int) < (s.size : Int) := by omega
        have hc1 : ((k : Int) == (s.size : Int)) = false := by rw [beq_eq_false_iff_ne]; omega
        have hat := at12 s k hlt2
        by_cases he : s[k] = c
        · have ht : ((s[k].toNat : Int) == (c.toNat : Int)) = true := by rw [he]; simp
          have HST : Hid (st (k + 1) = (ts ++ [s.extract m k], k + 1)) := by
            show _ = _
            rw [HN.out, if_pos (by rw [hat, he]; simp), ← HTS.out, ← HM.out]
          clear heq HN HTS HM he hat
          go_wp2_with (at_builtin; go_loud (refine wp_app12 rfl (.tmp 26) (.tmp 31) rfl w.heap.size _ ts _ rfl HT6.out (by omega) (by simp; omega) wr.heap.size 0 1 1 [s.extract m k] rfl rfl (by simp) HN6.out ?_); intro v7 w7 ho7 hb7 _ _; have HO7 := Lib.hid ho7; have HB7 : Hid (Below w.heap.size w w7) := (HB.out.alloc hz _).trans hb7; clear ho7 hb7 HN6 HT6 HO HB)
          go_roundw
          case rel => exact ⟨k + 1, k + 1, by go_num, by go_num, by omega, by omega, by rw [HST.out]; exact Lib.hid rfl, by rw [HST.out]; exact HO7, HB7⟩
          case measure => simp [intOf]; omega
        · have ht : ((s[k].toNat : Int) == (c.toNat : Int)) = false := by
            rw [beq_eq_false_iff_ne]
            exact fun e => he (UInt8.toNat_inj.1 (by omega))
          have HST : Hid (st (k + 1) = st k) := by
            show _ = _
            rw [HN.out, if_neg (by rw [hat]; simp; exact ⟨heq, he⟩)]
          have HM2 : Hid (m = (st (k + 1)).2) := by show _ = _; rw [HST.out]; exact HM.out
          have HO2 : Hid (OwnTexts wr w.heap.size (.slice A1 ts.length cap1) (st (k + 1)).1) := by rw [HST.out, ← HTS.out]; exact HO
          clear heq HN HTS HM he hat HT6 HN6
          go_wp2
          go_roundw
          case rel => exact ⟨k + 1, m, rfl, by go_num, by omega, by omega, HM2, HO2, HB⟩
          case measure => simp [intOf]; omega
    · have hke : k = s.size + 1 := by omega
      have HR : Hid (R = (st k).1) := by show _ = _; rw [HRS.out, hke]
      have hlt' : ¬ (k : Int) ≤ (s.size : Int) := by omega
      clear HRS hke
      go_wp2
      go_ret
      exact ⟨⟨_, rfl, by rw [HR.out]; exact HO.out⟩, HB.out⟩

end Go.Proofs.YtdbddockmdkmeaaDoor
