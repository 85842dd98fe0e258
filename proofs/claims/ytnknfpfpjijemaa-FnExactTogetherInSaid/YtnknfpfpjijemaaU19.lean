/- Joined: Ge Qd Qf Gh Bj Gf Gj Gk Gl Gm Gn Go Bd. -/
import Derived.Test.YtnknfpfpjijemaaU02
import Derived.Laws.Rows
import Derived.Test.YtnknfpfpjijemaaU06
import Derived.RangeFuncWrites
import Derived.Test.YtnknfpfpjijemaaU05
import Derived.Test.YtnknfpfpjijemaaU07
import Derived.Test.YtnknfpfpjijemaaU18
import Derived.IntWalk
import Derived.Test.YtnknfpfpjijemaaU15
import Derived.Maps.AppendAt
import Derived.Deep.AppendLies
import Derived.Deep.RegionWith
import Derived.WalkMore
/- A state as an array of eight truths: what is in one and not in another. -/
namespace Go.Proofs.Ytnknfpfpjijemaa
open Go.RowKit

def bitCells (f : Nat → Bool) : Array Value := #[.bool (f 0), .bool (f 1), .bool (f 2), .bool (f 3), .bool (f 4), .bool (f 5), .bool (f 6), .bool (f 7)]
def bitsV (f : Nat → Bool) : Value := .agg (bitCells f)
theorem bits_at (f : Nat → Bool) {k : Nat} (h : k < 8) : (bitCells f)[k]? = some (.bool (f k)) := by
  match k, h with
  | 0, _ => rfl
  | 1, _ => rfl
  | 2, _ => rfl
  | 3, _ => rfl
  | 4, _ => rfl
  | 5, _ => rfl
  | 6, _ => rfl
  | 7, _ => rfl
theorem bits_set (f : Nat → Bool) {k : Nat} (h : k < 8) (b : Bool) : (bitCells f).setIfInBounds k (.bool b) = bitCells (fun j => if j = k then b else f j) := by
  match k, h with
  | 0, _ => rfl
  | 1, _ => rfl
  | 2, _ => rfl
  | 3, _ => rfl
  | 4, _ => rfl
  | 5, _ => rfl
  | 6, _ => rfl
  | 7, _ => rfl
theorem bits_congr {f g : Nat → Bool} (h : ∀ j, j < 8 → f j = g j) : bitCells f = bitCells g := by
  unfold bitCells
  rw [h 0 (by decide), h 1 (by decide), h 2 (by decide), h 3 (by decide), h 4 (by decide), h 5 (by decide), h 6 (by decide), h 7 (by decide)]
/-- What is left after the first 'k' have been gone over. -/
def lessTo (f g : Nat → Bool) (k j : Nat) : Bool := if j < k then f j && !g j else f j
theorem lessTo_step (f g : Nat → Bool) {k : Nat} (h : k < 8) (b : Bool) (hb : b = (f k && !g k)) : (bitCells (lessTo f g k)).setIfInBounds k (.bool b) = bitCells (lessTo f g (k + 1)) := by
  rw [bits_set _ h]
  apply bits_congr
  intro j hj
  unfold lessTo
  by_cases h1 : j = k
  · subst h1
    rw [if_pos rfl, if_pos (by omega), hb]
  · rw [if_neg h1]
    by_cases h2 : j < k
    · rw [if_pos h2, if_pos (by omega)]
    · rw [if_neg h2, if_neg (by omega)]
theorem bits_cells {t : TypeId} {w : World} {b : Nat} {f : Nat → Bool} (h : Row w b t (bitCells f)) : (w.cell? ⟨b, 0, none⟩ = some (.bool (f 0)) ∧ w.cell? ⟨b, 1, none⟩ = some (.bool (f 1)) ∧ w.cell? ⟨b, 2, none⟩ = some (.bool (f 2)) ∧ w.cell? ⟨b, 3, none⟩ = some (.bool (f 3))) ∧
    (w.cell? ⟨b, 4, none⟩ = some (.bool (f 4)) ∧ w.cell? ⟨b, 5, none⟩ = some (.bool (f 5)) ∧ w.cell? ⟨b, 6, none⟩ = some (.bool (f 6)) ∧ w.cell? ⟨b, 7, none⟩ = some (.bool (f 7))) :=
  ⟨⟨h.cell 0, h.cell 1, h.cell 2, h.cell 3⟩, h.cell 4, h.cell 5, h.cell 6, h.cell 7⟩
/-- The world behind a store of a whole state. -/
def putBits (w : World) (b : Nat) (f : Nat → Bool) : World :=
  (((((((w.setCell ⟨b, 0, none⟩ (.bool (f 0))).setCell ⟨b, 1, none⟩ (.bool (f 1))).setCell ⟨b, 2, none⟩ (.bool (f 2))).setCell ⟨b, 3, none⟩ (.bool (f 3))).setCell ⟨b, 4, none⟩ (.bool (f 4))).setCell ⟨b, 5, none⟩ (.bool (f 5))).setCell ⟨b, 6, none⟩ (.bool (f 6))).setCell ⟨b, 7, none⟩ (.bool (f 7))
def upTo (f g : Nat → Bool) (k j : Nat) : Bool := if j < k then f j else g j
theorem upTo_step {t : TypeId} {w : World} {b k : Nat} {f g : Nat → Bool} (h : Row w b t (bitCells (upTo f g k))) (hk : k < 8) : Row (w.setCell ⟨b, k, none⟩ (.bool (f k))) b t (bitCells (upTo f g (k + 1))) := by
  have h1 := h.put k (.bool (f k))
  rw [bits_set _ hk] at h1
  rw [bits_congr (f := upTo f g (k + 1)) (g := fun j => if j = k then f k else upTo f g k j)]
  · exact h1
  · intro j _
    unfold upTo
    by_cases e : j = k
    · subst e
      rw [if_pos (by omega), if_pos rfl]
    · rw [if_neg e]
      by_cases e2 : j < k
      · rw [if_pos e2, if_pos (by omega)]
      · rw [if_neg e2, if_neg (by omega)]
theorem putBits_row {t : TypeId} {w : World} {b : Nat} {f g : Nat → Bool} (h : Row w b t (bitCells g)) : Row (putBits w b f) b t (bitCells f) := by
  have h0 : Row w b t (bitCells (upTo f g 0)) := h
  have h8 := upTo_step (upTo_step (upTo_step (upTo_step (upTo_step (upTo_step (upTo_step (upTo_step h0 (by decide)) (by decide)) (by decide)) (by decide)) (by decide)) (by decide)) (by decide)) (by decide)
  rw [bits_congr (f := f) (g := upTo f g 8) (fun j hj => (if_pos hj).symm)]
  exact h8
theorem putBits_far {w : World} {b b' : Nat} {f : Nat → Bool} {t : TypeId} {cs : Array Value} (h : Row w b' t cs) (hne : b' ≠ b) : Row (putBits w b f) b' t cs :=
  (((((((h.far (p := ⟨b, 0, none⟩) hne _).far (p := ⟨b, 1, none⟩) hne _).far (p := ⟨b, 2, none⟩) hne _).far (p := ⟨b, 3, none⟩) hne _).far (p := ⟨b, 4, none⟩) hne _).far (p := ⟨b, 5, none⟩) hne _).far (p := ⟨b, 6, none⟩) hne _).far (p := ⟨b, 7, none⟩) hne _
theorem putBits_block (w : World) (b : Nat) (f : Nat → Bool) {k : Nat} (h : k ≠ b) : (putBits w b f).heap[k]? = w.heap[k]? := by
  unfold putBits
  rw [Below.heap_setCell _ ⟨b, 7, none⟩ _ k h, Below.heap_setCell _ ⟨b, 6, none⟩ _ k h, Below.heap_setCell _ ⟨b, 5, none⟩ _ k h, Below.heap_setCell _ ⟨b, 4, none⟩ _ k h, Below.heap_setCell _ ⟨b, 3, none⟩ _ k h, Below.heap_setCell _ ⟨b, 2, none⟩ _ k h, Below.heap_setCell _ ⟨b, 1, none⟩ _ k h, Below.heap_setCell _ ⟨b, 0, none⟩ _ k h]
theorem putBits_below {w0 w : World} {B b : Nat} {f : Nat → Bool} (h : Below B w0 w) (hb : B ≤ b) : Below B w0 (putBits w b f) :=
  (((((((h.setCell (p := ⟨b, 0, none⟩) hb _).setCell (p := ⟨b, 1, none⟩) hb _).setCell (p := ⟨b, 2, none⟩) hb _).setCell (p := ⟨b, 3, none⟩) hb _).setCell (p := ⟨b, 4, none⟩) hb _).setCell (p := ⟨b, 5, none⟩) hb _).setCell (p := ⟨b, 6, none⟩) hb _).setCell (p := ⟨b, 7, none⟩) hb _

end Go.Proofs.Ytnknfpfpjijemaa
/- Where nodes lie, yielded one by one. -/
namespace Go.Proofs.Ytnknfpfpjijemaa
open Go.RowKit Go.Shelf
attribute [local go_sem] Oper.semAt_some

/-- All blocks below 'n₀' but 'bb', rows of bytes aside, lie as they lay. -/
def Kept (n₀ bb : Nat) (W W' : World) : Prop := ∀ (k : Nat) (o : Obj), k < n₀ → k ≠ bb → W.heap[k]? = some o → (∀ c fz, o ≠ .cells c 5 fz) → W'.heap[k]? = some o
theorem Kept.refl (n₀ bb : Nat) (W : World) : Kept n₀ bb W W := fun _ _ _ _ h _ => h
theorem Kept.trans {n₀ bb : Nat} {A B C : World} (h : Kept n₀ bb A B) (k : Kept n₀ bb B C) : Kept n₀ bb A C := fun i o h1 h2 h3 h4 => k i o h1 h2 (h i o h1 h2 h3 h4) h4
theorem Kept.of_below {n₀ bb : Nat} {A B : World} (h : Below A.heap.size A B) : Kept n₀ bb A B := fun i _ _ _ h3 _ => (h.block i (Array.getElem?_eq_some_iff.1 h3).1).trans h3
theorem Kept.row {n₀ bb : Nat} {A B : World} (h : Kept n₀ bb A B) {b : Nat} {t : TypeId} {cs : Array Value} (hr : Row A b t cs) (h1 : b < n₀) (h2 : b ≠ bb) (h3 : t ≠ 5) : Row B b t cs :=
  h b _ h1 h2 hr (fun c fz he => by injection he with _ ht; exact h3 ht)
theorem Kept.put {n₀ bb : Nat} (W : World) {l : Nat} (o : Obj) (hl : n₀ ≤ l) : Kept n₀ bb W (W.putObj l o) := fun _ _ _ _ h3 _ => (World.putObj_heap_other (by omega)).trans h3
theorem grownBy_of_below {A B : World} (h : Below A.heap.size A B) : A.grownBy B none := ⟨h.os, h.tape, h.output, h.size, fun k hk _ => h.block k hk⟩

/-- The nodes that the iterator reads. -/
structure Lain (w : World) (n₀ bb g : Nat) (l : List Seg) (nb : Nat → Nat) : Prop where
  row : ∃ cs, Row w g 107 cs ∧ ∀ i, i < l.length → cs[i]? = some (.pointer (some ⟨nb i, 0, none⟩))
  rowAt : g < n₀ ∧ g ≠ bb
  node : ∀ (i : Nat) (hi : i < l.length), ∃ cv, Row w (nb i) 150 #[.string (l[i]'hi).name, .int .i64 (l[i]'hi).size, .pointer (parPtr l nb i), cv]
  nodeAt : ∀ i, i < l.length → nb i < n₀ ∧ nb i ≠ bb
theorem Lain.kept {w w' : World} {n₀ bb g : Nat} {l : List Seg} {nb : Nat → Nat} (h : Lain w n₀ bb g l nb) (hk : Kept n₀ bb w w') : Lain w' n₀ bb g l nb := by
  obtain ⟨cs, hr, hc⟩ := h.row
  refine ⟨⟨cs, hk.row hr h.rowAt.1 h.rowAt.2 (by decide), hc⟩, h.rowAt, fun i hi => ?_, h.nodeAt⟩
  obtain ⟨cv, hn⟩ := h.node i hi
  exact ⟨cv, hk.row hn (h.nodeAt i hi).1 (h.nodeAt i hi).2 (by decide)⟩
theorem Lain.placed {w : World} {n₀ bb g : Nat} {l : List Seg} {nb : Nat → Nat} (h : Lain w n₀ bb g l nb) : Placed w l nb := fun j hj => by
  obtain ⟨cv, hn⟩ := h.node j hj
  refine ⟨hn.lt, ?_, hn.cell 2⟩
  rw [sizeAt_of hj]
  exact hn.cell 1

/-- What a round says, by the truth it hands back. -/
def YP {α : Type} (J Jx : List α → World → Prop) (Kp : World → World → Prop) (ys : List α) (W1 : World) (b : Bool) (W' : World) : Prop := if b then J ys W' ∧ Kp W1 W' else Jx ys W'

theorem YP.yes {α : Type} {J Jx : List α → World → Prop} {Kp : World → World → Prop} {ys : List α} {W1 W' : World} (h : YP J Jx Kp ys W1 true W') : J ys W' ∧ Kp W1 W' := by
  unfold YP at h
  rwa [if_pos rfl] at h
theorem YP.no {α : Type} {J Jx : List α → World → Prop} {Kp : World → World → Prop} {ys : List α} {W1 W' : World} (h : YP J Jx Kp ys W1 false W') : Jx ys W' := by
  unfold YP at h
  rwa [if_neg (by decide)] at h

def placeArgs (l : List Seg) (x : Ix l) : Array Value := #[.string (l[x.1]'x.2).name, .agg #[.int .i64 (begAt l x.1), .int .i64 (endAt l x.1)]]

end Go.Proofs.Ytnknfpfpjijemaa
/- The program's LiesAt. -/
namespace Go.Proofs.Ytnknfpfpjijemaa
open Go.RowKit Go.Shelf
attribute [local go_sem] Oper.semAt_some

/-- How many segments the program goes over. -/
def shown (l : List Seg) : Nat := if validB l = true then l.length else 0

theorem Nodes.lain {w' W : World} {B g bb : Nat} {l : List Seg} {nb : Nat → Nat} {cv : Nat → Value} (h : Nodes w' B g l.length l.length l nb cv) (hb : Below w'.heap.size w' W) (hbb : bb < B) : Lain W W.heap.size bb g l nb := by
  have h2 := h.below hb
  obtain ⟨cs, hr, _, hc⟩ := h2.row
  refine ⟨⟨cs, hr, hc⟩, ⟨hr.lt, by have := h.low.1; omega⟩, fun i hi => ⟨cv i, h2.node i _ hi (List.getElem?_eq_getElem hi)⟩, fun i hi => ⟨(h2.node i _ hi (List.getElem?_eq_getElem hi)).lt, by have := h.low.2 i hi; omega⟩⟩

/-- The bytes of the names that were told. -/
def toldB (l : List Seg) (a : Int) (ys : List (Ix l)) : List UInt8 := nameBytes l (ys.filter fun x => holdsB l a x.1)
theorem told_snoc (l : List Seg) (a : Int) (ys : List (Ix l)) (x : Ix l) : toldB l a (ys ++ [x]) = if holdsB l a x.1 = true then toldB l a ys ++ (l[x.1]'x.2).name.data.toList else toldB l a ys := by
  unfold toldB
  rw [List.filter_append]
  by_cases h : holdsB l a x.1 = true
  · rw [if_pos h, List.filter_cons, if_pos h]
    exact nameBytes_snoc l _ x
  · rw [if_neg h, List.filter_cons, if_neg h]
    simp
theorem told_all {l : List Seg} {a : Int} {ys : List (Ix l)} (h : ys.map (·.1) = List.range (shown l)) : (⟨(toldB l a ys).toArray⟩ : ByteArray) = overStr l a ∧ decide (0 < (toldB l a ys).length) = overOk l a := by
  have h1 : (toldB l a ys) = ((List.range (shown l)).filter (holdsB l a)).flatMap (nmAt l) := by
    unfold toldB
    rw [nameBytes_map, ← h, List.filter_map]
    rfl
  by_cases hv : validB l = true
  · have hs : shown l = l.length := if_pos hv
    rw [hs] at h1
    have h2 : (⟨(toldB l a ys).toArray⟩ : ByteArray) = overStr l a := by
      unfold overStr
      rw [if_pos hv, h1]
      rfl
    refine ⟨h2, ?_⟩
    rw [← overStr_size hv a, ← h2]
    rfl
  · have hs : shown l = 0 := if_neg hv
    rw [hs] at h1
    have h3 : toldB l a ys = [] := h1
    rw [h3]
    refine ⟨(if_neg hv).symm, ?_⟩
    unfold overOk
    rw [show validB l = false by simpa using hv]
    rfl
theorem shown_valid {l : List Seg} {n : Nat} (h : n < shown l) : validB l = true := Classical.byContradiction fun hv => by
  have : shown l = 0 := if_neg hv
  omega
theorem told_len {l : List Seg} (a : Int) (ys : List (Ix l)) (hv : validB l = true) : (toldB l a ys).length ≤ ys.length :=
  Nat.le_trans (nameBytes_len (valid_names hv) _) (List.length_filter_le _ _)
theorem shown_le {l : List Seg} : shown l ≤ 8 := by
  by_cases hv : validB l = true
  · have : shown l = l.length := if_pos hv
    have := (valid_all hv).2.1
    omega
  · have : shown l = 0 := if_neg hv
    omega

theorem kept_others {n₀ bb : Nat} {W W' : World} (h : Lib.OthersKept 5 (some bb) W W') : Kept n₀ bb W W' := fun k o _ h2 h3 h4 => h k o h3 (fun e => h2 (by cases e; rfl)) h4
theorem from_below {B : Nat} {W W' : World} (h : Below W.heap.size W W') : KeepsFrom B W W' := KeepsFrom.of_grownBy (grownBy_of_below h) (fun j e => by cases e)

theorem builder_cells {T e : TypeId} {B b : Nat} {bs : List Value} {w : World} (h : Lib.IsBuilderF T e B b bs w) : ∃ c, w.heap[b]? = some (.cells c T (0, 0)) := by
  rcases h with ⟨_, v, h2, _⟩ | ⟨_, v, h2, _⟩
  · exact ⟨_, h2⟩
  · exact ⟨_, h2⟩

/-- What the loop keeps. -/
structure Telling (w : World) (l : List Seg) (a : Int) (pre : List (Ix l)) (W : World) : Prop where
  text : Lib.IsBuilderF 61 5 (w.heap.size + 1) (w.heap.size + 1) (Lib.byteCells (toldB l a pre)) W
  box : Row W w.heap.size 3 #[.int .i64 a]
  below : Below w.heap.size w W
theorem Telling.grown {w W W' : World} {l : List Seg} {a : Int} {pre : List (Ix l)} {B : Nat} {row : Option Nat} (h : Telling w l a pre W) (hg : W.grownBy W' row) (hB : w.heap.size ≤ B) (hr : ∀ r, row = some r → B ≤ r ∧ ∃ o : Obj, W.heap[r]? = some o ∧ o.isCells = false) : Telling w l a pre W' :=
  ⟨isB_own _ _ _ _ B (fun _ : List Unit => Lib.byteCells (toldB l a pre)) [] W W' row h.text hg hr, row_grown h.box hg hr, h.below.grown hg h.below.size (fun k e => by have := (hr k e).1; omega)⟩
theorem Telling.below' {w W W' : World} {l : List Seg} {a : Int} {pre : List (Ix l)} (h : Telling w l a pre W) (hb : Below W.heap.size W W') : Telling w l a pre W' := h.grown (B := w.heap.size) (grownBy_of_below hb) (Nat.le_refl _) (fun r e => by cases e)

end Go.Proofs.Ytnknfpfpjijemaa
/- The names of what is loaded in a state. -/
namespace Go.Proofs.Ytnknfpfpjijemaa
open Go.RowKit Go.Shelf

theorem asc_ext : ∀ {a b : List Nat}, a.Pairwise (· < ·) → b.Pairwise (· < ·) → (∀ x, x ∈ a ↔ x ∈ b) → a = b
  | [], [], _, _, _ => rfl
  | [], y :: b, _, _, h => by
    have := (h y).2 List.mem_cons_self
    cases this
  | x :: a, [], _, _, h => by
    have := (h x).1 List.mem_cons_self
    cases this
  | x :: a, y :: b, ha, hb, h => by
    have ha' := List.pairwise_cons.1 ha
    have hb' := List.pairwise_cons.1 hb
    have hxy : x = y := by
      have h1 := (h x).1 List.mem_cons_self
      have h2 := (h y).2 List.mem_cons_self
      rcases List.mem_cons.1 h1 with e | e
      · exact e
      · rcases List.mem_cons.1 h2 with e2 | e2
        · exact e2.symm
        · have := hb'.1 x e
          have := ha'.1 y e2
          omega
    subst hxy
    rw [asc_ext ha'.2 hb'.2]
    intro z
    constructor
    · intro hz
      have := ha'.1 z hz
      rcases List.mem_cons.1 ((h z).1 (List.mem_cons_of_mem _ hz)) with e | e
      · omega
      · exact e
    · intro hz
      have := hb'.1 z hz
      rcases List.mem_cons.1 ((h z).2 (List.mem_cons_of_mem _ hz)) with e | e
      · omega
      · exact e
/-- The segments of which a truth is told, among the first 'k'. -/
def selIx (f : Nat → Bool) (k : Nat) : List Nat := (List.range k).filter f
theorem selIx_succ (f : Nat → Bool) (k : Nat) : selIx f (k + 1) = selIx f k ++ if f k = true then [k] else [] := by
  unfold selIx
  rw [List.range_succ, List.filter_append]
  by_cases h : f k = true <;> simp [h]
theorem selIx_len (f : Nat → Bool) (k : Nat) : (selIx f k).length ≤ k := by
  have := List.length_filter_le f (List.range k)
  simpa [selIx] using this
theorem selIx_lt {f : Nat → Bool} {k j : Nat} (h : j ∈ selIx f k) : j < k := List.mem_range.1 (List.mem_filter.1 h).1
theorem sel_mem {T : List Nat} {n : Nat} (ha : T.Pairwise (· < ·)) (hl : ∀ j ∈ T, j < n) : selIx (fun j => decide (j ∈ T)) n = T := by
  apply asc_ext
  · exact List.Pairwise.filter _ List.pairwise_lt_range
  · exact ha
  · intro x
    unfold selIx
    rw [List.mem_filter, List.mem_range]
    constructor
    · intro h; simpa using h.2
    · intro h; exact ⟨hl x h, by simpa using h⟩

theorem kept_row {T : TypeId} {w w' : World} {b k : Nat} {cs : Array Value} (h : Lib.OthersKept 5 (some b) w w') (hr : Row w k T cs) (hk : k ≠ b) (hT : T ≠ 5) : Row w' k T cs :=
  h k _ hr (fun e => hk (by injection e)) (fun c fz e => by injection e with _ e2; exact hT e2)

end Go.Proofs.Ytnknfpfpjijemaa

/- The state in which the path of a node is loaded. -/
namespace Go.Proofs.Ytnknfpfpjijemaa
open Go.RowKit Go.Shelf
attribute [local go_sem] Oper.semAt_some

theorem nodes_own {w : World} {B g : Nat} {l : List Seg} {nb : Nat → Nat} {cv : Nat → Value} (h : Nodes w B g l.length l.length l nb cv) (hl : l.length ≤ 1000) :
    w.ownsRow B 107 1 (.slice (some ⟨g, 0, none⟩) (List.range l.length).length l.length) (List.range l.length).length (ptrsOf nb (List.range l.length)) := by
  obtain ⟨cs, hrow, hcs, hci⟩ := h.row
  refine ⟨by simp [ptrsOf], .inr ⟨g, l.length, cs, rfl, h.low.1, hrow, by simp, by unfold maxLen; omega, by omega, ?_⟩⟩
  apply List.ext_getElem?
  intro k
  rw [List.getElem?_take]
  by_cases hk : k < l.length
  · rw [if_pos (by simpa using hk)]
    have h1 := hci k hk
    rw [← Array.getElem?_toList] at h1
    rw [h1]
    simp [ptrsOf, hk]
  · rw [if_neg (by simpa using hk)]
    simp [ptrsOf, hk]

/-- Where a node stands. -/
theorem indexAll_any (B g i : Nat) (l : List Seg) (nb : Nat → Nat) (cv : Nat → Value) (w : World) (h : Nodes w B g l.length l.length l nb cv) (hl : l.length ≤ 1000) (hi : i < l.length) :
    Calls Try.prog 119 #[.slice (some ⟨g, 0, none⟩) l.length l.length, .pointer (some ⟨nb i, 0, none⟩)] w fun e w' => e = .returned (.int .i64 i) ∧ w = w' := by
  have h1 := index_any g l.length B (List.range l.length) nb i w (nodes_own h hl) (by simpa using hl) (fun j hj => by
    have hjl : j < l.length := hj.elim (fun e => e ▸ hi) (fun h => List.mem_range.1 h)
    exact ⟨_, h.node j _ hjl (List.getElem?_eq_getElem hjl)⟩) (fun j hj he => Classical.byContradiction fun hne => h.apart i j hi (List.mem_range.1 hj) hne he)
  rw [List.length_range] at h1
  refine h1.mono ?_
  rintro e w' ⟨r, rfl, h2, h3, rfl⟩
  have h4 : 0 ≤ r := h2.2 (List.mem_range.2 hi)
  have h5 := h3 h4
  obtain ⟨q, rfl⟩ := Int.eq_ofNat_of_zero_le h4
  rw [Int.toNat_natCast] at h5
  have hq : q < l.length := by
    have := (List.getElem?_eq_some_iff.1 h5).1
    simpa using this
  rw [List.getElem?_range hq] at h5
  injection h5 with h5
  exact ⟨by rw [h5], rfl⟩

end Go.Proofs.Ytnknfpfpjijemaa
/- Sets of segments: the program's small functions on bits. -/
namespace Go.Proofs.Ytnknfpfpjijemaa
open Go.RowKit Go.Shelf

theorem ret_u64 {a b : Int} (h : a = b) : Ending.returned (.int .u64 a) = .returned (.int .u64 b) := by rw [h]
theorem bits_or_nat {a b : Nat} (ha : a < 256) (hb : b < 256) : bits .or .u64 (a : Int) (b : Int) = ((a ||| b : Nat) : Int) := by
  have h : a ||| b < 2 ^ 8 := Nat.or_lt_two_pow (by omega) (by omega)
  have e : ((BitVec.ofInt IntKind.u64.bits (a : Int)) ||| (BitVec.ofInt IntKind.u64.bits (b : Int))).toNat = a ||| b := by
    show ((BitVec.ofInt 64 (a : Int)) ||| (BitVec.ofInt 64 (b : Int))).toNat = a ||| b
    rw [BitVec.toNat_or, BitVec.ofInt_natCast, BitVec.ofInt_natCast, BitVec.toNat_ofNat, BitVec.toNat_ofNat, Nat.mod_eq_of_lt (by omega), Nat.mod_eq_of_lt (by omega)]
  show IntKind.u64.wrap (((BitVec.ofInt IntKind.u64.bits (a : Int)) ||| (BitVec.ofInt IntKind.u64.bits (b : Int))).toNat : Int) = _
  rw [e]
  exact IntWalk.u64_in _ (by omega)
theorem bits_and_nat {a b : Nat} (ha : a < 256) (hb : b < 256) : bits .and .u64 (a : Int) (b : Int) = ((a &&& b : Nat) : Int) := by
  have h : a &&& b ≤ a := Nat.and_le_left
  have e : ((BitVec.ofInt IntKind.u64.bits (a : Int)) &&& (BitVec.ofInt IntKind.u64.bits (b : Int))).toNat = a &&& b := by
    show ((BitVec.ofInt 64 (a : Int)) &&& (BitVec.ofInt 64 (b : Int))).toNat = a &&& b
    rw [BitVec.toNat_and, BitVec.ofInt_natCast, BitVec.ofInt_natCast, BitVec.toNat_ofNat, BitVec.toNat_ofNat, Nat.mod_eq_of_lt (by omega), Nat.mod_eq_of_lt (by omega)]
  show IntKind.u64.wrap (((BitVec.ofInt IntKind.u64.bits (a : Int)) &&& (BitVec.ofInt IntKind.u64.bits (b : Int))).toNat : Int) = _
  rw [e]
  exact IntWalk.u64_in _ (by omega)
theorem one_shl {i : Nat} (hi : i < 8) : IntKind.u64.wrap ((2 : Int) ^ i) = ((2 ^ i : Nat) : Int) := by
  have : i = 0 ∨ i = 1 ∨ i = 2 ∨ i = 3 ∨ i = 4 ∨ i = 5 ∨ i = 6 ∨ i = 7 := by omega
  rcases this with rfl | rfl | rfl | rfl | rfl | rfl | rfl | rfl <;> decide +kernel
theorem pow_lt {i : Nat} (hi : i < 8) : 2 ^ i < 256 := by
  have : i = 0 ∨ i = 1 ∨ i = 2 ∨ i = 3 ∨ i = 4 ∨ i = 5 ∨ i = 6 ∨ i = 7 := by omega
  rcases this with rfl | rfl | rfl | rfl | rfl | rfl | rfl | rfl <;> decide

end Go.Proofs.Ytnknfpfpjijemaa
/- The model's NeedAll and CheapestNeed. -/
namespace Go.Proofs.Ytnknfpfpjijemaa
open Go.RowKit

theorem names_append (l : List Seg) (a b : List Nat) : namesAt l (a ++ b) = namesAt l a ++ namesAt l b := by
  apply ByteArray.ext
  apply Array.ext'
  rw [ByteArray.data_append, Array.toList_append]
  show (a ++ b).flatMap (nmAt l) = a.flatMap (nmAt l) ++ b.flatMap (nmAt l)
  rw [List.flatMap_append]
theorem need_byte {l : List Seg} (hv : validB l = true) {T : List Nat} (hT : IsState l T) {b : UInt8} (hb : 0 ≤ bSeek l b) : needOk l (namesAt l T) ⟨#[b]⟩ = true ∧ afterStr l (namesAt l T) ⟨#[b]⟩ = namesAt l (needT T (rp l (bSeek l b).toNat)) ∧
    loadStr l (namesAt l T) ⟨#[b]⟩ = namesAt l (loadT T (rp l (bSeek l b).toNat)) ∧ dropStr l (namesAt l T) ⟨#[b]⟩ = namesAt l (dropT T (rp l (bSeek l b).toNat)) := by
  obtain ⟨h1, h2⟩ := stT_names hv hT
  have hi : indexB l ⟨#[b]⟩ = bSeek l b := if_pos hv
  have h3 : needOk l (namesAt l T) ⟨#[b]⟩ = true := by
    unfold needOk hasSeg
    rw [h1, hi, decide_eq_true hb]
    rfl
  refine ⟨h3, ?_, ?_, ?_⟩
  · unfold afterStr afterIx pathIx
    rw [if_pos h3, h2, hi]
  · unfold loadStr loadIx pathIx
    rw [if_pos h3, h2, hi]
  · unfold dropStr dropIx pathIx
    rw [if_pos h3, h2, hi]
theorem need_none {l : List Seg} (hv : validB l = true) (s : ByteArray) {b : UInt8} (hb : bSeek l b < 0) : needOk l s ⟨#[b]⟩ = false := by
  have hi : indexB l ⟨#[b]⟩ = bSeek l b := if_pos hv
  unfold needOk hasSeg
  rw [hi, decide_eq_false (by omega), Bool.and_false]
theorem bSeek_lt {l : List Seg} {b : UInt8} (hb : 0 ≤ bSeek l b) : (bSeek l b).toNat < l.length := by
  rcases bSeek_bd l b with h | ⟨_, h⟩ <;> omega

/-- The name and the cost of the best one so far. -/
def bestNm (l : List Seg) (T : List Nat) (k : Nat) : ByteArray := match cheapIx l T k with
  | none => ⟨#[]⟩
  | some j => namesAt l [j]
def bestCost (l : List Seg) (T : List Nat) (k : Nat) : Int := match cheapIx l T k with
  | none => 0
  | some j => nCost l T j
theorem best_in {l : List Seg} {T : List Nat} {k : Nat} (h : k ∈ T) : bestNm l T (k + 1) = bestNm l T k ∧ bestCost l T (k + 1) = bestCost l T k := by
  have e : cheapIx l T (k + 1) = cheapIx l T k := by
    show (if k ∈ T then _ else _) = _
    rw [if_pos h]
  unfold bestNm bestCost
  rw [e]
  exact ⟨rfl, rfl⟩
/-- A segment that isn't loaded: taken if there is none yet, or it costs less. -/
theorem best_out {l : List Seg} (hv : validB l = true) {T : List Nat} {k : Nat} (hk : k < l.length) (h : k ∉ T) :
    (bestNm l T k = ⟨#[]⟩ ∧ bestNm l T (k + 1) = namesAt l [k] ∧ bestCost l T (k + 1) = nCost l T k) ∨
    (∃ c : UInt8, bestNm l T k = ⟨#[c]⟩ ∧ (nCost l T k < bestCost l T k → bestNm l T (k + 1) = namesAt l [k] ∧ bestCost l T (k + 1) = nCost l T k) ∧ (¬ nCost l T k < bestCost l T k → bestNm l T (k + 1) = bestNm l T k ∧ bestCost l T (k + 1) = bestCost l T k)) := by
  have e : cheapIx l T (k + 1) = match cheapIx l T k with
    | none => some k
    | some j => if nCost l T k < nCost l T j then some k else some j := by
    show (if k ∈ T then _ else _) = _
    rw [if_neg h]
    cases cheapIx l T k <;> rfl
  unfold bestNm bestCost
  cases hc : cheapIx l T k with
  | none =>
    rw [hc] at e
    rw [e]
    exact .inl ⟨rfl, rfl, rfl⟩
  | some j =>
    rw [hc] at e
    dsimp only at e
    have hj := cheapIx_lt l T k j hc
    refine .inr ⟨byteOf l j, ?_, fun hlt => ?_, fun hlt => ?_⟩
    · show (⟨([j].flatMap (nmAt l)).toArray⟩ : ByteArray) = _
      rw [List.flatMap_cons, (nmAt_one hv (by omega)).1]
      rfl
    · rw [if_pos hlt] at e
      rw [e]
      exact ⟨rfl, rfl⟩
    · rw [if_neg hlt] at e
      rw [e]
      exact ⟨rfl, rfl⟩
theorem best_cost {l : List Seg} (hv : validB l = true) {T : List Nat} (hT : IsState l T) {k : Nat} (hk : k ≤ l.length) : 0 ≤ bestCost l T k ∧ bestCost l T k ≤ 792 := by
  unfold bestCost
  cases hc : cheapIx l T k with
  | none => exact ⟨Int.le_refl 0, (by decide : (0 : Int) ≤ 792)⟩
  | some j =>
    have hj := cheapIx_lt l T k j hc
    show 0 ≤ nCost l T j ∧ nCost l T j ≤ 792
    by_cases h : j ∈ T
    · rw [nCost_in (valid_all hv).1.down hT h]
      exact ⟨Int.le_refl 0, by decide⟩
    · have := nCost_out hv hT (show j < l.length by omega) h
      omega
theorem best_end {l : List Seg} (s : ByteArray) (h : stOk l s = true) : cheapStr l s = bestNm l (stT l s) l.length ∧ cheapOk l s = decide (bestNm l (stT l s) l.length ≠ ⟨#[]⟩) := by
  obtain ⟨hv, _, _⟩ := stT_state h
  unfold cheapStr cheapOk bestNm
  rw [if_pos h]
  cases hc : cheapIx l (stT l s) l.length with
  | none => exact ⟨rfl, by simp⟩
  | some j =>
    refine ⟨rfl, ?_⟩
    have hj := cheapIx_lt l _ _ j hc
    symm
    apply decide_eq_true
    intro e
    have := names_size hv (P := [j]) (fun x hx => by rw [List.mem_singleton.1 hx]; exact hj)
    dsimp only at e
    rw [e] at this
    cases this

end Go.Proofs.Ytnknfpfpjijemaa

/- The model's StatesOf: all states, as texts of the call's own. -/
namespace Go.Proofs.Ytnknfpfpjijemaa
open Go.RowKit

def stTexts (l : List Seg) (k : Nat) : List ByteArray := ⟨#[]⟩ :: (List.range k).map (fun i => namesAt l (rp l i))
theorem stTexts_succ (l : List Seg) (k : Nat) : stTexts l (k + 1) = stTexts l k ++ [namesAt l (rp l k)] := by
  unfold stTexts
  rw [List.range_succ, List.map_append]
  rfl
theorem stTexts_len (l : List Seg) (k : Nat) : (stTexts l k).length = k + 1 := by simp [stTexts]
/-- All states as texts; none of a list that is no tree. -/
def statesB (l : List Seg) : List ByteArray := if validB l = true then stTexts l l.length else []
def StatesPost (w : World) (l : List Seg) (e : Ending) (w' : World) : Prop :=
  ∃ v, e = .returned (.tuple #[v, .bool (validB l)]) ∧ OwnTexts w' w.heap.size v (statesB l) ∧ Below w.heap.size w w'
end Go.Proofs.Ytnknfpfpjijemaa
/- All states, yielded one by one. -/
namespace Go.Proofs.Ytnknfpfpjijemaa
open Go.RowKit Go.Shelf
attribute [local go_sem] Oper.semAt_some

/-- Nodes lie where all blocks below 'w' but one are kept. -/
theorem Nodes.kept {w w' : World} {B g m k bb : Nat} {l : List Seg} {nb : Nat → Nat} {cv : Nat → Value} (h : Nodes w B g m k l nb cv) (hk : Kept w.heap.size bb w w') (hbb : ∀ q, B ≤ q → q < w.heap.size → q ≠ bb) (hkm : k ≤ m) : Nodes w' B g m k l nb cv := by
  obtain ⟨cs, hg, hcs, hci⟩ := h.row
  refine ⟨⟨cs, hk.row hg hg.lt (hbb _ h.low.1 hg.lt) (by decide), hcs, hci⟩, fun i t hi ht => ?_, fun i t hi hi2 ht => ?_, fun i hi => ?_, h.apart, h.apartC, h.notg, h.low⟩
  · have h1 := h.node i t hi ht
    exact hk.row h1 h1.lt (hbb _ (h.low.2 i (by omega)) h1.lt) (by decide)
  · have h1 := h.fresh i t hi hi2 ht
    exact hk.row h1 h1.lt (hbb _ (h.low.2 i hi2) h1.lt) (by decide)
  · refine own_keep (h.kids i hi) fun b hb' => ?_
    have hlt := (h.kids i hi).lt b hb'
    rcases (h.kids i hi).2 with ⟨he, _⟩ | ⟨g', cap, cur, he, _, hh, _⟩
    · rw [he] at hb'
      cases hb'
    · rw [he] at hb'
      have : g' = b := by simpa [Value.ownBlock] using hb'
      subst this
      rw [hh]
      exact hk g' _ hlt.2 (hbb _ hlt.1 hlt.2) hh (fun c fz e => by injection e with _ e2; exact absurd e2 (by decide))

def stArgs (T : List Nat) : Array Value := #[bitsV fun j => decide (j ∈ T)]
theorem states_at {l : List Seg} {k : Nat} (h : k < l.length) : (statesIx l).take (k + 2) = (statesIx l).take (k + 1) ++ [rp l k] := by
  have h1 : k + 1 < (statesIx l).length := by simp [statesIx]; omega
  rw [List.take_succ_eq_append_getElem h1]
  congr 1
  simp [statesIx]
theorem states_len (l : List Seg) : (statesIx l).length = l.length + 1 := by simp [statesIx]

theorem Kept.less {n₀ n₁ bb : Nat} {A B : World} (h : Kept n₀ bb A B) (hn : n₁ ≤ n₀) : Kept n₁ bb A B := fun k o h1 h2 h3 h4 => h k o (Nat.lt_of_lt_of_le h1 hn) h2 h3 h4
end Go.Proofs.Ytnknfpfpjijemaa
/- impl.findState over whatever iterator that yields states. -/
namespace Go.Proofs.Ytnknfpfpjijemaa
open Go.RowKit Go.Shelf
attribute [local go_sem] Oper.semAt_some

theorem find_cong {α : Type} {p q : α → Bool} : ∀ (L : List α), (∀ x ∈ L, p x = q x) → L.find? p = L.find? q
  | [], _ => rfl
  | x :: L, h => by
    rw [List.find?_cons, List.find?_cons, h x List.mem_cons_self, find_cong L (fun y hy => h y (List.mem_cons_of_mem _ hy))]
theorem find_stop {α : Type} {p : α → Bool} {P L : List α} {x : α} (hP : ∀ y ∈ P, p y = false) (hx : p x = true) (hL : P ++ [x] <+: L) : L.find? p = some x := by
  obtain ⟨R, rfl⟩ := hL
  rw [List.append_assoc, List.find?_append]
  have : P.find? p = none := List.find?_eq_none.2 (fun y hy => by rw [hP y hy]; decide)
  rw [this]
  simp [hx]

theorem results_two_cells {fn : Func} {p q : Tmp} {ty tb : TypeId} (h : fn.results = #[.cell p ty, .cell q tb]) (tmps : Array Value) (w : World) (a b : Addr) (u v : Value)
    (hp : tmps.getD p undef = .pointer (some a)) (hu : (loadVar ty a).run Try.prog w = .ok u w) (hq : tmps.getD q undef = .pointer (some b)) (hv : (loadVar tb b).run Try.prog w = .ok v w) :
    (results fn tmps).run Try.prog w = .ok (.tuple #[u, v]) w := by
  have hp' : tmps[p]?.getD undef = .pointer (some a) := by simpa using hp
  have hq' : tmps[q]?.getD undef = .pointer (some b) := by simpa using hq
  simp [results, h, hp', hq', asAddr, hu, hv]
theorem run_loadBool {w : World} {b : Addr} {x : Bool} (h : w.cell? b = some (.bool x)) : (loadVar 4 b).run Try.prog w = .ok (.bool x) w := by
  simp [loadVar, isAgg, go_sem, h]

def foundIn (L : List (List Nat)) (nm : List Nat → ByteArray) (s : ByteArray) : Option (List Nat) := L.find? (fun T => sameB (nm T) s)

end Go.Proofs.Ytnknfpfpjijemaa
/- impl.findState at nodes; needFor, meet; StateValid. -/
namespace Go.Proofs.Ytnknfpfpjijemaa
open Go.RowKit Go.Shelf

theorem ret_stOk {f g : Nat → Bool} {a b : Bool} (h : ∀ j, j < 8 → f j = g j) (k : a = b) : Ending.returned (.tuple #[bitsV f, .bool a]) = .returned (.tuple #[bitsV g, .bool b]) := by
  unfold bitsV
  rw [bits_congr h, k]
/-- The truths of a state. -/
def inT (T : List Nat) (j : Nat) : Bool := decide (j ∈ T)

def offB (f : Nat → Bool) : Bool := !f 0 && !f 1 && !f 2 && !f 3 && !f 4 && !f 5 && !f 6 && !f 7
theorem offB_iff (f : Nat → Bool) : offB f = true ↔ ∀ j, j < 8 → f j = false := by
  unfold offB
  simp only [Bool.and_eq_true, Bool.not_eq_true']
  constructor
  · rintro ⟨⟨⟨⟨⟨⟨⟨h0, h1⟩, h2⟩, h3⟩, h4⟩, h5⟩, h6⟩, h7⟩ j hj
    match j, hj with
    | 0, _ => exact h0
    | 1, _ => exact h1
    | 2, _ => exact h2
    | 3, _ => exact h3
    | 4, _ => exact h4
    | 5, _ => exact h5
    | 6, _ => exact h6
    | 7, _ => exact h7
  · intro h
    exact ⟨⟨⟨⟨⟨⟨⟨h 0 (by decide), h 1 (by decide)⟩, h 2 (by decide)⟩, h 3 (by decide)⟩, h 4 (by decide)⟩, h 5 (by decide)⟩, h 6 (by decide)⟩, h 7 (by decide)⟩

end Go.Proofs.Ytnknfpfpjijemaa
/- impl.meetNeed: the states ahead of a need and behind it. -/
namespace Go.Proofs.Ytnknfpfpjijemaa
open Go.RowKit Go.Shelf

theorem results_two_states {fn : Func} {p q r : Tmp} {ty tz : TypeId} (h : fn.results = #[.cell p ty, .cell q tz, .tmp r]) (tmps : Array Value) (w : World) (a b : Addr) (u v : Value)
    (hp : tmps.getD p undef = .pointer (some a)) (hu : (loadVar ty a).run Try.prog w = .ok u w) (hq : tmps.getD q undef = .pointer (some b)) (hv : (loadVar tz b).run Try.prog w = .ok v w) :
    (results fn tmps).run Try.prog w = .ok (.tuple #[u, v, tmps.getD r undef]) w := by
  have hp' : tmps[p]?.getD undef = .pointer (some a) := by simpa using hp
  have hq' : tmps[q]?.getD undef = .pointer (some b) := by simpa using hq
  simp [results, h, hp', hq', asAddr, hu, hv]
end Go.Proofs.Ytnknfpfpjijemaa
/- impl.StateValid, DropsOf, NeedOf. -/
namespace Go.Proofs.Ytnknfpfpjijemaa
open Go.RowKit Go.Shelf

theorem less_in (T U : List Nat) : ∀ j, (inT T j && !inT U j) = inT (lessT T U) j := fun j => by
  unfold inT lessT
  rw [Bool.eq_iff_iff]
  simp [List.mem_filter]
theorem less_asc {T U : List Nat} (h : T.Pairwise (· < ·)) : (lessT T U).Pairwise (· < ·) := List.Pairwise.filter _ h

end Go.Proofs.Ytnknfpfpjijemaa
/- impl.nodesNamed, sizesTogether, CostOf, LoadCost. -/
namespace Go.Proofs.Ytnknfpfpjijemaa
open Go.RowKit Go.Shelf

theorem ret_nodes {a b : Value} {c d : Bool} (h : a = b) (k : c = d) : Ending.returned (.tuple #[a, .bool c]) = .returned (.tuple #[b, .bool d]) := by rw [h, k]
/-- The nodes that are named, in a row of the call's own. -/
def NamedPost (w : World) (l : List Seg) (nb : Nat → Nat) (s : ByteArray) (e : Ending) (w' : World) : Prop :=
  ∃ v, e = .returned (.tuple #[v, .bool true]) ∧ w'.ownsRow w.heap.size 107 1 v (namedJs l s.data.toList).length (ptrsOf nb (namedJs l s.data.toList)) ∧ Below w.heap.size w w'

theorem found_byte {l : List Seg} {nb : Nat → Nat} {b : UInt8} (h : 0 ≤ bSeek l b) : foundPtr l nb ⟨#[b]⟩ = some ⟨nb (bSeek l b).toNat, 0, none⟩ := if_neg (by unfold bSeek at h; omega)
theorem found_none {l : List Seg} {nb : Nat → Nat} {b : UInt8} (h : bSeek l b < 0) : foundPtr l nb ⟨#[b]⟩ = none := if_pos h

def NamedEither (w : World) (l : List Seg) (nb : Nat → Nat) (s : ByteArray) (e : Ending) (w' : World) : Prop :=
  (namedOk l s.data.toList = true ∧ NamedPost w l nb s e w') ∨ (namedOk l s.data.toList = false ∧ e = .returned (.tuple #[.slice none 0 0, .bool false]) ∧ Below w.heap.size w w')

theorem szs_take {l : List Seg} {js : List Nat} {k : Nat} (hk : k < js.length) : szs l (js.take (k + 1)) = szs l (js.take k) + sizeAt l js[k] := by
  rw [List.take_succ_eq_append_getElem hk, szs_snoc]

end Go.Proofs.Ytnknfpfpjijemaa

/- impl.needsFor: what is to be met, as functions. -/
namespace Go.Proofs.Ytnknfpfpjijemaa
open Go.RowKit Go.Shelf

end Go.Proofs.Ytnknfpfpjijemaa
/- ChainLies on both sides. -/
namespace Go.Proofs.Ytnknfpfpjijemaa
open Go.RowKit Go.Shelf

/-- The set of the first of some indices. -/
def memF (js : List Nat) (j : Nat) : Bool := decide (j ∈ js)
theorem memF_snoc (js : List Nat) (i : Nat) : setF (fun j => memF js j || decide (j = i)) = setF (memF (js ++ [i])) := by
  apply setF_congr
  intro j _
  unfold memF
  rw [Bool.eq_iff_iff, Bool.or_eq_true, decide_eq_true_eq, decide_eq_true_eq, decide_eq_true_eq, List.mem_append, List.mem_singleton]

/-- Whether no two of the first segments that are in a set lie apart. -/
def togeRow (l : List Seg) (f : Nat → Bool) (i n : Nat) : Bool := (List.range n).all fun j => !(f i && f j && decide (kindIx l i j = 2))
def togeUp (l : List Seg) (f : Nat → Bool) (n : Nat) : Bool := (List.range n).all fun i => togeRow l f i i
theorem togeRow_succ (l : List Seg) (f : Nat → Bool) (i n : Nat) : togeRow l f i (n + 1) = (togeRow l f i n && !(f i && f n && decide (kindIx l i n = 2))) := by
  unfold togeRow
  rw [List.range_succ, List.all_append]
  simp
theorem togeUp_succ (l : List Seg) (f : Nat → Bool) (n : Nat) : togeUp l f (n + 1) = (togeUp l f n && togeRow l f n n) := by
  unfold togeUp
  rw [List.range_succ, List.all_append]
  simp
theorem togeB_up (l : List Seg) (f : Nat → Bool) : togeB l f = togeUp l f l.length := rfl
theorem toge_no {l : List Seg} {f : Nat → Bool} {i j : Nat} (hi : i < l.length) (hj : j < i) (h1 : f i = true) (h2 : f j = true) (hk : kindIx l i j = 2) : togeB l f = false := by
  rw [Bool.eq_false_iff]
  intro h
  have := all_range.1 (all_range.1 h i hi) j hj
  rw [h1, h2, hk] at this
  cases this

end Go.Proofs.Ytnknfpfpjijemaa
