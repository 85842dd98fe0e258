/- Joined: Ge Pc Pd Pe Qc Qd Cm Qf Qb. -/
import Derived.Test.YtcaegpjbdcopoaaU01
import Derived.Laws.Rows
import Derived.Test.YtcaegpjbdcopoaaU16
import Derived.Test.YtcaegpjbdcopoaaU10
import Derived.Test.YtcaegpjbdcopoaaU15
import Derived.RangeFuncWrites
import Derived.Maps.OwnIn
import Derived.LaidEqlPtr
/- A state as an array of eight truths: what is in one and not in another. -/
namespace Go.Proofs.Ytcaegpjbdcopoaa
open Go.RowKit

def bitCells (f : Nat → Bool) : Array Value := #[.bool (f 0), .bool (f 1), .bool (f 2), .bool (f 3), .bool (f 4), .bool (f 5), .bool (f 6), .bool (f 7)]
def bitsV (f : Nat → Bool) : Value := .agg (bitCells f)
theorem bits_at (f : Nat → Bool) {k : Nat} (h : k < 8) : (bitCells f)[k]? = some (.bool (f k)) := by
  match k, h with
  | 0, _ => rfl
  | 1, _ => rfl
  | 2, _ => rfl
  | 3, _ => rfl
  | 4, _ => rfl
  | 5, _ => rfl
  | 6, _ => rfl
  | 7, _ => rfl
theorem bits_set (f : Nat → Bool) {k : Nat} (h : k < 8) (b : Bool) : (bitCells f).setIfInBounds k (.bool b) = bitCells (fun j => if j = k then b else f j) := by
  match k, h with
  | 0, _ => rfl
  | 1, _ => rfl
  | 2, _ => rfl
  | 3, _ => rfl
  | 4, _ => rfl
  | 5, _ => rfl
  | 6, _ => rfl
  | 7, _ => rfl
theorem bits_congr {f g : Nat → Bool} (h : ∀ j, j < 8 → f j = g j) : bitCells f = bitCells g := by
  unfold bitCells
  rw [h 0 (by decide), h 1 (by decide), h 2 (by decide), h 3 (by decide), h 4 (by decide), h 5 (by decide), h 6 (by decide), h 7 (by decide)]
theorem bits_ix0 (f : Nat → Bool) (w : World) : (Instr.index 80 (bitsV f) (.int .i64 0)).run Try.prog w = .ok (.bool (f 0)) w := by kernel_rfl
theorem bits_ix1 (f : Nat → Bool) (w : World) : (Instr.index 80 (bitsV f) (.int .i64 1)).run Try.prog w = .ok (.bool (f 1)) w := by kernel_rfl
theorem bits_ix2 (f : Nat → Bool) (w : World) : (Instr.index 80 (bitsV f) (.int .i64 2)).run Try.prog w = .ok (.bool (f 2)) w := by kernel_rfl
theorem bits_ix3 (f : Nat → Bool) (w : World) : (Instr.index 80 (bitsV f) (.int .i64 3)).run Try.prog w = .ok (.bool (f 3)) w := by kernel_rfl
theorem bits_ix4 (f : Nat → Bool) (w : World) : (Instr.index 80 (bitsV f) (.int .i64 4)).run Try.prog w = .ok (.bool (f 4)) w := by kernel_rfl
theorem bits_ix5 (f : Nat → Bool) (w : World) : (Instr.index 80 (bitsV f) (.int .i64 5)).run Try.prog w = .ok (.bool (f 5)) w := by kernel_rfl
theorem bits_ix6 (f : Nat → Bool) (w : World) : (Instr.index 80 (bitsV f) (.int .i64 6)).run Try.prog w = .ok (.bool (f 6)) w := by kernel_rfl
theorem bits_ix7 (f : Nat → Bool) (w : World) : (Instr.index 80 (bitsV f) (.int .i64 7)).run Try.prog w = .ok (.bool (f 7)) w := by kernel_rfl
theorem bits_ix (f : Nat → Bool) {k : Nat} (h : k < 8) (w : World) : (Instr.index 80 (bitsV f) (.int .i64 (k : Int))).run Try.prog w = .ok (.bool (f k)) w := by
  match k, h with
  | 0, _ => exact bits_ix0 f w
  | 1, _ => exact bits_ix1 f w
  | 2, _ => exact bits_ix2 f w
  | 3, _ => exact bits_ix3 f w
  | 4, _ => exact bits_ix4 f w
  | 5, _ => exact bits_ix5 f w
  | 6, _ => exact bits_ix6 f w
  | 7, _ => exact bits_ix7 f w

/-- What is left after the first 'k' have been gone over. -/
def lessTo (f g : Nat → Bool) (k j : Nat) : Bool := if j < k then f j && !g j else f j
theorem lessTo_step (f g : Nat → Bool) {k : Nat} (h : k < 8) (b : Bool) (hb : b = (f k && !g k)) : (bitCells (lessTo f g k)).setIfInBounds k (.bool b) = bitCells (lessTo f g (k + 1)) := by
  rw [bits_set _ h]
  apply bits_congr
  intro j hj
  unfold lessTo
  by_cases h1 : j = k
  · subst h1
    rw [if_pos rfl, if_pos (by omega), hb]
  · rw [if_neg h1]
    by_cases h2 : j < k
    · rw [if_pos h2, if_pos (by omega)]
    · rw [if_neg h2, if_neg (by omega)]
theorem run_loadState {w : World} {b : Nat} {f : Nat → Bool} (h : Row w b 80 (bitCells f)) : (loadVar 80 ⟨b, 0, none⟩).run Try.prog w = .ok (bitsV f) w :=
  run_loadVar_row w b 80 80 (bitCells f) (0, 0) _ h Try.underlying80 rfl (by kernel_rfl)
theorem bits_cells {t : TypeId} {w : World} {b : Nat} {f : Nat → Bool} (h : Row w b t (bitCells f)) : (w.cell? ⟨b, 0, none⟩ = some (.bool (f 0)) ∧ w.cell? ⟨b, 1, none⟩ = some (.bool (f 1)) ∧ w.cell? ⟨b, 2, none⟩ = some (.bool (f 2)) ∧ w.cell? ⟨b, 3, none⟩ = some (.bool (f 3))) ∧
    (w.cell? ⟨b, 4, none⟩ = some (.bool (f 4)) ∧ w.cell? ⟨b, 5, none⟩ = some (.bool (f 5)) ∧ w.cell? ⟨b, 6, none⟩ = some (.bool (f 6)) ∧ w.cell? ⟨b, 7, none⟩ = some (.bool (f 7))) :=
  ⟨⟨h.cell 0, h.cell 1, h.cell 2, h.cell 3⟩, h.cell 4, h.cell 5, h.cell 6, h.cell 7⟩
/-- The world behind a store of a whole state. -/
def putBits (w : World) (b : Nat) (f : Nat → Bool) : World :=
  (((((((w.setCell ⟨b, 0, none⟩ (.bool (f 0))).setCell ⟨b, 1, none⟩ (.bool (f 1))).setCell ⟨b, 2, none⟩ (.bool (f 2))).setCell ⟨b, 3, none⟩ (.bool (f 3))).setCell ⟨b, 4, none⟩ (.bool (f 4))).setCell ⟨b, 5, none⟩ (.bool (f 5))).setCell ⟨b, 6, none⟩ (.bool (f 6))).setCell ⟨b, 7, none⟩ (.bool (f 7))
def upTo (f g : Nat → Bool) (k j : Nat) : Bool := if j < k then f j else g j
theorem upTo_step {t : TypeId} {w : World} {b k : Nat} {f g : Nat → Bool} (h : Row w b t (bitCells (upTo f g k))) (hk : k < 8) : Row (w.setCell ⟨b, k, none⟩ (.bool (f k))) b t (bitCells (upTo f g (k + 1))) := by
  have h1 := h.put k (.bool (f k))
  rw [bits_set _ hk] at h1
  rw [bits_congr (f := upTo f g (k + 1)) (g := fun j => if j = k then f k else upTo f g k j)]
  · exact h1
  · intro j _
    unfold upTo
    by_cases e : j = k
    · subst e
      rw [if_pos (by omega), if_pos rfl]
    · rw [if_neg e]
      by_cases e2 : j < k
      · rw [if_pos e2, if_pos (by omega)]
      · rw [if_neg e2, if_neg (by omega)]
theorem putBits_row {t : TypeId} {w : World} {b : Nat} {f g : Nat → Bool} (h : Row w b t (bitCells g)) : Row (putBits w b f) b t (bitCells f) := by
  have h0 : Row w b t (bitCells (upTo f g 0)) := h
  have h8 := upTo_step (upTo_step (upTo_step (upTo_step (upTo_step (upTo_step (upTo_step (upTo_step h0 (by decide)) (by decide)) (by decide)) (by decide)) (by decide)) (by decide)) (by decide)) (by decide)
  rw [bits_congr (f := f) (g := upTo f g 8) (fun j hj => (if_pos hj).symm)]
  exact h8
theorem putBits_far {w : World} {b b' : Nat} {f : Nat → Bool} {t : TypeId} {cs : Array Value} (h : Row w b' t cs) (hne : b' ≠ b) : Row (putBits w b f) b' t cs :=
  (((((((h.far (p := ⟨b, 0, none⟩) hne _).far (p := ⟨b, 1, none⟩) hne _).far (p := ⟨b, 2, none⟩) hne _).far (p := ⟨b, 3, none⟩) hne _).far (p := ⟨b, 4, none⟩) hne _).far (p := ⟨b, 5, none⟩) hne _).far (p := ⟨b, 6, none⟩) hne _).far (p := ⟨b, 7, none⟩) hne _
theorem putBits_block (w : World) (b : Nat) (f : Nat → Bool) {k : Nat} (h : k ≠ b) : (putBits w b f).heap[k]? = w.heap[k]? := by
  unfold putBits
  rw [Below.heap_setCell _ ⟨b, 7, none⟩ _ k h, Below.heap_setCell _ ⟨b, 6, none⟩ _ k h, Below.heap_setCell _ ⟨b, 5, none⟩ _ k h, Below.heap_setCell _ ⟨b, 4, none⟩ _ k h, Below.heap_setCell _ ⟨b, 3, none⟩ _ k h, Below.heap_setCell _ ⟨b, 2, none⟩ _ k h, Below.heap_setCell _ ⟨b, 1, none⟩ _ k h, Below.heap_setCell _ ⟨b, 0, none⟩ _ k h]
theorem putBits_below {w0 w : World} {B b : Nat} {f : Nat → Bool} (h : Below B w0 w) (hb : B ≤ b) : Below B w0 (putBits w b f) :=
  (((((((h.setCell (p := ⟨b, 0, none⟩) hb _).setCell (p := ⟨b, 1, none⟩) hb _).setCell (p := ⟨b, 2, none⟩) hb _).setCell (p := ⟨b, 3, none⟩) hb _).setCell (p := ⟨b, 4, none⟩) hb _).setCell (p := ⟨b, 5, none⟩) hb _).setCell (p := ⟨b, 6, none⟩) hb _).setCell (p := ⟨b, 7, none⟩) hb _

set_option maxRecDepth 100000 in
set_option maxHeartbeats 400000 in
theorem less_any (f g : Nat → Bool) (w : World) :
    Calls Try.prog 52 #[bitsV f, bitsV g] w fun e w' => e = .returned (bitsV (fun j => f j && !g j)) ∧ Below w.heap.size w w' := by
  unfold bitsV bitCells
  go_enter Try.func52, Try.ntmps52
  go_wp2
  have hz0 : Row (((w.alloc (.cells (bitCells f) 80)).alloc (.cells (bitCells g) 80)).alloc (.cells (bitCells fun _ => false) 80)) w.heap.size 80 (bitCells (lessTo f g 0)) := ((Row.new w _ _).alloc _).alloc _
  have hz2 : Row (((w.alloc (.cells (bitCells f) 80)).alloc (.cells (bitCells g) 80)).alloc (.cells (bitCells fun _ => false) 80)) (w.heap.size + 1 + 1) 80 (bitCells fun _ => false) := by
    have := Row.new ((w.alloc (.cells (bitCells f) 80)).alloc (.cells (bitCells g) 80)) 80 (bitCells fun _ => false)
    simpa using this
  have hb0 : Below w.heap.size w (((w.alloc (.cells (bitCells f) 80)).alloc (.cells (bitCells g) 80)).alloc (.cells (bitCells fun _ => false) 80)) := (((Below.refl _ w).alloc (Nat.le_refl _) _).alloc (by simp) _).alloc (by simp; omega) _
  go_loopw [8] (fun i wr => ∃ (k : Nat), k ≤ 8 ∧ i = .int .i64 k ∧ Hid (Row wr w.heap.size 80 (bitCells (lessTo f g k))) ∧ Hid (Row wr (w.heap.size + 1 + 1) 80 (bitCells fun _ => false)) ∧ Hid (Below w.heap.size w wr))
    (fun i _ => 8 - (intOf i).toNat)
  case atStart => exact ⟨0, Nat.zero_le _, rfl, hz0, hz2, hb0⟩
  case round =>
    clear hz0 hz2 hb0
    obtain ⟨k, hk, rfl, HR, HZ, HB⟩ := hrel
    have hk0 : (0 : Int) ≤ (k : Int) := Int.natCast_nonneg _
    by_cases hlt : k < 8
    · have hlt' : (k : Int) < 8 := by omega
      have hc : wr.cell? ⟨w.heap.size, k, none⟩ = some (.bool (f k)) := by
        have h1 : lessTo f g k k = f k := if_neg (by omega)
        rw [HR.out.cell, bits_at _ hlt, h1]
      have hfz : wr.frozen? ⟨w.heap.size, k, none⟩ = false := HR.out.free k
      have hx : ∀ W : World, (Instr.index 80 (.agg #[.bool (g 0), .bool (g 1), .bool (g 2), .bool (g 3), .bool (g 4), .bool (g 5), .bool (g 6), .bool (g 7)]) (.int .i64 (k : Int))).run Try.prog W = .ok (.bool (g k)) W := fun W => bits_ix g hlt W
      have HR1 : Hid (∀ b, b = (f k && !g k) → Row (wr.setCell ⟨w.heap.size, k, none⟩ (.bool b)) w.heap.size 80 (bitCells (lessTo f g (k + 1)))) := fun b hb => by
        have := HR.out.put k (.bool b)
        rw [lessTo_step f g hlt b hb] at this
        exact this
      have HZ1 : Hid (∀ b, Row (wr.setCell ⟨w.heap.size, k, none⟩ (.bool b)) (w.heap.size + 1 + 1) 80 (bitCells fun _ => false)) := fun b => Row.far HZ.out (by show w.heap.size + 1 + 1 ≠ w.heap.size; omega) _
      have HB1 : Hid (∀ b, Below w.heap.size w (wr.setCell ⟨w.heap.size, k, none⟩ (.bool b))) := fun b => HB.out.setCell (Nat.le_refl _) _
      generalize f k = fk at *
      generalize g k = gk at *
      cases fk <;> cases gk
      all_goals
        go_wp2
        go_roundw
        case rel => exact ⟨k + 1, by omega, by go_num, HR1.out _ rfl, HZ1.out _, HB1.out _⟩
        case measure => simp [intOf]; omega
    · obtain rfl : k = 8 := by omega
      have HL : Hid (bitCells (lessTo f g 8) = bitCells (fun j => f j && !g j)) := bits_congr fun j hj => if_pos hj
      have hr := HR.out
      rw [HL.out] at hr
      obtain ⟨⟨c0, c1, c2, c3⟩, c4, c5, c6, c7⟩ := bits_cells hr
      obtain ⟨⟨d0, d1, d2, d3⟩, d4, d5, d6, d7⟩ := bits_cells HZ.out
      have hfz := fun j => HZ.out.free j
      have z0 := hfz 0
      have z1 := hfz 1
      have z2 := hfz 2
      have z3 := hfz 3
      have z4 := hfz 4
      have z5 := hfz 5
      have z6 := hfz 6
      have z7 := hfz 7
      have HRow : Hid (Row (putBits wr (w.heap.size + 1 + 1) fun j => f j && !g j) (w.heap.size + 1 + 1) 80 (bitCells fun j => f j && !g j)) := putBits_row HZ.out
      have HBel : Hid (Below w.heap.size w (putBits wr (w.heap.size + 1 + 1) fun j => f j && !g j)) := putBits_below HB.out (by omega)
      clear hr hfz HR HZ HB HL
      go_wp2
      exact bodyPost_ret (v := bitsV fun j => f j && !g j) (results_cell_row (p := 4) (ty := 80) rfl _ (putBits wr (w.heap.size + 1 + 1) fun j => f j && !g j) (w.heap.size + 1 + 1) 80 _ (0, 0) _ rfl HRow.out Try.underlying80 rfl (by kernel_rfl)) rfl ⟨rfl, HBel.out⟩

end Go.Proofs.Ytcaegpjbdcopoaa
/- Where a node lies: the program's own place, by the parents. -/
namespace Go.Proofs.Ytcaegpjbdcopoaa
open Go.RowKit

/-- What place reads of the nodes. -/
def Placed (w : World) (l : List Seg) (nb : Nat → Nat) : Prop := ∀ j, j < l.length → nb j < w.heap.size ∧ w.cell? ⟨nb j, 1, none⟩ = some (.int .i64 (sizeAt l j)) ∧ w.cell? ⟨nb j, 2, none⟩ = some (.pointer (parPtr l nb j))
theorem Placed.below {w w' : World} {l : List Seg} {nb : Nat → Nat} (h : Placed w l nb) (hb : Below w.heap.size w w') : Placed w' l nb := fun j hj => by
  obtain ⟨h1, h2, h3⟩ := h j hj
  exact ⟨Nat.lt_of_lt_of_le h1 hb.size, (hb.cell (p := ⟨nb j, 1, none⟩) h1).trans h2, (hb.cell (p := ⟨nb j, 2, none⟩) h1).trans h3⟩
theorem Nodes.placed {w : World} {B g : Nat} {l : List Seg} {nb : Nat → Nat} {cv : Nat → Value} (h : Nodes w B g l.length l.length l nb cv) : Placed w l nb := fun j hj => by
  have h1 := h.node j _ hj (List.getElem?_eq_getElem hj)
  refine ⟨h1.lt, ?_, h1.cell 2⟩
  rw [sizeAt_of hj]
  exact h1.cell 1

end Go.Proofs.Ytcaegpjbdcopoaa
/- The program's rooms: where segments begin and end, the whole room, what is saved. -/
namespace Go.Proofs.Ytcaegpjbdcopoaa
open Go.RowKit

/-- Of two the one that ends later, the first if neither does. -/
def laterOf (l : List Seg) (i j : Nat) : Nat := if endAt l i < endAt l j then j else i

end Go.Proofs.Ytcaegpjbdcopoaa
/- The program's rooms: RoomOf, SavedRoom, Overlap. -/
namespace Go.Proofs.Ytcaegpjbdcopoaa
open Go.RowKit

/-- What is behind findTwo where the tree is valid. -/
def TwoPost (w : World) (l : List Seg) (s t : ByteArray) (e : Ending) (w' : World) : Prop :=
  ∃ g nb cv, e = .returned (.tuple #[.pointer (foundPtr l nb s), .pointer (foundPtr l nb t)]) ∧ Nodes w' w.heap.size g l.length l.length l nb cv ∧ Below w.heap.size w w'

end Go.Proofs.Ytcaegpjbdcopoaa
/- The program's LongestPath. -/
namespace Go.Proofs.Ytcaegpjbdcopoaa
open Go.RowKit Go.Shelf

theorem Nodes.below {w w' : World} {B g m k : Nat} {l : List Seg} {nb : Nat → Nat} {cv : Nat → Value} (h : Nodes w B g m k l nb cv) (hb : Below w.heap.size w w') : Nodes w' B g m k l nb cv := by
  obtain ⟨cs, hg, hcs, hci⟩ := h.row
  refine ⟨⟨cs, hg.below hb hg.lt, hcs, hci⟩, fun i t hi ht => ?_, fun i t hi hi2 ht => ?_, fun i hi => ?_, h.apart, h.apartC, h.notg, h.low⟩
  · have h1 := h.node i t hi ht
    exact h1.below hb h1.lt
  · have h1 := h.fresh i t hi hi2 ht
    exact h1.below hb h1.lt
  · exact own_keep (h.kids i hi) fun b hb' => hb.block b ((h.kids i hi).lt b hb').2

theorem nameBytes_map (l : List Seg) : ∀ ys : List (Ix l), nameBytes l ys = (ys.map (·.1)).flatMap (nmAt l)
  | [] => rfl
  | y :: ys => by
    show (l[y.1]'y.2).name.data.toList ++ nameBytes l ys = nmAt l y.1 ++ (ys.map (·.1)).flatMap (nmAt l)
    rw [nameBytes_map l ys, nmAt_of y.2]

end Go.Proofs.Ytcaegpjbdcopoaa
/- Where nodes lie, yielded one by one. -/
namespace Go.Proofs.Ytcaegpjbdcopoaa
open Go.RowKit Go.Shelf
attribute [local go_sem] Oper.semAt_some

/-- All blocks below 'n₀' but 'bb', rows of bytes aside, lie as they lay. -/
def Kept (n₀ bb : Nat) (W W' : World) : Prop := ∀ (k : Nat) (o : Obj), k < n₀ → k ≠ bb → W.heap[k]? = some o → (∀ c fz, o ≠ .cells c 5 fz) → W'.heap[k]? = some o
theorem Kept.refl (n₀ bb : Nat) (W : World) : Kept n₀ bb W W := fun _ _ _ _ h _ => h
theorem Kept.trans {n₀ bb : Nat} {A B C : World} (h : Kept n₀ bb A B) (k : Kept n₀ bb B C) : Kept n₀ bb A C := fun i o h1 h2 h3 h4 => k i o h1 h2 (h i o h1 h2 h3 h4) h4
theorem Kept.of_below {n₀ bb : Nat} {A B : World} (h : Below A.heap.size A B) : Kept n₀ bb A B := fun i _ _ _ h3 _ => (h.block i (Array.getElem?_eq_some_iff.1 h3).1).trans h3
theorem Kept.row {n₀ bb : Nat} {A B : World} (h : Kept n₀ bb A B) {b : Nat} {t : TypeId} {cs : Array Value} (hr : Row A b t cs) (h1 : b < n₀) (h2 : b ≠ bb) (h3 : t ≠ 5) : Row B b t cs :=
  h b _ h1 h2 hr (fun c fz he => by injection he with _ ht; exact h3 ht)
theorem Kept.put {n₀ bb : Nat} (W : World) {l : Nat} (o : Obj) (hl : n₀ ≤ l) : Kept n₀ bb W (W.putObj l o) := fun _ _ _ _ h3 _ => (World.putObj_heap_other (by omega)).trans h3
theorem grownBy_of_below {A B : World} (h : Below A.heap.size A B) : A.grownBy B none := ⟨h.os, h.tape, h.output, h.size, fun k hk _ => h.block k hk⟩

/-- The nodes that the iterator reads. -/
structure Lain (w : World) (n₀ bb g : Nat) (l : List Seg) (nb : Nat → Nat) : Prop where
  row : ∃ cs, Row w g 116 cs ∧ ∀ i, i < l.length → cs[i]? = some (.pointer (some ⟨nb i, 0, none⟩))
  rowAt : g < n₀ ∧ g ≠ bb
  node : ∀ (i : Nat) (hi : i < l.length), ∃ cv, Row w (nb i) 118 #[.string (l[i]'hi).name, .int .i64 (l[i]'hi).size, .pointer (parPtr l nb i), cv]
  nodeAt : ∀ i, i < l.length → nb i < n₀ ∧ nb i ≠ bb
theorem Lain.kept {w w' : World} {n₀ bb g : Nat} {l : List Seg} {nb : Nat → Nat} (h : Lain w n₀ bb g l nb) (hk : Kept n₀ bb w w') : Lain w' n₀ bb g l nb := by
  obtain ⟨cs, hr, hc⟩ := h.row
  refine ⟨⟨cs, hk.row hr h.rowAt.1 h.rowAt.2 (by decide), hc⟩, h.rowAt, fun i hi => ?_, h.nodeAt⟩
  obtain ⟨cv, hn⟩ := h.node i hi
  exact ⟨cv, hk.row hn (h.nodeAt i hi).1 (h.nodeAt i hi).2 (by decide)⟩
theorem Lain.placed {w : World} {n₀ bb g : Nat} {l : List Seg} {nb : Nat → Nat} (h : Lain w n₀ bb g l nb) : Placed w l nb := fun j hj => by
  obtain ⟨cv, hn⟩ := h.node j hj
  refine ⟨hn.lt, ?_, hn.cell 2⟩
  rw [sizeAt_of hj]
  exact hn.cell 1

/-- What a round says, by the truth it hands back. -/
def YP {α : Type} (J Jx : List α → World → Prop) (Kp : World → World → Prop) (ys : List α) (W1 : World) (b : Bool) (W' : World) : Prop := if b then J ys W' ∧ Kp W1 W' else Jx ys W'

theorem YP.yes {α : Type} {J Jx : List α → World → Prop} {Kp : World → World → Prop} {ys : List α} {W1 W' : World} (h : YP J Jx Kp ys W1 true W') : J ys W' ∧ Kp W1 W' := by
  unfold YP at h
  rwa [if_pos rfl] at h
theorem YP.no {α : Type} {J Jx : List α → World → Prop} {Kp : World → World → Prop} {ys : List α} {W1 W' : World} (h : YP J Jx Kp ys W1 false W') : Jx ys W' := by
  unfold YP at h
  rwa [if_neg (by decide)] at h

def placeArgs (l : List Seg) (x : Ix l) : Array Value := #[.string (l[x.1]'x.2).name, .agg #[.int .i64 (begAt l x.1), .int .i64 (endAt l x.1)]]

end Go.Proofs.Ytcaegpjbdcopoaa
/- impl.CommonOf where both are found. -/
namespace Go.Proofs.Ytcaegpjbdcopoaa
open Go.RowKit Go.Shelf
attribute [local go_sem] Oper.semAt_some

theorem row_grown {W W' : World} {b : Nat} {t : TypeId} {cs : Array Value} {row : Option Nat} (h : Row W b t cs) (hg : W.grownBy W' row) {B : Nat} (hr : ∀ r, row = some r → B ≤ r ∧ ∃ o : Obj, W.heap[r]? = some o ∧ o.isCells = false) : Row W' b t cs :=
  (hg.block b h.lt (fun he => by
    obtain ⟨_, o, ho, hc⟩ := hr b he.symm
    have h' : W.heap[b]? = some (.cells cs t (0, 0)) := h
    rw [h'] at ho
    injection ho with ho
    subst ho
    cases hc)).trans h
theorem keepsN_set {B : Nat} (W : World) (p : Addr) (v : Value) (hp : p.block < B) : KeepsN B W (W.setCell p v) :=
  ⟨by simp, fun k o hk ho _ => (Below.heap_setCell W p v k (by omega)).trans ho⟩
theorem keepsN_drew (B : Nat) (W : World) : KeepsN B W W.drew := ⟨Nat.le_refl _, fun _ _ _ h _ => h⟩

/-- What the loop keeps: the box of the answer, the box of the names. -/
structure Loop2 (w1 : World) (l : List Seg) (R : List Nat) (nm : ByteArray) (b2 : Nat) (T : List Nat) (W : World) : Prop where
  box : Row W w1.heap.size 9 #[.string (lastNm l T)]
  names : Row W b2 9 #[.string nm]
  below : Below w1.heap.size w1 W
  all : ∀ v ∈ T, v ∈ R
theorem Loop2.grown {w1 W W' : World} {l : List Seg} {R T : List Nat} {nm : ByteArray} {b2 B : Nat} {row : Option Nat} (h : Loop2 w1 l R nm b2 T W) (hg : W.grownBy W' row) (hB : w1.heap.size ≤ B) (hr : ∀ r, row = some r → B ≤ r ∧ ∃ o : Obj, W.heap[r]? = some o ∧ o.isCells = false) : Loop2 w1 l R nm b2 T W' :=
  ⟨row_grown h.box hg hr, row_grown h.names hg hr, h.below.grown hg h.below.size (fun k e => by have := (hr k e).1; omega), h.all⟩
theorem Loop2.drew {w1 W : World} {l : List Seg} {R T : List Nat} {nm : ByteArray} {b2 : Nat} (h : Loop2 w1 l R nm b2 T W) : Loop2 w1 l R nm b2 T W.drew := ⟨h.box, h.names, h.below.drew, h.all⟩
theorem Loop2.step {w1 W : World} {l : List Seg} {R T : List Nat} {nm a : ByteArray} {b2 : Nat} (h : Loop2 w1 l R nm b2 T W) (hb2 : w1.heap.size < b2) {v : Nat} (hv : v < l.length) (hR : v ∈ R) (ha : l[v].name = a) :
    Loop2 w1 l R nm b2 (T ++ [v]) (W.setCell ⟨w1.heap.size, 0, none⟩ (.string a)) := by
  refine ⟨?_, Row.far h.names (by show b2 ≠ w1.heap.size; omega) _, h.below.setCell (Nat.le_refl _) _, fun u hu => ?_⟩
  · have := Row.put h.box 0 (.string a)
    rw [lastNm_snoc T hv, ha]
    exact this
  · rcases List.mem_append.1 hu with hu | hu
    · exact h.all u hu
    · rw [List.mem_singleton.1 hu]; exact hR

end Go.Proofs.Ytcaegpjbdcopoaa
/- The program's LiesAt. -/
namespace Go.Proofs.Ytcaegpjbdcopoaa
open Go.RowKit Go.Shelf
attribute [local go_sem] Oper.semAt_some

/-- How many segments the program goes over. -/
def shown (l : List Seg) : Nat := if validB l = true then l.length else 0

theorem Nodes.lain {w' W : World} {B g bb : Nat} {l : List Seg} {nb : Nat → Nat} {cv : Nat → Value} (h : Nodes w' B g l.length l.length l nb cv) (hb : Below w'.heap.size w' W) (hbb : bb < B) : Lain W W.heap.size bb g l nb := by
  have h2 := h.below hb
  obtain ⟨cs, hr, _, hc⟩ := h2.row
  refine ⟨⟨cs, hr, hc⟩, ⟨hr.lt, by have := h.low.1; omega⟩, fun i hi => ⟨cv i, h2.node i _ hi (List.getElem?_eq_getElem hi)⟩, fun i hi => ⟨(h2.node i _ hi (List.getElem?_eq_getElem hi)).lt, by have := h.low.2 i hi; omega⟩⟩

/-- The bytes of the names that were told. -/
def toldB (l : List Seg) (a : Int) (ys : List (Ix l)) : List UInt8 := nameBytes l (ys.filter fun x => holdsB l a x.1)
theorem told_snoc (l : List Seg) (a : Int) (ys : List (Ix l)) (x : Ix l) : toldB l a (ys ++ [x]) = if holdsB l a x.1 = true then toldB l a ys ++ (l[x.1]'x.2).name.data.toList else toldB l a ys := by
  unfold toldB
  rw [List.filter_append]
  by_cases h : holdsB l a x.1 = true
  · rw [if_pos h, List.filter_cons, if_pos h]
    exact nameBytes_snoc l _ x
  · rw [if_neg h, List.filter_cons, if_neg h]
    simp
theorem told_all {l : List Seg} {a : Int} {ys : List (Ix l)} (h : ys.map (·.1) = List.range (shown l)) : (⟨(toldB l a ys).toArray⟩ : ByteArray) = overStr l a ∧ decide (0 < (toldB l a ys).length) = overOk l a := by
  have h1 : (toldB l a ys) = ((List.range (shown l)).filter (holdsB l a)).flatMap (nmAt l) := by
    unfold toldB
    rw [nameBytes_map, ← h, List.filter_map]
    rfl
  by_cases hv : validB l = true
  · have hs : shown l = l.length := if_pos hv
    rw [hs] at h1
    have h2 : (⟨(toldB l a ys).toArray⟩ : ByteArray) = overStr l a := by
      unfold overStr
      rw [if_pos hv, h1]
      rfl
    refine ⟨h2, ?_⟩
    rw [← overStr_size hv a, ← h2]
    rfl
  · have hs : shown l = 0 := if_neg hv
    rw [hs] at h1
    have h3 : toldB l a ys = [] := h1
    rw [h3]
    refine ⟨(if_neg hv).symm, ?_⟩
    unfold overOk
    rw [show validB l = false by simpa using hv]
    rfl
theorem shown_valid {l : List Seg} {n : Nat} (h : n < shown l) : validB l = true := Classical.byContradiction fun hv => by
  have : shown l = 0 := if_neg hv
  omega
theorem told_len {l : List Seg} (a : Int) (ys : List (Ix l)) (hv : validB l = true) : (toldB l a ys).length ≤ ys.length :=
  Nat.le_trans (nameBytes_len (valid_names hv) _) (List.length_filter_le _ _)
theorem shown_le {l : List Seg} : shown l ≤ 8 := by
  by_cases hv : validB l = true
  · have : shown l = l.length := if_pos hv
    have := (valid_all hv).2.1
    omega
  · have : shown l = 0 := if_neg hv
    omega

theorem kept_others {n₀ bb : Nat} {W W' : World} (h : Lib.OthersKept 5 (some bb) W W') : Kept n₀ bb W W' := fun k o _ h2 h3 h4 => h k o h3 (fun e => h2 (by cases e; rfl)) h4
theorem from_below {B : Nat} {W W' : World} (h : Below W.heap.size W W') : KeepsFrom B W W' := KeepsFrom.of_grownBy (grownBy_of_below h) (fun j e => by cases e)

theorem builder_cells {T e : TypeId} {B b : Nat} {bs : List Value} {w : World} (h : Lib.IsBuilderF T e B b bs w) : ∃ c, w.heap[b]? = some (.cells c T (0, 0)) := by
  rcases h with ⟨_, v, h2, _⟩ | ⟨_, v, h2, _⟩
  · exact ⟨_, h2⟩
  · exact ⟨_, h2⟩

/-- What the loop keeps. -/
structure Telling (w : World) (l : List Seg) (a : Int) (pre : List (Ix l)) (W : World) : Prop where
  text : Lib.IsBuilderF 64 5 (w.heap.size + 1) (w.heap.size + 1) (Lib.byteCells (toldB l a pre)) W
  box : Row W w.heap.size 3 #[.int .i64 a]
  below : Below w.heap.size w W
theorem Telling.grown {w W W' : World} {l : List Seg} {a : Int} {pre : List (Ix l)} {B : Nat} {row : Option Nat} (h : Telling w l a pre W) (hg : W.grownBy W' row) (hB : w.heap.size ≤ B) (hr : ∀ r, row = some r → B ≤ r ∧ ∃ o : Obj, W.heap[r]? = some o ∧ o.isCells = false) : Telling w l a pre W' :=
  ⟨isB_own _ _ _ _ B (fun _ : List Unit => Lib.byteCells (toldB l a pre)) [] W W' row h.text hg hr, row_grown h.box hg hr, h.below.grown hg h.below.size (fun k e => by have := (hr k e).1; omega)⟩
theorem Telling.below' {w W W' : World} {l : List Seg} {a : Int} {pre : List (Ix l)} (h : Telling w l a pre W) (hb : Below W.heap.size W W') : Telling w l a pre W' := h.grown (B := w.heap.size) (grownBy_of_below hb) (Nat.le_refl _) (fun r e => by cases e)

end Go.Proofs.Ytcaegpjbdcopoaa
/- A path gathered into a slice, and what is in it: the program's LieTogether. -/
namespace Go.Proofs.Ytcaegpjbdcopoaa
open Go.RowKit Go.Shelf
attribute [local go_sem] Oper.semAt_some

theorem own_grown {W W' : World} {base n : Nat} {e : TypeId} {v : Value} {xs : List Value} {row : Option Nat} (h : W.ownsRow base e 1 v n xs) (hg : W.grownBy W' row) (hr : ∀ r, row = some r → ∃ o : Obj, W.heap[r]? = some o ∧ o.isCells = false) : W'.ownsRow base e 1 v n xs :=
  own_keep h fun g hb => hg.block g ((h.lt g hb).2) (fun he => by
    obtain ⟨o, ho, hc⟩ := hr g he.symm
    rcases h.2 with ⟨rfl, _⟩ | ⟨g', cap, cur, rfl, _, hh, _⟩
    · simp [Value.ownBlock] at hb
    · have : g' = g := by simpa [Value.ownBlock] using hb
      subst this
      rw [hh] at ho
      injection ho with ho
      subst ho
      cases hc)

/-- What is firm stays. -/
def Steady (W W' : World) : Prop := ∀ (k : Nat) (o : Obj), W.heap[k]? = some o → Firm o → W'.heap[k]? = some o

/-- One node's pointer is put behind those that were gathered: only a row of two cells or more is written in place. -/
theorem run_append_firm (w : World) (ty base n : Nat) (v : Value) (xs : List Value) (hown : w.ownsRow base 116 1 v n xs) (h0 : n = 0 → v = .slice none 0 0) (ad : Addr) (u : Value)
    (hnews : ∀ j y, [u][j]? = some y → w.cell? (ad.add j) = some y) (h1 : ∀ y ∈ [u], y.oneCell' = true) (hn : n ≤ 1000) (hbase : base ≤ w.heap.size) :
    ∃ g cap w', (Builtin.append_ #[77, 77] ty #[v, .slice (some ad) 1 1]).run Try.prog w = .ok (.slice (some ⟨g, 0, none⟩) (n + 1) cap) w' ∧
      w'.ownsRow base 116 1 (.slice (some ⟨g, 0, none⟩) (n + 1) cap) (n + 1) (xs ++ [u]) ∧ w.grownBy w' v.ownBlock ∧ Steady w w' := by
  obtain ⟨i0, hi, hz0, hz1, hz2⟩ := info_parts info_ptr
  obtain ⟨v', w', hr, h2, h3, -, -⟩ := run_append_own_at (P := Try.prog) w base 77 ty 116 i0 (.pointer none) 1 8 Try.underlying77 hi hz0 hz1 hz2 rfl (by decide) v n xs hown ad 1 1 [u] rfl hnews h1 (by unfold maxLen; omega) (by omega) hbase
  obtain ⟨g, cap, rfl⟩ := own_form h2 (by omega)
  refine ⟨g, cap, w', hr, h2, h3, ?_⟩
  rcases hown.2 with ⟨rfl, rfl⟩ | ⟨g', cap', cur, rfl, hbg, hg, hnc, hcm, hcs, htake⟩
  · have hr2 := run_append_nil (P := Try.prog) w 77 ty 116 i0 (.pointer none) Try.underlying77 hi hz0 ad 1 1 [u] (by rw [hz1]; rfl) hnews (by decide) (by decide) (by rw [hz2]; decide)
    rw [hr] at hr2
    injection hr2 with _ hw
    subst hw
    exact fun k o hk _ => (Below.heap_alloc w.drew _ k (Array.getElem?_eq_some_iff.1 hk).1).trans hk
  · by_cases hc : n + 1 ≤ cap'
    · refine fun k o hk hf => (h3.block k (Array.getElem?_eq_some_iff.1 hk).1 (fun he => ?_)).trans hk
      have he' : k = g' := by simpa [Value.ownBlock] using he
      subst he'
      rw [hg] at hk
      injection hk with hk
      have := (hf cur _ _ hk.symm).2.resolve_right (by decide)
      have hn1 : 0 < n := Nat.pos_of_ne_zero fun e => by have := h0 e; cases this
      omega
    · obtain ⟨v2, w2, hr2, -, hg2⟩ := run_append_arg_grows (P := Try.prog) w 77 ty 116 i0 (.pointer none) 1 8 Try.underlying77 hi hz0 hz1 hz2 rfl (by decide) ⟨g', 0, none⟩ n cap' xs hown.1
        (fun j y hj => by
          have h5 : w.cell? ⟨g', 0 + j, none⟩ = some y := by
            rw [Nat.zero_add, hown.cellAt j (by have := (List.getElem?_eq_some_iff.1 hj).1; have := hown.1; omega)]
            exact hj
          rw [WideShapes.add_plain]
          exact h5) ad 1 1 [u] rfl hnews (by omega) (by unfold maxLen; omega) (by omega)
      rw [hr] at hr2
      injection hr2 with _ hw
      subst hw
      exact fun k o hk _ => (hg2.block k (Array.getElem?_eq_some_iff.1 hk).1 (fun he => by cases he)).trans hk

theorem wpListIn_append_firm {F : Fence} {nF : Nat} {w : World} {ops : Array Oper} {rest : List Oper} {o : Oper} {a : Act} {Q : Exit → Act → World → Prop} (hgd : o.guard = none) (s x : Operand)
    (ho : o.op = .call { callee := .builtin .append, args := #[s, x], argTypes := #[77, 77] })
    (base n : Nat) (v : Value) (xs : List Value) (hs : a.eval s = v) (hown : w.ownsRow base 116 1 v n xs) (h0 : n = 0 → v = .slice none 0 0) (ad : Addr) (u : Value) (hx : a.eval x = .slice (some ad) 1 1)
    (hnews : ∀ j y, [u][j]? = some y → w.cell? (ad.add j) = some y) (h1 : ∀ y ∈ [u], y.oneCell' = true) (hn : n ≤ 1000) (hbase : base ≤ w.heap.size)
    (h : ∀ g cap w', w'.ownsRow base 116 1 (.slice (some ⟨g, 0, none⟩) (n + 1) cap) (n + 1) (xs ++ [u]) → w.grownBy w' v.ownBlock → Steady w w' → wpListIn F nF Try.prog ops Q rest (a.put o.dst (.slice (some ⟨g, 0, none⟩) (n + 1) cap)) w') :
    wpListIn F nF Try.prog ops Q (o :: rest) a w := by
  refine wpListIn_plain hgd fun K hK => ?_
  obtain ⟨g, cap, w', hr, h2, h3, h4⟩ := run_append_firm w o.type base n v xs hown h0 ad u hnews h1 hn hbase
  unfold Oper.wpIn
  refine ⟨by simp [Oper.about, ho, resolve, Target.leads, Sem.run_pure], ?_⟩
  rw [Oper.semAt_plain F _ _ (by rw [ho]; intro c hc'; cases hc')]
  simp [execOp, ho, resolve, invoke, builtin, hs, hx, hr, Result.andThen]
  exact hK _ _ (h g cap w' h2 h3 h4)

/-- What was gathered: the box holds a slice of the call's own. -/
structure Gath (w : World) (nb : Nat → Nat) (T : List Nat) (W : World) : Prop where
  ex : ∃ v, Row W w.heap.size 77 #[v] ∧ W.ownsRow (w.heap.size + 1) 116 1 v T.length (ptrsOf nb T) ∧ (T.length = 0 → v = .slice none 0 0)
  below : Below w.heap.size w W
theorem Gath.grown {w W W' : World} {nb : Nat → Nat} {T : List Nat} {B : Nat} {row : Option Nat} (h : Gath w nb T W) (hg : W.grownBy W' row) (hB : w.heap.size ≤ B) (hr : ∀ r, row = some r → B ≤ r ∧ ∃ o : Obj, W.heap[r]? = some o ∧ o.isCells = false) : Gath w nb T W' := by
  obtain ⟨⟨v, h1, h2, h3⟩, hb⟩ := h
  exact ⟨⟨v, row_grown h1 hg hr, own_grown h2 hg (fun r e => (hr r e).2), h3⟩, hb.grown hg hb.size (fun k e => by have := (hr k e).1; omega)⟩

/-- What Index says. -/
def FoundAt (js : List Nat) (i : Nat) (w : World) (e : Ending) (w' : World) : Prop := ∃ r : Int, e = .returned (.int .i64 r) ∧ (0 ≤ r ↔ i ∈ js) ∧ (0 ≤ r → js[r.toNat]? = some i) ∧ w = w'

set_option maxRecDepth 100000 in
set_option maxHeartbeats 1000000 in
theorem index_any (g cap base : Nat) (js : List Nat) (nb : Nat → Nat) (i : Nat) (w : World) (hown : w.ownsRow base 116 1 (.slice (some ⟨g, 0, none⟩) js.length cap) js.length (ptrsOf nb js)) (hjl : js.length ≤ 1000)
    (hnode : ∀ j, j = i ∨ j ∈ js → ∃ c, Row w (nb j) 118 c) (hinj : ∀ j ∈ js, nb i = nb j → i = j) :
    Calls Try.prog 116 #[.slice (some ⟨g, 0, none⟩) js.length cap, .pointer (some ⟨nb i, 0, none⟩)] w (FoundAt js i w) := by
  have HO := Lib.hid hown
  have HN := Lib.hid hnode
  have HI := Lib.hid hinj
  obtain ⟨i0, hi0, hsz0⟩ := Option.map_eq_some_iff.1 (show (Try.prog.info? 118).map (fun i => i.size) = some 4 by kernel_rfl)
  have I0 := Lib.hid hi0
  have I1 := Lib.hid hsz0
  clear hown hnode hinj hi0 hsz0
  go_enter Try.func116, Try.ntmps116
  go_wp2
  go_loop [8] (fun c => ∃ k : Nat, k ≤ js.length ∧ c = .int .i64 k ∧ Hid (∀ m, m < k → js[m]? ≠ some i)) (fun c => js.length - (intOf c).toNat)
  case atStart => exact ⟨0, Nat.zero_le _, rfl, fun m hm => absurd hm (by omega)⟩
  case round =>
    obtain ⟨k, hk, rfl, HM⟩ := hrel
    by_cases hlt : k < js.length
    · have hc : w.cell? ⟨g, k, none⟩ = some (.pointer (some ⟨nb js[k], 0, none⟩)) := by
        rw [HO.out.cellAt k (by omega)]
        simp [ptrsOf, ptrTo, hlt]
      have HK : Hid (js[k]? = some js[k]) := List.getElem?_eq_getElem hlt
      have HMem : Hid (js[k] ∈ js) := List.getElem_mem hlt
      generalize js[k] = j at *
      by_cases hij : i = j
      · subst hij
        have hq := fun W : World => run_eql_ptr_same (P := Try.prog) W ⟨nb i, 0, none⟩ Try.underlying116 I0.out
        go_wp2
        go_ret
        exact ⟨k, rfl, ⟨fun _ => HMem.out, fun _ => by omega⟩, fun _ => HK.out, rfl⟩
      · obtain ⟨c1, r1⟩ := HN.out i (.inl rfl)
        obtain ⟨c2, r2⟩ := HN.out j (.inr HMem.out)
        have hne : nb i ≠ nb j := fun e => hij (HI.out j HMem.out e)
        have hq := run_eql_ptr_other (P := Try.prog) w (a := ⟨nb i, 0, none⟩) (b := ⟨nb j, 0, none⟩) Try.underlying116 I0.out (by rw [I1.out]; decide) (fun e => hne (by injection e)) r1 r2
        have HM1 : Hid (∀ m, m < k + 1 → js[m]? ≠ some i) := fun m hm => by
          rcases Nat.lt_or_ge m k with h1 | h1
          · exact HM.out m h1
          · obtain rfl : m = k := by omega
            rw [HK.out]
            intro e
            injection e with e
            exact hij e.symm
        clear r1 r2 hij hne
        go_wp2
        go_round
        case rel => exact ⟨k + 1, by omega, by go_num, HM1⟩
        case measure => simp [intOf]; omega
    · obtain rfl : k = js.length := by omega
      go_wp2
      go_ret
      refine ⟨-1, rfl, ⟨fun h => absurd h (by decide), fun h => ?_⟩, fun h => absurd h (by decide), rfl⟩
      obtain ⟨m, hm, he⟩ := List.getElem_of_mem h
      exact absurd (by rw [List.getElem?_eq_getElem hm, he]) (HM.out m hm)

end Go.Proofs.Ytcaegpjbdcopoaa
