/- A state as an array of eight truths: what is in one and not in another. -/
import Derived.Test.YtbmfjfhmdpmlbaaSz
import Derived.Laws.Rows
namespace Go.Proofs.Ytbmfjfhmdpmlbaa
open Go.RowKit

def bitCells (f : Nat → Bool) : Array Value := #[.bool (f 0), .bool (f 1), .bool (f 2), .bool (f 3), .bool (f 4), .bool (f 5), .bool (f 6), .bool (f 7)]
def bitsV (f : Nat → Bool) : Value := .agg (bitCells f)
theorem bits_at (f : Nat → Bool) {k : Nat} (h : k < 8) : (bitCells f)[k]? = some (.bool (f k)) := by
  match k, h with
  | 0, _ => rfl
  | 1, _ => rfl
  | 2, _ => rfl
  | 3, _ => rfl
  | 4, _ => rfl
  | 5, _ => rfl
  | 6, _ => rfl
  | 7, _ => rfl
theorem bits_set (f : Nat → Bool) {k : Nat} (h : k < 8) (b : Bool) : (bitCells f).setIfInBounds k (.bool b) = bitCells (fun j => if j = k then b else f j) := by
  match k, h with
  | 0, _ => rfl
  | 1, _ => rfl
  | 2, _ => rfl
  | 3, _ => rfl
  | 4, _ => rfl
  | 5, _ => rfl
  | 6, _ => rfl
  | 7, _ => rfl
theorem bits_congr {f g : Nat → Bool} (h : ∀ j, j < 8 → f j = g j) : bitCells f = bitCells g := by
  unfold bitCells
  rw [h 0 (by decide), h 1 (by decide), h 2 (by decide), h 3 (by decide), h 4 (by decide), h 5 (by decide), h 6 (by decide), h 7 (by decide)]
theorem bits_ix0 (f : Nat → Bool) (w : World) : (Instr.index 111 (bitsV f) (.int .i64 0)).run Try.prog w = .ok (.bool (f 0)) w := by kernel_rfl
theorem bits_ix1 (f : Nat → Bool) (w : World) : (Instr.index 111 (bitsV f) (.int .i64 1)).run Try.prog w = .ok (.bool (f 1)) w := by kernel_rfl
theorem bits_ix2 (f : Nat → Bool) (w : World) : (Instr.index 111 (bitsV f) (.int .i64 2)).run Try.prog w = .ok (.bool (f 2)) w := by kernel_rfl
theorem bits_ix3 (f : Nat → Bool) (w : World) : (Instr.index 111 (bitsV f) (.int .i64 3)).run Try.prog w = .ok (.bool (f 3)) w := by kernel_rfl
theorem bits_ix4 (f : Nat → Bool) (w : World) : (Instr.index 111 (bitsV f) (.int .i64 4)).run Try.prog w = .ok (.bool (f 4)) w := by kernel_rfl
theorem bits_ix5 (f : Nat → Bool) (w : World) : (Instr.index 111 (bitsV f) (.int .i64 5)).run Try.prog w = .ok (.bool (f 5)) w := by kernel_rfl
theorem bits_ix6 (f : Nat → Bool) (w : World) : (Instr.index 111 (bitsV f) (.int .i64 6)).run Try.prog w = .ok (.bool (f 6)) w := by kernel_rfl
theorem bits_ix7 (f : Nat → Bool) (w : World) : (Instr.index 111 (bitsV f) (.int .i64 7)).run Try.prog w = .ok (.bool (f 7)) w := by kernel_rfl
theorem bits_ix (f : Nat → Bool) {k : Nat} (h : k < 8) (w : World) : (Instr.index 111 (bitsV f) (.int .i64 (k : Int))).run Try.prog w = .ok (.bool (f k)) w := by
  match k, h with
  | 0, _ => exact bits_ix0 f w
  | 1, _ => exact bits_ix1 f w
  | 2, _ => exact bits_ix2 f w
  | 3, _ => exact bits_ix3 f w
  | 4, _ => exact bits_ix4 f w
  | 5, _ => exact bits_ix5 f w
  | 6, _ => exact bits_ix6 f w
  | 7, _ => exact bits_ix7 f w

/-- What is left after the first 'k' have been gone over. -/
def lessTo (f g : Nat → Bool) (k j : Nat) : Bool := if j < k then f j && !g j else f j
theorem lessTo_step (f g : Nat → Bool) {k : Nat} (h : k < 8) (b : Bool) (hb : b = (f k && !g k)) : (bitCells (lessTo f g k)).setIfInBounds k (.bool b) = bitCells (lessTo f g (k + 1)) := by
  rw [bits_set _ h]
  apply bits_congr
  intro j hj
  unfold lessTo
  by_cases h1 : j = k
  · subst h1
    rw [if_pos rfl, if_pos (by omega), hb]
  · rw [if_neg h1]
    by_cases h2 : j < k
    · rw [if_pos h2, if_pos (by omega)]
    · rw [if_neg h2, if_neg (by omega)]
theorem run_loadState {w : World} {b : Nat} {f : Nat → Bool} (h : Row w b 111 (bitCells f)) : (loadVar 111 ⟨b, 0, none⟩).run Try.prog w = .ok (bitsV f) w :=
  run_loadVar_row w b 111 111 (bitCells f) (0, 0) _ h Try.underlying111 rfl (by kernel_rfl)
theorem bits_cells {t : TypeId} {w : World} {b : Nat} {f : Nat → Bool} (h : Row w b t (bitCells f)) : (w.cell? ⟨b, 0, none⟩ = some (.bool (f 0)) ∧ w.cell? ⟨b, 1, none⟩ = some (.bool (f 1)) ∧ w.cell? ⟨b, 2, none⟩ = some (.bool (f 2)) ∧ w.cell? ⟨b, 3, none⟩ = some (.bool (f 3))) ∧
    (w.cell? ⟨b, 4, none⟩ = some (.bool (f 4)) ∧ w.cell? ⟨b, 5, none⟩ = some (.bool (f 5)) ∧ w.cell? ⟨b, 6, none⟩ = some (.bool (f 6)) ∧ w.cell? ⟨b, 7, none⟩ = some (.bool (f 7))) :=
  ⟨⟨h.cell 0, h.cell 1, h.cell 2, h.cell 3⟩, h.cell 4, h.cell 5, h.cell 6, h.cell 7⟩
/-- The world behind a store of a whole state. -/
def putBits (w : World) (b : Nat) (f : Nat → Bool) : World :=
  (((((((w.setCell ⟨b, 0, none⟩ (.bool (f 0))).setCell ⟨b, 1, none⟩ (.bool (f 1))).setCell ⟨b, 2, none⟩ (.bool (f 2))).setCell ⟨b, 3, none⟩ (.bool (f 3))).setCell ⟨b, 4, none⟩ (.bool (f 4))).setCell ⟨b, 5, none⟩ (.bool (f 5))).setCell ⟨b, 6, none⟩ (.bool (f 6))).setCell ⟨b, 7, none⟩ (.bool (f 7))
def upTo (f g : Nat → Bool) (k j : Nat) : Bool := if j < k then f j else g j
theorem upTo_step {t : TypeId} {w : World} {b k : Nat} {f g : Nat → Bool} (h : Row w b t (bitCells (upTo f g k))) (hk : k < 8) : Row (w.setCell ⟨b, k, none⟩ (.bool (f k))) b t (bitCells (upTo f g (k + 1))) := by
  have h1 := h.put k (.bool (f k))
  rw [bits_set _ hk] at h1
  rw [bits_congr (f := upTo f g (k + 1)) (g := fun j => if j = k then f k else upTo f g k j)]
  · exact h1
  · intro j _
    unfold upTo
    by_cases e : j = k
    · subst e
      rw [if_pos (by omega), if_pos rfl]
    · rw [if_neg e]
      by_cases e2 : j < k
      · rw [if_pos e2, if_pos (by omega)]
      · rw [if_neg e2, if_neg (by omega)]
theorem putBits_row {t : TypeId} {w : World} {b : Nat} {f g : Nat → Bool} (h : Row w b t (bitCells g)) : Row (putBits w b f) b t (bitCells f) := by
  have h0 : Row w b t (bitCells (upTo f g 0)) := h
  have h8 := upTo_step (upTo_step (upTo_step (upTo_step (upTo_step (upTo_step (upTo_step (upTo_step h0 (by decide)) (by decide)) (by decide)) (by decide)) (by decide)) (by decide)) (by decide)) (by decide)
  rw [bits_congr (f := f) (g := upTo f g 8) (fun j hj => (if_pos hj).symm)]
  exact h8
theorem putBits_far {w : World} {b b' : Nat} {f : Nat → Bool} {t : TypeId} {cs : Array Value} (h : Row w b' t cs) (hne : b' ≠ b) : Row (putBits w b f) b' t cs :=
  (((((((h.far (p := ⟨b, 0, none⟩) hne _).far (p := ⟨b, 1, none⟩) hne _).far (p := ⟨b, 2, none⟩) hne _).far (p := ⟨b, 3, none⟩) hne _).far (p := ⟨b, 4, none⟩) hne _).far (p := ⟨b, 5, none⟩) hne _).far (p := ⟨b, 6, none⟩) hne _).far (p := ⟨b, 7, none⟩) hne _
theorem putBits_block (w : World) (b : Nat) (f : Nat → Bool) {k : Nat} (h : k ≠ b) : (putBits w b f).heap[k]? = w.heap[k]? := by
  unfold putBits
  rw [Below.heap_setCell _ ⟨b, 7, none⟩ _ k h, Below.heap_setCell _ ⟨b, 6, none⟩ _ k h, Below.heap_setCell _ ⟨b, 5, none⟩ _ k h, Below.heap_setCell _ ⟨b, 4, none⟩ _ k h, Below.heap_setCell _ ⟨b, 3, none⟩ _ k h, Below.heap_setCell _ ⟨b, 2, none⟩ _ k h, Below.heap_setCell _ ⟨b, 1, none⟩ _ k h, Below.heap_setCell _ ⟨b, 0, none⟩ _ k h]
theorem putBits_below {w0 w : World} {B b : Nat} {f : Nat → Bool} (h : Below B w0 w) (hb : B ≤ b) : Below B w0 (putBits w b f) :=
  (((((((h.setCell (p := ⟨b, 0, none⟩) hb _).setCell (p := ⟨b, 1, none⟩) hb _).setCell (p := ⟨b, 2, none⟩) hb _).setCell (p := ⟨b, 3, none⟩) hb _).setCell (p := ⟨b, 4, none⟩) hb _).setCell (p := ⟨b, 5, none⟩) hb _).setCell (p := ⟨b, 6, none⟩) hb _).setCell (p := ⟨b, 7, none⟩) hb _

set_option maxRecDepth 100000 in
set_option maxHeartbeats 400000 in
theorem less_any (f g : Nat → Bool) (w : World) :
    Calls Try.prog 119 #[bitsV f, bitsV g] w fun e w' => e = .returned (bitsV (fun j => f j && !g j)) ∧ Below w.heap.size w w' := by
  unfold bitsV bitCells
  go_enter Try.func119, Try.ntmps119
  go_wp2
  have hz0 : Row (((w.alloc (.cells (bitCells f) 111)).alloc (.cells (bitCells g) 111)).alloc (.cells (bitCells fun _ => false) 111)) w.heap.size 111 (bitCells (lessTo f g 0)) := ((Row.new w _ _).alloc _).alloc _
  have hz2 : Row (((w.alloc (.cells (bitCells f) 111)).alloc (.cells (bitCells g) 111)).alloc (.cells (bitCells fun _ => false) 111)) (w.heap.size + 1 + 1) 111 (bitCells fun _ => false) := by
    have := Row.new ((w.alloc (.cells (bitCells f) 111)).alloc (.cells (bitCells g) 111)) 111 (bitCells fun _ => false)
    simpa using this
  have hb0 : Below w.heap.size w (((w.alloc (.cells (bitCells f) 111)).alloc (.cells (bitCells g) 111)).alloc (.cells (bitCells fun _ => false) 111)) := (((Below.refl _ w).alloc (Nat.le_refl _) _).alloc (by simp) _).alloc (by simp; omega) _
  go_loopw [8] (fun i wr => ∃ (k : Nat), k ≤ 8 ∧ i = .int .i64 k ∧ Hid (Row wr w.heap.size 111 (bitCells (lessTo f g k))) ∧ Hid (Row wr (w.heap.size + 1 + 1) 111 (bitCells fun _ => false)) ∧ Hid (Below w.heap.size w wr))
    (fun i _ => 8 - (intOf i).toNat)
  case atStart => exact ⟨0, Nat.zero_le _, rfl, hz0, hz2, hb0⟩
  case round =>
    clear hz0 hz2 hb0
    obtain ⟨k, hk, rfl, HR, HZ, HB⟩ := hrel
    have hk0 : (0 : Int) ≤ (k : Int) := Int.natCast_nonneg _
    by_cases hlt : k < 8
    · have hlt' : (k : Int) < 8 := by omega
      have hc : wr.cell? ⟨w.heap.size, k, none⟩ = some (.bool (f k)) := by
        have h1 : lessTo f g k k = f k := if_neg (by omega)
        rw [HR.out.cell, bits_at _ hlt, h1]
      have hfz : wr.frozen? ⟨w.heap.size, k, none⟩ = false := HR.out.free k
      have hx : ∀ W : World, (Instr.index 111 (.agg #[.bool (g 0), .bool (g 1), .bool (g 2), .bool (g 3), .bool (g 4), .bool (g 5), .bool (g 6), .bool (g 7)]) (.int .i64 (k : Int))).run Try.prog W = .ok (.bool (g k)) W := fun W => bits_ix g hlt W
      have HR1 : Hid (∀ b, b = (f k && !g k) → Row (wr.setCell ⟨w.heap.size, k, none⟩ (.bool b)) w.heap.size 111 (bitCells (lessTo f g (k + 1)))) := fun b hb => by
        have := HR.out.put k (.bool b)
        rw [lessTo_step f g hlt b hb] at this
        exact this
      have HZ1 : Hid (∀ b, Row (wr.setCell ⟨w.heap.size, k, none⟩ (.bool b)) (w.heap.size + 1 + 1) 111 (bitCells fun _ => false)) := fun b => Row.far HZ.out (by show w.heap.size + 1 + 1 ≠ w.heap.size; omega) _
      have HB1 : Hid (∀ b, Below w.heap.size w (wr.setCell ⟨w.heap.size, k, none⟩ (.bool b))) := fun b => HB.out.setCell (Nat.le_refl _) _
      generalize f k = fk at *
      generalize g k = gk at *
      cases fk <;> cases gk
      all_goals
        go_wp2
        go_roundw
        case rel => exact ⟨k + 1, by omega, by go_num, HR1.out _ rfl, HZ1.out _, HB1.out _⟩
        case measure => simp [intOf]; omega
    · obtain rfl : k = 8 := by omega
      have HL : Hid (bitCells (lessTo f g 8) = bitCells (fun j => f j && !g j)) := bits_congr fun j hj => if_pos hj
      have hr := HR.out
      rw [HL.out] at hr
      obtain ⟨⟨c0, c1, c2, c3⟩, c4, c5, c6, c7⟩ := bits_cells hr
      obtain ⟨⟨d0, d1, d2, d3⟩, d4, d5, d6, d7⟩ := bits_cells HZ.out
      have hfz := fun j => HZ.out.free j
      have z0 := hfz 0
      have z1 := hfz 1
      have z2 := hfz 2
      have z3 := hfz 3
      have z4 := hfz 4
      have z5 := hfz 5
      have z6 := hfz 6
      have z7 := hfz 7
      have HRow : Hid (Row (putBits wr (w.heap.size + 1 + 1) fun j => f j && !g j) (w.heap.size + 1 + 1) 111 (bitCells fun j => f j && !g j)) := putBits_row HZ.out
      have HBel : Hid (Below w.heap.size w (putBits wr (w.heap.size + 1 + 1) fun j => f j && !g j)) := putBits_below HB.out (by omega)
      clear hr hfz HR HZ HB HL
      go_wp2
      exact bodyPost_ret (v := bitsV fun j => f j && !g j) (results_cell_row (p := 4) (ty := 111) rfl _ (putBits wr (w.heap.size + 1 + 1) fun j => f j && !g j) (w.heap.size + 1 + 1) 111 _ (0, 0) _ rfl HRow.out Try.underlying111 rfl (by kernel_rfl)) rfl ⟨rfl, HBel.out⟩

end Go.Proofs.Ytbmfjfhmdpmlbaa
