/- Joined: Ge Qd Gh Bi. -/
import Derived.Test.YteokbgfiokbojaaGreatU01
import Derived.Laws.Rows
import Derived.Test.YteokbgfiokbojaaGreatU16
import Derived.Test.YteokbgfiokbojaaGreatU15
import Derived.RangeFuncWrites
import Derived.Test.YteokbgfiokbojaaGreatU17
/- A state as an array of eight truths: what is in one and not in another. -/
namespace Go.Proofs.YteokbgfiokbojaaGreat
open Go.RowKit

def bitCells (f : Nat → Bool) : Array Value := #[.bool (f 0), .bool (f 1), .bool (f 2), .bool (f 3), .bool (f 4), .bool (f 5), .bool (f 6), .bool (f 7)]
def bitsV (f : Nat → Bool) : Value := .agg (bitCells f)
theorem bits_at (f : Nat → Bool) {k : Nat} (h : k < 8) : (bitCells f)[k]? = some (.bool (f k)) := by
  match k, h with
  | 0, _ => rfl
  | 1, _ => rfl
  | 2, _ => rfl
  | 3, _ => rfl
  | 4, _ => rfl
  | 5, _ => rfl
  | 6, _ => rfl
  | 7, _ => rfl
theorem bits_set (f : Nat → Bool) {k : Nat} (h : k < 8) (b : Bool) : (bitCells f).setIfInBounds k (.bool b) = bitCells (fun j => if j = k then b else f j) := by
  match k, h with
  | 0, _ => rfl
  | 1, _ => rfl
  | 2, _ => rfl
  | 3, _ => rfl
  | 4, _ => rfl
  | 5, _ => rfl
  | 6, _ => rfl
  | 7, _ => rfl
theorem bits_congr {f g : Nat → Bool} (h : ∀ j, j < 8 → f j = g j) : bitCells f = bitCells g := by
  unfold bitCells
  rw [h 0 (by decide), h 1 (by decide), h 2 (by decide), h 3 (by decide), h 4 (by decide), h 5 (by decide), h 6 (by decide), h 7 (by decide)]
theorem bits_ix0 (f : Nat → Bool) (w : World) : (Instr.index 139 (bitsV f) (.int .i64 0)).run Tryz.prog w = .ok (.bool (f 0)) w := by kernel_rfl
theorem bits_ix1 (f : Nat → Bool) (w : World) : (Instr.index 139 (bitsV f) (.int .i64 1)).run Tryz.prog w = .ok (.bool (f 1)) w := by kernel_rfl
theorem bits_ix2 (f : Nat → Bool) (w : World) : (Instr.index 139 (bitsV f) (.int .i64 2)).run Tryz.prog w = .ok (.bool (f 2)) w := by kernel_rfl
theorem bits_ix3 (f : Nat → Bool) (w : World) : (Instr.index 139 (bitsV f) (.int .i64 3)).run Tryz.prog w = .ok (.bool (f 3)) w := by kernel_rfl
theorem bits_ix4 (f : Nat → Bool) (w : World) : (Instr.index 139 (bitsV f) (.int .i64 4)).run Tryz.prog w = .ok (.bool (f 4)) w := by kernel_rfl
theorem bits_ix5 (f : Nat → Bool) (w : World) : (Instr.index 139 (bitsV f) (.int .i64 5)).run Tryz.prog w = .ok (.bool (f 5)) w := by kernel_rfl
theorem bits_ix6 (f : Nat → Bool) (w : World) : (Instr.index 139 (bitsV f) (.int .i64 6)).run Tryz.prog w = .ok (.bool (f 6)) w := by kernel_rfl
theorem bits_ix7 (f : Nat → Bool) (w : World) : (Instr.index 139 (bitsV f) (.int .i64 7)).run Tryz.prog w = .ok (.bool (f 7)) w := by kernel_rfl
theorem bits_ix (f : Nat → Bool) {k : Nat} (h : k < 8) (w : World) : (Instr.index 139 (bitsV f) (.int .i64 (k : Int))).run Tryz.prog w = .ok (.bool (f k)) w := by
  match k, h with
  | 0, _ => exact bits_ix0 f w
  | 1, _ => exact bits_ix1 f w
  | 2, _ => exact bits_ix2 f w
  | 3, _ => exact bits_ix3 f w
  | 4, _ => exact bits_ix4 f w
  | 5, _ => exact bits_ix5 f w
  | 6, _ => exact bits_ix6 f w
  | 7, _ => exact bits_ix7 f w

/-- What is left after the first 'k' have been gone over. -/
def lessTo (f g : Nat → Bool) (k j : Nat) : Bool := if j < k then f j && !g j else f j
theorem lessTo_step (f g : Nat → Bool) {k : Nat} (h : k < 8) (b : Bool) (hb : b = (f k && !g k)) : (bitCells (lessTo f g k)).setIfInBounds k (.bool b) = bitCells (lessTo f g (k + 1)) := by
  rw [bits_set _ h]
  apply bits_congr
  intro j hj
  unfold lessTo
  by_cases h1 : j = k
  · subst h1
    rw [if_pos rfl, if_pos (by omega), hb]
  · rw [if_neg h1]
    by_cases h2 : j < k
    · rw [if_pos h2, if_pos (by omega)]
    · rw [if_neg h2, if_neg (by omega)]
theorem run_loadState {w : World} {b : Nat} {f : Nat → Bool} (h : Row w b 139 (bitCells f)) : (loadVar 139 ⟨b, 0, none⟩).run Tryz.prog w = .ok (bitsV f) w :=
  run_loadVar_row w b 139 139 (bitCells f) (0, 0) _ h Tryz.underlying139 rfl (by kernel_rfl)
theorem bits_cells {t : TypeId} {w : World} {b : Nat} {f : Nat → Bool} (h : Row w b t (bitCells f)) : (w.cell? ⟨b, 0, none⟩ = some (.bool (f 0)) ∧ w.cell? ⟨b, 1, none⟩ = some (.bool (f 1)) ∧ w.cell? ⟨b, 2, none⟩ = some (.bool (f 2)) ∧ w.cell? ⟨b, 3, none⟩ = some (.bool (f 3))) ∧
    (w.cell? ⟨b, 4, none⟩ = some (.bool (f 4)) ∧ w.cell? ⟨b, 5, none⟩ = some (.bool (f 5)) ∧ w.cell? ⟨b, 6, none⟩ = some (.bool (f 6)) ∧ w.cell? ⟨b, 7, none⟩ = some (.bool (f 7))) :=
  ⟨⟨h.cell 0, h.cell 1, h.cell 2, h.cell 3⟩, h.cell 4, h.cell 5, h.cell 6, h.cell 7⟩
/-- The world behind a store of a whole state. -/
def putBits (w : World) (b : Nat) (f : Nat → Bool) : World :=
  (((((((w.setCell ⟨b, 0, none⟩ (.bool (f 0))).setCell ⟨b, 1, none⟩ (.bool (f 1))).setCell ⟨b, 2, none⟩ (.bool (f 2))).setCell ⟨b, 3, none⟩ (.bool (f 3))).setCell ⟨b, 4, none⟩ (.bool (f 4))).setCell ⟨b, 5, none⟩ (.bool (f 5))).setCell ⟨b, 6, none⟩ (.bool (f 6))).setCell ⟨b, 7, none⟩ (.bool (f 7))
def upTo (f g : Nat → Bool) (k j : Nat) : Bool := if j < k then f j else g j
theorem upTo_step {t : TypeId} {w : World} {b k : Nat} {f g : Nat → Bool} (h : Row w b t (bitCells (upTo f g k))) (hk : k < 8) : Row (w.setCell ⟨b, k, none⟩ (.bool (f k))) b t (bitCells (upTo f g (k + 1))) := by
  have h1 := h.put k (.bool (f k))
  rw [bits_set _ hk] at h1
  rw [bits_congr (f := upTo f g (k + 1)) (g := fun j => if j = k then f k else upTo f g k j)]
  · exact h1
  · intro j _
    unfold upTo
    by_cases e : j = k
    · subst e
      rw [if_pos (by omega), if_pos rfl]
    · rw [if_neg e]
      by_cases e2 : j < k
      · rw [if_pos e2, if_pos (by omega)]
      · rw [if_neg e2, if_neg (by omega)]
theorem putBits_row {t : TypeId} {w : World} {b : Nat} {f g : Nat → Bool} (h : Row w b t (bitCells g)) : Row (putBits w b f) b t (bitCells f) := by
  have h0 : Row w b t (bitCells (upTo f g 0)) := h
  have h8 := upTo_step (upTo_step (upTo_step (upTo_step (upTo_step (upTo_step (upTo_step (upTo_step h0 (by decide)) (by decide)) (by decide)) (by decide)) (by decide)) (by decide)) (by decide)) (by decide)
  rw [bits_congr (f := f) (g := upTo f g 8) (fun j hj => (if_pos hj).symm)]
  exact h8
theorem putBits_far {w : World} {b b' : Nat} {f : Nat → Bool} {t : TypeId} {cs : Array Value} (h : Row w b' t cs) (hne : b' ≠ b) : Row (putBits w b f) b' t cs :=
  (((((((h.far (p := ⟨b, 0, none⟩) hne _).far (p := ⟨b, 1, none⟩) hne _).far (p := ⟨b, 2, none⟩) hne _).far (p := ⟨b, 3, none⟩) hne _).far (p := ⟨b, 4, none⟩) hne _).far (p := ⟨b, 5, none⟩) hne _).far (p := ⟨b, 6, none⟩) hne _).far (p := ⟨b, 7, none⟩) hne _
theorem putBits_block (w : World) (b : Nat) (f : Nat → Bool) {k : Nat} (h : k ≠ b) : (putBits w b f).heap[k]? = w.heap[k]? := by
  unfold putBits
  rw [Below.heap_setCell _ ⟨b, 7, none⟩ _ k h, Below.heap_setCell _ ⟨b, 6, none⟩ _ k h, Below.heap_setCell _ ⟨b, 5, none⟩ _ k h, Below.heap_setCell _ ⟨b, 4, none⟩ _ k h, Below.heap_setCell _ ⟨b, 3, none⟩ _ k h, Below.heap_setCell _ ⟨b, 2, none⟩ _ k h, Below.heap_setCell _ ⟨b, 1, none⟩ _ k h, Below.heap_setCell _ ⟨b, 0, none⟩ _ k h]
theorem putBits_below {w0 w : World} {B b : Nat} {f : Nat → Bool} (h : Below B w0 w) (hb : B ≤ b) : Below B w0 (putBits w b f) :=
  (((((((h.setCell (p := ⟨b, 0, none⟩) hb _).setCell (p := ⟨b, 1, none⟩) hb _).setCell (p := ⟨b, 2, none⟩) hb _).setCell (p := ⟨b, 3, none⟩) hb _).setCell (p := ⟨b, 4, none⟩) hb _).setCell (p := ⟨b, 5, none⟩) hb _).setCell (p := ⟨b, 6, none⟩) hb _).setCell (p := ⟨b, 7, none⟩) hb _

set_option maxRecDepth 100000 in
set_option maxHeartbeats 400000 in
theorem less_any (f g : Nat → Bool) (w : World) :
    Calls Tryz.prog 89 #[bitsV f, bitsV g] w fun e w' => e = .returned (bitsV (fun j => f j && !g j)) ∧ Below w.heap.size w w' := by
  unfold bitsV bitCells
  go_enter Tryz.func89, Tryz.ntmps89
  go_wp2
  have hz0 : Row (((w.alloc (.cells (bitCells f) 139)).alloc (.cells (bitCells g) 139)).alloc (.cells (bitCells fun _ => false) 139)) w.heap.size 139 (bitCells (lessTo f g 0)) := ((Row.new w _ _).alloc _).alloc _
  have hz2 : Row (((w.alloc (.cells (bitCells f) 139)).alloc (.cells (bitCells g) 139)).alloc (.cells (bitCells fun _ => false) 139)) (w.heap.size + 1 + 1) 139 (bitCells fun _ => false) := by
    have := Row.new ((w.alloc (.cells (bitCells f) 139)).alloc (.cells (bitCells g) 139)) 139 (bitCells fun _ => false)
    simpa using this
  have hb0 : Below w.heap.size w (((w.alloc (.cells (bitCells f) 139)).alloc (.cells (bitCells g) 139)).alloc (.cells (bitCells fun _ => false) 139)) := (((Below.refl _ w).alloc (Nat.le_refl _) _).alloc (by simp) _).alloc (by simp; omega) _
  go_loopw [8] (fun i wr => ∃ (k : Nat), k ≤ 8 ∧ i = .int .i64 k ∧ Hid (Row wr w.heap.size 139 (bitCells (lessTo f g k))) ∧ Hid (Row wr (w.heap.size + 1 + 1) 139 (bitCells fun _ => false)) ∧ Hid (Below w.heap.size w wr))
    (fun i _ => 8 - (intOf i).toNat)
  case atStart => exact ⟨0, Nat.zero_le _, rfl, hz0, hz2, hb0⟩
  case round =>
    clear hz0 hz2 hb0
    obtain ⟨k, hk, rfl, HR, HZ, HB⟩ := hrel
    have hk0 : (0 : Int) ≤ (k : Int) := Int.natCast_nonneg _
    by_cases hlt : k < 8
    · have hlt' : (k : Int) < 8 := by omega
      have hc : wr.cell? ⟨w.heap.size, k, none⟩ = some (.bool (f k)) := by
        have h1 : lessTo f g k k = f k := if_neg (by omega)
        rw [HR.out.cell, bits_at _ hlt, h1]
      have hfz : wr.frozen? ⟨w.heap.size, k, none⟩ = false := HR.out.free k
      have hx : ∀ W : World, (Instr.index 139 (.agg #[.bool (g 0), .bool (g 1), .bool (g 2), .bool (g 3), .bool (g 4), .bool (g 5), .bool (g 6), .bool (g 7)]) (.int .i64 (k : Int))).run Tryz.prog W = .ok (.bool (g k)) W := fun W => bits_ix g hlt W
      have HR1 : Hid (∀ b, b = (f k && !g k) → Row (wr.setCell ⟨w.heap.size, k, none⟩ (.bool b)) w.heap.size 139 (bitCells (lessTo f g (k + 1)))) := fun b hb => by
        have := HR.out.put k (.bool b)
        rw [lessTo_step f g hlt b hb] at this
        exact this
      have HZ1 : Hid (∀ b, Row (wr.setCell ⟨w.heap.size, k, none⟩ (.bool b)) (w.heap.size + 1 + 1) 139 (bitCells fun _ => false)) := fun b => Row.far HZ.out (by show w.heap.size + 1 + 1 ≠ w.heap.size; omega) _
      have HB1 : Hid (∀ b, Below w.heap.size w (wr.setCell ⟨w.heap.size, k, none⟩ (.bool b))) := fun b => HB.out.setCell (Nat.le_refl _) _
      generalize f k = fk at *
      generalize g k = gk at *
      cases fk <;> cases gk
      all_goals
        go_wp2
        go_roundw
        case rel => exact ⟨k + 1, by omega, by go_num, HR1.out _ rfl, HZ1.out _, HB1.out _⟩
        case measure => simp [intOf]; omega
    · obtain rfl : k = 8 := by omega
      have HL : Hid (bitCells (lessTo f g 8) = bitCells (fun j => f j && !g j)) := bits_congr fun j hj => if_pos hj
      have hr := HR.out
      rw [HL.out] at hr
      obtain ⟨⟨c0, c1, c2, c3⟩, c4, c5, c6, c7⟩ := bits_cells hr
      obtain ⟨⟨d0, d1, d2, d3⟩, d4, d5, d6, d7⟩ := bits_cells HZ.out
      have hfz := fun j => HZ.out.free j
      have z0 := hfz 0
      have z1 := hfz 1
      have z2 := hfz 2
      have z3 := hfz 3
      have z4 := hfz 4
      have z5 := hfz 5
      have z6 := hfz 6
      have z7 := hfz 7
      have HRow : Hid (Row (putBits wr (w.heap.size + 1 + 1) fun j => f j && !g j) (w.heap.size + 1 + 1) 139 (bitCells fun j => f j && !g j)) := putBits_row HZ.out
      have HBel : Hid (Below w.heap.size w (putBits wr (w.heap.size + 1 + 1) fun j => f j && !g j)) := putBits_below HB.out (by omega)
      clear hr hfz HR HZ HB HL
      go_wp2
      exact bodyPost_ret (v := bitsV fun j => f j && !g j) (results_cell_row (p := 4) (ty := 139) rfl _ (putBits wr (w.heap.size + 1 + 1) fun j => f j && !g j) (w.heap.size + 1 + 1) 139 _ (0, 0) _ rfl HRow.out Tryz.underlying139 rfl (by kernel_rfl)) rfl ⟨rfl, HBel.out⟩

end Go.Proofs.YteokbgfiokbojaaGreat
/- Where nodes lie, yielded one by one. -/
namespace Go.Proofs.YteokbgfiokbojaaGreat
open Go.RowKit Go.Shelf
attribute [local go_sem] Oper.semAt_some

/-- All blocks below 'n₀' but 'bb', rows of bytes aside, lie as they lay. -/
def Kept (n₀ bb : Nat) (W W' : World) : Prop := ∀ (k : Nat) (o : Obj), k < n₀ → k ≠ bb → W.heap[k]? = some o → (∀ c fz, o ≠ .cells c 5 fz) → W'.heap[k]? = some o
theorem Kept.refl (n₀ bb : Nat) (W : World) : Kept n₀ bb W W := fun _ _ _ _ h _ => h
theorem Kept.trans {n₀ bb : Nat} {A B C : World} (h : Kept n₀ bb A B) (k : Kept n₀ bb B C) : Kept n₀ bb A C := fun i o h1 h2 h3 h4 => k i o h1 h2 (h i o h1 h2 h3 h4) h4
theorem Kept.row {n₀ bb : Nat} {A B : World} (h : Kept n₀ bb A B) {b : Nat} {t : TypeId} {cs : Array Value} (hr : Row A b t cs) (h1 : b < n₀) (h2 : b ≠ bb) (h3 : t ≠ 5) : Row B b t cs :=
  h b _ h1 h2 hr (fun c fz he => by injection he with _ ht; exact h3 ht)
theorem Kept.put {n₀ bb : Nat} (W : World) {l : Nat} (o : Obj) (hl : n₀ ≤ l) : Kept n₀ bb W (W.putObj l o) := fun _ _ _ _ h3 _ => (World.putObj_heap_other (by omega)).trans h3
/-- The nodes that the iterator reads. -/
structure Lain (w : World) (n₀ bb g : Nat) (l : List Seg) (nb : Nat → Nat) : Prop where
  row : ∃ cs, Row w g 92 cs ∧ ∀ i, i < l.length → cs[i]? = some (.pointer (some ⟨nb i, 0, none⟩))
  rowAt : g < n₀ ∧ g ≠ bb
  node : ∀ (i : Nat) (hi : i < l.length), ∃ cv, Row w (nb i) 94 #[.string (l[i]'hi).name, .int .i64 (l[i]'hi).size, .pointer (parPtr l nb i), cv]
  nodeAt : ∀ i, i < l.length → nb i < n₀ ∧ nb i ≠ bb
theorem Lain.kept {w w' : World} {n₀ bb g : Nat} {l : List Seg} {nb : Nat → Nat} (h : Lain w n₀ bb g l nb) (hk : Kept n₀ bb w w') : Lain w' n₀ bb g l nb := by
  obtain ⟨cs, hr, hc⟩ := h.row
  refine ⟨⟨cs, hk.row hr h.rowAt.1 h.rowAt.2 (by decide), hc⟩, h.rowAt, fun i hi => ?_, h.nodeAt⟩
  obtain ⟨cv, hn⟩ := h.node i hi
  exact ⟨cv, hk.row hn (h.nodeAt i hi).1 (h.nodeAt i hi).2 (by decide)⟩
/-- What a round says, by the truth it hands back. -/
def YP {α : Type} (J Jx : List α → World → Prop) (Kp : World → World → Prop) (ys : List α) (W1 : World) (b : Bool) (W' : World) : Prop := if b then J ys W' ∧ Kp W1 W' else Jx ys W'

theorem YP.no {α : Type} {J Jx : List α → World → Prop} {Kp : World → World → Prop} {ys : List α} {W1 W' : World} (h : YP J Jx Kp ys W1 false W') : Jx ys W' := by
  unfold YP at h
  rwa [if_neg (by decide)] at h

theorem builder_cells {T e : TypeId} {B b : Nat} {bs : List Value} {w : World} (h : Lib.IsBuilderF T e B b bs w) : ∃ c, w.heap[b]? = some (.cells c T (0, 0)) := by
  rcases h with ⟨_, v, h2, _⟩ | ⟨_, v, h2, _⟩
  · exact ⟨_, h2⟩
  · exact ⟨_, h2⟩


end Go.Proofs.YteokbgfiokbojaaGreat
/- The names of what is loaded in a state. -/
namespace Go.Proofs.YteokbgfiokbojaaGreat
open Go.RowKit Go.Shelf

theorem asc_ext : ∀ {a b : List Nat}, a.Pairwise (· < ·) → b.Pairwise (· < ·) → (∀ x, x ∈ a ↔ x ∈ b) → a = b
  | [], [], _, _, _ => rfl
  | [], y :: b, _, _, h => by
    have := (h y).2 List.mem_cons_self
    cases this
  | x :: a, [], _, _, h => by
    have := (h x).1 List.mem_cons_self
    cases this
  | x :: a, y :: b, ha, hb, h => by
    have ha' := List.pairwise_cons.1 ha
    have hb' := List.pairwise_cons.1 hb
    have hxy : x = y := by
      have h1 := (h x).1 List.mem_cons_self
      have h2 := (h y).2 List.mem_cons_self
      rcases List.mem_cons.1 h1 with e | e
      · exact e
      · rcases List.mem_cons.1 h2 with e2 | e2
        · exact e2.symm
        · have := hb'.1 x e
          have := ha'.1 y e2
          omega
    subst hxy
    rw [asc_ext ha'.2 hb'.2]
    intro z
    constructor
    · intro hz
      have := ha'.1 z hz
      rcases List.mem_cons.1 ((h z).1 (List.mem_cons_of_mem _ hz)) with e | e
      · omega
      · exact e
    · intro hz
      have := hb'.1 z hz
      rcases List.mem_cons.1 ((h z).2 (List.mem_cons_of_mem _ hz)) with e | e
      · omega
      · exact e
/-- The segments of which a truth is told, among the first 'k'. -/
def selIx (f : Nat → Bool) (k : Nat) : List Nat := (List.range k).filter f
theorem selIx_succ (f : Nat → Bool) (k : Nat) : selIx f (k + 1) = selIx f k ++ if f k = true then [k] else [] := by
  unfold selIx
  rw [List.range_succ, List.filter_append]
  by_cases h : f k = true <;> simp [h]
theorem selIx_len (f : Nat → Bool) (k : Nat) : (selIx f k).length ≤ k := by
  have := List.length_filter_le f (List.range k)
  simpa [selIx] using this
theorem selIx_lt {f : Nat → Bool} {k j : Nat} (h : j ∈ selIx f k) : j < k := List.mem_range.1 (List.mem_filter.1 h).1
theorem sel_mem {T : List Nat} {n : Nat} (ha : T.Pairwise (· < ·)) (hl : ∀ j ∈ T, j < n) : selIx (fun j => decide (j ∈ T)) n = T := by
  apply asc_ext
  · exact List.Pairwise.filter _ List.pairwise_lt_range
  · exact ha
  · intro x
    unfold selIx
    rw [List.mem_filter, List.mem_range]
    constructor
    · intro h; simpa using h.2
    · intro h; exact ⟨hl x h, by simpa using h⟩

theorem kept_row {T : TypeId} {w w' : World} {b k : Nat} {cs : Array Value} (h : Lib.OthersKept 5 (some b) w w') (hr : Row w k T cs) (hk : k ≠ b) (hT : T ≠ 5) : Row w' k T cs :=
  h k _ hr (fun e => hk (by injection e)) (fun c fz e => by injection e with _ e2; exact hT e2)

set_option maxRecDepth 100000 in
set_option maxHeartbeats 1000000 in
theorem names_any (B g : Nat) (l : List Seg) (nb : Nat → Nat) (cv : Nat → Value) (f : Nat → Bool) (w : World) (h : Nodes w B g l.length l.length l nb cv) (hv : validB l = true) :
    Calls Tryz.prog 90 #[bitsV f, .slice (some ⟨g, 0, none⟩) l.length l.length] w fun e w' => e = .returned (.string (namesAt l (selIx f l.length))) ∧ Below w.heap.size w w' := by
  have HN := Lib.hid h
  have HV := Lib.hid hv
  have h8 := (valid_all hv).2.1
  clear h hv
  unfold bitsV bitCells
  go_enter Tryz.func90, Tryz.ntmps90
  go_wp2
  have hR0 : Row ((w.alloc (.cells (bitCells f) 139)).alloc (.cells #[.pointer none, .slice none 0 0] 48)) w.heap.size 139 (bitCells f) := (Row.new w _ _).alloc _
  have hI0 : Lib.IsBuilderF 48 5 (w.heap.size + 1) (w.heap.size + 1) (Lib.byteCells (namesAt l (selIx f 0)).data.toList) ((w.alloc (.cells (bitCells f) 139)).alloc (.cells #[.pointer none, .slice none 0 0] 48)) := by
    have := Lib.IsBuilderF.of (Lib.fresh_isBuilder 48 5 (w.alloc (.cells (bitCells f) 139)))
    rw [World.size_alloc] at this
    exact this
  have hB0 : Below w.heap.size w ((w.alloc (.cells (bitCells f) 139)).alloc (.cells #[.pointer none, .slice none 0 0] 48)) := ((Below.refl _ w).alloc (Nat.le_refl _) _).alloc (by simp) _
  go_loopw [10] (fun i wr => ∃ k : Nat, k ≤ l.length ∧ i = .int .i64 k ∧ Hid (Row wr w.heap.size 139 (bitCells f)) ∧ Hid (Lib.IsBuilderF 48 5 (w.heap.size + 1) (w.heap.size + 1) (Lib.byteCells (namesAt l (selIx f k)).data.toList) wr) ∧ Hid (Below w.heap.size w wr))
    (fun i _ => l.length - (intOf i).toNat)
  case atStart => exact ⟨0, Nat.zero_le _, rfl, hR0, hI0, hB0⟩
  case round =>
    clear hR0 hI0 hB0
    obtain ⟨k, hk, rfl, HR, HI, HB⟩ := hrel
    have hk0 : (0 : Int) ≤ (k : Int) := Int.natCast_nonneg _
    have hbz := HB.out.size
    have hlen : (Lib.byteCells (namesAt l (selIx f k)).data.toList).length = (namesAt l (selIx f k)).size := by simp [Lib.byteCells]
    have hbw : w.heap.size + 1 < wr.heap.size := by
      obtain ⟨cb, hcb⟩ := builder_cells HI.out
      exact (Array.getElem?_eq_some_iff.1 hcb).1
    by_cases hlt : k < l.length
    · have hlt' : (k : Int) < (l.length : Int) := by omega
      have hk8 : (k : Int) < 8 := by omega
      obtain ⟨cs, hrow, _, hci⟩ := HN.out.row
      have gk : wr.cell? ⟨g, k, none⟩ = some (.pointer (some ⟨nb k, 0, none⟩)) := by
        rw [HB.out.cell (p := ⟨g, k, none⟩) hrow.lt, hrow.cell]
        exact hci k hlt
      have hnk := HN.out.node k _ hlt (List.getElem?_eq_getElem hlt)
      have nk : wr.cell? ⟨nb k, 0, none⟩ = some (.string l[k].name) := (HB.out.cell (p := ⟨nb k, 0, none⟩) hnk.lt).trans (hnk.cell 0)
      have hc : wr.cell? ⟨w.heap.size, k, none⟩ = some (.bool (f k)) := by rw [HR.out.cell, bits_at _ (by omega)]
      clear hrow hci hnk
      have HS := Lib.hid (selIx_succ f k)
      cases hf : f k with
      | false =>
        rw [hf] at hc
        have HS1 : Hid (selIx f (k + 1) = selIx f k) := by
          show _ = _
          rw [HS.out, if_neg (by rw [hf]; decide), List.append_nil]
        have HI1 : Hid (Lib.IsBuilderF 48 5 (w.heap.size + 1) (w.heap.size + 1) (Lib.byteCells (namesAt l (selIx f (k + 1))).data.toList) wr) := by
          show Lib.IsBuilderF _ _ _ _ _ _
          rw [HS1.out]
          exact HI.out
        clear hf
        go_wp2
        go_roundw
        case rel => exact ⟨k + 1, by omega, by go_num, HR, HI1, HB⟩
        case measure => simp [intOf]; omega
      | true =>
        rw [hf] at hc
        have HS1 : Hid (Lib.byteCells (namesAt l (selIx f (k + 1))).data.toList = Lib.byteCells (namesAt l (selIx f k)).data.toList ++ Lib.strCells l[k].name) := by
          show _ = _
          rw [HS.out, if_pos hf, namesAt_snoc _ hlt, ByteArray.data_append, Array.toList_append]
          simp [Lib.byteCells, Lib.strCells]
        have hz1 := valid_names HV.out _ (List.getElem_mem hlt)
        have hz2 := namesAt_len (valid_names HV.out) (selIx f k)
        have hz3 := selIx_len f k
        have hl1 : (Lib.byteCells (namesAt l (selIx f k)).data.toList).length + l[k].name.size ≤ 140737488355328 := by omega
        clear hz2 hz3 hf
        generalize l[k].name = nm at *
        go_wp2_with fail
        refine (writeString_any (w.heap.size + 1) (w.heap.size + 1) _ nm _ HI.out hl1 (by omega)).mono ?_
        rintro e w2 ⟨rfl, hI1, hb1, hk1⟩
        have HI1 : Hid (Lib.IsBuilderF 48 5 (w.heap.size + 1) (w.heap.size + 1) (Lib.byteCells (namesAt l (selIx f (k + 1))).data.toList) w2) := by
          show Lib.IsBuilderF _ _ _ _ _ _
          rw [HS1.out]
          exact hI1
        have HR1 := Lib.hid (kept_row hk1 HR.out (by omega) (by decide))
        have HB1 := Lib.hid (HB.out.trans (hb1.mono (by omega)))
        clear hI1 hb1 hk1 gk nk hc
        go_wp2
        go_roundw
        case rel => exact ⟨k + 1, by omega, by go_num, HR1, HI1, HB1⟩
        case measure => simp [intOf]; omega
    · obtain rfl : k = l.length := by omega
      go_wp2_with fail
      refine (Tryz.Builder_String_any_k (w.heap.size + 1) (w.heap.size + 1) _ _ HI.out (by omega)).mono ?_
      rintro e w2 ⟨rfl, hI1, hb1, hk1⟩
      have HB1 := Lib.hid (HB.out.trans (hb1.mono (by omega)))
      clear hI1 hb1 hk1
      go_wp2
      go_ret
      exact ⟨rfl, HB1.out⟩

end Go.Proofs.YteokbgfiokbojaaGreat

/- The state in which the path of a node is loaded. -/
namespace Go.Proofs.YteokbgfiokbojaaGreat
open Go.RowKit Go.Shelf
attribute [local go_sem] Oper.semAt_some

theorem nodes_own {w : World} {B g : Nat} {l : List Seg} {nb : Nat → Nat} {cv : Nat → Value} (h : Nodes w B g l.length l.length l nb cv) (hl : l.length ≤ 1000) :
    w.ownsRow B 92 1 (.slice (some ⟨g, 0, none⟩) (List.range l.length).length l.length) (List.range l.length).length (ptrsOf nb (List.range l.length)) := by
  obtain ⟨cs, hrow, hcs, hci⟩ := h.row
  refine ⟨by simp [ptrsOf], .inr ⟨g, l.length, cs, rfl, h.low.1, hrow, by simp, by unfold maxLen; omega, by omega, ?_⟩⟩
  apply List.ext_getElem?
  intro k
  rw [List.getElem?_take]
  by_cases hk : k < l.length
  · rw [if_pos (by simpa using hk)]
    have h1 := hci k hk
    rw [← Array.getElem?_toList] at h1
    rw [h1]
    simp [ptrsOf, hk]
  · rw [if_neg (by simpa using hk)]
    simp [ptrsOf, hk]

/-- Where a node stands. -/
theorem indexAll_any (B g i : Nat) (l : List Seg) (nb : Nat → Nat) (cv : Nat → Value) (w : World) (h : Nodes w B g l.length l.length l nb cv) (hl : l.length ≤ 1000) (hi : i < l.length) :
    Calls Tryz.prog 60 #[.slice (some ⟨g, 0, none⟩) l.length l.length, .pointer (some ⟨nb i, 0, none⟩)] w fun e w' => e = .returned (.int .i64 i) ∧ w = w' := by
  have h1 := index_any g l.length B (List.range l.length) nb i w (nodes_own h hl) (by simpa using hl) (fun j hj => by
    have hjl : j < l.length := hj.elim (fun e => e ▸ hi) (fun h => List.mem_range.1 h)
    exact ⟨_, h.node j _ hjl (List.getElem?_eq_getElem hjl)⟩) (fun j hj he => Classical.byContradiction fun hne => h.apart i j hi (List.mem_range.1 hj) hne he)
  rw [List.length_range] at h1
  refine h1.mono ?_
  rintro e w' ⟨r, rfl, h2, h3, rfl⟩
  have h4 : 0 ≤ r := h2.2 (List.mem_range.2 hi)
  have h5 := h3 h4
  obtain ⟨q, rfl⟩ := Int.eq_ofNat_of_zero_le h4
  rw [Int.toNat_natCast] at h5
  have hq : q < l.length := by
    have := (List.getElem?_eq_some_iff.1 h5).1
    simpa using this
  rw [List.getElem?_range hq] at h5
  injection h5 with h5
  exact ⟨by rw [h5], rfl⟩

/-- What the loop keeps. -/
structure LitG (w : World) (g : Nat) (l : List Seg) (T : List Nat) (W : World) : Prop where
  state : Row W (w.heap.size + 1 + 1) 139 (bitCells fun j => decide (j ∈ T))
  res : Row W (w.heap.size + 1) 139 (bitCells fun _ => false)
  nodes : Row W w.heap.size 56 #[.slice (some ⟨g, 0, none⟩) l.length l.length]
  below : Below w.heap.size w W
theorem LitG.grown {w W W' : World} {g : Nat} {l : List Seg} {T : List Nat} {B : Nat} {row : Option Nat} (h : LitG w g l T W) (hg : W.grownBy W' row) (hB : w.heap.size ≤ B) (hr : ∀ r, row = some r → B ≤ r ∧ ∃ o : Obj, W.heap[r]? = some o ∧ o.isCells = false) : LitG w g l T W' :=
  ⟨row_grown h.state hg hr, row_grown h.res hg hr, row_grown h.nodes hg hr, h.below.grown hg h.below.size (fun k e => by have := (hr k e).1; omega)⟩
theorem LitG.step {w W : World} {g : Nat} {l : List Seg} {T : List Nat} (h : LitG w g l T W) {v : Nat} (hv : v < 8) : LitG w g l (T ++ [v]) (W.setCell ⟨w.heap.size + 1 + 1, v, none⟩ (.bool true)) := by
  refine ⟨?_, Row.far h.res (by show w.heap.size + 1 ≠ w.heap.size + 1 + 1; omega) _, Row.far h.nodes (by show w.heap.size ≠ w.heap.size + 1 + 1; omega) _, h.below.setCell (by show w.heap.size ≤ w.heap.size + 1 + 1; omega) _⟩
  have h1 := h.state.put v (.bool true)
  rw [bits_set _ hv] at h1
  rw [bits_congr (g := fun j => if j = v then true else decide (j ∈ T))]
  · exact h1
  · intro j _
    by_cases e : j = v
    · rw [if_pos e, e]
      simp
    · rw [if_neg e]
      simp [e]

set_option maxRecDepth 100000 in
set_option maxHeartbeats 4000000 in
theorem pathState_any (B g i : Nat) (l : List Seg) (nb : Nat → Nat) (cv : Nat → Value) (w : World) (h : Nodes w B g l.length l.length l nb cv) (hv : validB l = true) (hi : i < l.length) :
    Calls Tryz.prog 111 #[.slice (some ⟨g, 0, none⟩) l.length l.length, .pointer (some ⟨nb i, 0, none⟩)] w fun e w' => e = .returned (bitsV fun j => decide (j ∈ rp l i)) ∧ Below w.heap.size w w' := by
  have HN := Lib.hid h
  have HL : Hid _ := valid_all hv
  have HL8 : Hid (l.length ≤ 8) := HL.out.2.1
  have HR1 : Hid ((rootPath l (i + 1) i).length ≤ i + 1) := rootPath_len l (i + 1) i
  clear h
  refine (callsIn_wide (n := 22)).1 ?_
  refine callsIn_of_wp_marks Tryz.func111 rfl trivial ?_ rfl
  simp only [Tryz.ntmps111, List.size_toArray, List.length_cons, List.length_nil, Nat.reduceAdd, Nat.reduceSub, Array.replicate_succ, Array.replicate_zero, List.push_toArray, List.append_toArray, List.nil_append, List.cons_append]
  gi_wp2_with fail
  refine ⟨trivial, ?_⟩
  gi_at_call 116
  refine (callsIn_wide.2 (path_any _ _)).mono ?_
  rintro e w2 ⟨rfl, rfl⟩
  gi_wp2
  have hI0 : LitG w g l [] ((((w.alloc (.cells #[.slice (some ⟨g, 0, none⟩) l.length l.length] 56)).alloc (.cells (bitCells fun _ => false) 139)).alloc (.cells (bitCells fun _ => false) 139)).alloc (.cells #[.pointer (some ⟨nb i, 0, none⟩)] 92)) := by
    refine ⟨?_, ?_, (((Row.new w _ _).alloc _).alloc _).alloc _, ((((Below.refl _ w).alloc (Nat.le_refl _) _).alloc (by simp) _).alloc (by simp; omega) _).alloc (by simp; omega) _⟩
    · have := (Row.new ((w.alloc (.cells #[.slice (some ⟨g, 0, none⟩) l.length l.length] 56)).alloc (.cells (bitCells fun _ => false) 139)) 139 (bitCells fun _ => false)).alloc (.cells #[.pointer (some ⟨nb i, 0, none⟩)] 92)
      simpa using this
    · have := ((Row.new (w.alloc (.cells #[.slice (some ⟨g, 0, none⟩) l.length l.length] 56)) 139 (bitCells fun _ => false)).alloc (.cells (bitCells fun _ => false) 139)).alloc (.cells #[.pointer (some ⟨nb i, 0, none⟩)] 92)
      simpa using this
  have hP0 : Row ((((w.alloc (.cells #[.slice (some ⟨g, 0, none⟩) l.length l.length] 56)).alloc (.cells (bitCells fun _ => false) 139)).alloc (.cells (bitCells fun _ => false) 139)).alloc (.cells #[.pointer (some ⟨nb i, 0, none⟩)] 92)) (w.heap.size + 1 + 1 + 1) 92 #[.pointer (some ⟨nb i, 0, none⟩)] := by
    have := Row.new (((w.alloc (.cells #[.slice (some ⟨g, 0, none⟩) l.length l.length] 56)).alloc (.cells (bitCells fun _ => false) 139)).alloc (.cells (bitCells fun _ => false) 139)) 92 #[.pointer (some ⟨nb i, 0, none⟩)]
    simpa using this
  have hz0 : ((((w.alloc (.cells #[.slice (some ⟨g, 0, none⟩) l.length l.length] 56)).alloc (.cells (bitCells fun _ => false) 139)).alloc (.cells (bitCells fun _ => false) 139)).alloc (.cells #[.pointer (some ⟨nb i, 0, none⟩)] 92)).heap.size = w.heap.size + 4 := by simp
  unfold bitCells at hI0 hP0 hz0
  generalize (((w.alloc (.cells #[.slice (some ⟨g, 0, none⟩) l.length l.length] 56)).alloc (.cells #[.bool false, .bool false, .bool false, .bool false, .bool false, .bool false, .bool false, .bool false] 139)).alloc (.cells #[.bool false, .bool false, .bool false, .bool false, .bool false, .bool false, .bool false, .bool false] 139)).alloc (.cells #[.pointer (some ⟨nb i, 0, none⟩)] 92) = W0 at *
  have hlk0 : Linked W0 (w.heap.size + 1 + 1) l nb := fun q hq => by
    have h1 := HN.out.node q _ hq (List.getElem?_eq_getElem hq)
    exact ⟨by have := h1.lt; omega, (hI0.below.cell (p := ⟨nb q, 2, none⟩) h1.lt).trans (h1.cell 2)⟩
  have hseq := path1_seq l nb (w.heap.size + 1 + 1) (w.heap.size + 1 + 1 + 1) 1000 HL.out.1.down (i + 1) i (by omega) hi 21 (w.heap.size + 1 + 1 + 1) W0
    ⟨.inr (by omega), by decide, hP0⟩ hlk0 (by omega) (by have := HR1.out; have := HL8.out; omega) (by have := HL8.out; omega)
  clear hP0 hlk0
  refine wpIn_rangeFunc_R (by omega) (gf := 128) (lb := #[.pointer (some ⟨w.heap.size + 1 + 1 + 1, 0, none⟩)]) rfl (enters_of Tryz.func128 (by kernel_rfl) rfl) hseq (by omega) (by omega) (Below.refl _ _) (fun _ => rfl)
    (fun pre W => LitG w g l (pre.map (fun y : Ix l => y.1)) W)
    (fun _ _ _ => False)
    (fun _ _ _ _ h hg hr => h.grown hg (by omega) hr)
    (fun _ _ _ _ _ hs _ _ => hs)
    hI0
    (fun x => { tmps := #[.slice (some ⟨g, 0, none⟩) l.length l.length, .pointer (some ⟨nb i, 0, none⟩), .pointer (some ⟨w.heap.size, 0, none⟩), undef, .pointer (some ⟨w.heap.size + 1, 0, none⟩), .pointer (some ⟨w.heap.size + 1 + 1, 0, none⟩), .pointer (some ⟨nb x.1, 0, none⟩), .pointer (some ⟨nb i, 0, none⟩), .func (.func 128) #[] #[.pointer (some ⟨w.heap.size + 1 + 1 + 1, 0, none⟩)], .pointer (some ⟨nb x.1, 0, none⟩), undef, undef, undef, undef, undef], defers := [] }) ?assign ?body ?done ?stop
  case assign =>
    intro l2 x W K hK
    gi_wp2
    exact hK
  case body =>
    rintro l2 pre x W hI hlen hWz
    have c0 : W.cell? ⟨w.heap.size, 0, none⟩ = some (.slice (some ⟨g, 0, none⟩) l.length l.length) := hI.nodes.cell 0
    have hx0 : (0 : Int) ≤ (x.1 : Int) := Int.natCast_nonneg _
    have hx8 : (x.1 : Int) < 8 := by have := x.2; have := HL8.out; omega
    have hcx : W.cell? ⟨w.heap.size + 1 + 1, x.1, none⟩ = some (.bool (decide (x.1 ∈ pre.map (fun y : Ix l => y.1)))) := by
      rw [hI.state.cell, bits_at _ (by omega)]
    have hfx : W.frozen? ⟨w.heap.size + 1 + 1, x.1, none⟩ = false := hI.state.free _
    have HNW := Lib.hid (HN.out.below hI.below)
    have HI := Lib.hid hI
    clear hI
    gi_wp2_with fail
    refine ⟨trivial, ?_⟩
    gi_at_call 60
    refine (CallsIn.inRound l2 (callsIn_wide.2 (indexAll_any B g x.1 l nb cv W HNW.out (by have := HL8.out; omega) x.2))).mono ?_
    rintro e W1 ⟨rfl, rfl⟩
    gi_wp2
    refine ⟨keepsN_set _ ⟨w.heap.size + 1 + 1, x.1, none⟩ _ (by show w.heap.size + 1 + 1 < min _ _; omega), (Below.refl (w.heap.size + 1 + 1) W).setCell (p := ⟨w.heap.size + 1 + 1, x.1, none⟩) (Nat.le_refl _) _, ?_⟩
    show LitG w g l ((pre ++ [x]).map (fun y : Ix l => y.1)) _
    rw [List.map_append]
    exact HI.out.step (show x.1 < 8 by omega)
  case done =>
    rintro D xs W hD hS hI hK
    have hS' : xs.map (fun y : Ix l => y.1) = rp l i := hS
    rw [hS'] at hI
    obtain ⟨⟨c0, c1, c2, c3⟩, c4, c5, c6, c7⟩ := bits_cells hI.state
    obtain ⟨⟨d0, d1, d2, d3⟩, d4, d5, d6, d7⟩ := bits_cells hI.res
    have hfz := fun j => hI.res.free j
    have z0 := hfz 0
    have z1 := hfz 1
    have z2 := hfz 2
    have z3 := hfz 3
    have z4 := hfz 4
    have z5 := hfz 5
    have z6 := hfz 6
    have z7 := hfz 7
    have HI := Lib.hid hI
    have HRow : Hid (Row (putBits W (w.heap.size + 1) fun j => decide (j ∈ rp l i)) (w.heap.size + 1) 139 (bitCells fun j => decide (j ∈ rp l i))) := putBits_row HI.out.res
    have HBel : Hid (Below w.heap.size w (putBits W (w.heap.size + 1) fun j => decide (j ∈ rp l i))) := putBits_below HI.out.below (by omega)
    have HKK : Hid ((putBits W (w.heap.size + 1) fun j => decide (j ∈ rp l i)).heap[D]? = some (.deferred (some []))) := (putBits_block W _ _ (by omega)).trans hK
    clear hfz hI hS hS'
    gi_wp2
    refine ⟨by simp, .inl ⟨_, _, rfl, run_takeDeferred HKK.out, ?_⟩⟩
    refine ⟨_, results_cell_row (p := 4) (ty := 139) rfl _ ((putBits W (w.heap.size + 1) fun j => decide (j ∈ rp l i)).putObj D _) (w.heap.size + 1) 139 _ (0, 0) _ rfl (row_grown HRow.out (grownBy_putObj' _ D _) (B := 0) (fun r e => by cases e; exact ⟨Nat.zero_le _, _, HKK.out, rfl⟩)) Tryz.underlying139 rfl (by kernel_rfl), rfl, ?_⟩
    exact HBel.out.trans (belowK_b (w := w) (Nat.le_refl _) _ D _ _ (by omega) HKK.out rfl rfl)
  case stop =>
    rintro D c pre W _ _ h _
    exact h.elim

end Go.Proofs.YteokbgfiokbojaaGreat
/- What is lost in a trace: plain. -/
namespace Go.Proofs.YteokbgfiokbojaaGreat
open Go.RowKit

/-- Which segments the program says are lost at the last call of a chain, and in all of them. -/
def lostX (l : List Seg) (x : List UInt8) (i : Nat) : Bool := decide (byteOf l i ∈ x) && decide (kindIx l i (bSeek l (lastB x)).toNat = 2)
def lostF (l : List Seg) (xs : List (List UInt8)) (i : Nat) : Bool := decide (i < l.length) && xs.any fun x => lostX l x i
theorem lostF_nil (l : List Seg) (i : Nat) : lostF l [] i = false := by unfold lostF; simp
theorem lostF_snoc (l : List Seg) (xs : List (List UInt8)) (x : List UInt8) (i : Nat) : lostF l (xs ++ [x]) i = (lostF l xs i || (decide (i < l.length) && lostX l x i)) := by
  unfold lostF
  rw [List.any_append]
  cases decide (i < l.length) <;> simp
/-- The segments that are lost in a trace. -/
def lostRes (l : List Seg) (t : ByteArray) : ByteArray := match traceB l t.data.toList with
  | none => ⟨#[]⟩
  | some f => namesAt l (selIx (lostF l (chainsB [rootB l] f)) l.length)
end Go.Proofs.YteokbgfiokbojaaGreat
