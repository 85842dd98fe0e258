/- Where a node lies: the program's own place, by the parents. -/
import Derived.Test.YtdbddockmdkmeaaDoorEp
namespace Go.Proofs.YtdbddockmdkmeaaDoor
open Go.RowKit

/-- What place reads of the nodes. -/
def Placed (w : World) (l : List Seg) (nb : Nat → Nat) : Prop := ∀ j, j < l.length → nb j < w.heap.size ∧ w.cell? ⟨nb j, 1, none⟩ = some (.int .i64 (sizeAt l j)) ∧ w.cell? ⟨nb j, 2, none⟩ = some (.pointer (parPtr l nb j))
theorem Placed.below {w w' : World} {l : List Seg} {nb : Nat → Nat} (h : Placed w l nb) (hb : Below w.heap.size w w') : Placed w' l nb := fun j hj => by
  obtain ⟨h1, h2, h3⟩ := h j hj
  exact ⟨Nat.lt_of_lt_of_le h1 hb.size, (hb.cell (p := ⟨nb j, 1, none⟩) h1).trans h2, (hb.cell (p := ⟨nb j, 2, none⟩) h1).trans h3⟩
theorem Nodes.placed {w : World} {B g : Nat} {l : List Seg} {nb : Nat → Nat} {cv : Nat → Value} (h : Nodes w B g l.length l.length l nb cv) : Placed w l nb := fun j hj => by
  have h1 := h.node j _ hj (List.getElem?_eq_getElem hj)
  refine ⟨h1.lt, ?_, h1.cell 2⟩
  rw [sizeAt_of hj]
  exact h1.cell 1

theorem run_begin (a b : Int) (w : World) : (Instr.field 84 (.agg #[.int .i64 a, .int .i64 b]) 0).run Tryd.prog w = .ok (.int .i64 a) w := by kernel_rfl
theorem run_end (a b : Int) (w : World) : (Instr.field 84 (.agg #[.int .i64 a, .int .i64 b]) 1).run Tryd.prog w = .ok (.int .i64 b) w := by kernel_rfl

set_option maxRecDepth 100000 in
set_option maxHeartbeats 400000 in
theorem place_any (l : List Seg) (nb : Nat → Nat) (hv : validB l = true) : ∀ i, i < l.length → ∀ w, Placed w l nb →
    Calls Tryd.prog 73 #[.pointer (some ⟨nb i, 0, none⟩)] w fun e w' => e = .returned (.agg #[.int .i64 (begAt l i), .int .i64 (endAt l i)]) ∧ Below w.heap.size w w' := by
  refine rp_ind (valid_all hv).1.down (fun i hi hp w hw => ?_) (fun i p hi hpi hp ih w hw => ?_)
  · obtain ⟨h1, c1, c2⟩ := hw i hi
    have hpp : parPtr l nb i = none := if_pos hp
    have HB : Hid (begAt l i = 0 ∧ endAt l i = sizeAt l i) := by
      have a := begAt_root hp
      have b := endAt_beg l i
      exact ⟨a, by omega⟩
    obtain ⟨z1, z2⟩ := sizeAt_bd hv hi
    rw [hpp] at c2
    clear hw hpp hp
    rw [HB.out.1, HB.out.2]
    generalize sizeAt l i = sz at *
    go_enter Tryd.func73, Tryd.ntmps73
    go_wp2
    refine bodyPost_ret (v := .agg #[.int .i64 0, .int .i64 sz]) (by simp [results, Tryd.results73, go_sem]) rfl ⟨rfl, ?_⟩
    repeat (first | exact Below.refl _ _ | refine Below.setCell ?_ (by simp) _ | refine Below.alloc ?_ (by simp; try omega) _)
  · obtain ⟨h1, c1, c2⟩ := hw i hi
    have hd := (valid_all hv).1.down i hi
    have hpp : parPtr l nb i = some ⟨nb p, 0, none⟩ := by
      unfold parPtr
      rw [if_neg (by omega), hp, Int.toNat_natCast]
    have HB : Hid (begAt l i = endAt l p ∧ endAt l i = endAt l p + sizeAt l i) := by
      have a := begAt_step (valid_all hv).1.down hi hp
      have b := endAt_beg l i
      exact ⟨a, by omega⟩
    obtain ⟨z1, z2⟩ := sizeAt_bd hv hi
    obtain ⟨e1, e2, e3⟩ := place_small hv (show p < l.length by omega)
    have e0 : 0 ≤ endAt l p := by omega
    rw [hpp] at c2
    have HW := Lib.hid hw
    have HI := Lib.hid ih
    clear hw hpp hp ih hd e1 e2
    rw [HB.out.1, HB.out.2]
    clear HB
    have hz0 : w.heap.size < w.heap.size + 1 := Nat.lt_succ_self _
    have hf1 := run_end
    go_enter Tryd.func73, Tryd.ntmps73
    go_wp2_with fail
    refine (HI.out _ (HW.out.below ((Below.refl _ _).alloc (Nat.le_refl _) _))).mono ?_
    rintro e w1 ⟨rfl, hb1⟩
    have hb : Below w.heap.size w w1 := ((Below.refl _ w).alloc (Nat.le_refl _) _).trans (hb1.mono (by simp))
    rw [← hb.cell (p := ⟨nb i, 1, none⟩) h1] at c1
    rw [← hb.cell (p := ⟨nb i, 2, none⟩) h1] at c2
    have hr : Row w1 w.heap.size 84 #[.int .i64 0, .int .i64 0] := (Row.new w _ _).below hb1 (by simp)
    have r0 := hr.cell 0
    have r1 := hr.cell 1
    have f0 := hr.free 0
    have f1 := hr.free 1
    have hz := hr.lt
    have H := Lib.hid hb
    clear hb hb1 hr HW HI
    go_wp2
    refine bodyPost_ret (v := .agg #[.int .i64 (endAt l p), .int .i64 (endAt l p + sizeAt l i)]) (by simp [results, Tryd.results73, go_sem, r0, r1]) rfl ⟨rfl, ?_⟩
    repeat (first | exact H.out | refine Below.setCell ?_ (by simp) _ | refine Below.alloc ?_ (by simp; try omega) _)

end Go.Proofs.YtdbddockmdkmeaaDoor
