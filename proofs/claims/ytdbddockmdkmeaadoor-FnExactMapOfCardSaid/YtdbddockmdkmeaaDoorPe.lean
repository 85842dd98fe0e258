/- The program's rooms: RoomOf, SavedRoom, Overlap. -/
import Derived.Test.YtdbddockmdkmeaaDoorPd
import Derived.Test.YtdbddockmdkmeaaDoorEr
namespace Go.Proofs.YtdbddockmdkmeaaDoor
open Go.RowKit

set_option maxRecDepth 100000 in
set_option maxHeartbeats 400000 in
theorem roomOf_any (A : Option Addr) (l : List Seg) (c : Nat) (w : World) (hw : Segs w w.heap.size A l) (hl : l.length ≤ 1048576) (hlc : l.length ≤ c) (hcm : c ≤ 9223372036854775807) (hn : Short l) :
    Calls Tryd.prog 20 #[.slice A l.length c] w fun e w' => e = .returned (.int .i64 (roomB l)) ∧ Below w.heap.size w w' := by
  have HW : Hid (Segs w w.heap.size A l) := hw
  clear hw
  have hnil := fun (W : World) (a : Option Addr) (n c : Nat) => Lib.run_eql_slice_nil (P := Tryd.prog) W 52 57 a n c 0 0 Tryd.underlying52
  cases hv : validB l with
  | false =>
    have HF : Hid (roomB l = -1) := if_neg (by rw [hv]; decide)
    go_enter Tryd.func20, Tryd.ntmps20
    go_wp2_with fail
    refine (nodesOf_bad _ _ _ _ HW.out hl hlc hcm hn hv).mono ?_
    rintro e w1 ⟨rfl, hb1⟩
    go_wp2
    go_ret
    exact ⟨ret_int HF.out.symm, hb1⟩
  | true =>
    have h0 := (valid_all hv).2.2
    have hle := lastIx_le l (l.length - 1)
    have HL : Hid (lastIx l (l.length - 1) < l.length) := show _ < _ by omega
    have HF : Hid (roomB l = endAt l (lastIx l (l.length - 1))) := by
      have h1 : roomB l = roomTo l l.length := if_pos hv
      have h2 := lastIx_room hv (l.length - 1) (by omega)
      rw [show l.length - 1 + 1 = l.length by omega] at h2
      exact h1.trans h2.symm
    have HV := Lib.hid hv
    clear hv hle
    have hfld := run_end
    go_enter Tryd.func20, Tryd.ntmps20
    go_wp2_with fail
    refine (nodesOf_any _ _ _ _ HW.out hl hlc hcm hn HV.out).mono ?_
    rintro e w1 ⟨g, nb, cv, rfl, hN, hb1⟩
    have HN := Lib.hid hN
    clear hN
    go_wp2_with fail
    refine (fold_any _ _ _ _ _ _ HN.out HV.out).mono ?_
    rintro e w2 ⟨rfl, hb2⟩
    have B2 := hb1.trans (hb2.mono hb1.size)
    go_wp2_with fail
    refine (place_any l nb HV.out _ HL.out _ (HN.out.placed.below hb2)).mono ?_
    rintro e w3 ⟨rfl, hb3⟩
    have B3 := B2.trans (hb3.mono B2.size)
    clear hb1 hb2 B2 hb3
    go_wp2
    go_ret
    exact ⟨ret_int HF.out.symm, B3⟩

set_option maxRecDepth 100000 in
set_option maxHeartbeats 400000 in
theorem savedRoom_any (A : Option Addr) (l : List Seg) (c : Nat) (w : World) (hw : Segs w w.heap.size A l) (hl : l.length ≤ 1048576) (hlc : l.length ≤ c) (hcm : c ≤ 9223372036854775807) (hn : Short l) :
    Calls Tryd.prog 21 #[.slice A l.length c] w fun e w' => e = .returned (.int .i64 (savedB l)) ∧ Below w.heap.size w w' := by
  have HW : Hid (Segs w w.heap.size A l) := hw
  clear hw
  cases hv : validB l with
  | false =>
    have HF : Hid (savedB l = -1) := if_neg (by rw [hv]; decide)
    go_enter Tryd.func21, Tryd.ntmps21
    go_wp2_with fail
    refine (treeValid_any _ _ _ _ HW.out hl hlc hcm hn).mono ?_
    rw [hv]
    rintro e w1 ⟨rfl, hb1⟩
    go_wp2
    go_ret
    exact ⟨ret_int HF.out.symm, hb1⟩
  | true =>
    have HF : Hid (savedB l = sumTo l l.length - roomTo l l.length) := if_pos hv
    have HT : Hid (totalB l = sumTo l l.length) := if_pos hv
    have HR : Hid (roomB l = roomTo l l.length) := if_pos hv
    obtain ⟨r1, r2⟩ := roomTo_bd hv l.length (Nat.le_refl _)
    obtain ⟨t1, t2⟩ := sumTo_le hv l.length (Nat.le_refl _)
    have hl8 := (valid_all hv).2.1
    have t3 : sumTo l l.length ≤ 792 := by omega
    clear t2
    go_enter Tryd.func21, Tryd.ntmps21
    go_wp2_with fail
    refine (treeValid_any _ _ _ _ HW.out hl hlc hcm hn).mono ?_
    rw [hv]
    rintro e w1 ⟨rfl, hb1⟩
    clear hv
    go_wp2_with fail
    refine (totalSize_any _ _ _ _ ((HW.out.below hb1).more hb1.size) hl hlc hcm hn).mono ?_
    rw [HT.out]
    rintro e w2 ⟨rfl, hb2⟩
    have B2 := hb1.trans (hb2.mono hb1.size)
    clear hb1 hb2
    go_wp2_with fail
    refine (roomOf_any _ _ _ _ ((HW.out.below B2).more B2.size) hl hlc hcm hn).mono ?_
    rw [HR.out]
    rintro e w3 ⟨rfl, hb3⟩
    have B3 := B2.trans (hb3.mono B2.size)
    clear B2 hb3
    generalize sumTo l l.length = a at *
    generalize roomTo l l.length = b at *
    go_wp2
    go_ret
    exact ⟨ret_int HF.out.symm, B3⟩

/-- What is behind findTwo where the tree is valid. -/
def TwoPost (w : World) (l : List Seg) (s t : ByteArray) (e : Ending) (w' : World) : Prop :=
  ∃ g nb cv, e = .returned (.tuple #[.pointer (foundPtr l nb s), .pointer (foundPtr l nb t)]) ∧ Nodes w' w.heap.size g l.length l.length l nb cv ∧ Below w.heap.size w w'

end Go.Proofs.YtdbddockmdkmeaaDoor
