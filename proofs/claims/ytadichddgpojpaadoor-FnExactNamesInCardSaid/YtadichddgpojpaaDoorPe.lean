/- The program's rooms: RoomOf, SavedRoom, Overlap. -/
import Derived.Test.YtadichddgpojpaaDoorPd
import Derived.Test.YtadichddgpojpaaDoorEr
namespace Go.Proofs.YtadichddgpojpaaDoor
open Go.RowKit

set_option maxRecDepth 100000 in
set_option maxHeartbeats 400000 in
theorem findTwo_bad (A : Option Addr) (l : List Seg) (c : Nat) (s t : ByteArray) (w : World) (hw : Segs w w.heap.size A l) (hl : l.length ≤ 1048576) (hlc : l.length ≤ c) (hcm : c ≤ 9223372036854775807) (hn : Short l) (hv : validB l = false) :
    Calls Tryd.prog 13 #[.slice A l.length c, .string s, .string t] w fun e w' => e = .returned (.tuple #[.pointer none, .pointer none]) ∧ Below w.heap.size w w' := by
  have HW : Hid (Segs w w.heap.size A l) := hw
  clear hw
  go_enter Tryd.func13, Tryd.ntmps13
  go_wp2_with fail
  refine (nodesOf_bad _ _ _ _ HW.out hl hlc hcm hn hv).mono ?_
  rintro e w1 ⟨rfl, hb1⟩
  go_wp2_with fail
  refine (findNode_nil _ _).mono ?_
  rintro e w2 ⟨rfl, rfl⟩
  go_wp2_with fail
  refine (findNode_nil _ _).mono ?_
  rintro e w2 ⟨rfl, rfl⟩
  go_wp2
  go_ret2
  exact ⟨rfl, hb1⟩

/-- What is behind findTwo where the tree is valid. -/
def TwoPost (w : World) (l : List Seg) (s t : ByteArray) (e : Ending) (w' : World) : Prop :=
  ∃ g nb cv, e = .returned (.tuple #[.pointer (foundPtr l nb s), .pointer (foundPtr l nb t)]) ∧ Nodes w' w.heap.size g l.length l.length l nb cv ∧ Below w.heap.size w w'

set_option maxRecDepth 100000 in
set_option maxHeartbeats 400000 in
theorem findTwo_any (A : Option Addr) (l : List Seg) (c : Nat) (s t : ByteArray) (w : World) (hw : Segs w w.heap.size A l) (hl : l.length ≤ 1048576) (hlc : l.length ≤ c) (hcm : c ≤ 9223372036854775807) (hn : Short l) (hv : validB l = true) :
    Calls Tryd.prog 13 #[.slice A l.length c, .string s, .string t] w (TwoPost w l s t) := by
  have HW : Hid (Segs w w.heap.size A l) := hw
  clear hw
  go_enter Tryd.func13, Tryd.ntmps13
  go_wp2_with fail
  refine (nodesOf_any _ _ _ _ HW.out hl hlc hcm hn hv).mono ?_
  rintro e w1 ⟨g, nb, cv, rfl, hN, hb1⟩
  have HN := Lib.hid hN
  clear hN
  go_wp2_with fail
  refine (findNode_any _ _ _ _ _ _ _ HN.out hl).mono ?_
  rintro e w2 ⟨rfl, rfl⟩
  go_wp2_with fail
  refine (findNode_any _ _ _ _ _ _ _ HN.out hl).mono ?_
  rintro e w2 ⟨rfl, rfl⟩
  go_wp2
  go_ret2
  exact ⟨g, nb, cv, rfl, HN.out, hb1⟩

end Go.Proofs.YtadichddgpojpaaDoor
