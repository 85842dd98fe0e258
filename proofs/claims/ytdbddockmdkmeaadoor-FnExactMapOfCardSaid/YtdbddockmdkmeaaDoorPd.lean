/- The program's rooms: where segments begin and end, the whole room, what is saved. -/
import Derived.Test.YtdbddockmdkmeaaDoorPc
import Derived.Test.YtdbddockmdkmeaaDoorVa
namespace Go.Proofs.YtdbddockmdkmeaaDoor
open Go.RowKit

set_option maxRecDepth 100000 in
set_option maxHeartbeats 400000 in
theorem addressOf_any (A : Option Addr) (l : List Seg) (c : Nat) (s : ByteArray) (w : World) (hw : Segs w w.heap.size A l) (hl : l.length ≤ 1048576) (hlc : l.length ≤ c) (hcm : c ≤ 9223372036854775807) (hn : Short l) :
    Calls Tryd.prog 31 #[.slice A l.length c, .string s] w fun e w' => e = .returned (.int .i64 (addrB l s)) ∧ Below w.heap.size w w' := by
  have HW : Hid (Segs w w.heap.size A l) := hw
  clear hw
  cases hv : validB l with
  | false =>
    have HF : Hid (addrB l s = -1) := by
      have h1 : indexB l s = -1 := if_neg (by rw [hv]; decide)
      exact if_pos (by omega)
    go_enter Tryd.func31, Tryd.ntmps31
    go_wp2_with fail
    refine (nodesOf_bad _ _ _ _ HW.out hl hlc hcm hn hv).mono ?_
    rintro e w1 ⟨rfl, hb1⟩
    go_wp2_with fail
    refine (findNode_nil _ _).mono ?_
    rintro e w2 ⟨rfl, rfl⟩
    go_wp2
    go_ret
    exact ⟨ret_int HF.out.symm, hb1⟩
  | true =>
    have HI : Hid (indexB l s = seek l s) := if_pos hv
    rcases seek_bd l s with hi | ⟨h0, hi⟩
    · have HF : Hid (addrB l s = -1) := if_pos (by have := HI.out; omega)
      have HP : Hid (∀ nb, foundPtr l nb s = none) := fun nb => if_pos (by omega)
      clear hi
      go_enter Tryd.func31, Tryd.ntmps31
      go_wp2_with fail
      refine (nodesOf_any _ _ _ _ HW.out hl hlc hcm hn hv).mono ?_
      rintro e w1 ⟨g, nb, cv, rfl, hN, hb1⟩
      have HN := Lib.hid hN
      clear hN
      go_wp2_with fail
      refine (findNode_any _ _ _ _ _ _ _ HN.out hl).mono ?_
      rw [HP.out nb]
      rintro e w2 ⟨rfl, rfl⟩
      go_wp2
      go_ret
      exact ⟨ret_int HF.out.symm, hb1⟩
    · obtain ⟨k, hk⟩ := Int.eq_ofNat_of_zero_le h0
      have hkl : k < l.length := by omega
      have HF : Hid (addrB l s = begAt l k) := by
        show addrB l s = _
        unfold addrB
        rw [HI.out, if_neg (by omega), hk, Int.toNat_natCast]
      have HP : Hid (∀ nb, foundPtr l nb s = some ⟨nb k, 0, none⟩) := fun nb => by
        unfold foundPtr
        rw [if_neg (by omega), hk, Int.toNat_natCast]
      have HV := Lib.hid hv
      clear hk hi h0 hv
      have hfld := run_begin
      go_enter Tryd.func31, Tryd.ntmps31
      go_wp2_with fail
      refine (nodesOf_any _ _ _ _ HW.out hl hlc hcm hn HV.out).mono ?_
      rintro e w1 ⟨g, nb, cv, rfl, hN, hb1⟩
      have HN := Lib.hid hN
      clear hN
      go_wp2_with fail
      refine (findNode_any _ _ _ _ _ _ _ HN.out hl).mono ?_
      rw [HP.out nb]
      rintro e w2 ⟨rfl, rfl⟩
      go_wp2_with fail
      refine (place_any l nb HV.out k hkl _ HN.out.placed).mono ?_
      rintro e w2 ⟨rfl, hb2⟩
      have B2 := hb1.trans (hb2.mono hb1.size)
      clear hb1 hb2
      go_wp2
      go_ret
      exact ⟨ret_int HF.out.symm, B2⟩

set_option maxRecDepth 100000 in
set_option maxHeartbeats 400000 in
theorem endOf_any (A : Option Addr) (l : List Seg) (c : Nat) (s : ByteArray) (w : World) (hw : Segs w w.heap.size A l) (hl : l.length ≤ 1048576) (hlc : l.length ≤ c) (hcm : c ≤ 9223372036854775807) (hn : Short l) :
    Calls Tryd.prog 32 #[.slice A l.length c, .string s] w fun e w' => e = .returned (.int .i64 (endB l s)) ∧ Below w.heap.size w w' := by
  have HW : Hid (Segs w w.heap.size A l) := hw
  clear hw
  cases hv : validB l with
  | false =>
    have HF : Hid (endB l s = -1) := by
      have h1 : indexB l s = -1 := if_neg (by rw [hv]; decide)
      exact if_pos (by omega)
    go_enter Tryd.func32, Tryd.ntmps32
    go_wp2_with fail
    refine (nodesOf_bad _ _ _ _ HW.out hl hlc hcm hn hv).mono ?_
    rintro e w1 ⟨rfl, hb1⟩
    go_wp2_with fail
    refine (findNode_nil _ _).mono ?_
    rintro e w2 ⟨rfl, rfl⟩
    go_wp2
    go_ret
    exact ⟨ret_int HF.out.symm, hb1⟩
  | true =>
    have HI : Hid (indexB l s = seek l s) := if_pos hv
    rcases seek_bd l s with hi | ⟨h0, hi⟩
    · have HF : Hid (endB l s = -1) := if_pos (by have := HI.out; omega)
      have HP : Hid (∀ nb, foundPtr l nb s = none) := fun nb => if_pos (by omega)
      clear hi
      go_enter Tryd.func32, Tryd.ntmps32
      go_wp2_with fail
      refine (nodesOf_any _ _ _ _ HW.out hl hlc hcm hn hv).mono ?_
      rintro e w1 ⟨g, nb, cv, rfl, hN, hb1⟩
      have HN := Lib.hid hN
      clear hN
      go_wp2_with fail
      refine (findNode_any _ _ _ _ _ _ _ HN.out hl).mono ?_
      rw [HP.out nb]
      rintro e w2 ⟨rfl, rfl⟩
      go_wp2
      go_ret
      exact ⟨ret_int HF.out.symm, hb1⟩
    · obtain ⟨k, hk⟩ := Int.eq_ofNat_of_zero_le h0
      have hkl : k < l.length := by omega
      have HF : Hid (endB l s = endAt l k) := by
        show endB l s = _
        unfold endB
        rw [HI.out, if_neg (by omega), hk, Int.toNat_natCast]
      have HP : Hid (∀ nb, foundPtr l nb s = some ⟨nb k, 0, none⟩) := fun nb => by
        unfold foundPtr
        rw [if_neg (by omega), hk, Int.toNat_natCast]
      have HV := Lib.hid hv
      clear hk hi h0 hv
      have hfld := run_end
      go_enter Tryd.func32, Tryd.ntmps32
      go_wp2_with fail
      refine (nodesOf_any _ _ _ _ HW.out hl hlc hcm hn HV.out).mono ?_
      rintro e w1 ⟨g, nb, cv, rfl, hN, hb1⟩
      have HN := Lib.hid hN
      clear hN
      go_wp2_with fail
      refine (findNode_any _ _ _ _ _ _ _ HN.out hl).mono ?_
      rw [HP.out nb]
      rintro e w2 ⟨rfl, rfl⟩
      go_wp2_with fail
      refine (place_any l nb HV.out k hkl _ HN.out.placed).mono ?_
      rintro e w2 ⟨rfl, hb2⟩
      have B2 := hb1.trans (hb2.mono hb1.size)
      clear hb1 hb2
      go_wp2
      go_ret
      exact ⟨ret_int HF.out.symm, B2⟩

set_option maxRecDepth 100000 in
set_option maxHeartbeats 400000 in
theorem endsBehind_any (a b x y : Int) (w : World) :
    Calls Tryd.prog 105 #[.agg #[.int .i64 a, .int .i64 b], .agg #[.int .i64 x, .int .i64 y]] w fun e w' => e = .returned (.bool (decide (y < b))) ∧ Below w.heap.size w w' := by
  go_enter Tryd.func105, Tryd.ntmps105
  go_wp2
  go_ret
  refine ⟨ret_bool (by simp), ?_⟩
  repeat (first | exact Below.refl _ _ | refine Below.setCell ?_ (by simp) _ | refine Below.alloc ?_ (by simp; try omega) _)

/-- Of two the one that ends later, the first if neither does. -/
def laterOf (l : List Seg) (i j : Nat) : Nat := if endAt l i < endAt l j then j else i

set_option maxRecDepth 100000 in
set_option maxHeartbeats 400000 in
theorem endingLast_any (l : List Seg) (nb : Nat → Nat) (hv : validB l = true) (i j : Nat) (hi : i < l.length) (hj : j < l.length) (w : World) (hw : Placed w l nb) :
    Calls Tryd.prog 72 #[.pointer (some ⟨nb i, 0, none⟩), .pointer (some ⟨nb j, 0, none⟩)] w fun e w' => e = .returned (.pointer (some ⟨nb (laterOf l i j), 0, none⟩)) ∧ Below w.heap.size w w' := by
  have HW := Lib.hid hw
  have HV := Lib.hid hv
  clear hw hv
  by_cases h : endAt l i < endAt l j
  · have hd : decide (endAt l i < endAt l j) = true := decide_eq_true h
    have HP : Hid ((some ⟨nb (laterOf l i j), 0, none⟩ : Option Addr) = some ⟨nb j, 0, none⟩) := by
      show _ = _
      unfold laterOf
      rw [if_pos h]
    clear h
    go_enter Tryd.func72, Tryd.ntmps72
    go_wp2_with fail
    refine (place_any l nb HV.out j hj _ HW.out).mono ?_
    rintro e w1 ⟨rfl, hb1⟩
    go_wp2_with fail
    refine (place_any l nb HV.out i hi _ (HW.out.below hb1)).mono ?_
    rintro e w2 ⟨rfl, hb2⟩
    have B2 := hb1.trans (hb2.mono hb1.size)
    clear hb1 hb2
    go_wp2_with fail
    refine (endsBehind_any _ _ _ _ _).mono ?_
    rw [hd]
    rintro e w3 ⟨rfl, hb3⟩
    have B3 := B2.trans (hb3.mono B2.size)
    clear B2 hb3 hd
    go_wp2
    go_ret
    exact ⟨ret_ptr HP.out.symm, B3⟩
  · have hd : decide (endAt l i < endAt l j) = false := decide_eq_false h
    have HP : Hid ((some ⟨nb (laterOf l i j), 0, none⟩ : Option Addr) = some ⟨nb i, 0, none⟩) := by
      show _ = _
      unfold laterOf
      rw [if_neg h]
    clear h
    go_enter Tryd.func72, Tryd.ntmps72
    go_wp2_with fail
    refine (place_any l nb HV.out j hj _ HW.out).mono ?_
    rintro e w1 ⟨rfl, hb1⟩
    go_wp2_with fail
    refine (place_any l nb HV.out i hi _ (HW.out.below hb1)).mono ?_
    rintro e w2 ⟨rfl, hb2⟩
    have B2 := hb1.trans (hb2.mono hb1.size)
    clear hb1 hb2
    go_wp2_with fail
    refine (endsBehind_any _ _ _ _ _).mono ?_
    rw [hd]
    rintro e w3 ⟨rfl, hb3⟩
    have B3 := B2.trans (hb3.mono B2.size)
    clear B2 hb3 hd
    go_wp2
    go_ret
    exact ⟨ret_ptr HP.out.symm, B3⟩

set_option maxRecDepth 100000 in
set_option maxHeartbeats 400000 in
theorem fold_any (B g : Nat) (l : List Seg) (nb : Nat → Nat) (cv : Nat → Value) (w : World) (hN : Nodes w B g l.length l.length l nb cv) (hv : validB l = true) :
    Calls Tryd.prog 71 #[.slice (some ⟨g, 0, none⟩) l.length l.length, .func (.func 72) #[] #[]] w fun e w' => e = .returned (.pointer (some ⟨nb (lastIx l (l.length - 1)), 0, none⟩)) ∧ Below w.heap.size w w' := by
  have HN := Lib.hid hN
  have HV := Lib.hid hv
  obtain ⟨-, hl8, hl1⟩ := valid_all hv
  obtain ⟨cs, hrow, -, hci⟩ := hN.row
  have HC : Hid (∀ i, i < l.length → w.cell? ⟨g, i, none⟩ = some (.pointer (some ⟨nb i, 0, none⟩))) := fun i hi => by rw [hrow.cell]; exact hci i hi
  have hg := hrow.lt
  have c0 := HC.out 0 (by omega)
  clear hN hv hrow hci cs
  go_enter Tryd.func71, Tryd.ntmps71
  go_wp2
  · have H1 := Lib.hid h
    clear h
    go_loop [5, 14] (fun v i => v = .pointer (some ⟨nb 0, 0, none⟩) ∧ i = .int .i64 0) (fun _ _ => 0)
    case atStart => exact ⟨rfl, rfl⟩
    case round =>
      obtain ⟨rfl, rfl⟩ := hrel
      have HE : Hid (lastIx l (l.length - 1) = 0) := by
        show lastIx l (l.length - 1) = 0
        rw [H1.out]; rfl
      go_wp2
      go_ret
      exact ⟨ret_ptr (by rw [HE.out]), Below.refl _ _⟩
  · go_loopw [5, 14] (fun v i wr => ∃ (k : Nat), k + 1 ≤ l.length ∧ i = .int .i64 k ∧ v = .pointer (some ⟨nb (lastIx l k), 0, none⟩) ∧ Below w.heap.size w wr)
      (fun _ i _ => l.length - (intOf i).toNat)
    case atStart => exact ⟨0, by omega, rfl, rfl, Below.refl _ _⟩
    case round =>
      obtain ⟨k, hk, rfl, rfl, hb⟩ := hrel
      have hle := lastIx_le l k
      by_cases hlt : k + 1 < l.length
      · have HR : Hid (nb (lastIx l (k + 1)) = nb (laterOf l (lastIx l k) (k + 1))) := rfl
        have ck : wr.cell? ⟨g, 1 + k, none⟩ = some (.pointer (some ⟨nb (k + 1), 0, none⟩)) := by
          rw [Nat.add_comm 1 k, hb.cell (p := ⟨g, k + 1, none⟩) hg]
          exact HC.out (k + 1) hlt
        clear c0
        have hlt2 : (k : Int) < ((l.length - 1 : Nat) : Int) := by omega
        have hlt3 : decide (k < l.length - 1) = true := decide_eq_true (by omega)
        have hlt4 : k < l.length - 1 := by omega
        go_wp2_with fail
        refine (endingLast_any l nb HV.out (lastIx l k) (k + 1) (by omega) hlt _ (HN.out.placed.below hb)).mono ?_
        rintro e w1 ⟨rfl, hb1⟩
        have B1 := hb.trans (hb1.mono hb.size)
        clear hb hb1
        rw [← HR.out]
        go_wp2
        go_roundw
        case rel => exact ⟨k + 1, by omega, by go_num, rfl, B1⟩
        case measure => simp [intOf]; omega
      · obtain rfl : k = l.length - 1 := by omega
        go_wp2
        go_ret
        exact ⟨rfl, hb⟩

end Go.Proofs.YtdbddockmdkmeaaDoor
