/- The program's rooms: RoomOf, SavedRoom, Overlap. -/
import Derived.Test.YtbmfjfhmdpmlbaaPd
import Derived.Test.YtbmfjfhmdpmlbaaEr
namespace Go.Proofs.Ytbmfjfhmdpmlbaa
open Go.RowKit

set_option maxRecDepth 100000 in
set_option maxHeartbeats 400000 in
theorem roomOf_any (A : Option Addr) (l : List Seg) (c : Nat) (w : World) (hw : Segs w w.heap.size A l) (hl : l.length ≤ 1048576) (hlc : l.length ≤ c) (hcm : c ≤ 9223372036854775807) (hn : Short l) :
    Calls Try.prog 48 #[.slice A l.length c] w fun e w' => e = .returned (.int .i64 (roomB l)) ∧ Below w.heap.size w w' := by
  have HW : Hid (Segs w w.heap.size A l) := hw
  clear hw
  have hnil := fun (W : World) (a : Option Addr) (n c : Nat) => Lib.run_eql_slice_nil (P := Try.prog) W 65 63 a n c 0 0 Try.underlying65
  cases hv : validB l with
  | false =>
    have HF : Hid (roomB l = -1) := if_neg (by rw [hv]; decide)
    go_enter Try.func48, Try.ntmps48
    go_wp2_with fail
    refine (nodesOf_bad _ _ _ _ HW.out hl hlc hcm hn hv).mono ?_
    rintro e w1 ⟨rfl, hb1⟩
    go_wp2
    go_ret
    exact ⟨ret_int HF.out.symm, hb1⟩
  | true =>
    have h0 := (valid_all hv).2.2
    have hle := lastIx_le l (l.length - 1)
    have HL : Hid (lastIx l (l.length - 1) < l.length) := show _ < _ by omega
    have HF : Hid (roomB l = endAt l (lastIx l (l.length - 1))) := by
      have h1 : roomB l = roomTo l l.length := if_pos hv
      have h2 := lastIx_room hv (l.length - 1) (by omega)
      rw [show l.length - 1 + 1 = l.length by omega] at h2
      exact h1.trans h2.symm
    have HV := Lib.hid hv
    clear hv hle
    have hfld := run_end
    go_enter Try.func48, Try.ntmps48
    go_wp2_with fail
    refine (nodesOf_any _ _ _ _ HW.out hl hlc hcm hn HV.out).mono ?_
    rintro e w1 ⟨g, nb, cv, rfl, hN, hb1⟩
    have HN := Lib.hid hN
    clear hN
    go_wp2_with fail
    refine (fold_any _ _ _ _ _ _ HN.out HV.out).mono ?_
    rintro e w2 ⟨rfl, hb2⟩
    have B2 := hb1.trans (hb2.mono hb1.size)
    go_wp2_with fail
    refine (place_any l nb HV.out _ HL.out _ (HN.out.placed.below hb2)).mono ?_
    rintro e w3 ⟨rfl, hb3⟩
    have B3 := B2.trans (hb3.mono B2.size)
    clear hb1 hb2 B2 hb3
    go_wp2
    go_ret
    exact ⟨ret_int HF.out.symm, B3⟩

set_option maxRecDepth 100000 in
set_option maxHeartbeats 400000 in
theorem findTwo_bad (A : Option Addr) (l : List Seg) (c : Nat) (s t : ByteArray) (w : World) (hw : Segs w w.heap.size A l) (hl : l.length ≤ 1048576) (hlc : l.length ≤ c) (hcm : c ≤ 9223372036854775807) (hn : Short l) (hv : validB l = false) :
    Calls Try.prog 97 #[.slice A l.length c, .string s, .string t] w fun e w' => e = .returned (.tuple #[.pointer none, .pointer none]) ∧ Below w.heap.size w w' := by
  have HW : Hid (Segs w w.heap.size A l) := hw
  clear hw
  go_enter Try.func97, Try.ntmps97
  go_wp2_with fail
  refine (nodesOf_bad _ _ _ _ HW.out hl hlc hcm hn hv).mono ?_
  rintro e w1 ⟨rfl, hb1⟩
  go_wp2_with fail
  refine (findNode_nil _ _).mono ?_
  rintro e w2 ⟨rfl, rfl⟩
  go_wp2_with fail
  refine (findNode_nil _ _).mono ?_
  rintro e w2 ⟨rfl, rfl⟩
  go_wp2
  go_ret2
  exact ⟨rfl, hb1⟩

/-- What is behind findTwo where the tree is valid. -/
def TwoPost (w : World) (l : List Seg) (s t : ByteArray) (e : Ending) (w' : World) : Prop :=
  ∃ g nb cv, e = .returned (.tuple #[.pointer (foundPtr l nb s), .pointer (foundPtr l nb t)]) ∧ Nodes w' w.heap.size g l.length l.length l nb cv ∧ Below w.heap.size w w'

set_option maxRecDepth 100000 in
set_option maxHeartbeats 400000 in
theorem findTwo_any (A : Option Addr) (l : List Seg) (c : Nat) (s t : ByteArray) (w : World) (hw : Segs w w.heap.size A l) (hl : l.length ≤ 1048576) (hlc : l.length ≤ c) (hcm : c ≤ 9223372036854775807) (hn : Short l) (hv : validB l = true) :
    Calls Try.prog 97 #[.slice A l.length c, .string s, .string t] w (TwoPost w l s t) := by
  have HW : Hid (Segs w w.heap.size A l) := hw
  clear hw
  go_enter Try.func97, Try.ntmps97
  go_wp2_with fail
  refine (nodesOf_any _ _ _ _ HW.out hl hlc hcm hn hv).mono ?_
  rintro e w1 ⟨g, nb, cv, rfl, hN, hb1⟩
  have HN := Lib.hid hN
  clear hN
  go_wp2_with fail
  refine (findNode_any _ _ _ _ _ _ _ HN.out hl).mono ?_
  rintro e w2 ⟨rfl, rfl⟩
  go_wp2_with fail
  refine (findNode_any _ _ _ _ _ _ _ HN.out hl).mono ?_
  rintro e w2 ⟨rfl, rfl⟩
  go_wp2
  go_ret2
  exact ⟨g, nb, cv, rfl, HN.out, hb1⟩

set_option maxRecDepth 100000 in
set_option maxHeartbeats 400000 in
theorem shared_any (a b x y : Int) (w : World) (ha : 0 ≤ a) (ha' : a ≤ 792) (hb : 0 ≤ b) (hb' : b ≤ 792) (hx : 0 ≤ x) (hx' : x ≤ 792) (hy : 0 ≤ y) (hy' : y ≤ 792) :
    Calls Try.prog 100 #[.agg #[.int .i64 a, .int .i64 b], .agg #[.int .i64 x, .int .i64 y]] w fun e w' => e = .returned (.int .i64 (max (min b y - max a x) 0)) ∧ Below w.heap.size w w' := by
  have HB : Below w.heap.size w ((w.alloc (.cells #[.int .i64 a, .int .i64 b] 88)).alloc (.cells #[.int .i64 x, .int .i64 y] 88)) := ((Below.refl _ _).alloc (Nat.le_refl _) _).alloc (by simp) _
  by_cases h1 : b ≤ y <;> by_cases h2 : a ≤ x
  all_goals
    go_enter Try.func100, Try.ntmps100
    go_wp2
    all_goals go_ret
    all_goals exact ⟨ret_int (by omega), HB⟩

set_option maxRecDepth 100000 in
set_option maxHeartbeats 400000 in
theorem overlap_any (A : Option Addr) (l : List Seg) (c : Nat) (s t : ByteArray) (w : World) (hw : Segs w w.heap.size A l) (hl : l.length ≤ 1048576) (hlc : l.length ≤ c) (hcm : c ≤ 9223372036854775807) (hn : Short l) :
    Calls Try.prog 36 #[.slice A l.length c, .string s, .string t] w fun e w' => e = .returned (.int .i64 (lapB l s t)) ∧ Below w.heap.size w w' := by
  have HW : Hid (Segs w w.heap.size A l) := hw
  clear hw
  cases hv : validB l with
  | false =>
    have HF : Hid (lapB l s t = -1) := by
      have h1 : indexB l s = -1 := if_neg (by rw [hv]; decide)
      exact if_pos (.inl (by omega))
    go_enter Try.func36, Try.ntmps36
    go_wp2_with fail
    refine (findTwo_bad _ _ _ _ _ _ HW.out hl hlc hcm hn hv).mono ?_
    rintro e w1 ⟨rfl, hb1⟩
    go_wp2
    go_ret
    exact ⟨ret_int HF.out.symm, hb1⟩
  | true =>
    have hi1 : indexB l s = seek l s := if_pos hv
    have hi2 : indexB l t = seek l t := if_pos hv
    by_cases h1 : seek l s < 0
    · have HF : Hid (lapB l s t = -1) := if_pos (.inl (by omega))
      have HP : Hid (∀ nb, foundPtr l nb s = none) := fun nb => if_pos h1
      clear h1 hi1 hi2
      go_enter Try.func36, Try.ntmps36
      go_wp2_with fail
      refine (findTwo_any _ _ _ _ _ _ HW.out hl hlc hcm hn hv).mono ?_
      rintro e w1 ⟨g, nb, cv, rfl, hN, hb1⟩
      rw [HP.out nb]
      clear hN
      go_wp2
      all_goals go_ret
      all_goals exact ⟨ret_int HF.out.symm, hb1⟩
    · by_cases h2 : seek l t < 0
      · have HF : Hid (lapB l s t = -1) := if_pos (.inr (by omega))
        have HP : Hid (∀ nb, foundPtr l nb t = none) := fun nb => if_pos h2
        have HQ : Hid (∀ nb, foundPtr l nb s = some ⟨nb (seek l s).toNat, 0, none⟩) := fun nb => if_neg h1
        clear h1 h2 hi1 hi2
        go_enter Try.func36, Try.ntmps36
        go_wp2_with fail
        refine (findTwo_any _ _ _ _ _ _ HW.out hl hlc hcm hn hv).mono ?_
        rintro e w1 ⟨g, nb, cv, rfl, hN, hb1⟩
        rw [HP.out nb, HQ.out nb]
        clear hN
        go_wp2
        all_goals go_ret
        all_goals exact ⟨ret_int HF.out.symm, hb1⟩
      · have hP : ∀ nb, foundPtr l nb t = some ⟨nb (seek l t).toNat, 0, none⟩ := fun nb => if_neg h2
        have hQ : ∀ nb, foundPtr l nb s = some ⟨nb (seek l s).toNat, 0, none⟩ := fun nb => if_neg h1
        have hF : lapB l s t = max (min (endAt l (seek l s).toNat) (endAt l (seek l t).toNat) - max (begAt l (seek l s).toNat) (begAt l (seek l t).toNat)) 0 := by
          unfold lapB
          rw [hi1, hi2, if_neg (by omega)]
        have hil : (seek l s).toNat < l.length := by rcases seek_bd l s with a | ⟨_, a⟩ <;> omega
        have hjl : (seek l t).toNat < l.length := by rcases seek_bd l t with a | ⟨_, a⟩ <;> omega
        generalize (seek l s).toNat = i at *
        generalize (seek l t).toNat = j at *
        have HP := Lib.hid hP
        have HQ := Lib.hid hQ
        have HF := Lib.hid hF
        obtain ⟨b1, b2, b3⟩ := place_small hv hil
        obtain ⟨c1, c2, c3⟩ := place_small hv hjl
        have HV := Lib.hid hv
        have b4 : 0 ≤ endAt l i := by omega
        have b5 : begAt l i ≤ 792 := by omega
        have c4 : 0 ≤ endAt l j := by omega
        have c5 : begAt l j ≤ 792 := by omega
        clear h1 h2 hi1 hi2 hP hQ hF hv b2 c2
        go_enter Try.func36, Try.ntmps36
        go_wp2_with fail
        refine (findTwo_any _ _ _ _ _ _ HW.out hl hlc hcm hn HV.out).mono ?_
        rintro e w1 ⟨g, nb, cv, rfl, hN, hb1⟩
        rw [HP.out nb, HQ.out nb]
        have HN := Lib.hid hN
        clear hN
        go_wp2_with fail
        refine (place_any l nb HV.out i hil _ HN.out.placed).mono ?_
        rintro e w2 ⟨rfl, hb2⟩
        have B2 := hb1.trans (hb2.mono hb1.size)
        go_wp2_with fail
        refine (place_any l nb HV.out j hjl _ (HN.out.placed.below hb2)).mono ?_
        rintro e w3 ⟨rfl, hb3⟩
        have B3 := B2.trans (hb3.mono B2.size)
        clear hb1 hb2 B2 hb3
        go_wp2_with fail
        refine (shared_any _ _ _ _ _ b1 b5 b4 b3 c1 c5 c4 c3).mono ?_
        rintro e w4 ⟨rfl, hb4⟩
        have B4 := B3.trans (hb4.mono B3.size)
        clear B3 hb4
        go_wp2
        go_ret
        exact ⟨ret_int HF.out.symm, B4⟩

end Go.Proofs.Ytbmfjfhmdpmlbaa
