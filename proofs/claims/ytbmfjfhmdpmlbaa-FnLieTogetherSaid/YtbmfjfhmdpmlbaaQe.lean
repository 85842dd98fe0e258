/- The program's LieTogether. -/
import Derived.Test.YtbmfjfhmdpmlbaaQb
namespace Go.Proofs.Ytbmfjfhmdpmlbaa
open Go.RowKit

set_option maxRecDepth 100000 in
set_option maxHeartbeats 1000000 in
theorem lieTogether_any (A : Option Addr) (l : List Seg) (c : Nat) (s t : ByteArray) (w : World) (hw : Segs w w.heap.size A l) (hl : l.length ≤ 1048576) (hlc : l.length ≤ c) (hcm : c ≤ 9223372036854775807) (hn : Short l) :
    Calls Try.prog 35 #[.slice A l.length c, .string s, .string t] w fun e w' => e = .returned (.bool (lieB l s t)) ∧ Below w.heap.size w w' := by
  have HW : Hid (Segs w w.heap.size A l) := hw
  clear hw
  cases hv : validB l with
  | false =>
    have HF : Hid (lieB l s t = false) := by
      have h1 : indexB l s = -1 := if_neg (by rw [hv]; decide)
      show lieB l s t = false
      unfold lieB comOk hasSeg
      rw [decide_eq_false (p := 0 ≤ indexB l s) (by omega)]
      rfl
    go_enter Try.func35, Try.ntmps35
    go_wp2_with fail
    refine (findTwo_bad _ _ _ _ _ _ HW.out hl hlc hcm hn hv).mono ?_
    rintro e w1 ⟨rfl, hb1⟩
    go_wp2
    go_ret
    exact ⟨ret_bool HF.out.symm, hb1⟩
  | true =>
    have hi1 : indexB l s = seek l s := if_pos hv
    have hi2 : indexB l t = seek l t := if_pos hv
    by_cases h1 : seek l s < 0
    · have HF : Hid (lieB l s t = false) := by
        show lieB l s t = false
        unfold lieB comOk hasSeg
        rw [decide_eq_false (p := 0 ≤ indexB l s) (by omega)]
        rfl
      have HP : Hid (∀ nb, foundPtr l nb s = none) := fun nb => if_pos h1
      clear h1 hi1 hi2
      go_enter Try.func35, Try.ntmps35
      go_wp2_with fail
      refine (findTwo_any _ _ _ _ _ _ HW.out hl hlc hcm hn hv).mono ?_
      rintro e w1 ⟨g, nb, cv, rfl, hN, hb1⟩
      rw [HP.out nb]
      clear hN
      go_wp2
      all_goals go_ret
      all_goals exact ⟨ret_bool HF.out.symm, hb1⟩
    · by_cases h2 : seek l t < 0
      · have HF : Hid (lieB l s t = false) := by
          show lieB l s t = false
          unfold lieB comOk hasSeg
          rw [decide_eq_false (p := 0 ≤ indexB l t) (by omega), Bool.and_false]
          rfl
        have HP : Hid (∀ nb, foundPtr l nb t = none) := fun nb => if_pos h2
        have HQ : Hid (∀ nb, foundPtr l nb s = some ⟨nb (seek l s).toNat, 0, none⟩) := fun nb => if_neg h1
        clear h1 h2 hi1 hi2
        go_enter Try.func35, Try.ntmps35
        go_wp2_with fail
        refine (findTwo_any _ _ _ _ _ _ HW.out hl hlc hcm hn hv).mono ?_
        rintro e w1 ⟨g, nb, cv, rfl, hN, hb1⟩
        rw [HP.out nb, HQ.out nb]
        clear hN
        go_wp2
        all_goals go_ret
        all_goals exact ⟨ret_bool HF.out.symm, hb1⟩
      · have HP : Hid (∀ nb, foundPtr l nb t = some ⟨nb (seek l t).toNat, 0, none⟩) := fun nb => if_neg h2
        have HQ : Hid (∀ nb, foundPtr l nb s = some ⟨nb (seek l s).toNat, 0, none⟩) := fun nb => if_neg h1
        have hF : lieB l s t = (decide ((seek l s).toNat ∈ rp l (seek l t).toNat) || decide ((seek l t).toNat ∈ rp l (seek l s).toNat)) := by
          unfold lieB comOk hasSeg
          rw [decide_eq_true (p := 0 ≤ indexB l s) (by omega), decide_eq_true (p := 0 ≤ indexB l t) (by omega)]
          unfold pathIx
          rw [hi1, hi2]
          rfl
        have hil : (seek l s).toNat < l.length := by rcases seek_bd l s with a | ⟨_, a⟩ <;> omega
        have hjl : (seek l t).toNat < l.length := by rcases seek_bd l t with a | ⟨_, a⟩ <;> omega
        have HF := Lib.hid hF
        have HV := Lib.hid hv
        clear h1 h2 hi1 hi2 hF hv
        generalize (seek l s).toNat = i at *
        generalize (seek l t).toNat = j at *
        cases h1 : decide (i ∈ rp l j) with
        | true =>
          have HF1 : Hid (lieB l s t = true) := by
            show _ = _
            rw [HF.out, h1]; rfl
          go_enter Try.func35, Try.ntmps35
          go_wp2_with fail
          refine (findTwo_any _ _ _ _ _ _ HW.out hl hlc hcm hn HV.out).mono ?_
          rintro e w1 ⟨g, nb, cv, rfl, hN, hb1⟩
          rw [HP.out nb, HQ.out nb]
          have HN := Lib.hid hN
          clear hN
          go_wp2_with fail
          refine (isOnPath_any _ _ i j _ _ _ _ HN.out HV.out hil hjl).mono ?_
          rw [h1]
          rintro e w2 ⟨rfl, hb2⟩
          have B2 := hb1.trans (hb2.mono hb1.size)
          clear hb1 hb2 h1
          go_wp2
          go_ret
          exact ⟨ret_bool HF1.out.symm, B2⟩
        | false =>
          have HF1 : Hid (lieB l s t = decide (j ∈ rp l i)) := by
            show _ = _
            rw [HF.out, h1]; rfl
          go_enter Try.func35, Try.ntmps35
          go_wp2_with fail
          refine (findTwo_any _ _ _ _ _ _ HW.out hl hlc hcm hn HV.out).mono ?_
          rintro e w1 ⟨g, nb, cv, rfl, hN, hb1⟩
          rw [HP.out nb, HQ.out nb]
          have HN := Lib.hid hN
          clear hN
          go_wp2_with fail
          refine (isOnPath_any _ _ i j _ _ _ _ HN.out HV.out hil hjl).mono ?_
          rw [h1]
          rintro e w2 ⟨rfl, hb2⟩
          have HN2 : Hid (Nodes w2 w.heap.size g l.length l.length l nb cv) := HN.out.below hb2
          have B2 := hb1.trans (hb2.mono hb1.size)
          clear hb1 hb2 h1
          go_wp2_with fail
          refine (isOnPath_any _ _ j i _ _ _ _ HN2.out HV.out hjl hil).mono ?_
          generalize hd : decide (j ∈ rp l i) = d
          have HD := Lib.hid hd
          clear hd
          rintro e w3 ⟨rfl, hb3⟩
          have B3 := B2.trans (hb3.mono B2.size)
          clear B2 hb3
          go_wp2
          go_ret
          exact ⟨ret_bool (by rw [HF1.out, HD.out]), B3⟩

end Go.Proofs.Ytbmfjfhmdpmlbaa
