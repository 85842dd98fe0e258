/- The model's side of rooms: Overlap, LongestPath, LiesAt. -/
import Derived.Test.YtbmfjfhmdpmlbaaLb
namespace Go.Proofs.Ytbmfjfhmdpmlbaa
open Go.RowKit

set_option maxRecDepth 100000 in
set_option maxHeartbeats 400000 in
theorem specOverlap_any (A : Option Addr) (l : List Seg) (c : Nat) (s t : ByteArray) (w : World) (hw : Segs w w.heap.size A l) (hl : l.length ≤ 1048576) (hn : Short l) :
    Calls Try.prog 38 #[.slice A l.length c, .string s, .string t] w fun e w' => e = .returned (.int .i64 (lapB l s t)) ∧ Below w.heap.size w w' := by
  have HW : Hid (Segs w w.heap.size A l) := hw
  clear hw
  by_cases h1 : indexB l s < 0
  · have HF : Hid (lapB l s t = -1) := if_pos (.inl h1)
    go_enter Try.func38, Try.ntmps38
    go_wp2_with fail
    refine (l1Index_any _ _ _ _ _ HW.out hl hn).mono ?_
    rintro e w1 ⟨rfl, hb1⟩
    go_wp2_with fail
    refine (l1Index_any _ _ _ _ _ ((HW.out.below hb1).more hb1.size) hl hn).mono ?_
    rintro e w2 ⟨rfl, hb2⟩
    have B2 := hb1.trans (hb2.mono hb1.size)
    clear hb1 hb2
    go_wp2
    go_ret
    exact ⟨ret_int HF.out.symm, B2⟩
  · by_cases h2 : indexB l t < 0
    · have HF : Hid (lapB l s t = -1) := if_pos (.inr h2)
      go_enter Try.func38, Try.ntmps38
      go_wp2_with fail
      refine (l1Index_any _ _ _ _ _ HW.out hl hn).mono ?_
      rintro e w1 ⟨rfl, hb1⟩
      go_wp2_with fail
      refine (l1Index_any _ _ _ _ _ ((HW.out.below hb1).more hb1.size) hl hn).mono ?_
      rintro e w2 ⟨rfl, hb2⟩
      have B2 := hb1.trans (hb2.mono hb1.size)
      clear hb1 hb2
      go_wp2
      all_goals go_ret
      all_goals exact ⟨ret_int HF.out.symm, B2⟩
    · have HV := Lib.hid (index_valid (show 0 ≤ indexB l s by omega))
      have hF : lapB l s t = max (min (endAt l (indexB l s).toNat) (endAt l (indexB l t).toNat) - max (begAt l (indexB l s).toNat) (begAt l (indexB l t).toNat)) 0 := by
        unfold lapB
        rw [if_neg (by omega)]
      have hil := index_lt (show 0 ≤ indexB l s by omega)
      have hjl := index_lt (show 0 ≤ indexB l t by omega)
      obtain ⟨i, hi⟩ := Int.eq_ofNat_of_zero_le (show 0 ≤ indexB l s by omega)
      obtain ⟨j, hj⟩ := Int.eq_ofNat_of_zero_le (show 0 ≤ indexB l t by omega)
      rw [hi, hj, Int.toNat_natCast, Int.toNat_natCast] at hF
      rw [hi, Int.toNat_natCast] at hil
      rw [hj, Int.toNat_natCast] at hjl
      have HF := Lib.hid hF
      have HI := Lib.hid hi
      have HJ := Lib.hid hj
      obtain ⟨b1, b2, b3⟩ := place_small HV.out hil
      obtain ⟨c1, c2, c3⟩ := place_small HV.out hjl
      have b4 : 0 ≤ endAt l i := by omega
      have b5 : begAt l i ≤ 792 := by omega
      have c4 : 0 ≤ endAt l j := by omega
      have c5 : begAt l j ≤ 792 := by omega
      clear h1 h2 hi hj hF b2 c2
      go_enter Try.func38, Try.ntmps38
      go_wp2_with fail
      refine (l1Index_any _ _ _ _ _ HW.out hl hn).mono ?_
      rw [HI.out]
      rintro e w1 ⟨rfl, hb1⟩
      go_wp2_with fail
      refine (l1Index_any _ _ _ _ _ ((HW.out.below hb1).more hb1.size) hl hn).mono ?_
      rw [HJ.out]
      rintro e w2 ⟨rfl, hb2⟩
      have B2 := hb1.trans (hb2.mono hb1.size)
      clear hb1 hb2
      go_wp2_with fail
      refine (l2End_any _ _ _ _ _ ((HW.out.below B2).more B2.size) HV.out hil).mono ?_
      rintro e w3 ⟨rfl, hb3⟩
      have B3 := B2.trans (hb3.mono B2.size)
      clear B2 hb3
      go_wp2_with fail
      refine (l2End_any _ _ _ _ _ ((HW.out.below B3).more B3.size) HV.out hjl).mono ?_
      rintro e w4 ⟨rfl, hb4⟩
      have B4 := B3.trans (hb4.mono B3.size)
      clear B3 hb4
      go_wp2_with fail
      refine (l2Address_any _ _ _ _ _ ((HW.out.below B4).more B4.size) HV.out hil).mono ?_
      rintro e w5 ⟨rfl, hb5⟩
      have B5 := B4.trans (hb5.mono B4.size)
      clear B4 hb5
      go_wp2_with fail
      refine (l2Address_any _ _ _ _ _ ((HW.out.below B5).more B5.size) HV.out hjl).mono ?_
      rintro e w6 ⟨rfl, hb6⟩
      have B6 := B5.trans (hb6.mono B5.size)
      clear B5 hb6
      by_cases k1 : endAt l i ≤ endAt l j <;> by_cases k2 : begAt l i ≤ begAt l j
      all_goals
        go_wp2
        all_goals go_ret
        all_goals exact ⟨ret_int HF.out.symm, B6⟩

theorem over_step {l : List Seg} {a : Int} {k : Nat} (hk : k < l.length) : namesAt l (overIx l a (k + 1)) = if holdsB l a k = true then namesAt l (overIx l a k) ++ l[k].name else namesAt l (overIx l a k) := by
  rw [overIx_succ]
  by_cases h : holdsB l a k = true
  · rw [if_pos h, if_pos h, namesAt_snoc _ hk]
  · rw [if_neg h, if_neg h, List.append_nil]

set_option maxRecDepth 100000 in
set_option maxHeartbeats 1000000 in
theorem specLies_any (A : Option Addr) (l : List Seg) (c : Nat) (a : Int) (w : World) (hw : Segs w w.heap.size A l) (hl : l.length ≤ 1048576) (hn : Short l) :
    Calls Try.prog 44 #[.slice A l.length c, .int .i64 a] w fun e w' => e = .returned (.tuple #[.string (overStr l a), .bool (overOk l a)]) ∧ Below w.heap.size w w' := by
  have HW : Hid (Segs w w.heap.size A l) := hw
  clear hw
  cases hv : validB l with
  | false =>
    have HF : Hid (overStr l a = ⟨#[]⟩ ∧ overOk l a = false) := ⟨if_neg (by rw [hv]; decide), by unfold overOk; rw [hv]; rfl⟩
    go_enter Try.func44, Try.ntmps44
    go_wp2_with fail
    refine (specTreeValid_any _ _ _ _ HW.out hl hn).mono ?_
    rw [hv]
    rintro e w1 ⟨rfl, hb1⟩
    go_wp2
    go_ret2
    exact ⟨ret_two HF.out.1.symm HF.out.2.symm, hb1⟩
  | true =>
    have HV := Lib.hid hv
    obtain ⟨r1, r2⟩ := roomTo_bd hv l.length (Nat.le_refl _)
    have hl8 := (valid_all hv).2.1
    have HO : Hid _ := valid_names hv
    cases hin : inB a 0 (roomTo l l.length - 1) with
    | false =>
      have hno : overOk l a = false := by
        unfold overOk
        unfold inB at hin
        rw [hv, Bool.true_and]
        rw [Bool.and_eq_false_iff, decide_eq_false_iff_not, decide_eq_false_iff_not] at hin ⊢
        omega
      have HF : Hid (overStr l a = ⟨#[]⟩ ∧ overOk l a = false) := ⟨overStr_no hno, hno⟩
      clear hno
      go_enter Try.func44, Try.ntmps44
      go_wp2_with fail
      refine (specTreeValid_any _ _ _ _ HW.out hl hn).mono ?_
      rw [hv]
      rintro e w1 ⟨rfl, hb1⟩
      clear hv
      go_wp2_with fail
      refine (l2Room_any _ _ _ _ ((HW.out.below hb1).more hb1.size) HV.out).mono ?_
      rintro e w2 ⟨rfl, hb2⟩
      have B2 := hb1.trans (hb2.mono hb1.size)
      clear hb1 hb2
      go_wp2_with fail
      refine (l1In_any _ _ _ _).mono ?_
      rw [hin]
      rintro e w3 ⟨rfl, rfl⟩
      clear hin
      go_wp2
      go_ret2
      exact ⟨ret_two HF.out.1.symm HF.out.2.symm, B2⟩
    | true =>
      have hyes : overOk l a = true := by
        unfold overOk
        unfold inB at hin
        rw [hv, Bool.true_and]
        rw [Bool.and_eq_true, decide_eq_true_iff, decide_eq_true_iff] at hin ⊢
        omega
      have HF : Hid (overStr l a = namesAt l (overIx l a l.length) ∧ overOk l a = true) := ⟨if_pos hv, hyes⟩
      clear hyes
      go_enter Try.func44, Try.ntmps44
      go_wp2_with fail
      refine (specTreeValid_any _ _ _ _ HW.out hl hn).mono ?_
      rw [hv]
      rintro e w1 ⟨rfl, hb1⟩
      clear hv
      go_wp2_with fail
      refine (l2Room_any _ _ _ _ ((HW.out.below hb1).more hb1.size) HV.out).mono ?_
      rintro e w2 ⟨rfl, hb2⟩
      have B2 := hb1.trans (hb2.mono hb1.size)
      clear hb1 hb2
      go_wp2_with fail
      refine (l1In_any _ _ _ _).mono ?_
      rw [hin]
      rintro e w3 ⟨rfl, rfl⟩
      clear hin r1 r2
      go_wp2
      go_loopw [6, 22] (fun s i wr => ∃ k : Nat, k ≤ l.length ∧ i = .int .i64 k ∧ s = .string (namesAt l (overIx l a k)) ∧ Below w.heap.size w wr) (fun _ i _ => l.length - (intOf i).toNat)
      case atStart => exact ⟨0, Nat.zero_le _, rfl, rfl, B2⟩
      case round =>
        obtain ⟨k, hk, rfl, rfl, hb⟩ := hrel
        clear B2
        by_cases hlt : k < l.length
        · obtain ⟨b, o, rfl, hB, hc⟩ := HW.out (by omega)
          obtain ⟨c0, c1, c2⟩ := hc k l[k] (List.getElem?_eq_getElem hlt)
          clear hc
          rw [← hb.cell hB] at c0 c1 c2
          have HQ : Hid _ := over_step (a := a) hlt
          have hlen : (namesAt l (overIx l a k)).size ≤ 8 := Nat.le_trans (namesAt_len HO.out _) (by have := overIx_len l a k; omega)
          have hx1 := HO.out l[k] (List.getElem_mem hlt)
          generalize l[k] = x at *
          have hlt' : (k : Int) < (l.length : Int) := by omega
          have hG : ∀ {W : World}, Below w.heap.size w W → Below w.heap.size w (W.alloc (.cells #[.string x.name, .int .i64 x.size, .int .i64 x.par] 78)) := fun h => h.alloc h.size _
          have hbG := hG hb
          clear hG
          have hR : Row (wr.alloc (.cells #[.string x.name, .int .i64 x.size, .int .i64 x.par] 78)) wr.heap.size 78 #[.string x.name, .int .i64 x.size, .int .i64 x.par] := Row.new _ _ _
          have hRl := hR.lt
          go_wp2_with fail
          refine (l2Address_any _ _ _ _ _ ((HW.out.below hbG).more hbG.size) HV.out hlt).mono ?_
          rintro e w4 ⟨rfl, hb4⟩
          have B4 := hbG.trans (hb4.mono hbG.size)
          have hR4 := hR.below hb4 hRl
          clear hbG hb4 hR c0 c1 c2
          by_cases h1 : begAt l k ≤ a
          · go_wp2_with fail
            refine (l2End_any _ _ _ _ _ ((HW.out.below B4).more B4.size) HV.out hlt).mono ?_
            rintro e w5 ⟨rfl, hb5⟩
            have B5 := B4.trans (hb5.mono B4.size)
            have hR5 := hR4.below hb5 hR4.lt
            have e0 : w5.cell? ⟨wr.heap.size, 0, none⟩ = some (.string x.name) := hR5.cell 0
            clear B4 hb5 hR4 hR5
            by_cases h2 : a < endAt l k
            · have HR : Hid (namesAt l (overIx l a (k + 1)) = namesAt l (overIx l a k) ++ x.name) := by
                show _ = _
                rw [HQ.out, if_pos]
                unfold holdsB
                rw [decide_eq_true h1, decide_eq_true h2]; rfl
              clear HQ
              go_wp2
              go_roundw
              case rel => exact ⟨k + 1, by omega, by go_num, by rw [HR.out], B5⟩
              case measure => simp [intOf]; omega
            · have HR : Hid (namesAt l (overIx l a (k + 1)) = namesAt l (overIx l a k)) := by
                show _ = _
                rw [HQ.out, if_neg]
                unfold holdsB
                rw [decide_eq_true h1, decide_eq_false h2]; decide
              clear HQ
              go_wp2
              go_roundw
              case rel => exact ⟨k + 1, by omega, by go_num, by rw [HR.out], B5⟩
              case measure => simp [intOf]; omega
          · have HR : Hid (namesAt l (overIx l a (k + 1)) = namesAt l (overIx l a k)) := by
              show _ = _
              rw [HQ.out, if_neg]
              unfold holdsB
              rw [decide_eq_false h1]; exact Bool.false_ne_true
            clear HQ
            have h1' : decide (begAt l k ≤ a) = false := decide_eq_false h1
            go_wp2
            go_roundw
            case rel => exact ⟨k + 1, by omega, by go_num, by rw [HR.out], B4⟩
            case measure => simp [intOf]; omega
        · obtain rfl : k = l.length := by omega
          go_wp2
          go_ret2
          exact ⟨ret_two HF.out.1.symm HF.out.2.symm, hb⟩

end Go.Proofs.Ytbmfjfhmdpmlbaa
