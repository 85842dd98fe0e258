/- Joined: La Lb Qa Pc Pd Pe Qc. -/
import Derived.Test.YtdbddockmdkmeaaDoorU06
import Derived.IntWalk
import Derived.Test.YtdbddockmdkmeaaDoorU05
/- The model's side of rooms: where segments begin and end. -/
namespace Go.Proofs.YtdbddockmdkmeaaDoor
open Go.RowKit

theorem szsNot_take {l : List Seg} {i : Nat} {js : List Nat} {k : Nat} (hk : k < js.length) : szsNot l i (js.take (k + 1)) = szsNot l i (js.take k) + if js[k] = i then 0 else sizeAt l js[k] := by
  rw [List.take_succ_eq_append_getElem hk, szsNot_append]
  simp [szsNot]

theorem run_add_op {P : Program} {ρ : Operand → Value} {o : Oper} {x y : Operand} {t u : TypeId} {A B C : Int} (ho : o.op = .binOp .add t x y u) (hx : ρ x = .int .i64 A) (hy : ρ y = .int .i64 B) (hC : IntKind.i64.wrap (A + B) = C) (w : World) :
    (execOp ρ o).run P w = .ok (.value (.int .i64 C)) w := by
  unfold execOp
  rw [ho]
  subst hC
  simp [hx, hy, go_sem]

set_option maxRecDepth 100000 in
set_option maxHeartbeats 400000 in
theorem l2Address_any (A : Option Addr) (l : List Seg) (c i : Nat) (w : World) (hw : Segs w w.heap.size A l) (hv : validB l = true) (hi : i < l.length) :
    Calls Tryd.prog 85 #[.slice A l.length c, .int .i64 i] w fun e w' => e = .returned (.int .i64 (begAt l i)) ∧ Below w.heap.size w w' := by
  have HW : Hid (Segs w w.heap.size A l) := hw
  have HV := Lib.hid hv
  have HD : Hid (Down l l.length) := (valid_all hv).1.down
  have hl8 := (valid_all hv).2.1
  have HP : Hid (pathOf l i = (rp l i).map fun j : Nat => (j : Int)) := rootPath_chain HD.out (i + 1) i hi (by omega)
  have HJ : Hid (∀ j ∈ rp l i, j < l.length) := rootPath_lt HD.out (i + 1) i hi
  have hz : (rp l i).length ≤ i + 1 := rootPath_len l (i + 1) i
  have HE : Hid (szsNot l i (rp l i) = begAt l i) := szsNot_rp HD.out hi
  clear hw hv
  go_enter Tryd.func85, Tryd.ntmps85
  go_wp2_with fail
  refine (l1Path_any _ _ _ _ _ HW.out (by omega) hi (HD.out.mono (by omega))).mono ?_
  rw [HP.out]
  rintro e w1 ⟨g, cap, rfl, hown, hb1⟩
  rw [List.length_map] at hown ⊢
  have HO := Lib.hid hown
  clear hown HP
  generalize rp l i = js at *
  go_wp2
  go_loop [5, 12] (fun s i' => ∃ (k : Nat), k ≤ js.length ∧ i' = .int .i64 k ∧ s = .int .i64 (szsNot l i (js.take k)))
    (fun _ i' => js.length - (intOf i').toNat)
  case atStart => exact ⟨0, Nat.zero_le _, rfl, rfl⟩
  case round =>
    obtain ⟨k, hk, rfl, rfl⟩ := hrel
    by_cases hlt : k < js.length
    · have hj := HJ.out js[k] (List.getElem_mem hlt)
      have hc : w1.cell? ⟨g, k, none⟩ = some (.int .i64 (js[k] : Int)) := by
        rw [HO.out.cellAt k (by omega)]
        simp [hlt]
      obtain ⟨b, o, rfl, hB, hc'⟩ := HW.out (by omega)
      obtain ⟨c0, c1, c2⟩ := hc' js[k] l[js[k]] (List.getElem?_eq_getElem hj)
      clear hc' c0 c2
      rw [← hb1.cell hB, ← sizeAt_of hj] at c1
      have HQ : Hid _ := szsNot_take (l := l) (i := i) hlt
      have hb0 := szsNot_bd HV.out i (js.take k) (fun j hj => HJ.out j (List.mem_of_mem_take hj))
      have hb0' : 0 ≤ szsNot l i (js.take k) ∧ szsNot l i (js.take k) ≤ 792 := by rw [List.length_take] at hb0; omega
      obtain ⟨n1, n2⟩ := hb0'
      obtain ⟨z1, z2⟩ := sizeAt_bd HV.out hj
      have hj0 : (0 : Int) ≤ (js[k] : Int) := Int.natCast_nonneg _
      have hj1 : (js[k] : Int) < (l.length : Int) := by omega
      clear hb0
      generalize js[k] = j at *
      generalize szsNot l i (js.take k) = n at *
      generalize sizeAt l j = sz at *
      by_cases he : j = i
      · have ht : ((j : Int) != (i : Int)) = false := by rw [he]; simp
        have HR : Hid (szsNot l i (js.take (k + 1)) = n) := by
          show _ = _
          rw [HQ.out, if_pos he, Int.add_zero]
        clear he HQ
        go_wp2
        go_round
        case rel => exact ⟨k + 1, by omega, by go_num, by rw [HR.out]⟩
        case measure => simp [intOf]; omega
      · have ht : ((j : Int) != (i : Int)) = true := by rw [bne_iff_ne]; omega
        have HR : Hid (szsNot l i (js.take (k + 1)) = n + sz) := by
          show _ = _
          rw [HQ.out, if_neg he]
        clear he HQ
        go_wp2
        go_round
        case rel => exact ⟨k + 1, by omega, by go_num, by rw [HR.out]⟩
        case measure => simp [intOf]; omega
    · obtain rfl : k = js.length := by omega
      go_wp2
      go_ret
      exact ⟨ret_int HE.out, hb1⟩

set_option maxRecDepth 100000 in
set_option maxHeartbeats 400000 in
theorem l2End_any (A : Option Addr) (l : List Seg) (c i : Nat) (w : World) (hw : Segs w w.heap.size A l) (hv : validB l = true) (hi : i < l.length) :
    Calls Tryd.prog 76 #[.slice A l.length c, .int .i64 i] w fun e w' => e = .returned (.int .i64 (endAt l i)) ∧ Below w.heap.size w w' := by
  have HW : Hid (Segs w w.heap.size A l) := hw
  have HV := Lib.hid hv
  have HE : Hid (begAt l i + sizeAt l i = endAt l i) := (endAt_beg l i).symm
  have hl8 := (valid_all hv).2.1
  obtain ⟨n1, n2, n3⟩ := place_small hv hi
  obtain ⟨z1, z2⟩ := sizeAt_bd hv hi
  obtain ⟨b, o, rfl, hB, hc⟩ := hw (by omega)
  obtain ⟨c0, c1, c2⟩ := hc i l[i] (List.getElem?_eq_getElem hi)
  rw [← sizeAt_of hi] at c1
  clear hc c0 c2 hv hw
  have hn : begAt l i ≤ 792 := by omega
  clear n2 n3
  go_enter Tryd.func76, Tryd.ntmps76
  go_wp2_with fail
  have hi0 : (0 : Int) ≤ (i : Int) := Int.natCast_nonneg _
  have hi1 : (i : Int) < (l.length : Int) := by omega
  refine wp_region_held_drew (S := (fun w' => w'.cell? ⟨b, o + i * 3 + 1, none⟩ = some (.int .i64 (sizeAt l i)) ∧ Below w.heap.size w w')) (by kernel_rfl) ?_ (fun hHeld => ?_)
  · exact ⟨c1, (Below.refl _ _).drew⟩
  refine take_at (i := 0) (d := 5) (v := .slice (some ⟨b, o, none⟩) l.length c) rfl rfl (by kernel_rfl) (by kernel_rfl) (by kernel_rfl) (fun _ _ _ h => h) (by kernel_rfl) (by (intro w hSw; (try dsimp only at hSw); go_simp)) (by assumption) ?_
  simp only [List.setIfInBounds_toArray, List.set_cons_succ, List.set_cons_zero]
  refine take_at (i := 1) (d := 6) (v := .int .i64 i) rfl rfl (by kernel_rfl) (by kernel_rfl) (by kernel_rfl) (fun _ _ _ h => h) (by kernel_rfl) (by (intro w hSw; (try dsimp only at hSw); go_simp)) (by assumption) ?_
  simp only [List.setIfInBounds_toArray, List.set_cons_succ, List.set_cons_zero]
  refine take_at (i := 3) (d := 8) (v := .slice (some ⟨b, o, none⟩) l.length c) rfl rfl (by kernel_rfl) (by kernel_rfl) (by kernel_rfl) (fun _ _ _ h => h) (by kernel_rfl) (by (intro w hSw; (try dsimp only at hSw); go_simp)) (by assumption) ?_
  simp only [List.setIfInBounds_toArray, List.set_cons_succ, List.set_cons_zero]
  refine take_at (i := 4) (d := 9) (v := .int .i64 i) rfl rfl (by kernel_rfl) (by kernel_rfl) (by kernel_rfl) (fun _ _ _ h => h) (by kernel_rfl) (by (intro w hSw; (try dsimp only at hSw); go_simp)) (by assumption) ?_
  simp only [List.setIfInBounds_toArray, List.set_cons_succ, List.set_cons_zero]
  refine take_at (i := 5) (d := 10) (v := .pointer (some ⟨b, o + i * 3, none⟩)) rfl rfl (by kernel_rfl) (by kernel_rfl) (by kernel_rfl) (fun _ _ _ h => h) (by kernel_rfl) (by (intro w hSw; (try dsimp only at hSw); go_simp)) (by assumption) ?_
  simp only [List.setIfInBounds_toArray, List.set_cons_succ, List.set_cons_zero]
  refine take_at (i := 6) (d := 11) (v := .pointer (some ⟨b, o + i * 3 + 1, none⟩)) rfl rfl (by kernel_rfl) (by kernel_rfl) (by kernel_rfl) (fun _ _ _ h => h) (by kernel_rfl) (by (intro w hSw; (try dsimp only at hSw); go_simp)) (by assumption) ?_
  simp only [List.setIfInBounds_toArray, List.set_cons_succ, List.set_cons_zero]
  refine take_at (i := 7) (d := 12) (v := .int .i64 (sizeAt l i)) rfl rfl (by kernel_rfl) (by kernel_rfl) (by kernel_rfl) (fun _ _ _ h => h) (by kernel_rfl) (by (intro w hSw; (try dsimp only at hSw); go_simp)) (by assumption) ?_
  simp only [List.setIfInBounds_toArray, List.set_cons_succ, List.set_cons_zero]
  refine wpAnyH_ready (rs := [2]) (by kernel_rfl) (by simp) ?_
  refine AllReadyH.cons rfl (fun K hK => ?_) AllReadyH.nil
  go_simp
  refine (l2Address_any _ _ _ _ _ ((HW.out.below hHeld.2).more hHeld.2.size) HV.out hi).mono ?_
  rintro e w2 ⟨rfl, hb2⟩
  have hs2 : w2.cell? ⟨b, o + i * 3 + 1, none⟩ = some (.int .i64 (sizeAt l i)) ∧ Below w.heap.size w w2 := ⟨(hb2.cell (p := ⟨b, o + i * 3 + 1, none⟩) (Nat.lt_of_lt_of_le hB hHeld.2.size)).trans hHeld.1, hHeld.2.trans (hb2.mono hHeld.2.size)⟩
  clear hb2 hHeld
  refine hK.out _ _ hs2 (fun hHeld => ?_)
  clear hK K hs2
  refine take_at (i := 8) (d := 13) (v := .int .i64 (begAt l i + sizeAt l i)) rfl rfl (by kernel_rfl) (by kernel_rfl) (by kernel_rfl) (fun _ _ _ h => h) (by kernel_rfl) (fun _ _ => run_add_op rfl rfl rfl (IntWalk.i64_in _ (by omega)) _) (by assumption) ?_
  simp only [List.setIfInBounds_toArray, List.set_cons_succ, List.set_cons_zero]
  refine take_at (i := 9) (d := 4) (v := .int .i64 (begAt l i + sizeAt l i)) rfl rfl (by kernel_rfl) (by kernel_rfl) (by kernel_rfl) (fun _ _ _ h => h) (by kernel_rfl) (by (intro w hSw; (try dsimp only at hSw); go_simp)) (by assumption) ?_
  simp only [List.setIfInBounds_toArray, List.set_cons_succ, List.set_cons_zero]
  refine wpAnyH_done (by kernel_rfl) ?_ _
  have hb3 := hHeld.2
  clear hHeld
  go_wp2
  go_ret
  exact ⟨ret_int HE.out, hb3⟩

end Go.Proofs.YtdbddockmdkmeaaDoor
/- The model's side of rooms: the whole room, what is saved, who lies together. -/
namespace Go.Proofs.YtdbddockmdkmeaaDoor
open Go.RowKit

set_option maxRecDepth 100000 in
set_option maxHeartbeats 400000 in
theorem l2Room_any (A : Option Addr) (l : List Seg) (c : Nat) (w : World) (hw : Segs w w.heap.size A l) (hv : validB l = true) :
    Calls Tryd.prog 77 #[.slice A l.length c] w fun e w' => e = .returned (.int .i64 (roomTo l l.length)) ∧ Below w.heap.size w w' := by
  have HW : Hid (Segs w w.heap.size A l) := hw
  have HV := Lib.hid hv
  have hl8 := (valid_all hv).2.1
  clear hw hv
  go_enter Tryd.func77, Tryd.ntmps77
  go_wp2
  go_loopw [3, 7] (fun s i wr => ∃ (k : Nat) (n : Int), k ≤ l.length ∧ i = .int .i64 k ∧ s = .int .i64 n ∧ Hid (roomTo l k = n) ∧ Below w.heap.size w wr)
    (fun _ i _ => l.length - (intOf i).toNat)
  case atStart => exact ⟨0, 0, Nat.zero_le _, rfl, rfl, rfl, Below.refl _ _⟩
  case round =>
    obtain ⟨k, n, hk, rfl, rfl, HN, hb⟩ := hrel
    by_cases hlt : k < l.length
    · have HR : Hid (roomTo l (k + 1) = max n (endAt l k)) := by
        show _ = _
        rw [roomTo, HN.out]
      obtain ⟨n1, n2, n3⟩ := place_small HV.out hlt
      have hr := roomTo_bd HV.out k hk
      rw [HN.out] at hr
      obtain ⟨r1, r2⟩ := hr
      have he0 : 0 ≤ endAt l k := by omega
      clear n1 n2 HN
      go_wp2_with fail
      refine (l2End_any _ _ _ _ _ ((HW.out.below hb).more hb.size) HV.out hlt).mono ?_
      rintro e w1 ⟨rfl, hb1⟩
      have B1 := hb.trans (hb1.mono hb.size)
      clear hb hb1
      generalize endAt l k = en at *
      go_wp2
      all_goals go_roundw
      all_goals first
        | exact ⟨k + 1, _, by omega, by go_num, rfl, by rw [HR.out]; omega, B1⟩
        | exact ⟨k + 1, _, by omega, by go_num, rfl, HR, B1⟩
        | (simp [intOf]; omega)
    · obtain rfl : k = l.length := by omega
      go_wp2
      go_ret
      exact ⟨ret_int HN.out.symm, hb⟩

set_option maxRecDepth 100000 in
set_option maxHeartbeats 400000 in
theorem specRoom_any (A : Option Addr) (l : List Seg) (c : Nat) (w : World) (hw : Segs w w.heap.size A l) (hl : l.length ≤ 1048576) (hn : Short l) :
    Calls Tryd.prog 26 #[.slice A l.length c] w fun e w' => e = .returned (.int .i64 (roomB l)) ∧ Below w.heap.size w w' := by
  have HW : Hid (Segs w w.heap.size A l) := hw
  clear hw
  cases hv : validB l with
  | false =>
    have HF : Hid (roomB l = -1) := if_neg (by rw [hv]; decide)
    go_enter Tryd.func26, Tryd.ntmps26
    go_wp2_with fail
    refine (specTreeValid_any _ _ _ _ HW.out hl hn).mono ?_
    rw [hv]
    rintro e w1 ⟨rfl, hb1⟩
    go_wp2
    go_ret
    exact ⟨ret_int HF.out.symm, hb1⟩
  | true =>
    have HF : Hid (roomB l = roomTo l l.length) := if_pos hv
    go_enter Tryd.func26, Tryd.ntmps26
    go_wp2_with fail
    refine (specTreeValid_any _ _ _ _ HW.out hl hn).mono ?_
    rw [hv]
    rintro e w1 ⟨rfl, hb1⟩
    have HV := Lib.hid hv
    clear hv
    go_wp2_with fail
    refine (l2Room_any _ _ _ _ ((HW.out.below hb1).more hb1.size) HV.out).mono ?_
    rintro e w2 ⟨rfl, hb2⟩
    have B2 := hb1.trans (hb2.mono hb1.size)
    clear hb1 hb2
    go_wp2
    go_ret
    exact ⟨ret_int HF.out.symm, B2⟩

set_option maxRecDepth 100000 in
set_option maxHeartbeats 400000 in
theorem specSaved_any (A : Option Addr) (l : List Seg) (c : Nat) (w : World) (hw : Segs w w.heap.size A l) (hl : l.length ≤ 1048576) (hn : Short l) :
    Calls Tryd.prog 27 #[.slice A l.length c] w fun e w' => e = .returned (.int .i64 (savedB l)) ∧ Below w.heap.size w w' := by
  have HW : Hid (Segs w w.heap.size A l) := hw
  clear hw
  cases hv : validB l with
  | false =>
    have HF : Hid (savedB l = -1) := if_neg (by rw [hv]; decide)
    go_enter Tryd.func27, Tryd.ntmps27
    go_wp2_with fail
    refine (specTreeValid_any _ _ _ _ HW.out hl hn).mono ?_
    rw [hv]
    rintro e w1 ⟨rfl, hb1⟩
    go_wp2
    go_ret
    exact ⟨ret_int HF.out.symm, hb1⟩
  | true =>
    have HF : Hid (savedB l = sumTo l l.length - roomTo l l.length) := if_pos hv
    obtain ⟨r1, r2⟩ := roomTo_bd hv l.length (Nat.le_refl _)
    obtain ⟨t1, t2⟩ := sumTo_le hv l.length (Nat.le_refl _)
    have hl8 := (valid_all hv).2.1
    have t3 : sumTo l l.length ≤ 792 := by omega
    clear t2
    go_enter Tryd.func27, Tryd.ntmps27
    go_wp2_with fail
    refine (specTreeValid_any _ _ _ _ HW.out hl hn).mono ?_
    rw [hv]
    rintro e w1 ⟨rfl, hb1⟩
    have HV := Lib.hid hv
    clear hv
    go_wp2_with fail
    refine (l1Total_any _ _ _ _ ((HW.out.below hb1).more hb1.size) HV.out).mono ?_
    rintro e w2 ⟨rfl, hb2⟩
    have B2 := hb1.trans (hb2.mono hb1.size)
    clear hb1 hb2
    go_wp2_with fail
    refine (l2Room_any _ _ _ _ ((HW.out.below B2).more B2.size) HV.out).mono ?_
    rintro e w3 ⟨rfl, hb3⟩
    have B3 := B2.trans (hb3.mono B2.size)
    clear B2 hb3
    generalize sumTo l l.length = a at *
    generalize roomTo l l.length = b at *
    go_wp2
    go_ret
    exact ⟨ret_int HF.out.symm, B3⟩

end Go.Proofs.YtdbddockmdkmeaaDoor
/- The model's side of rooms: Overlap, LongestPath, LiesAt. -/
namespace Go.Proofs.YtdbddockmdkmeaaDoor
open Go.RowKit

set_option maxRecDepth 100000 in
set_option maxHeartbeats 400000 in
theorem specLong_any (A : Option Addr) (l : List Seg) (c : Nat) (w : World) (hw : Segs w w.heap.size A l) (hl : l.length ≤ 1048576) (hn : Short l) :
    Calls Tryd.prog 23 #[.slice A l.length c] w fun e w' => e = .returned (.tuple #[.string (longStr l), .bool (validB l)]) ∧ Below w.heap.size w w' := by
  have HW : Hid (Segs w w.heap.size A l) := hw
  clear hw
  cases hv : validB l with
  | false =>
    have HF : Hid (longStr l = ⟨#[]⟩) := if_neg (by rw [hv]; decide)
    go_enter Tryd.func23, Tryd.ntmps23
    go_wp2_with fail
    refine (specTreeValid_any _ _ _ _ HW.out hl hn).mono ?_
    rw [hv]
    rintro e w1 ⟨rfl, hb1⟩
    go_wp2
    go_ret2
    exact ⟨ret_two HF.out.symm rfl, hb1⟩
  | true =>
    have HF : Hid (longStr l = namesAt l (rp l (lastIx l (l.length - 1)))) := if_pos hv
    have h0 := (valid_all hv).2.2
    have hle := lastIx_le l (l.length - 1)
    have HE : Hid (endAt l (lastIx l (l.length - 1)) = roomTo l l.length) := by
      have h2 := lastIx_room hv (l.length - 1) (by omega)
      rw [show l.length - 1 + 1 = l.length by omega] at h2
      exact h2
    have HX : Hid (∀ j, j < lastIx l (l.length - 1) → endAt l j < endAt l (lastIx l (l.length - 1))) := fun j hj => lastIx_first (l.length - 1) j hj
    have hm : lastIx l (l.length - 1) < l.length := by omega
    have HV := Lib.hid hv
    have HD : Hid (Down l l.length) := (valid_all hv).1.down
    have HO : Hid _ := valid_names hv
    clear hle
    generalize lastIx l (l.length - 1) = m at *
    go_enter Tryd.func23, Tryd.ntmps23
    go_wp2_with fail
    refine (specTreeValid_any _ _ _ _ HW.out hl hn).mono ?_
    rw [hv]
    rintro e w1 ⟨rfl, hb1⟩
    clear hv
    go_wp2
    go_loopw [10] (fun i wr => ∃ k : Nat, k ≤ m ∧ i = .int .i64 k ∧ Below w.heap.size w wr) (fun i _ => l.length - (intOf i).toNat)
    case atStart => exact ⟨0, Nat.zero_le _, rfl, hb1⟩
    case round =>
      obtain ⟨k, hk, rfl, hb⟩ := hrel
      clear hb1
      have hlt : k < l.length := by omega
      have hlt' : (k : Int) < (l.length : Int) := by omega
      go_wp2_with fail
      refine (l2End_any _ _ _ _ _ ((HW.out.below hb).more hb.size) HV.out hlt).mono ?_
      rintro e w2 ⟨rfl, hb2⟩
      have B2 := hb.trans (hb2.mono hb.size)
      clear hb hb2
      go_wp2_with fail
      refine (l2Room_any _ _ _ _ ((HW.out.below B2).more B2.size) HV.out).mono ?_
      rintro e w3 ⟨rfl, hb3⟩
      have B3 := B2.trans (hb3.mono B2.size)
      clear B2 hb3
      by_cases hkm : k = m
      · have hq : (endAt l k == roomTo l l.length) = true := by rw [beq_iff_eq, hkm]; exact HE.out
        have HP : Hid (pathOf l k = (rp l k).map fun j : Nat => (j : Int)) := rootPath_chain HD.out (k + 1) k hlt (by omega)
        have HJ : Hid (∀ j ∈ rp l k, j < l.length) := rootPath_lt HD.out (k + 1) k hlt
        have HZ : Hid ((rp l k).length ≤ 1048577) := by
          have h1 := rootPath_len l (k + 1) k
          show (rp l k).length ≤ 1048577
          have h2 : (rp l k).length ≤ k + 1 := h1
          omega
        have HG : Hid (longStr l = namesAt l (rp l k)) := by
          show _ = _
          rw [HF.out, hkm]
        clear hkm
        go_wp2_with fail
        refine (l1Path_any _ _ _ _ _ ((HW.out.below B3).more B3.size) hl hlt (HD.out.mono (by omega))).mono ?_
        rw [HP.out]
        rintro e w4 ⟨g, cap, rfl, hown, hb4⟩
        rw [List.length_map] at hown ⊢
        have HO2 := Lib.hid hown
        have B4 := B3.trans (hb4.mono B3.size)
        clear hown hb4 B3
        go_wp2_with fail
        refine (l1Names_any _ _ _ _ _ _ _ _ ((HW.out.below B4).more B4.size) hl HO.out HJ.out HZ.out HO2.out).mono ?_
        rintro e w5 ⟨rfl, rfl⟩
        go_wp2
        go_ret2
        exact ⟨ret_two HG.out.symm rfl, B4⟩
      · have hq : (endAt l k == roomTo l l.length) = false := by
          rw [beq_eq_false_iff_ne]
          have h1 := HX.out k (by omega)
          have h2 := HE.out
          omega
        have hkl : k + 1 ≤ m := by omega
        clear hkm
        go_wp2
        go_roundw
        case rel => exact ⟨k + 1, hkl, by go_num, B3⟩
        case measure => simp [intOf]; omega

end Go.Proofs.YtdbddockmdkmeaaDoor
/- Where a node lies: the program's own place, by the parents. -/
namespace Go.Proofs.YtdbddockmdkmeaaDoor
open Go.RowKit

/-- What place reads of the nodes. -/
def Placed (w : World) (l : List Seg) (nb : Nat → Nat) : Prop := ∀ j, j < l.length → nb j < w.heap.size ∧ w.cell? ⟨nb j, 1, none⟩ = some (.int .i64 (sizeAt l j)) ∧ w.cell? ⟨nb j, 2, none⟩ = some (.pointer (parPtr l nb j))
theorem Placed.below {w w' : World} {l : List Seg} {nb : Nat → Nat} (h : Placed w l nb) (hb : Below w.heap.size w w') : Placed w' l nb := fun j hj => by
  obtain ⟨h1, h2, h3⟩ := h j hj
  exact ⟨Nat.lt_of_lt_of_le h1 hb.size, (hb.cell (p := ⟨nb j, 1, none⟩) h1).trans h2, (hb.cell (p := ⟨nb j, 2, none⟩) h1).trans h3⟩
theorem Nodes.placed {w : World} {B g : Nat} {l : List Seg} {nb : Nat → Nat} {cv : Nat → Value} (h : Nodes w B g l.length l.length l nb cv) : Placed w l nb := fun j hj => by
  have h1 := h.node j _ hj (List.getElem?_eq_getElem hj)
  refine ⟨h1.lt, ?_, h1.cell 2⟩
  rw [sizeAt_of hj]
  exact h1.cell 1

theorem run_begin (a b : Int) (w : World) : (Instr.field 84 (.agg #[.int .i64 a, .int .i64 b]) 0).run Tryd.prog w = .ok (.int .i64 a) w := by kernel_rfl
theorem run_end (a b : Int) (w : World) : (Instr.field 84 (.agg #[.int .i64 a, .int .i64 b]) 1).run Tryd.prog w = .ok (.int .i64 b) w := by kernel_rfl

set_option maxRecDepth 100000 in
set_option maxHeartbeats 400000 in
theorem place_any (l : List Seg) (nb : Nat → Nat) (hv : validB l = true) : ∀ i, i < l.length → ∀ w, Placed w l nb →
    Calls Tryd.prog 73 #[.pointer (some ⟨nb i, 0, none⟩)] w fun e w' => e = .returned (.agg #[.int .i64 (begAt l i), .int .i64 (endAt l i)]) ∧ Below w.heap.size w w' := by
  refine rp_ind (valid_all hv).1.down (fun i hi hp w hw => ?_) (fun i p hi hpi hp ih w hw => ?_)
  · obtain ⟨h1, c1, c2⟩ := hw i hi
    have hpp : parPtr l nb i = none := if_pos hp
    have HB : Hid (begAt l i = 0 ∧ endAt l i = sizeAt l i) := by
      have a := begAt_root hp
      have b := endAt_beg l i
      exact ⟨a, by omega⟩
    obtain ⟨z1, z2⟩ := sizeAt_bd hv hi
    rw [hpp] at c2
    clear hw hpp hp
    rw [HB.out.1, HB.out.2]
    generalize sizeAt l i = sz at *
    go_enter Tryd.func73, Tryd.ntmps73
    go_wp2
    refine bodyPost_ret (v := .agg #[.int .i64 0, .int .i64 sz]) (by simp [results, Tryd.results73, go_sem]) rfl ⟨rfl, ?_⟩
    repeat (first | exact Below.refl _ _ | refine Below.setCell ?_ (by simp) _ | refine Below.alloc ?_ (by simp; try omega) _)
  · obtain ⟨h1, c1, c2⟩ := hw i hi
    have hd := (valid_all hv).1.down i hi
    have hpp : parPtr l nb i = some ⟨nb p, 0, none⟩ := by
      unfold parPtr
      rw [if_neg (by omega), hp, Int.toNat_natCast]
    have HB : Hid (begAt l i = endAt l p ∧ endAt l i = endAt l p + sizeAt l i) := by
      have a := begAt_step (valid_all hv).1.down hi hp
      have b := endAt_beg l i
      exact ⟨a, by omega⟩
    obtain ⟨z1, z2⟩ := sizeAt_bd hv hi
    obtain ⟨e1, e2, e3⟩ := place_small hv (show p < l.length by omega)
    have e0 : 0 ≤ endAt l p := by omega
    rw [hpp] at c2
    have HW := Lib.hid hw
    have HI := Lib.hid ih
    clear hw hpp hp ih hd e1 e2
    rw [HB.out.1, HB.out.2]
    clear HB
    have hz0 : w.heap.size < w.heap.size + 1 := Nat.lt_succ_self _
    have hf1 := run_end
    go_enter Tryd.func73, Tryd.ntmps73
    go_wp2_with fail
    refine (HI.out _ (HW.out.below ((Below.refl _ _).alloc (Nat.le_refl _) _))).mono ?_
    rintro e w1 ⟨rfl, hb1⟩
    have hb : Below w.heap.size w w1 := ((Below.refl _ w).alloc (Nat.le_refl _) _).trans (hb1.mono (by simp))
    rw [← hb.cell (p := ⟨nb i, 1, none⟩) h1] at c1
    rw [← hb.cell (p := ⟨nb i, 2, none⟩) h1] at c2
    have hr : Row w1 w.heap.size 84 #[.int .i64 0, .int .i64 0] := (Row.new w _ _).below hb1 (by simp)
    have r0 := hr.cell 0
    have r1 := hr.cell 1
    have f0 := hr.free 0
    have f1 := hr.free 1
    have hz := hr.lt
    have H := Lib.hid hb
    clear hb hb1 hr HW HI
    go_wp2
    refine bodyPost_ret (v := .agg #[.int .i64 (endAt l p), .int .i64 (endAt l p + sizeAt l i)]) (by simp [results, Tryd.results73, go_sem, r0, r1]) rfl ⟨rfl, ?_⟩
    repeat (first | exact H.out | refine Below.setCell ?_ (by simp) _ | refine Below.alloc ?_ (by simp; try omega) _)

end Go.Proofs.YtdbddockmdkmeaaDoor
/- The program's rooms: where segments begin and end, the whole room, what is saved. -/
namespace Go.Proofs.YtdbddockmdkmeaaDoor
open Go.RowKit

set_option maxRecDepth 100000 in
set_option maxHeartbeats 400000 in
theorem addressOf_any (A : Option Addr) (l : List Seg) (c : Nat) (s : ByteArray) (w : World) (hw : Segs w w.heap.size A l) (hl : l.length ≤ 1048576) (hlc : l.length ≤ c) (hcm : c ≤ 9223372036854775807) (hn : Short l) :
    Calls Tryd.prog 31 #[.slice A l.length c, .string s] w fun e w' => e = .returned (.int .i64 (addrB l s)) ∧ Below w.heap.size w w' := by
  have HW : Hid (Segs w w.heap.size A l) := hw
  clear hw
  cases hv : validB l with
  | false =>
    have HF : Hid (addrB l s = -1) := by
      have h1 : indexB l s = -1 := if_neg (by rw [hv]; decide)
      exact if_pos (by omega)
    go_enter Tryd.func31, Tryd.ntmps31
    go_wp2_with fail
    refine (nodesOf_bad _ _ _ _ HW.out hl hlc hcm hn hv).mono ?_
    rintro e w1 ⟨rfl, hb1⟩
    go_wp2_with fail
    refine (findNode_nil _ _).mono ?_
    rintro e w2 ⟨rfl, rfl⟩
    go_wp2
    go_ret
    exact ⟨ret_int HF.out.symm, hb1⟩
  | true =>
    have HI : Hid (indexB l s = seek l s) := if_pos hv
    rcases seek_bd l s with hi | ⟨h0, hi⟩
    · have HF : Hid (addrB l s = -1) := if_pos (by have := HI.out; omega)
      have HP : Hid (∀ nb, foundPtr l nb s = none) := fun nb => if_pos (by omega)
      clear hi
      go_enter Tryd.func31, Tryd.ntmps31
      go_wp2_with fail
      refine (nodesOf_any _ _ _ _ HW.out hl hlc hcm hn hv).mono ?_
      rintro e w1 ⟨g, nb, cv, rfl, hN, hb1⟩
      have HN := Lib.hid hN
      clear hN
      go_wp2_with fail
      refine (findNode_any _ _ _ _ _ _ _ HN.out hl).mono ?_
      rw [HP.out nb]
      rintro e w2 ⟨rfl, rfl⟩
      go_wp2
      go_ret
      exact ⟨ret_int HF.out.symm, hb1⟩
    · obtain ⟨k, hk⟩ := Int.eq_ofNat_of_zero_le h0
      have hkl : k < l.length := by omega
      have HF : Hid (addrB l s = begAt l k) := by
        show addrB l s = _
        unfold addrB
        rw [HI.out, if_neg (by omega), hk, Int.toNat_natCast]
      have HP : Hid (∀ nb, foundPtr l nb s = some ⟨nb k, 0, none⟩) := fun nb => by
        unfold foundPtr
        rw [if_neg (by omega), hk, Int.toNat_natCast]
      have HV := Lib.hid hv
      clear hk hi h0 hv
      have hfld := run_begin
      go_enter Tryd.func31, Tryd.ntmps31
      go_wp2_with fail
      refine (nodesOf_any _ _ _ _ HW.out hl hlc hcm hn HV.out).mono ?_
      rintro e w1 ⟨g, nb, cv, rfl, hN, hb1⟩
      have HN := Lib.hid hN
      clear hN
      go_wp2_with fail
      refine (findNode_any _ _ _ _ _ _ _ HN.out hl).mono ?_
      rw [HP.out nb]
      rintro e w2 ⟨rfl, rfl⟩
      go_wp2_with fail
      refine (place_any l nb HV.out k hkl _ HN.out.placed).mono ?_
      rintro e w2 ⟨rfl, hb2⟩
      have B2 := hb1.trans (hb2.mono hb1.size)
      clear hb1 hb2
      go_wp2
      go_ret
      exact ⟨ret_int HF.out.symm, B2⟩

set_option maxRecDepth 100000 in
set_option maxHeartbeats 400000 in
theorem endOf_any (A : Option Addr) (l : List Seg) (c : Nat) (s : ByteArray) (w : World) (hw : Segs w w.heap.size A l) (hl : l.length ≤ 1048576) (hlc : l.length ≤ c) (hcm : c ≤ 9223372036854775807) (hn : Short l) :
    Calls Tryd.prog 32 #[.slice A l.length c, .string s] w fun e w' => e = .returned (.int .i64 (endB l s)) ∧ Below w.heap.size w w' := by
  have HW : Hid (Segs w w.heap.size A l) := hw
  clear hw
  cases hv : validB l with
  | false =>
    have HF : Hid (endB l s = -1) := by
      have h1 : indexB l s = -1 := if_neg (by rw [hv]; decide)
      exact if_pos (by omega)
    go_enter Tryd.func32, Tryd.ntmps32
    go_wp2_with fail
    refine (nodesOf_bad _ _ _ _ HW.out hl hlc hcm hn hv).mono ?_
    rintro e w1 ⟨rfl, hb1⟩
    go_wp2_with fail
    refine (findNode_nil _ _).mono ?_
    rintro e w2 ⟨rfl, rfl⟩
    go_wp2
    go_ret
    exact ⟨ret_int HF.out.symm, hb1⟩
  | true =>
    have HI : Hid (indexB l s = seek l s) := if_pos hv
    rcases seek_bd l s with hi | ⟨h0, hi⟩
    · have HF : Hid (endB l s = -1) := if_pos (by have := HI.out; omega)
      have HP : Hid (∀ nb, foundPtr l nb s = none) := fun nb => if_pos (by omega)
      clear hi
      go_enter Tryd.func32, Tryd.ntmps32
      go_wp2_with fail
      refine (nodesOf_any _ _ _ _ HW.out hl hlc hcm hn hv).mono ?_
      rintro e w1 ⟨g, nb, cv, rfl, hN, hb1⟩
      have HN := Lib.hid hN
      clear hN
      go_wp2_with fail
      refine (findNode_any _ _ _ _ _ _ _ HN.out hl).mono ?_
      rw [HP.out nb]
      rintro e w2 ⟨rfl, rfl⟩
      go_wp2
      go_ret
      exact ⟨ret_int HF.out.symm, hb1⟩
    · obtain ⟨k, hk⟩ := Int.eq_ofNat_of_zero_le h0
      have hkl : k < l.length := by omega
      have HF : Hid (endB l s = endAt l k) := by
        show endB l s = _
        unfold endB
        rw [HI.out, if_neg (by omega), hk, Int.toNat_natCast]
      have HP : Hid (∀ nb, foundPtr l nb s = some ⟨nb k, 0, none⟩) := fun nb => by
        unfold foundPtr
        rw [if_neg (by omega), hk, Int.toNat_natCast]
      have HV := Lib.hid hv
      clear hk hi h0 hv
      have hfld := run_end
      go_enter Tryd.func32, Tryd.ntmps32
      go_wp2_with fail
      refine (nodesOf_any _ _ _ _ HW.out hl hlc hcm hn HV.out).mono ?_
      rintro e w1 ⟨g, nb, cv, rfl, hN, hb1⟩
      have HN := Lib.hid hN
      clear hN
      go_wp2_with fail
      refine (findNode_any _ _ _ _ _ _ _ HN.out hl).mono ?_
      rw [HP.out nb]
      rintro e w2 ⟨rfl, rfl⟩
      go_wp2_with fail
      refine (place_any l nb HV.out k hkl _ HN.out.placed).mono ?_
      rintro e w2 ⟨rfl, hb2⟩
      have B2 := hb1.trans (hb2.mono hb1.size)
      clear hb1 hb2
      go_wp2
      go_ret
      exact ⟨ret_int HF.out.symm, B2⟩

set_option maxRecDepth 100000 in
set_option maxHeartbeats 400000 in
theorem endsBehind_any (a b x y : Int) (w : World) :
    Calls Tryd.prog 105 #[.agg #[.int .i64 a, .int .i64 b], .agg #[.int .i64 x, .int .i64 y]] w fun e w' => e = .returned (.bool (decide (y < b))) ∧ Below w.heap.size w w' := by
  go_enter Tryd.func105, Tryd.ntmps105
  go_wp2
  go_ret
  refine ⟨ret_bool (by simp), ?_⟩
  repeat (first | exact Below.refl _ _ | refine Below.setCell ?_ (by simp) _ | refine Below.alloc ?_ (by simp; try omega) _)

/-- Of two the one that ends later, the first if neither does. -/
def laterOf (l : List Seg) (i j : Nat) : Nat := if endAt l i < endAt l j then j else i

set_option maxRecDepth 100000 in
set_option maxHeartbeats 400000 in
theorem endingLast_any (l : List Seg) (nb : Nat → Nat) (hv : validB l = true) (i j : Nat) (hi : i < l.length) (hj : j < l.length) (w : World) (hw : Placed w l nb) :
    Calls Tryd.prog 72 #[.pointer (some ⟨nb i, 0, none⟩), .pointer (some ⟨nb j, 0, none⟩)] w fun e w' => e = .returned (.pointer (some ⟨nb (laterOf l i j), 0, none⟩)) ∧ Below w.heap.size w w' := by
  have HW := Lib.hid hw
  have HV := Lib.hid hv
  clear hw hv
  by_cases h : endAt l i < endAt l j
  · have hd : decide (endAt l i < endAt l j) = true := decide_eq_true h
    have HP : Hid ((some ⟨nb (laterOf l i j), 0, none⟩ : Option Addr) = some ⟨nb j, 0, none⟩) := by
      show _ = _
      unfold laterOf
      rw [if_pos h]
    clear h
    go_enter Tryd.func72, Tryd.ntmps72
    go_wp2_with fail
    refine (place_any l nb HV.out j hj _ HW.out).mono ?_
    rintro e w1 ⟨rfl, hb1⟩
    go_wp2_with fail
    refine (place_any l nb HV.out i hi _ (HW.out.below hb1)).mono ?_
    rintro e w2 ⟨rfl, hb2⟩
    have B2 := hb1.trans (hb2.mono hb1.size)
    clear hb1 hb2
    go_wp2_with fail
    refine (endsBehind_any _ _ _ _ _).mono ?_
    rw [hd]
    rintro e w3 ⟨rfl, hb3⟩
    have B3 := B2.trans (hb3.mono B2.size)
    clear B2 hb3 hd
    go_wp2
    go_ret
    exact ⟨ret_ptr HP.out.symm, B3⟩
  · have hd : decide (endAt l i < endAt l j) = false := decide_eq_false h
    have HP : Hid ((some ⟨nb (laterOf l i j), 0, none⟩ : Option Addr) = some ⟨nb i, 0, none⟩) := by
      show _ = _
      unfold laterOf
      rw [if_neg h]
    clear h
    go_enter Tryd.func72, Tryd.ntmps72
    go_wp2_with fail
    refine (place_any l nb HV.out j hj _ HW.out).mono ?_
    rintro e w1 ⟨rfl, hb1⟩
    go_wp2_with fail
    refine (place_any l nb HV.out i hi _ (HW.out.below hb1)).mono ?_
    rintro e w2 ⟨rfl, hb2⟩
    have B2 := hb1.trans (hb2.mono hb1.size)
    clear hb1 hb2
    go_wp2_with fail
    refine (endsBehind_any _ _ _ _ _).mono ?_
    rw [hd]
    rintro e w3 ⟨rfl, hb3⟩
    have B3 := B2.trans (hb3.mono B2.size)
    clear B2 hb3 hd
    go_wp2
    go_ret
    exact ⟨ret_ptr HP.out.symm, B3⟩

set_option maxRecDepth 100000 in
set_option maxHeartbeats 400000 in
theorem fold_any (B g : Nat) (l : List Seg) (nb : Nat → Nat) (cv : Nat → Value) (w : World) (hN : Nodes w B g l.length l.length l nb cv) (hv : validB l = true) :
    Calls Tryd.prog 71 #[.slice (some ⟨g, 0, none⟩) l.length l.length, .func (.func 72) #[] #[]] w fun e w' => e = .returned (.pointer (some ⟨nb (lastIx l (l.length - 1)), 0, none⟩)) ∧ Below w.heap.size w w' := by
  have HN := Lib.hid hN
  have HV := Lib.hid hv
  obtain ⟨-, hl8, hl1⟩ := valid_all hv
  obtain ⟨cs, hrow, -, hci⟩ := hN.row
  have HC : Hid (∀ i, i < l.length → w.cell? ⟨g, i, none⟩ = some (.pointer (some ⟨nb i, 0, none⟩))) := fun i hi => by rw [hrow.cell]; exact hci i hi
  have hg := hrow.lt
  have c0 := HC.out 0 (by omega)
  clear hN hv hrow hci cs
  go_enter Tryd.func71, Tryd.ntmps71
  go_wp2
  · have H1 := Lib.hid h
    clear h
    go_loop [5, 14] (fun v i => v = .pointer (some ⟨nb 0, 0, none⟩) ∧ i = .int .i64 0) (fun _ _ => 0)
    case atStart => exact ⟨rfl, rfl⟩
    case round =>
      obtain ⟨rfl, rfl⟩ := hrel
      have HE : Hid (lastIx l (l.length - 1) = 0) := by
        show lastIx l (l.length - 1) = 0
        rw [H1.out]; rfl
      go_wp2
      go_ret
      exact ⟨ret_ptr (by rw [HE.out]), Below.refl _ _⟩
  · go_loopw [5, 14] (fun v i wr => ∃ (k : Nat), k + 1 ≤ l.length ∧ i = .int .i64 k ∧ v = .pointer (some ⟨nb (lastIx l k), 0, none⟩) ∧ Below w.heap.size w wr)
      (fun _ i _ => l.length - (intOf i).toNat)
    case atStart => exact ⟨0, by omega, rfl, rfl, Below.refl _ _⟩
    case round =>
      obtain ⟨k, hk, rfl, rfl, hb⟩ := hrel
      have hle := lastIx_le l k
      by_cases hlt : k + 1 < l.length
      · have HR : Hid (nb (lastIx l (k + 1)) = nb (laterOf l (lastIx l k) (k + 1))) := rfl
        have ck : wr.cell? ⟨g, 1 + k, none⟩ = some (.pointer (some ⟨nb (k + 1), 0, none⟩)) := by
          rw [Nat.add_comm 1 k, hb.cell (p := ⟨g, k + 1, none⟩) hg]
          exact HC.out (k + 1) hlt
        clear c0
        have hlt2 : (k : Int) < ((l.length - 1 : Nat) : Int) := by omega
        have hlt3 : decide (k < l.length - 1) = true := decide_eq_true (by omega)
        have hlt4 : k < l.length - 1 := by omega
        go_wp2_with fail
        refine (endingLast_any l nb HV.out (lastIx l k) (k + 1) (by omega) hlt _ (HN.out.placed.below hb)).mono ?_
        rintro e w1 ⟨rfl, hb1⟩
        have B1 := hb.trans (hb1.mono hb.size)
        clear hb hb1
        rw [← HR.out]
        go_wp2
        go_roundw
        case rel => exact ⟨k + 1, by omega, by go_num, rfl, B1⟩
        case measure => simp [intOf]; omega
      · obtain rfl : k = l.length - 1 := by omega
        go_wp2
        go_ret
        exact ⟨rfl, hb⟩

end Go.Proofs.YtdbddockmdkmeaaDoor
/- The program's rooms: RoomOf, SavedRoom, Overlap. -/
namespace Go.Proofs.YtdbddockmdkmeaaDoor
open Go.RowKit

set_option maxRecDepth 100000 in
set_option maxHeartbeats 400000 in
theorem roomOf_any (A : Option Addr) (l : List Seg) (c : Nat) (w : World) (hw : Segs w w.heap.size A l) (hl : l.length ≤ 1048576) (hlc : l.length ≤ c) (hcm : c ≤ 9223372036854775807) (hn : Short l) :
    Calls Tryd.prog 20 #[.slice A l.length c] w fun e w' => e = .returned (.int .i64 (roomB l)) ∧ Below w.heap.size w w' := by
  have HW : Hid (Segs w w.heap.size A l) := hw
  clear hw
  have hnil := fun (W : World) (a : Option Addr) (n c : Nat) => Lib.run_eql_slice_nil (P := Tryd.prog) W 52 57 a n c 0 0 Tryd.underlying52
  cases hv : validB l with
  | false =>
    have HF : Hid (roomB l = -1) := if_neg (by rw [hv]; decide)
    go_enter Tryd.func20, Tryd.ntmps20
    go_wp2_with fail
    refine (nodesOf_bad _ _ _ _ HW.out hl hlc hcm hn hv).mono ?_
    rintro e w1 ⟨rfl, hb1⟩
    go_wp2
    go_ret
    exact ⟨ret_int HF.out.symm, hb1⟩
  | true =>
    have h0 := (valid_all hv).2.2
    have hle := lastIx_le l (l.length - 1)
    have HL : Hid (lastIx l (l.length - 1) < l.length) := show _ < _ by omega
    have HF : Hid (roomB l = endAt l (lastIx l (l.length - 1))) := by
      have h1 : roomB l = roomTo l l.length := if_pos hv
      have h2 := lastIx_room hv (l.length - 1) (by omega)
      rw [show l.length - 1 + 1 = l.length by omega] at h2
      exact h1.trans h2.symm
    have HV := Lib.hid hv
    clear hv hle
    have hfld := run_end
    go_enter Tryd.func20, Tryd.ntmps20
    go_wp2_with fail
    refine (nodesOf_any _ _ _ _ HW.out hl hlc hcm hn HV.out).mono ?_
    rintro e w1 ⟨g, nb, cv, rfl, hN, hb1⟩
    have HN := Lib.hid hN
    clear hN
    go_wp2_with fail
    refine (fold_any _ _ _ _ _ _ HN.out HV.out).mono ?_
    rintro e w2 ⟨rfl, hb2⟩
    have B2 := hb1.trans (hb2.mono hb1.size)
    go_wp2_with fail
    refine (place_any l nb HV.out _ HL.out _ (HN.out.placed.below hb2)).mono ?_
    rintro e w3 ⟨rfl, hb3⟩
    have B3 := B2.trans (hb3.mono B2.size)
    clear hb1 hb2 B2 hb3
    go_wp2
    go_ret
    exact ⟨ret_int HF.out.symm, B3⟩

set_option maxRecDepth 100000 in
set_option maxHeartbeats 400000 in
theorem savedRoom_any (A : Option Addr) (l : List Seg) (c : Nat) (w : World) (hw : Segs w w.heap.size A l) (hl : l.length ≤ 1048576) (hlc : l.length ≤ c) (hcm : c ≤ 9223372036854775807) (hn : Short l) :
    Calls Tryd.prog 21 #[.slice A l.length c] w fun e w' => e = .returned (.int .i64 (savedB l)) ∧ Below w.heap.size w w' := by
  have HW : Hid (Segs w w.heap.size A l) := hw
  clear hw
  cases hv : validB l with
  | false =>
    have HF : Hid (savedB l = -1) := if_neg (by rw [hv]; decide)
    go_enter Tryd.func21, Tryd.ntmps21
    go_wp2_with fail
    refine (treeValid_any _ _ _ _ HW.out hl hlc hcm hn).mono ?_
    rw [hv]
    rintro e w1 ⟨rfl, hb1⟩
    go_wp2
    go_ret
    exact ⟨ret_int HF.out.symm, hb1⟩
  | true =>
    have HF : Hid (savedB l = sumTo l l.length - roomTo l l.length) := if_pos hv
    have HT : Hid (totalB l = sumTo l l.length) := if_pos hv
    have HR : Hid (roomB l = roomTo l l.length) := if_pos hv
    obtain ⟨r1, r2⟩ := roomTo_bd hv l.length (Nat.le_refl _)
    obtain ⟨t1, t2⟩ := sumTo_le hv l.length (Nat.le_refl _)
    have hl8 := (valid_all hv).2.1
    have t3 : sumTo l l.length ≤ 792 := by omega
    clear t2
    go_enter Tryd.func21, Tryd.ntmps21
    go_wp2_with fail
    refine (treeValid_any _ _ _ _ HW.out hl hlc hcm hn).mono ?_
    rw [hv]
    rintro e w1 ⟨rfl, hb1⟩
    clear hv
    go_wp2_with fail
    refine (totalSize_any _ _ _ _ ((HW.out.below hb1).more hb1.size) hl hlc hcm hn).mono ?_
    rw [HT.out]
    rintro e w2 ⟨rfl, hb2⟩
    have B2 := hb1.trans (hb2.mono hb1.size)
    clear hb1 hb2
    go_wp2_with fail
    refine (roomOf_any _ _ _ _ ((HW.out.below B2).more B2.size) hl hlc hcm hn).mono ?_
    rw [HR.out]
    rintro e w3 ⟨rfl, hb3⟩
    have B3 := B2.trans (hb3.mono B2.size)
    clear B2 hb3
    generalize sumTo l l.length = a at *
    generalize roomTo l l.length = b at *
    go_wp2
    go_ret
    exact ⟨ret_int HF.out.symm, B3⟩

end Go.Proofs.YtdbddockmdkmeaaDoor
/- The program's LongestPath. -/
namespace Go.Proofs.YtdbddockmdkmeaaDoor
open Go.RowKit Go.Shelf

theorem Nodes.below {w w' : World} {B g m k : Nat} {l : List Seg} {nb : Nat → Nat} {cv : Nat → Value} (h : Nodes w B g m k l nb cv) (hb : Below w.heap.size w w') : Nodes w' B g m k l nb cv := by
  obtain ⟨cs, hg, hcs, hci⟩ := h.row
  refine ⟨⟨cs, hg.below hb hg.lt, hcs, hci⟩, fun i t hi ht => ?_, fun i t hi hi2 ht => ?_, fun i hi => ?_, h.apart, h.apartC, h.notg, h.low⟩
  · have h1 := h.node i t hi ht
    exact h1.below hb h1.lt
  · have h1 := h.fresh i t hi hi2 ht
    exact h1.below hb h1.lt
  · exact own_keep (h.kids i hi) fun b hb' => hb.block b ((h.kids i hi).lt b hb').2

theorem nameBytes_map (l : List Seg) : ∀ ys : List (Ix l), nameBytes l ys = (ys.map (·.1)).flatMap (nmAt l)
  | [] => rfl
  | y :: ys => by
    show (l[y.1]'y.2).name.data.toList ++ nameBytes l ys = nmAt l y.1 ++ (ys.map (·.1)).flatMap (nmAt l)
    rw [nameBytes_map l ys, nmAt_of y.2]

/-- The names along the path of a node. -/
theorem joinPath_any (B g i : Nat) (l : List Seg) (nb : Nat → Nat) (cv : Nat → Value) (w1 : World) (hN : Nodes w1 B g l.length l.length l nb cv) (hv : validB l = true) (hi : i < l.length) :
    Calls Tryd.prog 74 #[.func (.func 106) #[] #[.pointer (some ⟨w1.heap.size, 0, none⟩)]] (w1.alloc (.cells #[.pointer (some ⟨nb i, 0, none⟩)] 57)) fun e w' =>
      e = .returned (.string (namesAt l (rp l i))) ∧ Below w1.heap.size w1 w' := by
  have hL := valid_all hv
  have hO := valid_names hv
  have hR : (rootPath l (i + 1) i).length ≤ i + 1 := rootPath_len l (i + 1) i
  have hrow : Row (w1.alloc (.cells #[.pointer (some ⟨nb i, 0, none⟩)] 57)) w1.heap.size 57 #[.pointer (some ⟨nb i, 0, none⟩)] := Row.new _ _ _
  have hlk : Linked (w1.alloc (.cells #[.pointer (some ⟨nb i, 0, none⟩)] 57)) (w1.alloc (.cells #[.pointer (some ⟨nb i, 0, none⟩)] 57)).heap.size l nb := fun j hj => by
    have h1 := (hN.node j _ hj (List.getElem?_eq_getElem hj)).alloc (.cells #[.pointer (some ⟨nb i, 0, none⟩)] 57)
    exact ⟨h1.lt, h1.cell 2⟩
  have hseq := path1_seq l nb (w1.alloc (.cells #[.pointer (some ⟨nb i, 0, none⟩)] 57)).heap.size ((w1.alloc (.cells #[.pointer (some ⟨nb i, 0, none⟩)] 57)).heap.size + 3) 1000 hL.1.down (i + 1) i (by omega) hi 19 w1.heap.size _
    ⟨.inl (by simp), by decide, hrow⟩ hlk (Nat.le_refl _) (by have := hL.2.1; omega) (by have := hL.2.1; omega)
  refine (joinNamesR_any _ l nb (fun x => ?_) hO _ _ 1000 (Nat.le_refl _) (enters_of Tryd.func106 (by kernel_rfl) rfl) hseq).mono ?_
  · exact ((hN.node x.1 _ x.2 (List.getElem?_eq_getElem x.2)).alloc _).cell 0
  · rintro e w3 ⟨⟨xs, hxs, rfl⟩, hb3⟩
    refine ⟨?_, ((Below.refl _ w1).alloc (Nat.le_refl _) _).trans (hb3.mono (by simp))⟩
    rw [nameBytes_map, hxs]
    rfl

set_option maxRecDepth 100000 in
set_option maxHeartbeats 400000 in
theorem longestPath_any (A : Option Addr) (l : List Seg) (c : Nat) (w : World) (hw : Segs w w.heap.size A l) (hl : l.length ≤ 1048576) (hlc : l.length ≤ c) (hcm : c ≤ 9223372036854775807) (hn : Short l) :
    Calls Tryd.prog 22 #[.slice A l.length c] w fun e w' => e = .returned (.tuple #[.string (longStr l), .bool (validB l)]) ∧ Below w.heap.size w w' := by
  have HW : Hid (Segs w w.heap.size A l) := hw
  clear hw
  have hnil := fun (W : World) (a : Option Addr) (n c : Nat) => Lib.run_eql_slice_nil (P := Tryd.prog) W 52 57 a n c 0 0 Tryd.underlying52
  cases hv : validB l with
  | false =>
    have HF : Hid (longStr l = ⟨#[]⟩) := if_neg (by rw [hv]; decide)
    go_enter Tryd.func22, Tryd.ntmps22
    go_wp2_with fail
    refine (nodesOf_bad _ _ _ _ HW.out hl hlc hcm hn hv).mono ?_
    rintro e w1 ⟨rfl, hb1⟩
    go_wp2
    go_ret2
    exact ⟨ret_two HF.out.symm rfl, hb1⟩
  | true =>
    have h0 := (valid_all hv).2.2
    have hle := lastIx_le l (l.length - 1)
    have HL : Hid (lastIx l (l.length - 1) < l.length) := show _ < _ by omega
    have HF : Hid (longStr l = namesAt l (rp l (lastIx l (l.length - 1)))) := if_pos hv
    have HV := Lib.hid hv
    clear hv hle
    go_enter Tryd.func22, Tryd.ntmps22
    go_wp2_with fail
    refine (nodesOf_any _ _ _ _ HW.out hl hlc hcm hn HV.out).mono ?_
    rintro e w1 ⟨g, nb, cv, rfl, hN, hb1⟩
    have HN := Lib.hid hN
    clear hN
    go_wp2_with fail
    refine (fold_any _ _ _ _ _ _ HN.out HV.out).mono ?_
    rintro e w2 ⟨rfl, hb2⟩
    have HN2 : Hid (Nodes w2 w.heap.size g l.length l.length l nb cv) := HN.out.below hb2
    have B2 := hb1.trans (hb2.mono hb1.size)
    clear hb1 hb2
    go_wp2_with fail
    refine (path_any _ _).mono ?_
    rintro e w3 ⟨rfl, rfl⟩
    go_wp2_with fail
    refine (joinPath_any _ _ _ _ _ _ _ HN2.out HV.out HL.out).mono ?_
    rintro e w4 ⟨rfl, hb4⟩
    have B4 := B2.trans (hb4.mono B2.size)
    clear B2 hb4
    go_wp2
    go_ret2
    exact ⟨ret_two HF.out.symm rfl, B4⟩

end Go.Proofs.YtdbddockmdkmeaaDoor
