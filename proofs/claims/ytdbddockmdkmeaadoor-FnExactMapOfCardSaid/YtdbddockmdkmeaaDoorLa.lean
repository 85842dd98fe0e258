/- The model's side of rooms: where segments begin and end. -/
import Derived.Test.YtdbddockmdkmeaaDoorEp
import Derived.IntWalk
namespace Go.Proofs.YtdbddockmdkmeaaDoor
open Go.RowKit

theorem szsNot_take {l : List Seg} {i : Nat} {js : List Nat} {k : Nat} (hk : k < js.length) : szsNot l i (js.take (k + 1)) = szsNot l i (js.take k) + if js[k] = i then 0 else sizeAt l js[k] := by
  rw [List.take_succ_eq_append_getElem hk, szsNot_append]
  simp [szsNot]

theorem run_add_op {P : Program} {ρ : Operand → Value} {o : Oper} {x y : Operand} {t u : TypeId} {A B C : Int} (ho : o.op = .binOp .add t x y u) (hx : ρ x = .int .i64 A) (hy : ρ y = .int .i64 B) (hC : IntKind.i64.wrap (A + B) = C) (w : World) :
    (execOp ρ o).run P w = .ok (.value (.int .i64 C)) w := by
  unfold execOp
  rw [ho]
  subst hC
  simp [hx, hy, go_sem]

set_option maxRecDepth 100000 in
set_option maxHeartbeats 400000 in
theorem l2Address_any (A : Option Addr) (l : List Seg) (c i : Nat) (w : World) (hw : Segs w w.heap.size A l) (hv : validB l = true) (hi : i < l.length) :
    Calls Tryd.prog 85 #[.slice A l.length c, .int .i64 i] w fun e w' => e = .returned (.int .i64 (begAt l i)) ∧ Below w.heap.size w w' := by
  have HW : Hid (Segs w w.heap.size A l) := hw
  have HV := Lib.hid hv
  have HD : Hid (Down l l.length) := (valid_all hv).1.down
  have hl8 := (valid_all hv).2.1
  have HP : Hid (pathOf l i = (rp l i).map fun j : Nat => (j : Int)) := rootPath_chain HD.out (i + 1) i hi (by omega)
  have HJ : Hid (∀ j ∈ rp l i, j < l.length) := rootPath_lt HD.out (i + 1) i hi
  have hz : (rp l i).length ≤ i + 1 := rootPath_len l (i + 1) i
  have HE : Hid (szsNot l i (rp l i) = begAt l i) := szsNot_rp HD.out hi
  clear hw hv
  go_enter Tryd.func85, Tryd.ntmps85
  go_wp2_with fail
  refine (l1Path_any _ _ _ _ _ HW.out (by omega) hi (HD.out.mono (by omega))).mono ?_
  rw [HP.out]
  rintro e w1 ⟨g, cap, rfl, hown, hb1⟩
  rw [List.length_map] at hown ⊢
  have HO := Lib.hid hown
  clear hown HP
  generalize rp l i = js at *
  go_wp2
  go_loop [5, 12] (fun s i' => ∃ (k : Nat), k ≤ js.length ∧ i' = .int .i64 k ∧ s = .int .i64 (szsNot l i (js.take k)))
    (fun _ i' => js.length - (intOf i').toNat)
  case atStart => exact ⟨0, Nat.zero_le _, rfl, rfl⟩
  case round =>
    obtain ⟨k, hk, rfl, rfl⟩ := hrel
    by_cases hlt : k < js.length
    · have hj := HJ.out js[k] (List.getElem_mem hlt)
      have hc : w1.cell? ⟨g, k, none⟩ = some (.int .i64 (js[k] : Int)) := by
        rw [HO.out.cellAt k (by omega)]
        simp [hlt]
      obtain ⟨b, o, rfl, hB, hc'⟩ := HW.out (by omega)
      obtain ⟨c0, c1, c2⟩ := hc' js[k] l[js[k]] (List.getElem?_eq_getElem hj)
      clear hc' c0 c2
      rw [← hb1.cell hB, ← sizeAt_of hj] at c1
      have HQ : Hid _ := szsNot_take (l := l) (i := i) hlt
      have hb0 := szsNot_bd HV.out i (js.take k) (fun j hj => HJ.out j (List.mem_of_mem_take hj))
      have hb0' : 0 ≤ szsNot l i (js.take k) ∧ szsNot l i (js.take k) ≤ 792 := by rw [List.length_take] at hb0; omega
      obtain ⟨n1, n2⟩ := hb0'
      obtain ⟨z1, z2⟩ := sizeAt_bd HV.out hj
      have hj0 : (0 : Int) ≤ (js[k] : Int) := Int.natCast_nonneg _
      have hj1 : (js[k] : Int) < (l.length : Int) := by omega
      clear hb0
      generalize js[k] = j at *
      generalize szsNot l i (js.take k) = n at *
      generalize sizeAt l j = sz at *
      by_cases he : j = i
      · have ht : ((j : Int) != (i : Int)) = false := by rw [he]; simp
        have HR : Hid (szsNot l i (js.take (k + 1)) = n) := by
          show _ = _
          rw [HQ.out, if_pos he, Int.add_zero]
        clear he HQ
        go_wp2
        go_round
        case rel => exact ⟨k + 1, by omega, by go_num, by rw [HR.out]⟩
        case measure => simp [intOf]; omega
      · have ht : ((j : Int) != (i : Int)) = true := by rw [bne_iff_ne]; omega
        have HR : Hid (szsNot l i (js.take (k + 1)) = n + sz) := by
          show _ = _
          rw [HQ.out, if_neg he]
        clear he HQ
        go_wp2
        go_round
        case rel => exact ⟨k + 1, by omega, by go_num, by rw [HR.out]⟩
        case measure => simp [intOf]; omega
    · obtain rfl : k = js.length := by omega
      go_wp2
      go_ret
      exact ⟨ret_int HE.out, hb1⟩

set_option maxRecDepth 100000 in
set_option maxHeartbeats 400000 in
theorem l2End_any (A : Option Addr) (l : List Seg) (c i : Nat) (w : World) (hw : Segs w w.heap.size A l) (hv : validB l = true) (hi : i < l.length) :
    Calls Tryd.prog 76 #[.slice A l.length c, .int .i64 i] w fun e w' => e = .returned (.int .i64 (endAt l i)) ∧ Below w.heap.size w w' := by
  have HW : Hid (Segs w w.heap.size A l) := hw
  have HV := Lib.hid hv
  have HE : Hid (begAt l i + sizeAt l i = endAt l i) := (endAt_beg l i).symm
  have hl8 := (valid_all hv).2.1
  obtain ⟨n1, n2, n3⟩ := place_small hv hi
  obtain ⟨z1, z2⟩ := sizeAt_bd hv hi
  obtain ⟨b, o, rfl, hB, hc⟩ := hw (by omega)
  obtain ⟨c0, c1, c2⟩ := hc i l[i] (List.getElem?_eq_getElem hi)
  rw [← sizeAt_of hi] at c1
  clear hc c0 c2 hv hw
  have hn : begAt l i ≤ 792 := by omega
  clear n2 n3
  go_enter Tryd.func76, Tryd.ntmps76
  go_wp2_with fail
  have hi0 : (0 : Int) ≤ (i : Int) := Int.natCast_nonneg _
  have hi1 : (i : Int) < (l.length : Int) := by omega
  refine wp_region_held_drew (S := (fun w' => w'.cell? ⟨b, o + i * 3 + 1, none⟩ = some (.int .i64 (sizeAt l i)) ∧ Below w.heap.size w w')) (by kernel_rfl) ?_ (fun hHeld => ?_)
  · exact ⟨c1, (Below.refl _ _).drew⟩
  refine take_at (i := 0) (d := 5) (v := .slice (some ⟨b, o, none⟩) l.length c) rfl rfl (by kernel_rfl) (by kernel_rfl) (by kernel_rfl) (fun _ _ _ h => h) (by kernel_rfl) (by (intro w hSw; (try dsimp only at hSw); go_simp)) (by assumption) ?_
  simp only [List.setIfInBounds_toArray, List.set_cons_succ, List.set_cons_zero]
  refine take_at (i := 1) (d := 6) (v := .int .i64 i) rfl rfl (by kernel_rfl) (by kernel_rfl) (by kernel_rfl) (fun _ _ _ h => h) (by kernel_rfl) (by (intro w hSw; (try dsimp only at hSw); go_simp)) (by assumption) ?_
  simp only [List.setIfInBounds_toArray, List.set_cons_succ, List.set_cons_zero]
  refine take_at (i := 3) (d := 8) (v := .slice (some ⟨b, o, none⟩) l.length c) rfl rfl (by kernel_rfl) (by kernel_rfl) (by kernel_rfl) (fun _ _ _ h => h) (by kernel_rfl) (by (intro w hSw; (try dsimp only at hSw); go_simp)) (by assumption) ?_
  simp only [List.setIfInBounds_toArray, List.set_cons_succ, List.set_cons_zero]
  refine take_at (i := 4) (d := 9) (v := .int .i64 i) rfl rfl (by kernel_rfl) (by kernel_rfl) (by kernel_rfl) (fun _ _ _ h => h) (by kernel_rfl) (by (intro w hSw; (try dsimp only at hSw); go_simp)) (by assumption) ?_
  simp only [List.setIfInBounds_toArray, List.set_cons_succ, List.set_cons_zero]
  refine take_at (i := 5) (d := 10) (v := .pointer (some ⟨b, o + i * 3, none⟩)) rfl rfl (by kernel_rfl) (by kernel_rfl) (by kernel_rfl) (fun _ _ _ h => h) (by kernel_rfl) (by (intro w hSw; (try dsimp only at hSw); go_simp)) (by assumption) ?_
  simp only [List.setIfInBounds_toArray, List.set_cons_succ, List.set_cons_zero]
  refine take_at (i := 6) (d := 11) (v := .pointer (some ⟨b, o + i * 3 + 1, none⟩)) rfl rfl (by kernel_rfl) (by kernel_rfl) (by kernel_rfl) (fun _ _ _ h => h) (by kernel_rfl) (by (intro w hSw; (try dsimp only at hSw); go_simp)) (by assumption) ?_
  simp only [List.setIfInBounds_toArray, List.set_cons_succ, List.set_cons_zero]
  refine take_at (i := 7) (d := 12) (v := .int .i64 (sizeAt l i)) rfl rfl (by kernel_rfl) (by kernel_rfl) (by kernel_rfl) (fun _ _ _ h => h) (by kernel_rfl) (by (intro w hSw; (try dsimp only at hSw); go_simp)) (by assumption) ?_
  simp only [List.setIfInBounds_toArray, List.set_cons_succ, List.set_cons_zero]
  refine wpAnyH_ready (rs := [2]) (by kernel_rfl) (by simp) ?_
  refine AllReadyH.cons rfl (fun K hK => ?_) AllReadyH.nil
  go_simp
  refine (l2Address_any _ _ _ _ _ ((HW.out.below hHeld.2).more hHeld.2.size) HV.out hi).mono ?_
  rintro e w2 ⟨rfl, hb2⟩
  have hs2 : w2.cell? ⟨b, o + i * 3 + 1, none⟩ = some (.int .i64 (sizeAt l i)) ∧ Below w.heap.size w w2 := ⟨(hb2.cell (p := ⟨b, o + i * 3 + 1, none⟩) (Nat.lt_of_lt_of_le hB hHeld.2.size)).trans hHeld.1, hHeld.2.trans (hb2.mono hHeld.2.size)⟩
  clear hb2 hHeld
  refine hK.out _ _ hs2 (fun hHeld => ?_)
  clear hK K hs2
  refine take_at (i := 8) (d := 13) (v := .int .i64 (begAt l i + sizeAt l i)) rfl rfl (by kernel_rfl) (by kernel_rfl) (by kernel_rfl) (fun _ _ _ h => h) (by kernel_rfl) (fun _ _ => run_add_op rfl rfl rfl (IntWalk.i64_in _ (by omega)) _) (by assumption) ?_
  simp only [List.setIfInBounds_toArray, List.set_cons_succ, List.set_cons_zero]
  refine take_at (i := 9) (d := 4) (v := .int .i64 (begAt l i + sizeAt l i)) rfl rfl (by kernel_rfl) (by kernel_rfl) (by kernel_rfl) (fun _ _ _ h => h) (by kernel_rfl) (by (intro w hSw; (try dsimp only at hSw); go_simp)) (by assumption) ?_
  simp only [List.setIfInBounds_toArray, List.set_cons_succ, List.set_cons_zero]
  refine wpAnyH_done (by kernel_rfl) ?_ _
  have hb3 := hHeld.2
  clear hHeld
  go_wp2
  go_ret
  exact ⟨ret_int HE.out, hb3⟩

end Go.Proofs.YtdbddockmdkmeaaDoor
