/- spec.TreeValid is 'validB'. -/
import Derived.Test.YtdbddockmdkmeaaDoorPa
import Derived.Test.YtdbddockmdkmeaaDoorRg
import Derived.Test.YtdbddockmdkmeaaDoorSn
namespace Go.Proofs.YtdbddockmdkmeaaDoor
open Go.RowKit

theorem l1Path_at (A : Option Addr) (l : List Seg) (c k : Nat) (q : Int) (w0 w : World) (hq : q = (k : Int) - 1) (hw : Segs w0 w0.heap.size A l) (hb : Below w0.heap.size w0 w) (hl : l.length ≤ 1048576) (hk : k < l.length) (h0 : 0 < k) (hd : AllOk l k) :
    Calls Tryd.prog 64 #[.slice A l.length c, .int .i64 q] w (IntsPost w (pathOf l (k - 1))) := by
  rw [hq, show ((k : Int) - 1) = ((k - 1 : Nat) : Int) by omega]
  exact l1Path_any A l c (k - 1) w ((hw.below hb).more hb.size) hl (by omega) (hd.down.mono (by omega))
theorem parOk_has {l : List Seg} {k : Nat} (h0 : 0 < k) : hasB (pathOf l (k - 1)) (parAt l k) = parOk l k := by
  unfold parOk pathOf
  rw [hasB_reverse, if_neg (by omega), show k - 1 + 1 = k by omega, show ((k - 1 : Nat) : Int) = (k : Int) - 1 by omega]

set_option maxRecDepth 100000 in
set_option maxHeartbeats 4000000 in
theorem specTreeValid_any (A : Option Addr) (l : List Seg) (c : Nat) (w : World) (hw : Segs w w.heap.size A l) (hl : l.length ≤ 1048576) (hn : Short l) :
    Calls Tryd.prog 15 #[.slice A l.length c] w fun e w' => e = .returned (.bool (validB l)) ∧ Below w.heap.size w w' := by
  have HW : Hid (Segs w w.heap.size A l) := hw
  clear hw
  go_enter Tryd.func15, Tryd.ntmps15
  go_wp2
  go_loopw [3, 8] (fun s i wr => ∃ (k : Nat), k ≤ l.length ∧ i = .int .i64 k ∧ s = .string (seenOf l k) ∧ Hid (AllOk l k) ∧ Below w.heap.size w wr)
    (fun _ i _ => l.length - (intOf i).toNat)
  case atStart => exact ⟨0, Nat.zero_le _, rfl, rfl, fun j hj => absurd hj (by omega), Below.refl _ _⟩
  case round =>
    obtain ⟨k, hk, rfl, rfl, HA, hb⟩ := hrel
    by_cases hlt : k < l.length
    · obtain ⟨b, o, rfl, hB, hc⟩ := HW.out (by omega)
      obtain ⟨c0, c1, c2⟩ := hc k l[k] (List.getElem?_eq_getElem hlt)
      clear hc
      rw [← hb.cell hB] at c0 c1 c2
      have HO : Hid _ := segOk_of hlt
      have HS : Hid _ := hn l[k] (List.getElem_mem hlt)
      have HP : Hid _ := parAt_of (List.getElem?_eq_getElem hlt)
      have HQ : Hid _ := seenOf_succ hlt
      have hlen : (seenOf l k).size ≤ 1048576 := Nat.le_trans (seenOf_len HA.out) hl
      have hk0 : (0 : Int) ≤ (k : Int) := Int.natCast_nonneg _
      have hkl : (k : Int) < (l.length : Int) := by omega
      generalize l[k] = x at *
      obtain ⟨nm, sz, pa⟩ := x
      dsimp only at c0 c1 c2 HO HS HP HQ
      have hbG : Below w.heap.size w (wr.alloc (.cells #[.string nm, .int .i64 sz, .int .i64 pa] 66)) := hb.alloc hb.size _
      have HR : Hid (Row (wr.alloc (.cells #[.string nm, .int .i64 sz, .int .i64 pa] 66)) wr.heap.size 66 #[.string nm, .int .i64 sz, .int .i64 pa]) := Row.new _ _ _
      cases hN : nameOk nm with
      | false =>
        have HB : Hid (validB l = false) := validB_bad hlt (by rw [HO.out, hN]; rfl)
        go_wp2_with fail
        refine (l1Name_any _ _ HS.out).mono ?_
        rw [hN]
        rintro e w' ⟨rfl, rfl⟩
        go_wp2_with fail
        go_ret
        exact ⟨ret_bool HB.out.symm, hbG⟩
      | true =>
        obtain ⟨ch, rfl, _⟩ := nameOk_one hN
        have HF : Hid _ := find_seen HA.out ch
        have H1 := at_one ch
        go_wp2_with fail
        refine (l1Name_any _ _ HS.out).mono ?_
        rw [hN]
        rintro e w' ⟨rfl, rfl⟩
        cases hT : takenB (l.take k) ⟨#[ch]⟩ with
        | true =>
          have HB : Hid (validB l = false) := validB_bad hlt (by rw [HO.out, hN, hT]; rfl)
          have hf : 0 ≤ findB (seenOf l k) ch := of_decide_eq_true (HF.out.trans hT)
          go_wp2_with fail
          refine (l13Find_any _ _ _ (by simp [maxLen]; omega)).mono ?_
          rintro e w' ⟨rfl, rfl⟩
          go_wp2_with fail
          go_ret
          exact ⟨ret_bool HB.out.symm, hbG⟩
        | false =>
          have hf : ¬ 0 ≤ findB (seenOf l k) ch := of_decide_eq_false (HF.out.trans hT)
          cases hZ : sizeOk sz with
          | false =>
            have HB : Hid (validB l = false) := validB_bad hlt (by rw [HO.out, hN, hT, hZ]; rfl)
            go_wp2_with fail
            refine (l13Find_any _ _ _ (by simp [maxLen]; omega)).mono ?_
            rintro e w' ⟨rfl, rfl⟩
            go_wp2_with fail
            refine (l1In_any _ _ _ _).mono ?_
            rw [show inB sz 1 99 = false from hZ]
            rintro e w' ⟨rfl, rfl⟩
            go_wp2_with fail
            go_ret
            exact ⟨ret_bool HB.out.symm, hbG⟩
          | true =>
            have HK : Hid (segOk l k = parOk l k) := by
              show _ = _
              rw [HO.out, hN, hT, hZ]; rfl
            have HF' := Lib.hid hf
            clear hf
            go_wp2_with fail
            refine (l13Find_any _ _ _ (by simp [maxLen]; omega)).mono ?_
            rintro e w' ⟨rfl, rfl⟩
            have hf := HF'.out
            go_wp2_with fail
            refine (l1In_any _ _ _ _).mono ?_
            rw [show inB sz 1 99 = true from hZ]
            rintro e w' ⟨rfl, rfl⟩
            go_wp2_with fail
            have hs2 : ((seenOf l k) ++ (⟨#[ch]⟩ : ByteArray)) = seenOf l (k + 1) := HQ.out.symm
            have e2 := HR.out.cell 2
            have hG := HR.out.lt
            clear hf hs2
            have hpa : ((pa : Int) == parAt l k) = true := by rw [HP.out]; simp
            clear hpa
            generalize wr.heap.size = G at *
            generalize wr.alloc (.cells #[.string ⟨#[ch]⟩, .int .i64 sz, .int .i64 pa] 66) = W1 at *
            simp at e2
            generalize hfb : decide (0 ≤ findB (seenOf l k) ch) = fb
            clear hfb
            by_cases h0 : (k : Int) ≤ 0
            · have hz : ((k : Int) == 0) = true := by rw [beq_iff_eq]; omega
              cases hm : (pa != -1) with
              | true =>
                have HB : Hid (validB l = false) := validB_bad hlt (by
                  obtain rfl : k = 0 := by omega
                  rw [HK.out]
                  show (parAt l 0 == -1) = false
                  rw [HP.out, beq_eq_false_iff_ne]
                  exact bne_iff_ne.1 hm)
                refine wp_region_quiet_lit (by kernel_rfl) (by kernel_rfl) ?_
                repeat (first | go_big_quiet_step (fail) | (refine wpQuiet_skip (by rfl) ?_; simp only [Act.put, List.setIfInBounds_toArray, List.set_cons_zero, List.set_cons_succ]))
                refine wpQuiet_nil ?_
                rintro _ ⟨nq, rfl⟩
                go_wp2
                go_ret
                exact ⟨ret_bool HB.out.symm, below_drewN hbG _⟩
              | false =>
                have HB : Hid (AllOk l (k + 1)) := HA.out.succ (by
                  obtain rfl : k = 0 := by omega
                  rw [HK.out]
                  show (parAt l 0 == -1) = true
                  rw [HP.out]
                  simpa using hm)
                have hd : decide (0 < k) = false := decide_eq_false (by omega)
                refine wp_region_quiet_lit (by kernel_rfl) (by kernel_rfl) ?_
                repeat (first | go_big_quiet_step (fail) | (refine wpQuiet_skip (by rfl) ?_; simp only [Act.put, List.setIfInBounds_toArray, List.set_cons_zero, List.set_cons_succ]))
                refine wpQuiet_nil ?_
                rintro _ ⟨nq, rfl⟩
                go_wp2
                go_roundw
                case rel => exact ⟨k + 1, by omega, by go_num, by rw [HQ.out], HB, below_drewN hbG _⟩
                case measure => simp [intOf]; omega
            · have hz : ((k : Int) == 0) = false := by rw [beq_eq_false_iff_ne]; omega
              have h1 : 0 < (k : Int) := by omega
              have HH : Hid _ := parOk_has (l := l) (k := k) (by omega)
              rw [HP.out] at HH
              have hd : decide (0 < k) = true := decide_eq_true (by omega)
              have hkn : 0 < k := by omega
              have HL : Hid ((pathOf l (k - 1)).length ≤ 2097152) := by
                show (chain l (k - 1 + 1) ((k - 1 : Nat) : Int)).reverse.length ≤ _
                rw [List.length_reverse]
                have := chain_len l (k - 1 + 1) ((k - 1 : Nat) : Int)
                omega
              have HV : Hid (hasB (pathOf l (k - 1)) pa = parOk l k) := HH
              clear hd
              refine wp_region_held_drew (S := (fun w' => w'.cell? ⟨G, 2, none⟩ = some (.int .i64 pa) ∧ Below w.heap.size w w')) (by kernel_rfl) ?_ (fun hHeld => ?_)
              · exact ⟨e2, hbG.drew⟩
              refine take_at (i := 0) (d := 35) (v := .int .i64 k) rfl rfl (by kernel_rfl) (by kernel_rfl) (by kernel_rfl) (fun _ _ _ h => h) (by kernel_rfl) (by (intro w hSw; (try dsimp only at hSw); go_simp)) (by assumption) ?_
              simp only [List.setIfInBounds_toArray, List.set_cons_succ, List.set_cons_zero]
              refine take_at (i := 1) (d := 36) (v := .bool false) rfl rfl (by kernel_rfl) (by kernel_rfl) (by kernel_rfl) (fun _ _ _ h => h) (by kernel_rfl) (by (intro w hSw; (try dsimp only at hSw); go_simp)) (by assumption) ?_
              simp only [List.setIfInBounds_toArray, List.set_cons_succ, List.set_cons_zero]
              refine take_at (i := 2) (d := 37) (v := .bool false) rfl rfl (by kernel_rfl) (by kernel_rfl) (by kernel_rfl) (fun _ _ _ h => h) (by kernel_rfl) (by (intro w hSw; (try dsimp only at hSw); go_simp)) (by assumption) ?_
              simp only [List.setIfInBounds_toArray, List.set_cons_succ, List.set_cons_zero]
              refine skip_at (i := 3) (d := 38) rfl rfl (by kernel_rfl) (by kernel_rfl) (by kernel_rfl) (fun _ _ _ h => h) (by kernel_rfl) (by assumption) ?_
              simp only [List.setIfInBounds_toArray, List.set_cons_succ, List.set_cons_zero]
              refine skip_at (i := 4) (d := 39) rfl rfl (by kernel_rfl) (by kernel_rfl) (by kernel_rfl) (fun _ _ _ h => h) (by kernel_rfl) (by assumption) ?_
              simp only [List.setIfInBounds_toArray, List.set_cons_succ, List.set_cons_zero]
              refine skip_at (i := 5) (d := 40) rfl rfl (by kernel_rfl) (by kernel_rfl) (by kernel_rfl) (fun _ _ _ h => h) (by kernel_rfl) (by assumption) ?_
              simp only [List.setIfInBounds_toArray, List.set_cons_succ, List.set_cons_zero]
              refine take_at (i := 6) (d := 41) (v := .bool false) rfl rfl (by kernel_rfl) (by kernel_rfl) (by kernel_rfl) (fun _ _ _ h => h) (by kernel_rfl) (by (intro w hSw; (try dsimp only at hSw); go_simp)) (by assumption) ?_
              simp only [List.setIfInBounds_toArray, List.set_cons_succ, List.set_cons_zero]
              refine take_at (i := 7) (d := 42) (v := .bool false) rfl rfl (by kernel_rfl) (by kernel_rfl) (by kernel_rfl) (fun _ _ _ h => h) (by kernel_rfl) (by (intro w hSw; (try dsimp only at hSw); go_simp)) (by assumption) ?_
              simp only [List.setIfInBounds_toArray, List.set_cons_succ, List.set_cons_zero]
              refine take_at (i := 8) (d := 43) (v := .int .i64 k) rfl rfl (by kernel_rfl) (by kernel_rfl) (by kernel_rfl) (fun _ _ _ h => h) (by kernel_rfl) (by (intro w hSw; (try dsimp only at hSw); go_simp)) (by assumption) ?_
              simp only [List.setIfInBounds_toArray, List.set_cons_succ, List.set_cons_zero]
              refine take_at (i := 9) (d := 44) (v := .bool true) rfl rfl (by kernel_rfl) (by kernel_rfl) (by kernel_rfl) (fun _ _ _ h => h) (by kernel_rfl) (by (intro w hSw; (try dsimp only at hSw); go_simp)) (by assumption) ?_
              simp only [List.setIfInBounds_toArray, List.set_cons_succ, List.set_cons_zero]
              refine take_at (i := 10) (d := 45) (v := .bool true) rfl rfl (by kernel_rfl) (by kernel_rfl) (by kernel_rfl) (fun _ _ _ h => h) (by kernel_rfl) (by (intro w hSw; (try dsimp only at hSw); go_simp)) (by assumption) ?_
              simp only [List.setIfInBounds_toArray, List.set_cons_succ, List.set_cons_zero]
              refine take_at (i := 11) (d := 46) (v := .slice (some ⟨b, o, none⟩) l.length c) rfl rfl (by kernel_rfl) (by kernel_rfl) (by kernel_rfl) (fun _ _ _ h => h) (by kernel_rfl) (by (intro w hSw; (try dsimp only at hSw); go_simp)) (by assumption) ?_
              simp only [List.setIfInBounds_toArray, List.set_cons_succ, List.set_cons_zero]
              refine take_at (i := 12) (d := 47) (v := .int .i64 k) rfl rfl (by kernel_rfl) (by kernel_rfl) (by kernel_rfl) (fun _ _ _ h => h) (by kernel_rfl) (by (intro w hSw; (try dsimp only at hSw); go_simp)) (by assumption) ?_
              simp only [List.setIfInBounds_toArray, List.set_cons_succ, List.set_cons_zero]
              refine take_at (i := 15) (d := 50) (v := .pointer (some ⟨G, 2, none⟩)) rfl rfl (by kernel_rfl) (by kernel_rfl) (by kernel_rfl) (fun _ _ _ h => h) (by kernel_rfl) (by (intro w hSw; (try dsimp only at hSw); go_simp)) (by assumption) ?_
              simp only [List.setIfInBounds_toArray, List.set_cons_succ, List.set_cons_zero]
              refine take_at (i := 13) (d := 48) (v := .int .i64 ((k : Int) - 1)) rfl rfl (by kernel_rfl) (by kernel_rfl) (by kernel_rfl) (fun _ _ _ h => h) (by kernel_rfl) (fun _ _ => run_sub_op rfl rfl rfl (IntWalk.i64_in _ (by omega)) _) (by assumption) ?_
              simp only [List.setIfInBounds_toArray, List.set_cons_succ, List.set_cons_zero]
              refine take_at (i := 16) (d := 51) (v := .int .i64 pa) rfl rfl (by kernel_rfl) (by kernel_rfl) (by kernel_rfl) (fun _ _ _ h => h) (by kernel_rfl) (by (intro w hSw; (try dsimp only at hSw); go_simp)) (by assumption) ?_
              simp only [List.setIfInBounds_toArray, List.set_cons_succ, List.set_cons_zero]
              refine wpAnyH_ready (rs := [14]) (by kernel_rfl) (by simp) ?_
              refine AllReadyH.cons rfl (fun K hK => ?_) AllReadyH.nil
              go_simp
              refine (l1Path_at _ _ _ _ _ _ _ (by rfl) HW.out hHeld.2 hl hlt hkn HA.out).mono ?_
              rintro e w2 ⟨g2, cp2, rfl, hown, hb2⟩
              have hs2 : w2.cell? ⟨G, 2, none⟩ = some (.int .i64 pa) ∧ Below w.heap.size w w2 := ⟨(hb2.cell (p := ⟨G, 2, none⟩) hG).trans hHeld.1, hHeld.2.trans (hb2.mono hHeld.2.size)⟩
              have HO2 := Lib.hid hown
              clear hown hb2 hHeld
              refine hK.out _ _ hs2 (fun hHeld => ?_)
              clear hK K hs2
              refine wpAnyH_ready (rs := [17]) (by kernel_rfl) (by simp) ?_
              refine AllReadyH.cons rfl (fun K hK => ?_) AllReadyH.nil
              go_simp
              refine (l1Has_any _ _ _ _ _ _ HO2.out HL.out).mono ?_
              rw [HV.out]
              rintro e w' ⟨rfl, rfl⟩
              refine hK.out _ _ hHeld (fun hHeld => ?_)
              clear hK K
              refine take_at (i := 18) (d := 53) (v := .bool (!parOk l k)) rfl rfl (by kernel_rfl) (by kernel_rfl) (by kernel_rfl) (fun _ _ _ h => h) (by kernel_rfl) (by (intro w hSw; (try dsimp only at hSw); go_simp)) (by assumption) ?_
              simp only [List.setIfInBounds_toArray, List.set_cons_succ, List.set_cons_zero]
              refine take_at (i := 19) (d := 54) (v := .bool (!parOk l k)) rfl rfl (by kernel_rfl) (by kernel_rfl) (by kernel_rfl) (fun _ _ _ h => h) (by kernel_rfl) (by (intro w hSw; (try dsimp only at hSw); go_simp)) (by assumption) ?_
              simp only [List.setIfInBounds_toArray, List.set_cons_succ, List.set_cons_zero]
              refine take_at (i := 20) (d := 55) (v := .bool (!parOk l k)) rfl rfl (by kernel_rfl) (by kernel_rfl) (by kernel_rfl) (fun _ _ _ h => h) (by kernel_rfl) (by (intro w hSw; (try dsimp only at hSw); go_simp)) (by assumption) ?_
              simp only [List.setIfInBounds_toArray, List.set_cons_succ, List.set_cons_zero]
              refine wpAnyH_done (by kernel_rfl) ?_ _
              have hb3 : Below w.heap.size w w2 := hHeld.2
              clear hHeld hbG
              cases hp : parOk l k with
              | false =>
                have HB : Hid (validB l = false) := validB_bad hlt (by rw [HK.out, hp])
                clear hp
                go_wp2
                go_ret
                exact ⟨ret_bool HB.out.symm, hb3⟩
              | true =>
                have HB : Hid (AllOk l (k + 1)) := HA.out.succ (by rw [HK.out, hp])
                clear hp
                go_wp2
                go_roundw
                case rel => exact ⟨k + 1, by omega, by go_num, by rw [HQ.out], HB, hb3⟩
                case measure => simp [intOf]; omega
    · go_wp2_with fail
      refine (l1In_any _ _ _ _).mono ?_
      rintro e w' ⟨rfl, rfl⟩
      go_wp2
      go_ret
      refine ⟨ret_bool ?_, hb⟩
      obtain rfl : k = l.length := by omega
      rw [validB_all HA.out]
      unfold inB
      congr 1 <;> (apply decide_eq_decide.2; omega)

end Go.Proofs.YtdbddockmdkmeaaDoor
