/- Joined: Sn Ts Tt Ix Fa. -/
import Derived.Test.YteokbgfiokbojaaGreatU01
/- The names that were seen. -/
namespace Go.Proofs.YteokbgfiokbojaaGreat
open Go.RowKit

/-- The names of the first 'k' segments, one behind the other. -/
def seenOf (l : List Seg) (k : Nat) : ByteArray := ⟨((l.take k).flatMap (fun s => s.name.data.toList)).toArray⟩
theorem seenOf_succ {l : List Seg} {k : Nat} (hk : k < l.length) : seenOf l (k + 1) = seenOf l k ++ l[k].name := by
  apply WideShapes.bytes_inj
  show _ = (seenOf l k ++ l[k].name).data.toList
  rw [ByteArray.data_append, Array.toList_append]
  show ((l.take (k + 1)).flatMap (fun s => s.name.data.toList)) = ((l.take k).flatMap (fun s => s.name.data.toList)) ++ _
  rw [List.take_succ_eq_append_getElem hk, List.flatMap_append, List.flatMap_cons, List.flatMap_nil, List.append_nil]
theorem AllOk.name {l : List Seg} {k j : Nat} (h : AllOk l k) (hj : j < k) {s : Seg} (hs : l[j]? = some s) : nameOk s.name = true := by
  have := h j hj
  unfold segOk at this
  rw [hs] at this
  simp only [Bool.and_eq_true] at this
  exact this.1.1.1
theorem mem_take_name {l : List Seg} {k : Nat} (h : AllOk l k) {s : Seg} (hs : s ∈ l.take k) : nameOk s.name = true := by
  obtain ⟨j, hj, rfl⟩ := List.getElem_of_mem hs
  have hjk : j < k := by rw [List.length_take] at hj; omega
  refine h.name hjk ?_
  rw [List.getElem_take]
  exact List.getElem?_eq_getElem _
theorem seenOf_len {l : List Seg} {k : Nat} (h : AllOk l k) : (seenOf l k).size ≤ l.length := by
  show ((l.take k).flatMap (fun s => s.name.data.toList)).toArray.size ≤ _
  rw [List.size_toArray, List.length_flatMap]
  have h1 : ∀ s ∈ l.take k, (s.name.data.toList).length = 1 := fun s hs => by
    obtain ⟨c, hc, _⟩ := nameOk_one (mem_take_name h hs)
    rw [hc]; rfl
  have h2 : ((l.take k).map fun s => s.name.data.toList.length) = (l.take k).map fun _ => 1 := List.map_congr_left h1
  rw [h2, List.map_const', List.sum_replicate_nat, Nat.mul_one]
  exact List.length_take_le' k l
theorem seenOf_mem {l : List Seg} {k : Nat} (h : AllOk l k) (c : UInt8) : c ∈ (seenOf l k).data.toList ↔ takenB (l.take k) ⟨#[c]⟩ = true := by
  unfold takenB seenOf
  rw [List.any_eq_true]
  show c ∈ ((l.take k).flatMap (fun s => s.name.data.toList)) ↔ _
  rw [List.mem_flatMap]
  constructor
  · rintro ⟨s, hs, hc⟩
    refine ⟨s, hs, sameB_iff.2 ?_⟩
    obtain ⟨d, hd, _⟩ := nameOk_one (mem_take_name h hs)
    rw [hd] at hc ⊢
    have : c = d := by simpa using hc
    rw [this]
  · rintro ⟨s, hs, hc⟩
    exact ⟨s, hs, by rw [sameB_iff.1 hc]; simp⟩
theorem find_seen {l : List Seg} {k : Nat} (h : AllOk l k) (c : UInt8) : decide (0 ≤ findB (seenOf l k) c) = takenB (l.take k) ⟨#[c]⟩ := by
  rw [Bool.eq_iff_iff, decide_eq_true_iff, findB_lo, seenOf_mem h]

end Go.Proofs.YteokbgfiokbojaaGreat
/- spec.TreeValid is 'validB'. -/
namespace Go.Proofs.YteokbgfiokbojaaGreat
open Go.RowKit

theorem l1Path_at (A : Option Addr) (l : List Seg) (c k : Nat) (q : Int) (w0 w : World) (hq : q = (k : Int) - 1) (hw : Segs w0 w0.heap.size A l) (hb : Below w0.heap.size w0 w) (hl : l.length ≤ 1048576) (hk : k < l.length) (h0 : 0 < k) (hd : AllOk l k) :
    Calls Tryz.prog 66 #[.slice A l.length c, .int .i64 q] w (IntsPost w (pathOf l (k - 1))) := by
  rw [hq, show ((k : Int) - 1) = ((k - 1 : Nat) : Int) by omega]
  exact l1Path_any A l c (k - 1) w ((hw.below hb).more hb.size) hl (by omega) (hd.down.mono (by omega))
theorem parOk_has {l : List Seg} {k : Nat} (h0 : 0 < k) : hasB (pathOf l (k - 1)) (parAt l k) = parOk l k := by
  unfold parOk pathOf
  rw [hasB_reverse, if_neg (by omega), show k - 1 + 1 = k by omega, show ((k - 1 : Nat) : Int) = (k : Int) - 1 by omega]

set_option maxRecDepth 100000 in
set_option maxHeartbeats 4000000 in
theorem specTreeValid_any (A : Option Addr) (l : List Seg) (c : Nat) (w : World) (hw : Segs w w.heap.size A l) (hl : l.length ≤ 1048576) (hn : Short l) :
    Calls Tryz.prog 46 #[.slice A l.length c] w fun e w' => e = .returned (.bool (validB l)) ∧ Below w.heap.size w w' := by
  have HW : Hid (Segs w w.heap.size A l) := hw
  clear hw
  go_enter Tryz.func46, Tryz.ntmps46
  go_wp2
  go_loopw [3, 8] (fun s i wr => ∃ (k : Nat), k ≤ l.length ∧ i = .int .i64 k ∧ s = .string (seenOf l k) ∧ Hid (AllOk l k) ∧ Below w.heap.size w wr)
    (fun _ i _ => l.length - (intOf i).toNat)
  case atStart => exact ⟨0, Nat.zero_le _, rfl, rfl, fun j hj => absurd hj (by omega), Below.refl _ _⟩
  case round =>
    obtain ⟨k, hk, rfl, rfl, HA, hb⟩ := hrel
    by_cases hlt : k < l.length
    · obtain ⟨b, o, rfl, hB, hc⟩ := HW.out (by omega)
      obtain ⟨c0, c1, c2⟩ := hc k l[k] (List.getElem?_eq_getElem hlt)
      clear hc
      rw [← hb.cell hB] at c0 c1 c2
      have HO : Hid _ := segOk_of hlt
      have HS : Hid _ := hn l[k] (List.getElem_mem hlt)
      have HP : Hid _ := parAt_of (List.getElem?_eq_getElem hlt)
      have HQ : Hid _ := seenOf_succ hlt
      have hlen : (seenOf l k).size ≤ 1048576 := Nat.le_trans (seenOf_len HA.out) hl
      have hk0 : (0 : Int) ≤ (k : Int) := Int.natCast_nonneg _
      have hkl : (k : Int) < (l.length : Int) := by omega
      generalize l[k] = x at *
      obtain ⟨nm, sz, pa⟩ := x
      dsimp only at c0 c1 c2 HO HS HP HQ
      have hbG : Below w.heap.size w (wr.alloc (.cells #[.string nm, .int .i64 sz, .int .i64 pa] 71)) := hb.alloc hb.size _
      have HR : Hid (Row (wr.alloc (.cells #[.string nm, .int .i64 sz, .int .i64 pa] 71)) wr.heap.size 71 #[.string nm, .int .i64 sz, .int .i64 pa]) := Row.new _ _ _
      cases hN : nameOk nm with
      | false =>
        have HB : Hid (validB l = false) := validB_bad hlt (by rw [HO.out, hN]; rfl)
        go_wp2_with fail
        refine (l1Name_any _ _ HS.out).mono ?_
        rw [hN]
        rintro e w' ⟨rfl, rfl⟩
        go_wp2_with fail
        go_ret
        exact ⟨ret_bool HB.out.symm, hbG⟩
      | true =>
        obtain ⟨ch, rfl, _⟩ := nameOk_one hN
        have HF : Hid _ := find_seen HA.out ch
        have H1 := at_one ch
        go_wp2_with fail
        refine (l1Name_any _ _ HS.out).mono ?_
        rw [hN]
        rintro e w' ⟨rfl, rfl⟩
        cases hT : takenB (l.take k) ⟨#[ch]⟩ with
        | true =>
          have HB : Hid (validB l = false) := validB_bad hlt (by rw [HO.out, hN, hT]; rfl)
          have hf : 0 ≤ findB (seenOf l k) ch := of_decide_eq_true (HF.out.trans hT)
          go_wp2_with fail
          refine (l13Find_any _ _ _ (by simp [maxLen]; omega)).mono ?_
          rintro e w' ⟨rfl, rfl⟩
          go_wp2_with fail
          go_ret
          exact ⟨ret_bool HB.out.symm, hbG⟩
        | false =>
          have hf : ¬ 0 ≤ findB (seenOf l k) ch := of_decide_eq_false (HF.out.trans hT)
          cases hZ : sizeOk sz with
          | false =>
            have HB : Hid (validB l = false) := validB_bad hlt (by rw [HO.out, hN, hT, hZ]; rfl)
            go_wp2_with fail
            refine (l13Find_any _ _ _ (by simp [maxLen]; omega)).mono ?_
            rintro e w' ⟨rfl, rfl⟩
            go_wp2_with fail
            refine (l1In_any _ _ _ _).mono ?_
            rw [show inB sz 1 99 = false from hZ]
            rintro e w' ⟨rfl, rfl⟩
            go_wp2_with fail
            go_ret
            exact ⟨ret_bool HB.out.symm, hbG⟩
          | true =>
            have HK : Hid (segOk l k = parOk l k) := by
              show _ = _
              rw [HO.out, hN, hT, hZ]; rfl
            have HF' := Lib.hid hf
            clear hf
            go_wp2_with fail
            refine (l13Find_any _ _ _ (by simp [maxLen]; omega)).mono ?_
            rintro e w' ⟨rfl, rfl⟩
            have hf := HF'.out
            go_wp2_with fail
            refine (l1In_any _ _ _ _).mono ?_
            rw [show inB sz 1 99 = true from hZ]
            rintro e w' ⟨rfl, rfl⟩
            go_wp2_with fail
            have hs2 : ((seenOf l k) ++ (⟨#[ch]⟩ : ByteArray)) = seenOf l (k + 1) := HQ.out.symm
            have e2 := HR.out.cell 2
            have hG := HR.out.lt
            clear hf hs2
            have hpa : ((pa : Int) == parAt l k) = true := by rw [HP.out]; simp
            clear hpa
            generalize wr.heap.size = G at *
            generalize wr.alloc (.cells #[.string ⟨#[ch]⟩, .int .i64 sz, .int .i64 pa] 71) = W1 at *
            simp at e2
            generalize hfb : decide (0 ≤ findB (seenOf l k) ch) = fb
            clear hfb
            by_cases h0 : (k : Int) ≤ 0
            · have hz : ((k : Int) == 0) = true := by rw [beq_iff_eq]; omega
              cases hm : (pa != -1) with
              | true =>
                have HB : Hid (validB l = false) := validB_bad hlt (by
                  obtain rfl : k = 0 := by omega
                  rw [HK.out]
                  show (parAt l 0 == -1) = false
                  rw [HP.out, beq_eq_false_iff_ne]
                  exact bne_iff_ne.1 hm)
                refine wp_region_quiet_lit (by kernel_rfl) (by kernel_rfl) ?_
                repeat (first | go_big_quiet_step (fail) | (refine wpQuiet_skip (by rfl) ?_; simp only [Act.put, List.setIfInBounds_toArray, List.set_cons_zero, List.set_cons_succ]))
                refine wpQuiet_nil ?_
                rintro _ ⟨nq, rfl⟩
                go_wp2
                go_ret
                exact ⟨ret_bool HB.out.symm, below_drewN hbG _⟩
              | false =>
                have HB : Hid (AllOk l (k + 1)) := HA.out.succ (by
                  obtain rfl : k = 0 := by omega
                  rw [HK.out]
                  show (parAt l 0 == -1) = true
                  rw [HP.out]
                  simpa using hm)
                have hd : decide (0 < k) = false := decide_eq_false (by omega)
                refine wp_region_quiet_lit (by kernel_rfl) (by kernel_rfl) ?_
                repeat (first | go_big_quiet_step (fail) | (refine wpQuiet_skip (by rfl) ?_; simp only [Act.put, List.setIfInBounds_toArray, List.set_cons_zero, List.set_cons_succ]))
                refine wpQuiet_nil ?_
                rintro _ ⟨nq, rfl⟩
                go_wp2
                go_roundw
                case rel => exact ⟨k + 1, by omega, by go_num, by rw [HQ.out], HB, below_drewN hbG _⟩
                case measure => simp [intOf]; omega
            · have hz : ((k : Int) == 0) = false := by rw [beq_eq_false_iff_ne]; omega
              have h1 : 0 < (k : Int) := by omega
              have HH : Hid _ := parOk_has (l := l) (k := k) (by omega)
              rw [HP.out] at HH
              have hd : decide (0 < k) = true := decide_eq_true (by omega)
              have hkn : 0 < k := by omega
              have HL : Hid ((pathOf l (k - 1)).length ≤ 2097152) := by
                show (chain l (k - 1 + 1) ((k - 1 : Nat) : Int)).reverse.length ≤ _
                rw [List.length_reverse]
                have := chain_len l (k - 1 + 1) ((k - 1 : Nat) : Int)
                omega
              have HV : Hid (hasB (pathOf l (k - 1)) pa = parOk l k) := HH
              clear hd
              refine wp_region_held_drew (S := (fun w' => w'.cell? ⟨G, 2, none⟩ = some (.int .i64 pa) ∧ Below w.heap.size w w')) (by kernel_rfl) ?_ (fun hHeld => ?_)
              · exact ⟨e2, hbG.drew⟩
              refine take_at (i := 0) (d := 35) (v := .int .i64 k) rfl rfl (by kernel_rfl) (by kernel_rfl) (by kernel_rfl) (fun _ _ _ h => h) (by kernel_rfl) (by (intro w hSw; (try dsimp only at hSw); go_simp)) (by assumption) ?_
              simp only [List.setIfInBounds_toArray, List.set_cons_succ, List.set_cons_zero]
              refine take_at (i := 1) (d := 36) (v := .bool false) rfl rfl (by kernel_rfl) (by kernel_rfl) (by kernel_rfl) (fun _ _ _ h => h) (by kernel_rfl) (by (intro w hSw; (try dsimp only at hSw); go_simp)) (by assumption) ?_
              simp only [List.setIfInBounds_toArray, List.set_cons_succ, List.set_cons_zero]
              refine take_at (i := 2) (d := 37) (v := .bool false) rfl rfl (by kernel_rfl) (by kernel_rfl) (by kernel_rfl) (fun _ _ _ h => h) (by kernel_rfl) (by (intro w hSw; (try dsimp only at hSw); go_simp)) (by assumption) ?_
              simp only [List.setIfInBounds_toArray, List.set_cons_succ, List.set_cons_zero]
              refine skip_at (i := 3) (d := 38) rfl rfl (by kernel_rfl) (by kernel_rfl) (by kernel_rfl) (fun _ _ _ h => h) (by kernel_rfl) (by assumption) ?_
              simp only [List.setIfInBounds_toArray, List.set_cons_succ, List.set_cons_zero]
              refine skip_at (i := 4) (d := 39) rfl rfl (by kernel_rfl) (by kernel_rfl) (by kernel_rfl) (fun _ _ _ h => h) (by kernel_rfl) (by assumption) ?_
              simp only [List.setIfInBounds_toArray, List.set_cons_succ, List.set_cons_zero]
              refine skip_at (i := 5) (d := 40) rfl rfl (by kernel_rfl) (by kernel_rfl) (by kernel_rfl) (fun _ _ _ h => h) (by kernel_rfl) (by assumption) ?_
              simp only [List.setIfInBounds_toArray, List.set_cons_succ, List.set_cons_zero]
              refine take_at (i := 6) (d := 41) (v := .bool false) rfl rfl (by kernel_rfl) (by kernel_rfl) (by kernel_rfl) (fun _ _ _ h => h) (by kernel_rfl) (by (intro w hSw; (try dsimp only at hSw); go_simp)) (by assumption) ?_
              simp only [List.setIfInBounds_toArray, List.set_cons_succ, List.set_cons_zero]
              refine take_at (i := 7) (d := 42) (v := .bool false) rfl rfl (by kernel_rfl) (by kernel_rfl) (by kernel_rfl) (fun _ _ _ h => h) (by kernel_rfl) (by (intro w hSw; (try dsimp only at hSw); go_simp)) (by assumption) ?_
              simp only [List.setIfInBounds_toArray, List.set_cons_succ, List.set_cons_zero]
              refine take_at (i := 8) (d := 43) (v := .int .i64 k) rfl rfl (by kernel_rfl) (by kernel_rfl) (by kernel_rfl) (fun _ _ _ h => h) (by kernel_rfl) (by (intro w hSw; (try dsimp only at hSw); go_simp)) (by assumption) ?_
              simp only [List.setIfInBounds_toArray, List.set_cons_succ, List.set_cons_zero]
              refine take_at (i := 9) (d := 44) (v := .bool true) rfl rfl (by kernel_rfl) (by kernel_rfl) (by kernel_rfl) (fun _ _ _ h => h) (by kernel_rfl) (by (intro w hSw; (try dsimp only at hSw); go_simp)) (by assumption) ?_
              simp only [List.setIfInBounds_toArray, List.set_cons_succ, List.set_cons_zero]
              refine take_at (i := 10) (d := 45) (v := .bool true) rfl rfl (by kernel_rfl) (by kernel_rfl) (by kernel_rfl) (fun _ _ _ h => h) (by kernel_rfl) (by (intro w hSw; (try dsimp only at hSw); go_simp)) (by assumption) ?_
              simp only [List.setIfInBounds_toArray, List.set_cons_succ, List.set_cons_zero]
              refine take_at (i := 11) (d := 46) (v := .slice (some ⟨b, o, none⟩) l.length c) rfl rfl (by kernel_rfl) (by kernel_rfl) (by kernel_rfl) (fun _ _ _ h => h) (by kernel_rfl) (by (intro w hSw; (try dsimp only at hSw); go_simp)) (by assumption) ?_
              simp only [List.setIfInBounds_toArray, List.set_cons_succ, List.set_cons_zero]
              refine take_at (i := 12) (d := 47) (v := .int .i64 k) rfl rfl (by kernel_rfl) (by kernel_rfl) (by kernel_rfl) (fun _ _ _ h => h) (by kernel_rfl) (by (intro w hSw; (try dsimp only at hSw); go_simp)) (by assumption) ?_
              simp only [List.setIfInBounds_toArray, List.set_cons_succ, List.set_cons_zero]
              refine take_at (i := 15) (d := 50) (v := .pointer (some ⟨G, 2, none⟩)) rfl rfl (by kernel_rfl) (by kernel_rfl) (by kernel_rfl) (fun _ _ _ h => h) (by kernel_rfl) (by (intro w hSw; (try dsimp only at hSw); go_simp)) (by assumption) ?_
              simp only [List.setIfInBounds_toArray, List.set_cons_succ, List.set_cons_zero]
              refine take_at (i := 13) (d := 48) (v := .int .i64 ((k : Int) - 1)) rfl rfl (by kernel_rfl) (by kernel_rfl) (by kernel_rfl) (fun _ _ _ h => h) (by kernel_rfl) (fun _ _ => run_sub_op rfl rfl rfl (IntWalk.i64_in _ (by omega)) _) (by assumption) ?_
              simp only [List.setIfInBounds_toArray, List.set_cons_succ, List.set_cons_zero]
              refine take_at (i := 16) (d := 51) (v := .int .i64 pa) rfl rfl (by kernel_rfl) (by kernel_rfl) (by kernel_rfl) (fun _ _ _ h => h) (by kernel_rfl) (by (intro w hSw; (try dsimp only at hSw); go_simp)) (by assumption) ?_
              simp only [List.setIfInBounds_toArray, List.set_cons_succ, List.set_cons_zero]
              refine wpAnyH_ready (rs := [14]) (by kernel_rfl) (by simp) ?_
              refine AllReadyH.cons rfl (fun K hK => ?_) AllReadyH.nil
              go_simp
              refine (l1Path_at _ _ _ _ _ _ _ (by rfl) HW.out hHeld.2 hl hlt hkn HA.out).mono ?_
              rintro e w2 ⟨g2, cp2, rfl, hown, hb2⟩
              have hs2 : w2.cell? ⟨G, 2, none⟩ = some (.int .i64 pa) ∧ Below w.heap.size w w2 := ⟨(hb2.cell (p := ⟨G, 2, none⟩) hG).trans hHeld.1, hHeld.2.trans (hb2.mono hHeld.2.size)⟩
              have HO2 := Lib.hid hown
              clear hown hb2 hHeld
              refine hK.out _ _ hs2 (fun hHeld => ?_)
              clear hK K hs2
              refine wpAnyH_ready (rs := [17]) (by kernel_rfl) (by simp) ?_
              refine AllReadyH.cons rfl (fun K hK => ?_) AllReadyH.nil
              go_simp
              refine (l1Has_any _ _ _ _ _ _ HO2.out HL.out).mono ?_
              rw [HV.out]
              rintro e w' ⟨rfl, rfl⟩
              refine hK.out _ _ hHeld (fun hHeld => ?_)
              clear hK K
              refine take_at (i := 18) (d := 53) (v := .bool (!parOk l k)) rfl rfl (by kernel_rfl) (by kernel_rfl) (by kernel_rfl) (fun _ _ _ h => h) (by kernel_rfl) (by (intro w hSw; (try dsimp only at hSw); go_simp)) (by assumption) ?_
              simp only [List.setIfInBounds_toArray, List.set_cons_succ, List.set_cons_zero]
              refine take_at (i := 19) (d := 54) (v := .bool (!parOk l k)) rfl rfl (by kernel_rfl) (by kernel_rfl) (by kernel_rfl) (fun _ _ _ h => h) (by kernel_rfl) (by (intro w hSw; (try dsimp only at hSw); go_simp)) (by assumption) ?_
              simp only [List.setIfInBounds_toArray, List.set_cons_succ, List.set_cons_zero]
              refine take_at (i := 20) (d := 55) (v := .bool (!parOk l k)) rfl rfl (by kernel_rfl) (by kernel_rfl) (by kernel_rfl) (fun _ _ _ h => h) (by kernel_rfl) (by (intro w hSw; (try dsimp only at hSw); go_simp)) (by assumption) ?_
              simp only [List.setIfInBounds_toArray, List.set_cons_succ, List.set_cons_zero]
              refine wpAnyH_done (by kernel_rfl) ?_ _
              have hb3 : Below w.heap.size w w2 := hHeld.2
              clear hHeld hbG
              cases hp : parOk l k with
              | false =>
                have HB : Hid (validB l = false) := validB_bad hlt (by rw [HK.out, hp])
                clear hp
                go_wp2
                go_ret
                exact ⟨ret_bool HB.out.symm, hb3⟩
              | true =>
                have HB : Hid (AllOk l (k + 1)) := HA.out.succ (by rw [HK.out, hp])
                clear hp
                go_wp2
                go_roundw
                case rel => exact ⟨k + 1, by omega, by go_num, by rw [HQ.out], HB, hb3⟩
                case measure => simp [intOf]; omega
    · go_wp2_with fail
      refine (l1In_any _ _ _ _).mono ?_
      rintro e w' ⟨rfl, rfl⟩
      go_wp2
      go_ret
      refine ⟨ret_bool ?_, hb⟩
      obtain rfl : k = l.length := by omega
      rw [validB_all HA.out]
      unfold inB
      congr 1 <;> (apply decide_eq_decide.2; omega)

end Go.Proofs.YteokbgfiokbojaaGreat
/- Totals of sizes: the program's and the model's. -/
namespace Go.Proofs.YteokbgfiokbojaaGreat
open Go.RowKit

theorem valid_all {l : List Seg} (h : validB l = true) : AllOk l l.length ∧ l.length ≤ 8 ∧ 1 ≤ l.length := by
  unfold validB at h
  simp only [Bool.and_eq_true, decide_eq_true_eq] at h
  exact ⟨allB_iff.1 h.2, h.1.2, h.1.1⟩
end Go.Proofs.YteokbgfiokbojaaGreat
/- Which segment has a name: the model's side. -/
namespace Go.Proofs.YteokbgfiokbojaaGreat
open Go.RowKit

def seekFrom (s : ByteArray) : List Seg → Nat → Int
  | [], _ => -1
  | x :: l, k => if sameB x.name s = true then (k : Int) else seekFrom s l (k + 1)
def seek (l : List Seg) (s : ByteArray) : Int := seekFrom s l 0
theorem seekFrom_bd (s : ByteArray) : ∀ (l : List Seg) (k : Nat), seekFrom s l k = -1 ∨ ((k : Int) ≤ seekFrom s l k ∧ seekFrom s l k < k + l.length)
  | [], k => .inl rfl
  | x :: l, k => by
    unfold seekFrom
    by_cases h : sameB x.name s = true
    · rw [if_pos h]; right; simp only [List.length_cons]; omega
    · rw [if_neg h]
      rcases seekFrom_bd s l (k + 1) with h1 | h1
      · exact .inl h1
      · right; simp only [List.length_cons]; omega
theorem seek_bd (l : List Seg) (s : ByteArray) : seek l s = -1 ∨ (0 ≤ seek l s ∧ seek l s < l.length) := by
  have := seekFrom_bd s l 0
  simpa [seek] using this
theorem seekFrom_drop (l : List Seg) (s : ByteArray) (k : Nat) (hk : k < l.length) : seekFrom s (l.drop k) k = if sameB l[k].name s = true then (k : Int) else seekFrom s (l.drop (k + 1)) (k + 1) := by
  rw [List.drop_eq_getElem_cons hk]
  rfl
theorem seekFrom_name (s : ByteArray) : ∀ (l : List Seg) (k j : Nat), seekFrom s l k = ((k + j : Nat) : Int) → ∃ x, l[j]? = some x ∧ x.name = s
  | [], k, j, h => by simp [seekFrom] at h; omega
  | x :: l, k, j, h => by
    unfold seekFrom at h
    by_cases hx : sameB x.name s = true
    · rw [if_pos hx] at h
      obtain rfl : j = 0 := by omega
      exact ⟨x, rfl, sameB_iff.1 hx⟩
    · rw [if_neg hx] at h
      rcases seekFrom_bd s l (k + 1) with h1 | h1
      · omega
      · obtain ⟨j', rfl⟩ : ∃ j', j = j' + 1 := ⟨j - 1, by omega⟩
        obtain ⟨y, hy, hn⟩ := seekFrom_name s l (k + 1) j' (by rw [h]; omega)
        exact ⟨y, by simpa using hy, hn⟩
theorem seek_name {l : List Seg} {s : ByteArray} {j : Nat} (h : seek l s = (j : Int)) : ∃ x, l[j]? = some x ∧ x.name = s :=
  seekFrom_name s l 0 j (by rw [Nat.zero_add]; exact h)

/-- The index of a name within a valid list, or -1. -/
def indexB (l : List Seg) (s : ByteArray) : Int := if validB l = true then seek l s else -1

set_option maxRecDepth 100000 in
set_option maxHeartbeats 400000 in
theorem l1Index_any (A : Option Addr) (l : List Seg) (c : Nat) (s : ByteArray) (w : World) (hw : Segs w w.heap.size A l) (hl : l.length ≤ 1048576) (hn : Short l) :
    Calls Tryz.prog 102 #[.slice A l.length c, .string s] w fun e w' => e = .returned (.int .i64 (indexB l s)) ∧ Below w.heap.size w w' := by
  have HW : Hid (Segs w w.heap.size A l) := hw
  clear hw
  cases hv : validB l with
  | false =>
    have HF : Hid (indexB l s = -1) := if_neg (by rw [hv]; decide)
    go_enter Tryz.func102, Tryz.ntmps102
    go_wp2_with fail
    refine (specTreeValid_any _ _ _ _ HW.out hl hn).mono ?_
    rw [hv]
    rintro e w1 ⟨rfl, hb1⟩
    go_wp2
    go_ret
    exact ⟨ret_int HF.out.symm, hb1⟩
  | true =>
    have HF : Hid (indexB l s = seek l s) := if_pos hv
    go_enter Tryz.func102, Tryz.ntmps102
    go_wp2_with fail
    refine (specTreeValid_any _ _ _ _ HW.out hl hn).mono ?_
    rw [hv]
    rintro e w1 ⟨rfl, hb1⟩
    clear hv
    go_wp2
    go_loopw [12] (fun i wr => ∃ (k : Nat), k ≤ l.length ∧ i = .int .i64 k ∧ Hid (seek l s = seekFrom s (l.drop k) k) ∧ Below w.heap.size w wr)
      (fun i _ => l.length - (intOf i).toNat)
    case atStart => exact ⟨0, Nat.zero_le _, rfl, rfl, hb1⟩
    case round =>
      obtain ⟨k, hk, rfl, HN, hb⟩ := hrel
      clear hb1
      by_cases hlt : k < l.length
      · obtain ⟨b, o, rfl, hB, hc⟩ := HW.out (by omega)
        obtain ⟨c0, c1, c2⟩ := hc k l[k] (List.getElem?_eq_getElem hlt)
        clear hc
        rw [← hb.cell hB] at c0 c1 c2
        have HD : Hid _ := seekFrom_drop l s k hlt
        generalize l[k] = x at *
        cases ht : (x.name.toList == s.toList) with
        | true =>
          have HE : Hid (indexB l s = k) := by
            show _ = _
            rw [HF.out, HN.out, HD.out]
            exact if_pos ht
          go_wp2
          go_ret
          exact ⟨ret_int HE.out.symm, hb.alloc hb.size _⟩
        | false =>
          have HE : Hid (seek l s = seekFrom s (l.drop (k + 1)) (k + 1)) := by
            show _ = _
            rw [HN.out, HD.out]
            exact if_neg (by rw [show sameB x.name s = false from ht]; decide)
          go_wp2
          go_roundw
          case rel => exact ⟨k + 1, by omega, by go_num, HE, hb.alloc hb.size _⟩
          case measure => simp [intOf]; omega
      · go_wp2
        go_ret
        exact ⟨ret_int (by rw [HF.out, HN.out, List.drop_of_length_le (by omega)]; rfl), hb⟩

def sizeAt (l : List Seg) (i : Nat) : Int := match l[i]? with
  | some s => s.size
  | none => -1
theorem indexB_bd (l : List Seg) (s : ByteArray) : indexB l s = -1 ∨ (0 ≤ indexB l s ∧ indexB l s < l.length) := by
  unfold indexB
  split
  · exact seek_bd l s
  · exact .inl rfl

end Go.Proofs.YteokbgfiokbojaaGreat
/- Traces, plain: the calls of a trace, how they are read, and what they tell. -/
namespace Go.Proofs.YteokbgfiokbojaaGreat
open Go.RowKit

/-- Calls one behind the other: the first one's segment, the calls within it, and those behind it. -/
inductive Forest where
  | nil
  | cons (c : UInt8) (k r : Forest)

namespace Forest
def len : Forest → Nat
  | nil => 0
  | cons _ _ r => r.len + 1
def isNil : Forest → Bool
  | nil => true
  | cons _ _ _ => false
def app : Forest → Forest → Forest
  | nil, g => g
  | cons c k r, g => cons c k (r.app g)
theorem app_nil : ∀ f : Forest, f.app nil = f
  | nil => rfl
  | cons c k r => by show cons c k (r.app nil) = _; rw [app_nil r]
theorem app_assoc : ∀ f g h : Forest, (f.app g).app h = f.app (g.app h)
  | nil, _, _ => rfl
  | cons c k r, g, h => by show cons c k ((r.app g).app h) = _; rw [app_assoc r]; rfl
theorem app_len : ∀ f g : Forest, (f.app g).len = f.len + g.len
  | nil, g => by show g.len = 0 + g.len; omega
  | cons c k r, g => by show (r.app g).len + 1 = r.len + 1 + g.len; rw [app_len r]; omega
theorem isNil_len (f : Forest) : f.isNil = decide (f.len = 0) := by cases f <;> simp [isNil, len]
theorem snoc_isNil (f : Forest) (c : UInt8) (k : Forest) : (f.app (cons c k nil)).isNil = false := by cases f <;> rfl
/-- How many calls there are in all. -/
def size : Forest → Nat
  | nil => 0
  | cons _ k r => k.size + r.size + 1
theorem len_size : ∀ f : Forest, f.len ≤ f.size
  | nil => Nat.le_refl 0
  | cons _ k r => by have := len_size r; show r.len + 1 ≤ k.size + r.size + 1; omega
/-- How many lie within each other. -/
def deep : Forest → Nat
  | nil => 0
  | cons _ k r => max (k.deep + 1) r.deep
end Forest

/-- What was read, and the rest. -/
abbrev Got := Option (Forest × List UInt8)

/-- A closing parenthesis behind at least one call. -/
def closed : Got → Got
  | none => none
  | some (.nil, _) => none
  | some (.cons _ _ _, []) => none
  | some (.cons c k f, x :: r) => if x = 41 then some (.cons c k f, r) else none
/-- What comes behind a name. -/
def innerBy (rd : Nat → List UInt8 → Got) (d : Nat) : List UInt8 → Got
  | [] => some (.nil, [])
  | c :: r => if c = 40 then closed (rd d r) else some (.nil, c :: r)
def callBy (P : UInt8 → Bool) (rd : Nat → List UInt8 → Got) : Nat → UInt8 → List UInt8 → Got
  | 0, _, _ => none
  | d + 1, c, r => if P c = true then innerBy rd d r else none
/-- The calls behind a call. -/
def thenBy (c : UInt8) (more : List UInt8 → Got) : Got → Got
  | none => none
  | some (k, r) => match more r with
    | none => none
    | some (f, r2) => some (.cons c k f, r2)
/-- Calls up to the end or to a closing parenthesis, with so many levels left. -/
def rd (P : UInt8 → Bool) : Nat → Nat → List UInt8 → Got
  | 0, _, _ => none
  | _ + 1, _, [] => some (.nil, [])
  | n + 1, d, c :: r => if c = 41 then some (.nil, c :: r) else thenBy c (fun s => rd P n d s) (callBy P (fun e s => rd P n e s) d c r)

/-- No longer than it was. -/
def Less (g : Got) (n : Nat) : Prop := ∀ f r, g = some (f, r) → r.length ≤ n
theorem closed_less {g : Got} {n : Nat} (h : Less g (n + 1)) : Less (closed g) n := by
  intro f r e
  unfold closed at e
  split at e
  · cases e
  · cases e
  · cases e
  · next c k f' x r' =>
    split at e
    · injection e with e
      injection e with e1 e2
      subst e2
      have := h _ _ rfl
      simp at this
      omega
    · cases e
theorem Less.mono {g : Got} {n m : Nat} (h : Less g n) (hm : n ≤ m) : Less g m := fun f r e => Nat.le_trans (h f r e) hm
theorem innerBy_less {rd : Nat → List UInt8 → Got} {d : Nat} {s : List UInt8} (h : ∀ e r, r.length < s.length → Less (rd e r) r.length) : Less (innerBy rd d s) s.length := by
  unfold innerBy
  split
  · intro f r e
    injection e with e
    injection e with e1 e2
    subst e2
    exact Nat.le_refl _
  · next c r =>
    split
    · exact closed_less (((h d r (by simp)).mono (by simp; omega)))
    · intro f r' e
      injection e with e
      injection e with e1 e2
      subst e2
      exact Nat.le_refl _
theorem callBy_less {P : UInt8 → Bool} {rd : Nat → List UInt8 → Got} {d : Nat} {c : UInt8} {s : List UInt8} (h : ∀ e r, r.length < s.length → Less (rd e r) r.length) : Less (callBy P rd d c s) s.length := by
  unfold callBy
  split
  · intro f r e; cases e
  · split
    · exact innerBy_less h
    · intro f r e; cases e
theorem rd_less (P : UInt8 → Bool) : ∀ (n d : Nat) (s : List UInt8), Less (rd P n d s) s.length
  | 0, _, _ => fun f r e => by cases e
  | n + 1, d, [] => fun f r e => by
    injection e with e
    injection e with e1 e2
    subst e2
    exact Nat.le_refl _
  | n + 1, d, c :: s => fun f r e => by
    unfold rd at e
    split at e
    · injection e with e
      injection e with e1 e2
      subst e2
      exact Nat.le_refl _
    · have h1 : Less (callBy P (fun e s => rd P n e s) d c s) s.length := callBy_less fun e r _ => rd_less P n e r
      unfold thenBy at e
      split at e
      · cases e
      · next k r1 h2 =>
        have h3 := h1 _ _ h2
        split at e
        · cases e
        · next f' r2 h4 =>
          injection e with e
          injection e with e1 e2
          subst e2
          have := rd_less P n d r1 _ _ h4
          simp
          omega

theorem innerBy_congr {rd rd' : Nat → List UInt8 → Got} {d : Nat} {s : List UInt8} (h : ∀ e r, r.length < s.length → rd e r = rd' e r) : innerBy rd d s = innerBy rd' d s := by
  unfold innerBy
  split
  · rfl
  · next c r => rw [h d r (by simp)]
theorem callBy_congr {P : UInt8 → Bool} {rd rd' : Nat → List UInt8 → Got} {d : Nat} {c : UInt8} {s : List UInt8} (h : ∀ e r, r.length < s.length → rd e r = rd' e r) : callBy P rd d c s = callBy P rd' d c s := by
  unfold callBy
  split
  · rfl
  · rw [innerBy_congr h]
theorem thenBy_congr {c : UInt8} {m m' : List UInt8 → Got} {g : Got} {n : Nat} (hg : Less g n) (h : ∀ s, s.length ≤ n → m s = m' s) : thenBy c m g = thenBy c m' g := by
  unfold thenBy
  split
  · rfl
  · next k r => rw [h r (hg _ _ rfl)]
theorem rd_fuel (P : UInt8 → Bool) : ∀ (n m d : Nat) (s : List UInt8), s.length < n → s.length < m → rd P n d s = rd P m d s
  | 0, _, _, _, h, _ => absurd h (by omega)
  | _, 0, _, _, _, h => absurd h (by omega)
  | n + 1, m + 1, d, [], _, _ => rfl
  | n + 1, m + 1, d, c :: s, h, h' => by
    have hn : s.length < n := by simp at h; omega
    have hm : s.length < m := by simp at h'; omega
    show (if c = 41 then _ else _) = (if c = 41 then _ else _)
    split
    · rfl
    · have e1 : callBy P (fun e s => rd P n e s) d c s = callBy P (fun e s => rd P m e s) d c s := callBy_congr fun e r hr => rd_fuel P n m e r (by omega) (by omega)
      rw [← e1]
      exact thenBy_congr (callBy_less fun e r _ => rd_less P n e r) fun r hr => rd_fuel P n m d r (by omega) (by omega)

/-- The same without a bound on the steps. -/
def calls (P : UInt8 → Bool) (d : Nat) (s : List UInt8) : Got := rd P (s.length + 1) d s
def callA (P : UInt8 → Bool) (d : Nat) (c : UInt8) (r : List UInt8) : Got := callBy P (calls P) d c r
theorem calls_less (P : UInt8 → Bool) (d : Nat) (s : List UInt8) : Less (calls P d s) s.length := rd_less P _ d s
theorem callA_less (P : UInt8 → Bool) (d : Nat) (c : UInt8) (s : List UInt8) : Less (callA P d c s) s.length := callBy_less fun e r _ => calls_less P e r
theorem calls_nil (P : UInt8 → Bool) (d : Nat) : calls P d [] = some (.nil, []) := rfl
theorem calls_close (P : UInt8 → Bool) (d : Nat) (r : List UInt8) : calls P d (41 :: r) = some (.nil, 41 :: r) := rfl
theorem calls_cons (P : UInt8 → Bool) (d : Nat) {c : UInt8} (r : List UInt8) (h : c ≠ 41) : calls P d (c :: r) = thenBy c (calls P d) (callA P d c r) := by
  show (if c = 41 then _ else _) = _
  rw [if_neg h]
  have e1 : callBy P (fun e s => rd P (r.length + 1) e s) d c r = callA P d c r := callBy_congr fun e s hs => rd_fuel P _ _ e s (by omega) (by omega)
  show thenBy c _ (callBy P (fun e s => rd P (r.length + 1) e s) d c r) = _
  rw [e1]
  exact thenBy_congr (callA_less P d c r) fun s hs => rd_fuel P _ _ d s (by simp; omega) (by omega)
theorem callA_zero (P : UInt8 → Bool) (c : UInt8) (r : List UInt8) : callA P 0 c r = none := rfl
theorem callA_no {P : UInt8 → Bool} {d : Nat} {c : UInt8} {r : List UInt8} (h : P c = false) : callA P d c r = none := by
  unfold callA callBy
  split
  · rfl
  · rw [if_neg (by rw [h]; decide)]
theorem callA_leaf {P : UInt8 → Bool} {d : Nat} {c : UInt8} {r : List UInt8} (h : P c = true) (hr : ∀ x u, r = x :: u → x ≠ 40) : callA P (d + 1) c r = some (.nil, r) := by
  unfold callA callBy
  dsimp only
  rw [if_pos h]
  unfold innerBy
  split
  · rfl
  · next x u => rw [if_neg (hr x u rfl)]
theorem callA_open {P : UInt8 → Bool} {d : Nat} {c : UInt8} {r : List UInt8} (h : P c = true) : callA P (d + 1) c (40 :: r) = closed (calls P d r) := by
  unfold callA callBy
  dsimp only
  rw [if_pos h]
  rfl

/-- Calls ahead of what is read. -/
def ahead (f : Forest) : Got → Got
  | none => none
  | some (g, r) => some (f.app g, r)
theorem ahead_nil (g : Got) : ahead .nil g = g := by cases g <;> rfl
theorem ahead_ahead (f f' : Forest) (g : Got) : ahead f (ahead f' g) = ahead (f.app f') g := by
  cases g with
  | none => rfl
  | some x => show some (f.app (f'.app x.1), x.2) = _; rw [← Forest.app_assoc]; rfl
theorem thenBy_ahead (c : UInt8) (k : Forest) (r : List UInt8) (more : List UInt8 → Got) : thenBy c more (some (k, r)) = ahead (.cons c k .nil) (more r) := by
  unfold thenBy ahead
  dsimp only
  cases more r <;> rfl
/-- One more call is read: what is behind it. -/
theorem calls_step {P : UInt8 → Bool} {d : Nat} {c : UInt8} {r r1 : List UInt8} {k : Forest} (f : Forest) (hc : c ≠ 41) (h : callA P d c r = some (k, r1)) : ahead f (calls P d (c :: r)) = ahead (f.app (.cons c k .nil)) (calls P d r1) := by
  rw [calls_cons P d r hc, h, thenBy_ahead, ahead_ahead]
theorem calls_fail {P : UInt8 → Bool} {d : Nat} {c : UInt8} {r : List UInt8} (f : Forest) (hc : c ≠ 41) (h : callA P d c r = none) : ahead f (calls P d (c :: r)) = none := by
  rw [calls_cons P d r hc, h]; rfl

/-- The rest behind calls is empty or begins with a closing parenthesis. -/
theorem rd_rest (P : UInt8 → Bool) : ∀ (n d : Nat) (s : List UInt8) f r, rd P n d s = some (f, r) → r = [] ∨ ∃ u, r = 41 :: u
  | 0, _, _, _, _, e => by cases e
  | n + 1, d, [], f, r, e => by
    injection e with e
    injection e with e1 e2
    exact .inl e2.symm
  | n + 1, d, c :: s, f, r, e => by
    unfold rd at e
    split at e
    · next h =>
      injection e with e
      injection e with e1 e2
      subst h
      exact .inr ⟨s, e2.symm⟩
    · unfold thenBy at e
      split at e
      · cases e
      · next k r1 h2 =>
        split at e
        · cases e
        · next f' r2 h4 =>
          injection e with e
          injection e with e1 e2
          subst e2
          exact rd_rest P n d r1 _ _ h4
theorem calls_rest {P : UInt8 → Bool} {d : Nat} {s : List UInt8} {f : Forest} {r : List UInt8} (h : calls P d s = some (f, r)) : r = [] ∨ ∃ u, r = 41 :: u := rd_rest P _ d s f r h

/-- Which letters name a segment of a valid tree. -/
def callP (l : List Seg) (c : UInt8) : Bool := decide (0 ≤ indexB l ⟨#[c]⟩)
/-- The calls of a trace within a tree, if a text is one. -/
def traceB (l : List Seg) (t : List UInt8) : Option Forest :=
  if (validB l && decide (t.length ≤ 80)) = true then (match calls (callP l) 8 t with
    | some (f, []) => some f
    | _ => none) else none

theorem seekFrom_has (s : ByteArray) : ∀ (l : List Seg) (k : Nat), decide (0 ≤ seekFrom s l k) = takenB l s
  | [], k => by unfold seekFrom takenB; simp
  | x :: l, k => by
    have ih := seekFrom_has s l (k + 1)
    unfold seekFrom takenB
    rw [List.any_cons]
    by_cases h : sameB x.name s = true
    · rw [if_pos h, h, Bool.true_or]; exact decide_eq_true (by omega)
    · rw [if_neg h, Bool.eq_false_iff.2 h, Bool.false_or]
      exact ih
theorem callP_taken {l : List Seg} (hv : validB l = true) (c : UInt8) : callP l c = takenB l ⟨#[c]⟩ := by
  unfold callP indexB
  rw [if_pos hv]
  exact seekFrom_has _ l 0
theorem callP_bad {l : List Seg} (hv : validB l = false) (c : UInt8) : callP l c = false := by
  unfold callP indexB
  rw [if_neg (by rw [hv]; decide)]
  rfl
theorem validB_names {l : List Seg} (hv : validB l = true) {s : Seg} (hs : s ∈ l) : nameOk s.name = true := by
  unfold validB at hv
  simp only [Bool.and_eq_true, decide_eq_true_eq] at hv
  have h := allB_iff.1 hv.2
  have : l.take l.length = l := List.take_length
  exact mem_take_name h (by rw [this]; exact hs)
theorem callP_letter {l : List Seg} {c : UInt8} (h : callP l c = true) : 65 ≤ c.toNat ∧ c.toNat ≤ 72 := by
  cases hv : validB l with
  | false => rw [callP_bad hv] at h; cases h
  | true =>
    rw [callP_taken hv] at h
    unfold takenB at h
    obtain ⟨s, hs, he⟩ := List.any_eq_true.1 h
    obtain ⟨d, hd, h1, h2⟩ := nameOk_one (validB_names hv hs)
    have := sameB_iff.1 he
    rw [hd] at this
    injection this with this
    have h3 : [d] = [c] := congrArg Array.toList this
    injection h3 with h3
    subst h3
    exact ⟨h1, h2⟩
theorem callP_shut (l : List Seg) : callP l 41 = false := by
  cases h : callP l 41 with
  | false => rfl
  | true => have := (callP_letter h).1; revert this; decide

end Go.Proofs.YteokbgfiokbojaaGreat
