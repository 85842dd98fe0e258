/- Joined: Sn Ts Tt Ix Ad. -/
import Derived.Test.YtdbddockmdkmeaaDoorU02
/- The names that were seen. -/
namespace Go.Proofs.YtdbddockmdkmeaaDoor
open Go.RowKit

/-- The names of the first 'k' segments, one behind the other. -/
def seenOf (l : List Seg) (k : Nat) : ByteArray := ⟨((l.take k).flatMap (fun s => s.name.data.toList)).toArray⟩
theorem seenOf_succ {l : List Seg} {k : Nat} (hk : k < l.length) : seenOf l (k + 1) = seenOf l k ++ l[k].name := by
  apply WideShapes.bytes_inj
  show _ = (seenOf l k ++ l[k].name).data.toList
  rw [ByteArray.data_append, Array.toList_append]
  show ((l.take (k + 1)).flatMap (fun s => s.name.data.toList)) = ((l.take k).flatMap (fun s => s.name.data.toList)) ++ _
  rw [List.take_succ_eq_append_getElem hk, List.flatMap_append, List.flatMap_cons, List.flatMap_nil, List.append_nil]
theorem AllOk.name {l : List Seg} {k j : Nat} (h : AllOk l k) (hj : j < k) {s : Seg} (hs : l[j]? = some s) : nameOk s.name = true := by
  have := h j hj
  unfold segOk at this
  rw [hs] at this
  simp only [Bool.and_eq_true] at this
  exact this.1.1.1
theorem mem_take_name {l : List Seg} {k : Nat} (h : AllOk l k) {s : Seg} (hs : s ∈ l.take k) : nameOk s.name = true := by
  obtain ⟨j, hj, rfl⟩ := List.getElem_of_mem hs
  have hjk : j < k := by rw [List.length_take] at hj; omega
  refine h.name hjk ?_
  rw [List.getElem_take]
  exact List.getElem?_eq_getElem _
theorem seenOf_len {l : List Seg} {k : Nat} (h : AllOk l k) : (seenOf l k).size ≤ l.length := by
  show ((l.take k).flatMap (fun s => s.name.data.toList)).toArray.size ≤ _
  rw [List.size_toArray, List.length_flatMap]
  have h1 : ∀ s ∈ l.take k, (s.name.data.toList).length = 1 := fun s hs => by
    obtain ⟨c, hc, _⟩ := nameOk_one (mem_take_name h hs)
    rw [hc]; rfl
  have h2 : ((l.take k).map fun s => s.name.data.toList.length) = (l.take k).map fun _ => 1 := List.map_congr_left h1
  rw [h2, List.map_const', List.sum_replicate_nat, Nat.mul_one]
  exact List.length_take_le' k l
theorem seenOf_mem {l : List Seg} {k : Nat} (h : AllOk l k) (c : UInt8) : c ∈ (seenOf l k).data.toList ↔ takenB (l.take k) ⟨#[c]⟩ = true := by
  unfold takenB seenOf
  rw [List.any_eq_true]
  show c ∈ ((l.take k).flatMap (fun s => s.name.data.toList)) ↔ _
  rw [List.mem_flatMap]
  constructor
  · rintro ⟨s, hs, hc⟩
    refine ⟨s, hs, sameB_iff.2 ?_⟩
    obtain ⟨d, hd, _⟩ := nameOk_one (mem_take_name h hs)
    rw [hd] at hc ⊢
    have : c = d := by simpa using hc
    rw [this]
  · rintro ⟨s, hs, hc⟩
    exact ⟨s, hs, by rw [sameB_iff.1 hc]; simp⟩
theorem find_seen {l : List Seg} {k : Nat} (h : AllOk l k) (c : UInt8) : decide (0 ≤ findB (seenOf l k) c) = takenB (l.take k) ⟨#[c]⟩ := by
  rw [Bool.eq_iff_iff, decide_eq_true_iff, findB_lo, seenOf_mem h]

end Go.Proofs.YtdbddockmdkmeaaDoor
/- spec.TreeValid is 'validB'. -/
namespace Go.Proofs.YtdbddockmdkmeaaDoor
open Go.RowKit

theorem l1Path_at (A : Option Addr) (l : List Seg) (c k : Nat) (q : Int) (w0 w : World) (hq : q = (k : Int) - 1) (hw : Segs w0 w0.heap.size A l) (hb : Below w0.heap.size w0 w) (hl : l.length ≤ 1048576) (hk : k < l.length) (h0 : 0 < k) (hd : AllOk l k) :
    Calls Tryd.prog 64 #[.slice A l.length c, .int .i64 q] w (IntsPost w (pathOf l (k - 1))) := by
  rw [hq, show ((k : Int) - 1) = ((k - 1 : Nat) : Int) by omega]
  exact l1Path_any A l c (k - 1) w ((hw.below hb).more hb.size) hl (by omega) (hd.down.mono (by omega))
theorem parOk_has {l : List Seg} {k : Nat} (h0 : 0 < k) : hasB (pathOf l (k - 1)) (parAt l k) = parOk l k := by
  unfold parOk pathOf
  rw [hasB_reverse, if_neg (by omega), show k - 1 + 1 = k by omega, show ((k - 1 : Nat) : Int) = (k : Int) - 1 by omega]

set_option maxRecDepth 100000 in
set_option maxHeartbeats 4000000 in
theorem specTreeValid_any (A : Option Addr) (l : List Seg) (c : Nat) (w : World) (hw : Segs w w.heap.size A l) (hl : l.length ≤ 1048576) (hn : Short l) :
    Calls Tryd.prog 15 #[.slice A l.length c] w fun e w' => e = .returned (.bool (validB l)) ∧ Below w.heap.size w w' := by
  have HW : Hid (Segs w w.heap.size A l) := hw
  clear hw
  go_enter Tryd.func15, Tryd.ntmps15
  go_wp2
  go_loopw [3, 8] (fun s i wr => ∃ (k : Nat), k ≤ l.length ∧ i = .int .i64 k ∧ s = .string (seenOf l k) ∧ Hid (AllOk l k) ∧ Below w.heap.size w wr)
    (fun _ i _ => l.length - (intOf i).toNat)
  case atStart => exact ⟨0, Nat.zero_le _, rfl, rfl, fun j hj => absurd hj (by omega), Below.refl _ _⟩
  case round =>
    obtain ⟨k, hk, rfl, rfl, HA, hb⟩ := hrel
    by_cases hlt : k < l.length
    · obtain ⟨b, o, rfl, hB, hc⟩ := HW.out (by omega)
      obtain ⟨c0, c1, c2⟩ := hc k l[k] (List.getElem?_eq_getElem hlt)
      clear hc
      rw [← hb.cell hB] at c0 c1 c2
      have HO : Hid _ := segOk_of hlt
      have HS : Hid _ := hn l[k] (List.getElem_mem hlt)
      have HP : Hid _ := parAt_of (List.getElem?_eq_getElem hlt)
      have HQ : Hid _ := seenOf_succ hlt
      have hlen : (seenOf l k).size ≤ 1048576 := Nat.le_trans (seenOf_len HA.out) hl
      have hk0 : (0 : Int) ≤ (k : Int) := Int.natCast_nonneg _
      have hkl : (k : Int) < (l.length : Int) := by omega
      generalize l[k] = x at *
      obtain ⟨nm, sz, pa⟩ := x
      dsimp only at c0 c1 c2 HO HS HP HQ
      have hbG : Below w.heap.size w (wr.alloc (.cells #[.string nm, .int .i64 sz, .int .i64 pa] 66)) := hb.alloc hb.size _
      have HR : Hid (Row (wr.alloc (.cells #[.string nm, .int .i64 sz, .int .i64 pa] 66)) wr.heap.size 66 #[.string nm, .int .i64 sz, .int .i64 pa]) := Row.new _ _ _
      cases hN : nameOk nm with
      | false =>
        have HB : Hid (validB l = false) := validB_bad hlt (by rw [HO.out, hN]; rfl)
        go_wp2_with fail
        refine (l1Name_any _ _ HS.out).mono ?_
        rw [hN]
        rintro e w' ⟨rfl, rfl⟩
        go_wp2_with fail
        go_ret
        exact ⟨ret_bool HB.out.symm, hbG⟩
      | true =>
        obtain ⟨ch, rfl, _⟩ := nameOk_one hN
        have HF : Hid _ := find_seen HA.out ch
        have H1 := at_one ch
        go_wp2_with fail
        refine (l1Name_any _ _ HS.out).mono ?_
        rw [hN]
        rintro e w' ⟨rfl, rfl⟩
        cases hT : takenB (l.take k) ⟨#[ch]⟩ with
        | true =>
          have HB : Hid (validB l = false) := validB_bad hlt (by rw [HO.out, hN, hT]; rfl)
          have hf : 0 ≤ findB (seenOf l k) ch := of_decide_eq_true (HF.out.trans hT)
          go_wp2_with fail
          refine (l13Find_any _ _ _ (by simp [maxLen]; omega)).mono ?_
          rintro e w' ⟨rfl, rfl⟩
          go_wp2_with fail
          go_ret
          exact ⟨ret_bool HB.out.symm, hbG⟩
        | false =>
          have hf : ¬ 0 ≤ findB (seenOf l k) ch := of_decide_eq_false (HF.out.trans hT)
          cases hZ : sizeOk sz with
          | false =>
            have HB : Hid (validB l = false) := validB_bad hlt (by rw [HO.out, hN, hT, hZ]; rfl)
            go_wp2_with fail
            refine (l13Find_any _ _ _ (by simp [maxLen]; omega)).mono ?_
            rintro e w' ⟨rfl, rfl⟩
            go_wp2_with fail
            refine (l1In_any _ _ _ _).mono ?_
            rw [show inB sz 1 99 = false from hZ]
            rintro e w' ⟨rfl, rfl⟩
            go_wp2_with fail
            go_ret
            exact ⟨ret_bool HB.out.symm, hbG⟩
          | true =>
            have HK : Hid (segOk l k = parOk l k) := by
              show _ = _
              rw [HO.out, hN, hT, hZ]; rfl
            have HF' := Lib.hid hf
            clear hf
            go_wp2_with fail
            refine (l13Find_any _ _ _ (by simp [maxLen]; omega)).mono ?_
            rintro e w' ⟨rfl, rfl⟩
            have hf := HF'.out
            go_wp2_with fail
            refine (l1In_any _ _ _ _).mono ?_
            rw [show inB sz 1 99 = true from hZ]
            rintro e w' ⟨rfl, rfl⟩
            go_wp2_with fail
            have hs2 : ((seenOf l k) ++ (⟨#[ch]⟩ : ByteArray)) = seenOf l (k + 1) := HQ.out.symm
            have e2 := HR.out.cell 2
            have hG := HR.out.lt
            clear hf hs2
            have hpa : ((pa : Int) == parAt l k) = true := by rw [HP.out]; simp
            clear hpa
            generalize wr.heap.size = G at *
            generalize wr.alloc (.cells #[.string ⟨#[ch]⟩, .int .i64 sz, .int .i64 pa] 66) = W1 at *
            simp at e2
            generalize hfb : decide (0 ≤ findB (seenOf l k) ch) = fb
            clear hfb
            by_cases h0 : (k : Int) ≤ 0
            · have hz : ((k : Int) == 0) = true := by rw [beq_iff_eq]; omega
              cases hm : (pa != -1) with
              | true =>
                have HB : Hid (validB l = false) := validB_bad hlt (by
                  obtain rfl : k = 0 := by omega
                  rw [HK.out]
                  show (parAt l 0 == -1) = false
                  rw [HP.out, beq_eq_false_iff_ne]
                  exact bne_iff_ne.1 hm)
                refine wp_region_quiet_lit (by kernel_rfl) (by kernel_rfl) ?_
                repeat (first | go_big_quiet_step (fail) | (refine wpQuiet_skip (by rfl) ?_; simp only [Act.put, List.setIfInBounds_toArray, List.set_cons_zero, List.set_cons_succ]))
                refine wpQuiet_nil ?_
                rintro _ ⟨nq, rfl⟩
                go_wp2
                go_ret
                exact ⟨ret_bool HB.out.symm, below_drewN hbG _⟩
              | false =>
                have HB : Hid (AllOk l (k + 1)) := HA.out.succ (by
                  obtain rfl : k = 0 := by omega
                  rw [HK.out]
                  show (parAt l 0 == -1) = true
                  rw [HP.out]
                  simpa using hm)
                have hd : decide (0 < k) = false := decide_eq_false (by omega)
                refine wp_region_quiet_lit (by kernel_rfl) (by kernel_rfl) ?_
                repeat (first | go_big_quiet_step (fail) | (refine wpQuiet_skip (by rfl) ?_; simp only [Act.put, List.setIfInBounds_toArray, List.set_cons_zero, List.set_cons_succ]))
                refine wpQuiet_nil ?_
                rintro _ ⟨nq, rfl⟩
                go_wp2
                go_roundw
                case rel => exact ⟨k + 1, by omega, by go_num, by rw [HQ.out], HB, below_drewN hbG _⟩
                case measure => simp [intOf]; omega
            · have hz : ((k : Int) == 0) = false := by rw [beq_eq_false_iff_ne]; omega
              have h1 : 0 < (k : Int) := by omega
              have HH : Hid _ := parOk_has (l := l) (k := k) (by omega)
              rw [HP.out] at HH
              have hd : decide (0 < k) = true := decide_eq_true (by omega)
              have hkn : 0 < k := by omega
              have HL : Hid ((pathOf l (k - 1)).length ≤ 2097152) := by
                show (chain l (k - 1 + 1) ((k - 1 : Nat) : Int)).reverse.length ≤ _
                rw [List.length_reverse]
                have := chain_len l (k - 1 + 1) ((k - 1 : Nat) : Int)
                omega
              have HV : Hid (hasB (pathOf l (k - 1)) pa = parOk l k) := HH
              clear hd
              refine wp_region_held_drew (S := (fun w' => w'.cell? ⟨G, 2, none⟩ = some (.int .i64 pa) ∧ Below w.heap.size w w')) (by kernel_rfl) ?_ (fun hHeld => ?_)
              · exact ⟨e2, hbG.drew⟩
              refine take_at (i := 0) (d := 35) (v := .int .i64 k) rfl rfl (by kernel_rfl) (by kernel_rfl) (by kernel_rfl) (fun _ _ _ h => h) (by kernel_rfl) (by (intro w hSw; (try dsimp only at hSw); go_simp)) (by assumption) ?_
              simp only [List.setIfInBounds_toArray, List.set_cons_succ, List.set_cons_zero]
              refine take_at (i := 1) (d := 36) (v := .bool false) rfl rfl (by kernel_rfl) (by kernel_rfl) (by kernel_rfl) (fun _ _ _ h => h) (by kernel_rfl) (by (intro w hSw; (try dsimp only at hSw); go_simp)) (by assumption) ?_
              simp only [List.setIfInBounds_toArray, List.set_cons_succ, List.set_cons_zero]
              refine take_at (i := 2) (d := 37) (v := .bool false) rfl rfl (by kernel_rfl) (by kernel_rfl) (by kernel_rfl) (fun _ _ _ h => h) (by kernel_rfl) (by (intro w hSw; (try dsimp only at hSw); go_simp)) (by assumption) ?_
              simp only [List.setIfInBounds_toArray, List.set_cons_succ, List.set_cons_zero]
              refine skip_at (i := 3) (d := 38) rfl rfl (by kernel_rfl) (by kernel_rfl) (by kernel_rfl) (fun _ _ _ h => h) (by kernel_rfl) (by assumption) ?_
              simp only [List.setIfInBounds_toArray, List.set_cons_succ, List.set_cons_zero]
              refine skip_at (i := 4) (d := 39) rfl rfl (by kernel_rfl) (by kernel_rfl) (by kernel_rfl) (fun _ _ _ h => h) (by kernel_rfl) (by assumption) ?_
              simp only [List.setIfInBounds_toArray, List.set_cons_succ, List.set_cons_zero]
              refine skip_at (i := 5) (d := 40) rfl rfl (by kernel_rfl) (by kernel_rfl) (by kernel_rfl) (fun _ _ _ h => h) (by kernel_rfl) (by assumption) ?_
              simp only [List.setIfInBounds_toArray, List.set_cons_succ, List.set_cons_zero]
              refine take_at (i := 6) (d := 41) (v := .bool false) rfl rfl (by kernel_rfl) (by kernel_rfl) (by kernel_rfl) (fun _ _ _ h => h) (by kernel_rfl) (by (intro w hSw; (try dsimp only at hSw); go_simp)) (by assumption) ?_
              simp only [List.setIfInBounds_toArray, List.set_cons_succ, List.set_cons_zero]
              refine take_at (i := 7) (d := 42) (v := .bool false) rfl rfl (by kernel_rfl) (by kernel_rfl) (by kernel_rfl) (fun _ _ _ h => h) (by kernel_rfl) (by (intro w hSw; (try dsimp only at hSw); go_simp)) (by assumption) ?_
              simp only [List.setIfInBounds_toArray, List.set_cons_succ, List.set_cons_zero]
              refine take_at (i := 8) (d := 43) (v := .int .i64 k) rfl rfl (by kernel_rfl) (by kernel_rfl) (by kernel_rfl) (fun _ _ _ h => h) (by kernel_rfl) (by (intro w hSw; (try dsimp only at hSw); go_simp)) (by assumption) ?_
              simp only [List.setIfInBounds_toArray, List.set_cons_succ, List.set_cons_zero]
              refine take_at (i := 9) (d := 44) (v := .bool true) rfl rfl (by kernel_rfl) (by kernel_rfl) (by kernel_rfl) (fun _ _ _ h => h) (by kernel_rfl) (by (intro w hSw; (try dsimp only at hSw); go_simp)) (by assumption) ?_
              simp only [List.setIfInBounds_toArray, List.set_cons_succ, List.set_cons_zero]
              refine take_at (i := 10) (d := 45) (v := .bool true) rfl rfl (by kernel_rfl) (by kernel_rfl) (by kernel_rfl) (fun _ _ _ h => h) (by kernel_rfl) (by (intro w hSw; (try dsimp only at hSw); go_simp)) (by assumption) ?_
              simp only [List.setIfInBounds_toArray, List.set_cons_succ, List.set_cons_zero]
              refine take_at (i := 11) (d := 46) (v := .slice (some ⟨b, o, none⟩) l.length c) rfl rfl (by kernel_rfl) (by kernel_rfl) (by kernel_rfl) (fun _ _ _ h => h) (by kernel_rfl) (by (intro w hSw; (try dsimp only at hSw); go_simp)) (by assumption) ?_
              simp only [List.setIfInBounds_toArray, List.set_cons_succ, List.set_cons_zero]
              refine take_at (i := 12) (d := 47) (v := .int .i64 k) rfl rfl (by kernel_rfl) (by kernel_rfl) (by kernel_rfl) (fun _ _ _ h => h) (by kernel_rfl) (by (intro w hSw; (try dsimp only at hSw); go_simp)) (by assumption) ?_
              simp only [List.setIfInBounds_toArray, List.set_cons_succ, List.set_cons_zero]
              refine take_at (i := 15) (d := 50) (v := .pointer (some ⟨G, 2, none⟩)) rfl rfl (by kernel_rfl) (by kernel_rfl) (by kernel_rfl) (fun _ _ _ h => h) (by kernel_rfl) (by (intro w hSw; (try dsimp only at hSw); go_simp)) (by assumption) ?_
              simp only [List.setIfInBounds_toArray, List.set_cons_succ, List.set_cons_zero]
              refine take_at (i := 13) (d := 48) (v := .int .i64 ((k : Int) - 1)) rfl rfl (by kernel_rfl) (by kernel_rfl) (by kernel_rfl) (fun _ _ _ h => h) (by kernel_rfl) (fun _ _ => run_sub_op rfl rfl rfl (IntWalk.i64_in _ (by omega)) _) (by assumption) ?_
              simp only [List.setIfInBounds_toArray, List.set_cons_succ, List.set_cons_zero]
              refine take_at (i := 16) (d := 51) (v := .int .i64 pa) rfl rfl (by kernel_rfl) (by kernel_rfl) (by kernel_rfl) (fun _ _ _ h => h) (by kernel_rfl) (by (intro w hSw; (try dsimp only at hSw); go_simp)) (by assumption) ?_
              simp only [List.setIfInBounds_toArray, List.set_cons_succ, List.set_cons_zero]
              refine wpAnyH_ready (rs := [14]) (by kernel_rfl) (by simp) ?_
              refine AllReadyH.cons rfl (fun K hK => ?_) AllReadyH.nil
              go_simp
              refine (l1Path_at _ _ _ _ _ _ _ (by rfl) HW.out hHeld.2 hl hlt hkn HA.out).mono ?_
              rintro e w2 ⟨g2, cp2, rfl, hown, hb2⟩
              have hs2 : w2.cell? ⟨G, 2, none⟩ = some (.int .i64 pa) ∧ Below w.heap.size w w2 := ⟨(hb2.cell (p := ⟨G, 2, none⟩) hG).trans hHeld.1, hHeld.2.trans (hb2.mono hHeld.2.size)⟩
              have HO2 := Lib.hid hown
              clear hown hb2 hHeld
              refine hK.out _ _ hs2 (fun hHeld => ?_)
              clear hK K hs2
              refine wpAnyH_ready (rs := [17]) (by kernel_rfl) (by simp) ?_
              refine AllReadyH.cons rfl (fun K hK => ?_) AllReadyH.nil
              go_simp
              refine (l1Has_any _ _ _ _ _ _ HO2.out HL.out).mono ?_
              rw [HV.out]
              rintro e w' ⟨rfl, rfl⟩
              refine hK.out _ _ hHeld (fun hHeld => ?_)
              clear hK K
              refine take_at (i := 18) (d := 53) (v := .bool (!parOk l k)) rfl rfl (by kernel_rfl) (by kernel_rfl) (by kernel_rfl) (fun _ _ _ h => h) (by kernel_rfl) (by (intro w hSw; (try dsimp only at hSw); go_simp)) (by assumption) ?_
              simp only [List.setIfInBounds_toArray, List.set_cons_succ, List.set_cons_zero]
              refine take_at (i := 19) (d := 54) (v := .bool (!parOk l k)) rfl rfl (by kernel_rfl) (by kernel_rfl) (by kernel_rfl) (fun _ _ _ h => h) (by kernel_rfl) (by (intro w hSw; (try dsimp only at hSw); go_simp)) (by assumption) ?_
              simp only [List.setIfInBounds_toArray, List.set_cons_succ, List.set_cons_zero]
              refine take_at (i := 20) (d := 55) (v := .bool (!parOk l k)) rfl rfl (by kernel_rfl) (by kernel_rfl) (by kernel_rfl) (fun _ _ _ h => h) (by kernel_rfl) (by (intro w hSw; (try dsimp only at hSw); go_simp)) (by assumption) ?_
              simp only [List.setIfInBounds_toArray, List.set_cons_succ, List.set_cons_zero]
              refine wpAnyH_done (by kernel_rfl) ?_ _
              have hb3 : Below w.heap.size w w2 := hHeld.2
              clear hHeld hbG
              cases hp : parOk l k with
              | false =>
                have HB : Hid (validB l = false) := validB_bad hlt (by rw [HK.out, hp])
                clear hp
                go_wp2
                go_ret
                exact ⟨ret_bool HB.out.symm, hb3⟩
              | true =>
                have HB : Hid (AllOk l (k + 1)) := HA.out.succ (by rw [HK.out, hp])
                clear hp
                go_wp2
                go_roundw
                case rel => exact ⟨k + 1, by omega, by go_num, by rw [HQ.out], HB, hb3⟩
                case measure => simp [intOf]; omega
    · go_wp2_with fail
      refine (l1In_any _ _ _ _).mono ?_
      rintro e w' ⟨rfl, rfl⟩
      go_wp2
      go_ret
      refine ⟨ret_bool ?_, hb⟩
      obtain rfl : k = l.length := by omega
      rw [validB_all HA.out]
      unfold inB
      congr 1 <;> (apply decide_eq_decide.2; omega)

end Go.Proofs.YtdbddockmdkmeaaDoor
/- Totals of sizes: the program's and the model's. -/
namespace Go.Proofs.YtdbddockmdkmeaaDoor
open Go.RowKit

def sumTo (l : List Seg) (k : Nat) : Int := ((l.take k).map Seg.size).sum
theorem sumTo_succ {l : List Seg} {k : Nat} (hk : k < l.length) : sumTo l (k + 1) = sumTo l k + l[k].size := by
  unfold sumTo
  rw [List.take_succ_eq_append_getElem hk, List.map_append, List.sum_append_int]
  simp
theorem valid_all {l : List Seg} (h : validB l = true) : AllOk l l.length ∧ l.length ≤ 8 ∧ 1 ≤ l.length := by
  unfold validB at h
  simp only [Bool.and_eq_true, decide_eq_true_eq] at h
  exact ⟨allB_iff.1 h.2, h.1.2, h.1.1⟩
theorem valid_size {l : List Seg} (h : validB l = true) {k : Nat} (hk : k < l.length) : 1 ≤ l[k].size ∧ l[k].size ≤ 99 := by
  have := (valid_all h).1 k hk
  rw [segOk_of hk] at this
  simp only [Bool.and_eq_true] at this
  have hs := this.1.2
  unfold sizeOk at hs
  simp only [Bool.and_eq_true, decide_eq_true_eq] at hs
  exact hs
theorem sumTo_le {l : List Seg} (h : validB l = true) : ∀ k : Nat, k ≤ l.length → 0 ≤ sumTo l k ∧ sumTo l k ≤ 99 * k
  | 0, _ => by simp [sumTo]
  | k + 1, hk => by
    have h1 := sumTo_le h k (by omega)
    have h2 := valid_size h (show k < l.length by omega)
    rw [sumTo_succ (by omega)]
    omega
def totalB (l : List Seg) : Int := if validB l = true then sumTo l l.length else -1

set_option maxRecDepth 100000 in
set_option maxHeartbeats 400000 in
theorem l1Total_any (A : Option Addr) (l : List Seg) (c : Nat) (w : World) (hw : Segs w w.heap.size A l) (hv : validB l = true) :
    Calls Tryd.prog 86 #[.slice A l.length c] w fun e w' => e = .returned (.int .i64 (sumTo l l.length)) ∧ Below w.heap.size w w' := by
  have HW : Hid (Segs w w.heap.size A l) := hw
  have HV := Lib.hid hv
  have hl8 := (valid_all hv).2.1
  clear hw hv
  go_enter Tryd.func86, Tryd.ntmps86
  go_wp2
  go_loopw [3, 8] (fun s i wr => ∃ (k : Nat) (n : Int), k ≤ l.length ∧ i = .int .i64 k ∧ s = .int .i64 n ∧ Hid (n = sumTo l k) ∧ Below w.heap.size w wr)
    (fun _ i _ => l.length - (intOf i).toNat)
  case atStart => exact ⟨0, 0, Nat.zero_le _, rfl, rfl, rfl, Below.refl _ _⟩
  case round =>
    obtain ⟨k, n, hk, rfl, rfl, HN, hb⟩ := hrel
    by_cases hlt : k < l.length
    · obtain ⟨b, o, rfl, hB, hc⟩ := HW.out (by omega)
      obtain ⟨c0, c1, c2⟩ := hc k l[k] (List.getElem?_eq_getElem hlt)
      clear hc
      rw [← hb.cell hB] at c0 c1 c2
      have HS : Hid _ := sumTo_succ hlt
      have hz := valid_size HV.out hlt
      have hn0 : 0 ≤ n ∧ n ≤ 99 * (k : Int) := by rw [HN.out]; exact sumTo_le HV.out k hk
      obtain ⟨z1, z2⟩ := hz
      obtain ⟨n1, n2⟩ := hn0
      have n3 : n ≤ 800 := by omega
      clear n2
      generalize l[k] = x at *
      have HX : Hid (n + x.size = sumTo l (k + 1)) := by rw [HS.out, ← HN.out]; rfl
      clear HS HN
      go_wp2
      go_roundw
      case rel => exact ⟨k + 1, _, by omega, by go_num, rfl, HX, hb.alloc hb.size _⟩
      case measure => simp [intOf]; omega
    · obtain rfl : k = l.length := by omega
      go_wp2
      go_ret
      exact ⟨ret_int HN.out, hb⟩

set_option maxRecDepth 100000 in
set_option maxHeartbeats 400000 in
theorem totalSize_any (A : Option Addr) (l : List Seg) (c : Nat) (w : World) (hw : Segs w w.heap.size A l) (hl : l.length ≤ 1048576) (hlc : l.length ≤ c) (hcm : c ≤ 9223372036854775807) (hn : Short l) :
    Calls Tryd.prog 33 #[.slice A l.length c] w fun e w' => e = .returned (.int .i64 (totalB l)) ∧ Below w.heap.size w w' := by
  have HW : Hid (Segs w w.heap.size A l) := hw
  clear hw
  cases hv : validB l with
  | false =>
    have HF : Hid (totalB l = -1) := if_neg (by rw [hv]; decide)
    go_enter Tryd.func33, Tryd.ntmps33
    go_wp2_with fail
    refine (treeValid_any _ _ _ _ HW.out hl hlc hcm hn).mono ?_
    rw [hv]
    rintro e w1 ⟨rfl, hb1⟩
    go_wp2
    go_ret
    exact ⟨ret_int HF.out.symm, hb1⟩
  | true =>
    have HF : Hid (totalB l = sumTo l l.length) := if_pos hv
    go_enter Tryd.func33, Tryd.ntmps33
    go_wp2_with fail
    refine (treeValid_any _ _ _ _ HW.out hl hlc hcm hn).mono ?_
    rw [hv]
    rintro e w1 ⟨rfl, hb1⟩
    have hl8 := (valid_all hv).2.1
    have HV := Lib.hid hv
    clear hv
    go_wp2
    go_loopw [3, 11] (fun s i wr => ∃ (k : Nat) (n : Int), k ≤ l.length ∧ i = .int .i64 k ∧ s = .int .i64 n ∧ Hid (n = sumTo l k) ∧ Below w.heap.size w wr)
      (fun _ i _ => l.length - (intOf i).toNat)
    case atStart => exact ⟨0, 0, Nat.zero_le _, rfl, rfl, rfl, hb1⟩
    case round =>
      obtain ⟨k, n, hk, rfl, rfl, HN, hb⟩ := hrel
      clear hb1
      by_cases hlt : k < l.length
      · obtain ⟨b, o, rfl, hB, hc⟩ := HW.out (by omega)
        obtain ⟨c0, c1, c2⟩ := hc k l[k] (List.getElem?_eq_getElem hlt)
        clear hc
        rw [← hb.cell hB] at c0 c1 c2
        have HS : Hid _ := sumTo_succ hlt
        have hz := valid_size HV.out hlt
        have hn0 : 0 ≤ n ∧ n ≤ 99 * (k : Int) := by rw [HN.out]; exact sumTo_le HV.out k hk
        obtain ⟨z1, z2⟩ := hz
        obtain ⟨n1, n2⟩ := hn0
        have n3 : n ≤ 800 := by omega
        clear n2
        generalize l[k] = x at *
        have HX : Hid (n + x.size = sumTo l (k + 1)) := by rw [HS.out, ← HN.out]; rfl
        clear HS HN
        go_wp2
        go_roundw
        case rel => exact ⟨k + 1, _, by omega, by go_num, rfl, HX, hb.alloc hb.size _⟩
        case measure => simp [intOf]; omega
      · obtain rfl : k = l.length := by omega
        go_wp2
        go_ret
        exact ⟨ret_int (by rw [HF.out]; exact HN.out), hb⟩

end Go.Proofs.YtdbddockmdkmeaaDoor
/- Which segment has a name: the model's side. -/
namespace Go.Proofs.YtdbddockmdkmeaaDoor
open Go.RowKit

def seekFrom (s : ByteArray) : List Seg → Nat → Int
  | [], _ => -1
  | x :: l, k => if sameB x.name s = true then (k : Int) else seekFrom s l (k + 1)
def seek (l : List Seg) (s : ByteArray) : Int := seekFrom s l 0
theorem seekFrom_bd (s : ByteArray) : ∀ (l : List Seg) (k : Nat), seekFrom s l k = -1 ∨ ((k : Int) ≤ seekFrom s l k ∧ seekFrom s l k < k + l.length)
  | [], k => .inl rfl
  | x :: l, k => by
    unfold seekFrom
    by_cases h : sameB x.name s = true
    · rw [if_pos h]; right; simp only [List.length_cons]; omega
    · rw [if_neg h]
      rcases seekFrom_bd s l (k + 1) with h1 | h1
      · exact .inl h1
      · right; simp only [List.length_cons]; omega
theorem seek_bd (l : List Seg) (s : ByteArray) : seek l s = -1 ∨ (0 ≤ seek l s ∧ seek l s < l.length) := by
  have := seekFrom_bd s l 0
  simpa [seek] using this
theorem seekFrom_drop (l : List Seg) (s : ByteArray) (k : Nat) (hk : k < l.length) : seekFrom s (l.drop k) k = if sameB l[k].name s = true then (k : Int) else seekFrom s (l.drop (k + 1)) (k + 1) := by
  rw [List.drop_eq_getElem_cons hk]
  rfl
theorem seekFrom_name (s : ByteArray) : ∀ (l : List Seg) (k j : Nat), seekFrom s l k = ((k + j : Nat) : Int) → ∃ x, l[j]? = some x ∧ x.name = s
  | [], k, j, h => by simp [seekFrom] at h; omega
  | x :: l, k, j, h => by
    unfold seekFrom at h
    by_cases hx : sameB x.name s = true
    · rw [if_pos hx] at h
      obtain rfl : j = 0 := by omega
      exact ⟨x, rfl, sameB_iff.1 hx⟩
    · rw [if_neg hx] at h
      rcases seekFrom_bd s l (k + 1) with h1 | h1
      · omega
      · obtain ⟨j', rfl⟩ : ∃ j', j = j' + 1 := ⟨j - 1, by omega⟩
        obtain ⟨y, hy, hn⟩ := seekFrom_name s l (k + 1) j' (by rw [h]; omega)
        exact ⟨y, by simpa using hy, hn⟩
theorem seek_name {l : List Seg} {s : ByteArray} {j : Nat} (h : seek l s = (j : Int)) : ∃ x, l[j]? = some x ∧ x.name = s :=
  seekFrom_name s l 0 j (by rw [Nat.zero_add]; exact h)

/-- The index of a name within a valid list, or -1. -/
def indexB (l : List Seg) (s : ByteArray) : Int := if validB l = true then seek l s else -1

def sizeAt (l : List Seg) (i : Nat) : Int := match l[i]? with
  | some s => s.size
  | none => -1
def sizeB (l : List Seg) (s : ByteArray) : Int := if indexB l s < 0 then -1 else sizeAt l (indexB l s).toNat
theorem sizeAt_of {l : List Seg} {k : Nat} (h : k < l.length) : sizeAt l k = l[k].size := by unfold sizeAt; rw [List.getElem?_eq_getElem h]
theorem indexB_bd (l : List Seg) (s : ByteArray) : indexB l s = -1 ∨ (0 ≤ indexB l s ∧ indexB l s < l.length) := by
  unfold indexB
  split
  · exact seek_bd l s
  · exact .inl rfl

end Go.Proofs.YtdbddockmdkmeaaDoor
/- One node adopts another. -/
namespace Go.Proofs.YtdbddockmdkmeaaDoor
open Go.RowKit

theorem own_ne {w : World} {base g n : Nat} {e t : TypeId} {v : Value} {xs : List Value} {cs : Array Value} (h : w.ownsRow base e 1 v n xs) (hr : Row w g t cs) (hne : e ≠ t) : v.ownBlock ≠ some g := by
  rcases h.2 with ⟨rfl, _⟩ | ⟨g', cap, cur, rfl, _, hh, _⟩
  · simp [Value.ownBlock]
  · intro he
    have : g' = g := by simpa [Value.ownBlock] using he
    subst this
    unfold Row at hr
    rw [hh] at hr
    injection hr with hr
    injection hr with _ ht
    exact hne ht
theorem own_keep {w w' : World} {base n : Nat} {e : TypeId} {v : Value} {xs : List Value} (h : w.ownsRow base e 1 v n xs) (hk : ∀ g, v.ownBlock = some g → w'.heap[g]? = w.heap[g]?) : w'.ownsRow base e 1 v n xs := by
  refine ⟨h.1, ?_⟩
  rcases h.2 with h0 | ⟨g', cap, cur, rfl, hg, hh, r⟩
  · exact .inl h0
  · exact .inr ⟨g', cap, cur, rfl, hg, (hk g' rfl).trans hh, r⟩
theorem own_set {w : World} {base g n : Nat} {e t : TypeId} {v : Value} {xs : List Value} {cs : Array Value} (h : w.ownsRow base e 1 v n xs) (hr : Row w g t cs) (hne : e ≠ t) (i : Nat) (u : Value) : (w.setCell ⟨g, i, none⟩ u).ownsRow base e 1 v n xs :=
  own_keep h fun k hk => Below.heap_setCell w _ u k (fun he => own_ne h hr hne (by rw [hk, he]))

/-- All blocks but those that 'may' names are as they were. -/
structure Only (w w' : World) (may : Nat → Prop) : Prop where
  os : w'.os = w.os
  tape : w'.tape = w.tape
  output : w'.output = w.output
  size : w.heap.size ≤ w'.heap.size
  block : ∀ k, k < w.heap.size → ¬ may k → w'.heap[k]? = w.heap[k]?

theorem Only.below {w0 w w' : World} {B : Nat} {may : Nat → Prop} (hb : Below B w0 w) (h : Only w w' may) (hB : B ≤ w.heap.size) (hm : ∀ k, k < B → ¬ may k) : Below B w0 w' :=
  hb.trans ⟨h.os, h.tape, h.output, h.size, fun k hk => h.block k (by omega) (hm k hk)⟩
theorem Only.row {w w' : World} {may : Nat → Prop} (h : Only w w' may) {g : Nat} {t : TypeId} {cs : Array Value} (hr : Row w g t cs) (hg : ¬ may g) : Row w' g t cs := (h.block g hr.lt hg).trans hr

def nodeCells (nm : ByteArray) (sz : Int) (pp : Option Addr) (cv : Value) : Array Value := #[.string nm, .int .i64 sz, .pointer pp, cv]
def ptrTo (b : Nat) : Value := .pointer (some ⟨b, 0, none⟩)

/-- What is behind 'p.adopt(c)'. -/
def Adopted (w : World) (B p c n : Nat) (nm nm' : ByteArray) (sz sz' : Int) (pp' : Option Addr) (cc cv : Value) (xs : List Value) (e : Ending) (w' : World) : Prop :=
  e = .returned (.tuple #[]) ∧ ∃ v', Row w' c 106 (nodeCells nm sz (some ⟨p, 0, none⟩) cc) ∧ Row w' p 106 (nodeCells nm' sz' pp' v') ∧
    w'.ownsRow B 57 1 v' (n + 1) (xs ++ [ptrTo c]) ∧ (v'.ownBlock = cv.ownBlock ∨ ∃ g, v'.ownBlock = some g ∧ w.heap.size ≤ g) ∧
    Only w w' (fun k => k = p ∨ k = c ∨ some k = cv.ownBlock)

theorem info_ptr : (Tryd.prog.info? 57).map (fun i => (i.zero, i.size, i.bytes)) = some (some (.pointer none), 1, 8) := by kernel_rfl

theorem adopt_end {w w1 : World} {B p c n : Nat} {nm nm' : ByteArray} {sz sz' : Int} {pp pp' : Option Addr} {cc cv v' : Value} {xs : List Value} {t : TypeId} {o : Obj}
    (hc : Row w c 106 (nodeCells nm sz pp cc)) (hp : Row w p 106 (nodeCells nm' sz' pp' cv)) (hpc : p ≠ c) (hcv : w.ownsRow B 57 1 cv n xs)
    (hown : w1.ownsRow B 57 1 v' (n + 1) (xs ++ [ptrTo c])) (hgrow : ((w.setCell ⟨c, 2, none⟩ (ptrTo p)).alloc o).grownBy w1 cv.ownBlock)
    (hat : v'.ownBlock = cv.ownBlock ∨ v'.ownBlock = some ((w.setCell ⟨c, 2, none⟩ (ptrTo p)).alloc o).heap.size) (_ht : t = t) :
    Adopted w B p c n nm nm' sz sz' pp' cc cv xs (.returned (.tuple #[])) (w1.setCell ⟨p, 3, none⟩ v') := by
  have hne1 : cv.ownBlock ≠ some c := own_ne hcv hc (by decide)
  have hne2 : cv.ownBlock ≠ some p := own_ne hcv hp (by decide)
  have hz : ((w.setCell ⟨c, 2, none⟩ (ptrTo p)).alloc o).heap.size = w.heap.size + 1 := by simp [World.setCell, World.alloc]
  have hc0 : Row (w.setCell ⟨c, 2, none⟩ (ptrTo p)) c 106 (nodeCells nm sz (some ⟨p, 0, none⟩) cc) := hc.put 2 _
  have hp0 : Row (w.setCell ⟨c, 2, none⟩ (ptrTo p)) p 106 (nodeCells nm' sz' pp' cv) := hp.far hpc _
  have hc1 : Row w1 c 106 (nodeCells nm sz (some ⟨p, 0, none⟩) cc) := (hgrow.block c (hc0.alloc o).lt (Ne.symm hne1)).trans (hc0.alloc o)
  have hp1 : Row w1 p 106 (nodeCells nm' sz' pp' cv) := (hgrow.block p (hp0.alloc o).lt (Ne.symm hne2)).trans (hp0.alloc o)
  refine ⟨rfl, v', hc1.far (Ne.symm hpc) _, hp1.put 3 v', own_set hown hp1 (by decide) 3 v', ?_, ?_⟩
  · rcases hat with h | h
    · exact .inl h
    · exact .inr ⟨_, h, by rw [hz]; omega⟩
  · refine ⟨hgrow.os, hgrow.tape, hgrow.output, ?_, fun k hk hm => ?_⟩
    · have := hgrow.size
      rw [hz] at this
      simp [World.setCell]
      omega
    · have h1 : k ≠ p := fun h => hm (.inl h)
      have h2 : k ≠ c := fun h => hm (.inr (.inl h))
      have h3 : some k ≠ cv.ownBlock := fun h => hm (.inr (.inr h))
      rw [Below.heap_setCell _ _ _ _ h1, hgrow.block k (by rw [hz]; omega) h3, Below.heap_alloc _ _ _ (by simpa [World.setCell] using hk), Below.heap_setCell _ _ _ _ h2]

theorem size_set (w : World) (a : Addr) (y : Value) : (w.setCell a y).heap.size = w.heap.size := by simp [World.setCell]
theorem cell_new_set (w : World) (a : Addr) (y x : Value) (t : TypeId) : ∀ j u, [x][j]? = some u → ((w.setCell a y).alloc (.cells #[x] t)).cell? ((⟨w.heap.size, 0, none⟩ : Addr).add j) = some u := by
  have h := cell_one_new (w.setCell a y) x t
  rw [size_set] at h
  exact h

theorem adopt_row {w w1 : World} {B p c n : Nat} {nm nm' : ByteArray} {sz sz' : Int} {pp pp' : Option Addr} {cc cv : Value} {xs : List Value} {o : Obj}
    (_hc : Row w c 106 (nodeCells nm sz pp cc)) (hp : Row w p 106 (nodeCells nm' sz' pp' cv)) (hpc : p ≠ c) (hcv : w.ownsRow B 57 1 cv n xs)
    (hgrow : ((w.setCell ⟨c, 2, none⟩ (ptrTo p)).alloc o).grownBy w1 cv.ownBlock) : Row w1 p 106 (nodeCells nm' sz' pp' cv) := by
  have hne2 : cv.ownBlock ≠ some p := own_ne hcv hp (by decide)
  have hp0 : Row (w.setCell ⟨c, 2, none⟩ (ptrTo p)) p 106 (nodeCells nm' sz' pp' cv) := hp.far hpc _
  exact (hgrow.block p (hp0.alloc o).lt (Ne.symm hne2)).trans (hp0.alloc o)

set_option maxRecDepth 100000 in
set_option maxHeartbeats 400000 in
theorem adopt_any (B p c n : Nat) (nm nm' : ByteArray) (sz sz' : Int) (pp pp' : Option Addr) (cc cv : Value) (xs : List Value) (w : World)
    (hc : Row w c 106 (nodeCells nm sz pp cc)) (hp : Row w p 106 (nodeCells nm' sz' pp' cv)) (hpc : p ≠ c) (hcv : w.ownsRow B 57 1 cv n xs) (hB : B ≤ w.heap.size) (hn : n ≤ 1000) :
    Calls Tryd.prog 99 #[.pointer (some ⟨p, 0, none⟩), .pointer (some ⟨c, 0, none⟩)] w (Adopted w B p c n nm nm' sz sz' pp' cc cv xs) := by
  obtain ⟨i0, hi0, hz0, hz1, hz2⟩ := info_parts info_ptr
  have I0 := Lib.hid hi0
  have Z0 := Lib.hid hz0
  have Z1 := Lib.hid hz1
  have Z2 := Lib.hid hz2
  clear hi0 hz0 hz1 hz2
  have e2 : w.cell? ⟨c, 2, none⟩ = some (.pointer pp) := hc.cell 2
  have e3 : w.cell? ⟨p, 3, none⟩ = some cv := hp.cell 3
  have f2 := hc.free 2
  have f3 := hp.free 3
  have HC := Lib.hid hc
  have HP := Lib.hid hp
  have HO := Lib.hid hcv
  have HE := Lib.hid hcv.2
  clear hc hp hcv
  have hl : ∃ A nn cc', cv = .slice A nn cc' := by
    rcases HE.out with ⟨rfl, _⟩ | ⟨g, cap, _, rfl, _⟩
    · exact ⟨_, _, _, rfl⟩
    · exact ⟨_, _, _, rfl⟩
  obtain ⟨A, nn, cc', rfl⟩ := hl
  clear HE
  go_enter Tryd.func99, Tryd.ntmps99
  go_wp2_with (at_builtin; go_must (refine wpList_append_own_at _ rfl _ _ 52 rfl B 57 i0 (.pointer none) 1 8 Tryd.underlying52 I0.out Z0.out Z1.out Z2.out rfl (by decide) _ n xs rfl ((own_set HO.out HC.out (by decide) _ _).alloc _) ⟨w.heap.size, 0, none⟩ 1 1 [ptrTo c] rfl rfl (cell_new_set _ _ _ _ _) (by simp [ptrTo, Value.oneCell']) (by simp [maxLen]; omega) (by omega) (by simp [World.setCell]; omega) ?_); intro v' w1 hown1 hgrow _ hat; obtain ⟨g', cap', rfl⟩ := own_form hown1 (by omega); have H1 := Lib.hid hown1; have H2 := Lib.hid hgrow; have H3 := Lib.hid hat; have hp1 := adopt_row HC.out HP.out hpc HO.out hgrow; have g3 := hp1.free 3; have g4 : w1.cell? ⟨p, 3, none⟩ = some (.slice A nn cc') := hp1.cell 3; clear hown1 hgrow hat hp1)
  go_end0
  exact adopt_end HC.out HP.out hpc HO.out H1.out H2.out H3.out (t := 0) rfl

end Go.Proofs.YtdbddockmdkmeaaDoor
