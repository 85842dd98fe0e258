/- Joined: Vw Kj. -/
import Derived.Test.YtadichddgpojpaaU27
import Derived.Test.YtadichddgpojpaaU24
import Derived.Test.YtadichddgpojpaaU08
/- Chapter 9: how much a segment can grow: the reference. -/
namespace Go.Proofs.Ytadichddgpojpaa
open Go.RowKit

theorem hasPath9 {l : List Seg} (hv : validB l = true) {i k : Nat} (hk : k < l.length) : hasB (pathOf l k) (i : Int) = decide (i ∈ rp l k) := by
  have hd := (valid_all hv).1.down
  have HP : pathOf l k = (rp l k).map fun j : Nat => (j : Int) := rootPath_chain hd (k + 1) k hk (by omega)
  rw [HP]
  unfold hasB
  rw [Bool.eq_iff_iff, List.any_eq_true, decide_eq_true_iff]
  constructor
  · rintro ⟨x, hx, he⟩
    obtain ⟨j, hj, rfl⟩ := List.mem_map.1 hx
    have := beq_iff_eq.1 he
    obtain rfl : j = i := by omega
    exact hj
  · intro h
    exact ⟨(i : Int), List.mem_map.2 ⟨i, h, rfl⟩, beq_self_eq_true _⟩
theorem pathLen9 {l : List Seg} (hv : validB l = true) {k : Nat} (hk : k < l.length) : (pathOf l k).length ≤ 9 := by
  have hd := (valid_all hv).1.down
  have HP : pathOf l k = (rp l k).map fun j : Nat => (j : Int) := rootPath_chain hd (k + 1) k hk (by omega)
  have hl8 := (valid_all hv).2.1
  have hz : (rp l k).length ≤ k + 1 := rootPath_len l (k + 1) k
  rw [HP, List.length_map]
  omega

set_option maxRecDepth 100000 in
set_option maxHeartbeats 400000 in
theorem l9Below_any (A : Option Addr) (l : List Seg) (c i k : Nat) (w : World) (hw : Segs w w.heap.size A l) (hv : validB l = true) (hk : k < l.length) :
    Calls Try.prog 84 #[.slice A l.length c, .int .i64 k, .int .i64 i] w fun e w' => e = .returned (.bool (decide (i ∈ rp l k))) ∧ Below w.heap.size w w' := by
  have HW : Hid (Segs w w.heap.size A l) := hw
  have HD := Lib.hid (valid_all hv).1.down
  have hl8 := (valid_all hv).2.1
  have HP := Lib.hid (hasPath9 (i := i) hv hk)
  have HL := Lib.hid (pathLen9 hv hk)
  clear hw hv
  generalize decide (i ∈ rp l k) = q at *
  go_enter Try.func84, Try.ntmps84
  go_wp2_with fail
  refine (l1Path_any _ _ _ _ _ HW.out (by omega) hk (HD.out.mono (by omega))).mono ?_
  rintro e w1 ⟨g, cap, rfl, hown, hb1⟩
  have HO := Lib.hid hown
  have HB := Lib.hid hb1
  clear hown hb1
  have HC := Lib.hid (l1Has_any g cap w.heap.size (pathOf l k) (i : Int) w1 HO.out (by have := HL.out; omega))
  rw [HP.out] at HC
  generalize pathOf l k = xs at *
  go_wp2_with fail
  refine Calls.mono HC.out ?_
  rintro e w2 ⟨rfl, rfl⟩
  go_wp2
  go_ret
  exact ⟨rfl, HB.out⟩

set_option maxRecDepth 100000 in
set_option maxHeartbeats 4000000 in
theorem specRoomLeft_any (A : Option Addr) (l : List Seg) (c : Nat) (s : ByteArray) (w : World) (hw : Segs w w.heap.size A l) (hl : l.length ≤ 1048576) (hn : Short l) :
    Calls Try.prog 45 #[.slice A l.length c, .string s] w fun e w' => e = .returned (.int .i64 (leftB l s)) ∧ Below w.heap.size w w' := by
  have HW : Hid (Segs w w.heap.size A l) := hw
  clear hw
  by_cases hneg : indexB l s < 0
  · have HF := Lib.hid (left_neg hneg)
    rw [HF.out]
    go_enter Try.func45, Try.ntmps45
    go_wp2_with fail
    refine (l1Index_any _ _ _ _ _ HW.out hl hn).mono ?_
    rintro e w1 ⟨rfl, hb1⟩
    have HB1 := Lib.hid hb1
    clear hb1
    generalize indexB l s = q at *
    go_wp2
    go_ret
    exact ⟨rfl, HB1.out⟩
  · obtain ⟨hv, hi⟩ := index9_valid (l := l) (s := s) (by omega)
    have HV := Lib.hid hv
    have HI : Hid (indexB l s = ((ix9 l s : Nat) : Int)) := by show _ = _; unfold ix9; omega
    have hl8 := (valid_all hv).2.1
    have HF : Hid (leftB l s = min (roomTo l l.length - deepTo l (ix9 l s) l.length) (99 - sizeAt l (ix9 l s))) := by
      show _ = _
      unfold leftB
      rw [if_neg hneg]
    rw [HF.out]
    clear HF
    generalize ix9 l s = i at *
    have hi1 : ¬ (i : Int) < 0 := by omega
    obtain ⟨dp, HDP⟩ : ∃ d, Hid (deepTo l i l.length = d) := ⟨_, rfl⟩
    obtain ⟨rm, HRM⟩ : ∃ d, Hid (roomTo l l.length = d) := ⟨_, rfl⟩
    obtain ⟨zk, HZK⟩ : ∃ d, Hid (sizeAt l i = d) := ⟨_, rfl⟩
    rw [HDP.out, HRM.out, HZK.out]
    go_enter Try.func45, Try.ntmps45
    go_wp2_with fail
    refine (l1Index_any _ _ _ _ _ HW.out hl hn).mono ?_
    rw [HI.out]
    rintro e w1 ⟨rfl, hb1⟩
    have HB1 := Lib.hid hb1
    clear hb1
    go_wp2
    go_loopw [6, 7, 15] (fun dv _ kv wr => ∃ (k : Nat) (n : Int), k ≤ l.length ∧ kv = .int .i64 k ∧ dv = .int .i64 n ∧ Hid (deepTo l i k = n) ∧ Hid (Below w.heap.size w wr))
      (fun _ _ kv _ => l.length - (intOf kv).toNat)
    case atStart => exact ⟨0, 0, Nat.zero_le _, rfl, rfl, rfl, HB1.out⟩
    case round =>
      obtain ⟨k, n, hk, rfl, rfl, HN, HB⟩ := hrel
      by_cases hlt : k < l.length
      · have HR : Hid (deepTo l i (k + 1) = if i ∈ rp l k then max n (endAt l k) else n) := by
          show _ = _
          rw [deepTo, HN.out]
        obtain ⟨n1, n2, n3⟩ := place_small HV.out hlt
        have hr := deepTo_bd HV.out i k hk
        rw [HN.out] at hr
        obtain ⟨r1, r2⟩ := hr
        have he0 : 0 ≤ endAt l k := by omega
        have HCB : Hid (∀ W, Below w.heap.size w W → Calls Try.prog 84 #[.slice A l.length c, .int .i64 k, .int .i64 i] W fun e w' => e = .returned (.bool (decide (i ∈ rp l k))) ∧ Below W.heap.size W w') := fun W hb => l9Below_any A l c i k W ((HW.out.below hb).more hb.size) HV.out hlt
        have HCE : Hid (∀ W, Below w.heap.size w W → Calls Try.prog 85 #[.slice A l.length c, .int .i64 k] W fun e w' => e = .returned (.int .i64 (endAt l k)) ∧ Below W.heap.size W w') := fun W hb => l2End_any A l c k W ((HW.out.below hb).more hb.size) HV.out hlt
        clear n1 n2 HN
        by_cases hin : i ∈ rp l k
        · rw [if_pos hin] at HR
          rw [decide_eq_true hin] at HCB
          clear hin
          go_wp2_with fail
          refine (HCB.out _ HB.out).mono ?_
          rintro e w2 ⟨rfl, hb2⟩
          have HB2 : Hid (Below w.heap.size w w2) := HB.out.trans (hb2.mono HB.out.size)
          clear hb2
          go_wp2_with fail
          refine (HCE.out _ HB2.out).mono ?_
          rintro e w3 ⟨rfl, hb3⟩
          have HB3 : Hid (Below w.heap.size w w3) := HB2.out.trans (hb3.mono HB2.out.size)
          clear hb3 HCB HCE
          generalize endAt l k = en at *
          go_wp2
          all_goals go_roundw
          all_goals first
            | exact ⟨k + 1, _, by omega, by go_num, rfl, by rw [HR.out]; omega, HB3⟩
            | exact ⟨k + 1, _, by omega, by go_num, rfl, HR, HB3⟩
            | (simp [intOf]; omega)
        · rw [if_neg hin] at HR
          rw [decide_eq_false hin] at HCB
          clear hin
          go_wp2_with fail
          refine (HCB.out _ HB.out).mono ?_
          rintro e w2 ⟨rfl, hb2⟩
          have HB2 : Hid (Below w.heap.size w w2) := HB.out.trans (hb2.mono HB.out.size)
          clear hb2 HCB HCE
          go_wp2
          all_goals go_roundw
          all_goals first
            | exact ⟨k + 1, _, by omega, by go_num, rfl, HR, HB2⟩
            | (simp [intOf]; omega)
      · obtain rfl : k = l.length := by omega
        obtain ⟨b, o, rfl, hbb, hc⟩ := HW.out (by omega)
        have hsz : sizeAt l i = l[i].size := by unfold sizeAt; rw [List.getElem?_eq_getElem hi]
        have hcs := (hc i l[i] (List.getElem?_eq_getElem hi)).2.1
        rw [← hsz] at hcs
        clear hsz
        have hdb := deepTo_bd HV.out i l.length (Nat.le_refl _)
        have hrb := roomTo_bd HV.out l.length (Nat.le_refl _)
        have hzk := sizeAt_bd HV.out hi
        have HCR : Hid (∀ W, Below w.heap.size w W → Calls Try.prog 86 #[.slice (some ⟨b, o, none⟩) l.length c] W fun e w' => e = .returned (.int .i64 (roomTo l l.length)) ∧ Below W.heap.size W w') := fun W hb => l2Room_any _ l c W ((HW.out.below hb).more hb.size) HV.out
        obtain rfl : n = dp := HN.out.symm.trans HDP.out
        rw [HN.out] at hdb
        rw [HRM.out] at hrb HCR
        rw [HZK.out] at hzk hcs
        have hil : (i : Int) < (l.length : Int) := by omega
        have hi0 : (0 : Int) ≤ (i : Int) := Int.natCast_nonneg _
        have HCS := Lib.hid hcs
        clear hc hcs
        have hwz : IntKind.i64.wrap (99 - zk) = 99 - zk := IntWalk.i64_in _ (by omega)
        have hwd : IntKind.i64.wrap (rm - n) = rm - n := IntWalk.i64_in _ (by omega)
        have HCC : Hid (∀ W, Below w.heap.size w W → W.cell? ⟨b, o + i * 3 + 1, none⟩ = some (.int .i64 zk)) := fun W hb => (hb.cell (p := ⟨b, o + i * 3 + 1, none⟩) hbb).trans HCS.out
        go_wp2_with fail
        refine wp_region_held_drew (S := (fun W => W.cell? ⟨b, o + i * 3 + 1, none⟩ = some (.int .i64 zk) ∧ Below w.heap.size w W)) (by kernel_rfl) ?_ (fun hHeld => ?_)
        · exact ⟨HCC.out _ HB.out.drew, HB.out.drew⟩
        refine take_at (i := 0) (d := 28) (v := .slice (some ⟨b, o, none⟩) l.length c) rfl rfl (by kernel_rfl) (by kernel_rfl) (by kernel_rfl) (fun _ _ _ h => h) (by kernel_rfl) (by (intro w hSw; (try dsimp only at hSw); go_simp)) (by assumption) ?_
        simp only [List.setIfInBounds_toArray, List.set_cons_succ, List.set_cons_zero]
        refine take_at (i := 2) (d := 30) (v := .int .i64 n) rfl rfl (by kernel_rfl) (by kernel_rfl) (by kernel_rfl) (fun _ _ _ h => h) (by kernel_rfl) (by (intro w hSw; (try dsimp only at hSw); go_simp)) (by assumption) ?_
        simp only [List.setIfInBounds_toArray, List.set_cons_succ, List.set_cons_zero]
        refine take_at (i := 4) (d := 32) (v := .slice (some ⟨b, o, none⟩) l.length c) rfl rfl (by kernel_rfl) (by kernel_rfl) (by kernel_rfl) (fun _ _ _ h => h) (by kernel_rfl) (by (intro w hSw; (try dsimp only at hSw); go_simp)) (by assumption) ?_
        simp only [List.setIfInBounds_toArray, List.set_cons_succ, List.set_cons_zero]
        refine take_at (i := 5) (d := 33) (v := .int .i64 i) rfl rfl (by kernel_rfl) (by kernel_rfl) (by kernel_rfl) (fun _ _ _ h => h) (by kernel_rfl) (by (intro w hSw; (try dsimp only at hSw); go_simp)) (by assumption) ?_
        simp only [List.setIfInBounds_toArray, List.set_cons_succ, List.set_cons_zero]
        refine take_at (i := 6) (d := 34) (v := .pointer (some ⟨b, o + i * 3, none⟩)) rfl rfl (by kernel_rfl) (by kernel_rfl) (by kernel_rfl) (fun _ _ _ h => h) (by kernel_rfl) (by (intro w hSw; (try dsimp only at hSw); go_simp)) (by assumption) ?_
        simp only [List.setIfInBounds_toArray, List.set_cons_succ, List.set_cons_zero]
        refine take_at (i := 7) (d := 35) (v := .pointer (some ⟨b, o + i * 3 + 1, none⟩)) rfl rfl (by kernel_rfl) (by kernel_rfl) (by kernel_rfl) (fun _ _ _ h => h) (by kernel_rfl) (by (intro w hSw; (try dsimp only at hSw); go_simp)) (by assumption) ?_
        simp only [List.setIfInBounds_toArray, List.set_cons_succ, List.set_cons_zero]
        refine take_at (i := 8) (d := 36) (v := .int .i64 zk) rfl rfl (by kernel_rfl) (by kernel_rfl) (by kernel_rfl) (fun _ _ _ h => h) (by kernel_rfl) (by (intro w hSw; (try dsimp only at hSw); go_simp)) (by assumption) ?_
        simp only [List.setIfInBounds_toArray, List.set_cons_succ, List.set_cons_zero]
        refine take_at (i := 9) (d := 37) (v := .int .i64 (99 - zk)) rfl rfl (by kernel_rfl) (by kernel_rfl) (by kernel_rfl) (fun _ _ _ h => h) (by kernel_rfl) (by (intro w hSw; (try dsimp only at hSw); go_simp)) (by assumption) ?_
        simp only [List.setIfInBounds_toArray, List.set_cons_succ, List.set_cons_zero]
        refine wpAnyH_ready (rs := [1]) (by kernel_rfl) (by simp) ?_
        refine AllReadyH.cons rfl (fun K hK => ?_) AllReadyH.nil
        go_simp
        refine Calls.mono (HCR.out _ (And.right (by assumption))) ?_
        rintro e w4 ⟨rfl, hb4⟩
        have HB4 : Hid (Below w.heap.size w w4) := HB.out.drew.trans (hb4.mono HB.out.drew.size)
        refine hK.out _ _ ⟨HCC.out _ HB4.out, HB4.out⟩ (fun hHeld => ?_)
        clear hK K
        refine take_at (i := 3) (d := 31) (v := .int .i64 (rm - n)) rfl rfl (by kernel_rfl) (by kernel_rfl) (by kernel_rfl) (fun _ _ _ h => h) (by kernel_rfl) (by (intro w hSw; (try dsimp only at hSw); go_simp)) (by assumption) ?_
        simp only [List.setIfInBounds_toArray, List.set_cons_succ, List.set_cons_zero]
        refine wpAnyH_ready (rs := [10]) (by kernel_rfl) (by simp) ?_
        refine AllReadyH.cons rfl (fun K hK => ?_) AllReadyH.nil
        go_simp
        refine hK.out _ _ ⟨HCC.out _ HB4.out, HB4.out⟩ (fun hHeld => ?_)
        clear hK K
        refine wpAnyH_ready (rs := [11]) (by kernel_rfl) (by simp) ?_
        refine AllReadyH.cons rfl (fun K hK => ?_) AllReadyH.nil
        go_simp
        refine hK.out _ _ ⟨HCC.out _ HB4.out, HB4.out⟩ (fun hHeld => ?_)
        clear hK K
        refine wpAnyH_done (by kernel_rfl) ?_ _
        go_wp2
        go_ret
        exact ⟨rfl, HB4.out⟩

end Go.Proofs.Ytadichddgpojpaa
/- The walk of the law FnExactRoomLeft. -/
namespace Go.Proofs.Ytadichddgpojpaa
open Go.RowKit

set_option maxRecDepth 100000 in
set_option maxHeartbeats 400000 in
theorem lawRoomLeft_any (A : Option Addr) (l : List Seg) (c : Nat) (s : ByteArray) (w : World) (hw : Segs w w.heap.size A l) (hl : l.length ≤ maxLen) (hn : Short l) (hsz : s.size ≤ maxLen) :
    Calls Try.prog 12 #[.slice A l.length c, .string s] w fun e w' => e = .returned (.bool true) ∧ Below w.heap.size w w' := by
  have HW : Hid (Segs w w.heap.size A l) := hw
  clear hw
  unfold maxLen at hsz
  by_cases hbigs : 1048576 < s.size
  · go_enter Try.func12, Try.ntmps12
    go_wp2
    go_ret
    exact ⟨rfl, Below.refl _ _⟩
  by_cases hs : sizeLeft l < 0
  · go_enter Try.func12, Try.ntmps12
    go_wp2_with fail
    refine (szSegmentS_any _ _ _ _ HW.out hl hn).mono ?_
    rintro e w1 ⟨rfl, hb1⟩
    go_wp2
    go_ret
    exact ⟨rfl, hb1⟩
  · have hlen := sizeLeft_len hs
    go_enter Try.func12, Try.ntmps12
    go_wp2_with fail
    refine (szSegmentS_any _ _ _ _ HW.out hl hn).mono ?_
    rintro e w1 ⟨rfl, hb1⟩
    have hs1 := (HW.out.below hb1).more hb1.size
    go_wp2_with fail
    refine (toSegmentS_any _ _ _ _ hs1 hlen).mono ?_
    rintro e w2 ⟨rfl, hb2, hx2⟩
    have B2 : Below w.heap.size w w2 := hb1.trans (hb2.mono hb1.size)
    clear hb2 hs1
    go_wp2_with fail
    refine (specRoomLeft_any _ _ _ _ _ hx2 hlen hn).mono ?_
    rintro e w3 ⟨rfl, hb3⟩
    have B3 : Below w.heap.size w w3 := B2.trans (hb3.mono B2.size)
    clear hb3 hx2 B2
    have hs3 := (HW.out.below B3).more B3.size
    go_wp2_with fail
    refine (toSegmentS_any _ _ _ _ hs3 hlen).mono ?_
    rintro e w4 ⟨rfl, hb4, hx4⟩
    have B4 : Below w.heap.size w w4 := B3.trans (hb4.mono B3.size)
    clear hb4 hs3
    go_wp2_with fail
    refine (roomLeft_any _ _ _ _ _ hx4 hlen (Nat.le_refl _) (Nat.le_trans hlen (by decide)) hn).mono ?_
    rintro e w5 ⟨rfl, hb5⟩
    have B5 : Below w.heap.size w w5 := B4.trans (hb5.mono B4.size)
    have hx5 := (hx4.below hb5).more hb5.size
    clear hb5 hx4 B4
    have hs5 := (HW.out.below B5).more B5.size
    go_wp2_with fail
    refine (toSegmentS_any _ _ _ _ hs5 hlen).mono ?_
    rintro e w6 ⟨rfl, hb6, hx6⟩
    have B6 : Below w.heap.size w w6 := B5.trans (hb6.mono B5.size)
    have hx7 := (hx5.below hb6).more hb6.size
    clear hb6 hs5 hx5 B5
    go_wp2_with fail
    refine (eqSegmentS_same _ _ _ _ _ _ hx7 hx6 hlen).mono ?_
    rintro e w7 ⟨rfl, hb7⟩
    have B7 : Below w.heap.size w w7 := B6.trans (hb7.mono B6.size)
    clear hb7 hx6 hx7 B6
    go_wp2
    go_ret
    exact ⟨rfl, B7⟩

end Go.Proofs.Ytadichddgpojpaa
