/- Joined: Ts Tt Ix Ad Rw. -/
import Derived.Test.YtcpiojliakgdlaaGreatDoorU03
import Derived.Test.YtcpiojliakgdlaaGreatDoorU01
import Derived.BigQuiet
import Derived.Laws.IdiomStrings
/- spec.TreeValid is 'validB'. -/
namespace Go.Proofs.YtcpiojliakgdlaaGreatDoor
open Go.RowKit

theorem l1Path_at (A : Option Addr) (l : List Seg) (c k : Nat) (q : Int) (w0 w : World) (hq : q = (k : Int) - 1) (hw : Segs w0 w0.heap.size A l) (hb : Below w0.heap.size w0 w) (hl : l.length ≤ 1048576) (hk : k < l.length) (h0 : 0 < k) (hd : AllOk l k) :
    Calls Tryz.prog 60 #[.slice A l.length c, .int .i64 q] w (IntsPost w (pathOf l (k - 1))) := by
  rw [hq, show ((k : Int) - 1) = ((k - 1 : Nat) : Int) by omega]
  exact l1Path_any A l c (k - 1) w ((hw.below hb).more hb.size) hl (by omega) (hd.down.mono (by omega))
theorem parOk_has {l : List Seg} {k : Nat} (h0 : 0 < k) : hasB (pathOf l (k - 1)) (parAt l k) = parOk l k := by
  unfold parOk pathOf
  rw [hasB_reverse, if_neg (by omega), show k - 1 + 1 = k by omega, show ((k - 1 : Nat) : Int) = (k : Int) - 1 by omega]

set_option maxRecDepth 100000 in
set_option maxHeartbeats 4000000 in
theorem specTreeValid_any (A : Option Addr) (l : List Seg) (c : Nat) (w : World) (hw : Segs w w.heap.size A l) (hl : l.length ≤ 1048576) (hn : Short l) :
    Calls Tryz.prog 53 #[.slice A l.length c] w fun e w' => e = .returned (.bool (validB l)) ∧ Below w.heap.size w w' := by
  have HW : Hid (Segs w w.heap.size A l) := hw
  clear hw
  go_enter Tryz.func53, Tryz.ntmps53
  go_wp2
  go_loopw [3, 8] (fun s i wr => ∃ (k : Nat), k ≤ l.length ∧ i = .int .i64 k ∧ s = .string (seenOf l k) ∧ Hid (AllOk l k) ∧ Below w.heap.size w wr)
    (fun _ i _ => l.length - (intOf i).toNat)
  case atStart => exact ⟨0, Nat.zero_le _, rfl, rfl, fun j hj => absurd hj (by omega), Below.refl _ _⟩
  case round =>
    obtain ⟨k, hk, rfl, rfl, HA, hb⟩ := hrel
    by_cases hlt : k < l.length
    · obtain ⟨b, o, rfl, hB, hc⟩ := HW.out (by omega)
      obtain ⟨c0, c1, c2⟩ := hc k l[k] (List.getElem?_eq_getElem hlt)
      clear hc
      rw [← hb.cell hB] at c0 c1 c2
      have HO : Hid _ := segOk_of hlt
      have HS : Hid _ := hn l[k] (List.getElem_mem hlt)
      have HP : Hid _ := parAt_of (List.getElem?_eq_getElem hlt)
      have HQ : Hid _ := seenOf_succ hlt
      have hlen : (seenOf l k).size ≤ 1048576 := Nat.le_trans (seenOf_len HA.out) hl
      have hk0 : (0 : Int) ≤ (k : Int) := Int.natCast_nonneg _
      have hkl : (k : Int) < (l.length : Int) := by omega
      generalize l[k] = x at *
      obtain ⟨nm, sz, pa⟩ := x
      dsimp only at c0 c1 c2 HO HS HP HQ
      have hbG : Below w.heap.size w (wr.alloc (.cells #[.string nm, .int .i64 sz, .int .i64 pa] 58)) := hb.alloc hb.size _
      have HR : Hid (Row (wr.alloc (.cells #[.string nm, .int .i64 sz, .int .i64 pa] 58)) wr.heap.size 58 #[.string nm, .int .i64 sz, .int .i64 pa]) := Row.new _ _ _
      cases hN : nameOk nm with
      | false =>
        have HB : Hid (validB l = false) := validB_bad hlt (by rw [HO.out, hN]; rfl)
        go_wp2_with fail
        refine (l1Name_any _ _ HS.out).mono ?_
        rw [hN]
        rintro e w' ⟨rfl, rfl⟩
        go_wp2_with fail
        go_ret
        exact ⟨ret_bool HB.out.symm, hbG⟩
      | true =>
        obtain ⟨ch, rfl, _⟩ := nameOk_one hN
        have HF : Hid _ := find_seen HA.out ch
        have H1 := at_one ch
        go_wp2_with fail
        refine (l1Name_any _ _ HS.out).mono ?_
        rw [hN]
        rintro e w' ⟨rfl, rfl⟩
        cases hT : takenB (l.take k) ⟨#[ch]⟩ with
        | true =>
          have HB : Hid (validB l = false) := validB_bad hlt (by rw [HO.out, hN, hT]; rfl)
          have hf : 0 ≤ findB (seenOf l k) ch := of_decide_eq_true (HF.out.trans hT)
          go_wp2_with fail
          refine (l13Find_any _ _ _ (by simp [maxLen]; omega)).mono ?_
          rintro e w' ⟨rfl, rfl⟩
          go_wp2_with fail
          go_ret
          exact ⟨ret_bool HB.out.symm, hbG⟩
        | false =>
          have hf : ¬ 0 ≤ findB (seenOf l k) ch := of_decide_eq_false (HF.out.trans hT)
          cases hZ : sizeOk sz with
          | false =>
            have HB : Hid (validB l = false) := validB_bad hlt (by rw [HO.out, hN, hT, hZ]; rfl)
            go_wp2_with fail
            refine (l13Find_any _ _ _ (by simp [maxLen]; omega)).mono ?_
            rintro e w' ⟨rfl, rfl⟩
            go_wp2_with fail
            refine (l1In_any _ _ _ _).mono ?_
            rw [show inB sz 1 99 = false from hZ]
            rintro e w' ⟨rfl, rfl⟩
            go_wp2_with fail
            go_ret
            exact ⟨ret_bool HB.out.symm, hbG⟩
          | true =>
            have HK : Hid (segOk l k = parOk l k) := by
              show _ = _
              rw [HO.out, hN, hT, hZ]; rfl
            have HF' := Lib.hid hf
            clear hf
            go_wp2_with fail
            refine (l13Find_any _ _ _ (by simp [maxLen]; omega)).mono ?_
            rintro e w' ⟨rfl, rfl⟩
            have hf := HF'.out
            go_wp2_with fail
            refine (l1In_any _ _ _ _).mono ?_
            rw [show inB sz 1 99 = true from hZ]
            rintro e w' ⟨rfl, rfl⟩
            go_wp2_with fail
            have hs2 : ((seenOf l k) ++ (⟨#[ch]⟩ : ByteArray)) = seenOf l (k + 1) := HQ.out.symm
            have e2 := HR.out.cell 2
            have hG := HR.out.lt
            clear hf hs2
            have hpa : ((pa : Int) == parAt l k) = true := by rw [HP.out]; simp
            clear hpa
            generalize wr.heap.size = G at *
            generalize wr.alloc (.cells #[.string ⟨#[ch]⟩, .int .i64 sz, .int .i64 pa] 58) = W1 at *
            simp at e2
            generalize hfb : decide (0 ≤ findB (seenOf l k) ch) = fb
            clear hfb
            by_cases h0 : (k : Int) ≤ 0
            · have hz : ((k : Int) == 0) = true := by rw [beq_iff_eq]; omega
              cases hm : (pa != -1) with
              | true =>
                have HB : Hid (validB l = false) := validB_bad hlt (by
                  obtain rfl : k = 0 := by omega
                  rw [HK.out]
                  show (parAt l 0 == -1) = false
                  rw [HP.out, beq_eq_false_iff_ne]
                  exact bne_iff_ne.1 hm)
                refine wp_region_quiet_lit (by kernel_rfl) (by kernel_rfl) ?_
                repeat (first | go_big_quiet_step (fail) | (refine wpQuiet_skip (by rfl) ?_; simp only [Act.put, List.setIfInBounds_toArray, List.set_cons_zero, List.set_cons_succ]))
                refine wpQuiet_nil ?_
                rintro _ ⟨nq, rfl⟩
                go_wp2
                go_ret
                exact ⟨ret_bool HB.out.symm, below_drewN hbG _⟩
              | false =>
                have HB : Hid (AllOk l (k + 1)) := HA.out.succ (by
                  obtain rfl : k = 0 := by omega
                  rw [HK.out]
                  show (parAt l 0 == -1) = true
                  rw [HP.out]
                  simpa using hm)
                have hd : decide (0 < k) = false := decide_eq_false (by omega)
                refine wp_region_quiet_lit (by kernel_rfl) (by kernel_rfl) ?_
                repeat (first | go_big_quiet_step (fail) | (refine wpQuiet_skip (by rfl) ?_; simp only [Act.put, List.setIfInBounds_toArray, List.set_cons_zero, List.set_cons_succ]))
                refine wpQuiet_nil ?_
                rintro _ ⟨nq, rfl⟩
                go_wp2
                go_roundw
                case rel => exact ⟨k + 1, by omega, by go_num, by rw [HQ.out], HB, below_drewN hbG _⟩
                case measure => simp [intOf]; omega
            · have hz : ((k : Int) == 0) = false := by rw [beq_eq_false_iff_ne]; omega
              have h1 : 0 < (k : Int) := by omega
              have HH : Hid _ := parOk_has (l := l) (k := k) (by omega)
              rw [HP.out] at HH
              have hd : decide (0 < k) = true := decide_eq_true (by omega)
              have hkn : 0 < k := by omega
              have HL : Hid ((pathOf l (k - 1)).length ≤ 2097152) := by
                show (chain l (k - 1 + 1) ((k - 1 : Nat) : Int)).reverse.length ≤ _
                rw [List.length_reverse]
                have := chain_len l (k - 1 + 1) ((k - 1 : Nat) : Int)
                omega
              have HV : Hid (hasB (pathOf l (k - 1)) pa = parOk l k) := HH
              clear hd
              refine wp_region_held_drew (S := (fun w' => w'.cell? ⟨G, 2, none⟩ = some (.int .i64 pa) ∧ Below w.heap.size w w')) (by kernel_rfl) ?_ (fun hHeld => ?_)
              · exact ⟨e2, hbG.drew⟩
              refine take_at (i := 0) (d := 35) (v := .int .i64 k) rfl rfl (by kernel_rfl) (by kernel_rfl) (by kernel_rfl) (fun _ _ _ h => h) (by kernel_rfl) (by (intro w hSw; (try dsimp only at hSw); go_simp)) (by assumption) ?_
              simp only [List.setIfInBounds_toArray, List.set_cons_succ, List.set_cons_zero]
              refine take_at (i := 1) (d := 36) (v := .bool false) rfl rfl (by kernel_rfl) (by kernel_rfl) (by kernel_rfl) (fun _ _ _ h => h) (by kernel_rfl) (by (intro w hSw; (try dsimp only at hSw); go_simp)) (by assumption) ?_
              simp only [List.setIfInBounds_toArray, List.set_cons_succ, List.set_cons_zero]
              refine take_at (i := 2) (d := 37) (v := .bool false) rfl rfl (by kernel_rfl) (by kernel_rfl) (by kernel_rfl) (fun _ _ _ h => h) (by kernel_rfl) (by (intro w hSw; (try dsimp only at hSw); go_simp)) (by assumption) ?_
              simp only [List.setIfInBounds_toArray, List.set_cons_succ, List.set_cons_zero]
              refine skip_at (i := 3) (d := 38) rfl rfl (by kernel_rfl) (by kernel_rfl) (by kernel_rfl) (fun _ _ _ h => h) (by kernel_rfl) (by assumption) ?_
              simp only [List.setIfInBounds_toArray, List.set_cons_succ, List.set_cons_zero]
              refine skip_at (i := 4) (d := 39) rfl rfl (by kernel_rfl) (by kernel_rfl) (by kernel_rfl) (fun _ _ _ h => h) (by kernel_rfl) (by assumption) ?_
              simp only [List.setIfInBounds_toArray, List.set_cons_succ, List.set_cons_zero]
              refine skip_at (i := 5) (d := 40) rfl rfl (by kernel_rfl) (by kernel_rfl) (by kernel_rfl) (fun _ _ _ h => h) (by kernel_rfl) (by assumption) ?_
              simp only [List.setIfInBounds_toArray, List.set_cons_succ, List.set_cons_zero]
              refine take_at (i := 6) (d := 41) (v := .bool false) rfl rfl (by kernel_rfl) (by kernel_rfl) (by kernel_rfl) (fun _ _ _ h => h) (by kernel_rfl) (by (intro w hSw; (try dsimp only at hSw); go_simp)) (by assumption) ?_
              simp only [List.setIfInBounds_toArray, List.set_cons_succ, List.set_cons_zero]
              refine take_at (i := 7) (d := 42) (v := .bool false) rfl rfl (by kernel_rfl) (by kernel_rfl) (by kernel_rfl) (fun _ _ _ h => h) (by kernel_rfl) (by (intro w hSw; (try dsimp only at hSw); go_simp)) (by assumption) ?_
              simp only [List.setIfInBounds_toArray, List.set_cons_succ, List.set_cons_zero]
              refine take_at (i := 8) (d := 43) (v := .int .i64 k) rfl rfl (by kernel_rfl) (by kernel_rfl) (by kernel_rfl) (fun _ _ _ h => h) (by kernel_rfl) (by (intro w hSw; (try dsimp only at hSw); go_simp)) (by assumption) ?_
              simp only [List.setIfInBounds_toArray, List.set_cons_succ, List.set_cons_zero]
              refine take_at (i := 9) (d := 44) (v := .bool true) rfl rfl (by kernel_rfl) (by kernel_rfl) (by kernel_rfl) (fun _ _ _ h => h) (by kernel_rfl) (by (intro w hSw; (try dsimp only at hSw); go_simp)) (by assumption) ?_
              simp only [List.setIfInBounds_toArray, List.set_cons_succ, List.set_cons_zero]
              refine take_at (i := 10) (d := 45) (v := .bool true) rfl rfl (by kernel_rfl) (by kernel_rfl) (by kernel_rfl) (fun _ _ _ h => h) (by kernel_rfl) (by (intro w hSw; (try dsimp only at hSw); go_simp)) (by assumption) ?_
              simp only [List.setIfInBounds_toArray, List.set_cons_succ, List.set_cons_zero]
              refine take_at (i := 11) (d := 46) (v := .slice (some ⟨b, o, none⟩) l.length c) rfl rfl (by kernel_rfl) (by kernel_rfl) (by kernel_rfl) (fun _ _ _ h => h) (by kernel_rfl) (by (intro w hSw; (try dsimp only at hSw); go_simp)) (by assumption) ?_
              simp only [List.setIfInBounds_toArray, List.set_cons_succ, List.set_cons_zero]
              refine take_at (i := 12) (d := 47) (v := .int .i64 k) rfl rfl (by kernel_rfl) (by kernel_rfl) (by kernel_rfl) (fun _ _ _ h => h) (by kernel_rfl) (by (intro w hSw; (try dsimp only at hSw); go_simp)) (by assumption) ?_
              simp only [List.setIfInBounds_toArray, List.set_cons_succ, List.set_cons_zero]
              refine take_at (i := 15) (d := 50) (v := .pointer (some ⟨G, 2, none⟩)) rfl rfl (by kernel_rfl) (by kernel_rfl) (by kernel_rfl) (fun _ _ _ h => h) (by kernel_rfl) (by (intro w hSw; (try dsimp only at hSw); go_simp)) (by assumption) ?_
              simp only [List.setIfInBounds_toArray, List.set_cons_succ, List.set_cons_zero]
              refine take_at (i := 13) (d := 48) (v := .int .i64 ((k : Int) - 1)) rfl rfl (by kernel_rfl) (by kernel_rfl) (by kernel_rfl) (fun _ _ _ h => h) (by kernel_rfl) (fun _ _ => run_sub_op rfl rfl rfl (IntWalk.i64_in _ (by omega)) _) (by assumption) ?_
              simp only [List.setIfInBounds_toArray, List.set_cons_succ, List.set_cons_zero]
              refine take_at (i := 16) (d := 51) (v := .int .i64 pa) rfl rfl (by kernel_rfl) (by kernel_rfl) (by kernel_rfl) (fun _ _ _ h => h) (by kernel_rfl) (by (intro w hSw; (try dsimp only at hSw); go_simp)) (by assumption) ?_
              simp only [List.setIfInBounds_toArray, List.set_cons_succ, List.set_cons_zero]
              refine wpAnyH_ready (rs := [14]) (by kernel_rfl) (by simp) ?_
              refine AllReadyH.cons rfl (fun K hK => ?_) AllReadyH.nil
              go_simp
              refine (l1Path_at _ _ _ _ _ _ _ (by rfl) HW.out hHeld.2 hl hlt hkn HA.out).mono ?_
              rintro e w2 ⟨g2, cp2, rfl, hown, hb2⟩
              have hs2 : w2.cell? ⟨G, 2, none⟩ = some (.int .i64 pa) ∧ Below w.heap.size w w2 := ⟨(hb2.cell (p := ⟨G, 2, none⟩) hG).trans hHeld.1, hHeld.2.trans (hb2.mono hHeld.2.size)⟩
              have HO2 := Lib.hid hown
              clear hown hb2 hHeld
              refine hK.out _ _ hs2 (fun hHeld => ?_)
              clear hK K hs2
              refine wpAnyH_ready (rs := [17]) (by kernel_rfl) (by simp) ?_
              refine AllReadyH.cons rfl (fun K hK => ?_) AllReadyH.nil
              go_simp
              refine (l1Has_any _ _ _ _ _ _ HO2.out HL.out).mono ?_
              rw [HV.out]
              rintro e w' ⟨rfl, rfl⟩
              refine hK.out _ _ hHeld (fun hHeld => ?_)
              clear hK K
              refine take_at (i := 18) (d := 53) (v := .bool (!parOk l k)) rfl rfl (by kernel_rfl) (by kernel_rfl) (by kernel_rfl) (fun _ _ _ h => h) (by kernel_rfl) (by (intro w hSw; (try dsimp only at hSw); go_simp)) (by assumption) ?_
              simp only [List.setIfInBounds_toArray, List.set_cons_succ, List.set_cons_zero]
              refine take_at (i := 19) (d := 54) (v := .bool (!parOk l k)) rfl rfl (by kernel_rfl) (by kernel_rfl) (by kernel_rfl) (fun _ _ _ h => h) (by kernel_rfl) (by (intro w hSw; (try dsimp only at hSw); go_simp)) (by assumption) ?_
              simp only [List.setIfInBounds_toArray, List.set_cons_succ, List.set_cons_zero]
              refine take_at (i := 20) (d := 55) (v := .bool (!parOk l k)) rfl rfl (by kernel_rfl) (by kernel_rfl) (by kernel_rfl) (fun _ _ _ h => h) (by kernel_rfl) (by (intro w hSw; (try dsimp only at hSw); go_simp)) (by assumption) ?_
              simp only [List.setIfInBounds_toArray, List.set_cons_succ, List.set_cons_zero]
              refine wpAnyH_done (by kernel_rfl) ?_ _
              have hb3 : Below w.heap.size w w2 := hHeld.2
              clear hHeld hbG
              cases hp : parOk l k with
              | false =>
                have HB : Hid (validB l = false) := validB_bad hlt (by rw [HK.out, hp])
                clear hp
                go_wp2
                go_ret
                exact ⟨ret_bool HB.out.symm, hb3⟩
              | true =>
                have HB : Hid (AllOk l (k + 1)) := HA.out.succ (by rw [HK.out, hp])
                clear hp
                go_wp2
                go_roundw
                case rel => exact ⟨k + 1, by omega, by go_num, by rw [HQ.out], HB, hb3⟩
                case measure => simp [intOf]; omega
    · go_wp2_with fail
      refine (l1In_any _ _ _ _).mono ?_
      rintro e w' ⟨rfl, rfl⟩
      go_wp2
      go_ret
      refine ⟨ret_bool ?_, hb⟩
      obtain rfl : k = l.length := by omega
      rw [validB_all HA.out]
      unfold inB
      congr 1 <;> (apply decide_eq_decide.2; omega)

end Go.Proofs.YtcpiojliakgdlaaGreatDoor
/- Totals of sizes: the program's and the model's. -/
namespace Go.Proofs.YtcpiojliakgdlaaGreatDoor
open Go.RowKit

def sumTo (l : List Seg) (k : Nat) : Int := ((l.take k).map Seg.size).sum
theorem sumTo_succ {l : List Seg} {k : Nat} (hk : k < l.length) : sumTo l (k + 1) = sumTo l k + l[k].size := by
  unfold sumTo
  rw [List.take_succ_eq_append_getElem hk, List.map_append, List.sum_append_int]
  simp
theorem valid_all {l : List Seg} (h : validB l = true) : AllOk l l.length ∧ l.length ≤ 8 ∧ 1 ≤ l.length := by
  unfold validB at h
  simp only [Bool.and_eq_true, decide_eq_true_eq] at h
  exact ⟨allB_iff.1 h.2, h.1.2, h.1.1⟩
theorem valid_size {l : List Seg} (h : validB l = true) {k : Nat} (hk : k < l.length) : 1 ≤ l[k].size ∧ l[k].size ≤ 99 := by
  have := (valid_all h).1 k hk
  rw [segOk_of hk] at this
  simp only [Bool.and_eq_true] at this
  have hs := this.1.2
  unfold sizeOk at hs
  simp only [Bool.and_eq_true, decide_eq_true_eq] at hs
  exact hs
def totalB (l : List Seg) : Int := if validB l = true then sumTo l l.length else -1

end Go.Proofs.YtcpiojliakgdlaaGreatDoor
/- Which segment has a name: the model's side. -/
namespace Go.Proofs.YtcpiojliakgdlaaGreatDoor
open Go.RowKit

def seekFrom (s : ByteArray) : List Seg → Nat → Int
  | [], _ => -1
  | x :: l, k => if sameB x.name s = true then (k : Int) else seekFrom s l (k + 1)
def seek (l : List Seg) (s : ByteArray) : Int := seekFrom s l 0
theorem seekFrom_bd (s : ByteArray) : ∀ (l : List Seg) (k : Nat), seekFrom s l k = -1 ∨ ((k : Int) ≤ seekFrom s l k ∧ seekFrom s l k < k + l.length)
  | [], k => .inl rfl
  | x :: l, k => by
    unfold seekFrom
    by_cases h : sameB x.name s = true
    · rw [if_pos h]; right; simp only [List.length_cons]; omega
    · rw [if_neg h]
      rcases seekFrom_bd s l (k + 1) with h1 | h1
      · exact .inl h1
      · right; simp only [List.length_cons]; omega
theorem seek_bd (l : List Seg) (s : ByteArray) : seek l s = -1 ∨ (0 ≤ seek l s ∧ seek l s < l.length) := by
  have := seekFrom_bd s l 0
  simpa [seek] using this
theorem seekFrom_drop (l : List Seg) (s : ByteArray) (k : Nat) (hk : k < l.length) : seekFrom s (l.drop k) k = if sameB l[k].name s = true then (k : Int) else seekFrom s (l.drop (k + 1)) (k + 1) := by
  rw [List.drop_eq_getElem_cons hk]
  rfl
theorem seekFrom_name (s : ByteArray) : ∀ (l : List Seg) (k j : Nat), seekFrom s l k = ((k + j : Nat) : Int) → ∃ x, l[j]? = some x ∧ x.name = s
  | [], k, j, h => by simp [seekFrom] at h; omega
  | x :: l, k, j, h => by
    unfold seekFrom at h
    by_cases hx : sameB x.name s = true
    · rw [if_pos hx] at h
      obtain rfl : j = 0 := by omega
      exact ⟨x, rfl, sameB_iff.1 hx⟩
    · rw [if_neg hx] at h
      rcases seekFrom_bd s l (k + 1) with h1 | h1
      · omega
      · obtain ⟨j', rfl⟩ : ∃ j', j = j' + 1 := ⟨j - 1, by omega⟩
        obtain ⟨y, hy, hn⟩ := seekFrom_name s l (k + 1) j' (by rw [h]; omega)
        exact ⟨y, by simpa using hy, hn⟩
theorem seek_name {l : List Seg} {s : ByteArray} {j : Nat} (h : seek l s = (j : Int)) : ∃ x, l[j]? = some x ∧ x.name = s :=
  seekFrom_name s l 0 j (by rw [Nat.zero_add]; exact h)

/-- The index of a name within a valid list, or -1. -/
def indexB (l : List Seg) (s : ByteArray) : Int := if validB l = true then seek l s else -1

set_option maxRecDepth 100000 in
set_option maxHeartbeats 400000 in
theorem l1Index_any (A : Option Addr) (l : List Seg) (c : Nat) (s : ByteArray) (w : World) (hw : Segs w w.heap.size A l) (hl : l.length ≤ 1048576) (hn : Short l) :
    Calls Tryz.prog 28 #[.slice A l.length c, .string s] w fun e w' => e = .returned (.int .i64 (indexB l s)) ∧ Below w.heap.size w w' := by
  have HW : Hid (Segs w w.heap.size A l) := hw
  clear hw
  cases hv : validB l with
  | false =>
    have HF : Hid (indexB l s = -1) := if_neg (by rw [hv]; decide)
    go_enter Tryz.func28, Tryz.ntmps28
    go_wp2_with fail
    refine (specTreeValid_any _ _ _ _ HW.out hl hn).mono ?_
    rw [hv]
    rintro e w1 ⟨rfl, hb1⟩
    go_wp2
    go_ret
    exact ⟨ret_int HF.out.symm, hb1⟩
  | true =>
    have HF : Hid (indexB l s = seek l s) := if_pos hv
    go_enter Tryz.func28, Tryz.ntmps28
    go_wp2_with fail
    refine (specTreeValid_any _ _ _ _ HW.out hl hn).mono ?_
    rw [hv]
    rintro e w1 ⟨rfl, hb1⟩
    clear hv
    go_wp2
    go_loopw [12] (fun i wr => ∃ (k : Nat), k ≤ l.length ∧ i = .int .i64 k ∧ Hid (seek l s = seekFrom s (l.drop k) k) ∧ Below w.heap.size w wr)
      (fun i _ => l.length - (intOf i).toNat)
    case atStart => exact ⟨0, Nat.zero_le _, rfl, rfl, hb1⟩
    case round =>
      obtain ⟨k, hk, rfl, HN, hb⟩ := hrel
      clear hb1
      by_cases hlt : k < l.length
      · obtain ⟨b, o, rfl, hB, hc⟩ := HW.out (by omega)
        obtain ⟨c0, c1, c2⟩ := hc k l[k] (List.getElem?_eq_getElem hlt)
        clear hc
        rw [← hb.cell hB] at c0 c1 c2
        have HD : Hid _ := seekFrom_drop l s k hlt
        generalize l[k] = x at *
        cases ht : (x.name.toList == s.toList) with
        | true =>
          have HE : Hid (indexB l s = k) := by
            show _ = _
            rw [HF.out, HN.out, HD.out]
            exact if_pos ht
          go_wp2
          go_ret
          exact ⟨ret_int HE.out.symm, hb.alloc hb.size _⟩
        | false =>
          have HE : Hid (seek l s = seekFrom s (l.drop (k + 1)) (k + 1)) := by
            show _ = _
            rw [HN.out, HD.out]
            exact if_neg (by rw [show sameB x.name s = false from ht]; decide)
          go_wp2
          go_roundw
          case rel => exact ⟨k + 1, by omega, by go_num, HE, hb.alloc hb.size _⟩
          case measure => simp [intOf]; omega
      · go_wp2
        go_ret
        exact ⟨ret_int (by rw [HF.out, HN.out, List.drop_of_length_le (by omega)]; rfl), hb⟩

def sizeAt (l : List Seg) (i : Nat) : Int := match l[i]? with
  | some s => s.size
  | none => -1
def sizeB (l : List Seg) (s : ByteArray) : Int := if indexB l s < 0 then -1 else sizeAt l (indexB l s).toNat
theorem sizeAt_of {l : List Seg} {k : Nat} (h : k < l.length) : sizeAt l k = l[k].size := by unfold sizeAt; rw [List.getElem?_eq_getElem h]
theorem indexB_bd (l : List Seg) (s : ByteArray) : indexB l s = -1 ∨ (0 ≤ indexB l s ∧ indexB l s < l.length) := by
  unfold indexB
  split
  · exact seek_bd l s
  · exact .inl rfl

end Go.Proofs.YtcpiojliakgdlaaGreatDoor
/- One node adopts another. -/
namespace Go.Proofs.YtcpiojliakgdlaaGreatDoor
open Go.RowKit

theorem own_ne {w : World} {base g n : Nat} {e t : TypeId} {v : Value} {xs : List Value} {cs : Array Value} (h : w.ownsRow base e 1 v n xs) (hr : Row w g t cs) (hne : e ≠ t) : v.ownBlock ≠ some g := by
  rcases h.2 with ⟨rfl, _⟩ | ⟨g', cap, cur, rfl, _, hh, _⟩
  · simp [Value.ownBlock]
  · intro he
    have : g' = g := by simpa [Value.ownBlock] using he
    subst this
    unfold Row at hr
    rw [hh] at hr
    injection hr with hr
    injection hr with _ ht
    exact hne ht
theorem own_keep {w w' : World} {base n : Nat} {e : TypeId} {v : Value} {xs : List Value} (h : w.ownsRow base e 1 v n xs) (hk : ∀ g, v.ownBlock = some g → w'.heap[g]? = w.heap[g]?) : w'.ownsRow base e 1 v n xs := by
  refine ⟨h.1, ?_⟩
  rcases h.2 with h0 | ⟨g', cap, cur, rfl, hg, hh, r⟩
  · exact .inl h0
  · exact .inr ⟨g', cap, cur, rfl, hg, (hk g' rfl).trans hh, r⟩
theorem own_set {w : World} {base g n : Nat} {e t : TypeId} {v : Value} {xs : List Value} {cs : Array Value} (h : w.ownsRow base e 1 v n xs) (hr : Row w g t cs) (hne : e ≠ t) (i : Nat) (u : Value) : (w.setCell ⟨g, i, none⟩ u).ownsRow base e 1 v n xs :=
  own_keep h fun k hk => Below.heap_setCell w _ u k (fun he => own_ne h hr hne (by rw [hk, he]))

/-- All blocks but those that 'may' names are as they were. -/
structure Only (w w' : World) (may : Nat → Prop) : Prop where
  os : w'.os = w.os
  tape : w'.tape = w.tape
  output : w'.output = w.output
  size : w.heap.size ≤ w'.heap.size
  block : ∀ k, k < w.heap.size → ¬ may k → w'.heap[k]? = w.heap[k]?

theorem Only.below {w0 w w' : World} {B : Nat} {may : Nat → Prop} (hb : Below B w0 w) (h : Only w w' may) (hB : B ≤ w.heap.size) (hm : ∀ k, k < B → ¬ may k) : Below B w0 w' :=
  hb.trans ⟨h.os, h.tape, h.output, h.size, fun k hk => h.block k (by omega) (hm k hk)⟩
theorem Only.row {w w' : World} {may : Nat → Prop} (h : Only w w' may) {g : Nat} {t : TypeId} {cs : Array Value} (hr : Row w g t cs) (hg : ¬ may g) : Row w' g t cs := (h.block g hr.lt hg).trans hr

def nodeCells (nm : ByteArray) (sz : Int) (pp : Option Addr) (cv : Value) : Array Value := #[.string nm, .int .i64 sz, .pointer pp, cv]
def ptrTo (b : Nat) : Value := .pointer (some ⟨b, 0, none⟩)

/-- What is behind 'p.adopt(c)'. -/
def Adopted (w : World) (B p c n : Nat) (nm nm' : ByteArray) (sz sz' : Int) (pp' : Option Addr) (cc cv : Value) (xs : List Value) (e : Ending) (w' : World) : Prop :=
  e = .returned (.tuple #[]) ∧ ∃ v', Row w' c 50 (nodeCells nm sz (some ⟨p, 0, none⟩) cc) ∧ Row w' p 50 (nodeCells nm' sz' pp' v') ∧
    w'.ownsRow B 43 1 v' (n + 1) (xs ++ [ptrTo c]) ∧ (v'.ownBlock = cv.ownBlock ∨ ∃ g, v'.ownBlock = some g ∧ w.heap.size ≤ g) ∧
    Only w w' (fun k => k = p ∨ k = c ∨ some k = cv.ownBlock)

theorem info_ptr : (Tryz.prog.info? 43).map (fun i => (i.zero, i.size, i.bytes)) = some (some (.pointer none), 1, 8) := by kernel_rfl

theorem adopt_end {w w1 : World} {B p c n : Nat} {nm nm' : ByteArray} {sz sz' : Int} {pp pp' : Option Addr} {cc cv v' : Value} {xs : List Value} {t : TypeId} {o : Obj}
    (hc : Row w c 50 (nodeCells nm sz pp cc)) (hp : Row w p 50 (nodeCells nm' sz' pp' cv)) (hpc : p ≠ c) (hcv : w.ownsRow B 43 1 cv n xs)
    (hown : w1.ownsRow B 43 1 v' (n + 1) (xs ++ [ptrTo c])) (hgrow : ((w.setCell ⟨c, 2, none⟩ (ptrTo p)).alloc o).grownBy w1 cv.ownBlock)
    (hat : v'.ownBlock = cv.ownBlock ∨ v'.ownBlock = some ((w.setCell ⟨c, 2, none⟩ (ptrTo p)).alloc o).heap.size) (_ht : t = t) :
    Adopted w B p c n nm nm' sz sz' pp' cc cv xs (.returned (.tuple #[])) (w1.setCell ⟨p, 3, none⟩ v') := by
  have hne1 : cv.ownBlock ≠ some c := own_ne hcv hc (by decide)
  have hne2 : cv.ownBlock ≠ some p := own_ne hcv hp (by decide)
  have hz : ((w.setCell ⟨c, 2, none⟩ (ptrTo p)).alloc o).heap.size = w.heap.size + 1 := by simp [World.setCell, World.alloc]
  have hc0 : Row (w.setCell ⟨c, 2, none⟩ (ptrTo p)) c 50 (nodeCells nm sz (some ⟨p, 0, none⟩) cc) := hc.put 2 _
  have hp0 : Row (w.setCell ⟨c, 2, none⟩ (ptrTo p)) p 50 (nodeCells nm' sz' pp' cv) := hp.far hpc _
  have hc1 : Row w1 c 50 (nodeCells nm sz (some ⟨p, 0, none⟩) cc) := (hgrow.block c (hc0.alloc o).lt (Ne.symm hne1)).trans (hc0.alloc o)
  have hp1 : Row w1 p 50 (nodeCells nm' sz' pp' cv) := (hgrow.block p (hp0.alloc o).lt (Ne.symm hne2)).trans (hp0.alloc o)
  refine ⟨rfl, v', hc1.far (Ne.symm hpc) _, hp1.put 3 v', own_set hown hp1 (by decide) 3 v', ?_, ?_⟩
  · rcases hat with h | h
    · exact .inl h
    · exact .inr ⟨_, h, by rw [hz]; omega⟩
  · refine ⟨hgrow.os, hgrow.tape, hgrow.output, ?_, fun k hk hm => ?_⟩
    · have := hgrow.size
      rw [hz] at this
      simp [World.setCell]
      omega
    · have h1 : k ≠ p := fun h => hm (.inl h)
      have h2 : k ≠ c := fun h => hm (.inr (.inl h))
      have h3 : some k ≠ cv.ownBlock := fun h => hm (.inr (.inr h))
      rw [Below.heap_setCell _ _ _ _ h1, hgrow.block k (by rw [hz]; omega) h3, Below.heap_alloc _ _ _ (by simpa [World.setCell] using hk), Below.heap_setCell _ _ _ _ h2]

theorem size_set (w : World) (a : Addr) (y : Value) : (w.setCell a y).heap.size = w.heap.size := by simp [World.setCell]
theorem cell_new_set (w : World) (a : Addr) (y x : Value) (t : TypeId) : ∀ j u, [x][j]? = some u → ((w.setCell a y).alloc (.cells #[x] t)).cell? ((⟨w.heap.size, 0, none⟩ : Addr).add j) = some u := by
  have h := cell_one_new (w.setCell a y) x t
  rw [size_set] at h
  exact h

theorem adopt_row {w w1 : World} {B p c n : Nat} {nm nm' : ByteArray} {sz sz' : Int} {pp pp' : Option Addr} {cc cv : Value} {xs : List Value} {o : Obj}
    (_hc : Row w c 50 (nodeCells nm sz pp cc)) (hp : Row w p 50 (nodeCells nm' sz' pp' cv)) (hpc : p ≠ c) (hcv : w.ownsRow B 43 1 cv n xs)
    (hgrow : ((w.setCell ⟨c, 2, none⟩ (ptrTo p)).alloc o).grownBy w1 cv.ownBlock) : Row w1 p 50 (nodeCells nm' sz' pp' cv) := by
  have hne2 : cv.ownBlock ≠ some p := own_ne hcv hp (by decide)
  have hp0 : Row (w.setCell ⟨c, 2, none⟩ (ptrTo p)) p 50 (nodeCells nm' sz' pp' cv) := hp.far hpc _
  exact (hgrow.block p (hp0.alloc o).lt (Ne.symm hne2)).trans (hp0.alloc o)

set_option maxRecDepth 100000 in
set_option maxHeartbeats 400000 in
theorem adopt_any (B p c n : Nat) (nm nm' : ByteArray) (sz sz' : Int) (pp pp' : Option Addr) (cc cv : Value) (xs : List Value) (w : World)
    (hc : Row w c 50 (nodeCells nm sz pp cc)) (hp : Row w p 50 (nodeCells nm' sz' pp' cv)) (hpc : p ≠ c) (hcv : w.ownsRow B 43 1 cv n xs) (hB : B ≤ w.heap.size) (hn : n ≤ 1000) :
    Calls Tryz.prog 45 #[.pointer (some ⟨p, 0, none⟩), .pointer (some ⟨c, 0, none⟩)] w (Adopted w B p c n nm nm' sz sz' pp' cc cv xs) := by
  obtain ⟨i0, hi0, hz0, hz1, hz2⟩ := info_parts info_ptr
  have I0 := Lib.hid hi0
  have Z0 := Lib.hid hz0
  have Z1 := Lib.hid hz1
  have Z2 := Lib.hid hz2
  clear hi0 hz0 hz1 hz2
  have e2 : w.cell? ⟨c, 2, none⟩ = some (.pointer pp) := hc.cell 2
  have e3 : w.cell? ⟨p, 3, none⟩ = some cv := hp.cell 3
  have f2 := hc.free 2
  have f3 := hp.free 3
  have HC := Lib.hid hc
  have HP := Lib.hid hp
  have HO := Lib.hid hcv
  have HE := Lib.hid hcv.2
  clear hc hp hcv
  have hl : ∃ A nn cc', cv = .slice A nn cc' := by
    rcases HE.out with ⟨rfl, _⟩ | ⟨g, cap, _, rfl, _⟩
    · exact ⟨_, _, _, rfl⟩
    · exact ⟨_, _, _, rfl⟩
  obtain ⟨A, nn, cc', rfl⟩ := hl
  clear HE
  go_enter Tryz.func45, Tryz.ntmps45
  go_wp2_with (at_builtin; go_must (refine wpList_append_own_at _ rfl _ _ 41 rfl B 43 i0 (.pointer none) 1 8 Tryz.underlying41 I0.out Z0.out Z1.out Z2.out rfl (by decide) _ n xs rfl ((own_set HO.out HC.out (by decide) _ _).alloc _) ⟨w.heap.size, 0, none⟩ 1 1 [ptrTo c] rfl rfl (cell_new_set _ _ _ _ _) (by simp [ptrTo, Value.oneCell']) (by simp [maxLen]; omega) (by omega) (by simp [World.setCell]; omega) ?_); intro v' w1 hown1 hgrow _ hat; obtain ⟨g', cap', rfl⟩ := own_form hown1 (by omega); have H1 := Lib.hid hown1; have H2 := Lib.hid hgrow; have H3 := Lib.hid hat; have hp1 := adopt_row HC.out HP.out hpc HO.out hgrow; have g3 := hp1.free 3; have g4 : w1.cell? ⟨p, 3, none⟩ = some (.slice A nn cc') := hp1.cell 3; clear hown1 hgrow hat hp1)
  go_end0
  exact adopt_end HC.out HP.out hpc HO.out H1.out H2.out H3.out (t := 0) rfl

end Go.Proofs.YtcpiojliakgdlaaGreatDoor
/- The two readers' smallest steps: sees and skip. -/
namespace Go.Proofs.YtcpiojliakgdlaaGreatDoor
open Go.RowKit

theorem Only.refl (w : World) (may : Nat → Prop) : Only w w may := ⟨rfl, rfl, rfl, Nat.le_refl _, fun _ _ _ => rfl⟩
theorem Only.trans {w w1 w2 : World} {may : Nat → Prop} (h : Only w w1 may) (h' : Only w1 w2 may) : Only w w2 may :=
  ⟨h'.os.trans h.os, h'.tape.trans h.tape, h'.output.trans h.output, Nat.le_trans h.size h'.size, fun k hk hm => (h'.block k (Nat.lt_of_lt_of_le hk h.size) hm).trans (h.block k hk hm)⟩
theorem Only.drew' {w w' : World} {may : Nat → Prop} (h : Only w w' may) : Only w w'.drew may := ⟨h.os, h.tape, h.output, h.size, h.block⟩
theorem Only.drewN' {w w' : World} {may : Nat → Prop} (h : Only w w' may) (n : Nat) : Only w (w'.drewN n) may := ⟨h.os, h.tape, h.output, h.size, h.block⟩
theorem Only.set {w w' : World} {b : Nat} (h : Only w w' (· = b)) (i : Nat) (u : Value) : Only w (w'.setCell ⟨b, i, none⟩ u) (· = b) := by
  have hb : Below 0 w' (w'.setCell ⟨b, i, none⟩ u) := (Below.refl 0 w').setCell (Nat.zero_le _) u
  exact ⟨hb.os.trans h.os, hb.tape.trans h.tape, hb.output.trans h.output, by have := h.size; have := hb.size; omega, fun k hk hm => (Below.heap_setCell w' ⟨b, i, none⟩ u k hm).trans (h.block k hk hm)⟩

/-- Is this byte next? -/
def nextB (t : ByteArray) (k : Nat) (c : UInt8) : Bool := (t.data.toList.drop k).head? == some c
theorem nextB_at {t : ByteArray} {k : Nat} (c : UInt8) (h : k < t.size) : nextB t k c = decide (t[k] = c) := by
  unfold nextB
  rw [List.drop_eq_getElem_cons (by simpa using h), List.head?_cons]
  by_cases e : t[k] = c
  · rw [decide_eq_true e, ← e]
    exact beq_self_eq_true _
  · rw [decide_eq_false e]
    exact beq_eq_false_iff_ne.2 (fun h => e (by injection h))
theorem nextB_end {t : ByteArray} {k : Nat} (c : UInt8) (h : t.size ≤ k) : nextB t k c = false := by
  unfold nextB
  rw [List.drop_of_length_le (by simpa using h)]
  rfl

/-- The place behind it. -/
def stepB (t : ByteArray) (k : Nat) (c : UInt8) : Nat := if nextB t k c then k + 1 else k
theorem stepB_yes {t : ByteArray} {k : Nat} {c : UInt8} (h : nextB t k c = true) : stepB t k c = k + 1 := if_pos h
theorem stepB_no {t : ByteArray} {k : Nat} {c : UInt8} (h : nextB t k c = false) : stepB t k c = k := if_neg (by rw [h]; decide)

set_option maxRecDepth 100000 in
set_option maxHeartbeats 1000000 in
theorem sees_any (b : Nat) (t : ByteArray) (k : Nat) (bad : Bool) (v : Value) (c : UInt8) (w : World) (hr : Row w b 144 #[.string t, .int .i64 k, .bool bad, v]) (hk : k ≤ t.size) (ht : t.size ≤ 1048576) :
    Calls Tryz.prog 106 #[.pointer (some ⟨b, 0, none⟩), .int .u8 c.toNat] w fun e w' => e = .returned (.bool (nextB t k c)) ∧ Only w w' (· = b) ∧
      Row w' b 144 #[.string t, .int .i64 (stepB t k c : Nat), .bool bad, v] := by
  have c0 : w.cell? ⟨b, 0, none⟩ = some (.string t) := hr.cell 0
  have c1 : w.cell? ⟨b, 1, none⟩ = some (.int .i64 k) := hr.cell 1
  have z1 : w.frozen? ⟨b, 1, none⟩ = false := hr.free 1
  have HR := Lib.hid hr
  clear hr
  have hk0 : (0 : Int) ≤ (k : Int) := Int.natCast_nonneg _
  by_cases hlt : k < t.size
  · have hlt' : (k : Int) < (t.size : Int) := by omega
    have hg : decide (k < t.size) = true := decide_eq_true hlt
    have HX := Lib.hid (nextB_at c hlt)
    by_cases he : t[k] = c
    · have hq : ((t[k].toNat : Int) == (c.toNat : Int)) = true := by rw [he]; simp
      have HE := Lib.hid (HX.out.trans (decide_eq_true he))
      clear he
      go_enter Tryz.func106, Tryz.ntmps106
      go_wp2_with fail
      go_quiet (fail)
      go_wp2
      go_ret
      refine ⟨ret_bool HE.out.symm, ((Only.refl w _).drewN' _).set 1 _, ?_⟩
      rw [stepB_yes HE.out]
      exact Row.put (w := w.drewN nq) HR.out 1 _
    · have hq : ((t[k].toNat : Int) == (c.toNat : Int)) = false := by
        rw [beq_eq_false_iff_ne]
        exact fun e => he (UInt8.toNat_inj.1 (by omega))
      have HE := Lib.hid (HX.out.trans (decide_eq_false he))
      clear he
      go_enter Tryz.func106, Tryz.ntmps106
      go_wp2_with fail
      go_quiet (fail)
      go_wp2
      go_ret
      refine ⟨ret_bool HE.out.symm, (Only.refl w _).drewN' _, ?_⟩
      rw [stepB_no HE.out]
      exact HR.out
  · have hg : decide (k < t.size) = false := decide_eq_false hlt
    have HE := Lib.hid (nextB_end (k := k) c (by omega : t.size ≤ k))
    go_enter Tryz.func106, Tryz.ntmps106
    go_wp2_with fail
    go_quiet (fail)
    go_wp2
    go_ret
    refine ⟨ret_bool HE.out.symm, (Only.refl w _).drewN' _, ?_⟩
    rw [stepB_no HE.out]
    exact HR.out

end Go.Proofs.YtcpiojliakgdlaaGreatDoor

/- The program's reader: skip, expectEnd. -/
namespace Go.Proofs.YtcpiojliakgdlaaGreatDoor
open Go.RowKit

/-- The program's reader has given up. -/
def Died (e : Ending) : Prop := ∃ m : ByteArray, e = .panicked [{ v := .iface 9 (.string m), recovered := false }]

end Go.Proofs.YtcpiojliakgdlaaGreatDoor

/- The program's reader: readSize. -/
namespace Go.Proofs.YtcpiojliakgdlaaGreatDoor
open Go.RowKit

def leftAt (t : ByteArray) (b : Nat) (w : World) : Nat := t.size - (match w.cell? ⟨b, 1, none⟩ with | some i => (intOf i).toNat | none => 0)
theorem leftAt_of {t : ByteArray} {b : Nat} {w : World} {k : Nat} (h : w.cell? ⟨b, 1, none⟩ = some (.int .i64 k)) : leftAt t b w = t.size - k := by
  unfold leftAt
  rw [h]
  simp [intOf]

end Go.Proofs.YtcpiojliakgdlaaGreatDoor

/- The program's reader: readName. -/
namespace Go.Proofs.YtcpiojliakgdlaaGreatDoor
open Go.RowKit

theorem Only.andBelow {w w1 w2 : World} {may : Nat → Prop} (h : Only w w1 may) (hb : Below w1.heap.size w1 w2) : Only w w2 may :=
  ⟨hb.os.trans h.os, hb.tape.trans h.tape, hb.output.trans h.output, Nat.le_trans h.size hb.size, fun k hk hm => (hb.block k (Nat.lt_of_lt_of_le hk h.size)).trans (h.block k hk hm)⟩

end Go.Proofs.YtcpiojliakgdlaaGreatDoor

/- The reference's number of a text of at most three digits. -/
namespace Go.Proofs.YtcpiojliakgdlaaGreatDoor
open Go.RowKit

theorem valB_at {s : ByteArray} {k m : Nat} (h : k < s.size) : valB (s.data.toList.drop k) m = valB (s.data.toList.drop (k + 1)) (m * 10 + (s[k].toNat - 48)) := by
  rw [List.drop_eq_getElem_cons (by simpa using h)]
  rfl
theorem valB_end {s : ByteArray} {k m : Nat} (h : s.size ≤ k) : valB (s.data.toList.drop k) m = m := by
  rw [List.drop_of_length_le (by simpa using h)]
  rfl
theorem numOk_at {s : ByteArray} (h : 0 < s.size) : numOk s.data.toList = !(decide (s[0] = 48) && decide (1 < s.size)) := by
  have e : s.data.toList = s[0] :: s.data.toList.drop 1 := by
    have := List.drop_eq_getElem_cons (l := s.data.toList) (i := 0) (by simpa using h)
    exact (List.drop_zero (l := s.data.toList)).symm.trans this
  have hl : (s.data.toList.drop 1).length = s.size - 1 := by simp
  rw [e]
  show (!(decide (s[0] = 48) && decide (0 < (s.data.toList.drop 1).length))) = _
  rw [hl]
  congr 2
  exact decide_eq_decide.2 (by omega)

set_option maxRecDepth 100000 in
set_option maxHeartbeats 1000000 in
theorem l13Num_digs (s : ByteArray) (w : World) (hd : ∀ k : Nat, ∀ h : k < s.size, isDig s[k] = true) (hz : s.size ≤ 3) :
    Calls Tryz.prog 105 #[.string s] w fun e w' => e = .returned (.tuple #[.int .i64 (numB s.data.toList), .bool (numOk s.data.toList)]) ∧ w = w' := by
  by_cases h0 : 0 < s.size
  · have HK := Lib.hid (numOk_at h0)
    have hd0 := isDig_iff.1 (hd 0 h0)
    have g1 : decide (0 < s.size) = true := decide_eq_true h0
    have h0' : (0 : Int) < (s.size : Int) := by omega
    have g2 : ((s[0].toNat : Int) == 45) = false := by rw [beq_eq_false_iff_ne]; omega
    have g3 : ((s.size : Int) == 0) = false := by rw [beq_eq_false_iff_ne]; omega
    have g4 : decide (17 < s.size) = false := decide_eq_false (by omega)
    have g5 : ¬ (17 : Int) < (s.size : Int) := by omega
    have HD := Lib.hid hd
    clear hd
    have loop : numOk s.data.toList = true → (((s[0].toNat : Int) == 48) = true ∧ decide (1 < s.size) = false ∧ (s.size : Int) ≤ 1 ∨ ((s[0].toNat : Int) == 48) = false) →
        Calls Tryz.prog 105 #[.string s] w fun e w' => e = .returned (.tuple #[.int .i64 (numB s.data.toList), .bool (numOk s.data.toList)]) ∧ w = w' := by
      intro hok hor
      have HN : Hid (numB s.data.toList = valB s.data.toList 0) := if_pos hok
      have HO := Lib.hid hok
      clear hok
      have g9 : (((s[0].toNat : Int) == 48) && decide (1 < s.size)) = false := by
        rcases hor with ⟨a, b, _⟩ | a
        · rw [b, Bool.and_false]
        · rw [a]; rfl
      rcases hor with ⟨g6, g7, g8⟩ | g6
      all_goals
        go_enter Tryz.func105, Tryz.ntmps105
        go_wp2
        go_loop [5, 6] (fun n i => ∃ k m : Nat, n = .int .i64 m ∧ i = .int .i64 k ∧ k ≤ s.size ∧ (k ≤ 0 → m ≤ 0) ∧ (k ≤ 1 → m ≤ 9) ∧ (k ≤ 2 → m ≤ 99) ∧ m ≤ 999 ∧ Hid (valB s.data.toList 0 = valB (s.data.toList.drop k) m)) (fun _ i => s.size - (intOf i).toNat)
        case atStart => exact ⟨0, 0, rfl, rfl, by omega, by omega, by omega, by omega, by omega, rfl⟩
        case round =>
          obtain ⟨k, m, rfl, rfl, hk, m0, m1, m2, m3, HV⟩ := hrel
          have hk0 : (0 : Int) ≤ (k : Int) := Int.natCast_nonneg _
          by_cases hlt : k < s.size
          · have hdk := isDig_iff.1 (HD.out k hlt)
            have HA := Lib.hid (HV.out.trans (valB_at hlt))
            have hlt' : (k : Int) < (s.size : Int) := by omega
            have e1 : decide (k < s.size) = true := decide_eq_true hlt
            have e2 : decide (s[k].toNat < 48) = false := decide_eq_false (by omega)
            have e3 : decide (57 < s[k].toNat) = false := decide_eq_false (by omega)
            have e4 : (48 : Int) ≤ (s[k].toNat : Int) := by omega
            have e5 : (s[k].toNat : Int) ≤ 57 := by omega
            go_wp2
            go_round
            case rel => exact ⟨k + 1, m * 10 + (s[k].toNat - 48), congrArg (Value.int .i64) (by omega), congrArg (Value.int .i64) (by omega), by omega, by omega, by omega, by omega, by omega, HA⟩
            case measure => simp [intOf]; omega
          · have HA := Lib.hid (HV.out.trans (valB_end (by omega : s.size ≤ k)))
            have e1 : decide (k < s.size) = false := decide_eq_false hlt
            go_wp2
            go_ret2
            exact ⟨by rw [HN.out, HA.out, HO.out]; rfl, rfl⟩
    by_cases h48 : s[0] = 48
    · have g6 : ((s[0].toNat : Int) == 48) = true := by rw [h48]; rfl
      by_cases h1 : 1 < s.size
      · have g7 : decide (1 < s.size) = true := decide_eq_true h1
        have g8 : (1 : Int) < (s.size : Int) := by omega
        have HF : Hid (numOk s.data.toList = false) := by
          show _ = _
          rw [HK.out, decide_eq_true h48, g7]
          rfl
        have HB : Hid (numB s.data.toList = 0) := if_neg (by rw [HF.out]; decide)
        clear loop
        go_enter Tryz.func105, Tryz.ntmps105
        go_wp2
        go_ret2
        exact ⟨by rw [HF.out, HB.out]; rfl, rfl⟩
      · have g7 : decide (1 < s.size) = false := decide_eq_false h1
        exact loop (by rw [HK.out, g7, Bool.and_false]; rfl) (.inl ⟨g6, g7, by omega⟩)
    · have g6 : ((s[0].toNat : Int) == 48) = false := by
        rw [beq_eq_false_iff_ne]
        exact fun e => h48 (UInt8.toNat_inj.1 (by simpa using (by omega : s[0].toNat = 48)))
      exact loop (by rw [HK.out, decide_eq_false h48]; rfl) (.inr g6)
  · have hs : s = ⟨#[]⟩ := by
      apply ByteArray.ext
      exact Array.eq_empty_of_size_eq_zero (by have : s.data.size = s.size := rfl; omega)
    subst hs
    clear hd h0 hz
    have HF : Hid (numOk ([] : List UInt8) = false ∧ numB ([] : List UInt8) = 0) := ⟨rfl, rfl⟩
    go_enter Tryz.func105, Tryz.ntmps105
    go_wp2
    go_ret2
    exact ⟨rfl, rfl⟩

end Go.Proofs.YtcpiojliakgdlaaGreatDoor
