/- impl.StateValid, DropsOf, NeedOf. -/
import Derived.Test.YtbmfjfhmdpmlbaaGm
namespace Go.Proofs.Ytbmfjfhmdpmlbaa
open Go.RowKit Go.Shelf

set_option maxRecDepth 100000 in
set_option maxHeartbeats 400000 in
theorem stateValid_any (A : Option Addr) (l : List Seg) (c : Nat) (s : ByteArray) (w : World) (hw : Segs w w.heap.size A l) (hl : l.length ≤ 1048576) (hlc : l.length ≤ c) (hcm : c ≤ 9223372036854775807) (hn : Short l) :
    Calls Try.prog 56 #[.slice A l.length c, .string s] w fun e w' => e = .returned (.bool (stOk l s)) ∧ Below w.heap.size w w' := by
  have HW : Hid (Segs w w.heap.size A l) := hw
  clear hw
  cases hv : validB l with
  | false =>
    have HF := Lib.hid (stOk_bad s hv)
    go_enter Try.func56, Try.ntmps56
    go_wp2_with fail
    refine (nodesOf_bad _ _ _ _ HW.out hl hlc hcm hn hv).mono ?_
    rintro e w1 ⟨rfl, hb1⟩
    go_wp2_with fail
    refine (findState_bad _ _).mono ?_
    unfold bitsV bitCells
    rintro e w2 ⟨rfl, hb2⟩
    have B2 := hb1.trans (hb2.mono hb1.size)
    clear hb1 hb2
    go_wp2
    go_ret
    exact ⟨ret_bool HF.out.symm, B2.alloc B2.size _⟩
  | true =>
    have HV := Lib.hid hv
    clear hv
    go_enter Try.func56, Try.ntmps56
    go_wp2_with fail
    refine (nodesOf_any _ _ _ _ HW.out hl hlc hcm hn HV.out).mono ?_
    rintro e w1 ⟨g, nb, cv, rfl, hN, hb1⟩
    have HN := Lib.hid hN
    clear hN
    go_wp2_with fail
    refine (findState_any _ _ _ _ _ _ _ HN.out HV.out).mono ?_
    unfold bitsV bitCells
    rintro e w2 ⟨rfl, hb2⟩
    have B2 := hb1.trans (hb2.mono hb1.size)
    clear hb1 hb2
    go_wp2
    go_ret
    exact ⟨rfl, B2.alloc B2.size _⟩

theorem less_in (T U : List Nat) : ∀ j, (inT T j && !inT U j) = inT (lessT T U) j := fun j => by
  unfold inT lessT
  rw [Bool.eq_iff_iff]
  simp [List.mem_filter]
/-- The names of what is in one state and not in another. -/
theorem namesIn_any (B g : Nat) (l : List Seg) (nb : Nat → Nat) (cv : Nat → Value) (T : List Nat) (w : World) (h : Nodes w B g l.length l.length l nb cv) (hv : validB l = true) (ha : T.Pairwise (· < ·)) (hl : ∀ j ∈ T, j < l.length) :
    Calls Try.prog 118 #[bitsV (inT T), .slice (some ⟨g, 0, none⟩) l.length l.length] w fun e w' => e = .returned (.string (namesAt l T)) ∧ Below w.heap.size w w' := by
  refine (names_any B g l nb cv (inT T) w h hv).mono ?_
  rintro e w' ⟨rfl, hb⟩
  exact ⟨by rw [show selIx (inT T) l.length = T from sel_mem ha hl], hb⟩
theorem lessIn_any (T U : List Nat) (w : World) :
    Calls Try.prog 119 #[bitsV (inT T), bitsV (inT U)] w fun e w' => e = .returned (bitsV (inT (lessT T U))) ∧ Below w.heap.size w w' := by
  refine (less_any (inT T) (inT U) w).mono ?_
  rintro e w' ⟨rfl, hb⟩
  refine ⟨?_, hb⟩
  unfold bitsV
  rw [bits_congr (fun j _ => less_in T U j)]
theorem less_asc {T U : List Nat} (h : T.Pairwise (· < ·)) : (lessT T U).Pairwise (· < ·) := List.Pairwise.filter _ h

set_option maxRecDepth 100000 in
set_option maxHeartbeats 400000 in
theorem dropsOf_any (A : Option Addr) (l : List Seg) (c : Nat) (s t : ByteArray) (w : World) (hw : Segs w w.heap.size A l) (hl : l.length ≤ 1048576) (hlc : l.length ≤ c) (hcm : c ≤ 9223372036854775807) (hn : Short l) :
    Calls Try.prog 52 #[.slice A l.length c, .string s, .string t] w fun e w' => e = .returned (.tuple #[.string (dropStr l s t), .bool (needOk l s t)]) ∧ Below w.heap.size w w' := by
  have HW : Hid (Segs w w.heap.size A l) := hw
  clear hw
  cases hv : validB l with
  | false =>
    have HF : Hid (dropStr l s t = ⟨#[]⟩ ∧ needOk l s t = false) := by
      have h1 : needOk l s t = false := by unfold needOk; rw [stOk_bad s hv]; rfl
      refine ⟨?_, h1⟩
      unfold dropStr dropIx
      rw [if_neg (by rw [h1]; decide)]
      rfl
    go_enter Try.func52, Try.ntmps52
    go_wp2_with fail
    refine (nodesOf_bad _ _ _ _ HW.out hl hlc hcm hn hv).mono ?_
    rintro e w1 ⟨rfl, hb1⟩
    go_wp2_with fail
    refine (meetNeed_bad _ _ _).mono ?_
    unfold bitsV bitCells
    rintro e w2 ⟨rfl, hb2⟩
    have B2 := hb1.trans (hb2.mono hb1.size)
    clear hb1 hb2 hv
    go_wp2
    go_ret2
    exact ⟨ret_two HF.out.1.symm HF.out.2.symm, (B2.alloc B2.size _).alloc (by have := B2.size; simp; omega) _⟩
  | true =>
    have HV := Lib.hid hv
    cases hq : needOk l s t with
    | false =>
      have HQ := Lib.hid hq
      have HF : Hid (dropStr l s t = ⟨#[]⟩) := by
        show dropStr l s t = _
        unfold dropStr dropIx
        rw [if_neg (by rw [hq]; decide)]
        rfl
      clear hv hq
      go_enter Try.func52, Try.ntmps52
      go_wp2_with fail
      refine (nodesOf_any _ _ _ _ HW.out hl hlc hcm hn HV.out).mono ?_
      rintro e w1 ⟨g, nb, cv, rfl, hN, hb1⟩
      have HN := Lib.hid hN
      clear hN
      go_wp2_with fail
      refine (meetNeed_no _ _ _ _ _ _ _ _ HN.out HV.out HQ.out).mono ?_
      unfold bitsV bitCells
      rintro e w2 ⟨rfl, hb2⟩
      have B2 := hb1.trans (hb2.mono hb1.size)
      clear hb1 hb2
      go_wp2
      go_ret2
      exact ⟨ret_two HF.out.symm rfl, (B2.alloc B2.size _).alloc (by have := B2.size; simp; omega) _⟩
    | true =>
      have HQ := Lib.hid hq
      obtain ⟨_, hT, hTn, hP, hPn⟩ := need_states hq
      have hd := (valid_all hv).1.down
      have HF : Hid (dropStr l s t = namesAt l (lessT (stT l s) (needT (stT l s) (pathIx l t)))) := by
        show dropStr l s t = _
        unfold dropStr dropIx
        rw [if_pos hq]
        rfl
      have HA : Hid ((lessT (stT l s) (needT (stT l s) (pathIx l t))).Pairwise (· < ·) ∧ ∀ j ∈ lessT (stT l s) (needT (stT l s) (pathIx l t)), j < l.length) := ⟨less_asc (hT.asc hd), less_lt (hT.lt hd)⟩
      have HL := Lib.hid (fun W => lessIn_any (stT l s) (needT (stT l s) (pathIx l t)) W)
      clear hv hq hT hTn hP hPn hd
      go_enter Try.func52, Try.ntmps52
      go_wp2_with fail
      refine (nodesOf_any _ _ _ _ HW.out hl hlc hcm hn HV.out).mono ?_
      rintro e w1 ⟨g, nb, cv, rfl, hN, hb1⟩
      have HN := Lib.hid hN
      clear hN
      go_wp2_with fail
      refine (meetNeed_yes _ _ _ _ _ _ _ _ HN.out HV.out HQ.out).mono ?_
      rintro e w2 ⟨rfl, hb2⟩
      have B2 := hb1.trans (hb2.mono hb1.size)
      have HN2 := Lib.hid (HN.out.below hb2)
      clear hb1 hb2
      have HNM := Lib.hid (fun W hW => namesIn_any w.heap.size g l nb cv (lessT (stT l s) (needT (stT l s) (pathIx l t))) W hW HV.out HA.out.1 HA.out.2)
      unfold bitsV bitCells at HL HNM ⊢
      go_wp2_with fail
      refine (HL.out _).mono ?_
      rintro e w3 ⟨rfl, hb3⟩
      have hb23 : Below w2.heap.size w2 w3 := (((Below.refl _ w2).alloc (Nat.le_refl _) _).alloc (by simp) _).trans (hb3.mono (by simp; omega))
      have HN3 := Lib.hid (HN2.out.below hb23)
      have B3 := B2.trans (hb23.mono B2.size)
      clear hb3 hb23
      go_wp2_with fail
      refine (HNM.out _ HN3.out).mono ?_
      rintro e w4 ⟨rfl, hb4⟩
      have B4 := B3.trans (hb4.mono B3.size)
      clear hb4
      go_wp2
      go_ret2
      exact ⟨ret_two HF.out.symm rfl, B4⟩

set_option maxRecDepth 100000 in
set_option maxHeartbeats 2000000 in
theorem needOf_any (A : Option Addr) (l : List Seg) (c : Nat) (s t : ByteArray) (w : World) (hw : Segs w w.heap.size A l) (hl : l.length ≤ 1048576) (hlc : l.length ≤ c) (hcm : c ≤ 9223372036854775807) (hn : Short l) :
    Calls Try.prog 50 #[.slice A l.length c, .string s, .string t] w fun e w' => e = .returned (.tuple #[.string (afterStr l s t), .string (loadStr l s t), .bool (needOk l s t)]) ∧ Below w.heap.size w w' := by
  have HW : Hid (Segs w w.heap.size A l) := hw
  clear hw
  cases hv : validB l with
  | false =>
    have HF : Hid (afterStr l s t = ⟨#[]⟩ ∧ loadStr l s t = ⟨#[]⟩ ∧ needOk l s t = false) := by
      have h1 : needOk l s t = false := by unfold needOk; rw [stOk_bad s hv]; rfl
      unfold afterStr loadStr afterIx loadIx
      rw [if_neg (by rw [h1]; decide), if_neg (by rw [h1]; decide)]
      exact ⟨rfl, rfl, h1⟩
    go_enter Try.func50, Try.ntmps50
    go_wp2_with fail
    refine (nodesOf_bad _ _ _ _ HW.out hl hlc hcm hn hv).mono ?_
    rintro e w1 ⟨rfl, hb1⟩
    go_wp2_with fail
    refine (meetNeed_bad _ _ _).mono ?_
    unfold bitsV bitCells
    rintro e w2 ⟨rfl, hb2⟩
    have B2 := hb1.trans (hb2.mono hb1.size)
    clear hb1 hb2 hv
    go_wp2
    go_ret3
    exact ⟨ret_three HF.out.1.symm HF.out.2.1.symm HF.out.2.2.symm, (B2.alloc B2.size _).alloc (by have := B2.size; simp; omega) _⟩
  | true =>
    have HV := Lib.hid hv
    cases hq : needOk l s t with
    | false =>
      have HQ := Lib.hid hq
      have HF : Hid (afterStr l s t = ⟨#[]⟩ ∧ loadStr l s t = ⟨#[]⟩) := by
        unfold afterStr loadStr afterIx loadIx
        rw [if_neg (by rw [hq]; decide), if_neg (by rw [hq]; decide)]
        exact ⟨rfl, rfl⟩
      clear hv hq
      go_enter Try.func50, Try.ntmps50
      go_wp2_with fail
      refine (nodesOf_any _ _ _ _ HW.out hl hlc hcm hn HV.out).mono ?_
      rintro e w1 ⟨g, nb, cv, rfl, hN, hb1⟩
      have HN := Lib.hid hN
      clear hN
      go_wp2_with fail
      refine (meetNeed_no _ _ _ _ _ _ _ _ HN.out HV.out HQ.out).mono ?_
      unfold bitsV bitCells
      rintro e w2 ⟨rfl, hb2⟩
      have B2 := hb1.trans (hb2.mono hb1.size)
      clear hb1 hb2
      go_wp2
      go_ret3
      exact ⟨ret_three HF.out.1.symm HF.out.2.symm rfl, (B2.alloc B2.size _).alloc (by have := B2.size; simp; omega) _⟩
    | true =>
      have HQ := Lib.hid hq
      obtain ⟨_, hT, hTn, hP, hPn⟩ := need_states hq
      have hd := (valid_all hv).1.down
      have HF : Hid (afterStr l s t = namesAt l (needT (stT l s) (pathIx l t)) ∧ loadStr l s t = namesAt l (lessT (needT (stT l s) (pathIx l t)) (stT l s))) := by
        unfold afterStr loadStr afterIx loadIx
        rw [if_pos hq, if_pos hq]
        exact ⟨rfl, rfl⟩
      have hU := needT_state hT hP
      have HA : Hid ((needT (stT l s) (pathIx l t)).Pairwise (· < ·) ∧ ∀ j ∈ needT (stT l s) (pathIx l t), j < l.length) := ⟨hU.asc hd, hU.lt hd⟩
      have HA2 : Hid ((lessT (needT (stT l s) (pathIx l t)) (stT l s)).Pairwise (· < ·) ∧ ∀ j ∈ lessT (needT (stT l s) (pathIx l t)) (stT l s), j < l.length) := ⟨less_asc (hU.asc hd), less_lt (hU.lt hd)⟩
      clear hv hq hT hTn hP hPn hd hU
      go_enter Try.func50, Try.ntmps50
      go_wp2_with fail
      refine (nodesOf_any _ _ _ _ HW.out hl hlc hcm hn HV.out).mono ?_
      rintro e w1 ⟨g, nb, cv, rfl, hN, hb1⟩
      have HN := Lib.hid hN
      clear hN
      go_wp2_with fail
      refine (meetNeed_yes _ _ _ _ _ _ _ _ HN.out HV.out HQ.out).mono ?_
      rintro e w2 ⟨rfl, hb2⟩
      have B2 := hb1.trans (hb2.mono hb1.size)
      have HN2 := Lib.hid (HN.out.below hb2)
      clear hb1 hb2
      have hb2' : Below w2.heap.size w2 ((w2.alloc (.cells (bitCells (inT (stT l s))) 111)).alloc (.cells (bitCells (inT (needT (stT l s) (pathIx l t)))) 111)) := ((Below.refl _ w2).alloc (Nat.le_refl _) _).alloc (by simp) _
      have HS0 : Hid (Row ((w2.alloc (.cells (bitCells (inT (stT l s))) 111)).alloc (.cells (bitCells (inT (needT (stT l s) (pathIx l t)))) 111)).drew w2.heap.size 111 (bitCells (inT (stT l s))) ∧ Row ((w2.alloc (.cells (bitCells (inT (stT l s))) 111)).alloc (.cells (bitCells (inT (needT (stT l s) (pathIx l t)))) 111)).drew (w2.heap.size + 1) 111 (bitCells (inT (needT (stT l s) (pathIx l t)))) ∧ Nodes ((w2.alloc (.cells (bitCells (inT (stT l s))) 111)).alloc (.cells (bitCells (inT (needT (stT l s) (pathIx l t)))) 111)).drew w.heap.size g l.length l.length l nb cv ∧ Below w.heap.size w ((w2.alloc (.cells (bitCells (inT (stT l s))) 111)).alloc (.cells (bitCells (inT (needT (stT l s) (pathIx l t)))) 111)).drew) := by
        refine ⟨(Row.new w2 _ _).alloc _, ?_, HN2.out.below hb2'.drew, (B2.trans (hb2'.mono B2.size)).drew⟩
        have := Row.new (w2.alloc (.cells (bitCells (inT (stT l s))) 111)) 111 (bitCells (inT (needT (stT l s) (pathIx l t))))
        rw [World.size_alloc] at this
        exact this
      clear hb2'
      unfold bitsV bitCells
      go_wp2_with fail
      refine wp_region_held_drew (S := (fun W => Row W w2.heap.size 111 (bitCells (inT (stT l s))) ∧ Row W (w2.heap.size + 1) 111 (bitCells (inT (needT (stT l s) (pathIx l t)))) ∧ Nodes W w.heap.size g l.length l.length l nb cv ∧ Below w.heap.size w W)) (by kernel_rfl) ?_ (fun hHeld => ?_)
      · exact HS0.out
      refine take_at (i := 0) (d := 25) (v := bitsV (inT (needT (stT l s) (pathIx l t)))) rfl rfl (by kernel_rfl) (by kernel_rfl) (by kernel_rfl) (fun _ _ _ h => h) (by kernel_rfl) ((fun W hS => run_load_state_op rfl rfl hS.2.1)) (by assumption) ?_
      simp only [List.setIfInBounds_toArray, List.set_cons_succ, List.set_cons_zero]
      refine take_at (i := 1) (d := 26) (v := .slice (some ⟨g, 0, none⟩) l.length l.length) rfl rfl (by kernel_rfl) (by kernel_rfl) (by kernel_rfl) (fun _ _ _ h => h) (by kernel_rfl) (by (intro w hSw; (try dsimp only at hSw); go_simp)) (by assumption) ?_
      simp only [List.setIfInBounds_toArray, List.set_cons_succ, List.set_cons_zero]
      refine take_at (i := 3) (d := 28) (v := bitsV (inT (needT (stT l s) (pathIx l t)))) rfl rfl (by kernel_rfl) (by kernel_rfl) (by kernel_rfl) (fun _ _ _ h => h) (by kernel_rfl) ((fun W hS => run_load_state_op rfl rfl hS.2.1)) (by assumption) ?_
      simp only [List.setIfInBounds_toArray, List.set_cons_succ, List.set_cons_zero]
      refine take_at (i := 4) (d := 29) (v := bitsV (inT (stT l s))) rfl rfl (by kernel_rfl) (by kernel_rfl) (by kernel_rfl) (fun _ _ _ h => h) (by kernel_rfl) ((fun W hS => run_load_state_op rfl rfl hS.1)) (by assumption) ?_
      simp only [List.setIfInBounds_toArray, List.set_cons_succ, List.set_cons_zero]
      refine take_at (i := 6) (d := 31) (v := .slice (some ⟨g, 0, none⟩) l.length l.length) rfl rfl (by kernel_rfl) (by kernel_rfl) (by kernel_rfl) (fun _ _ _ h => h) (by kernel_rfl) (by (intro w hSw; (try dsimp only at hSw); go_simp)) (by assumption) ?_
      simp only [List.setIfInBounds_toArray, List.set_cons_succ, List.set_cons_zero]
      refine wpAnyH_ready (rs := [2]) (by kernel_rfl) (by simp) ?_
      refine AllReadyH.cons rfl (fun K hK => ?_) AllReadyH.nil
      go_simp
      refine (namesIn_any w.heap.size g l nb cv (needT (stT l s) (pathIx l t)) _ hHeld.2.2.1 HV.out HA.out.1 HA.out.2).mono ?_
      rintro e W3 ⟨rfl, hb3⟩
      have hs3 : Row W3 w2.heap.size 111 (bitCells (inT (stT l s))) ∧ Row W3 (w2.heap.size + 1) 111 (bitCells (inT (needT (stT l s) (pathIx l t)))) ∧ Nodes W3 w.heap.size g l.length l.length l nb cv ∧ Below w.heap.size w W3 := ⟨hHeld.1.below hb3 hHeld.1.lt, hHeld.2.1.below hb3 hHeld.2.1.lt, hHeld.2.2.1.below hb3, hHeld.2.2.2.trans (hb3.mono hHeld.2.2.2.size)⟩
      clear hb3 hHeld
      refine hK.out _ _ hs3 (fun hHeld => ?_)
      clear hK K hs3
      refine wpAnyH_ready (rs := [5]) (by kernel_rfl) (by simp) ?_
      refine AllReadyH.cons rfl (fun K hK => ?_) AllReadyH.nil
      go_simp
      refine (lessIn_any (needT (stT l s) (pathIx l t)) (stT l s) _).mono ?_
      rintro e W4 ⟨rfl, hb4⟩
      have hs4 : Row W4 w2.heap.size 111 (bitCells (inT (stT l s))) ∧ Row W4 (w2.heap.size + 1) 111 (bitCells (inT (needT (stT l s) (pathIx l t)))) ∧ Nodes W4 w.heap.size g l.length l.length l nb cv ∧ Below w.heap.size w W4 := ⟨hHeld.1.below hb4 hHeld.1.lt, hHeld.2.1.below hb4 hHeld.2.1.lt, hHeld.2.2.1.below hb4, hHeld.2.2.2.trans (hb4.mono hHeld.2.2.2.size)⟩
      clear hb4 hHeld
      refine hK.out _ _ hs4 (fun hHeld => ?_)
      clear hK K hs4
      refine wpAnyH_ready (rs := [7]) (by kernel_rfl) (by simp) ?_
      refine AllReadyH.cons rfl (fun K hK => ?_) AllReadyH.nil
      go_simp
      refine (namesIn_any w.heap.size g l nb cv (lessT (needT (stT l s) (pathIx l t)) (stT l s)) _ hHeld.2.2.1 HV.out HA2.out.1 HA2.out.2).mono ?_
      rintro e W5 ⟨rfl, hb5⟩
      have hs5 : Row W5 w2.heap.size 111 (bitCells (inT (stT l s))) ∧ Row W5 (w2.heap.size + 1) 111 (bitCells (inT (needT (stT l s) (pathIx l t)))) ∧ Nodes W5 w.heap.size g l.length l.length l nb cv ∧ Below w.heap.size w W5 := ⟨hHeld.1.below hb5 hHeld.1.lt, hHeld.2.1.below hb5 hHeld.2.1.lt, hHeld.2.2.1.below hb5, hHeld.2.2.2.trans (hb5.mono hHeld.2.2.2.size)⟩
      clear hb5 hHeld
      refine hK.out _ _ hs5 (fun hHeld => ?_)
      clear hK K hs5
      refine take_at (i := 8) (d := 6) (v := .string (namesAt l (needT (stT l s) (pathIx l t)))) rfl rfl (by kernel_rfl) (by kernel_rfl) (by kernel_rfl) (fun _ _ _ h => h) (by kernel_rfl) (by (intro w hSw; (try dsimp only at hSw); go_simp)) (by assumption) ?_
      simp only [List.setIfInBounds_toArray, List.set_cons_succ, List.set_cons_zero]
      refine take_at (i := 9) (d := 7) (v := .string (namesAt l (lessT (needT (stT l s) (pathIx l t)) (stT l s)))) rfl rfl (by kernel_rfl) (by kernel_rfl) (by kernel_rfl) (fun _ _ _ h => h) (by kernel_rfl) (by (intro w hSw; (try dsimp only at hSw); go_simp)) (by assumption) ?_
      simp only [List.setIfInBounds_toArray, List.set_cons_succ, List.set_cons_zero]
      refine take_at (i := 10) (d := 8) (v := .bool true) rfl rfl (by kernel_rfl) (by kernel_rfl) (by kernel_rfl) (fun _ _ _ h => h) (by kernel_rfl) (by (intro w hSw; (try dsimp only at hSw); go_simp)) (by assumption) ?_
      simp only [List.setIfInBounds_toArray, List.set_cons_succ, List.set_cons_zero]
      refine wpAnyH_done (by kernel_rfl) ?_ _
      go_wp2
      go_ret3
      exact ⟨ret_three HF.out.1.symm HF.out.2.symm rfl, hHeld.2.2.2⟩

end Go.Proofs.Ytbmfjfhmdpmlbaa
