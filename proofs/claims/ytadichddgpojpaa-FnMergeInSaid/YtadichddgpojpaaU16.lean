/- Joined: Vi Vj. -/
import Derived.Test.YtadichddgpojpaaU15
import Derived.Laws.Externs
/- Chapter 9: slices.Replace within a row. -/
namespace Go.Proofs.Ytadichddgpojpaa
open Go.RowKit

theorem run_clear0_9 (w : World) (a : Addr) (c : Nat) (ty : TypeId) : (Builtin.clear_ #[54] ty #[.slice (some a) 0 c]).run Try.prog w = .ok (.tuple #[]) w := by
  simp [Builtin.clear_, run_underlying Try.underlying54]
theorem size_ptr9 : (Try.prog.info? 56).map (·.size) = some 1 := by kernel_rfl
/-- The row behind two copies is a row of the call's own. -/
theorem own_row9 {w : World} {B b c n : Nat} {L xs : List Value} (hh : w.heap[b]? = some (.cells L.toArray 56 (0, 0))) (hB : B ≤ b) (hL : L.length = c) (hc : c ≤ maxLen) (hn : n ≤ c) (hx : L.take n = xs) (hxl : xs.length = n) :
    w.ownsRow B 56 1 (.slice (some ⟨b, 0, none⟩) n c) n xs :=
  ⟨by omega, .inr ⟨b, c, L.toArray, rfl, hB, hh, hn, hc, by simpa using hL, by simpa using hx⟩⟩

set_option maxRecDepth 100000 in
set_option maxHeartbeats 2000000 in
theorem replace9_out (B b k c i : Nat) (A : Option Addr) (vc : Nat) (xs : List Value) (w : World) (h : Repl9 w B b (k + 1) c i 0 A vc xs []) (hin : i < k) :
    Calls Try.prog 94 #[.slice (some ⟨b, 0, none⟩) (k + 1) c, .int .i64 i, .int .i64 ((i : Int) + 1), .slice A 0 vc] w (ReplPost9 w B b (xs.take i ++ xs.drop (i + 1))) := by
  have HH := Lib.hid h
  have hn := h.few
  have hvc' := h.le'
  have hxl : xs.length = k + 1 := by have := h.own.1; omega
  obtain ⟨cur, hrow, hnc, hcm, hcz, hct⟩ := h.row
  have HROW := Lib.hid hrow
  have HCT := Lib.hid hct
  have HCZ := Lib.hid hcz
  have HXL := Lib.hid hxl
  have HXONE := Lib.hid (h.xone)
  have hgB : B ≤ b := (h.own.lt b rfl).1
  clear h hrow hct hcz hxl
  unfold maxLen at hcm
  have hci : ¬ (c = i) := by omega
  have hci1 : ¬ (c = i + 1) := by omega
  have hck : ¬ (c = k) := by omega
  have hi0 : (0 : Int) ≤ (i : Int) := Int.natCast_nonneg _
  have hi1 : (i : Int) ≤ (i : Int) + 1 := by omega
  have hi2 : (i : Int) + 1 ≤ (c : Int) := by omega
  have hi3 : (i : Int) ≤ (c : Int) := by omega
  have hi4 : (i : Int) + 1 ≤ (k : Int) + 1 := by omega
  have hi5 : (0 : Int) ≤ (i : Int) + 1 := by omega
  have hi6 : (i : Int) ≤ (k : Int) := by omega
  have hk0 : (0 : Int) ≤ (k : Int) := Int.natCast_nonneg _
  have hk1 : (k : Int) ≤ (c : Int) := by omega
  have hk2 : ¬ ((c : Int) < (k : Int)) := by omega
  have hk3 : (k : Int) ≤ (k : Int) + 1 := by omega
  have he : ((i : Int) == (i : Int) + 1) = false := by rw [beq_eq_false_iff_ne]; omega
  have hl : ((i : Int) + 1 == (k : Int) + 1) = false := by rw [beq_eq_false_iff_ne]; omega
  have hl2 : ((i : Int) + 1 == ((k + 1 : Nat) : Int)) = false := by rw [beq_eq_false_iff_ne]; omega
  have ht : (i : Int) + ((k - i : Nat) : Int) = (k : Int) := by omega
  go_enter Try.func94, Try.ntmps94
  go_wp2_with fail
  go_quiet (fail)
  have hr1 : (w.drewN nq).heap[b]? = some (.cells cur.toList.toArray 56 (0, 0)) := by
    rw [Array.toArray_toList]
    exact HROW.out
  have ho1 : Only w (w.drewN nq) (fun k => some k = some b) := ⟨rfl, rfl, rfl, Nat.le_refl _, fun _ _ _ => rfl⟩
  have HR1 := Lib.hid hr1
  have HO1 := Lib.hid ho1
  clear hr1 ho1
  generalize w.drewN nq = w1 at *
  have HCL : Hid (∀ j u, (xs.drop (i + 1))[j]? = some u → cur.toList[i + 1 + j]? = some u) := fun j u hj => by
    rw [List.getElem?_drop, ← HCT.out] at hj
    have h1 := (List.getElem?_eq_some_iff.1 hj).1
    rw [List.getElem?_take_of_lt (by rw [List.length_take] at h1; omega)] at hj
    exact hj
  have HSRC : Hid (∀ (W : World), W.heap[b]? = some (.cells cur.toList.toArray 56 (0, 0)) → ∀ j u, (xs.drop (i + 1))[j]? = some u → W.cell? ((⟨b, i + 1, none⟩ : Addr).add j) = some u) := fun W hW j u hj => by
    have h1 := HCL.out j u hj
    rw [WideShapes.add_plain]
    show W.cell? ⟨b, i + 1 + j, none⟩ = some u
    have hr : Row W b 56 cur.toList.toArray := hW
    rw [hr.cell]
    simpa using h1
  have HDL : Hid ((xs.drop (i + 1)).length = k - i) := by show _ = _; rw [List.length_drop, HXL.out]; omega
  have HONE : Hid (∀ v ∈ xs.drop (i + 1), v.oneCell' = true) := fun v hv => HXONE.out v (List.mem_of_mem_drop hv)
  have HCL2 : Hid (cur.toList.length = c) := by show _ = _; rw [Array.length_toList]; exact HCZ.out
  generalize hD : xs.drop (i + 1) = D at *
  go_wp2_with fail
  have hcp := run_copy_none (P := Try.prog) w1 54 54 3 56 (some ⟨b, i, none⟩) A (k - i) (c - i) 0 vc Try.underlying54 size_ptr9 (Nat.zero_min _)
  rw [hcp]
  clear hcp
  go_wp2_with fail
  have hwi : IntKind.i64.wrap (i : Int) = (i : Int) := IntWalk.i64_in _ (by omega)
  refine wp_region_held_drew (S := (fun W => Only w W (fun k => some k = some b))) (by kernel_rfl) ?_ (fun hHeld => ?_)
  · exact only_drew9 HO1.out
  refine take_at (i := 0) (d := 98) (v := .slice (some ⟨b, 0, none⟩) k c) rfl rfl (by kernel_rfl) (by kernel_rfl) (by kernel_rfl) (fun _ _ _ h => h) (by kernel_rfl) (by (intro w hSw; (try dsimp only at hSw); go_simp)) (by assumption) ?_
  simp only [List.setIfInBounds_toArray, List.set_cons_succ, List.set_cons_zero]
  refine take_at (i := 1) (d := 99) (v := .int .i64 i) rfl rfl (by kernel_rfl) (by kernel_rfl) (by kernel_rfl) (fun _ _ _ h => h) (by kernel_rfl) (by (intro w hSw; (try dsimp only at hSw); go_simp)) (by assumption) ?_
  simp only [List.setIfInBounds_toArray, List.set_cons_succ, List.set_cons_zero]
  refine take_at (i := 2) (d := 100) (v := .slice A 0 vc) rfl rfl (by kernel_rfl) (by kernel_rfl) (by kernel_rfl) (fun _ _ _ h => h) (by kernel_rfl) (by (intro w hSw; (try dsimp only at hSw); go_simp)) (by assumption) ?_
  simp only [List.setIfInBounds_toArray, List.set_cons_succ, List.set_cons_zero]
  refine take_at (i := 3) (d := 101) (v := .int .i64 0) rfl rfl (by kernel_rfl) (by kernel_rfl) (by kernel_rfl) (fun _ _ _ h => h) (by kernel_rfl) (by (intro w hSw; (try dsimp only at hSw); go_simp)) (by assumption) ?_
  simp only [List.setIfInBounds_toArray, List.set_cons_succ, List.set_cons_zero]
  refine take_at (i := 4) (d := 102) (v := .int .i64 i) rfl rfl (by kernel_rfl) (by kernel_rfl) (by kernel_rfl) (fun _ _ _ h => h) (by kernel_rfl) (by (intro w hSw; (try dsimp only at hSw); go_simp)) (by assumption) ?_
  simp only [List.setIfInBounds_toArray, List.set_cons_succ, List.set_cons_zero]
  refine take_at (i := 5) (d := 103) (v := .slice (some ⟨b, i, none⟩) (k - i) (c - i)) rfl rfl (by kernel_rfl) (by kernel_rfl) (by kernel_rfl) (fun _ _ _ h => h) (by kernel_rfl) (by (intro w hSw; (try dsimp only at hSw); go_simp)) (by assumption) ?_
  simp only [List.setIfInBounds_toArray, List.set_cons_succ, List.set_cons_zero]
  refine take_at (i := 6) (d := 104) (v := .slice (some ⟨b, 0, none⟩) (k + 1) c) rfl rfl (by kernel_rfl) (by kernel_rfl) (by kernel_rfl) (fun _ _ _ h => h) (by kernel_rfl) (by (intro w hSw; (try dsimp only at hSw); go_simp)) (by assumption) ?_
  simp only [List.setIfInBounds_toArray, List.set_cons_succ, List.set_cons_zero]
  refine take_at (i := 7) (d := 105) (v := .int .i64 ((i : Int) + 1)) rfl rfl (by kernel_rfl) (by kernel_rfl) (by kernel_rfl) (fun _ _ _ h => h) (by kernel_rfl) (by (intro w hSw; (try dsimp only at hSw); go_simp)) (by assumption) ?_
  simp only [List.setIfInBounds_toArray, List.set_cons_succ, List.set_cons_zero]
  refine take_at (i := 8) (d := 106) (v := .slice (some ⟨b, i + 1, none⟩) (k - i) (c - (i + 1))) rfl rfl (by kernel_rfl) (by kernel_rfl) (by kernel_rfl) (fun _ _ _ h => h) (by kernel_rfl) (by (intro w hSw; (try dsimp only at hSw); go_simp)) (by assumption) ?_
  simp only [List.setIfInBounds_toArray, List.set_cons_succ, List.set_cons_zero]
  refine wpAnyH_ready (rs := [9]) (by kernel_rfl) (by simp) ?_
  refine AllReadyH.cons rfl (fun K hK => ?_) AllReadyH.nil
  refine step_copy_only (w := w1.drew) rfl (.tmp 103) (.tmp 106) 54 54 rfl 56 Try.underlying54 size_ptr9 (some ⟨b, i, none⟩) (some ⟨b, i + 1, none⟩) (k - i) (c - i) (k - i) (c - (i + 1)) rfl rfl b i cur.toList 56 HR1.out D (by rw [HDL.out]; exact (Nat.min_self _).symm) (fun _ => ⟨rfl, _, rfl, HSRC.out w1.drew HR1.out⟩) (by rw [HDL.out, HCL2.out]; omega) HONE.out ?_
  intro w2 HR2 HO2
  have HO3 : Hid (Only w w2 (fun k => some k = some b)) := only_trans9 (only_drew9 HO1.out) (only_eq9 HO2.out)
  refine hK.out _ _ HO3.out (fun hHeld => ?_)
  clear hK K hHeld HO2 HO1 HR1
  refine wpAnyH_done (by kernel_rfl) ?_ _
  have hsl : (splice cur.toList i D).length = c := by rw [length_splice _ _ _ (by rw [HDL.out, HCL2.out]; omega)]; exact HCL2.out
  have hst : (splice cur.toList i D).take k = xs.take i ++ D := by
    have h1 := splice9_take cur.toList i D (by rw [HCL2.out]; omega)
    rw [HDL.out, show i + (k - i) = k by omega] at h1
    rw [h1, ← HCT.out, List.take_take]
    congr 2
    omega
  have HSL := Lib.hid hsl
  have HST := Lib.hid hst
  clear hsl hst
  generalize splice cur.toList i D = R at *
  have hrow2 : Row w2 b 56 R.toArray := HR2.out
  have f2 := hrow2.free k
  have e2 : (w2.cell? ⟨b, k, none⟩).isSome = true := by
    rw [hrow2.cell, List.getElem?_toArray, List.getElem?_eq_getElem (by rw [HSL.out]; omega)]
    rfl
  clear hrow2
  go_wp2_with fail
  have hclr := run_clear9 w2 b k (c - k) 0 e2 f2
  rw [hclr]
  clear hclr
  go_wp2
  go_ret
  have hz : (xs.take i ++ D).length = k := by rw [List.length_append, List.length_take, HDL.out, HXL.out]; omega
  have hown : w2.ownsRow B 56 1 (.slice (some ⟨b, 0, none⟩) k c) k (xs.take i ++ D) := own_row9 HR2.out hgB HSL.out (by unfold maxLen; omega) (by omega) HST.out hz
  refine ⟨_, rfl, by rw [hz]; exact own_past9 hown (Nat.le_refl _) _, ?_, .inl rfl⟩
  exact ⟨HO3.out.os, HO3.out.tape, HO3.out.output, by rw [size_set]; exact HO3.out.size, fun q hq hm => (Below.heap_setCell _ _ _ _ (fun e => hm (by rw [e]))).trans (HO3.out.block q hq hm)⟩

/-- copy into a row, as a run. -/
theorem run_copy9 (w : World) (ty : TypeId) (g o dLen dCap : Nat) (a : Addr) (sLen sCap : Nat) (cur : List Value) (cs : List Value) (hg : w.heap[g]? = some (.cells cur.toArray 56 (0, 0))) (hn : cs.length = Nat.min sLen dLen)
    (hsrc : ∀ j v, cs[j]? = some v → w.cell? (a.add j) = some v) (hfit : o + cs.length ≤ cur.length) (h1 : ∀ v ∈ cs, v.oneCell' = true) :
    ∃ w', (Builtin.copy_ #[54, 54] ty #[.slice (some ⟨g, o, none⟩) dLen dCap, .slice (some a) sLen sCap]).run Try.prog w = .ok (goInt cs.length) w' ∧ w'.heap[g]? = some (.cells (splice cur o cs).toArray 56 (0, 0)) ∧ Only w w' (· = g) := by
  have hrun := run_copy_row (P := Try.prog) w 54 54 ty 56 g o dLen dCap a sLen sCap cur.toArray 56 cs Try.underlying54 size_ptr9 hg hn hsrc (by simpa using hfit) h1
  exact ⟨_, hrun, by simpa [splice] using setRow_heap w g _ _ 56 _ hg, ⟨rfl, rfl, rfl, by simp [World.setRow], fun k _ hk => setRow_other w g k _ hk⟩⟩
theorem splice9_past {α : Type} (L Y : List α) (i j : Nat) (h : i + Y.length ≤ L.length) : (splice L i Y)[i + Y.length + j]? = L[i + Y.length + j]? := by
  unfold splice
  rw [List.getElem?_append_right (by simp; omega), List.getElem?_append_right (by simp; omega), List.getElem?_drop]
  congr 1
  simp
  omega

set_option maxRecDepth 100000 in
set_option maxHeartbeats 2000000 in
theorem replace9_one (B b k c i : Nat) (A : Option Addr) (vc : Nat) (xs : List Value) (y : Value) (w : World) (h : Repl9 w B b (k + 1) c i 1 A vc xs [y]) (hin : i < k) :
    Calls Try.prog 94 #[.slice (some ⟨b, 0, none⟩) (k + 1) c, .int .i64 i, .int .i64 ((i : Int) + 1), .slice A 1 vc] w (ReplPost9 w B b (xs.take i ++ [y] ++ xs.drop (i + 1))) := by
  have HH := Lib.hid h
  have hn := h.few
  have hvc := h.le
  have hvc' := h.le'
  have hxl : xs.length = k + 1 := by have := h.own.1; omega
  obtain ⟨cur, hrow, hnc, hcm, hcz, hct⟩ := h.row
  have HROW := Lib.hid hrow
  have HCT := Lib.hid hct
  have HCZ := Lib.hid hcz
  have HXL := Lib.hid hxl
  have HXONE := Lib.hid (h.xone)
  have hgB : B ≤ b := (h.own.lt b rfl).1
  obtain ⟨vb, rfl, hvb, hnew, -⟩ := h.from' (by omega)
  have HNEW := Lib.hid hnew
  have HYONE := Lib.hid h.one
  have HCL : Hid (∀ j u, (xs.drop (i + 1))[j]? = some u → cur.toList[i + 1 + j]? = some u) := fun j u hj => by
    rw [List.getElem?_drop, ← HCT.out] at hj
    have h1 := (List.getElem?_eq_some_iff.1 hj).1
    rw [List.getElem?_take_of_lt (by rw [List.length_take] at h1; omega)] at hj
    exact hj
  have HDL : Hid ((xs.drop (i + 1)).length = k - i) := by show _ = _; rw [List.length_drop, HXL.out]; omega
  have HONE : Hid (∀ v ∈ xs.drop (i + 1), v.oneCell' = true) := fun v hv => HXONE.out v (List.mem_of_mem_drop hv)
  have HCL2 : Hid (cur.toList.length = c) := by show _ = _; rw [Array.length_toList]; exact HCZ.out
  obtain ⟨Z, HZ⟩ : ∃ Z, Hid (Z = xs.take i ++ [y] ++ xs.drop (i + 1)) := ⟨_, rfl⟩
  have HZL : Hid (Z.length = k + 1) := by show _ = _; rw [HZ.out, List.length_append, List.length_append, List.length_take, HDL.out, HXL.out]; show min i (k + 1) + 1 + (k - i) = k + 1; omega
  rw [← HZ.out]
  clear h hrow hct hcz hxl hnew
  unfold maxLen at hcm
  have hci : ¬ (c = i) := by omega
  have hci1 : ¬ (c = i + 1) := by omega
  have hi0 : (0 : Int) ≤ (i : Int) := Int.natCast_nonneg _
  have hi1 : (i : Int) ≤ (i : Int) + 1 := by omega
  have hi2 : (i : Int) + 1 ≤ (c : Int) := by omega
  have hi3 : (i : Int) ≤ (c : Int) := by omega
  have hi4 : (i : Int) + 1 ≤ (k : Int) + 1 := by omega
  have hi5 : (0 : Int) ≤ (i : Int) + 1 := by omega
  have hi6 : (i : Int) ≤ (k : Int) + 1 := by omega
  have hk0 : (0 : Int) ≤ (k : Int) + 1 := by omega
  have hk1 : (k : Int) + 1 ≤ (c : Int) := by omega
  have hk2 : ¬ ((c : Int) < (k : Int) + 1) := by omega
  have he : ((i : Int) == (i : Int) + 1) = false := by rw [beq_eq_false_iff_ne]; omega
  have hl : ((i : Int) + 1 == (k : Int) + 1) = false := by rw [beq_eq_false_iff_ne]; omega
  have hl2 : ((i : Int) + 1 == ((k + 1 : Nat) : Int)) = false := by rw [beq_eq_false_iff_ne]; omega
  have ht : (i : Int) + 1 + ((k - i : Nat) : Int) = (k : Int) + 1 := by omega
  go_enter Try.func94, Try.ntmps94
  go_wp2_with fail
  go_quiet (fail)
  have hr1 : (w.drewN nq).heap[b]? = some (.cells cur.toList.toArray 56 (0, 0)) := by
    rw [Array.toArray_toList]
    exact HROW.out
  have ho1 : Only w (w.drewN nq) (fun k => some k = some b) := ⟨rfl, rfl, rfl, Nat.le_refl _, fun _ _ _ => rfl⟩
  have hv1 : ∀ j u, [y][j]? = some u → (w.drewN nq).cell? ((⟨vb, 0, none⟩ : Addr).add j) = some u := HNEW.out
  have HR1 := Lib.hid hr1
  have HO1 := Lib.hid ho1
  have HV1 := Lib.hid hv1
  clear hr1 ho1 hv1 HNEW
  generalize w.drewN nq = w1 at *
  go_wp2_with fail
  have hlen1 : [y].length = 1 := rfl
  obtain ⟨w2, hcp, hr2, ho2⟩ := run_copy9 w1 3 b i (k + 1 - i) (c - i) ⟨vb, 0, none⟩ 1 vc cur.toList [y] HR1.out (by show 1 = min 1 (k + 1 - i); omega) HV1.out (by rw [HCL2.out, hlen1]; omega) HYONE.out
  have HR2 := Lib.hid hr2
  have HO2 := Lib.hid (only_trans9 HO1.out (only_eq9 ho2))
  rw [hcp]
  clear hcp hr2 ho2 HR1 HO1 HV1 hlen1
  have HSRC : Hid (∀ (W : World), W.heap[b]? = some (.cells (splice cur.toList i [y]).toArray 56 (0, 0)) → ∀ j u, (xs.drop (i + 1))[j]? = some u → W.cell? ((⟨b, i + 1, none⟩ : Addr).add j) = some u) := fun W hW j u hj => by
    have h1 := HCL.out j u hj
    have h2 := splice9_past cur.toList [y] i j (by rw [HCL2.out]; show i + 1 ≤ c; omega)
    rw [WideShapes.add_plain]
    show W.cell? ⟨b, i + 1 + j, none⟩ = some u
    have hr : Row W b 56 (splice cur.toList i [y]).toArray := hW
    rw [hr.cell, List.getElem?_toArray]
    exact h2.trans h1
  have HL1 : Hid ((splice cur.toList i [y]).length = c) := by
    show _ = _
    rw [length_splice _ _ _ (by rw [HCL2.out]; show i + 1 ≤ c; omega)]
    exact HCL2.out
  have HT2 : Hid ((splice (splice cur.toList i [y]) (i + 1) (xs.drop (i + 1))).take (k + 1) = Z) := by
    have h1 := splice9_two cur.toList [y] (xs.drop (i + 1)) i (by rw [HCL2.out, HDL.out]; show i + 1 + (k - i) ≤ c; omega)
    rw [HDL.out, show i + [y].length + (k - i) = k + 1 by show i + 1 + (k - i) = k + 1; omega] at h1
    show _ = Z
    rw [HZ.out]
    refine h1.trans ?_
    rw [← HCT.out, List.take_take]
    congr 3
    omega
  clear HCL HZ
  generalize splice cur.toList i [y] = R1 at *
  generalize xs.drop (i + 1) = D at *
  go_wp2_with fail
  have hwi : IntKind.i64.wrap ((i : Int) + 1) = (i : Int) + 1 := IntWalk.i64_in _ (by omega)
  refine wp_region_held_drew (S := (fun W => Only w W (fun k => some k = some b))) (by kernel_rfl) ?_ (fun hHeld => ?_)
  · exact only_drew9 HO2.out
  refine take_at (i := 0) (d := 98) (v := .slice (some ⟨b, 0, none⟩) (k + 1) c) rfl rfl (by kernel_rfl) (by kernel_rfl) (by kernel_rfl) (fun _ _ _ h => h) (by kernel_rfl) (by (intro w hSw; (try dsimp only at hSw); go_simp)) (by assumption) ?_
  simp only [List.setIfInBounds_toArray, List.set_cons_succ, List.set_cons_zero]
  refine take_at (i := 1) (d := 99) (v := .int .i64 i) rfl rfl (by kernel_rfl) (by kernel_rfl) (by kernel_rfl) (fun _ _ _ h => h) (by kernel_rfl) (by (intro w hSw; (try dsimp only at hSw); go_simp)) (by assumption) ?_
  simp only [List.setIfInBounds_toArray, List.set_cons_succ, List.set_cons_zero]
  refine take_at (i := 2) (d := 100) (v := .slice (some ⟨vb, 0, none⟩) 1 vc) rfl rfl (by kernel_rfl) (by kernel_rfl) (by kernel_rfl) (fun _ _ _ h => h) (by kernel_rfl) (by (intro w hSw; (try dsimp only at hSw); go_simp)) (by assumption) ?_
  simp only [List.setIfInBounds_toArray, List.set_cons_succ, List.set_cons_zero]
  refine take_at (i := 3) (d := 101) (v := .int .i64 1) rfl rfl (by kernel_rfl) (by kernel_rfl) (by kernel_rfl) (fun _ _ _ h => h) (by kernel_rfl) (by (intro w hSw; (try dsimp only at hSw); go_simp)) (by assumption) ?_
  simp only [List.setIfInBounds_toArray, List.set_cons_succ, List.set_cons_zero]
  refine take_at (i := 4) (d := 102) (v := .int .i64 ((i : Int) + 1)) rfl rfl (by kernel_rfl) (by kernel_rfl) (by kernel_rfl) (fun _ _ _ h => h) (by kernel_rfl) (by (intro w hSw; (try dsimp only at hSw); go_simp)) (by assumption) ?_
  simp only [List.setIfInBounds_toArray, List.set_cons_succ, List.set_cons_zero]
  refine take_at (i := 5) (d := 103) (v := .slice (some ⟨b, i + 1, none⟩) (k - i) (c - (i + 1))) rfl rfl (by kernel_rfl) (by kernel_rfl) (by kernel_rfl) (fun _ _ _ h => h) (by kernel_rfl) (by (intro w hSw; (try dsimp only at hSw); go_simp)) (by assumption) ?_
  simp only [List.setIfInBounds_toArray, List.set_cons_succ, List.set_cons_zero]
  refine take_at (i := 6) (d := 104) (v := .slice (some ⟨b, 0, none⟩) (k + 1) c) rfl rfl (by kernel_rfl) (by kernel_rfl) (by kernel_rfl) (fun _ _ _ h => h) (by kernel_rfl) (by (intro w hSw; (try dsimp only at hSw); go_simp)) (by assumption) ?_
  simp only [List.setIfInBounds_toArray, List.set_cons_succ, List.set_cons_zero]
  refine take_at (i := 7) (d := 105) (v := .int .i64 ((i : Int) + 1)) rfl rfl (by kernel_rfl) (by kernel_rfl) (by kernel_rfl) (fun _ _ _ h => h) (by kernel_rfl) (by (intro w hSw; (try dsimp only at hSw); go_simp)) (by assumption) ?_
  simp only [List.setIfInBounds_toArray, List.set_cons_succ, List.set_cons_zero]
  refine take_at (i := 8) (d := 106) (v := .slice (some ⟨b, i + 1, none⟩) (k - i) (c - (i + 1))) rfl rfl (by kernel_rfl) (by kernel_rfl) (by kernel_rfl) (fun _ _ _ h => h) (by kernel_rfl) (by (intro w hSw; (try dsimp only at hSw); go_simp)) (by assumption) ?_
  simp only [List.setIfInBounds_toArray, List.set_cons_succ, List.set_cons_zero]
  refine wpAnyH_ready (rs := [9]) (by kernel_rfl) (by simp) ?_
  refine AllReadyH.cons rfl (fun K hK => ?_) AllReadyH.nil
  refine step_copy_only (w := w2.drew) rfl (.tmp 103) (.tmp 106) 54 54 rfl 56 Try.underlying54 size_ptr9 (some ⟨b, i + 1, none⟩) (some ⟨b, i + 1, none⟩) (k - i) (c - (i + 1)) (k - i) (c - (i + 1)) rfl rfl b (i + 1) R1 56 HR2.out D (by rw [HDL.out]; exact (Nat.min_self _).symm) (fun _ => ⟨rfl, _, rfl, HSRC.out w2.drew HR2.out⟩) (by rw [HDL.out, HL1.out]; omega) HONE.out ?_
  intro w3 HR3 HO3
  have HO4 : Hid (Only w w3 (fun k => some k = some b)) := only_trans9 (only_drew9 HO2.out) (only_eq9 HO3.out)
  refine hK.out _ _ HO4.out (fun hHeld => ?_)
  clear hK K hHeld HO2 HO3 HR2
  refine wpAnyH_done (by kernel_rfl) ?_ _
  have HL2 : Hid ((splice R1 (i + 1) D).length = c) := by
    show _ = _
    rw [length_splice _ _ _ (by rw [HDL.out, HL1.out]; omega)]
    exact HL1.out
  generalize splice R1 (i + 1) D = R2 at *
  have HEND : Hid (ReplPost9 w B b Z (.returned (.slice (some ⟨b, 0, none⟩) (k + 1) c)) w3) := by
    have hown : w3.ownsRow B 56 1 (.slice (some ⟨b, 0, none⟩) (k + 1) c) (k + 1) Z := own_row9 HR3.out hgB HL2.out (by unfold maxLen; omega) (by omega) HT2.out HZL.out
    exact ⟨_, rfl, by rw [HZL.out]; exact hown, HO4.out, .inl rfl⟩
  by_cases hck : c = k + 1
  · subst hck
    go_wp2_with fail
    rw [run_clear0_9]
    go_wp2
    go_ret
    exact HEND.out
  · go_wp2_with fail
    rw [run_clear0_9]
    go_wp2
    go_ret
    exact HEND.out

end Go.Proofs.Ytadichddgpojpaa
/- Chapter 9: slices.Replace by several ones: where there is room, and where there is none. -/
namespace Go.Proofs.Ytadichddgpojpaa
open Go.RowKit

theorem shape9 {w : World} {b : Nat} {cur : Array Value} (h : Row w b 56 cur) : w.shape? b = some (56, cur.size) := by
  unfold Row at h
  simp [World.shape?, h]
theorem run_overlaps9 {w : World} {b vb i m lb cb la ca : Nat} {cur : Array Value} {tB : TypeId} {kB : Nat} (hr : Row w b 56 cur) (hne : b ≠ vb) (hs : w.shape? vb = some (tB, kB)) (hk : kB ≠ 0) :
    (callFunc 132 #[.slice (some ⟨b, i + m, none⟩) la ca, .slice (some ⟨vb, 0, none⟩) lb cb]).run Try.prog w = .ok (.value (.bool false)) w := by
  rw [run_callFunc_extern Try.func132 (by kernel_rfl) (by kernel_rfl) (by kernel_rfl) (e := Extern.SlicesOverlaps.overlaps #[54, 54] #[4]) (by kernel_rfl),
    Lib.run_overlaps_apart w 54 4 56 Try.underlying54 1 Try.sizeOf56 ⟨b, i + m, none⟩ ⟨vb, 0, none⟩ la ca lb cb hne 56 tB cur.size kB (shape9 hr) hs hk (hr.free _) (hr.free _)]
  rfl

set_option maxRecDepth 100000 in
set_option maxHeartbeats 2000000 in
theorem replace9_room (B b k c i m : Nat) (A : Option Addr) (vc : Nat) (xs ys : List Value) (w : World) (h : Repl9 w B b (k + 1) c i m A vc xs ys) (hin : i < k) (hm2 : 2 ≤ m) (hfit : k + m ≤ c) :
    Calls Try.prog 94 #[.slice (some ⟨b, 0, none⟩) (k + 1) c, .int .i64 i, .int .i64 ((i : Int) + 1), .slice A m vc] w (ReplPost9 w B b (xs.take i ++ ys ++ xs.drop (i + 1))) := by
  have HH := Lib.hid h
  have hn := h.few
  have hm := h.few'
  have hvc := h.le
  have hvc' := h.le'
  have hxl : xs.length = k + 1 := by have := h.own.1; omega
  obtain ⟨cur, hrow, hnc, hcm, hcz, hct⟩ := h.row
  have HROW := Lib.hid hrow
  have HCT := Lib.hid hct
  have HCZ := Lib.hid hcz
  have HXL := Lib.hid hxl
  have HXONE := Lib.hid (h.xone)
  have HYL := Lib.hid h.len
  have hgB : B ≤ b := (h.own.lt b rfl).1
  obtain ⟨vb, rfl, hvb, hnew, tB, kB, hsh, hkB⟩ := h.from' (by omega)
  have HVL : Hid (vb < w.heap.size) := by
    obtain ⟨y, hy⟩ : ∃ y, ys[0]? = some y := ⟨_, List.getElem?_eq_getElem (by rw [h.len]; omega)⟩
    exact World.block_lt_of_cell? _ _ (hnew 0 y hy)
  have HNEW := Lib.hid hnew
  have HSH := Lib.hid hsh
  have HYONE := Lib.hid h.one
  have HCL : Hid (∀ j u, (xs.drop (i + 1))[j]? = some u → cur.toList[i + 1 + j]? = some u) := fun j u hj => by
    rw [List.getElem?_drop, ← HCT.out] at hj
    have h1 := (List.getElem?_eq_some_iff.1 hj).1
    rw [List.getElem?_take_of_lt (by rw [List.length_take] at h1; omega)] at hj
    exact hj
  have HDL : Hid ((xs.drop (i + 1)).length = k - i) := by show _ = _; rw [List.length_drop, HXL.out]; omega
  have HONE : Hid (∀ v ∈ xs.drop (i + 1), v.oneCell' = true) := fun v hv => HXONE.out v (List.mem_of_mem_drop hv)
  have HCL2 : Hid (cur.toList.length = c) := by show _ = _; rw [Array.length_toList]; exact HCZ.out
  obtain ⟨Z, HZ⟩ : ∃ Z, Hid (Z = xs.take i ++ ys ++ xs.drop (i + 1)) := ⟨_, rfl⟩
  have HZL : Hid (Z.length = k + m) := by show _ = _; rw [HZ.out, List.length_append, List.length_append, List.length_take, HDL.out, HXL.out, HYL.out]; omega
  rw [← HZ.out]
  have HSRC : Hid (∀ (W : World), W.heap[b]? = some (.cells cur.toList.toArray 56 (0, 0)) → ∀ j u, (xs.drop (i + 1))[j]? = some u → W.cell? ((⟨b, i + 1, none⟩ : Addr).add j) = some u) := fun W hW j u hj => by
    have h1 := HCL.out j u hj
    rw [WideShapes.add_plain]
    show W.cell? ⟨b, i + 1 + j, none⟩ = some u
    have hr : Row W b 56 cur.toList.toArray := hW
    rw [hr.cell, List.getElem?_toArray]
    exact h1
  have HL2 : Hid ((splice (splice cur.toList (i + m) (xs.drop (i + 1))) i ys).length = c) := by
    show _ = _
    rw [length_splice _ _ _ (by rw [length_splice _ _ _ (by rw [HDL.out, HCL2.out]; omega), HCL2.out, HYL.out]; omega), length_splice _ _ _ (by rw [HDL.out, HCL2.out]; omega)]
    exact HCL2.out
  have HL1 : Hid ((splice cur.toList (i + m) (xs.drop (i + 1))).length = c) := by
    show _ = _
    rw [length_splice _ _ _ (by rw [HDL.out, HCL2.out]; omega)]
    exact HCL2.out
  have HT2 : Hid ((splice (splice cur.toList (i + m) (xs.drop (i + 1))) i ys).take (k + m) = Z) := by
    have h1 := splice9_back cur.toList ys (xs.drop (i + 1)) i (by rw [HCL2.out, HDL.out, HYL.out]; omega)
    rw [HDL.out, HYL.out, show i + m + (k - i) = k + m by omega] at h1
    show _ = Z
    rw [HZ.out, h1, ← HCT.out, List.take_take]
    congr 3
    omega
  clear h hrow hct hcz hxl hnew hsh HCL HZ
  unfold maxLen at hcm
  generalize xs.drop (i + 1) = D at *
  have hci : ¬ (c = i) := by omega
  have hci1 : ¬ (c = i + 1) := by omega
  have hcim : ¬ (c = i + m) := by omega
  have hi0 : (0 : Int) ≤ (i : Int) := Int.natCast_nonneg _
  have hi1 : (i : Int) ≤ (i : Int) + 1 := by omega
  have hi2 : (i : Int) + 1 ≤ (c : Int) := by omega
  have hi3 : (i : Int) ≤ (c : Int) := by omega
  have hi4 : (i : Int) + 1 ≤ (k : Int) + 1 := by omega
  have hi5 : (0 : Int) ≤ (i : Int) + 1 := by omega
  have hi6 : (i : Int) ≤ (k : Int) + (m : Int) := by omega
  have hi7 : (0 : Int) ≤ (i : Int) + (m : Int) := by omega
  have hi8 : (i : Int) + (m : Int) ≤ (k : Int) + (m : Int) := by omega
  have hi9 : ¬ ((i : Int) + (m : Int) ≤ (i : Int) + 1) := by omega
  have hk0 : (0 : Int) ≤ (k : Int) + (m : Int) := by omega
  have hk1 : (k : Int) + (m : Int) ≤ (c : Int) := by omega
  have hk2 : ¬ ((c : Int) < (k : Int) + (m : Int)) := by omega
  have he : ((i : Int) == (i : Int) + 1) = false := by rw [beq_eq_false_iff_ne]; omega
  have hl : ((i : Int) + 1 == (k : Int) + 1) = false := by rw [beq_eq_false_iff_ne]; omega
  have hl2 : ((i : Int) + 1 == ((k + 1 : Nat) : Int)) = false := by rw [beq_eq_false_iff_ne]; omega
  have ht : (i : Int) + (m : Int) + ((k - i : Nat) : Int) = (k : Int) + (m : Int) := by omega
  have hwi : IntKind.i64.wrap ((i : Int) + (m : Int)) = (i : Int) + (m : Int) := IntWalk.i64_in _ (by omega)
  have htn : ((k : Int) + (m : Int)).toNat = k + m := by omega
  have htn2 : ((i : Int) + (m : Int)).toNat = i + m := by omega
  have hkm : k + m - (i + m) = k - i := by omega
  go_enter Try.func94, Try.ntmps94
  go_wp2_with fail
  go_quiet (fail)
  have hr1 : (w.drewN nq).heap[b]? = some (.cells cur.toList.toArray 56 (0, 0)) := by
    rw [Array.toArray_toList]
    exact HROW.out
  have ho1 : Only w (w.drewN nq) (fun k => some k = some b) := ⟨rfl, rfl, rfl, Nat.le_refl _, fun _ _ _ => rfl⟩
  have hv1 : ∀ j u, ys[j]? = some u → (w.drewN nq).cell? ((⟨vb, 0, none⟩ : Addr).add j) = some u := HNEW.out
  have hs1 : (w.drewN nq).shape? vb = some (tB, kB) := HSH.out
  have hov := fun lb cb la ca => run_overlaps9 (w := w.drewN nq) (b := b) (vb := vb) (i := i) (m := m) (lb := lb) (cb := cb) (la := la) (ca := ca) HROW.out (Ne.symm hvb) HSH.out hkB
  have HVL1 : Hid (vb < (w.drewN nq).heap.size) := HVL.out
  have HR1 := Lib.hid hr1
  have HO1 := Lib.hid ho1
  have HV1 := Lib.hid hv1
  clear hr1 ho1 hv1 HNEW HVL HSH HROW hs1
  generalize w.drewN nq = w1 at *
  go_wp2_with (simp only [hov])
  clear hov
  refine wp_region_held_drew (S := (fun W => Only w W (fun k => some k = some b))) (by kernel_rfl) ?_ (fun hHeld => ?_)
  · exact only_drew9 HO1.out
  refine take_at (i := 0) (d := 121) (v := .slice (some ⟨b, 0, none⟩) (k + m) c) rfl rfl (by kernel_rfl) (by kernel_rfl) (by kernel_rfl) (fun _ _ _ h => h) (by kernel_rfl) (by (intro w hSw; (try dsimp only at hSw); go_simp)) (by assumption) ?_
  simp only [List.setIfInBounds_toArray, List.set_cons_succ, List.set_cons_zero]
  refine take_at (i := 1) (d := 122) (v := .int .i64 i) rfl rfl (by kernel_rfl) (by kernel_rfl) (by kernel_rfl) (fun _ _ _ h => h) (by kernel_rfl) (by (intro w hSw; (try dsimp only at hSw); go_simp)) (by assumption) ?_
  simp only [List.setIfInBounds_toArray, List.set_cons_succ, List.set_cons_zero]
  refine take_at (i := 2) (d := 123) (v := .slice (some ⟨vb, 0, none⟩) m vc) rfl rfl (by kernel_rfl) (by kernel_rfl) (by kernel_rfl) (fun _ _ _ h => h) (by kernel_rfl) (by (intro w hSw; (try dsimp only at hSw); go_simp)) (by assumption) ?_
  simp only [List.setIfInBounds_toArray, List.set_cons_succ, List.set_cons_zero]
  refine take_at (i := 3) (d := 124) (v := .int .i64 m) rfl rfl (by kernel_rfl) (by kernel_rfl) (by kernel_rfl) (fun _ _ _ h => h) (by kernel_rfl) (by (intro w hSw; (try dsimp only at hSw); go_simp)) (by assumption) ?_
  simp only [List.setIfInBounds_toArray, List.set_cons_succ, List.set_cons_zero]
  refine take_at (i := 4) (d := 125) (v := .int .i64 ((i : Int) + (m : Int))) rfl rfl (by kernel_rfl) (by kernel_rfl) (by kernel_rfl) (fun _ _ _ h => h) (by kernel_rfl) (by (intro w hSw; (try dsimp only at hSw); go_simp)) (by assumption) ?_
  simp only [List.setIfInBounds_toArray, List.set_cons_succ, List.set_cons_zero]
  refine take_at (i := 5) (d := 126) (v := .slice (some ⟨b, i + m, none⟩) (k - i) (c - (i + m))) rfl rfl (by kernel_rfl) (by kernel_rfl) (by kernel_rfl) (fun _ _ _ h => h) (by kernel_rfl) (by (intro w hSw; (try dsimp only at hSw); go_simp)) (by assumption) ?_
  simp only [List.setIfInBounds_toArray, List.set_cons_succ, List.set_cons_zero]
  refine take_at (i := 6) (d := 127) (v := .slice (some ⟨b, 0, none⟩) (k + 1) c) rfl rfl (by kernel_rfl) (by kernel_rfl) (by kernel_rfl) (fun _ _ _ h => h) (by kernel_rfl) (by (intro w hSw; (try dsimp only at hSw); go_simp)) (by assumption) ?_
  simp only [List.setIfInBounds_toArray, List.set_cons_succ, List.set_cons_zero]
  refine take_at (i := 7) (d := 128) (v := .int .i64 ((i : Int) + 1)) rfl rfl (by kernel_rfl) (by kernel_rfl) (by kernel_rfl) (fun _ _ _ h => h) (by kernel_rfl) (by (intro w hSw; (try dsimp only at hSw); go_simp)) (by assumption) ?_
  simp only [List.setIfInBounds_toArray, List.set_cons_succ, List.set_cons_zero]
  refine take_at (i := 8) (d := 129) (v := .slice (some ⟨b, i + 1, none⟩) (k - i) (c - (i + 1))) rfl rfl (by kernel_rfl) (by kernel_rfl) (by kernel_rfl) (fun _ _ _ h => h) (by kernel_rfl) (by (intro w hSw; (try dsimp only at hSw); go_simp)) (by assumption) ?_
  simp only [List.setIfInBounds_toArray, List.set_cons_succ, List.set_cons_zero]
  refine wpAnyH_ready (rs := [9]) (by kernel_rfl) (by simp) ?_
  refine AllReadyH.cons rfl (fun K hK => ?_) AllReadyH.nil
  refine step_copy_only (w := w1.drew) rfl (.tmp 126) (.tmp 129) 54 54 rfl 56 Try.underlying54 size_ptr9 (some ⟨b, i + m, none⟩) (some ⟨b, i + 1, none⟩) (k - i) (c - (i + m)) (k - i) (c - (i + 1)) rfl rfl b (i + m) cur.toList 56 HR1.out D (by rw [HDL.out]; exact (Nat.min_self _).symm) (fun _ => ⟨rfl, _, rfl, HSRC.out w1.drew HR1.out⟩) (by rw [HDL.out, HCL2.out]; omega) HONE.out ?_
  intro w2 HR2 HO2
  have HV2 : Hid (∀ j u, ys[j]? = some u → w2.cell? ((⟨vb, 0, none⟩ : Addr).add j) = some u) := fun j u hj => by
    have h1 := HV1.out j u hj
    rw [WideShapes.add_plain] at h1 ⊢
    have h2 : w2.heap[vb]? = w1.heap[vb]? := HO2.out.block vb HVL1.out hvb
    simp only [World.cell?, h2]
    exact h1
  have HO3 : Hid (Only w w2 (fun k => some k = some b)) := only_trans9 (only_drew9 HO1.out) (only_eq9 HO2.out)
  refine hK.out _ _ HO3.out (fun hHeld => ?_)
  clear hK K hHeld HO2 HO1 HR1 HV1 HSRC HVL1
  refine wpAnyH_done (by kernel_rfl) ?_ _
  generalize splice cur.toList (i + m) D = R1 at *
  go_wp2_with fail
  obtain ⟨w3, hcp, hr3, ho3⟩ := run_copy9 w2 3 b i (k + m - i) (c - i) ⟨vb, 0, none⟩ m vc R1 ys HR2.out (by rw [HYL.out]; show m = min m (k + m - i); omega) HV2.out (by rw [HL1.out, HYL.out]; omega) HYONE.out
  have HR3 := Lib.hid hr3
  have HO4 := Lib.hid (only_trans9 HO3.out (only_eq9 ho3))
  rw [hcp]
  clear hcp hr3 ho3 HR2 HO3 HV2
  generalize splice R1 i ys = R2 at *
  have hown : w3.ownsRow B 56 1 (.slice (some ⟨b, 0, none⟩) (k + m) c) (k + m) Z := own_row9 HR3.out hgB HL2.out (by unfold maxLen; omega) (by omega) HT2.out HZL.out
  have HEND : Hid (ReplPost9 w B b Z (.returned (.slice (some ⟨b, 0, none⟩) (k + m) c)) w3) := ⟨_, rfl, by rw [HZL.out]; exact hown, HO4.out, .inl rfl⟩
  clear hown
  go_wp2
  go_ret
  exact HEND.out

end Go.Proofs.Ytadichddgpojpaa
