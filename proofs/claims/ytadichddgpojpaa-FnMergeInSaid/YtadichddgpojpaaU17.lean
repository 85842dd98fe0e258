/- Joined: Vk Vp. -/
import Derived.Test.YtadichddgpojpaaU16
import Derived.Lib.AppendZeros
import Derived.Test.YtadichddgpojpaaU08
/- Chapter 9: slices.Replace where a row grows. -/
namespace Go.Proofs.Ytadichddgpojpaa
open Go.RowKit

theorem zeros9_size (n : Nat) : (Builtin.zeroCells (Value.pointer none).cells n).size = n := by simp [Builtin.zeroCells, Value.cells]
/-- A row that grows by zero values: what it held stands at its head. -/
theorem run_grow9 (w : World) (b i c q : Nat) (xs : List Value) (hb : ∀ j u, xs[j]? = some u → w.drew.cell? ((⟨b, 0, none⟩ : Addr).add j) = some u) (hx : xs.length = i * 1) (hq : 0 < q) (hc : c < i + q) (hs : i + q ≤ 100000) :
    ∃ G w' R, (Builtin.append_ #[54, 3] 54 #[.slice (some ⟨b, 0, none⟩) i c, .int .i64 q]).run Try.prog w = .ok (.slice (some ⟨w.heap.size, 0, none⟩) (i + q) G) w' ∧
      i + q ≤ G ∧ G ≤ maxLen ∧ w'.heap[w.heap.size]? = some (.cells (List.toArray R) 56 (0, 0)) ∧ R.length = G ∧ R.take i = xs ∧ Only w w' (fun _ => False) ∧ w.heap.size < w'.heap.size := by
  obtain ⟨i0, hi, hz0, hz1, hz2⟩ := info_parts info_ptr
  have hrun := Lib.run_append_grow_zeros (P := Try.prog) w 54 3 54 56 i0 (.pointer none) .i64 .i64 Try.underlying54 Try.underlying3 hi hz0 (some ⟨b, 0, none⟩) i c xs (by rw [hz1]; exact run_firstCells_some _ 1 i ⟨b, 0, none⟩ i c xs hx hb) q hq (by rw [hz1]; omega) (by omega) (by omega) (by rw [hz2]; omega) (by rw [hz2]; exact growslice_fits (by omega) (by omega))
  have hge := grownCap_ge w (i + q) c 56
  refine ⟨_, _, (List.toArray xs ++ Builtin.zeroCells (Value.pointer none).cells q ++ Builtin.zeroCells (Value.pointer none).cells (grownCap w (i + q) c 56 - (i + q))).toList, hrun, hge, grownCap_le_maxLen w (i + q) c 56 (by unfold maxLen; omega), ?_, ?_, ?_, ⟨rfl, rfl, rfl, by simp, fun k hk _ => Below.heap_alloc _ _ _ hk⟩, by simp⟩
  · rw [Array.toArray_toList]
    exact heap_alloc_new w.drew _
  · simp only [Array.length_toList, Array.size_append, zeros9_size, List.size_toArray, hx]
    omega
  · simp only [Array.toList_append]
    rw [List.append_assoc, List.take_append_of_le_length (by omega)]
    exact List.take_of_length_le (by omega)

set_option maxRecDepth 100000 in
set_option maxHeartbeats 2000000 in
theorem replace9_grow (B b k c i m : Nat) (A : Option Addr) (vc : Nat) (xs ys : List Value) (w : World) (h : Repl9 w B b (k + 1) c i m A vc xs ys) (hin : i < k) (hbig : c < k + m) :
    Calls Try.prog 94 #[.slice (some ⟨b, 0, none⟩) (k + 1) c, .int .i64 i, .int .i64 ((i : Int) + 1), .slice A m vc] w (ReplPost9 w B b (xs.take i ++ ys ++ xs.drop (i + 1))) := by
  have HH := Lib.hid h
  have hn := h.few
  have hm := h.few'
  have hvc := h.le
  have hvc' := h.le'
  have hxl : xs.length = k + 1 := by have := h.own.1; omega
  obtain ⟨cur, hrow, hnc, hcm, hcz, hct⟩ := h.row
  have HROW := Lib.hid hrow
  have HCT := Lib.hid hct
  have HCZ := Lib.hid hcz
  have HXL := Lib.hid hxl
  have HXONE := Lib.hid (h.xone)
  have HYL := Lib.hid h.len
  have hgB : B ≤ b := (h.own.lt b rfl).1
  obtain ⟨vb, rfl, hvb, hnew, tB, kB, hsh, hkB⟩ := h.from' (by omega)
  have HVL : Hid (vb < w.heap.size) := by
    obtain ⟨y, hy⟩ : ∃ y, ys[0]? = some y := ⟨_, List.getElem?_eq_getElem (by rw [h.len]; omega)⟩
    exact World.block_lt_of_cell? _ _ (hnew 0 y hy)
  have HNEW := Lib.hid hnew
  have HSH := Lib.hid hsh
  have HYONE := Lib.hid h.one
  have HCL : Hid (∀ j u, (xs.drop (i + 1))[j]? = some u → cur.toList[i + 1 + j]? = some u) := fun j u hj => by
    rw [List.getElem?_drop, ← HCT.out] at hj
    have h1 := (List.getElem?_eq_some_iff.1 hj).1
    rw [List.getElem?_take_of_lt (by rw [List.length_take] at h1; omega)] at hj
    exact hj
  have HDL : Hid ((xs.drop (i + 1)).length = k - i) := by show _ = _; rw [List.length_drop, HXL.out]; omega
  have HONE : Hid (∀ v ∈ xs.drop (i + 1), v.oneCell' = true) := fun v hv => HXONE.out v (List.mem_of_mem_drop hv)
  have HCL2 : Hid (cur.toList.length = c) := by show _ = _; rw [Array.length_toList]; exact HCZ.out
  obtain ⟨Z, HZ⟩ : ∃ Z, Hid (Z = xs.take i ++ ys ++ xs.drop (i + 1)) := ⟨_, rfl⟩
  have HZL : Hid (Z.length = k + m) := by show _ = _; rw [HZ.out, List.length_append, List.length_append, List.length_take, HDL.out, HXL.out, HYL.out]; omega
  rw [← HZ.out]
  have HSRC : Hid (∀ (W : World), W.heap[b]? = w.heap[b]? → ∀ j u, (xs.drop (i + 1))[j]? = some u → W.cell? ((⟨b, i + 1, none⟩ : Addr).add j) = some u) := fun W hW j u hj => by
    have h1 := HCL.out j u hj
    rw [WideShapes.add_plain]
    show W.cell? ⟨b, i + 1 + j, none⟩ = some u
    have hr : Row W b 56 cur := hW.trans HROW.out
    rw [hr.cell]
    simpa using h1
  have HOLD : Hid (∀ j u, (xs.take i)[j]? = some u → w.cell? ((⟨b, 0, none⟩ : Addr).add j) = some u) := own_news9 (own_prefix9 h.own (Nat.le_of_lt h.lt))
  have HOL : Hid ((xs.take i).length = i * 1) := by show _ = _; rw [List.length_take, HXL.out]; omega
  have HBW := h.base
  have HBL := (h.own.lt b rfl).2
  obtain ⟨q, hq⟩ : ∃ q : Nat, i + q = k + m := ⟨k + m - i, by omega⟩
  have hqs : (k : Int) + (m : Int) - (i : Int) = (q : Int) := by omega
  have hq0 : 0 < q := by omega
  have hqm : m + (k - i) = q := by omega
  have HBLT := Lib.hid HBL
  clear h hrow hct hcz hxl hnew hsh HCL
  unfold maxLen at hcm
  generalize xs.drop (i + 1) = D at *
  have hci : ¬ (c = i) := by omega
  have hci1 : ¬ (c = i + 1) := by omega
  have hi0 : (0 : Int) ≤ (i : Int) := Int.natCast_nonneg _
  have hi1 : (i : Int) ≤ (i : Int) + 1 := by omega
  have hi2 : (i : Int) + 1 ≤ (c : Int) := by omega
  have hi3 : (i : Int) ≤ (c : Int) := by omega
  have hi4 : (i : Int) + 1 ≤ (k : Int) + 1 := by omega
  have hi5 : (0 : Int) ≤ (i : Int) + 1 := by omega
  have hi6 : (i : Int) ≤ (k : Int) + (m : Int) := by omega
  have hi7 : (0 : Int) ≤ (i : Int) + (m : Int) := by omega
  have hi8 : (i : Int) + (m : Int) ≤ (k : Int) + (m : Int) := by omega
  have hk0 : (0 : Int) ≤ (k : Int) + (m : Int) := by omega
  have hk2 : (c : Int) < (k : Int) + (m : Int) := by omega
  have he : ((i : Int) == (i : Int) + 1) = false := by rw [beq_eq_false_iff_ne]; omega
  have hl : ((i : Int) + 1 == (k : Int) + 1) = false := by rw [beq_eq_false_iff_ne]; omega
  have hl2 : ((i : Int) + 1 == ((k + 1 : Nat) : Int)) = false := by rw [beq_eq_false_iff_ne]; omega
  have ht : (i : Int) + (m : Int) + ((k - i : Nat) : Int) = (k : Int) + (m : Int) := by omega
  have hwi : IntKind.i64.wrap ((i : Int) + (m : Int)) = (i : Int) + (m : Int) := IntWalk.i64_in _ (by omega)
  have htn : ((k : Int) + (m : Int)).toNat = k + m := by omega
  have htn2 : ((i : Int) + (m : Int)).toNat = i + m := by omega
  have hkm : k + m - (i + m) = k - i := by omega
  go_enter Try.func94, Try.ntmps94
  go_wp2_with fail
  go_quiet (fail)
  have ho1 : Only w (w.drewN nq) (fun k => some k = some b) := ⟨rfl, rfl, rfl, Nat.le_refl _, fun _ _ _ => rfl⟩
  have hv1 : ∀ j u, ys[j]? = some u → (w.drewN nq).cell? ((⟨vb, 0, none⟩ : Addr).add j) = some u := HNEW.out
  have hold1 : ∀ j u, (xs.take i)[j]? = some u → (w.drewN nq).drew.cell? ((⟨b, 0, none⟩ : Addr).add j) = some u := HOLD.out
  have hb1 : (w.drewN nq).heap[b]? = w.heap[b]? := rfl
  have hz1 : (w.drewN nq).heap.size = w.heap.size := rfl
  have HO1 := Lib.hid ho1
  have HV1 := Lib.hid hv1
  have HOLD1 := Lib.hid hold1
  have HB1 := Lib.hid hb1
  have HZ1 := Lib.hid hz1
  clear ho1 hv1 HNEW HOLD hold1 hb1 hz1
  generalize w.drewN nq = w1 at *
  obtain ⟨G, w2, R0, hrun, hG1, hG2, hr2, hRl, hRt, ho2, hz2⟩ := run_grow9 w1 b i c q (xs.take i) HOLD1.out HOL.out hq0 (by omega) (by omega)
  have hgB1 : B ≤ w1.heap.size := by rw [HZ1.out]; exact HBW
  have hgb : b ≠ w1.heap.size := by rw [HZ1.out]; omega
  have hgv : vb ≠ w1.heap.size := by rw [HZ1.out]; exact Nat.ne_of_lt HVL.out
  have HV2 : Hid (∀ j u, ys[j]? = some u → w2.cell? ((⟨vb, 0, none⟩ : Addr).add j) = some u) := fun j u hj => by
    have h1 := HV1.out j u hj
    rw [WideShapes.add_plain] at h1 ⊢
    have h2 : w2.heap[vb]? = w1.heap[vb]? := ho2.block vb (by rw [HZ1.out]; exact HVL.out) (fun h => h)
    simp only [World.cell?, h2]
    exact h1
  have HB2 : Hid (w2.heap[b]? = w.heap[b]?) := (ho2.block b (by rw [HZ1.out]; exact HBL) (fun h => h)).trans HB1.out
  have HO2 : Hid (Only w w2 (fun k => some k = some b)) := only_trans9 HO1.out ⟨ho2.os, ho2.tape, ho2.output, ho2.size, fun k hk _ => ho2.block k hk (fun h => h)⟩
  have hzz : w.heap.size ≤ w1.heap.size := by rw [HZ1.out]; exact Nat.le_refl _
  have HZZ := Lib.hid hzz
  have HZW := Lib.hid hz2
  rw [hq] at hrun hG1
  have HRUN := Lib.hid hrun
  have HR2 := Lib.hid hr2
  have HRL := Lib.hid hRl
  have HRT := Lib.hid hRt
  clear hrun ho2 hr2 hRl hRt HV1 HB1 HO1 HOLD1 hzz hz2 HBW HBL HVL
  generalize hg : w1.heap.size = g at *
  clear hg HZ1
  have hGi : ¬ (G = i) := by omega
  have hGim : ¬ (G = i + m) := by omega
  have hG0 : (i : Int) ≤ (G : Int) := by omega
  have hG3 : (i : Int) + (m : Int) ≤ (G : Int) := by omega
  unfold maxLen at hG2
  go_wp2_with (at_builtin; go_loud (refine Lib.wpList_append_run _ rfl _ _ _ _ rfl _ _ rfl rfl _ _ HRUN.out ?_))
  obtain ⟨w3, hcp, hr3, ho3⟩ := run_copy9 w2 3 g i (k + m - i) (G - i) ⟨vb, 0, none⟩ m vc R0 ys HR2.out (by rw [HYL.out]; show m = min m (k + m - i); omega) HV2.out (by rw [HRL.out, HYL.out]; omega) HYONE.out
  rw [hcp]
  have HR3 := Lib.hid hr3
  have HB3 : Hid (w3.heap[b]? = w.heap[b]?) := (ho3.block b (by have := HO2.out.size; have := HBLT.out; omega) hgb).trans HB2.out
  have HO3 : Hid (Only w w3 (fun k => some k = some b)) := ⟨ho3.os.trans HO2.out.os, ho3.tape.trans HO2.out.tape, ho3.output.trans HO2.out.output, Nat.le_trans HO2.out.size ho3.size, fun x hx hm => (ho3.block x (by have := HO2.out.size; omega) (by have := HZZ.out; omega)).trans (HO2.out.block x hx hm)⟩
  have HL3 : Hid ((splice R0 i ys).length = G) := by show _ = _; rw [length_splice _ _ _ (by rw [HRL.out, HYL.out]; omega)]; exact HRL.out
  have HT4 : Hid ((splice (splice R0 i ys) (i + m) D).take (k + m) = Z) := by
    have h1 := splice9_two R0 ys D i (by rw [HRL.out, HDL.out, HYL.out]; omega)
    rw [HDL.out, HYL.out, show i + m + (k - i) = k + m by omega, HRT.out] at h1
    exact h1.trans HZ.out.symm
  have HL4 : Hid ((splice (splice R0 i ys) (i + m) D).length = G) := by show _ = _; rw [length_splice _ _ _ (by rw [HL3.out, HDL.out]; omega)]; exact HL3.out
  clear hcp hr3 ho3 HR2 HO2 HB2 HV2 HRUN HZ
  generalize splice R0 i ys = R1 at *
  go_wp2_with fail
  refine wp_region_held_drew (S := (fun W => Only w W (fun k => some k = some b))) (by kernel_rfl) ?_ (fun hHeld => ?_)
  · exact only_drew9 HO3.out
  refine take_at (i := 0) (d := 73) (v := .slice (some ⟨g, 0, none⟩) (k + m) G) rfl rfl (by kernel_rfl) (by kernel_rfl) (by kernel_rfl) (fun _ _ _ h => h) (by kernel_rfl) (by (intro w hSw; (try dsimp only at hSw); go_simp)) (by assumption) ?_
  simp only [List.setIfInBounds_toArray, List.set_cons_succ, List.set_cons_zero]
  refine take_at (i := 1) (d := 74) (v := .int .i64 i) rfl rfl (by kernel_rfl) (by kernel_rfl) (by kernel_rfl) (fun _ _ _ h => h) (by kernel_rfl) (by (intro w hSw; (try dsimp only at hSw); go_simp)) (by assumption) ?_
  simp only [List.setIfInBounds_toArray, List.set_cons_succ, List.set_cons_zero]
  refine take_at (i := 2) (d := 75) (v := .slice (some ⟨vb, 0, none⟩) m vc) rfl rfl (by kernel_rfl) (by kernel_rfl) (by kernel_rfl) (fun _ _ _ h => h) (by kernel_rfl) (by (intro w hSw; (try dsimp only at hSw); go_simp)) (by assumption) ?_
  simp only [List.setIfInBounds_toArray, List.set_cons_succ, List.set_cons_zero]
  refine take_at (i := 3) (d := 76) (v := .int .i64 m) rfl rfl (by kernel_rfl) (by kernel_rfl) (by kernel_rfl) (fun _ _ _ h => h) (by kernel_rfl) (by (intro w hSw; (try dsimp only at hSw); go_simp)) (by assumption) ?_
  simp only [List.setIfInBounds_toArray, List.set_cons_succ, List.set_cons_zero]
  refine take_at (i := 4) (d := 77) (v := .int .i64 ((i : Int) + (m : Int))) rfl rfl (by kernel_rfl) (by kernel_rfl) (by kernel_rfl) (fun _ _ _ h => h) (by kernel_rfl) (by (intro w hSw; (try dsimp only at hSw); go_simp)) (by assumption) ?_
  simp only [List.setIfInBounds_toArray, List.set_cons_succ, List.set_cons_zero]
  refine take_at (i := 5) (d := 78) (v := .slice (some ⟨g, i + m, none⟩) (k - i) (G - (i + m))) rfl rfl (by kernel_rfl) (by kernel_rfl) (by kernel_rfl) (fun _ _ _ h => h) (by kernel_rfl) (by (intro w hSw; (try dsimp only at hSw); go_simp)) (by assumption) ?_
  simp only [List.setIfInBounds_toArray, List.set_cons_succ, List.set_cons_zero]
  refine take_at (i := 6) (d := 79) (v := .slice (some ⟨b, 0, none⟩) (k + 1) c) rfl rfl (by kernel_rfl) (by kernel_rfl) (by kernel_rfl) (fun _ _ _ h => h) (by kernel_rfl) (by (intro w hSw; (try dsimp only at hSw); go_simp)) (by assumption) ?_
  simp only [List.setIfInBounds_toArray, List.set_cons_succ, List.set_cons_zero]
  refine take_at (i := 7) (d := 80) (v := .int .i64 ((i : Int) + 1)) rfl rfl (by kernel_rfl) (by kernel_rfl) (by kernel_rfl) (fun _ _ _ h => h) (by kernel_rfl) (by (intro w hSw; (try dsimp only at hSw); go_simp)) (by assumption) ?_
  simp only [List.setIfInBounds_toArray, List.set_cons_succ, List.set_cons_zero]
  refine take_at (i := 8) (d := 81) (v := .slice (some ⟨b, i + 1, none⟩) (k - i) (c - (i + 1))) rfl rfl (by kernel_rfl) (by kernel_rfl) (by kernel_rfl) (fun _ _ _ h => h) (by kernel_rfl) (by (intro w hSw; (try dsimp only at hSw); go_simp)) (by assumption) ?_
  simp only [List.setIfInBounds_toArray, List.set_cons_succ, List.set_cons_zero]
  refine wpAnyH_ready (rs := [9]) (by kernel_rfl) (by simp) ?_
  refine AllReadyH.cons rfl (fun K hK => ?_) AllReadyH.nil
  refine step_copy_only (w := w3.drew) rfl (.tmp 78) (.tmp 81) 54 54 rfl 56 Try.underlying54 size_ptr9 (some ⟨g, i + m, none⟩) (some ⟨b, i + 1, none⟩) (k - i) (G - (i + m)) (k - i) (c - (i + 1)) rfl rfl g (i + m) R1 56 HR3.out D (by rw [HDL.out]; exact (Nat.min_self _).symm) (fun _ => ⟨rfl, _, rfl, HSRC.out w3.drew HB3.out⟩) (by rw [HDL.out, HL3.out]; omega) HONE.out ?_
  intro w4 HR4 HO4
  have HO5 : Hid (Only w w4 (fun k => some k = some b)) := ⟨HO4.out.os.trans HO3.out.os, HO4.out.tape.trans HO3.out.tape, HO4.out.output.trans HO3.out.output, Nat.le_trans HO3.out.size HO4.out.size, fun x hx hm => (HO4.out.block x (by have h1 : w.heap.size ≤ w3.heap.size := HO3.out.size; exact Nat.lt_of_lt_of_le hx h1) (by have := HZZ.out; omega)).trans (HO3.out.block x hx hm)⟩
  refine hK.out _ _ HO5.out (fun hHeld => ?_)
  clear hK K hHeld HO4 HO3 HR3 HB3 HSRC
  refine wpAnyH_done (by kernel_rfl) ?_ _
  generalize splice R1 (i + m) D = R2 at *
  have hown : w4.ownsRow B 56 1 (.slice (some ⟨g, 0, none⟩) (k + m) G) (k + m) Z := own_row9 HR4.out hgB1 HL4.out (by unfold maxLen; omega) (by omega) HT4.out HZL.out
  have HEND : Hid (ReplPost9 w B b Z (.returned (.slice (some ⟨g, 0, none⟩) (k + m) G)) w4) := ⟨_, rfl, by rw [HZL.out]; exact hown, HO5.out, .inr ⟨g, rfl, HZZ.out⟩⟩
  clear hown
  go_wp2
  go_ret
  exact HEND.out

end Go.Proofs.Ytadichddgpojpaa
/- Chapter 9, plain: what is built is a tree; where its segments end, and its sums. -/
namespace Go.Proofs.Ytadichddgpojpaa

/-- From one to the next in a row: each next one's parent is the one ahead of it or above that. -/
def Nxt9 (ps : Nat → Int) (x y : Nat) : Prop := ∃ p : Nat, ps y = (p : Int) ∧ Anc9 ps p x
def link9 (R : Nat → Nat → Prop) : Nat → List Nat → Prop
  | _, [] => True
  | x, y :: L => R x y ∧ link9 R y L
def last9 : Nat → List Nat → Nat
  | x, [] => x
  | _, y :: L => last9 y L
theorem link9_append {R : Nat → Nat → Prop} : ∀ (A B : List Nat) (x : Nat), link9 R x A → link9 R (last9 x A) B → link9 R x (A ++ B)
  | [], _, _, _, h => h
  | _ :: A, B, _, h1, h2 => ⟨h1.1, link9_append A B _ h1.2 h2⟩
theorem last9_append : ∀ (A B : List Nat) (x : Nat), last9 x (A ++ B) = last9 (last9 x A) B
  | [], _, _ => rfl
  | _ :: A, B, _ => last9_append A B _
theorem link9_get {R : Nat → Nat → Prop} : ∀ (L : List Nat) (x k : Nat) (a b : Nat), link9 R x L → (x :: L)[k]? = some a → (x :: L)[k + 1]? = some b → R a b
  | [], x, k, a, b, _, _, h => by simp at h
  | y :: L, x, 0, a, b, h, h1, h2 => by
    simp at h1 h2
    subst h1 h2
    exact h.1
  | y :: L, x, k + 1, a, b, h, h1, h2 => link9_get L y k a b h.2 (by simpa using h1) (by simpa using h2)
theorem sub9_link {ps : Nat → Int} {n : Nat} (hf : Fall9 ps n) : ∀ (f i : Nat), n ≤ f + i → i < n →
    ∃ L, sub9 ps n i = i :: L ∧ link9 (Nxt9 ps) i L ∧ Anc9 ps i (last9 i L)
  | 0, i, h, hi => by omega
  | f + 1, i, h, hi => by
    refine ⟨_, sub9_eq hf hi, ?_⟩
    have key : ∀ (ks : List Nat), (∀ k ∈ ks, k < n ∧ ps k = (i : Int)) → ∀ x, Anc9 ps i x → link9 (Nxt9 ps) x ((ks.map (sub9 ps n)).flatten) ∧ Anc9 ps i (last9 x ((ks.map (sub9 ps n)).flatten)) := by
      intro ks
      induction ks with
      | nil => exact fun _ x hx => ⟨trivial, hx⟩
      | cons k ks ih =>
        intro hks x hx
        obtain ⟨hkn, hkp⟩ := hks k List.mem_cons_self
        have hlt := hf k hkn
        obtain ⟨L, e, h1, h2⟩ := sub9_link hf f k (by omega) hkn
        have h3 : Anc9 ps i (last9 k L) := (Anc9.step hkp .refl).trans h2
        obtain ⟨h4, h5⟩ := ih (fun k' hk' => hks k' (List.mem_cons_of_mem _ hk')) _ h3
        simp only [List.map_cons, List.flatten_cons]
        rw [e]
        refine ⟨link9_append (k :: L) _ x ⟨⟨i, hkp, hx⟩, h1⟩ h4, ?_⟩
        rw [last9_append]
        exact h5
    exact key _ (fun k hk => mem_kids9.1 hk) i .refl

/-- What is built is a tree. -/
theorem nxt9_at {ps : Nat → Int} {n r : Nat} (hf : Fall9 ps n) (hr : r < n) {k a b : Nat} (ha : (sub9 ps n r)[k]? = some a) (hb : (sub9 ps n r)[k + 1]? = some b) : Nxt9 ps a b := by
  obtain ⟨L, e, h1, _⟩ := sub9_link hf n r (by omega) hr
  rw [e] at ha hb
  exact link9_get L r k a b h1 ha hb

theorem idxOf9_get {W : List Nat} (hn : W.Nodup) {k a : Nat} (h : W[k]? = some a) : W.idxOf a = k := by
  have hk := (List.getElem?_eq_some_iff.1 h).1
  have e : W = W.take k ++ a :: W.drop (k + 1) := by
    have h2 := (List.getElem?_eq_some_iff.1 h).2
    rw [← h2, ← List.drop_eq_getElem_cons hk, List.take_append_drop]
  have hn' := hn
  rw [e] at hn'
  have := idxOf_mid9 hn'
  rw [← e, List.length_take] at this
  omega
theorem get9_idxOf {W : List Nat} {a : Nat} (h : a ∈ W) : W[W.idxOf a]? = some a := by
  have := List.idxOf_lt_length_of_mem h
  rw [List.getElem?_eq_getElem this, List.getElem_idxOf]

/-- The row of a tree that is built, and its parents in the row. -/
structure Cut9 (l' : List Seg) (nm : Nat → ByteArray) (sz ps : Nat → Int) (n r : Nat) (W : List Nat) : Prop where
  len : l'.length = W.length
  nodup : W.Nodup
  get : ∀ k a, W[k]? = some a → l'[k]? = some (⟨nm a, sz a, parAt l' k⟩ : Seg)
  root : W[0]? = some r
  mem : ∀ a, a ∈ W ↔ a < n ∧ Anc9 ps r a
  rootP : parAt l' 0 = -1
  up : ∀ k a, W[k]? = some a → a ≠ r → ∃ p m : Nat, ps a = (p : Int) ∧ W[m]? = some p ∧ parAt l' k = (m : Int) ∧ m < k
  next : ∀ k a b, W[k]? = some a → W[k + 1]? = some b → Nxt9 ps a b

theorem nodup9_at {W : List Nat} (h : W.Nodup) {i j a : Nat} (hi : W[i]? = some a) (hj : W[j]? = some a) : i = j := by
  rw [← idxOf9_get h hi, ← idxOf9_get h hj]

/-- A row of nodes in the order of a tree: the parent of each stands ahead of it. -/
theorem ahead9 {ps : Nat → Int} {n r : Nat} (hf : Fall9 ps n) (hr : r < n) : ∀ k a, (sub9 ps n r)[k]? = some a → ∀ b, Anc9 ps r b → Anc9 ps b a → ∃ m : Nat, (sub9 ps n r)[m]? = some b ∧ m ≤ k
  | 0, a, ha, b, hrb, hba => by
    rw [sub9_eq hf hr] at ha
    simp at ha
    subst ha
    have h1 := hba.le hf hr
    have h2 := hrb.le hf (by omega)
    have : r = b := by omega
    subst this
    exact ⟨0, by rw [sub9_eq hf hr]; rfl, Nat.le_refl _⟩
  | k + 1, a, ha, b, hrb, hba => by
    have hk := (List.getElem?_eq_some_iff.1 ha).1
    obtain ⟨x, hx⟩ : ∃ x, (sub9 ps n r)[k]? = some x := ⟨_, List.getElem?_eq_getElem (by omega)⟩
    obtain ⟨p, hp, hpx⟩ := nxt9_at hf hr hx ha
    cases hba with
    | refl => exact ⟨k + 1, ha, Nat.le_refl _⟩
    | @step _ q hq hbq =>
      have : q = p := by omega
      subst this
      obtain ⟨m, h1, h2⟩ := ahead9 hf hr k x hx b hrb (hbq.trans hpx)
      exact ⟨m, h1, by omega⟩

theorem made9_cut {l : List Seg} {sz ps : Nat → Int} {r : Nat} (hf : Fall9 ps l.length) (hr : r < l.length) :
    Cut9 (made9 l sz ps r) (nmAt9 l) sz ps l.length r (sub9 ps l.length r) := by
  have hnd := sub9_nodup hf l.length r (by omega) hr
  have hpp : (fun j => if j = r then (-1 : Int) else ps j) r < (r : Int) := by simp; omega
  have e := made9_eq (sz := sz) (pp := fun j => if j = r then (-1 : Int) else ps j) hf hr (fun j _ hj => if_neg hj) hpp
  have hget : ∀ k a, (sub9 ps l.length r)[k]? = some a → (made9 l sz ps r)[k]? = some (cut9 (nmAt9 l) sz (fun j => if j = r then (-1 : Int) else ps j) (sub9 ps l.length r) a) := fun k a h => by
    rw [e]; unfold cuts9; rw [List.getElem?_map, h]; rfl
  have hr0 : (sub9 ps l.length r)[0]? = some r := by rw [sub9_eq hf hr]; rfl
  have hpar : ∀ k a, (sub9 ps l.length r)[k]? = some a → parAt (made9 l sz ps r) k = (cut9 (nmAt9 l) sz (fun j => if j = r then (-1 : Int) else ps j) (sub9 ps l.length r) a).par := fun k a h => parAt_of (hget k a h)
  refine ⟨by rw [e, cuts9_len], hnd, fun k a h => ?_, hr0, fun a => in_sub9 hf hr, ?_, fun k a h ha => ?_, fun k a b ha hb => nxt9_at hf hr ha hb⟩
  · rw [hget k a h, hpar k a h]
    rfl
  · rw [hpar 0 r hr0]
    unfold cut9
    simp
  · have hk := (List.getElem?_eq_some_iff.1 h).1
    obtain ⟨han, haa⟩ := (in_sub9 hf hr).1 (List.mem_of_getElem? h)
    cases haa with
    | refl => exact absurd rfl ha
    | @step _ p hp hrp =>
      have hpa := hf a han
      have hpm : p ∈ sub9 ps l.length r := (in_sub9 hf hr).2 ⟨by omega, hrp⟩
      obtain ⟨m, hm, hmk⟩ := ahead9 hf hr k a h p hrp (.step hp .refl)
      have hmk' : m ≠ k := by
        rintro rfl
        rw [h] at hm
        injection hm with hm
        omega
      refine ⟨p, m, hp, hm, ?_, by omega⟩
      rw [hpar k a h]
      unfold cut9
      simp only [if_neg ha, hp]
      rw [if_neg (by omega), Int.toNat_natCast, if_pos hpm, idxOf9_get hnd hm]

/-- From a chain of nodes to a chain in the row. -/
theorem Cut9.anc {l' : List Seg} {nm : Nat → ByteArray} {sz ps : Nat → Int} {n r : Nat} {W : List Nat} (h : Cut9 l' nm sz ps n r W) {p m : Nat} (hp : W[m]? = some p) (hrp : Anc9 ps r p) (hf : Fall9 ps n) :
    ∀ (q k a : Nat), a ≤ q → W[k]? = some a → Anc9 ps p a → Anc9 (parAt l') m k := by
  intro q
  induction q with
  | zero =>
    intro k a hq hk ha
    have han := ((h.mem a).1 (List.mem_of_getElem? hk)).1
    have hle := ha.le hf han
    have : a = p := by omega
    subst this
    rw [nodup9_at h.nodup hp hk]
    exact .refl
  | succ q ih =>
    intro k a hq hk ha
    have han := ((h.mem a).1 (List.mem_of_getElem? hk)).1
    cases ha with
    | refl =>
      rw [nodup9_at h.nodup hp hk]
      exact .refl
    | @step _ x hx hpx =>
      have hxa := hf a han
      have har : a ≠ r := by
        rintro rfl
        have h1 := hrp.le hf (by have := hpx.le hf (by omega); omega)
        have h2 := hpx.le hf (by omega)
        omega
      obtain ⟨p', m', h1, h2, h3, h4⟩ := h.up k a hk har
      have : p' = x := by omega
      subst this
      exact .step h3 (ih m' p' (by omega) h2 hpx)

theorem chain_of_anc9 {l : List Seg} {n : Nat} (hd : Down l n) {m : Nat} : ∀ (f k : Nat), k < f → k < n → Anc9 (parAt l) m k → (m : Int) ∈ chain l f (k : Int)
  | 0, k, h, _, _ => by omega
  | f + 1, k, hkf, hkn, ha => by
    unfold chain
    rw [if_neg (by omega)]
    cases ha with
    | refl => exact List.mem_cons_self
    | @step _ x hx hmx =>
      have := hd k hkn
      refine List.mem_cons_of_mem _ ?_
      rw [Int.toNat_natCast, hx]
      exact chain_of_anc9 hd f x (by omega) (by omega) hmx

theorem taken9 {l : List Seg} (hv : validB l = true) {i j : Nat} (hi : i < l.length) (hj : j < l.length) (hne : i ≠ j) : sameB (nmAt9 l i) (nmAt9 l j) = false := by
  have key : ∀ i j, i < j → j < l.length → sameB (nmAt9 l i) (nmAt9 l j) = false := by
    intro i j hij hj
    have hs := (valid_all hv).1 j hj
    unfold segOk at hs
    rw [List.getElem?_eq_getElem hj] at hs
    simp only [Bool.and_eq_true] at hs
    have ht := hs.1.1.2
    rw [nmAt9_of hj, nmAt9_of (by omega)]
    cases hb : sameB l[i].name l[j].name with
    | false => rfl
    | true =>
      have : takenB (l.take j) l[j].name = true := by
        unfold takenB
        refine List.any_eq_true.2 ⟨l[i], ?_, hb⟩
        rw [List.mem_take_iff_getElem]
        exact ⟨i, by omega, rfl⟩
      rw [this] at ht
      cases ht
  rcases Nat.lt_or_ge i j with h | h
  · exact key i j h hj
  · have := key j i (by omega) hi
    cases hb : sameB (nmAt9 l i) (nmAt9 l j) with
    | false => rfl
    | true =>
      have h1 := sameB_iff.1 hb
      rw [sameB_iff.2 h1.symm] at this
      cases this
theorem seg9_ok {l : List Seg} (hv : validB l = true) {i : Nat} (hi : i < l.length) : nameOk (nmAt9 l i) = true ∧ sizeOk (sizeAt l i) = true := by
  have hs := (valid_all hv).1 i hi
  unfold segOk at hs
  rw [List.getElem?_eq_getElem hi] at hs
  simp only [Bool.and_eq_true] at hs
  rw [nmAt9_of hi, sizeAt_of hi]
  exact ⟨hs.1.1.1, hs.1.2⟩

/-- A tree that is built is valid. -/
theorem Cut9.valid {l l' : List Seg} {sz ps : Nat → Int} {r : Nat} {W : List Nat} (h : Cut9 l' (nmAt9 l) sz ps l.length r W) (hv : validB l = true) (hf : Fall9 ps l.length) (hr : r < l.length)
    (hz : ∀ a, a ∈ W → sizeOk (sz a) = true) : validB l' = true := by
  have hlen : W.length ≤ l.length := nodup9_len h.nodup fun x hx => ((h.mem x).1 hx).1
  have hW : ∀ k, k < W.length → ∃ a, W[k]? = some a ∧ a < l.length := fun k hk => ⟨W[k], List.getElem?_eq_getElem hk, ((h.mem _).1 (List.getElem_mem hk)).1⟩
  have hdown : Down l' l'.length := fun k hk => by
    rw [h.len] at hk
    obtain ⟨a, ha, _⟩ := hW k hk
    by_cases har : a = r
    · subst har
      have : k = 0 := nodup9_at h.nodup ha h.root
      subst this
      rw [h.rootP]
      omega
    · obtain ⟨p, m, h1, h2, h3, h4⟩ := h.up k a ha har
      rw [h3]
      omega
  have h0 : 0 < W.length := (List.getElem?_eq_some_iff.1 h.root).1
  have hall : AllOk l' l'.length := fun k hk => by
    have hk' := hk
    rw [h.len] at hk'
    obtain ⟨a, ha, han⟩ := hW k hk'
    unfold segOk
    rw [h.get k a ha]
    dsimp only
    simp only [Bool.and_eq_true]
    obtain ⟨s1, s2⟩ := seg9_ok hv han
    refine ⟨⟨⟨s1, ?_⟩, hz a (List.mem_of_getElem? ha)⟩, ?_⟩
    · rw [Bool.not_eq_true']
      cases ht : takenB (l'.take k) (nmAt9 l a) with
      | false => rfl
      | true =>
        exfalso
        unfold takenB at ht
        obtain ⟨s, hs, he⟩ := List.any_eq_true.1 ht
        obtain ⟨i, hi, hse⟩ := List.mem_take_iff_getElem.1 hs
        obtain ⟨b, hb, hbn⟩ := hW i (by omega)
        have h5 := h.get i b hb
        rw [List.getElem?_eq_getElem (by omega), hse] at h5
        injection h5 with h5
        rw [h5] at he
        have hne : b ≠ a := by
          rintro rfl
          have := nodup9_at h.nodup hb ha
          omega
        have := taken9 hv hbn han hne
        rw [this] at he
        cases he
    · unfold parOk
      by_cases hk0 : k = 0
      · rw [if_pos hk0]
        subst hk0
        rw [h.rootP]
        rfl
      · rw [if_neg hk0]
        obtain ⟨j, rfl⟩ : ∃ j, k = j + 1 := ⟨k - 1, by omega⟩
        obtain ⟨x, hx, hxn⟩ := hW j (by omega)
        obtain ⟨p, hp, hpx⟩ := h.next j x a hx ha
        have har : a ≠ r := by
          rintro rfl
          have := nodup9_at h.nodup ha h.root
          omega
        obtain ⟨p', m, h1, h2, h3, h4⟩ := h.up (j + 1) a ha har
        have : p' = p := by omega
        subst this
        have hrp : Anc9 ps r p' := ((h.mem p').1 (List.mem_of_getElem? h2)).2
        have h6 := h.anc h2 hrp hf x j x (Nat.le_refl _) hx hpx
        refine List.contains_iff_mem.2 ?_
        rw [h3, show ((j + 1 : Nat) : Int) - 1 = (j : Int) by omega]
        exact chain_of_anc9 hdown (j + 1) j (by omega) (by omega) h6
  rw [validB_all hall, h.len, decide_eq_true (by omega : 1 ≤ W.length), decide_eq_true (by have := (valid_all hv).2.1; omega : W.length ≤ 8)]
  rfl
theorem Cut9.down {l' : List Seg} {nm : Nat → ByteArray} {sz ps : Nat → Int} {n r : Nat} {W : List Nat} (h : Cut9 l' nm sz ps n r W) : Down l' l'.length := fun k hk => by
  rw [h.len] at hk
  have ha : W[k]? = some W[k] := List.getElem?_eq_getElem hk
  generalize W[k] = a at ha
  by_cases har : a = r
  · subst har
    have : k = 0 := nodup9_at h.nodup ha h.root
    subst this
    rw [h.rootP]
    omega
  · obtain ⟨p, m, h1, h2, h3, h4⟩ := h.up k a ha har
    rw [h3]
    omega
theorem Cut9.size {l' : List Seg} {nm : Nat → ByteArray} {sz ps : Nat → Int} {n r : Nat} {W : List Nat} (h : Cut9 l' nm sz ps n r W) {k a : Nat} (ha : W[k]? = some a) : sizeAt l' k = sz a := by
  have hk : k < l'.length := by rw [h.len]; exact (List.getElem?_eq_some_iff.1 ha).1
  have h1 := h.get k a ha
  rw [List.getElem?_eq_getElem hk] at h1
  injection h1 with h1
  rw [sizeAt_of hk, h1]
/-- Where the root of what is built ends, and where others do. -/
theorem Cut9.end0 {l' : List Seg} {nm : Nat → ByteArray} {sz ps : Nat → Int} {n r : Nat} {W : List Nat} (h : Cut9 l' nm sz ps n r W) : endAt l' 0 = sz r := by
  rw [endAt_beg, begAt_root (by rw [h.rootP]; omega), h.size h.root]
  omega
theorem Cut9.endS {l' : List Seg} {nm : Nat → ByteArray} {sz ps : Nat → Int} {n r : Nat} {W : List Nat} (h : Cut9 l' nm sz ps n r W) {k a : Nat} (ha : W[k]? = some a) (har : a ≠ r) :
    ∃ p m : Nat, ps a = (p : Int) ∧ W[m]? = some p ∧ m < k ∧ endAt l' k = endAt l' m + sz a := by
  obtain ⟨p, m, h1, h2, h3, h4⟩ := h.up k a ha har
  refine ⟨p, m, h1, h2, h4, ?_⟩
  have hk : k < l'.length := by rw [h.len]; exact (List.getElem?_eq_some_iff.1 ha).1
  rw [endAt_beg, begAt_step h.down hk h3, h.size ha]
theorem endS9 {l : List Seg} (hv : validB l = true) {a : Nat} (ha : a < l.length) (h0 : a ≠ 0) : ∃ p : Nat, parAt l a = (p : Int) ∧ p < a ∧ endAt l a = endAt l p + sizeAt l a := by
  obtain ⟨p, h1, h2, _⟩ := (tree9_of hv).up a (by omega) ha
  refine ⟨p, h1, h2, ?_⟩
  rw [endAt_beg, begAt_step (valid_all hv).1.down ha h1]
theorem end09 {l : List Seg} (hv : validB l = true) : endAt l 0 = sizeAt l 0 := by
  rw [endAt_beg, begAt_root ((tree9_of hv).root)]
  omega

/-- A set of nodes without doubles has the sum that it has in order. -/
theorem sum9_perm {f : Nat → Int} : ∀ {A B : List Nat}, A.Nodup → B.Nodup → (∀ x, x ∈ A ↔ x ∈ B) → (A.map f).sum = (B.map f).sum
  | [], [], _, _, _ => rfl
  | [], b :: B, _, _, h => by have := (h b).2 List.mem_cons_self; simp at this
  | a :: A, B, hA, hB, h => by
    obtain ⟨P, Q, rfl⟩ := List.append_of_mem ((h a).1 List.mem_cons_self)
    obtain ⟨h1, h2⟩ := List.nodup_cons.1 hA
    have h3 := List.nodup_append.1 hB
    obtain ⟨h4, h5⟩ := List.nodup_cons.1 h3.2.1
    have h6 : a ∉ P := fun hm => h3.2.2 a hm a List.mem_cons_self rfl
    have ih := sum9_perm (f := f) (A := A) (B := P ++ Q) h2 (List.nodup_append.2 ⟨h3.1, h5, fun x hx y hy => h3.2.2 x hx y (List.mem_cons_of_mem _ hy)⟩) fun x => by
      have hx := h x
      constructor
      · intro hm
        have hne : x ≠ a := by rintro rfl; exact h1 hm
        have := hx.1 (List.mem_cons_of_mem _ hm)
        rcases List.mem_append.1 this with h7 | h7
        · exact List.mem_append.2 (.inl h7)
        · rcases List.mem_cons.1 h7 with h8 | h8
          · exact absurd h8 hne
          · exact List.mem_append.2 (.inr h8)
      · intro hm
        have hne : x ≠ a := by
          rintro rfl
          rcases List.mem_append.1 hm with h7 | h7
          · exact h6 h7
          · exact h4 h7
        have h7 : x ∈ P ++ a :: Q := by
          rcases List.mem_append.1 hm with h7 | h7
          · exact List.mem_append.2 (.inl h7)
          · exact List.mem_append.2 (.inr (List.mem_cons_of_mem _ h7))
        rcases List.mem_cons.1 (hx.2 h7) with h8 | h8
        · exact absurd h8 hne
        · exact h8
    simp only [List.map_cons, List.sum_cons, List.map_append, List.sum_append] at ih ⊢
    omega
theorem range9_sum {l : List Seg} : ∀ k, k ≤ l.length → ((List.range k).map (sizeAt l)).sum = sumTo l k
  | 0, _ => by simp [sumTo]
  | k + 1, hk => by
    rw [List.range_succ, List.map_append, List.sum_append, range9_sum k (by omega), sumTo_succ (by omega), ← sizeAt_of (show k < l.length by omega)]
    simp
theorem Cut9.sum {l' : List Seg} {nm : Nat → ByteArray} {sz ps : Nat → Int} {n r : Nat} {W : List Nat} (h : Cut9 l' nm sz ps n r W) : sumTo l' l'.length = (W.map sz).sum := by
  rw [← range9_sum l'.length (Nat.le_refl _)]
  congr 1
  apply List.ext_getElem?
  intro k
  by_cases hk : k < W.length
  · rw [List.getElem?_map, List.getElem?_map, List.getElem?_range (by rw [h.len]; exact hk), List.getElem?_eq_getElem hk]
    show some _ = some _
    rw [h.size (List.getElem?_eq_getElem hk)]
  · rw [List.getElem?_eq_none (by rw [List.length_map, List.length_range, h.len]; omega), List.getElem?_eq_none (by rw [List.length_map]; omega)]

theorem roomTo9_le {l : List Seg} {X : Int} : ∀ k, 0 ≤ X → (∀ j, j < k → endAt l j ≤ X) → roomTo l k ≤ X
  | 0, h, _ => h
  | k + 1, h, hk => by
    have h1 := roomTo9_le (l := l) k h fun j hj => hk j (by omega)
    have h2 := hk k (by omega)
    unfold roomTo
    omega

theorem anc9_prune {ps : Nat → Int} {i n : Nat} (hf : Fall9 ps n) (h0 : 0 < i) {a : Nat} (ha : a < n) : Anc9 (pruneP ps i) 0 a ↔ Anc9 ps 0 a ∧ ¬ Anc9 ps i a := by
  have key : ∀ m a, a ≤ m → a < n → Anc9 (pruneP ps i) 0 a → Anc9 ps 0 a ∧ ¬ Anc9 ps i a := by
    intro m
    induction m with
    | zero =>
      intro a h1 h2 h
      have : a = 0 := by omega
      subst this
      refine ⟨.refl, fun h' => ?_⟩
      have := h'.le hf h2
      omega
    | succ m ih =>
      intro a h1 h2 h
      cases h with
      | refl =>
        refine ⟨.refl, fun h' => ?_⟩
        have := h'.le hf h2
        omega
      | @step _ k hk hk' =>
        have hai : a ≠ i := by
          rintro rfl
          unfold pruneP at hk
          rw [if_pos rfl] at hk
          omega
        have hpa : ps a = (k : Int) := by
          unfold pruneP at hk
          rwa [if_neg hai] at hk
        have := hf a h2
        obtain ⟨h3, h4⟩ := ih k (by omega) (by omega) hk'
        refine ⟨.step hpa h3, fun h' => ?_⟩
        cases h' with
        | refl => exact hai rfl
        | @step _ k2 hk2 hk2' =>
          have : k2 = k := by omega
          subst this
          exact h4 hk2'
  refine ⟨key a a (Nat.le_refl _) ha, fun h => ?_⟩
  obtain ⟨h1, h2⟩ := h
  have key2 : ∀ m a, a ≤ m → a < n → Anc9 ps 0 a → ¬ Anc9 ps i a → Anc9 (pruneP ps i) 0 a := by
    intro m
    induction m with
    | zero =>
      intro a h1 _ _ _
      have : a = 0 := by omega
      subst this
      exact .refl
    | succ m ih =>
      intro a h1 h2 h3 h4
      cases h3 with
      | refl => exact .refl
      | @step _ k hk hk' =>
        have hfa := hf a h2
        have hai : a ≠ i := by rintro rfl; exact h4 .refl
        refine .step (k := k) ?_ (ih k (by omega) (by omega) hk' fun h => h4 (.step hk h))
        unfold pruneP
        rwa [if_neg hai]
  exact key2 a a (Nat.le_refl _) ha h1 h2

/-- What is left and what is cut off are all. -/
theorem prune9_sum {l : List Seg} (hv : validB l = true) {i : Nat} (hi : i < l.length) (h0 : 0 < i) {f : Nat → Int} :
    ((sub9 (pruneP (parAt l) i) l.length 0).map f).sum + ((sub9 (parAt l) l.length i).map f).sum = ((List.range l.length).map f).sum ∧
    (sub9 (pruneP (parAt l) i) l.length 0).length + (sub9 (parAt l) l.length i).length = l.length := by
  have ht := tree9_of hv
  have hf := ht.fall
  have hf' : Fall9 (pruneP (parAt l) i) l.length := pruneP_fall hf
  have h1 : 0 < l.length := by omega
  have hA := sub9_nodup hf' l.length 0 (by omega) h1
  have hB := sub9_nodup hf l.length i (by omega) hi
  have hmem : ∀ x, x ∈ sub9 (pruneP (parAt l) i) l.length 0 ++ sub9 (parAt l) l.length i ↔ x ∈ List.range l.length := fun x => by
    rw [List.mem_append, in_sub9 hf' h1, in_sub9 hf hi, List.mem_range]
    constructor
    · rintro (h | h)
      · exact h.1
      · exact h.1
    · intro hx
      by_cases h : Anc9 (parAt l) i x
      · exact .inr ⟨hx, h⟩
      · exact .inl ⟨hx, (anc9_prune hf h0 hx).2 ⟨ht.all x x (Nat.le_refl _) hx, h⟩⟩
  have hnd : (sub9 (pruneP (parAt l) i) l.length 0 ++ sub9 (parAt l) l.length i).Nodup := by
    refine List.nodup_append.2 ⟨hA, hB, fun x hx y hy e => ?_⟩
    subst e
    obtain ⟨hx1, hx2⟩ := (in_sub9 hf' h1).1 hx
    obtain ⟨_, hy2⟩ := (in_sub9 hf hi).1 hy
    exact ((anc9_prune hf h0 hx1).1 hx2).2 hy2
  have hs := fun g : Nat → Int => sum9_perm (f := g) hnd List.nodup_range hmem
  refine ⟨?_, ?_⟩
  · have := hs f
    rw [List.map_append, List.sum_append] at this
    exact this
  · have := hs fun _ => 1
    have hc : ∀ L : List Nat, (L.map fun _ => (1 : Int)).sum = (L.length : Int) := by
      intro L
      induction L with
      | nil => rfl
      | cons a L ih => simp only [List.map_cons, List.sum_cons, ih, List.length_cons]; omega
    rw [hc, hc, List.length_append, List.length_range] at this
    omega

end Go.Proofs.Ytadichddgpojpaa
