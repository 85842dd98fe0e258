/- Joined: Vu Ke. -/
import Derived.Test.YtadichddgpojpaaU24
import Derived.Test.YtadichddgpojpaaU25
import Derived.Test.YtadichddgpojpaaU12
import Derived.Test.YtadichddgpojpaaU01
/- Chapter 9: the reference's MergeIn. -/
namespace Go.Proofs.Ytadichddgpojpaa
open Go.RowKit

theorem nmAt9_set {l : List Seg} {p : Nat} (hp : p < l.length) (z pr : Int) : nmAt9 (l.set p ⟨nmAt9 l p, z, pr⟩) = nmAt9 l := by
  funext k
  unfold nmAt9
  by_cases hk : k = p
  · subst hk
    rw [List.getElem?_set_self hp, List.getElem?_eq_getElem hp]
  · rw [List.getElem?_set_ne (fun e => hk e.symm)]
theorem sizeAt9_set {l : List Seg} {p : Nat} (hp : p < l.length) (nm : ByteArray) (z pr : Int) : sizeAt (l.set p ⟨nm, z, pr⟩) = resizeZ9 (sizeAt l) p z := by
  funext k
  unfold resizeZ9 sizeAt
  by_cases hk : k = p
  · subst hk
    rw [List.getElem?_set_self hp, if_pos rfl]
  · rw [List.getElem?_set_ne (fun e => hk e.symm), if_neg hk]
theorem made9_set {l : List Seg} {p : Nat} (hp : p < l.length) (z pr : Int) (ps : Nat → Int) (r : Nat) : made9 (l.set p ⟨nmAt9 l p, z, pr⟩) (sizeAt (l.set p ⟨nmAt9 l p, z, pr⟩)) ps r = made9 l (resizeZ9 (sizeAt l) p z) ps r := by
  unfold made9
  rw [nmAt9_set hp, sizeAt9_set hp, List.length_set]

set_option maxRecDepth 100000 in
set_option maxHeartbeats 4000000 in
theorem specMerge_any (A : Option Addr) (l : List Seg) (c : Nat) (s : ByteArray) (w : World) (hw : Segs w w.heap.size A l) (hl : l.length ≤ 1048576) (hn : Short l) (_hs : s.size ≤ 1048576) :
    Calls Try.prog 15 #[.slice A l.length c, .string s] w (TreeAns w (mergeL l s) (mergeOk l s)) := by
  have HW : Hid (Segs w w.heap.size A l) := hw
  clear hw
  unfold TreeAns
  by_cases hneg : indexB l s ≤ 0
  · have HF : Hid (mergeOk l s = false) := by show _ = _; unfold mergeOk; rw [decide_eq_false (show ¬ 0 < indexB l s by omega), Bool.false_and]
    have HR : Hid (mergeL l s = []) := off9.2.1 HF.out
    rw [HR.out, HF.out]
    go_enter Try.func15, Try.ntmps15
    go_wp2_with fail
    refine (l1Index_any _ _ _ _ _ HW.out hl hn).mono ?_
    rintro e w1 ⟨rfl, hb1⟩
    have HB1 := Lib.hid hb1
    clear hb1
    generalize indexB l s = q at *
    have hqd : decide (q ≤ 0) = true := decide_eq_true hneg
    go_wp2_with fail
    go_quiet (fail)
    have HB2 := Lib.hid ((below_drewN HB1.out nq).alloc (show w.heap.size ≤ (w1.drewN nq).heap.size from HB1.out.size) (.cells #[] 36))
    have HO1 := Lib.hid (OwnTree.empty (B := w.heap.size) (w1.drewN nq) (show w.heap.size ≤ (w1.drewN nq).heap.size from HB1.out.size))
    generalize w1.drewN nq = w2 at *
    go_wp2
    go_ret2
    exact ⟨_, rfl, HO1.out, HB2.out⟩
  · obtain ⟨p, hM, hu⟩ := merge9_at (l := l) (s := s) (by omega)
    have hv := hM.valid
    have HI : Hid (indexB l s = ((ix9 l s : Nat) : Int)) := hM.ix
    have hi : ix9 l s < l.length := hM.lt
    have hi0 : ¬ ((ix9 l s : Nat) : Int) ≤ 0 := by have := HI.out; omega
    have hi0d : decide (((ix9 l s : Nat) : Int) ≤ 0) = false := decide_eq_false hi0
    have hpar : parAt l (ix9 l s) = (p : Int) := hM.par
    have hpl : p < ix9 l s := hM.plt
    have hpl' : p < l.length := by omega
    have hl8 := (valid_all hv).2.1
    have hzi := sizeAt_bd hv hi
    have hzp := sizeAt_bd hv hpl'
    have HLG : Hid (l[ix9 l s]? = some ⟨nmAt9 l (ix9 l s), sizeAt l (ix9 l s), (p : Int)⟩) := by
      show _ = _
      rw [nmAt9_of hi, sizeAt_of hi, ← hpar, parAt_of (List.getElem?_eq_getElem hi)]
      exact List.getElem?_eq_getElem hi
    have HLP : Hid (l[p]? = some ⟨nmAt9 l p, sizeAt l p, parAt l p⟩) := by
      show _ = _
      rw [nmAt9_of hpl', sizeAt_of hpl', parAt_of (List.getElem?_eq_getElem hpl')]
      exact List.getElem?_eq_getElem hpl'
    have hwz : IntKind.i64.wrap (sizeAt l (ix9 l s) + sizeAt l p) = sizeAt l (ix9 l s) + sizeAt l p := IntWalk.i64_in _ (by omega)
    have hwz2 : IntKind.i64.wrap (sizeAt l p + sizeAt l (ix9 l s)) = sizeAt l p + sizeAt l (ix9 l s) := IntWalk.i64_in _ (by omega)
    have HFL : Hid (mergeOk l s = decide (sizeAt l (ix9 l s) + sizeAt l p ≤ 99)) := by show _ = _; unfold mergeOk; rw [hu, decide_eq_true (show 0 < indexB l s by omega), Bool.true_and]
    have HRR : Hid (mergeOk l s = true → mergeL l s = made9 (l.set p ⟨nmAt9 l p, sizeAt l p + sizeAt l (ix9 l s), parAt l p⟩) (sizeAt (l.set p ⟨nmAt9 l p, sizeAt l p + sizeAt l (ix9 l s), parAt l p⟩)) (mergeP (parAt l) (ix9 l s) p) 0) := fun h => by
      unfold mergeL
      rw [if_pos h, hu, made9_set hpl']
      rfl
    have HFA : Hid (Fall9 (mergeP (parAt l) (ix9 l s) p) l.length) := mergeP_fall (tree9_of hv).fall hi hpar
    clear hneg hv hM hu hpar
    generalize ix9 l s = i at *
    have hil : (i : Int) < (l.length : Int) := by omega
    have hiz : decide (i = 0) = false := decide_eq_false (by omega)
    have hi1 : (0 : Int) ≤ (i : Int) := Int.natCast_nonneg _
    have hp0 : (0 : Int) ≤ ((p : Nat) : Int) := Int.natCast_nonneg _
    have hpl2 : ((p : Nat) : Int) < (l.length : Int) := by omega
    obtain ⟨b, ob, rfl, hB, hc⟩ := HW.out (by omega)
    have i1 := (hc i _ HLG.out).2.1
    have i2 := (hc i _ HLG.out).2.2
    have p1 := (hc p _ HLP.out).2.1
    dsimp only at i1 i2 p1
    by_cases h99 : sizeAt l i + sizeAt l p ≤ 99
    rotate_left
    · have h99' : (99 : Int) < sizeAt l i + sizeAt l p := by omega
      have h99d : decide ((99 : Int) < sizeAt l i + sizeAt l p) = true := decide_eq_true h99'
      have HF : Hid (mergeOk l s = false) := HFL.out.trans (decide_eq_false h99)
      have HR : Hid (mergeL l s = []) := off9.2.1 HF.out
      rw [HR.out, HF.out]
      clear hc HLG HLP
      generalize sizeAt l i = zi at *
      generalize sizeAt l p = zp at *
      go_enter Try.func15, Try.ntmps15
      go_wp2_with fail
      refine (l1Index_any _ _ _ _ _ HW.out hl hn).mono ?_
      rw [HI.out]
      rintro e w1 ⟨rfl, hb1⟩
      rw [← hb1.cell hB] at i1 i2 p1
      have HB1 := Lib.hid hb1
      clear hb1
      go_wp2_with fail
      go_quiet (fail)
      have HB2 := Lib.hid ((below_drewN HB1.out nq).alloc (show w.heap.size ≤ (w1.drewN nq).heap.size from HB1.out.size) (.cells #[] 36))
      have HO1 := Lib.hid (OwnTree.empty (B := w.heap.size) (w1.drewN nq) (show w.heap.size ≤ (w1.drewN nq).heap.size from HB1.out.size))
      clear i1 i2 p1
      generalize w1.drewN nq = w2 at *
      go_wp2
      go_ret2
      exact ⟨_, rfl, HO1.out, HB2.out⟩
    · have h99d : decide ((99 : Int) < sizeAt l i + sizeAt l p) = false := decide_eq_false (by omega)
      have h99' : ¬ (99 : Int) < sizeAt l i + sizeAt l p := by omega
      have HF : Hid (mergeOk l s = true) := HFL.out.trans (decide_eq_true h99)
      have HR := Lib.hid (HRR.out HF.out)
      rw [HR.out, HF.out]
      have HC : Hid (∀ (k : Nat) (x : Seg), l[k]? = some x → w.cell? ⟨b, ob + k * 3, none⟩ = some (.string x.name) ∧ w.cell? ⟨b, ob + k * 3 + 1, none⟩ = some (.int .i64 x.size) ∧ w.cell? ⟨b, ob + k * 3 + 2, none⟩ = some (.int .i64 x.par)) := hc
      clear hc
      go_enter Try.func15, Try.ntmps15
      go_wp2_with fail
      refine (l1Index_any _ _ _ _ _ HW.out hl hn).mono ?_
      rw [HI.out]
      rintro e w0 ⟨rfl, hb0⟩
      have I1 : Hid (w.cell? ⟨b, ob + i * 3 + 1, none⟩ = some (.int .i64 (sizeAt l i))) := i1
      have I2 : Hid (w.cell? ⟨b, ob + i * 3 + 2, none⟩ = some (.int .i64 (p : Nat))) := i2
      have HB0 := Lib.hid hb0
      rw [← hb0.cell hB] at i1 i2 p1
      clear hb0
      generalize hzi' : sizeAt l i = zi at *
      generalize hzp' : sizeAt l p = zp at *
      have HZI := Lib.hid hzi'
      have HZP := Lib.hid hzp'
      clear hzi' hzp'
      go_wp2_with fail
      go_quiet (fail)
      have HB1 := Lib.hid (below_drewN HB0.out nq)
      generalize w0.drewN nq = w1 at *
      clear i1 i2 p1
      have HW1 := Lib.hid ((HW.out.below HB1.out).more HB1.out.size)
      go_wp2_with (at_builtin; go_loud (refine wp_clone9 rfl (.tmp 36) (.tmp 37) rfl (some ⟨b, ob, none⟩) l c w1 rfl rfl HW1.out (by omega) (by omega) ?_); intro v3 w3 ho3 hb3; obtain ⟨g3, cap3, rfl, -, -⟩ : ∃ g cap, v3 = .slice (some ⟨g, 0, none⟩) l.length cap ∧ w1.heap.size ≤ g ∧ g < w3.heap.size := World.ownsRow.form ho3 (by omega); have HO3 := Lib.hid ho3; have HB3 := Lib.hid (HB1.out.trans (hb3.mono HB1.out.size)); have i2 := I2.out; rw [← (HB1.out.trans (hb3.mono HB1.out.size)).cell (p := ⟨b, ob + i * 3 + 2, none⟩) hB] at i2; clear ho3 hb3)
      clear i2
      have hcc := (HO3.out.cells HLP.out).1.2.1
      have hff := (HO3.out.cells HLP.out).2 (p * 3 + 1)
      have i1 := I1.out
      rw [← HB3.out.cell (p := ⟨b, ob + i * 3 + 1, none⟩) hB] at i1
      have HO4 := Lib.hid ((HO3.out.setSz9 HLP.out (zp + zi)))
      have HO4' : Hid (OwnTree (w3.drew.setCell ⟨g3, p * 3 + 1, none⟩ (.int .i64 (zp + zi))) w1.heap.size (.slice (some ⟨g3, 0, none⟩) l.length cap3) (l.set p ⟨nmAt9 l p, zp + zi, parAt l p⟩)) := HO4.out.far fun _ _ => rfl
      have hg3 := World.ownsRow.lt HO3.out g3 rfl
      have HB4 := Lib.hid (HB3.out.drew.setCell (Nat.le_trans HB1.out.size hg3.1) (p := ⟨g3, p * 3 + 1, none⟩) (.int .i64 (zp + zi)))
      have HZ4 : Hid (w1.heap.size ≤ (w3.drew.setCell ⟨g3, p * 3 + 1, none⟩ (.int .i64 (zp + zi))).heap.size) := by
        show _ ≤ _
        rw [size_set]
        exact Nat.le_of_lt (Nat.lt_of_le_of_lt hg3.1 hg3.2)
      have hcc3 : w3.drew.cell? ⟨g3, p * 3 + 1, none⟩ = some (.int .i64 zp) := hcc
      have hff3 : w3.drew.frozen? ⟨g3, p * 3 + 1, none⟩ = false := hff
      clear HO3 HO4 hg3 hcc3 hff3
      go_still_tail 15, (by kernel_rfl)
      change wpList _ _ _ _ _ w3.drew
      have hcc3 : w3.drew.cell? ⟨g3, p * 3 + 1, none⟩ = some (.int .i64 zp) := hcc
      have hff3 : w3.drew.frozen? ⟨g3, p * 3 + 1, none⟩ = false := hff
      clear hcc hff i1
      generalize w3.drew = w3d at *
      go_wp2_with fail
      have HZS : Hid ((w3d.setCell ⟨g3, p * 3 + 1, none⟩ (.int .i64 (zp + zi))).heap.size = w3d.heap.size) := size_set _ _ _
      clear hcc3 hff3
      generalize w3d.setCell ⟨g3, p * 3 + 1, none⟩ (.int .i64 (zp + zi)) = w4 at *
      rw [← HZS.out]
      have HB0' : Hid (Below w4.heap.size w4 (w4.alloc (.cells #[] 3))) := (Below.refl _ w4).alloc (Nat.le_refl _) _
      have HO0 := Lib.hid (Si.OwnInts.empty (B := w4.heap.size) w4 (Nat.le_refl _))
      have HC4 : Hid (∀ (k : Nat) (x : Seg), l[k]? = some x → w4.cell? ⟨b, ob + k * 3, none⟩ = some (.string x.name) ∧ w4.cell? ⟨b, ob + k * 3 + 1, none⟩ = some (.int .i64 x.size) ∧ w4.cell? ⟨b, ob + k * 3 + 2, none⟩ = some (.int .i64 x.par)) := fun k x hx => by
        have h1 := HC.out k x hx
        rw [← HB4.out.cell (p := ⟨b, ob + k * 3, none⟩) hB, ← HB4.out.cell (p := ⟨b, ob + k * 3 + 1, none⟩) hB, ← HB4.out.cell (p := ⟨b, ob + k * 3 + 2, none⟩) hB] at h1
        exact h1
      have hb9 : b < w4.heap.size := Nat.lt_of_lt_of_le hB HB4.out.size
      have HL := Lib.hid (fun k => row9_len (mergeP (parAt l) i p) k)
      have HS := Lib.hid (fun k => row9_succ (mergeP (parAt l) i p) k)
      have HMP : Hid (∀ k, mergeP (parAt l) i p k = if k = i then -2 else if parAt l k = (i : Int) then (p : Int) else parAt l k) := fun k => rfl
      clear HC HW1 HZS HR HRR HF HFL HW h99d h99 h99'
      go_loopw [9, 62] (fun ov iv wr => ∃ (k : Nat) (A' : Option Addr) (C' : Nat), iv = .int .i64 k ∧ k ≤ l.length ∧ ov = .slice A' k C' ∧ Hid (Si.OwnInts wr w4.heap.size (.slice A' k C') (row9 (mergeP (parAt l) i p) k)) ∧ Hid (Below w4.heap.size w4 wr))
        (fun _ iv _ => l.length - (intOf iv).toNat)
      case atStart => exact ⟨0, _, 0, rfl, Nat.zero_le _, rfl, HO0, HB0'⟩
      case round =>
        clear HO0 HB0'
        obtain ⟨k, A', C', rfl, hk, rfl, HO, HB⟩ := hrel
        have hk0 : (0 : Int) ≤ (k : Int) := Int.natCast_nonneg _
        by_cases hlt : k < l.length
        · have hlt' : (k : Int) < (l.length : Int) := by omega
          obtain ⟨c0, c1, c2⟩ := HC4.out k l[k] (List.getElem?_eq_getElem hlt)
          rw [← HB.out.cell (p := ⟨b, ob + k * 3, none⟩) hb9] at c0
          rw [← HB.out.cell (p := ⟨b, ob + k * 3 + 1, none⟩) hb9] at c1
          rw [← HB.out.cell (p := ⟨b, ob + k * 3 + 2, none⟩) hb9] at c2
          have HSK := Lib.hid (HS.out k)
          rw [HMP.out k] at HSK
          have HLK := Lib.hid (HL.out k)
          have HLK1 := Lib.hid (HL.out (k + 1))
          have HKP : Hid (parAt l k = l[k].par) := parAt_of (List.getElem?_eq_getElem hlt)
          have HO1 := Lib.hid (HO.out.alloc (.cells #[.string l[k].name, .int .i64 l[k].size, .int .i64 l[k].par] 36))
          have HB1' := Lib.hid (HB.out.alloc HB.out.size (.cells #[.string l[k].name, .int .i64 l[k].size, .int .i64 l[k].par] 36))
          generalize l[k].name = nm at *
          generalize l[k].size = sz at *
          rw [HKP.out] at HSK
          clear HKP
          generalize l[k].par = pr at *
          by_cases hki : k = i
          · have hke : ((k : Int) == (i : Int)) = true := by rw [beq_iff_eq]; omega
            rw [if_pos hki] at HSK
            clear hki
            go_wp2_with (at_builtin; go_loud (refine wp_append_int9 rfl (.tmp 76) (.tmp 77) rfl w4.heap.size (.slice A' k C') (row9 (mergeP (parAt l) i p) k) (-2) _ rfl HO1.out (by rw [HLK.out]; omega) HB1'.out.size (wr.heap.size + 1) rfl (by simp) ?_); intro v3 w3 ho3 hb3 _; have HO3 := Lib.hid ho3; have HB3 := Lib.hid (HB1'.out.trans hb3); clear ho3 hb3)
            rw [← HSK.out] at HO3
            obtain ⟨A3, C3, rfl, -⟩ := Si.intsForm HO3.out
            rw [HLK1.out] at HO3 ⊢
            go_wp2
            go_roundw
            case rel => exact ⟨k + 1, A3, C3, by go_num, by omega, rfl, HO3, HB3⟩
            case measure => simp [intOf]; omega
          · have hke : ((k : Int) == (i : Int)) = false := by rw [beq_eq_false_iff_ne]; omega
            rw [if_neg hki] at HSK
            by_cases hpi : pr = (i : Int)
            · have hpe : (pr == (i : Int)) = true := by rw [beq_iff_eq]; omega
              rw [if_pos hpi] at HSK
              clear hpi
              go_wp2_with (at_builtin; go_loud (refine wp_append_int9 rfl (.tmp 84) (.tmp 86) rfl w4.heap.size (.slice A' k C') (row9 (mergeP (parAt l) i p) k) ((p : Nat) : Int) _ rfl HO1.out (by rw [HLK.out]; omega) HB1'.out.size (wr.heap.size + 1) rfl (by simp) ?_); intro v3 w3 ho3 hb3 _; have HO3 := Lib.hid ho3; have HB3 := Lib.hid (HB1'.out.trans hb3); clear ho3 hb3)
              rw [← HSK.out] at HO3
              obtain ⟨A3, C3, rfl, -⟩ := Si.intsForm HO3.out
              rw [HLK1.out] at HO3 ⊢
              go_wp2
              go_roundw
              case rel => exact ⟨k + 1, A3, C3, by go_num, by omega, rfl, HO3, HB3⟩
              case measure => simp [intOf]; omega
            · have hpe : (pr == (i : Int)) = false := by rw [beq_eq_false_iff_ne]; exact hpi
              rw [if_neg hpi] at HSK
              clear hpi
              go_wp2_with (at_builtin; go_loud (refine wp_append_int9 rfl (.tmp 67) (.tmp 70) rfl w4.heap.size (.slice A' k C') (row9 (mergeP (parAt l) i p) k) pr _ rfl HO1.out (by rw [HLK.out]; omega) HB1'.out.size (wr.heap.size + 1) rfl (by simp) ?_); intro v3 w3 ho3 hb3 _; have HO3 := Lib.hid ho3; have HB3 := Lib.hid (HB1'.out.trans hb3); clear ho3 hb3)
              rw [← HSK.out] at HO3
              obtain ⟨A3, C3, rfl, -⟩ := Si.intsForm HO3.out
              rw [HLK1.out] at HO3 ⊢
              go_wp2
              go_roundw
              case rel => exact ⟨k + 1, A3, C3, by go_num, by omega, rfl, HO3, HB3⟩
              case measure => simp [intOf]; omega
        · obtain rfl : k = l.length := by omega
          have hb4 : Below wr.heap.size wr (wr.alloc (.cells #[] 36)) := (Below.refl _ wr).alloc (Nat.le_refl _) _
          have HO5 := Lib.hid (OwnTree.empty (B := wr.heap.size) wr (Nat.le_refl _))
          have HL4 := Lib.hid (treeBelow HO4'.out HB.out)
          have HW3 : Hid (Segs wr wr.heap.size (some ⟨g3, 0, none⟩) (l.set p ⟨nmAt9 l p, zp + zi, parAt l p⟩)) := treeIs (n := l.length) HL4.out
          have hlz : (l.set p ⟨nmAt9 l p, zp + zi, parAt l p⟩).length = l.length := List.length_set
          have HLZ := Lib.hid hlz
          have HAW := Lib.hid (aw9_old (g := wr.heap.size) HW3.out (by rw [hlz]; omega) (Nat.le_refl _))
          have HI3 := Lib.hid (Si.intsOf HO.out)
          have HAP : Hid (Aw9 (.slice (some ⟨wr.heap.size, 0, none⟩) 0 0) A') := fun a ha e => by
            have h1 := (World.ownsRow.lt HO.out a.block (by rw [ha]; rfl)).2
            injection e with e
            have h3 : wr.heap.size = a.block := e
            omega
          have HW4 := Lib.hid ((HW3.out.below hb4).more hb4.size)
          have HI4 := Lib.hid ((HI3.out.below hb4).more hb4.size)
          have HZ5 : Hid (w.heap.size ≤ wr.heap.size) := Nat.le_trans HB4.out.size HB.out.size
          have HB5 : Hid (Below w.heap.size w (wr.alloc (.cells #[] 36))) := (HB4.out.trans (HB.out.mono HB4.out.size)).alloc HZ5.out _
          have HZ6 := Lib.hid hb4.size
          have hcall := build9_call (ls := l.set p ⟨nmAt9 l p, zp + zi, parAt l p⟩) (c := cap3) (cp := C') (ps := mergeP (parAt l) i p) (r := 0) (by rw [hlz]; exact HFA.out) (by rw [hlz]; omega) (by rw [hlz]; omega) HW4.out (by rw [hlz]; exact HI4.out) HO5.out HAW.out HAP.out HZ6.out
          rw [hlz] at hcall
          have HCALL := Lib.hid hcall
          clear hb4 hlz hcall
          go_wp2_with fail
          refine Calls.mono HCALL.out ?_
          rintro e w5 ⟨v, rfl, ho5, hb5⟩
          rw [← HZI.out, ← HZP.out] at ho5
          have HO6 := Lib.hid (treeLow ho5 HZ5.out)
          have HB6 : Hid (Below w.heap.size w w5) := HB5.out.trans (hb5.mono HZ5.out)
          clear ho5 hb5
          go_wp2
          go_ret2
          exact ⟨_, rfl, HO6.out, HB6.out⟩

end Go.Proofs.Ytadichddgpojpaa
/- The walk of the law FnExactMergeIn. -/
namespace Go.Proofs.Ytadichddgpojpaa
open Go.RowKit

set_option maxRecDepth 100000 in
set_option maxHeartbeats 4000000 in
theorem lawMergeIn_any (A : Option Addr) (l : List Seg) (c : Nat) (s : ByteArray) (w : World) (hw : Segs w w.heap.size A l) (hl : l.length ≤ maxLen) (hn : Short l) (hsz : s.size ≤ maxLen) :
    Calls Try.prog 7 #[.slice A l.length c, .string s] w fun e w' => e = .returned (.bool true) ∧ Below w.heap.size w w' := by
  have HW : Hid (Segs w w.heap.size A l) := hw
  clear hw
  unfold maxLen at hsz
  by_cases hbig : 1048576 < s.size
  · go_enter Try.func7, Try.ntmps7
    go_wp2
    go_ret
    exact ⟨rfl, Below.refl _ _⟩
  by_cases hs : sizeLeft l < 0
  · go_enter Try.func7, Try.ntmps7
    go_wp2_with fail
    refine (szSegmentS_any _ _ _ _ HW.out hl hn).mono ?_
    rintro e w1 ⟨rfl, hb1⟩
    go_wp2
    go_ret
    exact ⟨rfl, hb1⟩
  have hlen := sizeLeft_len hs
  have hsl := sizeLeft_le l
  have hlm : l.length ≤ 9223372036854775807 := Nat.le_trans hlen (by decide)
  have HSP := Lib.hid (fun A c W h1 => specMerge_any A l c s W h1 hlen hn (Nat.le_of_not_lt hbig))
  have HIM := Lib.hid (fun A W h1 => merge_any A l l.length s W h1 hlen (Nat.le_refl _) hlm hn (Nat.le_of_not_lt hbig))
  unfold TreeAns at HSP HIM
  have hrs : (mergeL l s).length ≤ 200 := mergeL_len l s
  generalize mergeL l s = rs at *
  generalize mergeOk l s = d at *
  go_enter Try.func7, Try.ntmps7
  go_wp2_with fail
  refine (szSegmentS_any _ _ _ _ HW.out hl hn).mono ?_
  rintro e w1 ⟨rfl, hb1⟩
  have HB1 := Lib.hid hb1
  clear hb1
  go_wp2_with fail
  refine (toSegmentS_any _ _ _ _ ((HW.out.below HB1.out).more HB1.out.size) hlen).mono ?_
  rintro e w2 ⟨rfl, hb2, hx2⟩
  have HX := Lib.hid hx2
  clear hx2
  have HB2 : Hid (Below w.heap.size w w2) := HB1.out.trans (hb2.mono HB1.out.size)
  clear hb2 HB1
  go_wp2_with fail
  refine (HSP.out _ _ _ HX.out).mono ?_
  rintro e w3 ⟨v0, rfl, ho3, hb3⟩
  obtain ⟨A0, cap0, rfl, -⟩ := ho3.form
  have HO : Hid (OwnTree w3 w2.heap.size (.slice A0 rs.length cap0) rs) := ho3
  have HL : Hid (∀ g, (Value.slice A0 rs.length cap0).ownBlock = some g → g < w3.heap.size) := fun g hg => (World.ownsRow.lt ho3 g hg).2
  have HZ5 : Hid (w.heap.size ≤ w3.heap.size) := Nat.le_trans HB2.out.size hb3.size
  clear ho3 HSP
  clear HX
  have HB3 : Hid (Below w.heap.size w w3) := HB2.out.trans (hb3.mono HB2.out.size)
  clear hb3 HB2
  go_wp2_with fail
  refine (St.toSegmentS_row _ _ _ _ ((HW.out.below HB3.out).more HB3.out.size) hlen).mono ?_
  rintro e w4 ⟨rfl, hb4, hx4, cs, hr4, hcs⟩
  have HX := Lib.hid hx4
  have HR := Lib.hid hr4
  have HCS := Lib.hid hcs
  have HZ6 : Hid (w3.heap.size < w4.heap.size) := hr4.lt
  clear hx4 hr4 hcs
  have HB4 : Hid (Below w.heap.size w w4) := HB3.out.trans (hb4.mono HB3.out.size)
  have HO := Lib.hid (treeBelow HO.out hb4)
  clear hb4 HB3
  go_wp2_with fail
  refine (HIM.out _ _ HX.out).mono ?_
  rintro e w5 ⟨v1, rfl, ho5, hb5⟩
  obtain ⟨A1, cap1, rfl, -⟩ := ho5.form
  have HP : Hid (OwnTree w5 w4.heap.size (.slice A1 rs.length cap1) rs) := ho5
  clear ho5
  have HB5 : Hid (Below w.heap.size w w5) := HB4.out.trans (hb5.mono HB4.out.size)
  have HO := Lib.hid (treeBelow HO.out hb5)
  have HX := Lib.hid ((HX.out.below hb5).more hb5.size)
  have HR := Lib.hid (HR.out.below hb5 HR.out.lt)
  clear hb5 HB4
  go_wp2_with fail
  refine (eqSegmentS_same A1 A0 rs cap1 cap0 w5 (treeIs HP.out) (treeIs HO.out) (by omega)).mono ?_
  rintro e w6 ⟨rfl, hb6⟩
  have HB6 : Hid (Below w.heap.size w w6) := HB5.out.trans (hb6.mono HB5.out.size)
  have HO := Lib.hid (treeBelow HO.out hb6)
  have HX := Lib.hid ((HX.out.below hb6).more hb6.size)
  have HR := Lib.hid (HR.out.below hb6 HR.out.lt)
  have HP := Lib.hid (treeBelow HP.out hb6)
  clear hb6 HB5
  go_wp2_with fail
  refine (toSegmentS_any _ _ _ _ ((HW.out.below HB6.out).more HB6.out.size) hlen).mono ?_
  rintro e w7 ⟨rfl, hb7, hx7⟩
  have HX2 := Lib.hid hx7
  clear hx7
  have HB7 : Hid (Below w.heap.size w w7) := HB6.out.trans (hb7.mono HB6.out.size)
  have HO := Lib.hid (treeBelow HO.out hb7)
  have HX := Lib.hid ((HX.out.below hb7).more hb7.size)
  have HR := Lib.hid (HR.out.below hb7 HR.out.lt)
  have HP := Lib.hid (treeBelow HP.out hb7)
  clear hb7 HB6
  go_wp2_with fail
  refine (eqSegmentS_same _ _ _ _ _ _ HX.out HX2.out hlen).mono ?_
  rintro e w8 ⟨rfl, hb8⟩
  have HB8 : Hid (Below w.heap.size w w8) := HB7.out.trans (hb8.mono HB7.out.size)
  have HO := Lib.hid (treeBelow HO.out hb8)
  have HX := Lib.hid ((HX.out.below hb8).more hb8.size)
  have HR := Lib.hid (HR.out.below hb8 HR.out.lt)
  have HP := Lib.hid (treeBelow HP.out hb8)
  have HX2 := Lib.hid ((HX2.out.below hb8).more hb8.size)
  clear hb8 HB7
  clear HX HX2
  go_wp2_with fail
  refine (mark1 w3.heap.size l.length l.length cs w8 HR.out HCS.out hlen).mono ?_
  rintro e w9 ⟨rfl, hy9⟩
  have HB9 : Hid (Below w.heap.size w w9) := Only.below HB8.out hy9 HB8.out.size (fun k hk e => by have := HZ5.out; omega)
  have HO := Lib.hid (treeFar HO.out hy9 (fun g hg e => by have := HL.out g hg; omega))
  have HP := Lib.hid (treeFar HP.out hy9 (fun g hg e => by have := (World.ownsRow.lt HP.out g hg).1; have := HZ6.out; omega))
  clear hy9 HR HCS HB8
  have hk0 : 0 < 1 + 3 * l.length := by omega
  have hk9 : 1 + 3 * l.length ≤ 4000000 := by omega
  have hkn : (0 : Int) ≤ ((1 + 3 * l.length : Nat) : Int) := Int.natCast_nonneg _
  have hkn' : ¬ ((1 + 3 * l.length : Nat) : Int) < 0 := by omega
  generalize ((1 + 3 * l.length : Nat) : Int) = kt at *
  go_wp2_with fail
  refine (eqSegmentS_same A1 A0 rs cap1 cap0 w9 (treeIs HP.out) (treeIs HO.out) (by omega)).mono ?_
  rintro e w10 ⟨rfl, hb10⟩
  have HB10 : Hid (Below w.heap.size w w10) := HB9.out.trans (hb10.mono HB9.out.size)
  have HO := Lib.hid (treeBelow HO.out hb10)
  have HP := Lib.hid (treeBelow HP.out hb10)
  clear hb10 HB9
  go_wp2_with fail
  refine (tmark1 _ _ rs w10 HP.out (by omega)).mono ?_
  rintro e w11 ⟨rfl, ho11, hy11⟩
  have HB11 : Hid (Below w.heap.size w w11) := Only.below HB10.out hy11 HB10.out.size (fun k hk e => by have := (World.ownsRow.lt HP.out k e).1; have := HZ5.out; have := HZ6.out; omega)
  have HO := Lib.hid (treeFar HO.out hy11 (fun g hg e => by have := HL.out g hg; have := (World.ownsRow.lt HP.out g e).1; have := HZ6.out; omega))
  have HM : Hid (Segs w11 w11.heap.size A1 (marked rs 1 rs.length)) := treeIs ho11
  clear ho11 hy11 HB10 HP
  have hm1 : ¬ ((1 + 3 * rs.length : Nat) : Int) < 0 := by omega
  have hm0 : (0 : Int) ≤ ((1 + 3 * rs.length : Nat) : Int) := by omega
  have HH := Lib.hid (fun W h => theld1 A1 rs.length cap1 rs W rfl h (by omega))
  generalize ((1 + 3 * rs.length : Nat) : Int) = m at *
  go_wp2_with fail
  refine Calls.mono (HH.out w11 HM.out) ?_
  rintro e w12 ⟨rfl, hb12⟩
  have HB12 : Hid (Below w.heap.size w w12) := HB11.out.trans (hb12.mono HB11.out.size)
  have HO := Lib.hid (treeBelow HO.out hb12)
  have HM := Lib.hid ((HM.out.below hb12).more hb12.size)
  clear hb12 HB11
  go_wp2_with fail
  refine (toSegmentS_any _ _ _ _ ((HW.out.below HB12.out).more HB12.out.size) hlen).mono ?_
  rintro e w13 ⟨rfl, hb13, hx13⟩
  have HX := Lib.hid hx13
  clear hx13
  have HB13 : Hid (Below w.heap.size w w13) := HB12.out.trans (hb13.mono HB12.out.size)
  have HO := Lib.hid (treeBelow HO.out hb13)
  have HM := Lib.hid ((HM.out.below hb13).more hb13.size)
  clear hb13 HB12
  go_wp2_with fail
  refine (HIM.out _ _ HX.out).mono ?_
  rintro e w14 ⟨v2, rfl, ho14, hb14⟩
  obtain ⟨A3, cap3, rfl, hf14⟩ := ho14.form
  have HV : Hid (Segs w14 w14.heap.size A3 rs) := hf14
  clear ho14 hf14
  clear HX
  have HB14 : Hid (Below w.heap.size w w14) := HB13.out.trans (hb14.mono HB13.out.size)
  have HO := Lib.hid (treeBelow HO.out hb14)
  have HM := Lib.hid ((HM.out.below hb14).more hb14.size)
  clear hb14 HB13
  go_wp2_with fail
  refine (eqSegmentS_same A3 A0 rs cap3 cap0 w14 HV.out (treeIs HO.out) (by omega)).mono ?_
  rintro e w15 ⟨rfl, hb15⟩
  have HB15 : Hid (Below w.heap.size w w15) := HB14.out.trans (hb15.mono HB14.out.size)
  have HO := Lib.hid (treeBelow HO.out hb15)
  have HM := Lib.hid ((HM.out.below hb15).more hb15.size)
  have HV := Lib.hid ((HV.out.below hb15).more hb15.size)
  clear hb15 HB14
  go_wp2_with fail
  refine Calls.mono (HH.out w15 HM.out) ?_
  rintro e w16 ⟨rfl, hb16⟩
  have HB16 : Hid (Below w.heap.size w w16) := HB15.out.trans (hb16.mono HB15.out.size)
  clear hb16 HB15
  go_wp2
  go_ret
  exact ⟨rfl, HB16.out⟩

end Go.Proofs.Ytadichddgpojpaa
