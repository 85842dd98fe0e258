/- Joined: Vo Kf. -/
import Derived.Test.YtadichddgpojpaaU20
import Derived.Test.YtadichddgpojpaaU24
import Derived.Test.YtadichddgpojpaaU12
import Derived.Test.YtadichddgpojpaaU01
/- Chapter 9: the program's MergeIn and MoveUp. -/
namespace Go.Proofs.Ytadichddgpojpaa
open Go.RowKit

theorem Mem9.drewN9 {w : World} {B n : Nat} {nm : Nat → ByteArray} {sz pp : Nat → Int} {kd : Nat → List Nat} {nb : Nat → Nat} {cv : Nat → Value} (h : Mem9 w B n nm sz pp kd nb cv) (q : Nat) : Mem9 (w.drewN q) B n nm sz pp kd nb cv := ⟨h.node, h.kids, h.apart, h.apartC, h.low⟩
theorem Mem9.drew9 {w : World} {B n : Nat} {nm : Nat → ByteArray} {sz pp : Nat → Int} {kd : Nat → List Nat} {nb : Nat → Nat} {cv : Nat → Value} (h : Mem9 w B n nm sz pp kd nb cv) : Mem9 w.drew B n nm sz pp kd nb cv := ⟨h.node, h.kids, h.apart, h.apartC, h.low⟩
theorem Top9.drewN9 {w : World} {B g n : Nat} {nb : Nat → Nat} {cv : Nat → Value} (h : Top9 w B g n nb cv) (q : Nat) : Top9 (w.drewN q) B g n nb cv := ⟨h.row, h.notg, h.low⟩
theorem Top9.drew9 {w : World} {B g n : Nat} {nb : Nat → Nat} {cv : Nat → Value} (h : Top9 w B g n nb cv) : Top9 w.drew B g n nb cv := ⟨h.row, h.notg, h.low⟩
theorem own_full9 {w : World} {B n : Nat} {v : Value} {xs : List Value} {e : TypeId} (h : w.ownsRow B e 1 v n xs) : ∃ A c, v = .slice A n c ∧ n ≤ c ∧ c ≤ maxLen ∧
    (0 < n → ∃ (g : Nat) (cs : Array Value), A = some ⟨g, 0, none⟩ ∧ Row w g e cs ∧ (∀ (j : Nat) (u : Value), xs[j]? = some u → cs[j]? = some u) ∧ v.ownBlock = some g) := by
  rcases h.2 with ⟨rfl, h0⟩ | ⟨g, cap, cur, rfl, hg, hh, h1, h2, h3, h4⟩
  · exact ⟨none, 0, by rw [h0], by omega, Nat.zero_le _, fun h => by omega⟩
  · refine ⟨_, cap, rfl, h1, h2, fun _ => ⟨g, cur, rfl, hh, fun j u hj => ?_, rfl⟩⟩
    rw [← h4] at hj
    have h5 := (List.getElem?_eq_some_iff.1 hj).1
    rw [List.getElem?_take_of_lt (by rw [List.length_take] at h5; omega)] at hj
    simpa using hj
theorem merge9_sz (sz : Nat → Int) (p i : Nat) : resizeZ9 sz p (sz p + sz i) = mergeZ9 sz p i := rfl

set_option maxRecDepth 100000 in
set_option maxHeartbeats 4000000 in
theorem merge_any (A : Option Addr) (l : List Seg) (c : Nat) (s : ByteArray) (w : World) (hw : Segs w w.heap.size A l) (hl : l.length ≤ 1048576) (hlc : l.length ≤ c) (hcm : c ≤ 9223372036854775807) (hn : Short l) (_hs : s.size ≤ 1048576) :
    Calls Try.prog 14 #[.slice A l.length c, .string s] w (TreeAns w (mergeL l s) (mergeOk l s)) := by
  have HW : Hid (Segs w w.heap.size A l) := hw
  clear hw
  unfold TreeAns
  have HNEG : Hid (indexB l s < 0 → mergeL l s = [] ∧ mergeOk l s = false) := fun h => ⟨(neg9 h).2.2.2.2.2.1, (neg9 h).2.2.2.2.1⟩
  cases hv : validB l with
  | false =>
    have HF := Lib.hid (HNEG.out (bad9 hv))
    rw [HF.out.1, HF.out.2]
    go_enter Try.func14, Try.ntmps14
    go_wp2_with fail
    refine (nodesOf_bad _ _ _ _ HW.out hl hlc hcm hn hv).mono ?_
    rintro e w1 ⟨rfl, hb1⟩
    have HB1 := Lib.hid hb1
    clear hb1
    go_wp2_with fail
    refine (findNode_nil _ _).mono ?_
    rintro e w2 ⟨rfl, rfl⟩
    go_wp2_with fail
    go_quiet (fail)
    go_wp2
    go_ret2
    exact ⟨_, rfl, ⟨rfl, .inl ⟨rfl, rfl⟩⟩, below_drewN HB1.out _⟩
  | true =>
    rcases seek_bd l s with hi | ⟨h0, hi⟩
    · have HF := Lib.hid (HNEG.out (gone9 hv hi))
      rw [HF.out.1, HF.out.2]
      have HP : Hid (∀ nb, foundPtr l nb s = none) := fun nb => goneP9 hi
      clear hi
      go_enter Try.func14, Try.ntmps14
      go_wp2_with fail
      refine (nodesOf_any _ _ _ _ HW.out hl hlc hcm hn hv).mono ?_
      rintro e w1 ⟨g, nb, cv, rfl, hN, hb1⟩
      have HB1 := Lib.hid hb1
      have HN := Lib.hid hN
      clear hN hb1
      go_wp2_with fail
      refine (findNode_any _ _ _ _ _ _ _ HN.out hl).mono ?_
      rw [HP.out nb]
      rintro e w2 ⟨rfl, rfl⟩
      go_wp2_with fail
      go_quiet (fail)
      go_wp2
      go_ret2
      exact ⟨_, rfl, ⟨rfl, .inl ⟨rfl, rfl⟩⟩, below_drewN HB1.out _⟩
    · obtain ⟨k, hk⟩ := Int.eq_ofNat_of_zero_le h0
      have hkl : k < l.length := by omega
      have HX := Lib.hid (found9 hv hk)
      have HP : Hid (∀ nb, foundPtr l nb s = some ⟨nb k, 0, none⟩) := fun nb => foundPtr9 hk
      have hl8 := (valid_all hv).2.1
      clear hk hi h0
      by_cases hk0 : k = 0
      · have HF : Hid (mergeOk l s = false) := by show _ = _; unfold mergeOk; rw [decide_eq_false (show ¬ 0 < indexB l s by rw [HX.out.1]; omega), Bool.false_and]
        have HR : Hid (mergeL l s = []) := off9.2.1 HF.out
        rw [HR.out, HF.out]
        subst hk0
        go_enter Try.func14, Try.ntmps14
        go_wp2_with fail
        refine (nodesOf_any _ _ _ _ HW.out hl hlc hcm hn hv).mono ?_
        rintro e w1 ⟨g, nb, cv, rfl, hN, hb1⟩
        have HB1 := Lib.hid hb1
        have HA := Lib.hid (hN.at9 hv)
        have HN := Lib.hid hN
        clear hN hb1
        go_wp2_with fail
        refine (findNode_any _ _ _ _ _ _ _ HN.out hl).mono ?_
        rw [HP.out nb]
        rintro e w2 ⟨rfl, rfl⟩
        have e2 := (HA.out.mem.node 0 hkl).cell 2
        have hpn : ptr9 nb (parAt l 0) = none := ptr9_neg (tree9_of hv).root
        simp [nodeCells, hpn] at e2
        go_wp2_with fail
        go_quiet (fail)
        go_wp2
        go_ret2
        exact ⟨_, rfl, ⟨rfl, .inl ⟨rfl, rfl⟩⟩, below_drewN HB1.out _⟩
      obtain ⟨p, hM, hup⟩ := merge9_at (l := l) (s := s) (by rw [HX.out.1]; omega)
      rw [HX.out.2] at hM
      have hpl := hM.plt
      have HMG := Lib.hid hM
      have hzp := sizeAt_bd hv (show p < l.length by omega)
      have hzk := sizeAt_bd hv hkl
      have HFL : Hid (mergeOk l s = sizeOk (sizeAt l p + sizeAt l k)) := by
        show _ = _
        unfold mergeOk sizeOk
        rw [decide_eq_true (show 0 < indexB l s by rw [HX.out.1]; omega), HX.out.2, hup, decide_eq_true (show 1 ≤ sizeAt l p + sizeAt l k by omega)]
        congr 2
        rw [Int.add_comm]
      have HM := Lib.hid (merge9_made hv hM (mergeZ9 (sizeAt l) p k))
      have HSM := Lib.hid (merge9_small hv hM)
      have HRL : Hid (mergeOk l s = true → mergeL l s = made9 l (mergeZ9 (sizeAt l) p k) (mergeP (parAt l) k p) 0) := fun h => by
        unfold mergeL
        rw [if_pos h, HX.out.2, hup]
      have HZ : Hid (resizeZ9 (sizeAt l) p (sizeAt l p + sizeAt l k) = mergeZ9 (sizeAt l) p k) := merge9_sz _ _ _
      clear hM hup
      have hwz : IntKind.i64.wrap (sizeAt l p + sizeAt l k) = sizeAt l p + sizeAt l k := IntWalk.i64_in _ (by omega)
      cases hz : sizeOk (sizeAt l p + sizeAt l k) with
      | false =>
        have HF : Hid (mergeOk l s = false) := HFL.out.trans hz
        have HR : Hid (mergeL l s = []) := off9.2.1 HF.out
        rw [HR.out, HF.out]
        go_enter Try.func14, Try.ntmps14
        go_wp2_with fail
        refine (nodesOf_any _ _ _ _ HW.out hl hlc hcm hn hv).mono ?_
        rintro e w1 ⟨g, nb, cv, rfl, hN, hb1⟩
        have HB1 := Lib.hid hb1
        have HA := Lib.hid (hN.at9 hv)
        have HN := Lib.hid hN
        clear hN hb1
        go_wp2_with fail
        refine (findNode_any _ _ _ _ _ _ _ HN.out hl).mono ?_
        rw [HP.out nb]
        rintro e w2 ⟨rfl, rfl⟩
        have HSV := Lib.hid (fun W => sizeValid9 (sizeAt l p + sizeAt l k) W)
        rw [hz] at HSV
        have e1 := (HA.out.mem.node k hkl).cell 1
        have e2 := (HA.out.mem.node k hkl).cell 2
        have p1 := (HA.out.mem.node p (by omega)).cell 1
        have hpn : ptr9 nb (parAt l k) = some ⟨nb p, 0, none⟩ := by rw [HMG.out.par]; exact ptr9_nat nb p
        simp [nodeCells, hpn] at e1 e2 p1
        clear hz
        go_wp2_with fail
        go_quiet (first | (go_at_call 51; exact Calls.quiet_of_same (HSV.out _)))
        go_wp2
        go_ret2
        exact ⟨_, rfl, ⟨rfl, .inl ⟨rfl, rfl⟩⟩, below_drewN HB1.out _⟩
      | true =>
      have HF : Hid (mergeOk l s = true) := HFL.out.trans hz
      have HR := Lib.hid (HRL.out HF.out)
      rw [HR.out, HF.out]
      go_enter Try.func14, Try.ntmps14
      go_wp2_with fail
      refine (nodesOf_any _ _ _ _ HW.out hl hlc hcm hn hv).mono ?_
      rintro e w1 ⟨g, nb, cv, rfl, hN, hb1⟩
      have HB1 := Lib.hid hb1
      have HA := Lib.hid (hN.at9 hv)
      have HN := Lib.hid hN
      clear hN hb1
      go_wp2_with fail
      refine (findNode_any _ _ _ _ _ _ _ HN.out hl).mono ?_
      rw [HP.out nb]
      rintro e w2 ⟨rfl, rfl⟩
      have HSV := Lib.hid (fun W => sizeValid9 (sizeAt l p + sizeAt l k) W)
      rw [hz] at HSV
      have e1 := (HA.out.mem.node k hkl).cell 1
      have e2 := (HA.out.mem.node k hkl).cell 2
      have p1 := (HA.out.mem.node p (by omega)).cell 1
      have hpn : ptr9 nb (parAt l k) = some ⟨nb p, 0, none⟩ := by rw [HMG.out.par]; exact ptr9_nat nb p
      simp [nodeCells, hpn] at e1 e2 p1
      clear hz
      go_wp2_with fail
      go_quiet (first | (go_at_call 51; exact Calls.quiet_of_same (HSV.out _)))
      have HM2 := Lib.hid (HA.out.mem.drewN9 nq)
      have HT2 := Lib.hid (HA.out.top.drewN9 nq)
      have HB2 := Lib.hid (below_drewN HB1.out nq)
      clear e1 e2 p1 HSV
      generalize w1.drewN nq = w2 at *
      have e1 := (HM2.out.node k hkl).cell 1
      have e2 := (HM2.out.node k hkl).cell 2
      have p1 := (HM2.out.node p (by omega)).cell 1
      simp [nodeCells, hpn] at e1 e2 p1
      go_wp2_with fail
      go_still_tail 14, (by kernel_rfl)
      have HM3 := Lib.hid HM2.out.drew9
      have HT3 := Lib.hid HT2.out.drew9
      have HB3 := Lib.hid HB2.out.drew
      change wpList _ _ _ _ _ w2.drew
      clear e1 e2 p1 HM2 HT2 HB2
      generalize w2.drew = w3 at *
      have hpr := HM3.out.node p (by omega)
      have p1 := hpr.cell 1
      have f1 := hpr.free 1
      simp [nodeCells] at p1
      have hm4 := HM3.out.size (show p < l.length by omega) (sizeAt l p + sizeAt l k)
      rw [HZ.out] at hm4
      have HM4 := Lib.hid hm4
      have HT4 := Lib.hid (HT3.out.set hpr (by decide) 1 (.int .i64 (sizeAt l p + sizeAt l k)))
      have HB4 := Lib.hid (HB3.out.setCell (HM3.out.low p (by omega)) (p := ⟨nb p, 1, none⟩) (.int .i64 (sizeAt l p + sizeAt l k)))
      clear hm4 hpr
      go_wp2_with fail
      generalize w3.setCell ⟨nb p, 1, none⟩ (.int .i64 (sizeAt l p + sizeAt l k)) = w4 at *
      clear p1 f1 HM3 HT3 HB3
      have hkr := HM4.out.node k hkl
      obtain ⟨A', c', hcv, hc1, hc2, hc3⟩ := own_full9 (HM4.out.kids k hkl)
      have e2 := hkr.cell 2
      have e3 := hkr.cell 3
      simp [nodeCells, hpn, hcv] at e2 e3
      have hO : Others9 w4.drew nb A' (kids9 (parAt l) l.length k) (cv p).ownBlock := fun h0 => by
        obtain ⟨gk, cs, ee, hr, hx, hb⟩ := hc3 h0
        refine ⟨gk, cs, ee, hr, fun e4 => ?_, hx⟩
        rcases HM4.out.apartC p k (by omega) hkl (by omega) with h | h
        · rw [e4] at h; cases h
        · exact h (by rw [e4, hb])
      obtain ⟨K1, K2, hK⟩ := kids9_at hkl HMG.out.par
      have hkl100 : (kids9 (parAt l) l.length k).length ≤ 100 := by have := kids9_len (parAt l) l.length k; omega
      unfold maxLen at hc2
      have hrp := nodeReplace_any w.heap.size g l.length (nmAt9 l) (mergeZ9 (sizeAt l) p k) (parAt l) (kids9 (parAt l) l.length) nb cv p k K1 K2 (kids9 (parAt l) l.length k) A' c' w4.drew HM4.out.drew9 HT4.out.drew9 (by omega) hkl (by omega) hK (kids9_nodup _ _ _) (fun j hj => (mem_kids9.1 hj).1) (fun j hj => (mem_kids9.1 hj).1) hkl100 hc1 (by omega) hO
      unfold NodePost9 at hrp
      have HRP := Lib.hid hrp
      have HKK := Lib.hid (merge9_kids hv HMG.out hK)
      have HB5 := Lib.hid HB4.out.drew
      clear hrp hK hO hc3 hkr hcv
      go_wp2_with fail
      go_still_tail 9, (by kernel_rfl)
      change wpList _ _ _ _ _ w4.drew
      clear e2 e3
      generalize w4.drew = w5 at *
      go_wp2_with fail
      refine Calls.mono HRP.out ?_
      rintro e w2 ⟨rfl, v2, hm2, ht2, hb2, -⟩
      have HM2 := Lib.hid hm2
      have HT2 := Lib.hid ht2
      have HB2 : Hid (Below w.heap.size w w2) := HB5.out.trans hb2
      clear hm2 ht2 hb2
      obtain ⟨cs, hrow, hcs⟩ := HT2.out.row
      have c0 : w2.cell? ⟨g, 0, none⟩ = some (.pointer (some ⟨nb 0, 0, none⟩)) := by rw [hrow.cell]; exact hcs
      have hl0 : (0 : Int) < (l.length : Int) := by omega
      clear hrow hcs
      go_wp2_with fail
      have hask : Ask9 w2 w.heap.size l.length (nmAt9 l) (mergeZ9 (sizeAt l) p k) (paren9 (parAt l) (kids9 (parAt l) l.length k) p) (upd (kids9 (parAt l) l.length) p (K1 ++ kids9 (parAt l) l.length k ++ K2)) nb (upd cv p v2) (mergeP (parAt l) k p) 0 := ⟨HM2.out, mergeP_fall (tree9_of hv).fall hkl HMG.out.par, by omega, by omega, HKK.out, HSM.out⟩
      have HC := Lib.hid (segments_any _ _ _ _ _ _ _ _ _ _ _ hask)
      rw [HM.out] at HC
      clear hask
      refine Calls.mono HC.out ?_
      rintro e w3 ⟨v, rfl, ho3, hb3⟩
      have HO3 := Lib.hid (treeLow ho3 HB2.out.size)
      have HB3 : Hid (Below w.heap.size w w3) := HB2.out.trans (hb3.mono HB2.out.size)
      clear ho3 hb3
      go_wp2
      go_ret2
      exact ⟨_, rfl, HO3.out, HB3.out⟩

set_option maxRecDepth 100000 in
set_option maxHeartbeats 4000000 in
theorem move_any (A : Option Addr) (l : List Seg) (c : Nat) (s : ByteArray) (w : World) (hw : Segs w w.heap.size A l) (hl : l.length ≤ 1048576) (hlc : l.length ≤ c) (hcm : c ≤ 9223372036854775807) (hn : Short l) (_hs : s.size ≤ 1048576) :
    Calls Try.prog 16 #[.slice A l.length c, .string s] w (TreeAns w (moveL l s) (moveOk l s)) := by
  have HW : Hid (Segs w w.heap.size A l) := hw
  clear hw
  unfold TreeAns
  have HNEG : Hid (indexB l s < 0 → moveL l s = [] ∧ moveOk l s = false) := fun h => ⟨(neg9 h).2.2.2.2.2.2.2.1, (neg9 h).2.2.2.2.2.2.1⟩
  cases hv : validB l with
  | false =>
    have HF := Lib.hid (HNEG.out (bad9 hv))
    rw [HF.out.1, HF.out.2]
    go_enter Try.func16, Try.ntmps16
    go_wp2_with fail
    refine (nodesOf_bad _ _ _ _ HW.out hl hlc hcm hn hv).mono ?_
    rintro e w1 ⟨rfl, hb1⟩
    have HB1 := Lib.hid hb1
    clear hb1
    go_wp2_with fail
    refine (findNode_nil _ _).mono ?_
    rintro e w2 ⟨rfl, rfl⟩
    go_wp2
    go_ret2
    exact ⟨_, rfl, ⟨rfl, .inl ⟨rfl, rfl⟩⟩, HB1.out⟩
  | true =>
    rcases seek_bd l s with hi | ⟨h0, hi⟩
    · have HF := Lib.hid (HNEG.out (gone9 hv hi))
      rw [HF.out.1, HF.out.2]
      have HP : Hid (∀ nb, foundPtr l nb s = none) := fun nb => goneP9 hi
      clear hi
      go_enter Try.func16, Try.ntmps16
      go_wp2_with fail
      refine (nodesOf_any _ _ _ _ HW.out hl hlc hcm hn hv).mono ?_
      rintro e w1 ⟨g, nb, cv, rfl, hN, hb1⟩
      have HB1 := Lib.hid hb1
      have HN := Lib.hid hN
      clear hN hb1
      go_wp2_with fail
      refine (findNode_any _ _ _ _ _ _ _ HN.out hl).mono ?_
      rw [HP.out nb]
      rintro e w2 ⟨rfl, rfl⟩
      go_wp2
      go_ret2
      exact ⟨_, rfl, ⟨rfl, .inl ⟨rfl, rfl⟩⟩, HB1.out⟩
    · obtain ⟨k, hk⟩ := Int.eq_ofNat_of_zero_le h0
      have hkl : k < l.length := by omega
      have HX := Lib.hid (found9 hv hk)
      have HP : Hid (∀ nb, foundPtr l nb s = some ⟨nb k, 0, none⟩) := fun nb => foundPtr9 hk
      have hl8 := (valid_all hv).2.1
      clear hk hi h0
      by_cases hk0 : k = 0
      · have HF : Hid (moveOk l s = false) := by show _ = _; unfold moveOk; rw [decide_eq_false (show ¬ 0 < indexB l s by rw [HX.out.1]; omega), Bool.false_and]
        have HR : Hid (moveL l s = []) := off9.2.2.1 HF.out
        rw [HR.out, HF.out]
        subst hk0
        go_enter Try.func16, Try.ntmps16
        go_wp2_with fail
        refine (nodesOf_any _ _ _ _ HW.out hl hlc hcm hn hv).mono ?_
        rintro e w1 ⟨g, nb, cv, rfl, hN, hb1⟩
        have HB1 := Lib.hid hb1
        have HA := Lib.hid (hN.at9 hv)
        have HN := Lib.hid hN
        clear hN hb1
        go_wp2_with fail
        refine (findNode_any _ _ _ _ _ _ _ HN.out hl).mono ?_
        rw [HP.out nb]
        rintro e w2 ⟨rfl, rfl⟩
        have e2 := (HA.out.mem.node 0 hkl).cell 2
        have hpn : ptr9 nb (parAt l 0) = none := ptr9_neg (tree9_of hv).root
        simp [nodeCells, hpn] at e2
        go_wp2
        go_ret2
        exact ⟨_, rfl, ⟨rfl, .inl ⟨rfl, rfl⟩⟩, HB1.out⟩
      obtain ⟨p, hM, hup⟩ := merge9_at (l := l) (s := s) (by rw [HX.out.1]; omega)
      rw [HX.out.2] at hM
      have hpl := hM.plt
      have HMG := Lib.hid hM
      by_cases hp0 : p = 0
      · have HF : Hid (moveOk l s = false) := by show _ = _; unfold moveOk; rw [HX.out.2, HMG.out.par, hp0, decide_eq_true (show ((0 : Nat) : Int) = 0 by rfl), Bool.not_true, Bool.and_false]
        have HR : Hid (moveL l s = []) := off9.2.2.1 HF.out
        rw [HR.out, HF.out]
        subst hp0
        go_enter Try.func16, Try.ntmps16
        go_wp2_with fail
        refine (nodesOf_any _ _ _ _ HW.out hl hlc hcm hn hv).mono ?_
        rintro e w1 ⟨g, nb, cv, rfl, hN, hb1⟩
        have HB1 := Lib.hid hb1
        have HA := Lib.hid (hN.at9 hv)
        have HN := Lib.hid hN
        clear hN hb1
        go_wp2_with fail
        refine (findNode_any _ _ _ _ _ _ _ HN.out hl).mono ?_
        rw [HP.out nb]
        rintro e w2 ⟨rfl, rfl⟩
        have e2 := (HA.out.mem.node k hkl).cell 2
        have p2 := (HA.out.mem.node 0 (by omega)).cell 2
        have hpn : ptr9 nb (parAt l 0) = none := ptr9_neg (tree9_of hv).root
        have hpk : ptr9 nb (parAt l k) = some ⟨nb 0, 0, none⟩ := by rw [HMG.out.par]; exact ptr9_nat nb 0
        simp [nodeCells, hpn, hpk] at e2 p2
        go_wp2
        go_ret2
        exact ⟨_, rfl, ⟨rfl, .inl ⟨rfl, rfl⟩⟩, HB1.out⟩
      have hfl : moveOk l s = true := by
        unfold moveOk
        rw [HX.out.2, HMG.out.par, decide_eq_true (show 0 < indexB l s by rw [HX.out.1]; omega), decide_eq_false (show ¬ ((p : Nat) : Int) = 0 by omega)]
        rfl
      have HF := Lib.hid hfl
      obtain ⟨p', q, hV, hu', hq'⟩ := move9_at hfl
      rw [HX.out.2] at hV
      have hpp : p' = p := by have h1 := hV.par; have h2 := hM.par; omega
      subst hpp
      have HMV := Lib.hid hV
      have hql := hV.qlt
      have HR : Hid (moveL l s = made9 l (sizeAt l) (moveP (parAt l) k q) 0) := by show _ = _; unfold moveL; rw [if_pos hfl, HX.out.2, hq']
      have HM := Lib.hid (move9_made hv hV)
      have HSM := Lib.hid (move9_small hv hV)
      rw [HR.out, HF.out]
      clear hM hup hV hu' hq' hfl
      go_enter Try.func16, Try.ntmps16
      go_wp2_with fail
      refine (nodesOf_any _ _ _ _ HW.out hl hlc hcm hn hv).mono ?_
      rintro e w1 ⟨g, nb, cv, rfl, hN, hb1⟩
      have HB1 := Lib.hid hb1
      have HA := Lib.hid (hN.at9 hv)
      have HN := Lib.hid hN
      clear hN hb1
      go_wp2_with fail
      refine (findNode_any _ _ _ _ _ _ _ HN.out hl).mono ?_
      rw [HP.out nb]
      rintro e w2 ⟨rfl, rfl⟩
      have e2 := (HA.out.mem.node k hkl).cell 2
      have p2 := (HA.out.mem.node p' (by omega)).cell 2
      have hpn : ptr9 nb (parAt l k) = some ⟨nb p', 0, none⟩ := by rw [HMV.out.par]; exact ptr9_nat nb p'
      have hpq : ptr9 nb (parAt l p') = some ⟨nb q, 0, none⟩ := by rw [HMV.out.up]; exact ptr9_nat nb q
      simp [nodeCells, hpn, hpq] at e2 p2
      obtain ⟨K1, K2, hK⟩ := kids9_at hkl HMV.out.par
      obtain ⟨J1, J2, hJ⟩ := kids9_at (n := l.length) (show p' < l.length by omega) HMV.out.up
      have hrp := nodeReplace_any w.heap.size g l.length (nmAt9 l) (sizeAt l) (parAt l) (kids9 (parAt l) l.length) nb cv p' k K1 K2 [] none 0 w1 HA.out.mem HA.out.top (by omega) hkl (by omega) hK (kids9_nodup _ _ _) (fun j hj => (mem_kids9.1 hj).1) (by simp) (by simp) (by simp) (by omega) (fun h => by simp at h)
      unfold NodePost9 at hrp
      have HRP := Lib.hid hrp
      have HKK := Lib.hid (move9_kids hv HMV.out hK hJ)
      have HJ := Lib.hid hJ
      clear hrp hK hJ
      go_wp2_with fail
      refine Calls.mono HRP.out ?_
      rintro e w3 ⟨rfl, v3, hm3, ht3, hb3, -⟩
      have hb4 : Below w3.heap.size w3 (w3.alloc (.cells #[.pointer (some ⟨nb p', 0, none⟩), .pointer (some ⟨nb k, 0, none⟩)] 56)) := (Below.refl _ w3).alloc (Nat.le_refl _) _
      have HM4 := Lib.hid (hm3.below hb4)
      have HT4 := Lib.hid (ht3.below hb4)
      have HB4 : Hid (Below w.heap.size w (w3.alloc (.cells #[.pointer (some ⟨nb p', 0, none⟩), .pointer (some ⟨nb k, 0, none⟩)] 56))) := (HB1.out.trans hb3).trans (hb4.mono (by have h1 := HB1.out.size; have h2 := hb3.size; omega))
      have hqn : upd (kids9 (parAt l) l.length) p' (K1 ++ [] ++ K2) q = J1 ++ p' :: J2 := by rw [upd_ne _ _ (by omega)]; exact HJ.out
      have hnd : (upd (kids9 (parAt l) l.length) p' (K1 ++ [] ++ K2) q).Nodup := by rw [upd_ne _ _ (by omega)]; exact kids9_nodup _ _ _
      have hkn : ∀ j ∈ upd (kids9 (parAt l) l.length) p' (K1 ++ [] ++ K2) q, j < l.length := by rw [upd_ne _ _ (by omega)]; exact fun j hj => (mem_kids9.1 hj).1
      have hO : Others9 (w3.alloc (.cells #[.pointer (some ⟨nb p', 0, none⟩), .pointer (some ⟨nb k, 0, none⟩)] 56)) nb (some ⟨w3.heap.size, 0, none⟩) [p', k] ((upd cv p' v3) q).ownBlock := fun _ =>
        ⟨w3.heap.size, _, rfl, Row.new w3 _ _, fun e => by have := ((hm3.kids q (by omega)).lt _ e).2; omega, fun j u hj => by
          match j, hj with
          | 0, hj => exact hj
          | 1, hj => exact hj
          | j + 2, hj => simp [ptrsOf] at hj⟩
      have hrp := nodeReplace_any w.heap.size g l.length (nmAt9 l) (sizeAt l) (paren9 (parAt l) [] p') (upd (kids9 (parAt l) l.length) p' (K1 ++ [] ++ K2)) nb (upd cv p' v3) q p' J1 J2 [p', k] (some ⟨w3.heap.size, 0, none⟩) 2 _ HM4.out HT4.out (by omega) (by omega) (by omega) hqn hnd hkn (by simp; omega) (by simp) (by simp) (by omega) hO
      unfold NodePost9 at hrp
      have HRP2 := Lib.hid hrp
      have hp3 := hm3.node p' (by omega)
      have p3 := hp3.cell 2
      have hpq2 : ptr9 nb (paren9 (parAt l) [] p' p') = some ⟨nb q, 0, none⟩ := by
        have h1 : paren9 (parAt l) [] p' p' = parAt l p' := if_neg (by simp)
        rw [h1]; exact hpq
      simp [nodeCells, hpq2] at p3
      clear hrp hO hqn hnd hkn hp3 hm3 ht3 hb3 hb4 e2 p2
      go_wp2_with fail
      refine Calls.mono HRP2.out ?_
      rintro e w2 ⟨rfl, v2, hm2, ht2, hb2, -⟩
      have HM2 := Lib.hid hm2
      have HT2 := Lib.hid ht2
      have HB2 : Hid (Below w.heap.size w w2) := HB4.out.trans hb2
      clear hm2 ht2 hb2 p3
      obtain ⟨cs, hrow, hcs⟩ := HT2.out.row
      have c0 : w2.cell? ⟨g, 0, none⟩ = some (.pointer (some ⟨nb 0, 0, none⟩)) := by rw [hrow.cell]; exact hcs
      have hl0 : (0 : Int) < (l.length : Int) := by omega
      clear hrow hcs
      go_wp2_with fail
      have hask : Ask9 w2 w.heap.size l.length (nmAt9 l) (sizeAt l) (paren9 (paren9 (parAt l) [] p') [p', k] q) (upd (upd (kids9 (parAt l) l.length) p' (K1 ++ [] ++ K2)) q (J1 ++ [p', k] ++ J2)) nb (upd (upd cv p' v3) q v2) (moveP (parAt l) k q) 0 := ⟨HM2.out, HMV.out.fall, by omega, by omega, fun j _ => HKK.out j, HSM.out⟩
      have HC := Lib.hid (segments_any _ _ _ _ _ _ _ _ _ _ _ hask)
      rw [HM.out] at HC
      clear hask
      refine Calls.mono HC.out ?_
      rintro e w3 ⟨v, rfl, ho3, hb3⟩
      have HO3 := Lib.hid (treeLow ho3 HB2.out.size)
      have HB3 : Hid (Below w.heap.size w w3) := HB2.out.trans (hb3.mono HB2.out.size)
      clear ho3 hb3
      go_wp2
      go_ret2
      exact ⟨_, rfl, HO3.out, HB3.out⟩

end Go.Proofs.Ytadichddgpojpaa
/- The walk of the law FnExactMoveUp. -/
namespace Go.Proofs.Ytadichddgpojpaa
open Go.RowKit

set_option maxRecDepth 100000 in
set_option maxHeartbeats 4000000 in
theorem lawMoveUp_any (A : Option Addr) (l : List Seg) (c : Nat) (s : ByteArray) (w : World) (hw : Segs w w.heap.size A l) (hl : l.length ≤ maxLen) (hn : Short l) (hsz : s.size ≤ maxLen) :
    Calls Try.prog 8 #[.slice A l.length c, .string s] w fun e w' => e = .returned (.bool true) ∧ Below w.heap.size w w' := by
  have HW : Hid (Segs w w.heap.size A l) := hw
  clear hw
  unfold maxLen at hsz
  by_cases hbig : 1048576 < s.size
  · go_enter Try.func8, Try.ntmps8
    go_wp2
    go_ret
    exact ⟨rfl, Below.refl _ _⟩
  by_cases hs : sizeLeft l < 0
  · go_enter Try.func8, Try.ntmps8
    go_wp2_with fail
    refine (szSegmentS_any _ _ _ _ HW.out hl hn).mono ?_
    rintro e w1 ⟨rfl, hb1⟩
    go_wp2
    go_ret
    exact ⟨rfl, hb1⟩
  have hlen := sizeLeft_len hs
  have hsl := sizeLeft_le l
  have hlm : l.length ≤ 9223372036854775807 := Nat.le_trans hlen (by decide)
  have HSP := Lib.hid (fun A c W h1 => specMove_any A l c s W h1 hlen hn (Nat.le_of_not_lt hbig))
  have HIM := Lib.hid (fun A W h1 => move_any A l l.length s W h1 hlen (Nat.le_refl _) hlm hn (Nat.le_of_not_lt hbig))
  unfold TreeAns at HSP HIM
  have hrs : (moveL l s).length ≤ 200 := moveL_len l s
  generalize moveL l s = rs at *
  generalize moveOk l s = d at *
  go_enter Try.func8, Try.ntmps8
  go_wp2_with fail
  refine (szSegmentS_any _ _ _ _ HW.out hl hn).mono ?_
  rintro e w1 ⟨rfl, hb1⟩
  have HB1 := Lib.hid hb1
  clear hb1
  go_wp2_with fail
  refine (toSegmentS_any _ _ _ _ ((HW.out.below HB1.out).more HB1.out.size) hlen).mono ?_
  rintro e w2 ⟨rfl, hb2, hx2⟩
  have HX := Lib.hid hx2
  clear hx2
  have HB2 : Hid (Below w.heap.size w w2) := HB1.out.trans (hb2.mono HB1.out.size)
  clear hb2 HB1
  go_wp2_with fail
  refine (HSP.out _ _ _ HX.out).mono ?_
  rintro e w3 ⟨v0, rfl, ho3, hb3⟩
  obtain ⟨A0, cap0, rfl, -⟩ := ho3.form
  have HO : Hid (OwnTree w3 w2.heap.size (.slice A0 rs.length cap0) rs) := ho3
  have HL : Hid (∀ g, (Value.slice A0 rs.length cap0).ownBlock = some g → g < w3.heap.size) := fun g hg => (World.ownsRow.lt ho3 g hg).2
  have HZ5 : Hid (w.heap.size ≤ w3.heap.size) := Nat.le_trans HB2.out.size hb3.size
  clear ho3 HSP
  clear HX
  have HB3 : Hid (Below w.heap.size w w3) := HB2.out.trans (hb3.mono HB2.out.size)
  clear hb3 HB2
  go_wp2_with fail
  refine (St.toSegmentS_row _ _ _ _ ((HW.out.below HB3.out).more HB3.out.size) hlen).mono ?_
  rintro e w4 ⟨rfl, hb4, hx4, cs, hr4, hcs⟩
  have HX := Lib.hid hx4
  have HR := Lib.hid hr4
  have HCS := Lib.hid hcs
  have HZ6 : Hid (w3.heap.size < w4.heap.size) := hr4.lt
  clear hx4 hr4 hcs
  have HB4 : Hid (Below w.heap.size w w4) := HB3.out.trans (hb4.mono HB3.out.size)
  have HO := Lib.hid (treeBelow HO.out hb4)
  clear hb4 HB3
  go_wp2_with fail
  refine (HIM.out _ _ HX.out).mono ?_
  rintro e w5 ⟨v1, rfl, ho5, hb5⟩
  obtain ⟨A1, cap1, rfl, -⟩ := ho5.form
  have HP : Hid (OwnTree w5 w4.heap.size (.slice A1 rs.length cap1) rs) := ho5
  clear ho5
  have HB5 : Hid (Below w.heap.size w w5) := HB4.out.trans (hb5.mono HB4.out.size)
  have HO := Lib.hid (treeBelow HO.out hb5)
  have HX := Lib.hid ((HX.out.below hb5).more hb5.size)
  have HR := Lib.hid (HR.out.below hb5 HR.out.lt)
  clear hb5 HB4
  go_wp2_with fail
  refine (eqSegmentS_same A1 A0 rs cap1 cap0 w5 (treeIs HP.out) (treeIs HO.out) (by omega)).mono ?_
  rintro e w6 ⟨rfl, hb6⟩
  have HB6 : Hid (Below w.heap.size w w6) := HB5.out.trans (hb6.mono HB5.out.size)
  have HO := Lib.hid (treeBelow HO.out hb6)
  have HX := Lib.hid ((HX.out.below hb6).more hb6.size)
  have HR := Lib.hid (HR.out.below hb6 HR.out.lt)
  have HP := Lib.hid (treeBelow HP.out hb6)
  clear hb6 HB5
  go_wp2_with fail
  refine (toSegmentS_any _ _ _ _ ((HW.out.below HB6.out).more HB6.out.size) hlen).mono ?_
  rintro e w7 ⟨rfl, hb7, hx7⟩
  have HX2 := Lib.hid hx7
  clear hx7
  have HB7 : Hid (Below w.heap.size w w7) := HB6.out.trans (hb7.mono HB6.out.size)
  have HO := Lib.hid (treeBelow HO.out hb7)
  have HX := Lib.hid ((HX.out.below hb7).more hb7.size)
  have HR := Lib.hid (HR.out.below hb7 HR.out.lt)
  have HP := Lib.hid (treeBelow HP.out hb7)
  clear hb7 HB6
  go_wp2_with fail
  refine (eqSegmentS_same _ _ _ _ _ _ HX.out HX2.out hlen).mono ?_
  rintro e w8 ⟨rfl, hb8⟩
  have HB8 : Hid (Below w.heap.size w w8) := HB7.out.trans (hb8.mono HB7.out.size)
  have HO := Lib.hid (treeBelow HO.out hb8)
  have HX := Lib.hid ((HX.out.below hb8).more hb8.size)
  have HR := Lib.hid (HR.out.below hb8 HR.out.lt)
  have HP := Lib.hid (treeBelow HP.out hb8)
  have HX2 := Lib.hid ((HX2.out.below hb8).more hb8.size)
  clear hb8 HB7
  clear HX HX2
  go_wp2_with fail
  refine (mark1 w3.heap.size l.length l.length cs w8 HR.out HCS.out hlen).mono ?_
  rintro e w9 ⟨rfl, hy9⟩
  have HB9 : Hid (Below w.heap.size w w9) := Only.below HB8.out hy9 HB8.out.size (fun k hk e => by have := HZ5.out; omega)
  have HO := Lib.hid (treeFar HO.out hy9 (fun g hg e => by have := HL.out g hg; omega))
  have HP := Lib.hid (treeFar HP.out hy9 (fun g hg e => by have := (World.ownsRow.lt HP.out g hg).1; have := HZ6.out; omega))
  clear hy9 HR HCS HB8
  have hk0 : 0 < 1 + 3 * l.length := by omega
  have hk9 : 1 + 3 * l.length ≤ 4000000 := by omega
  have hkn : (0 : Int) ≤ ((1 + 3 * l.length : Nat) : Int) := Int.natCast_nonneg _
  have hkn' : ¬ ((1 + 3 * l.length : Nat) : Int) < 0 := by omega
  generalize ((1 + 3 * l.length : Nat) : Int) = kt at *
  go_wp2_with fail
  refine (eqSegmentS_same A1 A0 rs cap1 cap0 w9 (treeIs HP.out) (treeIs HO.out) (by omega)).mono ?_
  rintro e w10 ⟨rfl, hb10⟩
  have HB10 : Hid (Below w.heap.size w w10) := HB9.out.trans (hb10.mono HB9.out.size)
  have HO := Lib.hid (treeBelow HO.out hb10)
  have HP := Lib.hid (treeBelow HP.out hb10)
  clear hb10 HB9
  go_wp2_with fail
  refine (tmark1 _ _ rs w10 HP.out (by omega)).mono ?_
  rintro e w11 ⟨rfl, ho11, hy11⟩
  have HB11 : Hid (Below w.heap.size w w11) := Only.below HB10.out hy11 HB10.out.size (fun k hk e => by have := (World.ownsRow.lt HP.out k e).1; have := HZ5.out; have := HZ6.out; omega)
  have HO := Lib.hid (treeFar HO.out hy11 (fun g hg e => by have := HL.out g hg; have := (World.ownsRow.lt HP.out g e).1; have := HZ6.out; omega))
  have HM : Hid (Segs w11 w11.heap.size A1 (marked rs 1 rs.length)) := treeIs ho11
  clear ho11 hy11 HB10 HP
  have hm1 : ¬ ((1 + 3 * rs.length : Nat) : Int) < 0 := by omega
  have hm0 : (0 : Int) ≤ ((1 + 3 * rs.length : Nat) : Int) := by omega
  have HH := Lib.hid (fun W h => theld1 A1 rs.length cap1 rs W rfl h (by omega))
  generalize ((1 + 3 * rs.length : Nat) : Int) = m at *
  go_wp2_with fail
  refine Calls.mono (HH.out w11 HM.out) ?_
  rintro e w12 ⟨rfl, hb12⟩
  have HB12 : Hid (Below w.heap.size w w12) := HB11.out.trans (hb12.mono HB11.out.size)
  have HO := Lib.hid (treeBelow HO.out hb12)
  have HM := Lib.hid ((HM.out.below hb12).more hb12.size)
  clear hb12 HB11
  go_wp2_with fail
  refine (toSegmentS_any _ _ _ _ ((HW.out.below HB12.out).more HB12.out.size) hlen).mono ?_
  rintro e w13 ⟨rfl, hb13, hx13⟩
  have HX := Lib.hid hx13
  clear hx13
  have HB13 : Hid (Below w.heap.size w w13) := HB12.out.trans (hb13.mono HB12.out.size)
  have HO := Lib.hid (treeBelow HO.out hb13)
  have HM := Lib.hid ((HM.out.below hb13).more hb13.size)
  clear hb13 HB12
  go_wp2_with fail
  refine (HIM.out _ _ HX.out).mono ?_
  rintro e w14 ⟨v2, rfl, ho14, hb14⟩
  obtain ⟨A3, cap3, rfl, hf14⟩ := ho14.form
  have HV : Hid (Segs w14 w14.heap.size A3 rs) := hf14
  clear ho14 hf14
  clear HX
  have HB14 : Hid (Below w.heap.size w w14) := HB13.out.trans (hb14.mono HB13.out.size)
  have HO := Lib.hid (treeBelow HO.out hb14)
  have HM := Lib.hid ((HM.out.below hb14).more hb14.size)
  clear hb14 HB13
  go_wp2_with fail
  refine (eqSegmentS_same A3 A0 rs cap3 cap0 w14 HV.out (treeIs HO.out) (by omega)).mono ?_
  rintro e w15 ⟨rfl, hb15⟩
  have HB15 : Hid (Below w.heap.size w w15) := HB14.out.trans (hb15.mono HB14.out.size)
  have HO := Lib.hid (treeBelow HO.out hb15)
  have HM := Lib.hid ((HM.out.below hb15).more hb15.size)
  have HV := Lib.hid ((HV.out.below hb15).more hb15.size)
  clear hb15 HB14
  go_wp2_with fail
  refine Calls.mono (HH.out w15 HM.out) ?_
  rintro e w16 ⟨rfl, hb16⟩
  have HB16 : Hid (Below w.heap.size w w16) := HB15.out.trans (hb16.mono HB15.out.size)
  clear hb16 HB15
  go_wp2
  go_ret
  exact ⟨rfl, HB16.out⟩

end Go.Proofs.Ytadichddgpojpaa
