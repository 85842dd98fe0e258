/- Joined: Vn Kg. -/
import Derived.Test.YtadichddgpojpaaU19
import Derived.Test.YtadichddgpojpaaU12
import Derived.Test.YtadichddgpojpaaU01
/- Chapter 9: the program's functions that change a tree. -/
namespace Go.Proofs.Ytadichddgpojpaa
open Go.RowKit

theorem found9 {l : List Seg} {s : ByteArray} {k : Nat} (hv : validB l = true) (h : seek l s = (k : Int)) : indexB l s = (k : Int) ∧ ix9 l s = k := by
  have h1 : indexB l s = (k : Int) := (if_pos hv).trans h
  exact ⟨h1, by unfold ix9; rw [h1]; rfl⟩
theorem gone9 {l : List Seg} {s : ByteArray} (hv : validB l = true) (h : seek l s = -1) : indexB l s < 0 := by
  have h1 : indexB l s = -1 := (if_pos hv).trans h
  omega
theorem foundPtr9 {l : List Seg} {nb : Nat → Nat} {s : ByteArray} {k : Nat} (h : seek l s = (k : Int)) : foundPtr l nb s = some ⟨nb k, 0, none⟩ := by
  unfold foundPtr
  rw [h, if_neg (by omega), Int.toNat_natCast]
theorem goneP9 {l : List Seg} {nb : Nat → Nat} {s : ByteArray} (h : seek l s = -1) : foundPtr l nb s = none := if_pos (by omega)

set_option maxRecDepth 100000 in
set_option maxHeartbeats 4000000 in
theorem subTree_any (A : Option Addr) (l : List Seg) (c : Nat) (s : ByteArray) (w : World) (hw : Segs w w.heap.size A l) (hl : l.length ≤ 1048576) (hlc : l.length ≤ c) (hcm : c ≤ 9223372036854775807) (hn : Short l) (_hs : s.size ≤ 1048576) :
    Calls Try.prog 28 #[.slice A l.length c, .string s] w (TreeAns w (subL l s) (subOk l s)) := by
  have HW : Hid (Segs w w.heap.size A l) := hw
  clear hw
  unfold TreeAns
  have HNEG : Hid (indexB l s < 0 → subL l s = [] ∧ subOk l s = false) := fun h => ⟨(neg9 h).2.1, (neg9 h).1⟩
  cases hv : validB l with
  | false =>
    have HF := Lib.hid (HNEG.out (bad9 hv))
    rw [HF.out.1, HF.out.2]
    go_enter Try.func28, Try.ntmps28
    go_wp2_with fail
    refine (nodesOf_bad _ _ _ _ HW.out hl hlc hcm hn hv).mono ?_
    rintro e w1 ⟨rfl, hb1⟩
    have HB1 := Lib.hid hb1
    clear hb1
    go_wp2_with fail
    refine (findNode_nil _ _).mono ?_
    rintro e w2 ⟨rfl, rfl⟩
    go_wp2
    go_ret2
    exact ⟨_, rfl, ⟨rfl, .inl ⟨rfl, rfl⟩⟩, HB1.out⟩
  | true =>
    rcases seek_bd l s with hi | ⟨h0, hi⟩
    · have HF := Lib.hid (HNEG.out (gone9 hv hi))
      rw [HF.out.1, HF.out.2]
      have HP : Hid (∀ nb, foundPtr l nb s = none) := fun nb => goneP9 hi
      clear hi
      go_enter Try.func28, Try.ntmps28
      go_wp2_with fail
      refine (nodesOf_any _ _ _ _ HW.out hl hlc hcm hn hv).mono ?_
      rintro e w1 ⟨g, nb, cv, rfl, hN, hb1⟩
      have HB1 := Lib.hid hb1
      have HN := Lib.hid hN
      clear hN hb1
      go_wp2_with fail
      refine (findNode_any _ _ _ _ _ _ _ HN.out hl).mono ?_
      rw [HP.out nb]
      rintro e w2 ⟨rfl, rfl⟩
      go_wp2
      go_ret2
      exact ⟨_, rfl, ⟨rfl, .inl ⟨rfl, rfl⟩⟩, HB1.out⟩
    · obtain ⟨k, hk⟩ := Int.eq_ofNat_of_zero_le h0
      have hkl : k < l.length := by omega
      have HX := Lib.hid (found9 hv hk)
      have HP : Hid (∀ nb, foundPtr l nb s = some ⟨nb k, 0, none⟩) := fun nb => foundPtr9 hk
      have hl8 := (valid_all hv).2.1
      clear hk hi h0
      have HF : Hid (subOk l s = true) := decide_eq_true (by rw [HX.out.1]; omega)
      have HR : Hid (subL l s = made9 l (sizeAt l) (parAt l) k) := by show _ = _; unfold subL; rw [if_pos HF.out, HX.out.2]
      have HM := Lib.hid (sub9_made hv hkl)
      rw [HR.out, HF.out]
      go_enter Try.func28, Try.ntmps28
      go_wp2_with fail
      refine (nodesOf_any _ _ _ _ HW.out hl hlc hcm hn hv).mono ?_
      rintro e w1 ⟨g, nb, cv, rfl, hN, hb1⟩
      have HB1 := Lib.hid hb1
      have HA := Lib.hid (hN.at9 hv)
      have HN := Lib.hid hN
      clear hN hb1
      go_wp2_with fail
      refine (findNode_any _ _ _ _ _ _ _ HN.out hl).mono ?_
      rw [HP.out nb]
      rintro e w2 ⟨rfl, rfl⟩
      go_wp2_with fail
      have hask : Ask9 w1 w.heap.size l.length (nmAt9 l) (sizeAt l) (parAt l) (kids9 (parAt l) l.length) nb cv (parAt l) k := ⟨HA.out.mem, HA.out.fall, by omega, hkl, fun _ _ => rfl, HA.out.small⟩
      have HC := Lib.hid (segments_any _ _ _ _ _ _ _ _ _ _ _ hask)
      rw [HM.out] at HC
      clear hask
      refine Calls.mono HC.out ?_
      rintro e w3 ⟨v, rfl, ho3, hb3⟩
      have HO3 := Lib.hid (treeLow ho3 HB1.out.size)
      have HB3 : Hid (Below w.heap.size w w3) := HB1.out.trans (hb3.mono HB1.out.size)
      clear ho3 hb3
      go_wp2
      go_ret2
      exact ⟨_, rfl, HO3.out, HB3.out⟩

theorem sizeValid9 (x : Int) (w : World) : Calls Try.prog 51 #[.int .i64 x] w fun e w' => e = .returned (.bool (sizeOk x)) ∧ w' = w := (sizeValid_any x w).mono fun _ _ h => ⟨h.1, h.2.symm⟩

set_option maxRecDepth 100000 in
set_option maxHeartbeats 4000000 in
theorem resize_any (A : Option Addr) (l : List Seg) (c : Nat) (s : ByteArray) (x : Int) (w : World) (hw : Segs w w.heap.size A l) (hl : l.length ≤ 1048576) (hlc : l.length ≤ c) (hcm : c ≤ 9223372036854775807) (hn : Short l) (_hs : s.size ≤ 1048576) :
    Calls Try.prog 44 #[.slice A l.length c, .string s, .int .i64 x] w (TreeAns w (resizeL l s x) (resizeOk l s x)) := by
  have HW : Hid (Segs w w.heap.size A l) := hw
  clear hw
  unfold TreeAns
  have HNEG : Hid (indexB l s < 0 → resizeL l s x = [] ∧ resizeOk l s x = false) := fun h => ⟨(neg9 h).2.2.2.2.2.2.2.2.2 x, (neg9 h).2.2.2.2.2.2.2.2.1 x⟩
  cases hv : validB l with
  | false =>
    have HF := Lib.hid (HNEG.out (bad9 hv))
    rw [HF.out.1, HF.out.2]
    go_enter Try.func44, Try.ntmps44
    go_wp2_with fail
    refine (nodesOf_bad _ _ _ _ HW.out hl hlc hcm hn hv).mono ?_
    rintro e w1 ⟨rfl, hb1⟩
    have HB1 := Lib.hid hb1
    clear hb1
    go_wp2_with fail
    refine (findNode_nil _ _).mono ?_
    rintro e w2 ⟨rfl, rfl⟩
    go_wp2
    go_ret2
    exact ⟨_, rfl, ⟨rfl, .inl ⟨rfl, rfl⟩⟩, HB1.out⟩
  | true =>
    rcases seek_bd l s with hi | ⟨h0, hi⟩
    · have HF := Lib.hid (HNEG.out (gone9 hv hi))
      rw [HF.out.1, HF.out.2]
      have HP : Hid (∀ nb, foundPtr l nb s = none) := fun nb => goneP9 hi
      clear hi
      go_enter Try.func44, Try.ntmps44
      go_wp2_with fail
      refine (nodesOf_any _ _ _ _ HW.out hl hlc hcm hn hv).mono ?_
      rintro e w1 ⟨g, nb, cv, rfl, hN, hb1⟩
      have HB1 := Lib.hid hb1
      have HN := Lib.hid hN
      clear hN hb1
      go_wp2_with fail
      refine (findNode_any _ _ _ _ _ _ _ HN.out hl).mono ?_
      rw [HP.out nb]
      rintro e w2 ⟨rfl, rfl⟩
      go_wp2
      go_ret2
      exact ⟨_, rfl, ⟨rfl, .inl ⟨rfl, rfl⟩⟩, HB1.out⟩
    · obtain ⟨k, hk⟩ := Int.eq_ofNat_of_zero_le h0
      have hkl : k < l.length := by omega
      have HX := Lib.hid (found9 hv hk)
      have HP : Hid (∀ nb, foundPtr l nb s = some ⟨nb k, 0, none⟩) := fun nb => foundPtr9 hk
      have hl8 := (valid_all hv).2.1
      clear hk hi h0
      have HM := Lib.hid (resize9_eq hv hkl x)
      have HFL : Hid (resizeOk l s x = sizeOk x) := by show _ = _; unfold resizeOk; rw [decide_eq_true (show 0 ≤ indexB l s by rw [HX.out.1]; omega), Bool.true_and]
      cases hz : sizeOk x with
      | false =>
        have HF : Hid (resizeOk l s x = false) := HFL.out.trans hz
        have HR : Hid (resizeL l s x = []) := off9.2.2.2 x HF.out
        rw [HR.out, HF.out]
        go_enter Try.func44, Try.ntmps44
        go_wp2_with fail
        refine (nodesOf_any _ _ _ _ HW.out hl hlc hcm hn hv).mono ?_
        rintro e w1 ⟨g, nb, cv, rfl, hN, hb1⟩
        have HB1 := Lib.hid hb1
        have HA := Lib.hid (hN.at9 hv)
        have HN := Lib.hid hN
        clear hN hb1
        go_wp2_with fail
        refine (findNode_any _ _ _ _ _ _ _ HN.out hl).mono ?_
        rw [HP.out nb]
        rintro e w2 ⟨rfl, rfl⟩
        go_wp2_with fail
        refine (sizeValid9 x _).mono ?_
        rw [hz]
        rintro e w3 ⟨rfl, rfl⟩
        go_wp2
        go_ret2
        exact ⟨_, rfl, ⟨rfl, .inl ⟨rfl, rfl⟩⟩, HB1.out⟩
      | true =>
      have HF : Hid (resizeOk l s x = true) := HFL.out.trans hz
      have HR : Hid (resizeL l s x = l.set k ⟨nmAt9 l k, x, parAt l k⟩) := by show _ = _; unfold resizeL; rw [if_pos HF.out, HX.out.2]
      rw [HR.out, HF.out]
      go_enter Try.func44, Try.ntmps44
      go_wp2_with fail
      refine (nodesOf_any _ _ _ _ HW.out hl hlc hcm hn hv).mono ?_
      rintro e w1 ⟨g, nb, cv, rfl, hN, hb1⟩
      have HB1 := Lib.hid hb1
      have HA := Lib.hid (hN.at9 hv)
      have HN := Lib.hid hN
      clear hN hb1
      go_wp2_with fail
      refine (findNode_any _ _ _ _ _ _ _ HN.out hl).mono ?_
      rw [HP.out nb]
      rintro e w2 ⟨rfl, rfl⟩
      go_wp2_with fail
      refine (sizeValid9 x _).mono ?_
      rw [hz]
      rintro e w0 ⟨rfl, hw0⟩
      have hw0 := hw0.symm
      subst hw0
      have hnk := HA.out.mem.node k hkl
      have e1 := hnk.cell 1
      have f1 := hnk.free 1
      have HM2 := Lib.hid (HA.out.mem.size hkl x)
      have HT2 := Lib.hid (HA.out.top.set hnk (by decide) 1 (.int .i64 x))
      have HB2 := Lib.hid (HB1.out.setCell (HA.out.mem.low k hkl) (p := ⟨nb k, 1, none⟩) (.int .i64 x))
      simp [nodeCells] at e1
      clear hnk hz
      obtain ⟨cs, hrow, hcs⟩ := HT2.out.row
      have c0 : (w1.setCell ⟨nb k, 1, none⟩ (.int .i64 x)).cell? ⟨g, 0, none⟩ = some (.pointer (some ⟨nb 0, 0, none⟩)) := by rw [hrow.cell]; exact hcs
      have hl0 : (0 : Int) < (l.length : Int) := by omega
      clear hrow hcs
      go_wp2_with fail
      clear c0 e1 f1
      generalize w1.setCell ⟨nb k, 1, none⟩ (.int .i64 x) = w2 at *
      have hask : Ask9 w2 w.heap.size l.length (nmAt9 l) (resizeZ9 (sizeAt l) k x) (parAt l) (kids9 (parAt l) l.length) nb cv (parAt l) 0 := ⟨HM2.out, HA.out.fall, by omega, by omega, fun _ _ => rfl, HA.out.small⟩
      have HC := Lib.hid (segments_any _ _ _ _ _ _ _ _ _ _ _ hask)
      rw [HM.out] at HC
      clear hask
      refine Calls.mono HC.out ?_
      rintro e w3 ⟨v, rfl, ho3, hb3⟩
      have HO3 := Lib.hid (treeLow ho3 HB2.out.size)
      have HB3 : Hid (Below w.heap.size w w3) := HB2.out.trans (hb3.mono HB2.out.size)
      clear ho3 hb3
      go_wp2
      go_ret2
      exact ⟨_, rfl, HO3.out, HB3.out⟩

set_option maxRecDepth 100000 in
set_option maxHeartbeats 4000000 in
theorem prune_any (A : Option Addr) (l : List Seg) (c : Nat) (s : ByteArray) (w : World) (hw : Segs w w.heap.size A l) (hl : l.length ≤ 1048576) (hlc : l.length ≤ c) (hcm : c ≤ 9223372036854775807) (hn : Short l) (_hs : s.size ≤ 1048576) :
    Calls Try.prog 26 #[.slice A l.length c, .string s] w (TreeAns w (pruneL l s) (pruneOk l s)) := by
  have HW : Hid (Segs w w.heap.size A l) := hw
  clear hw
  unfold TreeAns
  have HNEG : Hid (indexB l s < 0 → pruneL l s = [] ∧ pruneOk l s = false) := fun h => ⟨(neg9 h).2.2.2.1, (neg9 h).2.2.1⟩
  cases hv : validB l with
  | false =>
    have HF := Lib.hid (HNEG.out (bad9 hv))
    rw [HF.out.1, HF.out.2]
    go_enter Try.func26, Try.ntmps26
    go_wp2_with fail
    refine (nodesOf_bad _ _ _ _ HW.out hl hlc hcm hn hv).mono ?_
    rintro e w1 ⟨rfl, hb1⟩
    have HB1 := Lib.hid hb1
    clear hb1
    go_wp2_with fail
    refine (findNode_nil _ _).mono ?_
    rintro e w2 ⟨rfl, rfl⟩
    go_wp2
    go_ret2
    exact ⟨_, rfl, ⟨rfl, .inl ⟨rfl, rfl⟩⟩, HB1.out⟩
  | true =>
    rcases seek_bd l s with hi | ⟨h0, hi⟩
    · have HF := Lib.hid (HNEG.out (gone9 hv hi))
      rw [HF.out.1, HF.out.2]
      have HP : Hid (∀ nb, foundPtr l nb s = none) := fun nb => goneP9 hi
      clear hi
      go_enter Try.func26, Try.ntmps26
      go_wp2_with fail
      refine (nodesOf_any _ _ _ _ HW.out hl hlc hcm hn hv).mono ?_
      rintro e w1 ⟨g, nb, cv, rfl, hN, hb1⟩
      have HB1 := Lib.hid hb1
      have HN := Lib.hid hN
      clear hN hb1
      go_wp2_with fail
      refine (findNode_any _ _ _ _ _ _ _ HN.out hl).mono ?_
      rw [HP.out nb]
      rintro e w2 ⟨rfl, rfl⟩
      go_wp2
      go_ret2
      exact ⟨_, rfl, ⟨rfl, .inl ⟨rfl, rfl⟩⟩, HB1.out⟩
    · obtain ⟨k, hk⟩ := Int.eq_ofNat_of_zero_le h0
      have hkl : k < l.length := by omega
      have HX := Lib.hid (found9 hv hk)
      have HP : Hid (∀ nb, foundPtr l nb s = some ⟨nb k, 0, none⟩) := fun nb => foundPtr9 hk
      have hl8 := (valid_all hv).2.1
      clear hk hi h0
      by_cases hk0 : k = 0
      · have HF : Hid (pruneOk l s = false) := decide_eq_false (by rw [HX.out.1]; omega)
        have HR : Hid (pruneL l s = []) := off9.1 HF.out
        rw [HR.out, HF.out]
        subst hk0
        go_enter Try.func26, Try.ntmps26
        go_wp2_with fail
        refine (nodesOf_any _ _ _ _ HW.out hl hlc hcm hn hv).mono ?_
        rintro e w1 ⟨g, nb, cv, rfl, hN, hb1⟩
        have HB1 := Lib.hid hb1
        have HA := Lib.hid (hN.at9 hv)
        have HN := Lib.hid hN
        clear hN hb1
        go_wp2_with fail
        refine (findNode_any _ _ _ _ _ _ _ HN.out hl).mono ?_
        rw [HP.out nb]
        rintro e w2 ⟨rfl, rfl⟩
        have e2 := (HA.out.mem.node 0 hkl).cell 2
        have hpn : ptr9 nb (parAt l 0) = none := ptr9_neg (tree9_of hv).root
        simp [nodeCells, hpn] at e2
        go_wp2
        go_ret2
        exact ⟨_, rfl, ⟨rfl, .inl ⟨rfl, rfl⟩⟩, HB1.out⟩
      obtain ⟨p, hM, hup⟩ := merge9_at (l := l) (s := s) (by rw [HX.out.1]; omega)
      rw [HX.out.2] at hM
      have hpl := hM.plt
      have HMG := Lib.hid hM
      have HF : Hid (pruneOk l s = true) := decide_eq_true (by rw [HX.out.1]; omega)
      have HR : Hid (pruneL l s = made9 l (sizeAt l) (pruneP (parAt l) k) 0) := by show _ = _; unfold pruneL; rw [if_pos HF.out, HX.out.2]
      have HM := Lib.hid (prune9_made (p := p) hv hkl (by omega))
      rw [HR.out, HF.out]
      clear hM hup
      go_enter Try.func26, Try.ntmps26
      go_wp2_with fail
      refine (nodesOf_any _ _ _ _ HW.out hl hlc hcm hn hv).mono ?_
      rintro e w1 ⟨g, nb, cv, rfl, hN, hb1⟩
      have HB1 := Lib.hid hb1
      have HA := Lib.hid (hN.at9 hv)
      have HN := Lib.hid hN
      clear hN hb1
      go_wp2_with fail
      refine (findNode_any _ _ _ _ _ _ _ HN.out hl).mono ?_
      rw [HP.out nb]
      rintro e w2 ⟨rfl, rfl⟩
      have e2 := (HA.out.mem.node k hkl).cell 2
      have hpn : ptr9 nb (parAt l k) = some ⟨nb p, 0, none⟩ := by rw [HMG.out.par]; exact ptr9_nat nb p
      simp [nodeCells, hpn] at e2
      obtain ⟨K1, K2, hK⟩ := kids9_at hkl HMG.out.par
      have hrp := nodeReplace_any w.heap.size g l.length (nmAt9 l) (sizeAt l) (parAt l) (kids9 (parAt l) l.length) nb cv p k K1 K2 [] none 0 w1 HA.out.mem HA.out.top (by omega) hkl (by omega) hK (kids9_nodup _ _ _) (fun j hj => (mem_kids9.1 hj).1) (by simp) (by simp) (by simp) (by omega) (fun h => by simp at h)
      unfold NodePost9 at hrp
      have HRP := Lib.hid hrp
      have HKK := Lib.hid (prune9_kids HMG.out.par hK)
      clear hrp hpn hK
      go_wp2_with fail
      refine Calls.mono HRP.out ?_
      rintro e w2 ⟨rfl, v2, hm2, ht2, hb2, -⟩
      have HM2 := Lib.hid hm2
      have HT2 := Lib.hid ht2
      have HB2 : Hid (Below w.heap.size w w2) := HB1.out.trans hb2
      clear hm2 ht2 hb2 e2
      obtain ⟨cs, hrow, hcs⟩ := HT2.out.row
      have c0 : w2.cell? ⟨g, 0, none⟩ = some (.pointer (some ⟨nb 0, 0, none⟩)) := by rw [hrow.cell]; exact hcs
      have hl0 : (0 : Int) < (l.length : Int) := by omega
      clear hrow hcs
      go_wp2_with fail
      have hask : Ask9 w2 w.heap.size l.length (nmAt9 l) (sizeAt l) (paren9 (parAt l) [] p) (upd (kids9 (parAt l) l.length) p (K1 ++ [] ++ K2)) nb (upd cv p v2) (pruneP (parAt l) k) 0 := ⟨HM2.out, pruneP_fall HA.out.fall, by omega, by omega, fun j _ => HKK.out j, fun i hi => by
        have h1 : paren9 (parAt l) [] p i = parAt l i := if_neg (by simp)
        rw [h1]
        exact HA.out.small i hi⟩
      have HC := Lib.hid (segments_any _ _ _ _ _ _ _ _ _ _ _ hask)
      rw [HM.out] at HC
      clear hask
      refine Calls.mono HC.out ?_
      rintro e w3 ⟨v, rfl, ho3, hb3⟩
      have HO3 := Lib.hid (treeLow ho3 HB2.out.size)
      have HB3 : Hid (Below w.heap.size w w3) := HB2.out.trans (hb3.mono HB2.out.size)
      clear ho3 hb3
      go_wp2
      go_ret2
      exact ⟨_, rfl, HO3.out, HB3.out⟩

end Go.Proofs.Ytadichddgpojpaa
/- The walk of the law FnExactSubTree. -/
namespace Go.Proofs.Ytadichddgpojpaa
open Go.RowKit

set_option maxRecDepth 100000 in
set_option maxHeartbeats 4000000 in
theorem lawSubTree_any (A : Option Addr) (l : List Seg) (c : Nat) (s : ByteArray) (w : World) (hw : Segs w w.heap.size A l) (hl : l.length ≤ maxLen) (hn : Short l) (hsz : s.size ≤ maxLen) :
    Calls Try.prog 9 #[.slice A l.length c, .string s] w fun e w' => e = .returned (.bool true) ∧ Below w.heap.size w w' := by
  have HW : Hid (Segs w w.heap.size A l) := hw
  clear hw
  unfold maxLen at hsz
  by_cases hbig : 1048576 < s.size
  · go_enter Try.func9, Try.ntmps9
    go_wp2
    go_ret
    exact ⟨rfl, Below.refl _ _⟩
  by_cases hs : sizeLeft l < 0
  · go_enter Try.func9, Try.ntmps9
    go_wp2_with fail
    refine (szSegmentS_any _ _ _ _ HW.out hl hn).mono ?_
    rintro e w1 ⟨rfl, hb1⟩
    go_wp2
    go_ret
    exact ⟨rfl, hb1⟩
  have hlen := sizeLeft_len hs
  have hsl := sizeLeft_le l
  have hlm : l.length ≤ 9223372036854775807 := Nat.le_trans hlen (by decide)
  have HSP := Lib.hid (fun A c W h1 => specSubTree_any A l c s W h1 hlen hn (Nat.le_of_not_lt hbig))
  have HIM := Lib.hid (fun A W h1 => subTree_any A l l.length s W h1 hlen (Nat.le_refl _) hlm hn (Nat.le_of_not_lt hbig))
  unfold TreeAns at HSP HIM
  have hrs : (subL l s).length ≤ 200 := subL_len l s
  generalize subL l s = rs at *
  generalize subOk l s = d at *
  go_enter Try.func9, Try.ntmps9
  go_wp2_with fail
  refine (szSegmentS_any _ _ _ _ HW.out hl hn).mono ?_
  rintro e w1 ⟨rfl, hb1⟩
  have HB1 := Lib.hid hb1
  clear hb1
  go_wp2_with fail
  refine (toSegmentS_any _ _ _ _ ((HW.out.below HB1.out).more HB1.out.size) hlen).mono ?_
  rintro e w2 ⟨rfl, hb2, hx2⟩
  have HX := Lib.hid hx2
  clear hx2
  have HB2 : Hid (Below w.heap.size w w2) := HB1.out.trans (hb2.mono HB1.out.size)
  clear hb2 HB1
  go_wp2_with fail
  refine (HSP.out _ _ _ HX.out).mono ?_
  rintro e w3 ⟨v0, rfl, ho3, hb3⟩
  obtain ⟨A0, cap0, rfl, -⟩ := ho3.form
  have HO : Hid (OwnTree w3 w2.heap.size (.slice A0 rs.length cap0) rs) := ho3
  have HL : Hid (∀ g, (Value.slice A0 rs.length cap0).ownBlock = some g → g < w3.heap.size) := fun g hg => (World.ownsRow.lt ho3 g hg).2
  have HZ5 : Hid (w.heap.size ≤ w3.heap.size) := Nat.le_trans HB2.out.size hb3.size
  clear ho3 HSP
  clear HX
  have HB3 : Hid (Below w.heap.size w w3) := HB2.out.trans (hb3.mono HB2.out.size)
  clear hb3 HB2
  go_wp2_with fail
  refine (St.toSegmentS_row _ _ _ _ ((HW.out.below HB3.out).more HB3.out.size) hlen).mono ?_
  rintro e w4 ⟨rfl, hb4, hx4, cs, hr4, hcs⟩
  have HX := Lib.hid hx4
  have HR := Lib.hid hr4
  have HCS := Lib.hid hcs
  have HZ6 : Hid (w3.heap.size < w4.heap.size) := hr4.lt
  clear hx4 hr4 hcs
  have HB4 : Hid (Below w.heap.size w w4) := HB3.out.trans (hb4.mono HB3.out.size)
  have HO := Lib.hid (treeBelow HO.out hb4)
  clear hb4 HB3
  go_wp2_with fail
  refine (HIM.out _ _ HX.out).mono ?_
  rintro e w5 ⟨v1, rfl, ho5, hb5⟩
  obtain ⟨A1, cap1, rfl, -⟩ := ho5.form
  have HP : Hid (OwnTree w5 w4.heap.size (.slice A1 rs.length cap1) rs) := ho5
  clear ho5
  have HB5 : Hid (Below w.heap.size w w5) := HB4.out.trans (hb5.mono HB4.out.size)
  have HO := Lib.hid (treeBelow HO.out hb5)
  have HX := Lib.hid ((HX.out.below hb5).more hb5.size)
  have HR := Lib.hid (HR.out.below hb5 HR.out.lt)
  clear hb5 HB4
  go_wp2_with fail
  refine (eqSegmentS_same A1 A0 rs cap1 cap0 w5 (treeIs HP.out) (treeIs HO.out) (by omega)).mono ?_
  rintro e w6 ⟨rfl, hb6⟩
  have HB6 : Hid (Below w.heap.size w w6) := HB5.out.trans (hb6.mono HB5.out.size)
  have HO := Lib.hid (treeBelow HO.out hb6)
  have HX := Lib.hid ((HX.out.below hb6).more hb6.size)
  have HR := Lib.hid (HR.out.below hb6 HR.out.lt)
  have HP := Lib.hid (treeBelow HP.out hb6)
  clear hb6 HB5
  go_wp2_with fail
  refine (toSegmentS_any _ _ _ _ ((HW.out.below HB6.out).more HB6.out.size) hlen).mono ?_
  rintro e w7 ⟨rfl, hb7, hx7⟩
  have HX2 := Lib.hid hx7
  clear hx7
  have HB7 : Hid (Below w.heap.size w w7) := HB6.out.trans (hb7.mono HB6.out.size)
  have HO := Lib.hid (treeBelow HO.out hb7)
  have HX := Lib.hid ((HX.out.below hb7).more hb7.size)
  have HR := Lib.hid (HR.out.below hb7 HR.out.lt)
  have HP := Lib.hid (treeBelow HP.out hb7)
  clear hb7 HB6
  go_wp2_with fail
  refine (eqSegmentS_same _ _ _ _ _ _ HX.out HX2.out hlen).mono ?_
  rintro e w8 ⟨rfl, hb8⟩
  have HB8 : Hid (Below w.heap.size w w8) := HB7.out.trans (hb8.mono HB7.out.size)
  have HO := Lib.hid (treeBelow HO.out hb8)
  have HX := Lib.hid ((HX.out.below hb8).more hb8.size)
  have HR := Lib.hid (HR.out.below hb8 HR.out.lt)
  have HP := Lib.hid (treeBelow HP.out hb8)
  have HX2 := Lib.hid ((HX2.out.below hb8).more hb8.size)
  clear hb8 HB7
  clear HX HX2
  go_wp2_with fail
  refine (mark1 w3.heap.size l.length l.length cs w8 HR.out HCS.out hlen).mono ?_
  rintro e w9 ⟨rfl, hy9⟩
  have HB9 : Hid (Below w.heap.size w w9) := Only.below HB8.out hy9 HB8.out.size (fun k hk e => by have := HZ5.out; omega)
  have HO := Lib.hid (treeFar HO.out hy9 (fun g hg e => by have := HL.out g hg; omega))
  have HP := Lib.hid (treeFar HP.out hy9 (fun g hg e => by have := (World.ownsRow.lt HP.out g hg).1; have := HZ6.out; omega))
  clear hy9 HR HCS HB8
  have hk0 : 0 < 1 + 3 * l.length := by omega
  have hk9 : 1 + 3 * l.length ≤ 4000000 := by omega
  have hkn : (0 : Int) ≤ ((1 + 3 * l.length : Nat) : Int) := Int.natCast_nonneg _
  have hkn' : ¬ ((1 + 3 * l.length : Nat) : Int) < 0 := by omega
  generalize ((1 + 3 * l.length : Nat) : Int) = kt at *
  go_wp2_with fail
  refine (eqSegmentS_same A1 A0 rs cap1 cap0 w9 (treeIs HP.out) (treeIs HO.out) (by omega)).mono ?_
  rintro e w10 ⟨rfl, hb10⟩
  have HB10 : Hid (Below w.heap.size w w10) := HB9.out.trans (hb10.mono HB9.out.size)
  have HO := Lib.hid (treeBelow HO.out hb10)
  have HP := Lib.hid (treeBelow HP.out hb10)
  clear hb10 HB9
  go_wp2_with fail
  refine (tmark1 _ _ rs w10 HP.out (by omega)).mono ?_
  rintro e w11 ⟨rfl, ho11, hy11⟩
  have HB11 : Hid (Below w.heap.size w w11) := Only.below HB10.out hy11 HB10.out.size (fun k hk e => by have := (World.ownsRow.lt HP.out k e).1; have := HZ5.out; have := HZ6.out; omega)
  have HO := Lib.hid (treeFar HO.out hy11 (fun g hg e => by have := HL.out g hg; have := (World.ownsRow.lt HP.out g e).1; have := HZ6.out; omega))
  have HM : Hid (Segs w11 w11.heap.size A1 (marked rs 1 rs.length)) := treeIs ho11
  clear ho11 hy11 HB10 HP
  have hm1 : ¬ ((1 + 3 * rs.length : Nat) : Int) < 0 := by omega
  have hm0 : (0 : Int) ≤ ((1 + 3 * rs.length : Nat) : Int) := by omega
  have HH := Lib.hid (fun W h => theld1 A1 rs.length cap1 rs W rfl h (by omega))
  generalize ((1 + 3 * rs.length : Nat) : Int) = m at *
  go_wp2_with fail
  refine Calls.mono (HH.out w11 HM.out) ?_
  rintro e w12 ⟨rfl, hb12⟩
  have HB12 : Hid (Below w.heap.size w w12) := HB11.out.trans (hb12.mono HB11.out.size)
  have HO := Lib.hid (treeBelow HO.out hb12)
  have HM := Lib.hid ((HM.out.below hb12).more hb12.size)
  clear hb12 HB11
  go_wp2_with fail
  refine (toSegmentS_any _ _ _ _ ((HW.out.below HB12.out).more HB12.out.size) hlen).mono ?_
  rintro e w13 ⟨rfl, hb13, hx13⟩
  have HX := Lib.hid hx13
  clear hx13
  have HB13 : Hid (Below w.heap.size w w13) := HB12.out.trans (hb13.mono HB12.out.size)
  have HO := Lib.hid (treeBelow HO.out hb13)
  have HM := Lib.hid ((HM.out.below hb13).more hb13.size)
  clear hb13 HB12
  go_wp2_with fail
  refine (HIM.out _ _ HX.out).mono ?_
  rintro e w14 ⟨v2, rfl, ho14, hb14⟩
  obtain ⟨A3, cap3, rfl, hf14⟩ := ho14.form
  have HV : Hid (Segs w14 w14.heap.size A3 rs) := hf14
  clear ho14 hf14
  clear HX
  have HB14 : Hid (Below w.heap.size w w14) := HB13.out.trans (hb14.mono HB13.out.size)
  have HO := Lib.hid (treeBelow HO.out hb14)
  have HM := Lib.hid ((HM.out.below hb14).more hb14.size)
  clear hb14 HB13
  go_wp2_with fail
  refine (eqSegmentS_same A3 A0 rs cap3 cap0 w14 HV.out (treeIs HO.out) (by omega)).mono ?_
  rintro e w15 ⟨rfl, hb15⟩
  have HB15 : Hid (Below w.heap.size w w15) := HB14.out.trans (hb15.mono HB14.out.size)
  have HO := Lib.hid (treeBelow HO.out hb15)
  have HM := Lib.hid ((HM.out.below hb15).more hb15.size)
  have HV := Lib.hid ((HV.out.below hb15).more hb15.size)
  clear hb15 HB14
  go_wp2_with fail
  refine Calls.mono (HH.out w15 HM.out) ?_
  rintro e w16 ⟨rfl, hb16⟩
  have HB16 : Hid (Below w.heap.size w w16) := HB15.out.trans (hb16.mono HB15.out.size)
  clear hb16 HB15
  go_wp2
  go_ret
  exact ⟨rfl, HB16.out⟩

end Go.Proofs.Ytadichddgpojpaa
