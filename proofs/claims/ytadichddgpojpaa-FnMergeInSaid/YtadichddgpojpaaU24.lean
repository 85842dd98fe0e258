/- Joined: Vs Kh Ki Vt. -/
import Derived.Test.YtadichddgpojpaaU19
import Derived.Test.YtadichddgpojpaaU20
import Derived.Test.YtadichddgpojpaaU12
import Derived.Test.YtadichddgpojpaaU01
/- Chapter 9: the reference's Prune, Resize and MoveUp. -/
namespace Go.Proofs.Ytadichddgpojpaa
open Go.RowKit

theorem row9_set {f g : Nat → Int} {n i : Nat} {x : Int} (h : ∀ j, j < n → g j = if j = i then x else f j) : (row9 f n).set i x = row9 g n := by
  apply List.ext_getElem?
  intro j
  by_cases hj : j < n
  · rw [row9_get g hj, h j hj]
    by_cases hji : j = i
    · subst hji
      rw [List.getElem?_set_self (by rw [row9_len]; exact hj), if_pos rfl]
    · rw [List.getElem?_set_ne (fun e => hji e.symm), row9_get f hj, if_neg hji]
  · rw [List.getElem?_eq_none (by rw [List.length_set, row9_len]; omega), List.getElem?_eq_none (by rw [row9_len]; omega)]

set_option maxRecDepth 100000 in
set_option maxHeartbeats 4000000 in
theorem specPrune_any (A : Option Addr) (l : List Seg) (c : Nat) (s : ByteArray) (w : World) (hw : Segs w w.heap.size A l) (hl : l.length ≤ 1048576) (hn : Short l) (_hs : s.size ≤ 1048576) :
    Calls Try.prog 27 #[.slice A l.length c, .string s] w (TreeAns w (pruneL l s) (pruneOk l s)) := by
  have HW : Hid (Segs w w.heap.size A l) := hw
  clear hw
  unfold TreeAns
  by_cases hneg : indexB l s ≤ 0
  · have HF : Hid (pruneOk l s = false) := decide_eq_false (by omega)
    have HR : Hid (pruneL l s = []) := off9.1 HF.out
    rw [HR.out, HF.out]
    go_enter Try.func27, Try.ntmps27
    go_wp2_with fail
    refine (l1Index_any _ _ _ _ _ HW.out hl hn).mono ?_
    rintro e w1 ⟨rfl, hb1⟩
    have HB1 := Lib.hid (hb1.alloc hb1.size (.cells #[] 36))
    have HO1 := Lib.hid (OwnTree.empty (B := w.heap.size) w1 hb1.size)
    clear hb1
    generalize indexB l s = q at *
    go_wp2
    go_ret2
    exact ⟨_, rfl, HO1.out, HB1.out⟩
  · obtain ⟨hv, hi⟩ := index9_valid (l := l) (s := s) (by omega)
    have HI : Hid (indexB l s = ((ix9 l s : Nat) : Int)) := by show _ = _; unfold ix9; omega
    have hi0 : ¬ ((ix9 l s : Nat) : Int) ≤ 0 := by have := HI.out; omega
    have HF : Hid (pruneOk l s = true) := decide_eq_true (by omega)
    have HR : Hid (pruneL l s = made9 l (sizeAt l) (pruneP (parAt l) (ix9 l s)) 0) := by show _ = _; unfold pruneL; rw [if_pos HF.out]
    have HFA := Lib.hid (pruneP_fall (i := ix9 l s) (tree9_of hv).fall)
    have hl8 := (valid_all hv).2.1
    have HRS : Hid ((row9 (parAt l) l.length).set (ix9 l s) (-2) = row9 (pruneP (parAt l) (ix9 l s)) l.length) := row9_set fun j _ => rfl
    rw [HR.out, HF.out]
    clear hneg hv
    generalize ix9 l s = i at *
    have hil : (i : Int) < (l.length : Int) := by omega
    have hi1 : (0 : Int) ≤ (i : Int) := Int.natCast_nonneg _
    go_enter Try.func27, Try.ntmps27
    go_wp2_with fail
    refine (l1Index_any _ _ _ _ _ HW.out hl hn).mono ?_
    rw [HI.out]
    rintro e w1 ⟨rfl, hb1⟩
    have HW1 := Lib.hid ((HW.out.below hb1).more hb1.size)
    have HB1 := Lib.hid hb1
    clear hb1
    go_wp2_with fail
    refine (l9Parents_any A l c w1 HW1.out (by omega)).mono ?_
    rintro e w2 ⟨A2, c2, rfl, ho2, hb2⟩
    have ho2' : Si.OwnInts w2 w1.heap.size (.slice A2 (row9 (parAt l) l.length).length c2) (row9 (parAt l) l.length) := by rw [row9_len]; exact ho2
    obtain ⟨g2, rfl⟩ : ∃ g, A2 = some ⟨g, 0, none⟩ := by
      obtain ⟨A', c', e, hA⟩ := kids9_form ho2
      rw [row9_len] at e
      injection e with e1 e2 e3
      obtain ⟨g, hg⟩ := hA (by rw [row9_len]; omega)
      exact ⟨g, e1.trans hg⟩
    have hc2 := Si.intsCell ho2' (row9_get (parAt l) hi)
    have hf2 := Si.intsFree ho2 i
    have hgB := World.ownsRow.lt ho2 g2 rfl
    have hst := Si.intsStore ho2' i (-2)
    rw [HRS.out, row9_len] at hst
    have HO2 := Lib.hid hst
    have HB2 : Hid (Below w1.heap.size w1 (w2.setCell ⟨g2, i, none⟩ (.int .i64 (-2)))) := hb2.setCell hgB.1 _
    have HZ2 : Hid (w1.heap.size ≤ (w2.setCell ⟨g2, i, none⟩ (.int .i64 (-2))).heap.size) := by show _ ≤ _; rw [size_set]; exact hb2.size
    have HZ3 : Hid ((w2.setCell ⟨g2, i, none⟩ (.int .i64 (-2))).heap.size = w2.heap.size) := size_set _ _ _
    clear ho2 ho2' hst hgB hb2
    go_wp2_with fail
    clear hc2 hf2
    generalize w2.setCell ⟨g2, i, none⟩ (.int .i64 (-2)) = w3 at *
    rw [← HZ3.out]
    have hb4 : Below w3.heap.size w3 (w3.alloc (.cells #[] 36)) := (Below.refl _ w3).alloc (Nat.le_refl _) _
    have HO4 := Lib.hid (OwnTree.empty (B := w3.heap.size) w3 (Nat.le_refl _))
    have HW3 := Lib.hid ((HW1.out.below HB2.out).more HZ2.out)
    have HAW := Lib.hid (aw9_old (g := w3.heap.size) HW3.out (by omega) (Nat.le_refl _))
    have HI3 := Lib.hid (Si.intsOf HO2.out)
    have HAP : Hid (Aw9 (.slice (some ⟨w3.heap.size, 0, none⟩) 0 0) (some ⟨g2, 0, none⟩)) := fun a ha e => by
      have h1 := (World.ownsRow.lt HO2.out g2 rfl).2
      injection ha with ha
      subst ha
      injection e with e
      have h3 : w3.heap.size = g2 := e
      omega
    have HW4 := Lib.hid ((HW3.out.below hb4).more hb4.size)
    have HI4 := Lib.hid ((HI3.out.below hb4).more hb4.size)
    have HB4 : Hid (Below w.heap.size w (w3.alloc (.cells #[] 36))) := (HB1.out.trans (HB2.out.mono HB1.out.size)).alloc (Nat.le_trans HB1.out.size HZ2.out) _
    have HZ4 := Lib.hid hb4.size
    have HZ5 : Hid (w.heap.size ≤ w3.heap.size) := Nat.le_trans HB1.out.size HZ2.out
    clear hb4
    have hl0 : 0 < l.length := by omega
    refine (build9_call (r := 0) HFA.out (by omega) hl0 HW4.out HI4.out HO4.out HAW.out HAP.out HZ4.out).mono ?_
    rintro e w5 ⟨v, rfl, ho5, hb5⟩
    have HO5 := Lib.hid (treeLow ho5 HZ5.out)
    have HB5 : Hid (Below w.heap.size w w5) := HB4.out.trans (hb5.mono HZ5.out)
    clear ho5 hb5
    go_wp2
    go_ret2
    exact ⟨_, rfl, HO5.out, HB5.out⟩

/-- append of a whole tree to an empty one. -/
theorem wp_clone9 {ops : Array Oper} {rest : List Oper} {o : Oper} {a : Act} {Q : Exit → Act → World → Prop} (hgd : o.guard = none) (S X : Operand)
    (ho : o.op = Op.call { callee := Callee.builtin Builtin.append, args := #[S, X], argTypes := #[23, 23] })
    (A : Option Addr) (l : List Seg) (c : Nat) (W : World) (hs : a.eval S = .slice (some ⟨W.heap.size, 0, none⟩) 0 0) (hx : a.eval X = .slice A l.length c) (hw : Segs W W.heap.size A l) (hl : l.length ≤ 1000) (h0 : 0 < l.length)
    (h : ∀ v' w', OwnTree w' W.heap.size v' l → Below W.heap.size W w' → wpList Try.prog ops Q rest (a.put o.dst v') w') :
    wpList Try.prog ops Q (o :: rest) a (W.alloc (.cells #[] 36)) := by
  obtain ⟨b, ob, rfl, hb, hc⟩ := hw h0
  obtain ⟨i0, hi0, hz0, hz1, hz2⟩ := info_parts info_seg
  refine wpList_append_own _ hgd S X 23 ho W.heap.size 36 i0 zeroSeg 3 32 Try.underlying23 hi0 hz0 hz1 hz2 rfl (by decide) (.slice (some ⟨W.heap.size, 0, none⟩) 0 0) 0 [] hs (OwnTree.empty W (Nat.le_refl _)) ⟨b, ob, none⟩ l.length c (segCells l) hx (segCells_len l) (fun j u hj => Lib.cell?_alloc_some _ (Segs.news hw j u hj)) (segCells_one' l) (by unfold maxLen; omega) (by omega) (by simp) ?_
  intro v' w' hown hgrow _
  refine h v' w' ?_ (((Below.refl W.heap.size W).alloc (Nat.le_refl _) _).grown hgrow (by simp) (by intro k hk; simp [Value.ownBlock] at hk; omega))
  unfold OwnTree
  have : 0 + l.length = l.length := Nat.zero_add _
  rw [this, List.nil_append] at hown
  exact hown
theorem OwnTree.setSz9 {w : World} {B g cap : Nat} {tr : List Seg} (h : OwnTree w B (.slice (some ⟨g, 0, none⟩) tr.length cap) tr) {i : Nat} {x : Seg} (hx : tr[i]? = some x) (z : Int) :
    OwnTree (w.setCell ⟨g, i * 3 + 1, none⟩ (.int .i64 z)) B (.slice (some ⟨g, 0, none⟩) tr.length cap) (tr.set i ⟨x.name, z, x.par⟩) := by
  have hi := (List.getElem?_eq_some_iff.1 hx).1
  obtain ⟨s0, s1, s2⟩ := segCells_at hx
  unfold OwnTree at h ⊢
  rw [List.length_set]
  refine ⟨by rw [segCells_len, List.length_set], ?_⟩
  rcases h.2 with ⟨h0, _⟩ | ⟨g', cap', cur, hv, hg, hh, h1, h2, h3, h4⟩
  · cases h0
  · injection hv with hv1 _ hv3
    injection hv1 with hv1
    injection hv1 with hv1
    subst hv1 hv3
    have hr : Row w g 36 cur := hh
    refine .inr ⟨g, cap, _, rfl, hg, hr.put (i * 3 + 1) _, h1, h2, by simpa using h3, ?_⟩
    rw [segCells_set tr i _ hi, set_same s0]
    have e : (((segCells tr).set (i * 3 + 1) (.int .i64 z)).set (i * 3 + 2) (.int .i64 x.par)) = (segCells tr).set (i * 3 + 1) (.int .i64 z) := set_same (by rw [List.getElem?_set_ne (by omega)]; exact s2)
    rw [e, ← h4]
    simp only [Array.toList_setIfInBounds, List.take_set]

set_option maxRecDepth 100000 in
set_option maxHeartbeats 4000000 in
theorem specResize_any (A : Option Addr) (l : List Seg) (c : Nat) (s : ByteArray) (x : Int) (w : World) (hw : Segs w w.heap.size A l) (hl : l.length ≤ 1048576) (hn : Short l) (_hs : s.size ≤ 1048576) :
    Calls Try.prog 43 #[.slice A l.length c, .string s, .int .i64 x] w (TreeAns w (resizeL l s x) (resizeOk l s x)) := by
  have HW : Hid (Segs w w.heap.size A l) := hw
  clear hw
  unfold TreeAns
  by_cases hneg : indexB l s < 0
  · have HF : Hid (resizeL l s x = [] ∧ resizeOk l s x = false) := ⟨(neg9 hneg).2.2.2.2.2.2.2.2.2 x, (neg9 hneg).2.2.2.2.2.2.2.2.1 x⟩
    rw [HF.out.1, HF.out.2]
    go_enter Try.func43, Try.ntmps43
    go_wp2_with fail
    refine (l1Index_any _ _ _ _ _ HW.out hl hn).mono ?_
    rintro e w1 ⟨rfl, hb1⟩
    have HB1 := Lib.hid (hb1.alloc hb1.size (.cells #[] 36))
    have HO1 := Lib.hid (OwnTree.empty (B := w.heap.size) w1 hb1.size)
    clear hb1
    generalize indexB l s = q at *
    go_wp2
    go_ret2
    exact ⟨_, rfl, HO1.out, HB1.out⟩
  · obtain ⟨hv, hi⟩ := index9_valid (l := l) (s := s) (by omega)
    have HI : Hid (indexB l s = ((ix9 l s : Nat) : Int)) := by show _ = _; unfold ix9; omega
    have hin : inB x 1 99 = sizeOk x := rfl
    have HFL : Hid (resizeOk l s x = inB x 1 99) := by show _ = _; unfold resizeOk; rw [decide_eq_true (show 0 ≤ indexB l s by omega), Bool.true_and, hin]
    have hl8 := (valid_all hv).2.1
    have hi1 : ¬ ((ix9 l s : Nat) : Int) < 0 := by omega
    cases hz : inB x 1 99 with
    | false =>
      have HF : Hid (resizeOk l s x = false) := HFL.out.trans hz
      have HR : Hid (resizeL l s x = []) := off9.2.2.2 x HF.out
      rw [HR.out, HF.out]
      clear hneg hv hin
      generalize ix9 l s = i at *
      go_enter Try.func43, Try.ntmps43
      go_wp2_with fail
      refine (l1Index_any _ _ _ _ _ HW.out hl hn).mono ?_
      rw [HI.out]
      rintro e w1 ⟨rfl, hb1⟩
      have HB1 := Lib.hid (hb1.alloc hb1.size (.cells #[] 36))
      have HO1 := Lib.hid (OwnTree.empty (B := w.heap.size) w1 hb1.size)
      clear hb1
      go_wp2_with fail
      refine (l1In_any _ _ _ _).mono ?_
      rw [hz]
      rintro e w2 ⟨rfl, rfl⟩
      go_wp2
      go_ret2
      exact ⟨_, rfl, HO1.out, HB1.out⟩
    | true =>
      have HF : Hid (resizeOk l s x = true) := HFL.out.trans hz
      have HR : Hid (resizeL l s x = l.set (ix9 l s) ⟨nmAt9 l (ix9 l s), x, parAt l (ix9 l s)⟩) := by show _ = _; unfold resizeL; rw [if_pos HF.out]
      rw [HR.out, HF.out]
      have HLG : Hid (l[ix9 l s]? = some ⟨nmAt9 l (ix9 l s), sizeAt l (ix9 l s), parAt l (ix9 l s)⟩) := by
        show _ = _
        rw [nmAt9_of hi, sizeAt_of hi, parAt_of (List.getElem?_eq_getElem hi)]
        exact List.getElem?_eq_getElem hi
      clear hneg hv hin
      generalize ix9 l s = i at *
      generalize nmAt9 l i = nm at *
      generalize sizeAt l i = sz at *
      generalize parAt l i = pr at *
      have hil : (i : Int) < (l.length : Int) := by omega
      have hi0 : (0 : Int) ≤ (i : Int) := Int.natCast_nonneg _
      go_enter Try.func43, Try.ntmps43
      go_wp2_with fail
      refine (l1Index_any _ _ _ _ _ HW.out hl hn).mono ?_
      rw [HI.out]
      rintro e w1 ⟨rfl, hb1⟩
      have HW1 := Lib.hid ((HW.out.below hb1).more hb1.size)
      have HB1 := Lib.hid hb1
      clear hb1
      go_wp2_with fail
      refine (l1In_any _ _ _ _).mono ?_
      rw [hz]
      rintro e w2 ⟨rfl, hw2⟩
      subst hw2
      clear hz
      go_wp2_with (at_builtin; go_loud (refine wp_clone9 rfl (.tmp 21) (.tmp 22) rfl A l c w1 rfl rfl HW1.out (by omega) (by omega) ?_); intro v3 w3 ho3 hb3; obtain ⟨g3, cap3, rfl, -, -⟩ : ∃ g cap, v3 = .slice (some ⟨g, 0, none⟩) l.length cap ∧ w1.heap.size ≤ g ∧ g < w3.heap.size := World.ownsRow.form ho3 (by omega); have HO3 := Lib.hid ho3; have HB3 := Lib.hid (HB1.out.trans (hb3.mono HB1.out.size)); have hcc := (ho3.cells HLG.out).1.2.1; have hff := (ho3.cells HLG.out).2 (i * 3 + 1); have HST := Lib.hid (ho3.setSz9 HLG.out x); have HB4 := Lib.hid (HB3.out.setCell (Nat.le_trans HB1.out.size (World.ownsRow.lt ho3 g3 rfl).1) (p := ⟨g3, i * 3 + 1, none⟩) (.int .i64 x)); have HZ1 := Lib.hid HB1.out.size; clear ho3 hb3)
      go_ret2
      exact ⟨_, rfl, treeLow HST.out HZ1.out, HB4.out⟩

end Go.Proofs.Ytadichddgpojpaa
/- The walk of the law FnExactPrune. -/
namespace Go.Proofs.Ytadichddgpojpaa
open Go.RowKit

set_option maxRecDepth 100000 in
set_option maxHeartbeats 4000000 in
theorem lawPrune_any (A : Option Addr) (l : List Seg) (c : Nat) (s : ByteArray) (w : World) (hw : Segs w w.heap.size A l) (hl : l.length ≤ maxLen) (hn : Short l) (hsz : s.size ≤ maxLen) :
    Calls Try.prog 10 #[.slice A l.length c, .string s] w fun e w' => e = .returned (.bool true) ∧ Below w.heap.size w w' := by
  have HW : Hid (Segs w w.heap.size A l) := hw
  clear hw
  unfold maxLen at hsz
  by_cases hbig : 1048576 < s.size
  · go_enter Try.func10, Try.ntmps10
    go_wp2
    go_ret
    exact ⟨rfl, Below.refl _ _⟩
  by_cases hs : sizeLeft l < 0
  · go_enter Try.func10, Try.ntmps10
    go_wp2_with fail
    refine (szSegmentS_any _ _ _ _ HW.out hl hn).mono ?_
    rintro e w1 ⟨rfl, hb1⟩
    go_wp2
    go_ret
    exact ⟨rfl, hb1⟩
  have hlen := sizeLeft_len hs
  have hsl := sizeLeft_le l
  have hlm : l.length ≤ 9223372036854775807 := Nat.le_trans hlen (by decide)
  have HSP := Lib.hid (fun A c W h1 => specPrune_any A l c s W h1 hlen hn (Nat.le_of_not_lt hbig))
  have HIM := Lib.hid (fun A W h1 => prune_any A l l.length s W h1 hlen (Nat.le_refl _) hlm hn (Nat.le_of_not_lt hbig))
  unfold TreeAns at HSP HIM
  have hrs : (pruneL l s).length ≤ 200 := pruneL_len l s
  generalize pruneL l s = rs at *
  generalize pruneOk l s = d at *
  go_enter Try.func10, Try.ntmps10
  go_wp2_with fail
  refine (szSegmentS_any _ _ _ _ HW.out hl hn).mono ?_
  rintro e w1 ⟨rfl, hb1⟩
  have HB1 := Lib.hid hb1
  clear hb1
  go_wp2_with fail
  refine (toSegmentS_any _ _ _ _ ((HW.out.below HB1.out).more HB1.out.size) hlen).mono ?_
  rintro e w2 ⟨rfl, hb2, hx2⟩
  have HX := Lib.hid hx2
  clear hx2
  have HB2 : Hid (Below w.heap.size w w2) := HB1.out.trans (hb2.mono HB1.out.size)
  clear hb2 HB1
  go_wp2_with fail
  refine (HSP.out _ _ _ HX.out).mono ?_
  rintro e w3 ⟨v0, rfl, ho3, hb3⟩
  obtain ⟨A0, cap0, rfl, -⟩ := ho3.form
  have HO : Hid (OwnTree w3 w2.heap.size (.slice A0 rs.length cap0) rs) := ho3
  have HL : Hid (∀ g, (Value.slice A0 rs.length cap0).ownBlock = some g → g < w3.heap.size) := fun g hg => (World.ownsRow.lt ho3 g hg).2
  have HZ5 : Hid (w.heap.size ≤ w3.heap.size) := Nat.le_trans HB2.out.size hb3.size
  clear ho3 HSP
  clear HX
  have HB3 : Hid (Below w.heap.size w w3) := HB2.out.trans (hb3.mono HB2.out.size)
  clear hb3 HB2
  go_wp2_with fail
  refine (St.toSegmentS_row _ _ _ _ ((HW.out.below HB3.out).more HB3.out.size) hlen).mono ?_
  rintro e w4 ⟨rfl, hb4, hx4, cs, hr4, hcs⟩
  have HX := Lib.hid hx4
  have HR := Lib.hid hr4
  have HCS := Lib.hid hcs
  have HZ6 : Hid (w3.heap.size < w4.heap.size) := hr4.lt
  clear hx4 hr4 hcs
  have HB4 : Hid (Below w.heap.size w w4) := HB3.out.trans (hb4.mono HB3.out.size)
  have HO := Lib.hid (treeBelow HO.out hb4)
  clear hb4 HB3
  go_wp2_with fail
  refine (HIM.out _ _ HX.out).mono ?_
  rintro e w5 ⟨v1, rfl, ho5, hb5⟩
  obtain ⟨A1, cap1, rfl, -⟩ := ho5.form
  have HP : Hid (OwnTree w5 w4.heap.size (.slice A1 rs.length cap1) rs) := ho5
  clear ho5
  have HB5 : Hid (Below w.heap.size w w5) := HB4.out.trans (hb5.mono HB4.out.size)
  have HO := Lib.hid (treeBelow HO.out hb5)
  have HX := Lib.hid ((HX.out.below hb5).more hb5.size)
  have HR := Lib.hid (HR.out.below hb5 HR.out.lt)
  clear hb5 HB4
  go_wp2_with fail
  refine (eqSegmentS_same A1 A0 rs cap1 cap0 w5 (treeIs HP.out) (treeIs HO.out) (by omega)).mono ?_
  rintro e w6 ⟨rfl, hb6⟩
  have HB6 : Hid (Below w.heap.size w w6) := HB5.out.trans (hb6.mono HB5.out.size)
  have HO := Lib.hid (treeBelow HO.out hb6)
  have HX := Lib.hid ((HX.out.below hb6).more hb6.size)
  have HR := Lib.hid (HR.out.below hb6 HR.out.lt)
  have HP := Lib.hid (treeBelow HP.out hb6)
  clear hb6 HB5
  go_wp2_with fail
  refine (toSegmentS_any _ _ _ _ ((HW.out.below HB6.out).more HB6.out.size) hlen).mono ?_
  rintro e w7 ⟨rfl, hb7, hx7⟩
  have HX2 := Lib.hid hx7
  clear hx7
  have HB7 : Hid (Below w.heap.size w w7) := HB6.out.trans (hb7.mono HB6.out.size)
  have HO := Lib.hid (treeBelow HO.out hb7)
  have HX := Lib.hid ((HX.out.below hb7).more hb7.size)
  have HR := Lib.hid (HR.out.below hb7 HR.out.lt)
  have HP := Lib.hid (treeBelow HP.out hb7)
  clear hb7 HB6
  go_wp2_with fail
  refine (eqSegmentS_same _ _ _ _ _ _ HX.out HX2.out hlen).mono ?_
  rintro e w8 ⟨rfl, hb8⟩
  have HB8 : Hid (Below w.heap.size w w8) := HB7.out.trans (hb8.mono HB7.out.size)
  have HO := Lib.hid (treeBelow HO.out hb8)
  have HX := Lib.hid ((HX.out.below hb8).more hb8.size)
  have HR := Lib.hid (HR.out.below hb8 HR.out.lt)
  have HP := Lib.hid (treeBelow HP.out hb8)
  have HX2 := Lib.hid ((HX2.out.below hb8).more hb8.size)
  clear hb8 HB7
  clear HX HX2
  go_wp2_with fail
  refine (mark1 w3.heap.size l.length l.length cs w8 HR.out HCS.out hlen).mono ?_
  rintro e w9 ⟨rfl, hy9⟩
  have HB9 : Hid (Below w.heap.size w w9) := Only.below HB8.out hy9 HB8.out.size (fun k hk e => by have := HZ5.out; omega)
  have HO := Lib.hid (treeFar HO.out hy9 (fun g hg e => by have := HL.out g hg; omega))
  have HP := Lib.hid (treeFar HP.out hy9 (fun g hg e => by have := (World.ownsRow.lt HP.out g hg).1; have := HZ6.out; omega))
  clear hy9 HR HCS HB8
  have hk0 : 0 < 1 + 3 * l.length := by omega
  have hk9 : 1 + 3 * l.length ≤ 4000000 := by omega
  have hkn : (0 : Int) ≤ ((1 + 3 * l.length : Nat) : Int) := Int.natCast_nonneg _
  have hkn' : ¬ ((1 + 3 * l.length : Nat) : Int) < 0 := by omega
  generalize ((1 + 3 * l.length : Nat) : Int) = kt at *
  go_wp2_with fail
  refine (eqSegmentS_same A1 A0 rs cap1 cap0 w9 (treeIs HP.out) (treeIs HO.out) (by omega)).mono ?_
  rintro e w10 ⟨rfl, hb10⟩
  have HB10 : Hid (Below w.heap.size w w10) := HB9.out.trans (hb10.mono HB9.out.size)
  have HO := Lib.hid (treeBelow HO.out hb10)
  have HP := Lib.hid (treeBelow HP.out hb10)
  clear hb10 HB9
  go_wp2_with fail
  refine (tmark1 _ _ rs w10 HP.out (by omega)).mono ?_
  rintro e w11 ⟨rfl, ho11, hy11⟩
  have HB11 : Hid (Below w.heap.size w w11) := Only.below HB10.out hy11 HB10.out.size (fun k hk e => by have := (World.ownsRow.lt HP.out k e).1; have := HZ5.out; have := HZ6.out; omega)
  have HO := Lib.hid (treeFar HO.out hy11 (fun g hg e => by have := HL.out g hg; have := (World.ownsRow.lt HP.out g e).1; have := HZ6.out; omega))
  have HM : Hid (Segs w11 w11.heap.size A1 (marked rs 1 rs.length)) := treeIs ho11
  clear ho11 hy11 HB10 HP
  have hm1 : ¬ ((1 + 3 * rs.length : Nat) : Int) < 0 := by omega
  have hm0 : (0 : Int) ≤ ((1 + 3 * rs.length : Nat) : Int) := by omega
  have HH := Lib.hid (fun W h => theld1 A1 rs.length cap1 rs W rfl h (by omega))
  generalize ((1 + 3 * rs.length : Nat) : Int) = m at *
  go_wp2_with fail
  refine Calls.mono (HH.out w11 HM.out) ?_
  rintro e w12 ⟨rfl, hb12⟩
  have HB12 : Hid (Below w.heap.size w w12) := HB11.out.trans (hb12.mono HB11.out.size)
  have HO := Lib.hid (treeBelow HO.out hb12)
  have HM := Lib.hid ((HM.out.below hb12).more hb12.size)
  clear hb12 HB11
  go_wp2_with fail
  refine (toSegmentS_any _ _ _ _ ((HW.out.below HB12.out).more HB12.out.size) hlen).mono ?_
  rintro e w13 ⟨rfl, hb13, hx13⟩
  have HX := Lib.hid hx13
  clear hx13
  have HB13 : Hid (Below w.heap.size w w13) := HB12.out.trans (hb13.mono HB12.out.size)
  have HO := Lib.hid (treeBelow HO.out hb13)
  have HM := Lib.hid ((HM.out.below hb13).more hb13.size)
  clear hb13 HB12
  go_wp2_with fail
  refine (HIM.out _ _ HX.out).mono ?_
  rintro e w14 ⟨v2, rfl, ho14, hb14⟩
  obtain ⟨A3, cap3, rfl, hf14⟩ := ho14.form
  have HV : Hid (Segs w14 w14.heap.size A3 rs) := hf14
  clear ho14 hf14
  clear HX
  have HB14 : Hid (Below w.heap.size w w14) := HB13.out.trans (hb14.mono HB13.out.size)
  have HO := Lib.hid (treeBelow HO.out hb14)
  have HM := Lib.hid ((HM.out.below hb14).more hb14.size)
  clear hb14 HB13
  go_wp2_with fail
  refine (eqSegmentS_same A3 A0 rs cap3 cap0 w14 HV.out (treeIs HO.out) (by omega)).mono ?_
  rintro e w15 ⟨rfl, hb15⟩
  have HB15 : Hid (Below w.heap.size w w15) := HB14.out.trans (hb15.mono HB14.out.size)
  have HO := Lib.hid (treeBelow HO.out hb15)
  have HM := Lib.hid ((HM.out.below hb15).more hb15.size)
  have HV := Lib.hid ((HV.out.below hb15).more hb15.size)
  clear hb15 HB14
  go_wp2_with fail
  refine Calls.mono (HH.out w15 HM.out) ?_
  rintro e w16 ⟨rfl, hb16⟩
  have HB16 : Hid (Below w.heap.size w w16) := HB15.out.trans (hb16.mono HB15.out.size)
  clear hb16 HB15
  go_wp2
  go_ret
  exact ⟨rfl, HB16.out⟩

end Go.Proofs.Ytadichddgpojpaa
/- The walk of the law FnExactResize. -/
namespace Go.Proofs.Ytadichddgpojpaa
open Go.RowKit

set_option maxRecDepth 100000 in
set_option maxHeartbeats 4000000 in
theorem lawResize_any (A : Option Addr) (l : List Seg) (c : Nat) (s : ByteArray) (x : Int) (w : World) (hw : Segs w w.heap.size A l) (hl : l.length ≤ maxLen) (hn : Short l) (hsz : s.size ≤ maxLen) :
    Calls Try.prog 11 #[.slice A l.length c, .string s, .int .i64 x] w fun e w' => e = .returned (.bool true) ∧ Below w.heap.size w w' := by
  have HW : Hid (Segs w w.heap.size A l) := hw
  clear hw
  unfold maxLen at hsz
  by_cases hbig : 1048576 < s.size
  · go_enter Try.func11, Try.ntmps11
    go_wp2
    go_ret
    exact ⟨rfl, Below.refl _ _⟩
  by_cases hs : sizeLeft l < 0
  · go_enter Try.func11, Try.ntmps11
    go_wp2_with fail
    refine (szSegmentS_any _ _ _ _ HW.out hl hn).mono ?_
    rintro e w1 ⟨rfl, hb1⟩
    go_wp2
    go_ret
    exact ⟨rfl, hb1⟩
  have hlen := sizeLeft_len hs
  have hsl := sizeLeft_le l
  have hlm : l.length ≤ 9223372036854775807 := Nat.le_trans hlen (by decide)
  have HSP := Lib.hid (fun A c W h1 => specResize_any A l c s x W h1 hlen hn (Nat.le_of_not_lt hbig))
  have HIM := Lib.hid (fun A W h1 => resize_any A l l.length s x W h1 hlen (Nat.le_refl _) hlm hn (Nat.le_of_not_lt hbig))
  unfold TreeAns at HSP HIM
  have hrs : (resizeL l s x).length ≤ 200 := resize9_len l s x
  generalize resizeL l s x = rs at *
  generalize resizeOk l s x = d at *
  go_enter Try.func11, Try.ntmps11
  go_wp2_with fail
  refine (szSegmentS_any _ _ _ _ HW.out hl hn).mono ?_
  rintro e w1 ⟨rfl, hb1⟩
  have HB1 := Lib.hid hb1
  clear hb1
  go_wp2_with fail
  refine (toSegmentS_any _ _ _ _ ((HW.out.below HB1.out).more HB1.out.size) hlen).mono ?_
  rintro e w2 ⟨rfl, hb2, hx2⟩
  have HX := Lib.hid hx2
  clear hx2
  have HB2 : Hid (Below w.heap.size w w2) := HB1.out.trans (hb2.mono HB1.out.size)
  clear hb2 HB1
  go_wp2_with fail
  refine (HSP.out _ _ _ HX.out).mono ?_
  rintro e w3 ⟨v0, rfl, ho3, hb3⟩
  obtain ⟨A0, cap0, rfl, -⟩ := ho3.form
  have HO : Hid (OwnTree w3 w2.heap.size (.slice A0 rs.length cap0) rs) := ho3
  have HL : Hid (∀ g, (Value.slice A0 rs.length cap0).ownBlock = some g → g < w3.heap.size) := fun g hg => (World.ownsRow.lt ho3 g hg).2
  have HZ5 : Hid (w.heap.size ≤ w3.heap.size) := Nat.le_trans HB2.out.size hb3.size
  clear ho3 HSP
  clear HX
  have HB3 : Hid (Below w.heap.size w w3) := HB2.out.trans (hb3.mono HB2.out.size)
  clear hb3 HB2
  go_wp2_with fail
  refine (St.toSegmentS_row _ _ _ _ ((HW.out.below HB3.out).more HB3.out.size) hlen).mono ?_
  rintro e w4 ⟨rfl, hb4, hx4, cs, hr4, hcs⟩
  have HX := Lib.hid hx4
  have HR := Lib.hid hr4
  have HCS := Lib.hid hcs
  have HZ6 : Hid (w3.heap.size < w4.heap.size) := hr4.lt
  clear hx4 hr4 hcs
  have HB4 : Hid (Below w.heap.size w w4) := HB3.out.trans (hb4.mono HB3.out.size)
  have HO := Lib.hid (treeBelow HO.out hb4)
  clear hb4 HB3
  go_wp2_with fail
  refine (HIM.out _ _ HX.out).mono ?_
  rintro e w5 ⟨v1, rfl, ho5, hb5⟩
  obtain ⟨A1, cap1, rfl, -⟩ := ho5.form
  have HP : Hid (OwnTree w5 w4.heap.size (.slice A1 rs.length cap1) rs) := ho5
  clear ho5
  have HB5 : Hid (Below w.heap.size w w5) := HB4.out.trans (hb5.mono HB4.out.size)
  have HO := Lib.hid (treeBelow HO.out hb5)
  have HX := Lib.hid ((HX.out.below hb5).more hb5.size)
  have HR := Lib.hid (HR.out.below hb5 HR.out.lt)
  clear hb5 HB4
  go_wp2_with fail
  refine (eqSegmentS_same A1 A0 rs cap1 cap0 w5 (treeIs HP.out) (treeIs HO.out) (by omega)).mono ?_
  rintro e w6 ⟨rfl, hb6⟩
  have HB6 : Hid (Below w.heap.size w w6) := HB5.out.trans (hb6.mono HB5.out.size)
  have HO := Lib.hid (treeBelow HO.out hb6)
  have HX := Lib.hid ((HX.out.below hb6).more hb6.size)
  have HR := Lib.hid (HR.out.below hb6 HR.out.lt)
  have HP := Lib.hid (treeBelow HP.out hb6)
  clear hb6 HB5
  go_wp2_with fail
  refine (toSegmentS_any _ _ _ _ ((HW.out.below HB6.out).more HB6.out.size) hlen).mono ?_
  rintro e w7 ⟨rfl, hb7, hx7⟩
  have HX2 := Lib.hid hx7
  clear hx7
  have HB7 : Hid (Below w.heap.size w w7) := HB6.out.trans (hb7.mono HB6.out.size)
  have HO := Lib.hid (treeBelow HO.out hb7)
  have HX := Lib.hid ((HX.out.below hb7).more hb7.size)
  have HR := Lib.hid (HR.out.below hb7 HR.out.lt)
  have HP := Lib.hid (treeBelow HP.out hb7)
  clear hb7 HB6
  go_wp2_with fail
  refine (eqSegmentS_same _ _ _ _ _ _ HX.out HX2.out hlen).mono ?_
  rintro e w8 ⟨rfl, hb8⟩
  have HB8 : Hid (Below w.heap.size w w8) := HB7.out.trans (hb8.mono HB7.out.size)
  have HO := Lib.hid (treeBelow HO.out hb8)
  have HX := Lib.hid ((HX.out.below hb8).more hb8.size)
  have HR := Lib.hid (HR.out.below hb8 HR.out.lt)
  have HP := Lib.hid (treeBelow HP.out hb8)
  have HX2 := Lib.hid ((HX2.out.below hb8).more hb8.size)
  clear hb8 HB7
  clear HX HX2
  go_wp2_with fail
  refine (mark1 w3.heap.size l.length l.length cs w8 HR.out HCS.out hlen).mono ?_
  rintro e w9 ⟨rfl, hy9⟩
  have HB9 : Hid (Below w.heap.size w w9) := Only.below HB8.out hy9 HB8.out.size (fun k hk e => by have := HZ5.out; omega)
  have HO := Lib.hid (treeFar HO.out hy9 (fun g hg e => by have := HL.out g hg; omega))
  have HP := Lib.hid (treeFar HP.out hy9 (fun g hg e => by have := (World.ownsRow.lt HP.out g hg).1; have := HZ6.out; omega))
  clear hy9 HR HCS HB8
  have hk0 : 0 < 1 + 3 * l.length := by omega
  have hk9 : 1 + 3 * l.length ≤ 4000000 := by omega
  have hkn : (0 : Int) ≤ ((1 + 3 * l.length : Nat) : Int) := Int.natCast_nonneg _
  have hkn' : ¬ ((1 + 3 * l.length : Nat) : Int) < 0 := by omega
  generalize ((1 + 3 * l.length : Nat) : Int) = kt at *
  go_wp2_with fail
  refine (eqSegmentS_same A1 A0 rs cap1 cap0 w9 (treeIs HP.out) (treeIs HO.out) (by omega)).mono ?_
  rintro e w10 ⟨rfl, hb10⟩
  have HB10 : Hid (Below w.heap.size w w10) := HB9.out.trans (hb10.mono HB9.out.size)
  have HO := Lib.hid (treeBelow HO.out hb10)
  have HP := Lib.hid (treeBelow HP.out hb10)
  clear hb10 HB9
  go_wp2_with fail
  refine (tmark1 _ _ rs w10 HP.out (by omega)).mono ?_
  rintro e w11 ⟨rfl, ho11, hy11⟩
  have HB11 : Hid (Below w.heap.size w w11) := Only.below HB10.out hy11 HB10.out.size (fun k hk e => by have := (World.ownsRow.lt HP.out k e).1; have := HZ5.out; have := HZ6.out; omega)
  have HO := Lib.hid (treeFar HO.out hy11 (fun g hg e => by have := HL.out g hg; have := (World.ownsRow.lt HP.out g e).1; have := HZ6.out; omega))
  have HM : Hid (Segs w11 w11.heap.size A1 (marked rs 1 rs.length)) := treeIs ho11
  clear ho11 hy11 HB10 HP
  have hm1 : ¬ ((1 + 3 * rs.length : Nat) : Int) < 0 := by omega
  have hm0 : (0 : Int) ≤ ((1 + 3 * rs.length : Nat) : Int) := by omega
  have HH := Lib.hid (fun W h => theld1 A1 rs.length cap1 rs W rfl h (by omega))
  generalize ((1 + 3 * rs.length : Nat) : Int) = m at *
  go_wp2_with fail
  refine Calls.mono (HH.out w11 HM.out) ?_
  rintro e w12 ⟨rfl, hb12⟩
  have HB12 : Hid (Below w.heap.size w w12) := HB11.out.trans (hb12.mono HB11.out.size)
  have HO := Lib.hid (treeBelow HO.out hb12)
  have HM := Lib.hid ((HM.out.below hb12).more hb12.size)
  clear hb12 HB11
  go_wp2_with fail
  refine (toSegmentS_any _ _ _ _ ((HW.out.below HB12.out).more HB12.out.size) hlen).mono ?_
  rintro e w13 ⟨rfl, hb13, hx13⟩
  have HX := Lib.hid hx13
  clear hx13
  have HB13 : Hid (Below w.heap.size w w13) := HB12.out.trans (hb13.mono HB12.out.size)
  have HO := Lib.hid (treeBelow HO.out hb13)
  have HM := Lib.hid ((HM.out.below hb13).more hb13.size)
  clear hb13 HB12
  go_wp2_with fail
  refine (HIM.out _ _ HX.out).mono ?_
  rintro e w14 ⟨v2, rfl, ho14, hb14⟩
  obtain ⟨A3, cap3, rfl, hf14⟩ := ho14.form
  have HV : Hid (Segs w14 w14.heap.size A3 rs) := hf14
  clear ho14 hf14
  clear HX
  have HB14 : Hid (Below w.heap.size w w14) := HB13.out.trans (hb14.mono HB13.out.size)
  have HO := Lib.hid (treeBelow HO.out hb14)
  have HM := Lib.hid ((HM.out.below hb14).more hb14.size)
  clear hb14 HB13
  go_wp2_with fail
  refine (eqSegmentS_same A3 A0 rs cap3 cap0 w14 HV.out (treeIs HO.out) (by omega)).mono ?_
  rintro e w15 ⟨rfl, hb15⟩
  have HB15 : Hid (Below w.heap.size w w15) := HB14.out.trans (hb15.mono HB14.out.size)
  have HO := Lib.hid (treeBelow HO.out hb15)
  have HM := Lib.hid ((HM.out.below hb15).more hb15.size)
  have HV := Lib.hid ((HV.out.below hb15).more hb15.size)
  clear hb15 HB14
  go_wp2_with fail
  refine Calls.mono (HH.out w15 HM.out) ?_
  rintro e w16 ⟨rfl, hb16⟩
  have HB16 : Hid (Below w.heap.size w w16) := HB15.out.trans (hb16.mono HB15.out.size)
  clear hb16 HB15
  go_wp2
  go_ret
  exact ⟨rfl, HB16.out⟩

end Go.Proofs.Ytadichddgpojpaa
/- Chapter 9: the reference's MoveUp and MergeIn. -/
namespace Go.Proofs.Ytadichddgpojpaa
open Go.RowKit

set_option maxRecDepth 100000 in
set_option maxHeartbeats 4000000 in
theorem specMove_any (A : Option Addr) (l : List Seg) (c : Nat) (s : ByteArray) (w : World) (hw : Segs w w.heap.size A l) (hl : l.length ≤ 1048576) (hn : Short l) (_hs : s.size ≤ 1048576) :
    Calls Try.prog 17 #[.slice A l.length c, .string s] w (TreeAns w (moveL l s) (moveOk l s)) := by
  have HW : Hid (Segs w w.heap.size A l) := hw
  clear hw
  unfold TreeAns
  by_cases hneg : indexB l s ≤ 0
  · have HF : Hid (moveOk l s = false) := by show _ = _; unfold moveOk; rw [decide_eq_false (show ¬ 0 < indexB l s by omega), Bool.false_and]
    have HR : Hid (moveL l s = []) := off9.2.2.1 HF.out
    rw [HR.out, HF.out]
    go_enter Try.func17, Try.ntmps17
    go_wp2_with fail
    refine (l1Index_any _ _ _ _ _ HW.out hl hn).mono ?_
    rintro e w1 ⟨rfl, hb1⟩
    have HB1 := Lib.hid (hb1.alloc hb1.size (.cells #[] 36))
    have HO1 := Lib.hid (OwnTree.empty (B := w.heap.size) w1 hb1.size)
    clear hb1
    generalize indexB l s = q at *
    go_wp2
    go_ret2
    exact ⟨_, rfl, HO1.out, HB1.out⟩
  · obtain ⟨p, hM, hu⟩ := merge9_at (l := l) (s := s) (by omega)
    have hv := hM.valid
    have HI : Hid (indexB l s = ((ix9 l s : Nat) : Int)) := hM.ix
    have hi : ix9 l s < l.length := hM.lt
    have hi0 : ¬ ((ix9 l s : Nat) : Int) ≤ 0 := by have := HI.out; omega
    have hpar : parAt l (ix9 l s) = (p : Int) := hM.par
    have hpl : p < ix9 l s := hM.plt
    have hl8 := (valid_all hv).2.1
    have HLG : Hid (l[ix9 l s]? = some ⟨nmAt9 l (ix9 l s), sizeAt l (ix9 l s), (p : Int)⟩) := by
      show _ = _
      rw [nmAt9_of hi, sizeAt_of hi, ← hpar, parAt_of (List.getElem?_eq_getElem hi)]
      exact List.getElem?_eq_getElem hi
    by_cases hp0 : p = 0
    · have HF : Hid (moveOk l s = false) := by show _ = _; unfold moveOk; rw [hpar, hp0, decide_eq_true (show ((0 : Nat) : Int) = 0 by rfl), Bool.not_true, Bool.and_false]
      have HR : Hid (moveL l s = []) := off9.2.2.1 HF.out
      rw [HR.out, HF.out]
      subst hp0
      clear hneg hv hM hu hpar
      generalize ix9 l s = i at *
      generalize nmAt9 l i = nm at *
      generalize sizeAt l i = sz at *
      have hil : (i : Int) < (l.length : Int) := by omega
      have hi1 : (0 : Int) ≤ (i : Int) := Int.natCast_nonneg _
      obtain ⟨b, ob, rfl, hB, hc⟩ := HW.out (by omega)
      have c2 := (hc i _ HLG.out).2.2
      clear hc
      go_enter Try.func17, Try.ntmps17
      go_wp2_with fail
      refine (l1Index_any _ _ _ _ _ HW.out hl hn).mono ?_
      rw [HI.out]
      rintro e w1 ⟨rfl, hb1⟩
      have HB1 := Lib.hid (hb1.alloc hb1.size (.cells #[] 36))
      have HO1 := Lib.hid (OwnTree.empty (B := w.heap.size) w1 hb1.size)
      rw [← hb1.cell hB] at c2
      simp at c2
      clear hb1
      go_wp2
      go_ret2
      exact ⟨_, rfl, HO1.out, HB1.out⟩
    · have hfl : moveOk l s = true := by
        unfold moveOk
        rw [hpar, decide_eq_true (show 0 < indexB l s by omega), decide_eq_false (show ¬ ((p : Nat) : Int) = 0 by omega)]
        rfl
      have HF := Lib.hid hfl
      obtain ⟨p', q, hV, hu', hq'⟩ := move9_at hfl
      have hpp : p' = p := by rw [hu] at hu'; exact hu'.symm
      subst hpp
      have hpq : parAt l p' = (q : Int) := hV.up
      have HR : Hid (moveL l s = made9 l (sizeAt l) (moveP (parAt l) (ix9 l s) q) 0) := by show _ = _; unfold moveL; rw [if_pos hfl, hq']
      have HFA := Lib.hid hV.fall
      rw [HR.out, HF.out]
      have hpl' : p' < l.length := by omega
      have HLP : Hid (l[p']? = some ⟨nmAt9 l p', sizeAt l p', (q : Int)⟩) := by
        show _ = _
        rw [nmAt9_of hpl', sizeAt_of hpl', ← hpq, parAt_of (List.getElem?_eq_getElem hpl')]
        exact List.getElem?_eq_getElem hpl'
      clear hneg hM hu hV hu' hq' hfl
      generalize ix9 l s = i at *
      have hil : (i : Int) < (l.length : Int) := by omega
      have hi1 : (0 : Int) ≤ (i : Int) := Int.natCast_nonneg _
      have hpz : (((p' : Nat) : Int) == 0) = false := by rw [beq_eq_false_iff_ne]; omega
      have HPAR := Lib.hid hpar
      have HL := Lib.hid (fun k => row9_len (moveP (parAt l) i q) k)
      have HS := Lib.hid (fun k => row9_succ (moveP (parAt l) i q) k)
      have HMP : Hid (∀ k, moveP (parAt l) i q k = if k = i then (q : Int) else parAt l k) := fun k => rfl
      obtain ⟨b, ob, rfl, hB, hc⟩ := HW.out (by omega)
      have c2 := (hc i _ HLG.out).2.2
      have p2 := (hc p' _ HLP.out).2.2
      have hil' := hil
      clear hpar hpq HLG HLP
      go_enter Try.func17, Try.ntmps17
      go_wp2_with fail
      refine (l1Index_any _ _ _ _ _ HW.out hl hn).mono ?_
      rw [HI.out]
      rintro e w1 ⟨rfl, hb1⟩
      have HW1 := Lib.hid ((HW.out.below hb1).more hb1.size)
      have HB1 := Lib.hid hb1
      rw [← hb1.cell hB] at c2 p2
      have HC1 : Hid (∀ (k : Nat) (x : Seg), l[k]? = some x → w1.cell? ⟨b, ob + k * 3, none⟩ = some (.string x.name) ∧ w1.cell? ⟨b, ob + k * 3 + 1, none⟩ = some (.int .i64 x.size) ∧ w1.cell? ⟨b, ob + k * 3 + 2, none⟩ = some (.int .i64 x.par)) := fun k x hx => by
        have h1 := hc k x hx
        rw [← hb1.cell (p := ⟨b, ob + k * 3, none⟩) hB, ← hb1.cell (p := ⟨b, ob + k * 3 + 1, none⟩) hB, ← hb1.cell (p := ⟨b, ob + k * 3 + 2, none⟩) hB] at h1
        exact h1
      have hb9 : b < w1.heap.size := Nat.lt_of_lt_of_le hB hb1.size
      have P2 : Hid (w1.cell? ⟨b, ob + p' * 3 + 2, none⟩ = some (.int .i64 q)) := p2
      clear hb1 hc p2
      have HB0 : Hid (Below w1.heap.size w1 (w1.alloc (.cells #[] 3))) := (Below.refl _ w1).alloc (Nat.le_refl _) _
      have HO0 := Lib.hid (Si.OwnInts.empty (B := w1.heap.size) w1 (Nat.le_refl _))
      go_wp2
      clear c2
      have hp0' : (0 : Int) ≤ ((p' : Nat) : Int) := Int.natCast_nonneg _
      have hpl2 : ((p' : Nat) : Int) < (l.length : Int) := by omega
      go_loopw [7, 27] (fun ov iv wr => ∃ (k : Nat) (A' : Option Addr) (C' : Nat), iv = .int .i64 k ∧ k ≤ l.length ∧ ov = .slice A' k C' ∧ Hid (Si.OwnInts wr w1.heap.size (.slice A' k C') (row9 (moveP (parAt l) i q) k)) ∧ Hid (Below w1.heap.size w1 wr))
        (fun _ iv _ => l.length - (intOf iv).toNat)
      case atStart => exact ⟨0, _, 0, rfl, Nat.zero_le _, rfl, HO0, HB0⟩
      case round =>
        clear HO0 HB0
        obtain ⟨k, A', C', rfl, hk, rfl, HO, HB⟩ := hrel
        have hk0 : (0 : Int) ≤ (k : Int) := Int.natCast_nonneg _
        by_cases hlt : k < l.length
        · have hlt' : (k : Int) < (l.length : Int) := by omega
          obtain ⟨c0, c1, c2⟩ := HC1.out k l[k] (List.getElem?_eq_getElem hlt)
          rw [← HB.out.cell (p := ⟨b, ob + k * 3, none⟩) hb9] at c0
          rw [← HB.out.cell (p := ⟨b, ob + k * 3 + 1, none⟩) hb9] at c1
          rw [← HB.out.cell (p := ⟨b, ob + k * 3 + 2, none⟩) hb9] at c2
          have p2 := P2.out
          rw [← HB.out.cell (p := ⟨b, ob + p' * 3 + 2, none⟩) hb9] at p2
          have HSK := Lib.hid (HS.out k)
          rw [HMP.out k] at HSK
          have HLK := Lib.hid (HL.out k)
          have HLK1 := Lib.hid (HL.out (k + 1))
          have HKP : Hid (parAt l k = l[k].par) := parAt_of (List.getElem?_eq_getElem hlt)
          have HO1 := Lib.hid (HO.out.alloc (.cells #[.string l[k].name, .int .i64 l[k].size, .int .i64 l[k].par] 36))
          have HB1' := Lib.hid (HB.out.alloc HB.out.size (.cells #[.string l[k].name, .int .i64 l[k].size, .int .i64 l[k].par] 36))
          have hbr : b < wr.heap.size := Nat.lt_of_lt_of_le hb9 HB.out.size
          generalize l[k].name = nm at *
          generalize l[k].size = sz at *
          by_cases hki : k = i
          · have hke : ((k : Int) == (i : Int)) = true := by rw [beq_iff_eq]; omega
            rw [if_pos hki] at HSK
            have hpr : l[k].par = (p' : Int) := by rw [← HKP.out, hki]; exact HPAR.out
            rw [hpr] at c2 HO1 HB1'
            have p3 := Lib.cell?_alloc_some (.cells #[.string nm, .int .i64 sz, .int .i64 ((p' : Nat) : Int)] 36) p2
            clear HKP hpr p2 hki
            go_wp2_with (at_builtin; go_loud (refine wp_append_int9 rfl (.tmp 35) (.tmp 42) rfl w1.heap.size (.slice A' k C') (row9 (moveP (parAt l) i q) k) q _ rfl HO1.out (by rw [HLK.out]; omega) HB1'.out.size (wr.heap.size + 1) rfl (by simp) ?_); intro v3 w3 ho3 hb3 _; have HO3 := Lib.hid ho3; have HB3 := Lib.hid (HB1'.out.trans hb3); clear ho3 hb3)
            rw [← HSK.out] at HO3
            obtain ⟨A3, C3, rfl, -⟩ := Si.intsForm HO3.out
            rw [HLK1.out] at HO3 ⊢
            go_wp2
            go_roundw
            case rel => exact ⟨k + 1, A3, C3, by go_num, by omega, rfl, HO3, HB3⟩
            case measure => simp [intOf]; omega
          · have hke : ((k : Int) == (i : Int)) = false := by rw [beq_eq_false_iff_ne]; omega
            rw [if_neg hki, HKP.out] at HSK
            generalize l[k].par = pr at *
            go_wp2_with (at_builtin; go_loud (refine wp_append_int9 rfl (.tmp 44) (.tmp 47) rfl w1.heap.size (.slice A' k C') (row9 (moveP (parAt l) i q) k) pr _ rfl HO1.out (by rw [HLK.out]; omega) HB1'.out.size (wr.heap.size + 1) rfl (by simp) ?_); intro v3 w3 ho3 hb3 _; have HO3 := Lib.hid ho3; have HB3 := Lib.hid (HB1'.out.trans hb3); clear ho3 hb3)
            rw [← HSK.out] at HO3
            obtain ⟨A3, C3, rfl, -⟩ := Si.intsForm HO3.out
            rw [HLK1.out] at HO3 ⊢
            go_wp2
            go_roundw
            case rel => exact ⟨k + 1, A3, C3, by go_num, by omega, rfl, HO3, HB3⟩
            case measure => simp [intOf]; omega
        · obtain rfl : k = l.length := by omega
          have hb4 : Below wr.heap.size wr (wr.alloc (.cells #[] 36)) := (Below.refl _ wr).alloc (Nat.le_refl _) _
          have HO4 := Lib.hid (OwnTree.empty (B := wr.heap.size) wr (Nat.le_refl _))
          have HW3 := Lib.hid ((HW1.out.below HB.out).more HB.out.size)
          have HAW := Lib.hid (aw9_old (g := wr.heap.size) HW3.out (by omega) (Nat.le_refl _))
          have HI3 := Lib.hid (Si.intsOf HO.out)
          have HAP : Hid (Aw9 (.slice (some ⟨wr.heap.size, 0, none⟩) 0 0) A') := fun a ha e => by
            have h1 := (World.ownsRow.lt HO.out a.block (by rw [ha]; rfl)).2
            injection e with e
            have h3 : wr.heap.size = a.block := e
            omega
          have HW4 := Lib.hid ((HW3.out.below hb4).more hb4.size)
          have HI4 := Lib.hid ((HI3.out.below hb4).more hb4.size)
          have HZ5 : Hid (w.heap.size ≤ wr.heap.size) := Nat.le_trans HB1.out.size HB.out.size
          have HB4 : Hid (Below w.heap.size w (wr.alloc (.cells #[] 36))) := (HB1.out.trans (HB.out.mono HB1.out.size)).alloc HZ5.out _
          have HZ4 := Lib.hid hb4.size
          have hl0 : 0 < l.length := by omega
          clear hb4
          go_wp2_with fail
          refine (build9_call (r := 0) HFA.out (by omega) hl0 HW4.out HI4.out HO4.out HAW.out HAP.out HZ4.out).mono ?_
          rintro e w5 ⟨v, rfl, ho5, hb5⟩
          have HO5 := Lib.hid (treeLow ho5 HZ5.out)
          have HB5 : Hid (Below w.heap.size w w5) := HB4.out.trans (hb5.mono HZ5.out)
          clear ho5 hb5
          go_wp2
          go_ret2
          exact ⟨_, rfl, HO5.out, HB5.out⟩

end Go.Proofs.Ytadichddgpojpaa
