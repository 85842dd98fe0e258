/- The program's text of a tree. -/
import Derived.Test.YtdbddockmdkmeaaDoorMu
import Derived.Test.YtdbddockmdkmeaaDoorMb
import Derived.Test.YtdbddockmdkmeaaDoorNo
namespace Go.Proofs.YtdbddockmdkmeaaDoor
open Go.RowKit

/-- What is written of a segment ahead of its child number 'j'. -/
def headT (l : List Seg) (f i j : Nat) : List UInt8 := nameB l i ++ Lib.itoa (sizeAt l i) ++ (if j = 0 then [] else 40 :: joinC (((kidsOf l i l.length).take j).map (textT l f)))
theorem headT_succ {l : List Seg} {f i j : Nat} (hj : j < (kidsOf l i l.length).length) : headT l f i (j + 1) = headT l f i j ++ (if j = 0 then 40 else 44) :: textT l f (kidsOf l i l.length)[j] := by
  unfold headT
  rw [if_neg (by omega), List.take_succ_eq_append_getElem hj, List.map_append]
  show _ ++ 40 :: joinC (_ ++ [textT l f _]) = _
  rw [joinC_snoc]
  by_cases h : j = 0
  · subst h
    rw [if_pos (by simp), if_pos rfl, if_pos rfl, List.append_nil]
  · rw [if_neg (fun e => by
      have := congrArg List.length e
      rw [List.length_map, List.length_take, List.length_nil] at this
      omega), if_neg h, if_neg h]
    simp
theorem headT_mono {l : List Seg} {f i : Nat} : ∀ n j, j ≤ n → n ≤ (kidsOf l i l.length).length → (headT l f i j).length ≤ (headT l f i n).length
  | 0, j, h, _ => by obtain rfl : j = 0 := by omega
                     exact Nat.le_refl _
  | n + 1, j, h, hn => by
    by_cases e : j = n + 1
    · rw [e]; exact Nat.le_refl _
    · have := headT_mono (l := l) (f := f) (i := i) n j (by omega) (by omega)
      rw [headT_succ (by omega), List.length_append]
      omega
theorem textT_head (l : List Seg) (f i : Nat) : textT l (f + 1) i = if (kidsOf l i l.length).length = 0 then headT l f i 0 else headT l f i (kidsOf l i l.length).length ++ [41] := by
  rw [textT_succ]
  by_cases h : kidsOf l i l.length = []
  · rw [if_pos h, if_pos (by rw [h]; rfl)]
    rfl
  · have h2 : (kidsOf l i l.length).length ≠ 0 := fun e => h (List.eq_nil_of_length_eq_zero e)
    rw [if_neg h, if_neg h2]
    unfold headT
    rw [if_neg h2, List.take_length]
    simp
theorem head_le_text {l : List Seg} {f i j : Nat} (hj : j ≤ (kidsOf l i l.length).length) : (headT l f i j).length ≤ (textT l (f + 1) i).length := by
  have := headT_mono (l := l) (f := f) (i := i) _ j hj (Nat.le_refl _)
  rw [textT_head]
  split
  · rename_i h; rw [h] at this; exact this
  · rw [List.length_append]; omega

/-- The nodes of a tree in memory, apart from a Builder in block 'b'. -/
structure Hung (W : World) (b : Nat) (l : List Seg) (nb : Nat → Nat) (cv : Nat → Value) : Prop where
  node : ∀ i s, l[i]? = some s → ∃ pp, Row W (nb i) 106 (nodeCells s.name s.size pp (cv i))
  nodeAt : ∀ i, i < l.length → nb i ≠ b
  kids : ∀ i, i < l.length → ∃ A cap, cv i = .slice A (kidsOf l i l.length).length cap ∧ (0 < (kidsOf l i l.length).length → ∃ (g : Nat) (cs : Array Value), A = some ⟨g, 0, none⟩ ∧ g ≠ b ∧ Row W g 57 cs ∧ ∀ (j k : Nat), (kidsOf l i l.length)[j]? = some k → cs[j]? = some (ptrTo (nb k)))
theorem Hung.kept {W W' : World} {b : Nat} {l : List Seg} {nb : Nat → Nat} {cv : Nat → Value} (h : Hung W b l nb cv) (hk : Lib.OthersKept 5 (some b) W W') : Hung W' b l nb cv where
  node := fun i s hs => by
    obtain ⟨pp, hr⟩ := h.node i s hs
    exact ⟨pp, kept_rowW hk hr (h.nodeAt i (List.getElem?_eq_some_iff.1 hs).1) (by decide)⟩
  nodeAt := h.nodeAt
  kids := fun i hi => by
    obtain ⟨A, cap, e, hg⟩ := h.kids i hi
    refine ⟨A, cap, e, fun h0 => ?_⟩
    obtain ⟨g, cs, e2, hgb, hr, hc⟩ := hg h0
    exact ⟨g, cs, e2, hgb, kept_rowW hk hr hgb (by decide), hc⟩
theorem Nodes.hung {w : World} {B g : Nat} {l : List Seg} {nb : Nat → Nat} {cv : Nat → Value} (h : Nodes w B g l.length l.length l nb cv) (o : Obj) : Hung (w.alloc o) w.heap.size l nb cv where
  node := fun i s hs => ⟨parPtr l nb i, (h.node i s (List.getElem?_eq_some_iff.1 hs).1 hs).alloc o⟩
  nodeAt := fun i hi => by
    have := (h.node i _ hi (List.getElem?_eq_getElem hi)).lt
    omega
  kids := fun i hi => by
    have hk := h.kids i hi
    rcases hk.2 with ⟨e, h0⟩ | ⟨g', cap, cur, e, hg, hh, r⟩
    · exact ⟨none, 0, by rw [e, h0], fun h1 => absurd h1 (by omega)⟩
    · refine ⟨some ⟨g', 0, none⟩, cap, e, fun _ => ⟨g', cur, rfl, ?_, ?_, fun j k hj => ?_⟩⟩
      · have : g' < w.heap.size := (Array.getElem?_eq_some_iff.1 hh).1
        omega
      · exact Row.alloc (hh : Row w g' _ cur) o
      · have hlt := (List.getElem?_eq_some_iff.1 hj).1
        rw [e] at hk
        have hc := World.ownsRow.cellAt hk j (by omega)
        have hr : Row w g' 57 cur := hh
        rw [hr.cell] at hc
        rw [hc]
        unfold ptrsOf
        rw [List.getElem?_map, hj]
        rfl

theorem kids_at {l : List Seg} {i k : Nat} (h : k < (kidsOf l i l.length).length) : (kidsOf l i l.length)[k] ∈ kidsOf l i l.length := List.getElem_mem h

set_option maxRecDepth 100000 in
set_option maxHeartbeats 2000000 in
theorem write_any (l : List Seg) (nb : Nat → Nat) (cv : Nat → Value) (b : Nat) (w : World) (hv : validB l = true) : ∀ f i, i < l.length → l.length ≤ i + f → f ≤ 8 → ∀ y W, Bld12 b w y W → Hung W b l nb cv → y.size + (textT l f i).length ≤ 90000000 →
    Calls Tryd.prog 50 #[.pointer (some ⟨nb i, 0, none⟩), .pointer (some ⟨b, 0, none⟩)] W fun e W' => e = .returned (.tuple #[]) ∧ Hid (Bld12 b w (y ++ txt12 (textT l f i)) W') ∧ Lib.OthersKept 5 (some b) W W'
  | 0, i, hi, hf, _, _, _, _, _, _ => absurd hf (by omega)
  | f + 1, i, hi, hf, h8, y, W, hI, hN, hy => by
    have IH : Hid (∀ k, i < k → k < l.length → ∀ y W, Bld12 b w y W → Hung W b l nb cv → y.size + (textT l f k).length ≤ 90000000 →
        Calls Tryd.prog 50 #[.pointer (some ⟨nb k, 0, none⟩), .pointer (some ⟨b, 0, none⟩)] W fun e W' => e = .returned (.tuple #[]) ∧ Hid (Bld12 b w (y ++ txt12 (textT l f k)) W') ∧ Lib.OthersKept 5 (some b) W W') :=
      fun k h1 h2 y W => write_any l nb cv b w hv f k h2 (by omega) (by omega) y W
    have HI := Lib.hid hI
    have HN := Lib.hid hN
    obtain ⟨pp, hr⟩ := hN.node i _ (List.getElem?_eq_getElem hi)
    obtain ⟨A, cap, ecv, hg⟩ := hN.kids i hi
    rw [ecv] at hr
    have hnb := hN.nodeAt i hi
    have hk7 := kids_seven hv i
    have hx1 := sizeAt_in hv hi
    have hxs := sizeAt_of hi
    have HH0 : Hid (txt12 (headT l f i 0) = l[i].name ++ txt12 (Lib.itoa l[i].size)) := by
      show _ = _
      unfold headT
      rw [if_pos rfl, List.append_nil, ← hxs]
      have e1 : l[i].name = txt12 (nameB l i) := by
        unfold nameB
        rw [List.getElem?_eq_getElem hi]
        rfl
      rw [e1, txt12_app]
    rw [hxs] at hx1
    obtain ⟨hx0, hx9⟩ := hx1
    have hnl : l[i].name.size = 1 := by
      have := nameB_len hv hi
      unfold nameB at this
      rw [List.getElem?_eq_getElem hi] at this
      exact this
    have hil := itoa_99 hx0 hx9
    have HTH := Lib.hid (textT_head l f i)
    have HHS := Lib.hid (fun j hj => headT_succ (l := l) (f := f) (i := i) (j := j) hj)
    have HLE := Lib.hid (fun j hj => head_le_text (l := l) (f := f) (i := i) (j := j) hj)
    have HKL := Lib.hid (fun k (hk : k < (kidsOf l i l.length).length) => kids_lt hv (kids_at hk))
    generalize l[i] = s at *
    obtain ⟨n, hn⟩ := Int.eq_ofNat_of_zero_le (show 0 ≤ s.size by omega)
    have hn9 : n < 100 := by omega
    have hit : Lib.itoa s.size = Lib.decDigits n := by
      rw [hn]
      unfold Lib.itoa
      rw [if_neg (by omega), Int.toNat_natCast]
    rw [hit] at HH0 hil
    rw [hn] at hr
    clear hit hx0 hx9 hxs hI hN ecv hn
    have HR := Lib.hid hr
    have c0 : W.cell? ⟨nb i, 0, none⟩ = some (.string s.name) := hr.cell 0
    have HHY : Hid (y ++ txt12 (headT l f i 0) = y ++ s.name ++ txt12 (Lib.decDigits n)) := by
      show _ = _
      rw [HH0.out, ByteArray.append_assoc]
    clear hr HH0
    have hyb : y.size ≤ 90000000 := by omega
    have hs0 : s.name.size ≤ 100000000 := by omega
    have hs1 : (y ++ s.name).size ≤ 100000000 := by rw [ByteArray.size_append]; omega
    have hs2 : (txt12 (Lib.decDigits n)).size ≤ 100000000 := by rw [txt12_size]; omega
    have HHB : Hid (∀ j, j ≤ (kidsOf l i l.length).length → (y ++ txt12 (headT l f i j)).size ≤ 90000000) := fun j hj => by
      have := HLE.out j hj
      rw [ByteArray.size_append, txt12_size]
      omega
    have HHC : Hid (∀ j (hj : j < (kidsOf l i l.length).length), (y ++ txt12 (headT l f i j)).size + 1 + (textT l f (kidsOf l i l.length)[j]).length ≤ 90000000) := fun j hj => by
      have h1 := HLE.out (j + 1) hj
      rw [HHS.out j hj, List.length_append, List.length_cons] at h1
      rw [ByteArray.size_append, txt12_size]
      omega
    clear hy hnl hil HLE
    generalize kidsOf l i l.length = ks at *
    go_enter Tryd.func50, Tryd.ntmps50
    go_wp2_with fail
    refine (bldStr12 b w y s.name W HI.out (by omega) hs0).mono ?_
    rintro e W1 ⟨rfl, HB1, hk1⟩
    have HK1 := Lib.hid hk1
    have HR1 := Lib.hid (kept_rowW hk1 HR.out hnb (by decide))
    have c1 : W1.cell? ⟨nb i, 1, none⟩ = some (.int .i64 (n : Int)) := HR1.out.cell 1
    clear hk1 c0
    go_wp2_with fail
    refine (Tryd.strconv_Itoa_small n hn9 W1).mono ?_
    rintro e W2 ⟨rfl, rfl⟩
    go_wp2_with fail
    refine (bldStr12 b w (y ++ s.name) (txt12 (Lib.decDigits n)) _ HB1.out hs1 hs2).mono ?_
    rintro e W3 ⟨rfl, HB3, hk3⟩
    rw [← HHY.out] at HB3
    have HK3 := Lib.hid (HK1.out.trans hk3)
    have HR3 := Lib.hid (kept_rowW hk3 HR1.out hnb (by decide))
    have c3 : W3.cell? ⟨nb i, 3, none⟩ = some (.slice A ks.length cap) := HR3.out.cell 3
    clear hk3 c1 HB1 HK1
    by_cases h0 : ks.length = 0
    · have hz : ((ks.length : Int) == 0) = true := by rw [h0]; rfl
      rw [if_pos h0] at HTH
      rw [← HTH.out] at HB3
      go_wp2
      (try simp only [Exit.inBlock, Exit.then])
      refine bodyPost_ret (results_none rfl _ _ _) rfl ?_
      exact ⟨rfl, HB3, HK3.out⟩
    · have hz : ((ks.length : Int) == 0) = false := by rw [beq_eq_false_iff_ne]; omega
      rw [if_neg h0] at HTH
      obtain ⟨g, cs, rfl, hgb, hrg, hcs⟩ := hg (by omega)
      have HRG := Lib.hid hrg
      have HCS := Lib.hid hcs
      have H0 := Lib.hid h0
      clear hg hrg hcs h0
      go_wp2
      go_loopw [30] (fun i' wr => ∃ (k : Nat) (x : ByteArray), k ≤ ks.length ∧ i' = .int .i64 k ∧ Hid (x = y ++ txt12 (headT l f i k)) ∧ Hid (Bld12 b w x wr) ∧ Hid (Lib.OthersKept 5 (some b) W wr))
        (fun i' _ => ks.length - (intOf i').toNat)
      case atStart => exact ⟨0, _, Nat.zero_le _, rfl, Lib.hid rfl, HB3, HK3⟩
      case round =>
        obtain ⟨k, x, hk, rfl, HX, HB, HK⟩ := hrel
        clear HB3 HK3 c3 HR3
        have hxb : x.size ≤ 90000000 := by rw [HX.out]; exact HHB.out k hk
        by_cases hlt : k < ks.length
        · have hlt' : (k : Int) < (ks.length : Int) := by omega
          have e0 := (kept_rowW HK.out HRG.out hgb (by decide)).cell k
          rw [HCS.out k ks[k] (List.getElem?_eq_getElem hlt)] at e0
          have e0 : wr.cell? ⟨g, k, none⟩ = some (.pointer (some ⟨nb ks[k], 0, none⟩)) := e0
          obtain ⟨hj1, hj2⟩ := HKL.out k hlt
          have hxc := HHC.out k hlt
          rw [← HX.out] at hxc
          have HHN := Lib.hid (HHS.out k hlt)
          have HNN : Hid (y ++ txt12 (headT l f i (k + 1)) = x ++ ⟨#[if k = 0 then 40 else 44]⟩ ++ txt12 (textT l f ks[k])) := by
            show _ = _ ++ txt12 [_] ++ _
            rw [HHN.out, HX.out, ByteArray.append_assoc, ByteArray.append_assoc, txt12_app, txt12_app]
            rfl
          have HC := Lib.hid (fun y W h1 h2 h3 => IH.out _ hj1 hj2 y W h1 h2 h3)
          clear HHN hj1 hj2
          generalize ks[k] = j at *
          by_cases hk0 : k = 0
          · subst hk0
            rw [if_pos rfl] at HNN
            go_wp2_with fail
            refine (bldByte12 b w x 40 _ (by decide) wr HB.out (by omega)).mono ?_
            rintro e W4 ⟨rfl, HB4, hk4⟩
            have HK4 := Lib.hid (HK.out.trans hk4)
            clear hk4
            go_wp2_with fail
            refine (HC.out _ W4 HB4.out (HN.out.kept HK4.out) (by rw [ByteArray.size_append, one12]; omega)).mono ?_
            rintro e W5 ⟨rfl, HB5, hk5⟩
            have HK5 := Lib.hid (HK4.out.trans hk5)
            clear hk5
            go_wp2
            go_roundw
            case rel => exact ⟨1, _, by omega, rfl, Lib.hid HNN.out.symm, HB5, HK5⟩
            case measure => simp [intOf]; omega
          · have hkz : ((k : Int) == 0) = false := by rw [beq_eq_false_iff_ne]; omega
            rw [if_neg hk0] at HNN
            go_wp2_with fail
            refine (bldByte12 b w x 44 _ (by decide) wr HB.out (by omega)).mono ?_
            rintro e W4 ⟨rfl, HB4, hk4⟩
            have HK4 := Lib.hid (HK.out.trans hk4)
            clear hk4
            go_wp2_with fail
            refine (HC.out _ W4 HB4.out (HN.out.kept HK4.out) (by rw [ByteArray.size_append, one12]; omega)).mono ?_
            rintro e W5 ⟨rfl, HB5, hk5⟩
            have HK5 := Lib.hid (HK4.out.trans hk5)
            clear hk5
            go_wp2
            go_roundw
            case rel => exact ⟨k + 1, _, by omega, by go_num, Lib.hid HNN.out.symm, HB5, HK5⟩
            case measure => simp [intOf]; omega
        · obtain rfl : k = ks.length := by omega
          have HE : Hid (x ++ ⟨#[41]⟩ = y ++ txt12 (textT l (f + 1) i)) := by
            show _ ++ txt12 [41] = _
            rw [HTH.out, HX.out, ByteArray.append_assoc, txt12_app]
          go_wp2_with fail
          refine (bldByte12 b w x 41 _ (by decide) wr HB.out (by omega)).mono ?_
          rintro e W4 ⟨rfl, HB4, hk4⟩
          rw [HE.out] at HB4
          have HK4 := Lib.hid (HK.out.trans hk4)
          clear hk4
          go_wp2
          go_end0
          exact ⟨rfl, HB4, HK4.out⟩

end Go.Proofs.YtdbddockmdkmeaaDoor
