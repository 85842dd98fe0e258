/- The program's reader of traces: readCall, readOutermost. -/
import Derived.Test.YtadichddgpojpaaDoorFc
import Derived.Maps.AppendAt
import Derived.Deep.AppendLies
namespace Go.Proofs.YtadichddgpojpaaDoor
open Go.RowKit

/-- The first call of a list: a slice of one. -/
theorem OwnCalls.one {w : World} {B c0 : Nat} {u : Value} {c : UInt8} {k : Forest} (hB : B ≤ c0) (hB2 : B ≤ w.heap.size) (hu : IsCall w (fun q => c0 ≤ q ∧ q < w.heap.size) c k u) :
    OwnCalls (w.alloc (.cells #[u] 88)) B (.slice (some ⟨w.heap.size, 0, none⟩) 1 1) (.cons c k .nil) := by
  refine ⟨[u], World.ownsRow_lit w #[u] 1 hB2 (by simp [maxLen]) rfl, u, [], rfl, ?_, rfl⟩
  refine hu.keep fun q h => ⟨⟨by omega, by simp; omega, ?_⟩, Below.heap_alloc w _ q h.2⟩
  intro e
  have : w.heap.size = q := by simpa [Value.ownBlock] using e
  omega

theorem Only.andLow {w w1 w2 : World} {may : Nat → Prop} (h : Only w w1 may) (hb : Below w.heap.size w1 w2) : Only w w2 may :=
  ⟨hb.os.trans h.os, hb.tape.trans h.tape, hb.output.trans h.output, Nat.le_trans h.size hb.size, fun k hk hm => (hb.block k hk).trans (h.block k hk hm)⟩
theorem OwnCalls.lt {w : World} {B : Nat} {v : Value} {f : Forest} (h : OwnCalls w B v f) : ∀ x, v.ownBlock = some x → B ≤ x ∧ x < w.heap.size := by
  obtain ⟨xs, hown, _⟩ := h
  exact fun x e => hown.lt x e

theorem Row.only {w w' : World} {b g : Nat} {t : TypeId} {cs : Array Value} (h : Row w g t cs) (ho : Only w w' (· = b)) (hg : g ≠ b) : Row w' g t cs := ho.row h hg

set_option maxRecDepth 100000 in
set_option maxHeartbeats 4000000 in
theorem readCall_any (b g : Nat) (l : List Seg) (nb : Nat → Nat) (hv : validB l = true) : ∀ (d : Nat) (s : List UInt8) (p : Int) (w : World), p = 9 - (d : Int) → d ≤ 8 → s.length ≤ 1048576 → Known w b g l nb →
    Row w b 68 #[.slice (some ⟨g, 0, none⟩) l.length l.length, .string ⟨s.toArray⟩] →
    Calls Tryd.prog 43 #[.pointer (some ⟨b, 0, none⟩), .int .i64 p] w (CallPost w b (.slice (some ⟨g, 0, none⟩) l.length l.length) (readA (callP l) d s)) := by
  intro d
  induction d with
  | zero =>
    intro s p w hp hd hs hk hr
    have h1 : ¬ p ≤ 8 := by omega
    have h2 : 8 < p := by omega
    have HR : Hid (readA (callP l) 0 s = none) := readA_zero _ s
    clear hp hd hk hr
    go_enter Tryd.func43, Tryd.ntmps43
    go_wp2
    exact ⟨rfl, .inr ⟨HR.out, _, rfl⟩, Only.refl _ _⟩
  | succ d ih =>
    intro s p w hp hd hs hk hr
    have IH := Lib.hid ih
    have HK : Hid (Known w b g l nb) := hk
    have HR := Lib.hid hr
    have HV := Lib.hid hv
    have h1 : p ≤ 8 := by omega
    have h0 : 1 ≤ p := by omega
    have HP : Hid (p + 1 = 9 - (d : Int)) := by show _ = _; omega
    have hbw := hr.lt
    clear ih hk hr hp hv
    go_enter Tryd.func43, Tryd.ntmps43
    go_wp2_with fail
    refine (traceName_any b g l nb s w HK.out HV.out HR.out).mono ?_
    rintro e w1 ⟨(⟨c, r, hsc, hcp, rfl, hr1⟩ | ⟨hno, m, rfl⟩), ho1⟩
    · have HS := Lib.hid hsc
      have HC := Lib.hid hcp
      have HR1 := Lib.hid hr1
      have HO1 := Lib.hid ho1
      have hsl : r.length < s.length := by rw [hsc]; simp
      clear hsc hcp hr1 ho1
      have HX := Lib.hid (traceSkip_any b _ r 40 w1 HR1.out)
      go_wp2_with fail
      refine Calls.mono HX.out ?_
      cases hh : headIs r 40 with
      | false =>
        obtain ⟨hne, htl⟩ := headIs_no hh
        rw [htl]
        have HN : Hid (readA (callP l) (d + 1) s = some (c, .nil, r)) := by
          show _ = _
          rw [HS.out]
          exact readA_leaf HC.out hne
        clear hh htl hne
        rintro e w2 ⟨rfl, hr2, ho2⟩
        have HR2 := Lib.hid hr2
        have HO2 := Lib.hid (HO1.out.trans ho2)
        clear hr2 ho2
        go_wp2_with fail
        refine (newCall_leaf c none 0 _).mono ?_
        rintro e w3 ⟨rfl, rfl⟩
        have HI : Hid (∀ S, IsCall w2 S c .nil (leafV c)) := fun S => .inl ⟨rfl, rfl⟩
        unfold leafV at HI ⊢
        go_wp2
        go_ret
        exact ⟨.inl ⟨c, .nil, r, _, HN.out, rfl, HI.out _, HR2.out⟩, HO2.out⟩
      | true =>
        obtain ⟨r1, hrc, htl⟩ := headIs_yes hh
        rw [htl]
        have HN : Hid (readA (callP l) (d + 1) s = named c (closed (calls (callP l) d r1))) := by
          show _ = _
          rw [HS.out, hrc]
          exact readA_open HC.out
        have hrl : r1.length < r.length := by rw [hrc]; simp
        clear hh htl hrc
        rintro e w2 ⟨rfl, hr2, ho2⟩
        have HR2 := Lib.hid hr2
        have HO2 := Lib.hid (HO1.out.trans ho2)
        have hz2 : w.heap.size ≤ w2.heap.size := (HO1.out.trans ho2).size
        have HQ := Lib.hid (IH.out r1 (p + 1) w2 HP.out (by omega) (by omega) (HK.out.below ((HO1.out.trans ho2).belowRow (Nat.le_of_lt hbw))) hr2)
        clear hr2 ho2 HX HS HR1 HO1 HR
        go_wp2_with fail
        refine Calls.mono HQ.out ?_
        rintro e w3 ⟨(⟨c1, k1, r2, v1, hq, rfl, hic, hr3⟩ | ⟨hq, m, rfl⟩), ho3⟩
        · obtain ⟨r1', hr1', hca, hc41, hlen⟩ := readA_some (callP_shut l) hq
          have HE : Hid (readA (callP l) (d + 1) s = named c (closed (ahead (.cons c1 k1 .nil) (calls (callP l) d r2)))) := by
            show _ = _
            rw [HN.out, ← ahead_nil (calls (callP l) d r1), ahead_step .nil (callP_shut l) hq]
            rfl
          obtain ⟨t1, x1, rfl⟩ := hic.iface
          have hz3 : w2.heap.size ≤ w3.heap.size := ho3.size
          have HW := Lib.hid (OwnCalls.one (B := w.heap.size) hz2 (by omega) hic)
          have HR3 : Hid (Row (w3.alloc (.cells #[.iface t1 x1] 88)) b 68 #[.slice (some ⟨g, 0, none⟩) l.length l.length, .string ⟨r2.toArray⟩]) := hr3.alloc _
          have HO3 : Hid (Only w (w3.alloc (.cells #[.iface t1 x1] 88)) (· = b)) := by
            refine Only.trans (HO2.out.trans ho3) ?_
            have hb : Below w3.heap.size w3 (w3.alloc (.cells #[.iface t1 x1] 88)) := (Below.refl _ w3).alloc (Nat.le_refl _) _
            exact (Only.refl w3 _).andBelow hb
          clear hq hca hr1' hic hr3 ho3 HQ HN HO2 HR2
          go_wp2_with fail
          generalize w3.alloc (.cells #[.iface t1 x1] 88) = W3 at *
          go_loopw [6] (fun v wr => ∃ (F : Forest) (sj : List UInt8), F.isNil = false ∧ OwnCalls wr w.heap.size v F ∧ Row wr b 68 #[.slice (some ⟨g, 0, none⟩) l.length l.length, .string ⟨sj.toArray⟩] ∧ Only w wr (· = b) ∧ F.len + sj.length ≤ s.length ∧ Hid (readA (callP l) (d + 1) s = named c (closed (ahead F (calls (callP l) d sj)))))
            (fun _ wr => restAt b wr)
          case atStart => exact ⟨_, r2, rfl, HW.out, HR3.out, HO3.out, by show 0 + 1 + r2.length ≤ _; omega, HE⟩
          case round =>
            obtain ⟨F, sj, hF, how, hrw, hon, hln, HEj⟩ := hrel
            clear HW HR3 HO3 HE
            obtain ⟨q, cap, rfl, hq1, hq2, hcells⟩ := how.form hF
            have HOW := Lib.hid how
            have HRW := Lib.hid hrw
            have HON := Lib.hid hon
            have HFN : Hid (F.isNil = false) := hF
            have HM : Hid (restAt b wr = sj.length) := restAt_of hrw
            have hFl : 0 < F.len := by rw [Forest.isNil_len] at hF; have := of_decide_eq_false hF; omega
            have hzr : w.heap.size ≤ wr.heap.size := hon.size
            have HCL := Lib.hid hcells
            have HX := Lib.hid (traceSkip_any b _ sj 41 wr hrw)
            clear how hrw hon hF hcells
            go_wp2_with fail
            refine Calls.mono HX.out ?_
            cases hh : headIs sj 41 with
            | true =>
              obtain ⟨u, hu, htl⟩ := headIs_yes hh
              rw [htl]
              have HN : Hid (readA (callP l) (d + 1) s = some (c, F, u)) := by
                show _ = _
                rw [HEj.out, hu, ahead_shut, closed_app HFN.out]
                rfl
              clear hh htl hu
              rintro e w4 ⟨rfl, hr4, ho4⟩
              have HIC : Hid (IsCall w4 (fun q => w.heap.size ≤ q ∧ q < w4.heap.size) c F (branchV c q F.len cap)) := by
                refine .inr ⟨HFN.out, q, cap, rfl, ⟨hq1, by have := ho4.size; omega⟩, ?_⟩
                refine Cells.keep (fun x h => ⟨⟨h.1, by have := ho4.size; omega⟩, ho4.block x h.2 (by omega)⟩) F q 0 (ho4.block q hq2 (by omega)) HCL.out
              have HR4 := Lib.hid hr4
              have HO4 := Lib.hid (HON.out.trans ho4)
              clear hr4 ho4 HX HCL HOW
              go_wp2_with fail
              refine (newCall_branch c q F.len cap _ hFl).mono ?_
              rintro e w5 ⟨rfl, rfl⟩
              unfold branchV at HIC ⊢
              go_wp2
              go_ret
              exact ⟨.inl ⟨c, F, u, _, HN.out, rfl, HIC.out, HR4.out⟩, HO4.out⟩
            | false =>
              obtain ⟨hne, htl⟩ := headIs_no hh
              rw [htl]
              have HNE := Lib.hid hne
              clear hh htl hne
              rintro e w4 ⟨rfl, hr4, ho4⟩
              have HQ := Lib.hid (IH.out sj (p + 1) w4 HP.out (by omega) (by omega) (HK.out.below ((HON.out.trans ho4).belowRow (Nat.le_of_lt hbw))) hr4)
              have HO4 := Lib.hid (HON.out.trans ho4)
              have HOW4 := Lib.hid (HOW.out.only ho4 hbw)
              clear hr4 ho4 HX HCL HOW HRW HON
              go_wp2_with fail
              refine Calls.mono HQ.out ?_
              rintro e w5 ⟨(⟨c2, k2, r3, v2, hq, rfl, hic, hr5⟩ | ⟨hq, m, rfl⟩), ho5⟩
              · obtain ⟨r3', hr3', hca, hc41, hlen3⟩ := readA_some (callP_shut l) hq
                have HE5 : Hid (readA (callP l) (d + 1) s = named c (closed (ahead (F.app (.cons c2 k2 .nil)) (calls (callP l) d r3)))) := by
                  show _ = _
                  rw [HEj.out, ahead_step F (callP_shut l) hq]
                obtain ⟨xs, hown, hvals⟩ := HOW4.out.only ho5 hbw
                obtain ⟨t2, x2, rfl⟩ := hic.iface
                have HOWN := Lib.hid hown
                have HVAL := Lib.hid hvals
                have HIC := Lib.hid hic
                have HR5 := Lib.hid hr5
                have HO5 := Lib.hid (HO4.out.trans ho5)
                have HOL := Lib.hid HOW4.out.lt
                have hz4 : w.heap.size ≤ w4.heap.size := HO4.out.size
                have hz5 : w.heap.size ≤ w5.heap.size := HO5.out.size
                clear hq hca hr3' hic hr5 ho5 hown hvals HQ HEj HOW4
                obtain ⟨i0, hi0, hz0, hz1, hz2'⟩ := info_parts info_call
                have I0 := Lib.hid hi0
                have Z0 := Lib.hid hz0
                have Z1 := Lib.hid hz1
                have Z2 := Lib.hid hz2'
                have HNW := Lib.hid (World.news_of_block (cs := #[.iface t2 x2]) (t := 88) (fr := (0, 0)) (heap_alloc_new w5 (.cells #[.iface t2 x2] 88)))
                clear hi0 hz0 hz1 hz2'
                go_wp2_with (at_builtin; go_loud (refine wpList_append_own_at _ rfl _ _ 49 rfl w.heap.size 88 i0 .nilIface 1 16 Tryd.underlying49 I0.out Z0.out Z1.out Z2.out rfl (by decide) _ F.len xs rfl (HOWN.out.alloc _) ⟨w5.heap.size, 0, none⟩ 1 1 [.iface t2 x2] rfl rfl HNW.out (by simp [Value.oneCell']) (by unfold maxLen; omega) (by omega) (by have := HO5.out.size; simp; omega) ?_); intro v3 w6 hown3 hgrow _ hat; obtain ⟨g3, cap3, rfl⟩ := own_form hown3 (by omega); have H3 := Lib.hid hown3; have HG := Lib.hid hgrow; have HA := Lib.hid hat; clear hown3 hgrow hat)
                have HOW6 : Hid (OwnCalls w6 w.heap.size (.slice (some ⟨g3, 0, none⟩) (F.len + 1) cap3) (F.app (.cons c2 k2 .nil))) :=
                  OwnCalls.more HVAL.out HIC.out hz4 (fun x e => (HOL.out x e).2) ((Below.refl _ w5).alloc (Nat.le_refl _) (.cells #[.iface t2 x2] 88)) HG.out H3.out HA.out
                have hgb : Below w.heap.size (w5.alloc (.cells #[.iface t2 x2] 88)) w6 := (Below.refl _ _).grown HG.out (by simp; omega) (fun x e => (HOL.out x e).1)
                have HR6 : Hid (Row w6 b 68 #[.slice (some ⟨g, 0, none⟩) l.length l.length, .string ⟨r3.toArray⟩]) := (HR5.out.alloc _).below hgb hbw
                have HO6 : Hid (Only w w6 (· = b)) := (HO5.out.andBelow ((Below.refl _ w5).alloc (Nat.le_refl _) (.cells #[.iface t2 x2] 88))).andLow hgb
                have HM6 : Hid (restAt b w6 = r3.length) := restAt_of HR6.out
                have HFN6 : Hid ((F.app (.cons c2 k2 .nil)).isNil = false) := Forest.snoc_isNil F c2 k2
                have hln6 : (F.app (.cons c2 k2 .nil)).len + r3.length ≤ s.length := by rw [Forest.app_len]; show F.len + (0 + 1) + r3.length ≤ _; omega
                clear HVAL HOWN HIC HG H3 HA HOL hgb HR5 HO5 HNW I0 Z0 Z1 Z2
                go_wp2
                go_roundw
                case rel => exact ⟨_, r3, HFN6.out, HOW6.out, HR6.out, HO6.out, hln6, HE5⟩
                case measure => rw [HM6.out, HM.out]; omega
              · have HN : Hid (readA (callP l) (d + 1) s = none) := by
                  show _ = _
                  rw [HEj.out, closed_next F hq HNE.out]
                  rfl
                have HO5 := Lib.hid (HO4.out.trans ho5)
                clear hq ho5 HQ
                go_wp2
                exact ⟨rfl, .inr ⟨HN.out, _, rfl⟩, HO5.out⟩
        · have HN2 : Hid (readA (callP l) (d + 1) s = none) := by
            show _ = _
            rw [HN.out, closed_first hq]
            rfl
          have HO3 := Lib.hid (HO2.out.trans ho3)
          clear hq ho3 HQ
          go_wp2
          exact ⟨rfl, .inr ⟨HN2.out, _, rfl⟩, HO3.out⟩
    · have HN : Hid (readA (callP l) (d + 1) s = none) := readA_no hno
      have HO1 := Lib.hid ho1
      clear hno ho1
      go_wp2
      exact ⟨rfl, .inr ⟨HN.out, _, rfl⟩, HO1.out⟩

end Go.Proofs.YtadichddgpojpaaDoor
