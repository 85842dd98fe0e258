/- Joined: Ap Op. -/
import Derived.Test.YtifkmehnikfihaaU14
import Derived.Test.YtifkmehnikfihaaU16
import Derived.Test.YtifkmehnikfihaaU13
import Derived.Test.YtifkmehnikfihaaU12
import Derived.Test.YtifkmehnikfihaaU01
import Derived.ProofKit
import Derived.OpenShut
import Derived.ShutString
import Derived.ChangeOld
import Derived.Deep.Slices
import Derived.Deep.Fields
/- The walk of the law FnExactTopCalls. -/
namespace Go.Proofs.Ytifkmehnikfihaa
open Go.RowKit

set_option maxRecDepth 100000 in
set_option maxHeartbeats 4000000 in
theorem lawTopCalls_any (A : Option Addr) (l : List Seg) (c : Nat) (s : ByteArray) (w : World) (hw : Segs w w.heap.size A l) (hl : l.length ≤ maxLen) (hn : Short l) (hsz : s.size ≤ maxLen) :
    Calls Try.prog 3 #[.slice A l.length c, .string s] w fun e w' => e = .returned (.bool true) ∧ Below w.heap.size w w' := by
  have HW : Hid (Segs w w.heap.size A l) := hw
  clear hw
  unfold maxLen at hsz
  by_cases hbigs : 1048576 < s.size
  · go_enter Try.func3, Try.ntmps3
    go_wp2
    go_ret
    exact ⟨rfl, Below.refl _ _⟩
  by_cases hs : sizeLeft l < 0
  · go_enter Try.func3, Try.ntmps3
    go_wp2_with fail
    refine (szSegmentS_any _ _ _ _ HW.out hl hn).mono ?_
    rintro e w1 ⟨rfl, hb1⟩
    go_wp2
    go_ret
    exact ⟨rfl, hb1⟩
  · have hlen := sizeLeft_len hs
    have hst := topsRes_le l s
    have hlm : l.length ≤ 9223372036854775807 := Nat.le_trans hlen (by decide)
    have HSP := Lib.hid (fun A c w h => specTopCalls_any A l c s w h hlen hn (Nat.le_of_not_lt hbigs))
    have HIM := Lib.hid (fun A w h => implTopCalls_any A l l.length s w h hlen (Nat.le_refl _) hlm hn (Nat.le_of_not_lt hbigs))
    unfold TopsPost at HSP HIM
    go_enter Try.func3, Try.ntmps3
    go_wp2_with fail
    refine (szSegmentS_any _ _ _ _ HW.out hl hn).mono ?_
    rintro e w1 ⟨rfl, hb1⟩
    have hs1 := (HW.out.below hb1).more hb1.size
    have HB1 : Hid (Below w.heap.size w w1) := hb1
    clear hb1
    generalize sizeLeft l = lft at *
    go_wp2_with fail
    refine (toSegmentS_any _ _ _ _ hs1 hlen).mono ?_
    rintro e w2 ⟨rfl, hb2, hx2⟩
    have HB2 : Hid (Below w.heap.size w w2) := HB1.out.trans (hb2.mono HB1.out.size)
    have HX2 := Lib.hid hx2
    clear hb2 hs1 hx2 HB1
    generalize topsRes l s = ts at *
    generalize (traceB l s.data.toList).isSome = d at *
    go_wp2_with fail
    refine (HSP.out _ _ _ HX2.out).mono ?_
    rintro e w3 ⟨v0, rfl, ho3, hb3⟩
    obtain ⟨A0, cap0, rfl, -⟩ := St.textsForm ho3
    have HB3 : Hid (Below w.heap.size w w3) := HB2.out.trans (hb3.mono HB2.out.size)
    have HO3 : Hid (OwnTexts w3 w2.heap.size (.slice A0 ts.length cap0) ts) := ho3
    have HS3 : Hid (Segs w3 w3.heap.size A l) := (HW.out.below HB3.out).more HB3.out.size
    clear hb3 ho3 HX2 HSP
    go_wp2_with fail
    refine (St.toSegmentS_row _ _ _ _ HS3.out hlen).mono ?_
    rintro e w4 ⟨rfl, hb4, hx4, cs, hr4, hcs⟩
    have HB4 : Hid (Below w.heap.size w w4) := HB3.out.trans (hb4.mono HB3.out.size)
    have HO4 : Hid (OwnTexts w4 w2.heap.size (.slice A0 ts.length cap0) ts) := HO3.out.below hb4
    have HL4 : Hid (∀ g, (Value.slice A0 ts.length cap0).ownBlock = some g → g < w3.heap.size) := fun g hg => (World.ownsRow.lt HO3.out g hg).2
    have HX4 := Lib.hid hx4
    have HR4 := Lib.hid hr4
    have HCS := Lib.hid hcs
    have HZ4 : Hid (w3.heap.size < w4.heap.size) := hr4.lt
    clear hb4 hx4 hr4 hcs HS3 HO3
    go_wp2_with fail
    refine (HIM.out _ _ HX4.out).mono ?_
    rintro e w5 ⟨v1, rfl, ho5, hb5⟩
    obtain ⟨A1, cap1, rfl, hf5⟩ := St.textsForm ho5
    have HB5 : Hid (Below w.heap.size w w5) := HB4.out.trans (hb5.mono HB4.out.size)
    have HO5 : Hid (OwnTexts w5 w2.heap.size (.slice A0 ts.length cap0) ts) := HO4.out.below hb5
    have HP5 : Hid (OwnTexts w5 w4.heap.size (.slice A1 ts.length cap1) ts) := ho5
    have HR5 : Hid (Row w5 w3.heap.size 46 cs) := HR4.out.below hb5 HZ4.out
    have HX5 : Hid (Segs w5 w5.heap.size (some ⟨w3.heap.size, 0, none⟩) l) := (HX4.out.below hb5).more hb5.size
    have HZ5 : Hid (w4.heap.size ≤ w5.heap.size) := hb5.size
    clear hf5 hb5 ho5 HX4 HR4 HO4
    go_wp2_with fail
    refine (St.eqStringS_same A1 A0 ts cap1 cap0 w5 (strsOf HP5.out) (strsOf HO5.out) (by omega)).mono ?_
    rintro e w6 ⟨rfl, hb6⟩
    have HB6 : Hid (Below w.heap.size w w6) := HB5.out.trans (hb6.mono HB5.out.size)
    have HO6 : Hid (OwnTexts w6 w2.heap.size (.slice A0 ts.length cap0) ts) := HO5.out.below hb6
    have HP6 : Hid (OwnTexts w6 w4.heap.size (.slice A1 ts.length cap1) ts) := HP5.out.below hb6
    have HR6 : Hid (Row w6 w3.heap.size 46 cs) := HR5.out.below hb6 HR5.out.lt
    have HX6 : Hid (Segs w6 w6.heap.size (some ⟨w3.heap.size, 0, none⟩) l) := (HX5.out.below hb6).more hb6.size
    have HS6 : Hid (Segs w6 w6.heap.size A l) := (HW.out.below HB6.out).more HB6.out.size
    clear hb6 HB5 HO5 HP5 HR5 HX5 HZ5
    go_wp2_with fail
    refine (toSegmentS_any _ _ _ _ HS6.out hlen).mono ?_
    rintro e w7 ⟨rfl, hb7, hx7⟩
    have HB7 : Hid (Below w.heap.size w w7) := HB6.out.trans (hb7.mono HB6.out.size)
    have HO7 : Hid (OwnTexts w7 w2.heap.size (.slice A0 ts.length cap0) ts) := HO6.out.below hb7
    have HP7 : Hid (OwnTexts w7 w4.heap.size (.slice A1 ts.length cap1) ts) := HP6.out.below hb7
    have HR7 : Hid (Row w7 w3.heap.size 46 cs) := HR6.out.below hb7 HR6.out.lt
    have HX7 : Hid (Segs w7 w7.heap.size (some ⟨w3.heap.size, 0, none⟩) l) := (HX6.out.below hb7).more hb7.size
    have HY7 := Lib.hid hx7
    clear hb7 hx7 HB6 HO6 HP6 HR6 HX6 HS6
    go_wp2_with fail
    refine (eqSegmentS_same _ _ _ _ _ _ HX7.out HY7.out hlen).mono ?_
    rintro e w8 ⟨rfl, hb8⟩
    have HB8 : Hid (Below w.heap.size w w8) := HB7.out.trans (hb8.mono HB7.out.size)
    have HO8 : Hid (OwnTexts w8 w2.heap.size (.slice A0 ts.length cap0) ts) := HO7.out.below hb8
    have HP8 : Hid (OwnTexts w8 w4.heap.size (.slice A1 ts.length cap1) ts) := HP7.out.below hb8
    have HR8 : Hid (Row w8 w3.heap.size 46 cs) := HR7.out.below hb8 HR7.out.lt
    clear hb8 HB7 HO7 HP7 HR7 HX7 HY7
    go_wp2_with fail
    refine (mark1 w3.heap.size l.length l.length cs w8 HR8.out HCS.out hlen).mono ?_
    rintro e w9 ⟨rfl, hy9⟩
    have HB9 : Hid (Below w.heap.size w w9) := Only.below HB8.out hy9 HB8.out.size (fun k hk e => by have := HB3.out.size; omega)
    have HO9 : Hid (OwnTexts w9 w2.heap.size (.slice A0 ts.length cap0) ts) := St.textsFar HO8.out hy9 (fun g hg e => by have := HL4.out g hg; omega)
    have HP9 : Hid (OwnTexts w9 w4.heap.size (.slice A1 ts.length cap1) ts) := St.textsFar HP8.out hy9 (fun g hg e => by have := (World.ownsRow.lt HP8.out g hg).1; have := HZ4.out; omega)
    clear hy9 HB8 HO8 HP8 HR8 HCS
    have hq1 : ¬ ((1 + 3 * l.length : Nat) : Int) < 0 := by omega
    have hq0 : (0 : Int) ≤ ((1 + 3 * l.length : Nat) : Int) := by omega
    generalize ((1 + 3 * l.length : Nat) : Int) = q at *
    go_wp2_with fail
    refine (St.eqStringS_same A1 A0 ts cap1 cap0 w9 (strsOf HP9.out) (strsOf HO9.out) (by omega)).mono ?_
    rintro e w10 ⟨rfl, hb10⟩
    have HB10 : Hid (Below w.heap.size w w10) := HB9.out.trans (hb10.mono HB9.out.size)
    have HO10 : Hid (OwnTexts w10 w2.heap.size (.slice A0 ts.length cap0) ts) := HO9.out.below hb10
    have HP10 : Hid (OwnTexts w10 w4.heap.size (.slice A1 ts.length cap1) ts) := HP9.out.below hb10
    clear hb10 HB9 HO9 HP9
    go_wp2_with fail
    refine (smark1 _ _ ts w10 HP10.out (by omega)).mono ?_
    rintro e w11 ⟨rfl, ho11, hy11⟩
    have HB11 : Hid (Below w.heap.size w w11) := Only.below HB10.out hy11 HB10.out.size (fun k hk e => by have := (World.ownsRow.lt HP10.out k e).1; have := HB4.out.size; omega)
    have HO11 : Hid (OwnTexts w11 w2.heap.size (.slice A0 ts.length cap0) ts) := St.textsFar HO10.out hy11 (fun g hg e => by have := HL4.out g hg; have := (World.ownsRow.lt HP10.out g e).1; have := HZ4.out; omega)
    have HM11 : Hid (St.Strs w11 w11.heap.size A1 (St.smarked ts 1 ts.length)) := strsOf ho11
    clear ho11 hy11 HB10 HO10 HP10
    have hm1 : ¬ ((1 + ts.length : Nat) : Int) < 0 := by omega
    have hm0 : (0 : Int) ≤ ((1 + ts.length : Nat) : Int) := by omega
    have HH := Lib.hid (fun W h => sheld1 A1 ts.length cap1 ts W rfl h (by omega))
    have HMK := Lib.hid (fun W W' h hb => (St.Strs.more (St.Strs.below (w := W) (w' := W') (B := W.heap.size) (A := A1) (l := St.smarked ts 1 ts.length) h hb) hb.size : St.Strs W' W'.heap.size A1 (St.smarked ts 1 ts.length)))
    generalize ((1 + ts.length : Nat) : Int) = m at *
    go_wp2_with fail
    refine Calls.mono (HH.out w11 HM11.out) ?_
    rintro e w12 ⟨rfl, hb12⟩
    have HB12 : Hid (Below w.heap.size w w12) := HB11.out.trans (hb12.mono HB11.out.size)
    have HO12 : Hid (OwnTexts w12 w2.heap.size (.slice A0 ts.length cap0) ts) := HO11.out.below hb12
    have HM12 : Hid (St.Strs w12 w12.heap.size A1 (St.smarked ts 1 ts.length)) := HMK.out w11 w12 HM11.out hb12
    have HS12 : Hid (Segs w12 w12.heap.size A l) := (HW.out.below HB12.out).more HB12.out.size
    clear hb12 HB11 HO11 HM11
    go_wp2_with fail
    refine (toSegmentS_any _ _ _ _ HS12.out hlen).mono ?_
    rintro e w13 ⟨rfl, hb13, hx13⟩
    have HB13 : Hid (Below w.heap.size w w13) := HB12.out.trans (hb13.mono HB12.out.size)
    have HO13 : Hid (OwnTexts w13 w2.heap.size (.slice A0 ts.length cap0) ts) := HO12.out.below hb13
    have HM13 : Hid (St.Strs w13 w13.heap.size A1 (St.smarked ts 1 ts.length)) := HMK.out w12 w13 HM12.out hb13
    have HX13 := Lib.hid hx13
    clear hb13 hx13 HB12 HO12 HM12 HS12
    go_wp2_with fail
    refine (HIM.out _ _ HX13.out).mono ?_
    rintro e w14 ⟨v2, rfl, ho14, hb14⟩
    obtain ⟨A2, cap2, rfl, hf14⟩ := St.textsForm ho14
    have HB14 : Hid (Below w.heap.size w w14) := HB13.out.trans (hb14.mono HB13.out.size)
    have HO14 : Hid (OwnTexts w14 w2.heap.size (.slice A0 ts.length cap0) ts) := HO13.out.below hb14
    have HM14 : Hid (St.Strs w14 w14.heap.size A1 (St.smarked ts 1 ts.length)) := HMK.out w13 w14 HM13.out hb14
    have HF14 := Lib.hid hf14
    clear hb14 ho14 hf14 HB13 HO13 HM13 HX13
    go_wp2_with fail
    refine (St.eqStringS_same A2 A0 ts cap2 cap0 w14 HF14.out (strsOf HO14.out) (by omega)).mono ?_
    rintro e w15 ⟨rfl, hb15⟩
    have HB15 : Hid (Below w.heap.size w w15) := HB14.out.trans (hb15.mono HB14.out.size)
    have HM15 : Hid (St.Strs w15 w15.heap.size A1 (St.smarked ts 1 ts.length)) := HMK.out w14 w15 HM14.out hb15
    clear hb15 HB14 HO14 HM14 HF14
    go_wp2_with fail
    refine Calls.mono (HH.out w15 HM15.out) ?_
    rintro e w16 ⟨rfl, hb16⟩
    have HB16 : Hid (Below w.heap.size w w16) := HB15.out.trans (hb16.mono HB15.out.size)
    clear hb16 HB15 HM15
    go_wp2
    go_ret
    exact ⟨rfl, HB16.out⟩

end Go.Proofs.Ytifkmehnikfihaa
/- The argument of a law, opened: a slice of segments reads as a list. -/
namespace Go.Proofs.Ytifkmehnikfihaa
open Go.ChangeShapes Go.WideShapes Go.ChangeAt Go.RowKit

theorem list_of {Q : Nat → Seg → Prop} : ∀ (n : Nat), (∀ i, i < n → ∃ s, Q i s) → ∃ l : List Seg, l.length = n ∧ ∀ i s, l[i]? = some s → Q i s
  | 0, _ => ⟨[], rfl, fun i s h => by simp at h⟩
  | n + 1, h => by
    obtain ⟨l, hl, hq⟩ := list_of n fun i hi => h i (by omega)
    obtain ⟨s, hs⟩ := h n (by omega)
    refine ⟨l ++ [s], by simp [hl], fun i t ht => ?_⟩
    rcases Nat.lt_or_ge i n with hlt | hge
    · rw [List.getElem?_append_left (by omega)] at ht
      exact hq i t ht
    · rw [List.getElem?_append_right (by omega)] at ht
      have hi : i - l.length < 1 := by
        have := (List.getElem?_eq_some_iff.1 ht).1
        simpa using this
      have h0 : i - l.length = 0 := by omega
      rw [h0] at ht
      simp at ht
      obtain rfl : i = n := by omega
      exact ht ▸ hs

theorem three_of {l : List Value} (h : l.length = 3) : ∃ a b c, l = [a, b, c] := by
  match l, h with
  | [a, b, c], _ => exact ⟨a, b, c, rfl⟩
theorem cells_seg : Try.prog.cellsOf 45 = 3 := by kernel_rfl
theorem cells_str : Try.prog.cellsOf 9 = 1 := by kernel_rfl
theorem cells_int : Try.prog.cellsOf 3 = 1 := by kernel_rfl

theorem open_segs {H : Type} {enc : TypeId × Value → H} {w : World} {base : Nat} {spare : Nat → Bool} {held : Bool} {fuel : Nat} {a0 : Option Addr} {n c : Nat} {x : DataW H × List MemPlace}
    (h : DataW.trod enc Try.prog w base spare held fuel 22 [.slice a0 n c] = some x) : ∃ l : List Seg, l.length = n ∧ n ≤ maxLen ∧ Segs w w.heap.size a0 l ∧ Short l := by
  rcases Deep.open_slice Try.underlying22 h with ⟨hcs, _⟩ | ⟨a, len, cap, m, n', D, Pl, hcs, hb, hl, hm, hmm, hx, hi⟩
  · simp at hcs
    obtain ⟨rfl, rfl, rfl⟩ := hcs
    exact ⟨[], rfl, Nat.zero_le _, fun h0 => absurd h0 (by simp), fun s hs => by simp at hs⟩
  · simp at hcs
    obtain ⟨rfl, rfl, rfl⟩ := hcs
    have hlm : n ≤ m := by rw [hmm]; split <;> omega
    have hs : ∀ i, i < n → ∃ s : Seg, (w.cell? (a.add (i * 3)) = some (.string s.name) ∧ w.cell? (a.add (i * 3 + 1)) = some (.int .i64 s.size) ∧ w.cell? (a.add (i * 3 + 2)) = some (.int .i64 s.par)) ∧ s.name.size ≤ maxLen := by
      intro i hin
      obtain ⟨cs', hc, ht'⟩ := hi i (by omega)
      rw [cells_seg] at hc
      obtain ⟨ys, n'', hn', hy, hlen, hyl, hf⟩ := DataW.trod_struct Try.underlying45 ht'
      obtain ⟨_, hcl, hat⟩ := World.cells?_some hc
      obtain ⟨u0, u1, u2, rfl⟩ := three_of hcl
      have e0 := hat 0 (by omega)
      have e1 := hat 1 (by omega)
      have e2 := hat 2 (by omega)
      have f0 : DataW.trod enc Try.prog w base spare held n'' 9 (([u0, u1, u2].drop 0).take (Try.prog.cellsOf 9)) = ys[0]? := hf 0 _ rfl
      rw [cells_str] at f0
      have f1 : DataW.trod enc Try.prog w base spare held n'' 3 (([u0, u1, u2].drop 1).take (Try.prog.cellsOf 3)) = ys[1]? := hf 1 _ rfl
      rw [cells_int] at f1
      have f2 : DataW.trod enc Try.prog w base spare held n'' 3 (([u0, u1, u2].drop 2).take (Try.prog.cellsOf 3)) = ys[2]? := hf 2 _ rfl
      rw [cells_int] at f2
      obtain ⟨y0, g0⟩ : ∃ y, ys[0]? = some y := ⟨_, List.getElem?_eq_getElem (by rw [hyl]; decide)⟩
      obtain ⟨y1, g1⟩ : ∃ y, ys[1]? = some y := ⟨_, List.getElem?_eq_getElem (by rw [hyl]; decide)⟩
      obtain ⟨y2, g2⟩ : ∃ y, ys[2]? = some y := ⟨_, List.getElem?_eq_getElem (by rw [hyl]; decide)⟩
      rw [g0] at f0
      rw [g1] at f1
      rw [g2] at f2
      obtain ⟨s, hs, _, hss⟩ := DataW.trod_string Try.underlying9 f0
      obtain ⟨p, hp, _, _⟩ := DataW.trod_int Try.underlying3 f1
      obtain ⟨q, hq, _, _⟩ := DataW.trod_int Try.underlying3 f2
      simp at hs hp hq
      subst hs hp hq
      rw [Deep.add_add] at e0 e1 e2
      exact ⟨⟨s, p, q⟩, ⟨e0, e1, e2⟩, hss⟩
    obtain ⟨l, hll, hq⟩ := list_of n hs
    refine ⟨l, hll, by omega, fun h0 => ?_, fun s hs => ?_⟩
    · obtain ⟨b, o, spot⟩ := a
      have hc0 := (hq 0 l[0] (List.getElem?_eq_getElem h0)).1.1
      have hspot : spot = none := by simpa [Addr.add] using World.cell?_spot hc0
      subst hspot
      have hlt := World.block_lt_of_cell? w _ hc0
      rw [WideShapes.add_plain] at hlt
      refine ⟨b, o, rfl, hlt, fun k s hk => ?_⟩
      have := (hq k s hk).1
      rw [WideShapes.add_plain, WideShapes.add_plain, WideShapes.add_plain, ← Nat.add_assoc, ← Nat.add_assoc] at this
      exact this
    · obtain ⟨j, hj, rfl⟩ := List.getElem_of_mem hs
      exact (hq j _ (List.getElem?_eq_getElem hj)).2

theorem own : ownKnob Try.prog.godebug = none := by kernel_rfl
theorem laidOut : laidOutB Try.prog = true := by kernel_rfl

end Go.Proofs.Ytifkmehnikfihaa
