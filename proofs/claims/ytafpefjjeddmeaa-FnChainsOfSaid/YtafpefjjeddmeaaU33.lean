/- Joined: Wb Xb Ab Bw Bx Fv. -/
import Derived.Test.YtafpefjjeddmeaaU32
import Derived.Test.YtafpefjjeddmeaaU03
import Derived.Test.YtafpefjjeddmeaaU14
import Derived.Deep.RegionWith
import Derived.Test.YtafpefjjeddmeaaU12
import Derived.Test.YtafpefjjeddmeaaU02
import Derived.Test.YtafpefjjeddmeaaU25
import Derived.Test.YtafpefjjeddmeaaU23
/- Draws of traces: a trace of a valid tree, a tree with a text. -/
namespace Go.Proofs.Ytafpefjjeddmeaa
open Go.RowKit

set_option maxRecDepth 100000 in
set_option maxHeartbeats 2000000 in
theorem l4Good_any (b c P : Nat) (A : Option Addr) (l : List Seg) (w : World) (h1 : 1 ≤ l.length) (h9 : l.length ≤ 9) (hnm : ∀ s ∈ l, s.name.size ≤ 1) (hA : ∀ g o, A = some ⟨g, o, none⟩ → b < g) (hP : P ≤ 1000) (hr : Rd w b P) (hw : Segs w w.heap.size A l) :
    Calls Try.prog 75 #[.pointer (some ⟨b, 0, none⟩), .slice A l.length c] w (TextDrawn b P 870 80 w) := by
  have HD := Lib.hid (l4Draw_any b c A l h1 h9 hnm hA)
  have HW : Hid (Segs w w.heap.size A l) := hw
  have HNM := Lib.hid hnm
  have HAA := Lib.hid hA
  have HR := Lib.hid hr
  clear hr hw hnm hA
  go_enter Try.func75, Try.ntmps75
  go_wp2_with fail
  refine (draw_any b P 12 _ HR.out (by omega) (by omega) (by omega)).mono ?_
  rintro e w2 ⟨v, rfl, ⟨hv0, hv1⟩, ho2, hr2⟩
  have HO2 := Lib.hid ho2
  have HR2 := Lib.hid hr2
  clear ho2 hr2 hv1 HR
  by_cases hv : v = 0
  · subst hv
    go_wp2
    go_ret
    exact ⟨_, rfl, Nat.zero_le _, HO2.out, HR2.out.weak (by omega)⟩
  · go_wp2_with fail
    refine (draw_any b (P + 1) 4 _ HR2.out (by omega) (by omega) (by omega)).mono ?_
    rintro e w3 ⟨u, rfl, ⟨hu0, hu1⟩, ho3, hr3⟩
    obtain ⟨d, rfl⟩ := Int.eq_ofNat_of_zero_le hu0
    have hd3 : d ≤ 3 := by have := hu1 (by omega); omega
    have HO3 := Lib.hid (HO2.out.trans ho3)
    have HR3 := Lib.hid hr3
    have HW3 := Lib.hid (HW.out.farO HO3.out HAA.out)
    clear ho3 hr3 hu0 hu1 HO2 HR2
    have hK : 6 ^ d ≤ 216 := by
      have : d = 0 ∨ d = 1 ∨ d = 2 ∨ d = 3 := by omega
      rcases this with rfl | rfl | rfl | rfl <;> decide
    have HD2 := Lib.hid (HD.out d hd3 (P + 1 + 1) w3 (by omega) HR3.out HW3.out)
    clear HD HW3
    generalize 6 ^ d = K at *
    go_wp2_with fail
    refine HD2.out.mono ?_
    rintro e w4 ⟨x, rfl, hx, ho4, hr4⟩
    have HO4 := Lib.hid (HO3.out.trans ho4)
    have HR4 := Lib.hid (hr4.weak (Q := P + 870) (by omega))
    have hx6 : x.size ≤ 648 := by omega
    clear ho4 hr4 HR3 HD2 hx HO3
    by_cases h80 : x.size ≤ 80
    · have h80' : (x.size : Int) ≤ 80 := by omega
      go_wp2
      go_ret
      exact ⟨_, rfl, h80, HO4.out, HR4.out⟩
    · have h80' : 80 < (x.size : Int) := by omega
      have hsg : Segs w4 w4.heap.size A l := HW.out.farO HO4.out HAA.out
      obtain ⟨g, o, rfl, hgB, hc⟩ := hsg (by omega)
      obtain ⟨e1, e2, e3⟩ := hc 0 _ (List.getElem?_eq_getElem (by omega))
      have hns := HNM.out _ (List.getElem_mem (show 0 < l.length by omega))
      have h1' : (0 : Int) < (l.length : Int) := by omega
      rw [Nat.zero_mul, Nat.add_zero] at e1
      clear hc hsg
      generalize l[0] = sg at *
      go_wp2
      go_ret
      exact ⟨_, rfl, by omega, HO4.out, HR4.out⟩

/-- The texts that a trace is spoilt with. -/
def oddTexts : List ByteArray := [⟨#[]⟩, ⟨#[40]⟩, ⟨#[41]⟩, ⟨#[88]⟩, ⟨#[65]⟩, ⟨#[40, 41]⟩]
theorem oddTexts_size : ∀ x ∈ oddTexts, x.size ≤ 2 := by decide
/-- Nothing but the reader differs from `w`. -/
def Sat (w : World) (b q : Nat) (W : World) : Prop := Only w W (· = b) ∧ Rd W b q
theorem Sat.alloc {w W : World} {b q : Nat} (h : Hid (Sat w b q W)) (o : Obj) : Hid (Sat w b q (W.alloc o)) := Lib.hid ⟨h.out.1.andBelow ((Below.refl _ W).alloc (Nat.le_refl _) _), h.out.2.alloc o⟩
theorem ofS_any (w : World) (b q g : Nat) (W : World) (hs : Hid (Sat w b q W)) (hq : q ≤ 100000) (hx : Hid (Texts W b g 0 6 (· ∈ oddTexts))) :
    Calls Try.prog 74 #[.pointer (some ⟨b, 0, none⟩), .slice (some ⟨g, 0, none⟩) 6 6] W fun e w' => ∃ v : ByteArray, e = .returned (.string v) ∧ v.size ≤ 2 ∧ Only W w' (· = b) ∧ Hid (Sat w b (q + 1) w') := by
  refine (of_any b q g 0 6 6 _ W hs.out.2 (by omega) (by omega) (by omega) hx.out).mono ?_
  rintro e w' ⟨v, rfl, hv, ho, hr⟩
  exact ⟨v, rfl, oddTexts_size v hv, ho, Lib.hid ⟨hs.out.1.trans ho, hr⟩⟩
theorem pickS_any (w : World) (b q : Nat) (W : World) (hs : Hid (Sat w b q W)) (hq : q ≤ 100000) :
    Calls Try.prog 76 #[.pointer (some ⟨b, 0, none⟩), .int .i64 2] W fun e w' => ∃ v : Nat, e = .returned (.int .i64 v) ∧ v ≤ 1 ∧ Only W w' (· = b) ∧ Hid (Sat w b (q + 1) w') := by
  refine (draw_any b q 2 W hs.out.2 (by omega) (by omega) (by omega)).mono ?_
  rintro e w' ⟨v, rfl, ⟨h0, h1⟩, ho, hr⟩
  obtain ⟨k, rfl⟩ := Int.eq_ofNat_of_zero_le h0
  exact ⟨k, rfl, by have := h1 (by omega); omega, ho, Lib.hid ⟨hs.out.1.trans ho, hr⟩⟩
theorem texts_far {w w' : World} {b g n : Nat} {Q : ByteArray → Prop} (h : Texts w b g 0 n Q) (ho : Only w w' (· = b)) : Texts w' b g 0 n Q := by
  obtain ⟨h1, h2, h3⟩ := h
  refine ⟨h1, Nat.lt_of_lt_of_le h2 ho.size, fun i hi => ?_⟩
  obtain ⟨v, hv, hq⟩ := h3 i hi
  exact ⟨v, by rw [only_cell ho h1 h2]; exact hv, hq⟩

/-- What l4Some leaves: a slice of few segments, and a text. -/
def WithText (b P : Nat) (w : World) (e : Ending) (w' : World) : Prop :=
  ∃ A l c x, e = .returned (.tuple #[.slice A (List.length l) c, .string x]) ∧ (Segs w' w'.heap.size A l ∧ ∀ g o, A = some ⟨g, o, none⟩ → b < g) ∧ (l.length ≤ 9 ∧ l.length ≤ c ∧ c ≤ 9223372036854775807) ∧ (∀ s ∈ l, s.name.size ≤ 8) ∧ x.size ≤ 82 ∧ Only w w' (· = b) ∧ Rd w' b (P + 1000)

set_option maxRecDepth 100000 in
set_option maxHeartbeats 4000000 in
theorem l4Some_plain (hgood : GoodSaid) (b P : Nat) (w : World) (hr : Rd w b P) (hP : P ≤ 100) :
    Calls Try.prog 42 #[.pointer (some ⟨b, 0, none⟩)] w (WithText b P w) := by
  have HS := Lib.hid (l1Some_plain b P w hr (by omega) (fun w h => hgood b P w (by omega) h))
  have HBW := Lib.hid hr.lt
  clear hgood hr
  go_enter Try.func42, Try.ntmps42
  go_wp2_with fail
  refine Calls.mono HS.out ?_
  rintro e w1 ⟨A, l, c, rfl, hs, hl, hn, ho, hr1⟩
  have HV := Lib.hid (specTreeValid_any A l c w1 hs.1 (by omega) (fun s h => by have := hn s h; unfold maxLen; omega))
  have H1 := Lib.hid hs.1
  have HAA := Lib.hid hs.2
  have H2 := Lib.hid hl
  have H3 := Lib.hid hn
  have H4 := Lib.hid ho
  have H5 := Lib.hid hr1
  clear hs hl hn ho hr1 HS
  go_wp2_with fail
  refine HV.out.mono ?_
  rintro e w2 ⟨rfl, hb2⟩
  have H12 := Lib.hid ((H1.out.below hb2).more hb2.size)
  have HO2 := Lib.hid (H4.out.andBelow hb2)
  have HR2 := Lib.hid (H5.out.below hb2)
  clear hb2 HV H4 H5
  cases hv : validB l with
  | false =>
    have HR3 := Lib.hid (HR2.out.alloc (.cells #[Value.string ⟨#[]⟩, .string ⟨#[65]⟩, .string ⟨#[66]⟩] 9))
    have HX3 := Lib.hid (texts_new w2 b 9 [⟨#[]⟩, ⟨#[65]⟩, ⟨#[66]⟩] HR2.out.lt)
    go_wp2_with fail
    refine (of_any b (P + 50) w2.heap.size 0 3 3 _ _ HR3.out (by omega) (by omega) (by omega) HX3.out).mono ?_
    rintro e w3 ⟨x, rfl, hx, ho3, hr3⟩
    have HX : Hid (x.size ≤ 82) := by
      have : ∀ x ∈ ([⟨#[]⟩, ⟨#[65]⟩, ⟨#[66]⟩] : List ByteArray), x.size ≤ 82 := by decide
      exact this x hx
    have HO3 := Lib.hid (HO2.out.trans ho3.fresh)
    have HR4 := Lib.hid hr3
    have HS3 := Lib.hid (H12.out.farO ho3.fresh HAA.out)
    clear ho3 hr3 hx HX3 HR3
    go_wp2
    refine bodyPost_ret (v := .tuple #[.slice A l.length c, .string x]) (by simp [results, Try.results42, go_sem]) rfl ?_
    exact ⟨A, l, c, x, rfl, ⟨HS3.out, HAA.out⟩, H2.out, H3.out, HX.out, HO3.out, HR4.out.weak (by omega)⟩
  | true =>
    have hlen : 1 ≤ l.length := by
      cases l with
      | nil => cases hv
      | cons a r => simp
    have HG := Lib.hid (l4Good_any b c (P + 50) A l w2 hlen H2.out.1 (fun s hs => by obtain ⟨c, h, -⟩ := nameOk_one (validB_names hv hs); rw [h]; exact Nat.le_refl _) HAA.out (by omega) HR2.out H12.out)
    clear hlen hv HR2
    go_wp2_with fail
    refine HG.out.mono ?_
    rintro e w3 ⟨x, rfl, hx, ho3, hr3⟩
    have HO3 := Lib.hid (HO2.out.trans ho3)
    have HR3 := Lib.hid hr3
    have HS3 := Lib.hid (H12.out.farO ho3 HAA.out)
    clear ho3 hr3 HO2 H12 HG
    go_wp2_with fail
    refine (draw_any b (P + 50 + 870) 12 _ HR3.out (by omega) (by omega) (by omega)).mono ?_
    rintro e w4 ⟨v, rfl, ⟨hv0, hv1⟩, ho4, hr4⟩
    have HO4 := Lib.hid (HO3.out.trans ho4)
    have HR4 := Lib.hid hr4
    have HS4 := Lib.hid (HS3.out.farO ho4 HAA.out)
    clear ho4 hr4 HO3 HR3 HS3 hv1
    by_cases hv : v = 0
    · subst hv
      cases he : x.toList.isEmpty with
      | true =>
        go_wp2
        refine bodyPost_ret (v := .tuple #[.slice A l.length c, .string x]) (by simp [results, Try.results42, go_sem]) rfl ?_
        exact ⟨A, l, c, x, rfl, ⟨HS4.out, HAA.out⟩, H2.out, H3.out, by omega, HO4.out, HR4.out.weak (by omega)⟩
      | false =>
        have hx0 : x.size ≠ 0 := fun h => by
          rw [show x = ⟨#[]⟩ from ByteArray.ext (Array.eq_empty_of_size_eq_zero h)] at he
          revert he
          unfold ByteArray.toList ByteArray.toList.loop
          decide
        go_wp2_with fail
        refine (draw_any b (P + 50 + 870 + 1) x.size _ HR4.out (by omega) (by omega) (by omega)).mono ?_
        rintro e w5 ⟨k, rfl, ⟨hk0, hk1⟩, ho5, hr5⟩
        obtain ⟨k, rfl⟩ := Int.eq_ofNat_of_zero_le hk0
        have hk : k < x.size := by have := hk1 (by omega); omega
        have HO5 := Lib.hid (HO4.out.trans ho5)
        have HB5 := Lib.hid (Only.refl w5 (· = b)).drew'
        have HS5 := Lib.hid (HS4.out.farO ho5 HAA.out)
        have HR5 := Lib.hid hr5
        have HSAT : Hid (Sat w b (P + 50 + 870 + 1 + 1) w5.drew) := Lib.hid ⟨HO5.out.drew', HR5.out.below ((Below.refl _ w5).drew)⟩
        clear ho5 hr5 HO4 HR4 HS4 hk0 hk1
        have HT0 := Lib.hid (texts_new w5.drew b 9 oddTexts HSAT.out.2.lt)
        have hk0 : (0 : Int) ≤ (k : Int) := Int.natCast_nonneg _
        have hkx : (k : Int) ≤ (x.size : Int) := by omega
        have HQ := Lib.hid hP
        clear HB5 HO5 HR5 he hv0 hx0
        go_wp2_with fail
        go_region_with (first
          | (go_at_call 74; refine (ofS_any w b (P + 50 + 870 + 1 + 1) w5.heap.size _ (Sat.alloc HSAT _) (by have := HQ.out; omega) HT0).mono ?_; rintro e w6 ⟨y, rfl, HY, ho6, HSAT6⟩)
          | (go_at_call 76; refine (pickS_any w b (P + 50 + 870 + 1 + 1 + 1) w6 HSAT6 (by have := HQ.out; omega)).mono ?_; rintro e w7 ⟨j, rfl, hj, ho7, HSAT7⟩; obtain ⟨s, HSJ⟩ : ∃ s : Nat, Hid (s = k + j) := ⟨_, rfl⟩; have hws : IntKind.i64.wrap ((k : Int) + (j : Int)) = (s : Int) := (IntWalk.i64_in _ (by omega)).trans (by rw [HSJ.out]; rfl); have hsx : (s : Int) ≤ (x.size : Int) := by (rw [HSJ.out]; omega)))
        all_goals
          have HSF := Lib.hid (HS5.out.farO ((Only.refl w5 (· = b)).drew'.trans (ho6.fresh.trans ho7)) HAA.out)
          have HSZ : Hid ((x.extract 0 k ++ y ++ x.extract s x.size).size ≤ 82) := by
            show _ ≤ _
            rw [ByteArray.size_append, ByteArray.size_append, ByteArray.size_extract, ByteArray.size_extract]
            have := HSJ.out
            omega
          clear ho6 ho7 HS5 HSAT6 HSAT HT0
          go_wp2
          refine bodyPost_ret (v := .tuple #[.slice A l.length c, .string (x.extract 0 k ++ y ++ x.extract s x.size)]) (by simp [results, Try.results42, go_sem]) rfl ?_
          exact ⟨A, l, c, _, rfl, ⟨HSF.out, HAA.out⟩, H2.out, H3.out, HSZ.out, HSAT7.out.1, HSAT7.out.2.weak (by omega)⟩
    · go_wp2
      refine bodyPost_ret (v := .tuple #[.slice A l.length c, .string x]) (by simp [results, Try.results42, go_sem]) rfl ?_
      exact ⟨A, l, c, x, rfl, ⟨HS4.out, HAA.out⟩, H2.out, H3.out, by omega, HO4.out, HR4.out.weak (by omega)⟩

end Go.Proofs.Ytafpefjjeddmeaa
/- Draws of chapter 4: a text many times; the draws of NeedsOf, TraceValid, Without. All over l1Good's contract. -/
namespace Go.Proofs.Ytafpefjjeddmeaa
open Go.RowKit

end Go.Proofs.Ytafpefjjeddmeaa
/- laws.soTexts on rows of the same texts, and the draw of FnChainsOf. -/
namespace Go.Proofs.Ytafpefjjeddmeaa
open Go.RowKit

set_option maxRecDepth 100000 in
set_option maxHeartbeats 1000000 in
theorem soTexts_any (A A' : Option Addr) (l : List ByteArray) (c c' : Nat) (w : World) (hw : St.Strs w w.heap.size A l) (hw' : St.Strs w w.heap.size A' l) (hl : l.length ≤ 1000) :
    Calls Try.prog 18 #[.slice A l.length c, .slice A' l.length c'] w fun e w' => e = .returned (.bool true) ∧ Below w.heap.size w w' := by
  have HW : Hid (St.Strs w w.heap.size A l) := hw
  have HW' : Hid (St.Strs w w.heap.size A' l) := hw'
  clear hw hw'
  go_enter Try.func18, Try.ntmps18
  go_wp2
  go_loopw [11] (fun i wr => ∃ (k : Nat), k ≤ l.length ∧ i = .int .i64 k ∧ Below w.heap.size w wr)
    (fun i _ => l.length - (intOf i).toNat)
  case atStart => exact ⟨0, Nat.zero_le _, rfl, Below.refl _ _⟩
  case round =>
    obtain ⟨k, hk, rfl, hb⟩ := hrel
    by_cases hlt : k < l.length
    · have hlt' : (k : Int) < (l.length : Int) := by omega
      have hk0 : (0 : Int) ≤ (k : Int) := Int.natCast_nonneg _
      obtain ⟨b, o, rfl, hB, hc⟩ := HW.out (by omega)
      obtain ⟨b', o', rfl, hB', hc'⟩ := HW'.out (by omega)
      have c0 := hc k l[k] (List.getElem?_eq_getElem hlt)
      have d0 := hc' k l[k] (List.getElem?_eq_getElem hlt)
      clear hc hc'
      rw [← hb.cell hB] at c0
      rw [← hb.cell hB'] at d0
      generalize l[k] = s at *
      have HB2 := Lib.hid hb.drew
      go_wp2
      go_quiet (fail)
      go_wp2
      go_roundw
      case rel => exact ⟨k + 1, by omega, by go_num, below_drewN hb _⟩
      case measure => simp [intOf]; omega
    · go_wp2
      go_ret
      exact ⟨rfl, hb⟩

set_option maxRecDepth 100000 in
set_option maxHeartbeats 1000000 in
theorem drawChainsOf_plain (hgood : GoodSaid) (A0 : Option Addr) (n c0 : Nat) (w : World) (hn : n ≤ c0) (hx : ∀ b, w.heap.size ≤ b → Bytes w b A0 n) :
    Calls Try.prog 10 #[.slice A0 n c0] w fun e w' => ∃ A l c x, e = .returned (.tuple #[.slice A (List.length l) c, .string x]) ∧ TreeHas w' A l c ∧ x.size ≤ 82 ∧ Below w.heap.size w w' := by
  have HO := Lib.hid (l13Open_any A0 n c0 w hn hx)
  have HP := Lib.hid (fun b w h => l4Some_plain hgood b 0 w h (Nat.zero_le _))
  clear hx hgood
  go_enter Try.func10, Try.ntmps10
  go_wp2_with fail
  refine Calls.mono HO.out ?_
  rintro e w1 ⟨b, rfl, hbb, hr, hb1⟩
  have HB1 := Lib.hid hb1
  have HPP := Lib.hid (HP.out b w1 hr)
  clear hr hb1 HP HO
  go_wp2_with fail
  refine Calls.mono HPP.out ?_
  rintro e w2 ⟨A, l, c, x, rfl, ⟨hs, hs'⟩, hl, hsh, hxx, ho, hr2⟩
  have HT : Hid (TreeHas w2 A l c) := ⟨hs, hl, hsh⟩
  have HB2 := Lib.hid (only_below HB1.out hbb ho)
  have HX := Lib.hid hxx
  clear hs hs' hl hsh hxx ho hr2 HPP
  go_wp2
  refine bodyPost_ret (v := .tuple #[.slice A l.length c, .string x]) (by simp [results, Try.results10, go_sem]) rfl ?_
  exact ⟨A, l, c, x, rfl, HT.out, HX.out, HB2.out⟩

end Go.Proofs.Ytafpefjjeddmeaa
/- NameOfKind on both sides, and the law FnExactNameOfKind: its walk, over a world that holds the program's table. -/
namespace Go.Proofs.Ytafpefjjeddmeaa
open Go.RowKit

def nameK (k : Int) : ByteArray := if k = 0 then ⟨#[117, 112]⟩ else if k = 1 then ⟨#[100, 111, 119, 110]⟩ else if k = 2 then ⟨#[115, 105, 100, 101]⟩ else ⟨#[]⟩
/-- The table of words. -/
def WordsHeld (w : World) : Prop := w.cell? ⟨0, 0, none⟩ = some (.string ⟨#[117, 112]⟩) ∧ w.cell? ⟨0, 1, none⟩ = some (.string ⟨#[100, 111, 119, 110]⟩) ∧ w.cell? ⟨0, 2, none⟩ = some (.string ⟨#[115, 105, 100, 101]⟩)
theorem ret_text {a b : ByteArray} (h : a = b) : Ending.returned (.string a) = .returned (.string b) := by rw [h]

end Go.Proofs.Ytafpefjjeddmeaa
/- The kinds of a call and of the one back: plain; laws.soSame on rows of the same numbers; the draws of chapter 6. -/
namespace Go.Proofs.Ytafpefjjeddmeaa
open Go.RowKit

/-- What a call's kind says of the call back. -/
theorem kind_back {l : List Seg} (s t : ByteArray) :
    (comOk l s t = false → kindB l s t = -1 ∧ kindB l t s = -1) ∧
    (comOk l s t = true → (kindB l s t = 0 ∧ lieB l s t = true ∧ (kindB l t s = 1 ∨ (s = t ∧ kindB l t s = 0))) ∨ (kindB l s t = 1 ∧ lieB l s t = true ∧ kindB l t s = 0 ∧ s ≠ t) ∨ (kindB l s t = 2 ∧ lieB l s t = false ∧ kindB l t s = 2)) := by
  have hc : comOk l t s = comOk l s t := Bool.and_comm _ _
  constructor
  · intro h
    unfold kindB
    rw [hc, h]
    exact ⟨rfl, rfl⟩
  · intro h
    have h' := h
    unfold comOk hasSeg at h'
    rw [Bool.and_eq_true, decide_eq_true_eq, decide_eq_true_eq] at h'
    obtain ⟨h1, h2⟩ := h'
    have hv := index_valid h1
    have hd := (valid_all hv).1.down
    have hi := index_lt h1
    have hj := index_lt h2
    have k1 : kindB l s t = kindIx l (indexB l s).toNat (indexB l t).toNat := by unfold kindB; rw [if_pos h]
    have k2 : kindB l t s = kindIx l (indexB l t).toNat (indexB l s).toNat := by unfold kindB; rw [hc, if_pos h]
    have hl : lieB l s t = (decide ((indexB l s).toNat ∈ rp l (indexB l t).toNat) || decide ((indexB l t).toNat ∈ rp l (indexB l s).toNat)) := by
      unfold lieB pathIx
      rw [h, Bool.true_and]
    have heq : (indexB l s).toNat = (indexB l t).toNat → s = t := fun e => by
      have e1 : indexB l s = indexB l t := by omega
      have a1 : indexB l s = seek l s := if_pos hv
      have a2 : indexB l t = seek l t := if_pos hv
      obtain ⟨j, hjn⟩ := Int.eq_ofNat_of_zero_le h1
      obtain ⟨x, hx, hn⟩ := seek_name (l := l) (j := j) (show seek l s = (j : Int) by rw [← a1]; exact hjn)
      obtain ⟨y, hy, hm⟩ := seek_name (l := l) (j := j) (show seek l t = (j : Int) by rw [← a2, ← e1]; exact hjn)
      rw [hx] at hy
      injection hy with hy
      subst hy
      exact hn.symm.trans hm
    have hne : s = t → (indexB l s).toNat = (indexB l t).toNat := fun e => by rw [e]
    rw [k1, k2, hl]
    generalize (indexB l s).toNat = i at *
    generalize (indexB l t).toNat = j at *
    have hself : ∀ a : Nat, a ∈ rp l a := fun a => List.mem_append.2 (.inr (List.mem_singleton.2 rfl))
    unfold kindIx
    by_cases a : j ∈ rp l i
    · by_cases b : i ∈ rp l j
      · have e : i = j := Nat.le_antisymm (rp_le hd j hj i b) (rp_le hd i hi j a)
        refine .inl ⟨if_pos a, by simp [a], .inr ⟨heq e, if_pos b⟩⟩
      · exact .inl ⟨if_pos a, by simp [a], .inl (by rw [if_neg b, if_pos a])⟩
    · by_cases b : i ∈ rp l j
      · refine .inr (.inl ⟨by rw [if_neg a, if_pos b], by simp [b], if_pos b, fun e => a ?_⟩)
        rw [hne e]
        exact hself j
      · exact .inr (.inr ⟨by rw [if_neg a, if_neg b], by simp [a, b], by rw [if_neg b, if_neg a]⟩)
/-- The three counts add up to the number of calls. -/
theorem kSum (l : List Seg) : ∀ (xs : List (List UInt8)), (∀ x ∈ xs, kNat l x < 3) → kCnt l xs 0 + kCnt l xs 1 + kCnt l xs 2 = xs.length
  | [], _ => rfl
  | x :: xs, h => by
    have h1 := kSum l xs (fun y hy => h y (List.mem_cons_of_mem _ hy))
    have h2 := h x List.mem_cons_self
    have e : ∀ i, kCnt l (x :: xs) i = kCnt l xs i + if kNat l x = i then 1 else 0 := fun i => by
      unfold kCnt
      rw [List.filter_cons]
      by_cases hx : kNat l x = i
      · simp [hx]
      · simp [hx]
    rw [e, e, e, List.length_cons]
    have : kNat l x = 0 ∨ kNat l x = 1 ∨ kNat l x = 2 := by omega
    rcases this with h3 | h3 | h3 <;> rw [h3] <;> simp <;> omega
theorem counts_said {l : List Seg} {t : ByteArray} {f : Forest} (h : traceB l t.data.toList = some f) : ∃ a b c : Nat, countsRes l t = [(a : Int), (b : Int), (c : Int)] ∧ a + b + c = f.size ∧ f.size ≤ 80 := by
  have h1 := trace_two h
  have h2 : ∀ x ∈ chainsB [rootB l] f, kNat l x < 3 := fun x hx => by
    obtain ⟨⟨y, u, v, rfl, hu, hv⟩, _⟩ := h1 x hx
    exact (kNat_is y hu hv).2
  have h3 := kSum l _ h2
  rw [chainsB_len] at h3
  refine ⟨kCnt l (chainsB [rootB l] f) 0, kCnt l (chainsB [rootB l] f) 1, kCnt l (chainsB [rootB l] f) 2, ?_, h3, (traceB_size h).1⟩
  unfold countsRes
  rw [h]
  rfl

set_option maxRecDepth 100000 in
set_option maxHeartbeats 1000000 in
theorem soSame_any (A A' : Option Addr) (l : List Int) (c c' : Nat) (w : World) (hw : Si.Ints w w.heap.size A l) (hw' : Si.Ints w w.heap.size A' l) (hl : l.length ≤ 1000) :
    Calls Try.prog 19 #[.slice A l.length c, .slice A' l.length c'] w fun e w' => e = .returned (.bool true) ∧ Below w.heap.size w w' := by
  have HW : Hid (Si.Ints w w.heap.size A l) := hw
  have HW' : Hid (Si.Ints w w.heap.size A' l) := hw'
  clear hw hw'
  go_enter Try.func19, Try.ntmps19
  go_wp2
  go_loopw [11] (fun i wr => ∃ (k : Nat), k ≤ l.length ∧ i = .int .i64 k ∧ Below w.heap.size w wr)
    (fun i _ => l.length - (intOf i).toNat)
  case atStart => exact ⟨0, Nat.zero_le _, rfl, Below.refl _ _⟩
  case round =>
    obtain ⟨k, hk, rfl, hb⟩ := hrel
    by_cases hlt : k < l.length
    · have hlt' : (k : Int) < (l.length : Int) := by omega
      have hk0 : (0 : Int) ≤ (k : Int) := Int.natCast_nonneg _
      obtain ⟨b, o, rfl, hB, hc⟩ := HW.out (by omega)
      obtain ⟨b', o', rfl, hB', hc'⟩ := HW'.out (by omega)
      have c0 := hc k l[k] (List.getElem?_eq_getElem hlt)
      have d0 := hc' k l[k] (List.getElem?_eq_getElem hlt)
      clear hc hc'
      rw [← hb.cell hB] at c0
      rw [← hb.cell hB'] at d0
      generalize l[k] = s at *
      have HB2 := Lib.hid hb.drew
      go_wp2
      go_quiet (fail)
      go_wp2
      go_roundw
      case rel => exact ⟨k + 1, by omega, by go_num, below_drewN hb _⟩
      case measure => simp [intOf]; omega
    · go_wp2
      go_ret
      exact ⟨rfl, hb⟩

end Go.Proofs.Ytafpefjjeddmeaa
/- The program's DepthOf. -/
namespace Go.Proofs.Ytafpefjjeddmeaa
open Go.RowKit Go.Shelf
attribute [local go_sem] Oper.semAt_some

set_option maxRecDepth 100000 in
set_option maxHeartbeats 2000000 in
theorem implDepthOf_any (A : Option Addr) (l : List Seg) (c : Nat) (t : ByteArray) (w : World) (hw : Segs w w.heap.size A l) (hl : l.length ≤ 1048576) (hlc : l.length ≤ c) (hcm : c ≤ 9223372036854775807) (hn : Short l) (ht : t.size ≤ 1048576) :
    Calls Try.prog 17 #[.slice A l.length c, .string t] w fun e w' => e = .returned (.int .i64 (depthRes l t)) ∧ Below w.heap.size w w' := by
  have HQ := Lib.hid (readTrace_any A l c t w hw hl hlc hcm hn ht)
  unfold depthRes
  cases hR : traceB l t.data.toList with
  | none =>
    rw [hR] at HQ
    clear hw hn hR
    go_enter Try.func17, Try.ntmps17
    go_wp2_with fail
    refine Calls.mono HQ.out ?_
    rintro e w2 ⟨v, rfl, -, hb⟩
    go_wp2
    go_ret
    exact ⟨rfl, hb⟩
  | some f =>
    have hsz := traceB_size hR
    rw [hR] at HQ
    clear hw hn hR
    refine (callsIn_wide (n := 20)).1 ?_
    refine callsIn_of_wp_marks Try.func17 rfl trivial ?_ rfl
    simp only [Try.ntmps17, List.size_toArray, List.length_cons, List.length_nil, Nat.reduceAdd, Nat.reduceSub, Array.replicate_succ, Array.replicate_zero, List.push_toArray, List.append_toArray, List.nil_append, List.cons_append]
    gi_wp2_with fail
    refine ⟨trivial, ?_⟩
    gi_at_call 44
    refine (callsIn_wide.2 HQ.out).mono ?_
    rintro e w2 ⟨v, rfl, (⟨f', hf', hsl⟩ | ⟨h0, -⟩), hb⟩
    · obtain rfl : f = f' := by injection hf'
      have HSL : Hid (SliceIs w2 (· < w2.heap.size) v f) := hsl.keep fun q hq => ⟨hq.2, rfl⟩
      have HB := Lib.hid hb
      obtain ⟨A2, cap2, rfl, -⟩ := id hsl
      clear hsl hb hf' HQ
      gi_wp2_with fail
      refine ⟨trivial, ?_⟩
      gi_at_call 46
      refine (callsIn_wide.2 (chainsOf_any _ _ _ _ _)).mono ?_
      rintro e w3 ⟨rfl, rfl⟩
      gi_wp2
      have hz0 : (((w2.alloc (.cells #[.int .i64 0] 3)).alloc (.cells #[.string ⟨#[]⟩] 9)).alloc (.cells #[.slice A2 f.len cap2] 54)).heap.size = w2.heap.size + 3 := by simp
      have hr0 : Row (((w2.alloc (.cells #[.int .i64 0] 3)).alloc (.cells #[.string ⟨#[]⟩] 9)).alloc (.cells #[.slice A2 f.len cap2] 54)) w2.heap.size 3 #[.int .i64 ((mxLen [] : Nat) : Int)] := ((Row.new w2 _ _).alloc _).alloc _
      have hr1 : Row (((w2.alloc (.cells #[.int .i64 0] 3)).alloc (.cells #[.string ⟨#[]⟩] 9)).alloc (.cells #[.slice A2 f.len cap2] 54)) (w2.heap.size + 1) 9 #[.string ⟨#[]⟩] := by
        have := Row.new (w2.alloc (.cells #[.int .i64 0] 3)) 9 #[.string ⟨#[]⟩]
        rw [World.size_alloc] at this
        exact this.alloc _
      have hr2 : Row (((w2.alloc (.cells #[.int .i64 0] 3)).alloc (.cells #[.string ⟨#[]⟩] 9)).alloc (.cells #[.slice A2 f.len cap2] 54)) (w2.heap.size + 2) 54 #[.slice A2 f.len cap2] := by
        have := Row.new ((w2.alloc (.cells #[.int .i64 0] 3)).alloc (.cells #[.string ⟨#[]⟩] 9)) 54 #[.slice A2 f.len cap2]
        rw [World.size_alloc, World.size_alloc] at this
        exact this
      have hb0 : Below w2.heap.size w2 (((w2.alloc (.cells #[.int .i64 0] 3)).alloc (.cells #[.string ⟨#[]⟩] 9)).alloc (.cells #[.slice A2 f.len cap2] 54)) := (((Below.refl _ w2).alloc (Nat.le_refl _) _).alloc (by simp) _).alloc (by simp; omega) _
      generalize ((w2.alloc (.cells #[.int .i64 0] 3)).alloc (.cells #[.string ⟨#[]⟩] 9)).alloc (.cells #[.slice A2 f.len cap2] 54) = W0 at *
      refine wpIn_rangeFunc_R (by omega) (gf := 80) (lb := #[.pointer (some ⟨w2.heap.size + 1 + 1, 0, none⟩), .pointer (some ⟨w2.heap.size + 1, 0, none⟩)]) rfl (enters_of Try.func80 (by kernel_rfl) rfl)
        (chains1_seq w2.heap.size (w2.heap.size + 1) (fun x => x) (f.size + 1) f [] f.size 19 (w2.heap.size + 2) (w2.heap.size + 1) (.slice A2 f.len cap2) W0 (by omega) (by simp; omega) (fun _ _ => rfl) ⟨.inr (by omega), by decide, hr2⟩ ⟨.inr (by omega), by decide, hr1⟩ (HSL.out.below hb0) (by omega) (Nat.le_refl _) (by omega))
        (by omega) (by omega) (Below.refl _ _) (fun _ => rfl)
        (fun pre W => Row W w2.heap.size 3 #[.int .i64 ((mxLen pre : Nat) : Int)] ∧ Below w2.heap.size w2 W)
        (fun _ _ _ => False)
        (fun pre X Y row hs hg hr => ⟨row_grownT hs.1 hg hr, hs.2.grown hg hs.2.size (fun k e => by have := (hr k e).1; omega)⟩)
        (fun _ _ _ _ _ hs _ _ => hs)
        ⟨hr0, hb0⟩
        (fun x => { tmps := #[.slice A l.length c, .string t, undef, undef, .int .i64 0, .slice A2 f.len cap2, .bool true, .pointer (some ⟨w2.heap.size, 0, none⟩), .string (strOf x), .tuple #[.slice A2 f.len cap2, .bool true], .slice A l.length c, .string t, .tuple #[.slice A2 f.len cap2, .bool true], .slice A2 f.len cap2, .bool true, .bool true, .bool false, .slice A2 f.len cap2, .func (.func 80) #[] #[.pointer (some ⟨w2.heap.size + 1 + 1, 0, none⟩), .pointer (some ⟨w2.heap.size + 1, 0, none⟩)], .string (strOf x), undef, undef, undef, undef, undef], defers := [] }) ?assign ?body ?done ?stop
      case assign =>
        intro l2 x X K hK
        gi_wp2
        exact hK
      case body =>
        rintro l2 pre x X ⟨hr, hbx⟩ hlen hz
        have d0 : X.cell? ⟨w2.heap.size, 0, none⟩ = some (.int .i64 ((mxLen pre : Nat) : Int)) := hr.cell 0
        have z0 : X.frozen? ⟨w2.heap.size, 0, none⟩ = false := hr.free 0
        have HM : Hid (max ((mxLen pre : Nat) : Int) ((strOf x).size : Int) = ((mxLen (pre ++ [x]) : Nat) : Int)) := by
          show _ = _
          rw [mxLen_snoc, str_size]
          omega
        have HR := Lib.hid hr
        have HBX := Lib.hid hbx
        clear hr hbx
        gi_wp2
        refine ⟨⟨by simp [World.setCell], fun k o hk ho _ => (Below.heap_setCell X _ _ k (by show k ≠ w2.heap.size; omega)).trans ho⟩, (Below.refl w2.heap.size X).setCell (p := ⟨w2.heap.size, 0, none⟩) (Nat.le_refl _) _, ?_, HBX.out.setCell (p := ⟨w2.heap.size, 0, none⟩) (Nat.le_refl _) _⟩
        rw [← HM.out]
        exact HR.out.put 0 _
      case done =>
        rintro L ys X hL rfl ⟨hr, hbx⟩ hK
        have d0 : X.cell? ⟨w2.heap.size, 0, none⟩ = some (.int .i64 ((mxLen (chainsB [] f) : Nat) : Int)) := hr.cell 0
        have HBX := Lib.hid hbx
        clear hr hbx
        gi_wp2
        refine ⟨by simp, .inl ⟨_, _, rfl, run_takeDeferred hK, ?_⟩⟩
        refine ⟨_, results_tmp rfl _ _ _, rfl, (HB.out.trans (HBX.out.mono HB.out.size)).trans (belowK_b (w := w) (Nat.le_refl _) X L _ _ (by have := HB.out.size; omega) hK rfl rfl)⟩
      case stop =>
        rintro L c' pre X _ _ h _
        exact h.elim
    · cases h0

end Go.Proofs.Ytafpefjjeddmeaa
