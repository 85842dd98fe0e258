/- Joined: Wb Wc Wd Wz We Wf Wg. -/
import Derived.Test.YtcaegpjbdcopoaaU38
import Derived.Test.YtcaegpjbdcopoaaU02
import Derived.Test.YtcaegpjbdcopoaaU03
import Derived.Deep.RegionWith
import Derived.Test.YtcaegpjbdcopoaaU36
import Derived.Test.YtcaegpjbdcopoaaU11
import Derived.Lib.FrozenHead2
import Derived.Test.YtcaegpjbdcopoaaU17
import Derived.Test.YtcaegpjbdcopoaaU09
/- Draws of traces: a trace of a valid tree, a tree with a text. -/
namespace Go.Proofs.Ytcaegpjbdcopoaa
open Go.RowKit

set_option maxRecDepth 100000 in
set_option maxHeartbeats 2000000 in
theorem l4Good_any (b c P : Nat) (A : Option Addr) (l : List Seg) (w : World) (h1 : 1 ≤ l.length) (h9 : l.length ≤ 9) (hnm : ∀ s ∈ l, s.name.size ≤ 1) (hA : ∀ g o, A = some ⟨g, o, none⟩ → b < g) (hP : P ≤ 1000) (hr : Rd w b P) (hw : Segs w w.heap.size A l) :
    Calls Try.prog 65 #[.pointer (some ⟨b, 0, none⟩), .slice A l.length c] w (TextDrawn b P 870 80 w) := by
  have HD := Lib.hid (l4Draw_any b c A l h1 h9 hnm hA)
  have HW : Hid (Segs w w.heap.size A l) := hw
  have HNM := Lib.hid hnm
  have HAA := Lib.hid hA
  have HR := Lib.hid hr
  clear hr hw hnm hA
  go_enter Try.func65, Try.ntmps65
  go_wp2_with fail
  refine (draw_any b P 12 _ HR.out (by omega) (by omega) (by omega)).mono ?_
  rintro e w2 ⟨v, rfl, ⟨hv0, hv1⟩, ho2, hr2⟩
  have HO2 := Lib.hid ho2
  have HR2 := Lib.hid hr2
  clear ho2 hr2 hv1 HR
  by_cases hv : v = 0
  · subst hv
    go_wp2
    go_ret
    exact ⟨_, rfl, Nat.zero_le _, HO2.out, HR2.out.weak (by omega)⟩
  · go_wp2_with fail
    refine (draw_any b (P + 1) 4 _ HR2.out (by omega) (by omega) (by omega)).mono ?_
    rintro e w3 ⟨u, rfl, ⟨hu0, hu1⟩, ho3, hr3⟩
    obtain ⟨d, rfl⟩ := Int.eq_ofNat_of_zero_le hu0
    have hd3 : d ≤ 3 := by have := hu1 (by omega); omega
    have HO3 := Lib.hid (HO2.out.trans ho3)
    have HR3 := Lib.hid hr3
    have HW3 := Lib.hid (HW.out.farO HO3.out HAA.out)
    clear ho3 hr3 hu0 hu1 HO2 HR2
    have hK : 6 ^ d ≤ 216 := by
      have : d = 0 ∨ d = 1 ∨ d = 2 ∨ d = 3 := by omega
      rcases this with rfl | rfl | rfl | rfl <;> decide
    have HD2 := Lib.hid (HD.out d hd3 (P + 1 + 1) w3 (by omega) HR3.out HW3.out)
    clear HD HW3
    generalize 6 ^ d = K at *
    go_wp2_with fail
    refine HD2.out.mono ?_
    rintro e w4 ⟨x, rfl, hx, ho4, hr4⟩
    have HO4 := Lib.hid (HO3.out.trans ho4)
    have HR4 := Lib.hid (hr4.weak (Q := P + 870) (by omega))
    have hx6 : x.size ≤ 648 := by omega
    clear ho4 hr4 HR3 HD2 hx HO3
    by_cases h80 : x.size ≤ 80
    · have h80' : (x.size : Int) ≤ 80 := by omega
      go_wp2
      go_ret
      exact ⟨_, rfl, h80, HO4.out, HR4.out⟩
    · have h80' : 80 < (x.size : Int) := by omega
      have hsg : Segs w4 w4.heap.size A l := HW.out.farO HO4.out HAA.out
      obtain ⟨g, o, rfl, hgB, hc⟩ := hsg (by omega)
      obtain ⟨e1, e2, e3⟩ := hc 0 _ (List.getElem?_eq_getElem (by omega))
      have hns := HNM.out _ (List.getElem_mem (show 0 < l.length by omega))
      have h1' : (0 : Int) < (l.length : Int) := by omega
      rw [Nat.zero_mul, Nat.add_zero] at e1
      clear hc hsg
      generalize l[0] = sg at *
      go_wp2
      go_ret
      exact ⟨_, rfl, by omega, HO4.out, HR4.out⟩

/-- The texts that a trace is spoilt with. -/
def oddTexts : List ByteArray := [⟨#[]⟩, ⟨#[40]⟩, ⟨#[41]⟩, ⟨#[88]⟩, ⟨#[65]⟩, ⟨#[40, 41]⟩]
theorem oddTexts_size : ∀ x ∈ oddTexts, x.size ≤ 2 := by decide
/-- Nothing but the reader differs from `w`. -/
def Sat (w : World) (b q : Nat) (W : World) : Prop := Only w W (· = b) ∧ Rd W b q
theorem Sat.alloc {w W : World} {b q : Nat} (h : Hid (Sat w b q W)) (o : Obj) : Hid (Sat w b q (W.alloc o)) := Lib.hid ⟨h.out.1.andBelow ((Below.refl _ W).alloc (Nat.le_refl _) _), h.out.2.alloc o⟩
theorem ofS_any (w : World) (b q g : Nat) (W : World) (hs : Hid (Sat w b q W)) (hq : q ≤ 100000) (hx : Hid (Texts W b g 0 6 (· ∈ oddTexts))) :
    Calls Try.prog 64 #[.pointer (some ⟨b, 0, none⟩), .slice (some ⟨g, 0, none⟩) 6 6] W fun e w' => ∃ v : ByteArray, e = .returned (.string v) ∧ v.size ≤ 2 ∧ Only W w' (· = b) ∧ Hid (Sat w b (q + 1) w') := by
  refine (of_any b q g 0 6 6 _ W hs.out.2 (by omega) (by omega) (by omega) hx.out).mono ?_
  rintro e w' ⟨v, rfl, hv, ho, hr⟩
  exact ⟨v, rfl, oddTexts_size v hv, ho, Lib.hid ⟨hs.out.1.trans ho, hr⟩⟩
theorem pickS_any (w : World) (b q : Nat) (W : World) (hs : Hid (Sat w b q W)) (hq : q ≤ 100000) :
    Calls Try.prog 66 #[.pointer (some ⟨b, 0, none⟩), .int .i64 2] W fun e w' => ∃ v : Nat, e = .returned (.int .i64 v) ∧ v ≤ 1 ∧ Only W w' (· = b) ∧ Hid (Sat w b (q + 1) w') := by
  refine (draw_any b q 2 W hs.out.2 (by omega) (by omega) (by omega)).mono ?_
  rintro e w' ⟨v, rfl, ⟨h0, h1⟩, ho, hr⟩
  obtain ⟨k, rfl⟩ := Int.eq_ofNat_of_zero_le h0
  exact ⟨k, rfl, by have := h1 (by omega); omega, ho, Lib.hid ⟨hs.out.1.trans ho, hr⟩⟩
theorem texts_far {w w' : World} {b g n : Nat} {Q : ByteArray → Prop} (h : Texts w b g 0 n Q) (ho : Only w w' (· = b)) : Texts w' b g 0 n Q := by
  obtain ⟨h1, h2, h3⟩ := h
  refine ⟨h1, Nat.lt_of_lt_of_le h2 ho.size, fun i hi => ?_⟩
  obtain ⟨v, hv, hq⟩ := h3 i hi
  exact ⟨v, by rw [only_cell ho h1 h2]; exact hv, hq⟩

/-- What l4Some leaves: a slice of few segments, and a text. -/
def WithText (b P : Nat) (w : World) (e : Ending) (w' : World) : Prop :=
  ∃ A l c x, e = .returned (.tuple #[.slice A (List.length l) c, .string x]) ∧ (Segs w' w'.heap.size A l ∧ ∀ g o, A = some ⟨g, o, none⟩ → b < g) ∧ (l.length ≤ 9 ∧ l.length ≤ c ∧ c ≤ 9223372036854775807) ∧ (∀ s ∈ l, s.name.size ≤ 8) ∧ x.size ≤ 82 ∧ Only w w' (· = b) ∧ Rd w' b (P + 1000)

set_option maxRecDepth 100000 in
set_option maxHeartbeats 4000000 in
theorem l4Some_plain (hgood : GoodSaid) (b P : Nat) (w : World) (hr : Rd w b P) (hP : P ≤ 100) :
    Calls Try.prog 39 #[.pointer (some ⟨b, 0, none⟩)] w (WithText b P w) := by
  have HS := Lib.hid (l1Some_plain b P w hr (by omega) (fun w h => hgood b P w (by omega) h))
  have HBW := Lib.hid hr.lt
  clear hgood hr
  go_enter Try.func39, Try.ntmps39
  go_wp2_with fail
  refine Calls.mono HS.out ?_
  rintro e w1 ⟨A, l, c, rfl, hs, hl, hn, ho, hr1⟩
  have HV := Lib.hid (specTreeValid_any A l c w1 hs.1 (by omega) (fun s h => by have := hn s h; unfold maxLen; omega))
  have H1 := Lib.hid hs.1
  have HAA := Lib.hid hs.2
  have H2 := Lib.hid hl
  have H3 := Lib.hid hn
  have H4 := Lib.hid ho
  have H5 := Lib.hid hr1
  clear hs hl hn ho hr1 HS
  go_wp2_with fail
  refine HV.out.mono ?_
  rintro e w2 ⟨rfl, hb2⟩
  have H12 := Lib.hid ((H1.out.below hb2).more hb2.size)
  have HO2 := Lib.hid (H4.out.andBelow hb2)
  have HR2 := Lib.hid (H5.out.below hb2)
  clear hb2 HV H4 H5
  cases hv : validB l with
  | false =>
    have HR3 := Lib.hid (HR2.out.alloc (.cells #[Value.string ⟨#[]⟩, .string ⟨#[65]⟩, .string ⟨#[66]⟩] 9))
    have HX3 := Lib.hid (texts_new w2 b 9 [⟨#[]⟩, ⟨#[65]⟩, ⟨#[66]⟩] HR2.out.lt)
    go_wp2_with fail
    refine (of_any b (P + 50) w2.heap.size 0 3 3 _ _ HR3.out (by omega) (by omega) (by omega) HX3.out).mono ?_
    rintro e w3 ⟨x, rfl, hx, ho3, hr3⟩
    have HX : Hid (x.size ≤ 82) := by
      have : ∀ x ∈ ([⟨#[]⟩, ⟨#[65]⟩, ⟨#[66]⟩] : List ByteArray), x.size ≤ 82 := by decide
      exact this x hx
    have HO3 := Lib.hid (HO2.out.trans ho3.fresh)
    have HR4 := Lib.hid hr3
    have HS3 := Lib.hid (H12.out.farO ho3.fresh HAA.out)
    clear ho3 hr3 hx HX3 HR3
    go_wp2
    refine bodyPost_ret (v := .tuple #[.slice A l.length c, .string x]) (by simp [results, Try.results39, go_sem]) rfl ?_
    exact ⟨A, l, c, x, rfl, ⟨HS3.out, HAA.out⟩, H2.out, H3.out, HX.out, HO3.out, HR4.out.weak (by omega)⟩
  | true =>
    have hlen : 1 ≤ l.length := by
      cases l with
      | nil => cases hv
      | cons a r => simp
    have HG := Lib.hid (l4Good_any b c (P + 50) A l w2 hlen H2.out.1 (fun s hs => by obtain ⟨c, h, -⟩ := nameOk_one (validB_names hv hs); rw [h]; exact Nat.le_refl _) HAA.out (by omega) HR2.out H12.out)
    clear hlen hv HR2
    go_wp2_with fail
    refine HG.out.mono ?_
    rintro e w3 ⟨x, rfl, hx, ho3, hr3⟩
    have HO3 := Lib.hid (HO2.out.trans ho3)
    have HR3 := Lib.hid hr3
    have HS3 := Lib.hid (H12.out.farO ho3 HAA.out)
    clear ho3 hr3 HO2 H12 HG
    go_wp2_with fail
    refine (draw_any b (P + 50 + 870) 12 _ HR3.out (by omega) (by omega) (by omega)).mono ?_
    rintro e w4 ⟨v, rfl, ⟨hv0, hv1⟩, ho4, hr4⟩
    have HO4 := Lib.hid (HO3.out.trans ho4)
    have HR4 := Lib.hid hr4
    have HS4 := Lib.hid (HS3.out.farO ho4 HAA.out)
    clear ho4 hr4 HO3 HR3 HS3 hv1
    by_cases hv : v = 0
    · subst hv
      cases he : x.toList.isEmpty with
      | true =>
        go_wp2
        refine bodyPost_ret (v := .tuple #[.slice A l.length c, .string x]) (by simp [results, Try.results39, go_sem]) rfl ?_
        exact ⟨A, l, c, x, rfl, ⟨HS4.out, HAA.out⟩, H2.out, H3.out, by omega, HO4.out, HR4.out.weak (by omega)⟩
      | false =>
        have hx0 : x.size ≠ 0 := fun h => by
          rw [show x = ⟨#[]⟩ from ByteArray.ext (Array.eq_empty_of_size_eq_zero h)] at he
          revert he
          unfold ByteArray.toList ByteArray.toList.loop
          decide
        go_wp2_with fail
        refine (draw_any b (P + 50 + 870 + 1) x.size _ HR4.out (by omega) (by omega) (by omega)).mono ?_
        rintro e w5 ⟨k, rfl, ⟨hk0, hk1⟩, ho5, hr5⟩
        obtain ⟨k, rfl⟩ := Int.eq_ofNat_of_zero_le hk0
        have hk : k < x.size := by have := hk1 (by omega); omega
        have HO5 := Lib.hid (HO4.out.trans ho5)
        have HB5 := Lib.hid (Only.refl w5 (· = b)).drew'
        have HS5 := Lib.hid (HS4.out.farO ho5 HAA.out)
        have HR5 := Lib.hid hr5
        have HSAT : Hid (Sat w b (P + 50 + 870 + 1 + 1) w5.drew) := Lib.hid ⟨HO5.out.drew', HR5.out.below ((Below.refl _ w5).drew)⟩
        clear ho5 hr5 HO4 HR4 HS4 hk0 hk1
        have HT0 := Lib.hid (texts_new w5.drew b 9 oddTexts HSAT.out.2.lt)
        have hk0 : (0 : Int) ≤ (k : Int) := Int.natCast_nonneg _
        have hkx : (k : Int) ≤ (x.size : Int) := by omega
        have HQ := Lib.hid hP
        clear HB5 HO5 HR5 he hv0 hx0
        go_wp2_with fail
        go_region_with (first
          | (go_at_call 64; refine (ofS_any w b (P + 50 + 870 + 1 + 1) w5.heap.size _ (Sat.alloc HSAT _) (by have := HQ.out; omega) HT0).mono ?_; rintro e w6 ⟨y, rfl, HY, ho6, HSAT6⟩)
          | (go_at_call 66; refine (pickS_any w b (P + 50 + 870 + 1 + 1 + 1) w6 HSAT6 (by have := HQ.out; omega)).mono ?_; rintro e w7 ⟨j, rfl, hj, ho7, HSAT7⟩; obtain ⟨s, HSJ⟩ : ∃ s : Nat, Hid (s = k + j) := ⟨_, rfl⟩; have hws : IntKind.i64.wrap ((k : Int) + (j : Int)) = (s : Int) := (IntWalk.i64_in _ (by omega)).trans (by rw [HSJ.out]; rfl); have hsx : (s : Int) ≤ (x.size : Int) := by (rw [HSJ.out]; omega)))
        all_goals
          have HSF := Lib.hid (HS5.out.farO ((Only.refl w5 (· = b)).drew'.trans (ho6.fresh.trans ho7)) HAA.out)
          have HSZ : Hid ((x.extract 0 k ++ y ++ x.extract s x.size).size ≤ 82) := by
            show _ ≤ _
            rw [ByteArray.size_append, ByteArray.size_append, ByteArray.size_extract, ByteArray.size_extract]
            have := HSJ.out
            omega
          clear ho6 ho7 HS5 HSAT6 HSAT HT0
          go_wp2
          refine bodyPost_ret (v := .tuple #[.slice A l.length c, .string (x.extract 0 k ++ y ++ x.extract s x.size)]) (by simp [results, Try.results39, go_sem]) rfl ?_
          exact ⟨A, l, c, _, rfl, ⟨HSF.out, HAA.out⟩, H2.out, H3.out, HSZ.out, HSAT7.out.1, HSAT7.out.2.weak (by omega)⟩
    · go_wp2
      refine bodyPost_ret (v := .tuple #[.slice A l.length c, .string x]) (by simp [results, Try.results39, go_sem]) rfl ?_
      exact ⟨A, l, c, x, rfl, ⟨HS4.out, HAA.out⟩, H2.out, H3.out, by omega, HO4.out, HR4.out.weak (by omega)⟩

end Go.Proofs.Ytcaegpjbdcopoaa
/- Draws: the draws of StepsOf and FormatSteps. All over l1Good's contract. -/
namespace Go.Proofs.Ytcaegpjbdcopoaa
open Go.RowKit

set_option maxRecDepth 100000 in
set_option maxHeartbeats 1000000 in
theorem drawStepsOf_plain (hgood : GoodSaid) (A0 : Option Addr) (n c0 : Nat) (w : World) (hn : n ≤ c0) (hx : ∀ b, w.heap.size ≤ b → Bytes w b A0 n) :
    Calls Try.prog 10 #[.slice A0 n c0] w fun e w' => ∃ A l c x, e = .returned (.tuple #[.slice A (List.length l) c, .string x]) ∧ TreeHas w' A l c ∧ x.size ≤ 82 ∧ Below w.heap.size w w' := by
  have HO := Lib.hid (l13Open_any A0 n c0 w hn hx)
  have HP := Lib.hid (fun b w h => l4Some_plain hgood b 0 w h (Nat.zero_le _))
  clear hx hgood
  go_enter Try.func10, Try.ntmps10
  go_wp2_with fail
  refine Calls.mono HO.out ?_
  rintro e w1 ⟨b, rfl, hbb, hr, hb1⟩
  have HB1 := Lib.hid hb1
  have HPP := Lib.hid (HP.out b w1 hr)
  clear hr hb1 HP HO
  go_wp2_with fail
  refine Calls.mono HPP.out ?_
  rintro e w2 ⟨A, l, c, x, rfl, ⟨hs, hs'⟩, hl, hsh, hxx, ho, hr2⟩
  have HT : Hid (TreeHas w2 A l c) := ⟨hs, hl, hsh⟩
  have HB2 := Lib.hid (only_below HB1.out hbb ho)
  have HX := Lib.hid hxx
  clear hs hs' hl hsh hxx ho hr2 HPP
  go_wp2
  refine bodyPost_ret (v := .tuple #[.slice A l.length c, .string x]) (by simp [results, Try.results10, go_sem]) rfl ?_
  exact ⟨A, l, c, x, rfl, HT.out, HX.out, HB2.out⟩

set_option maxRecDepth 100000 in
set_option maxHeartbeats 1000000 in
theorem drawFormatSteps_plain (hgood : GoodSaid) (A0 : Option Addr) (n c0 : Nat) (w : World) (hn : n ≤ c0) (hx : ∀ b, w.heap.size ≤ b → Bytes w b A0 n) :
    Calls Try.prog 15 #[.slice A0 n c0] w fun e w' => ∃ v ss, e = .returned v ∧ OwnSs w' w.heap.size v ss ∧ (ss.length ≤ 161 ∧ ∀ s ∈ ss, s.nm.size = 1 ∧ s.ld.size ≤ 8) ∧ Below w.heap.size w w' := by
  have HO := Lib.hid (l13Open_any A0 n c0 w hn hx)
  have HP := Lib.hid (fun b w h => l4Some_plain hgood b 0 w h (Nat.zero_le _))
  clear hx hgood
  go_enter Try.func15, Try.ntmps15
  go_wp2_with fail
  refine Calls.mono HO.out ?_
  rintro e w1 ⟨b, rfl, hbb, hr, hb1⟩
  have HB1 := Lib.hid hb1
  have HPP := Lib.hid (HP.out b w1 hr)
  clear hr hb1 HP HO
  go_wp2_with fail
  refine Calls.mono HPP.out ?_
  rintro e w2 ⟨A, l, c, x, rfl, ⟨hs, hs'⟩, hl, hsh, hxx, ho, hr2⟩
  have HSP := Lib.hid (specSteps_ss A l c x w2 hs (by omega) (fun s h => by have := hsh s h; unfold maxLen; omega) (by omega))
  have HB2 := Lib.hid (only_below HB1.out hbb ho)
  clear hs hs' hl hsh hxx ho hr2 HPP
  go_wp2_with fail
  refine Calls.mono HSP.out ?_
  rintro e w3 ⟨v, rfl, hown, hb3⟩
  have HO3 := Lib.hid (hown.base HB2.out.size)
  have HB3 := Lib.hid (HB2.out.trans (hb3.mono HB2.out.size))
  clear hown hb3 HSP
  go_wp2
  go_ret
  refine ⟨v, stepsRes l x, rfl, HO3.out, ⟨stepsRes_le l x, fun s hs => ?_⟩, HB3.out⟩
  obtain ⟨y, hy, rfl⟩ := List.mem_map.1 hs
  have := runRes_texts l x y hy
  exact ⟨this.1, this.2.1⟩

end Go.Proofs.Ytcaegpjbdcopoaa
/- The text of steps: plain, and the reference's FormatSteps. -/
namespace Go.Proofs.Ytcaegpjbdcopoaa
open Go.RowKit

def fmtTo (ss : List Stp) : Nat → ByteArray
  | 0 => ⟨#[]⟩
  | k + 1 => match ss[k]? with
    | none => fmtTo ss k
    | some s =>
      let x := (if k = 0 then fmtTo ss k else fmtTo ss k ++ ⟨#[32]⟩) ++ s.nm
      if s.ld.toList.isEmpty = true then x else x ++ ⟨#[43]⟩ ++ s.ld
def fmtRes (ss : List Stp) : ByteArray := if ss.length = 0 then ⟨#[45]⟩ else fmtTo ss ss.length
theorem fmtTo_succ {ss : List Stp} {k : Nat} {s : Stp} (h : ss[k]? = some s) : fmtTo ss (k + 1) = if s.ld.toList.isEmpty = true then (if k = 0 then fmtTo ss k else fmtTo ss k ++ ⟨#[32]⟩) ++ s.nm else (if k = 0 then fmtTo ss k else fmtTo ss k ++ ⟨#[32]⟩) ++ s.nm ++ ⟨#[43]⟩ ++ s.ld := by
  rw [fmtTo, h]
theorem fmtTo_size {ss : List Stp} (hok : ∀ s ∈ ss, s.nm.size = 1 ∧ s.ld.size ≤ 8) : ∀ k, k ≤ ss.length → k ≤ (fmtTo ss k).size ∧ (fmtTo ss k).size ≤ 11 * k
  | 0, _ => ⟨Nat.le_refl _, Nat.le_refl _⟩
  | k + 1, hk => by
    have ih := fmtTo_size hok k (by omega)
    have hh := hok _ (List.getElem_mem (show k < ss.length by omega))
    rw [fmtTo_succ (List.getElem?_eq_getElem (show k < ss.length by omega))]
    generalize ss[k] = s at *
    have a1 : (⟨#[32]⟩ : ByteArray).size = 1 := rfl
    have a2 : (⟨#[43]⟩ : ByteArray).size = 1 := rfl
    by_cases h0 : k = 0
    · rw [if_pos h0]
      split
      · rw [ByteArray.size_append]; omega
      · rw [ByteArray.size_append, ByteArray.size_append, ByteArray.size_append, a2]; omega
    · rw [if_neg h0]
      split
      · rw [ByteArray.size_append, ByteArray.size_append, a1]; omega
      · rw [ByteArray.size_append, ByteArray.size_append, ByteArray.size_append, ByteArray.size_append, a1, a2]; omega
theorem empty_toList {x : ByteArray} (h : x.size = 0) : x.toList.isEmpty = true := by
  rw [show x = ⟨#[]⟩ from ByteArray.ext (Array.eq_empty_of_size_eq_zero h)]
  unfold ByteArray.toList ByteArray.toList.loop
  decide
theorem toList_some {x : ByteArray} (h : x.size ≠ 0) : x.toList.isEmpty = false := by
  have hl : x.toList.length = x.size := by rw [ByteArray.toList_eq]; rfl
  cases he : x.toList with
  | nil => rw [he] at hl; exact absurd hl.symm h
  | cons a r => rfl

set_option maxRecDepth 100000 in
set_option maxHeartbeats 2000000 in
theorem specFormatSteps_any (A : Option Addr) (ss : List Stp) (c : Nat) (w : World) (h : Stps w w.heap.size A ss) (hn : ss.length ≤ 1000) (hok : ∀ s ∈ ss, s.nm.size = 1 ∧ s.ld.size ≤ 8) :
    Calls Try.prog 18 #[.slice A ss.length c] w fun e w' => e = .returned (.string (fmtRes ss)) ∧ Below w.heap.size w w' := by
  have HS : Hid (Stps w w.heap.size A ss) := h
  have HOK := Lib.hid hok
  clear h hok
  go_enter Try.func18, Try.ntmps18
  go_wp2
  go_loopw [3, 8] (fun s i wr => ∃ (k : Nat) (x : ByteArray), k ≤ ss.length ∧ s = .string x ∧ i = .int .i64 k ∧ Hid (x = fmtTo ss k) ∧ Hid (Below w.heap.size w wr))
    (fun _ i _ => ss.length - (intOf i).toNat)
  case atStart => exact ⟨0, _, Nat.zero_le _, rfl, rfl, Lib.hid rfl, Below.refl _ _⟩
  case round =>
    obtain ⟨k, x, hk, rfl, rfl, HX, HB⟩ := hrel
    by_cases hlt : k < ss.length
    · have hlt' : (k : Int) < (ss.length : Int) := by omega
      obtain ⟨g, o, rfl, hg, hc⟩ := HS.out (by omega)
      obtain ⟨e0, e1, e2⟩ := hc k _ (List.getElem?_eq_getElem hlt)
      rw [← HB.out.cell hg] at e0 e1 e2
      obtain ⟨hs1, hs2⟩ := HOK.out _ (List.getElem_mem hlt)
      have hxs : x.size ≤ 11000 := by
        rw [HX.out]
        have := (fmtTo_size HOK.out k hk).2
        omega
      have HXN := Lib.hid (fmtTo_succ (List.getElem?_eq_getElem hlt))
      rw [← HX.out] at HXN
      have hHG := Lib.hid hg
      clear hc
      generalize ss[k] = s at *
      by_cases h0 : k = 0
      · subst h0
        rw [if_pos rfl] at HXN
        simp only [Nat.zero_mul, Nat.add_zero] at e0 e1 e2
        cases he : s.ld.toList.isEmpty with
        | true =>
          rw [if_pos he] at HXN
          go_wp2
          go_roundw
          case rel => exact ⟨1, _, by omega, rfl, rfl, Lib.hid HXN.out.symm, HB.out.alloc HB.out.size _⟩
          case measure => simp [intOf]; omega
        | false =>
          rw [if_neg (by rw [he]; simp)] at HXN
          go_wp2
          go_roundw
          case rel => exact ⟨1, _, by omega, rfl, rfl, Lib.hid HXN.out.symm, HB.out.alloc HB.out.size _⟩
          case measure => simp [intOf]; omega
      · have h0' : (0 : Int) < (k : Int) := by omega
        rw [if_neg h0] at HXN
        cases he : s.ld.toList.isEmpty with
        | true =>
          rw [if_pos he] at HXN
          go_wp2
          go_roundw
          case rel => exact ⟨k + 1, _, by omega, rfl, by go_num, Lib.hid HXN.out.symm, HB.out.alloc HB.out.size _⟩
          case measure => simp [intOf]; omega
        | false =>
          rw [if_neg (by rw [he]; simp)] at HXN
          go_wp2
          go_roundw
          case rel => exact ⟨k + 1, _, by omega, rfl, by go_num, Lib.hid HXN.out.symm, HB.out.alloc HB.out.size _⟩
          case measure => simp [intOf]; omega
    · obtain rfl : k = ss.length := by omega
      by_cases h0 : ss.length = 0
      · have he : x.toList.isEmpty = true := empty_toList (by have := (fmtTo_size HOK.out ss.length (Nat.le_refl _)).2; rw [HX.out]; omega)
        have HE : Hid (⟨#[45]⟩ = fmtRes ss) := by
          show _ = _
          unfold fmtRes
          rw [if_pos h0]
        go_wp2
        go_ret
        exact ⟨congrArg (fun z => Ending.returned (.string z)) HE.out, HB.out⟩
      · have he : x.toList.isEmpty = false := toList_some (by have := (fmtTo_size HOK.out ss.length (Nat.le_refl _)).1; rw [HX.out]; omega)
        have HE : Hid (x = fmtRes ss) := by
          show _ = _
          unfold fmtRes
          rw [if_neg h0]
          exact HX.out
        go_wp2
        go_ret
        exact ⟨congrArg (fun z => Ending.returned (.string z)) HE.out, HB.out⟩

end Go.Proofs.Ytcaegpjbdcopoaa
/- A byte written into a Builder. -/
namespace Go.Proofs.Ytcaegpjbdcopoaa
open Go.RowKit

/-- What a writing call of one byte has done. -/
def WroteB (w : World) (B b : Nat) (bs : List Value) (e : Ending) (w' : World) : Prop :=
  e = .returned .nilIface ∧ Lib.IsBuilderF 64 5 B b bs w' ∧ Below B w w' ∧ Lib.OthersKept 5 (some b) w w'

set_option maxRecDepth 100000 in
set_option maxHeartbeats 1000000 in
theorem writeByte_any (B b : Nat) (bs : List Value) (n : Int) (w : World) (h : Lib.IsBuilderF 64 5 B b bs w) (hlen : bs.length ≤ 1000000) (hBw : B ≤ w.heap.size) :
    Calls Try.prog 46 #[.pointer (some ⟨b, 0, none⟩), .int .u8 n] w (WroteB w B b (bs ++ [.int .u8 n])) := by
  obtain ⟨i0, hi, hz0, hz1, hz2⟩ := info_parts info_byte
  have I0 := Lib.hid hi
  have Z0 := Lib.hid hz0
  have Z1 := Lib.hid hz1
  have Z2 := Lib.hid hz2
  clear hi hz0 hz1 hz2
  go_enter Try.func46, Try.ntmps46
  go_wp2_with fail
  refine (copyCheck_any B b bs _ h).mono ?_
  rintro e w1 ⟨rfl, h1, hb1, hk1⟩
  obtain ⟨hB, v, hbk, hown, hne⟩ := h1
  have c0 : w1.cell? ⟨b, 0, none⟩ = some (.pointer (some ⟨b, 0, none⟩)) := by rw [Lib.cell_of_heap hbk]; rfl
  have c1 : w1.cell? ⟨b, 1, none⟩ = some v := by rw [Lib.cell_of_heap hbk]; rfl
  have hz1 := hb1.size
  have HNW := Lib.hid (cell_one_new w1 (.int .u8 n) 5)
  have HO := Lib.hid (hown.alloc (.cells #[.int .u8 n] 5))
  have HOWN := Lib.hid hown
  clear hown
  go_wp2_with (at_builtin; go_must (refine wpList_append_ownF _ rfl _ _ 22 rfl B 5 i0 (.int .u8 0) 1 1 Try.underlying22 I0.out Z0.out Z1.out Z2.out rfl (by decide) v bs.length bs rfl HO.out ⟨w1.heap.size, 0, none⟩ 1 1 [.int .u8 n] rfl rfl HNW.out (by simp [Value.oneCell']) (by unfold maxLen; omega) (by omega) (by simp; omega) ?_))
  intro v' w2 hown' hgrow' _
  have hgrow : World.grownBy (w1.alloc (.cells #[.int .u8 n] 5)) w2 v.ownBlock := hgrow'
  clear hgrow'
  have hlt : b < w1.heap.size := (Array.getElem?_eq_some_iff.1 hbk).1
  have hb2 : w2.heap[b]? = some (.cells #[.pointer (some ⟨b, 0, none⟩), v] 64 (0, 0)) := (hgrow.block b (by simp; omega) (fun e => hne e.symm)).trans ((Below.heap_alloc w1 _ b hlt).trans hbk)
  have d1 : w2.cell? ⟨b, 1, none⟩ = some v := by rw [Lib.cell_of_heap hb2]; rfl
  have f1 : w2.frozen? ⟨b, 1, none⟩ = false := Lib.frozen_of_heap hb2 1
  obtain ⟨ao, n', cap, rfl⟩ : ∃ ao n' cap, v' = .slice ao n' cap := by
    rcases hown'.2 with ⟨hv, _⟩ | ⟨g, cap, cur, fz, hv, _⟩
    · exact ⟨_, _, _, hv⟩
    · exact ⟨_, _, _, hv⟩
  have HK := Lib.hid (((hk1.alloc (.cells #[.int .u8 n] 5)).grown hgrow (Lib.ownsRowF_kind HO.out)).setCell ⟨b, 1, none⟩ rfl (.slice ao n' cap))
  have HP := Lib.hid (Lib.BuilderAtF.put (T := 64) (e := 5) hB hb2 (bs' := bs ++ [.int .u8 n]) (by simpa using hown') (by decide))
  have HW := Lib.hid (((hb1.alloc (by omega) (.cells #[.int .u8 n] 5)).grown hgrow (by simp; omega) (fun k hk => (HOWN.out.lt k hk).1)).setCell (p := ⟨b, 1, none⟩) hB (.slice ao n' cap))
  clear hown' hgrow hbk hb2 c0 c1 HO HOWN HNW hk1
  go_wp2
  go_ret
  exact ⟨rfl, .inr HP.out, HW.out, HK.out⟩

theorem kept_rowW {w w' : World} {b X : Nat} {T : TypeId} {cs : Array Value} (hk : Lib.OthersKept 5 (some b) w w') (hr : Row w X T cs) (h1 : X ≠ b) (h2 : T ≠ 5) : Row w' X T cs :=
  hk X _ hr (fun e => by injection e with e; exact h1 e) (fun c fz e => by injection e with _ e; exact h2 e)
theorem isB_ltW' {B b : Nat} {bs : List Value} {w : World} (h : Lib.IsBuilderF 64 5 B b bs w) : B ≤ w.heap.size := by
  rcases h with h | h
  · obtain ⟨h1, v, hb, _⟩ := h; have := (Array.getElem?_eq_some_iff.1 hb).1; omega
  · obtain ⟨h1, v, hb, _⟩ := h; have := (Array.getElem?_eq_some_iff.1 hb).1; omega
theorem isB_ltW {B b : Nat} {bs : List Value} {w : World} (h : Lib.IsBuilderF 64 5 B b bs w) : b < w.heap.size := by
  rcases h with h | h
  · obtain ⟨_, v, hb, _⟩ := h; exact (Array.getElem?_eq_some_iff.1 hb).1
  · obtain ⟨_, v, hb, _⟩ := h; exact (Array.getElem?_eq_some_iff.1 hb).1

end Go.Proofs.Ytcaegpjbdcopoaa
/- The program's FormatSteps. -/
namespace Go.Proofs.Ytcaegpjbdcopoaa
open Go.RowKit

/-- A Builder that has written the text 'y', of a call that was entered at 'w'. -/
def Bld (w : World) (y : ByteArray) (W : World) : Prop := Lib.IsBuilderF 64 5 w.heap.size w.heap.size (Lib.byteCells y.data.toList) W ∧ Below w.heap.size w W
theorem cells_cat (y s : ByteArray) : Lib.byteCells y.data.toList ++ Lib.strCells s = Lib.byteCells (y ++ s).data.toList := by
  rw [ByteArray.data_append, Array.toList_append, byteCells_app]
  rfl
theorem cells_size (y : ByteArray) : (Lib.byteCells y.data.toList).length = y.size := by
  rw [byteCells_len]; rfl
theorem bldStr_any (w : World) (y s : ByteArray) (W : World) (h : Bld w y W) (hy : y.size ≤ 100000) (hs : s.size ≤ 100000) :
    Calls Try.prog 43 #[.pointer (some ⟨w.heap.size, 0, none⟩), .string s] W fun e W' => e = .returned (.tuple #[.int .i64 s.size, .nilIface]) ∧ Hid (Bld w (y ++ s) W') ∧ Lib.OthersKept 5 (some w.heap.size) W W' := by
  refine (writeString_any w.heap.size w.heap.size _ s W h.1 (by rw [cells_size]; omega) h.2.size).mono ?_
  rintro e W' ⟨rfl, hI, hb, hk⟩
  rw [cells_cat] at hI
  exact ⟨rfl, ⟨hI, h.2.trans hb⟩, hk⟩
theorem bldByte_any (w : World) (y : ByteArray) (c : UInt8) (n : Int) (hc : n = (c.toNat : Int)) (W : World) (h : Bld w y W) (hy : y.size ≤ 100000) :
    Calls Try.prog 46 #[.pointer (some ⟨w.heap.size, 0, none⟩), .int .u8 n] W fun e W' => e = .returned .nilIface ∧ Hid (Bld w (y ++ ⟨#[c]⟩) W') ∧ Lib.OthersKept 5 (some w.heap.size) W W' := by
  subst hc
  refine (writeByte_any w.heap.size w.heap.size _ _ W h.1 (by rw [cells_size]; omega) h.2.size).mono ?_
  rintro e W' ⟨rfl, hI, hb, hk⟩
  have e1 : ([.int .u8 (c.toNat : Int)] : List Value) = Lib.strCells ⟨#[c]⟩ := rfl
  rw [e1, cells_cat] at hI
  exact ⟨rfl, ⟨hI, h.2.trans hb⟩, hk⟩
theorem one_size (c : UInt8) : (⟨#[c]⟩ : ByteArray).size = 1 := rfl
theorem Bld.box {w W : World} {y : ByteArray} (h : Bld w y W) (o : Obj) : Bld w y (W.alloc o) := ⟨h.1.alloc o, h.2.alloc h.2.size _⟩

set_option maxRecDepth 100000 in
set_option maxHeartbeats 4000000 in
theorem formatSteps_any (A : Option Addr) (ss : List Stp) (c : Nat) (w : World) (h : Stps w w.heap.size A ss) (hn : ss.length ≤ 1000) (hok : ∀ s ∈ ss, s.nm.size = 1 ∧ s.ld.size ≤ 8) :
    Calls Try.prog 17 #[.slice A ss.length c] w fun e w' => e = .returned (.string (fmtRes ss)) ∧ Below w.heap.size w w' := by
  by_cases h00 : ss.length = 0
  · have HE : Hid (⟨#[45]⟩ = fmtRes ss) := by
      show _ = _
      unfold fmtRes
      rw [if_pos h00]
    go_enter Try.func17, Try.ntmps17
    go_wp2
    go_ret
    exact ⟨congrArg (fun z => Ending.returned (.string z)) HE.out, Below.refl _ _⟩
  have HS : Hid (Stps w w.heap.size A ss) := h
  have HOK := Lib.hid hok
  have H0 := Lib.hid h00
  have hpos : ((ss.length : Int) == 0) = false := by rw [beq_eq_false_iff_ne]; omega
  clear h hok h00
  go_enter Try.func17, Try.ntmps17
  go_wp2
  have HI0 : Hid (Bld w (fmtTo ss 0) (w.alloc (.cells #[.pointer none, .slice none 0 0] 64))) := ⟨Lib.IsBuilderF.of (Lib.fresh_isBuilder _ _ w), (Below.refl _ w).alloc (Nat.le_refl _) _⟩
  generalize w.alloc (.cells #[.pointer none, .slice none 0 0] 64) = W0 at *
  go_loopw [11] (fun i wr => ∃ (k : Nat) (x : ByteArray), k ≤ ss.length ∧ i = .int .i64 k ∧ Hid (x = fmtTo ss k) ∧ Hid (Bld w x wr))
    (fun i _ => ss.length - (intOf i).toNat)
  case atStart => exact ⟨0, _, Nat.zero_le _, rfl, Lib.hid rfl, HI0⟩
  case round =>
    obtain ⟨k, x, hk, rfl, HX, HI⟩ := hrel
    clear HI0
    by_cases hlt : k < ss.length
    · have hlt' : (k : Int) < (ss.length : Int) := by omega
      obtain ⟨g, o, rfl, hg, hc⟩ := HS.out (by omega)
      obtain ⟨e0, e1, e2⟩ := hc k _ (List.getElem?_eq_getElem hlt)
      rw [← HI.out.2.cell hg] at e0 e1 e2
      obtain ⟨hs1, hs2⟩ := HOK.out _ (List.getElem_mem hlt)
      have hxs : x.size ≤ 11000 := by
        rw [HX.out]
        have := (fmtTo_size HOK.out k hk).2
        omega
      have HXN := Lib.hid (fmtTo_succ (List.getElem?_eq_getElem hlt))
      rw [← HX.out] at HXN
      have hHG := Lib.hid hg
      have hzz : w.heap.size < wr.heap.size := isB_ltW HI.out.1
      clear hc
      generalize ss[k] = s at *
      have HB1 := Lib.hid (HI.out.box (.cells #[.string s.nm, .string s.ld, .string s.st] 35))
      have HR1 : Hid (Row (wr.alloc (.cells #[.string s.nm, .string s.ld, .string s.st] 35)) wr.heap.size 35 #[.string s.nm, .string s.ld, .string s.st]) := Row.new wr _ _
      have c1 := HR1.out.cell 0
      have c2 := HR1.out.cell 1
      have hne : wr.heap.size ≠ w.heap.size := by omega
      by_cases h0 : k = 0
      · subst h0
        rw [if_pos rfl] at HXN
        simp only [Nat.zero_mul, Nat.add_zero] at e0 e1 e2
        cases he : s.ld.toList.isEmpty with
        | true =>
          rw [if_pos he] at HXN
          go_wp2_with fail
          generalize wr.alloc (.cells #[.string s.nm, .string s.ld, .string s.st] 35) = W1 at *
          refine (bldStr_any w _ s.nm W1 HB1.out (by (repeat rw [ByteArray.size_append]); (try rw [one_size]); (try rw [one_size]); omega) (by omega)).mono ?_
          rintro e W2 ⟨rfl, HB2, hk2⟩
          have HR2 : Hid (Row W2 wr.heap.size 35 #[.string s.nm, .string s.ld, .string s.st]) := kept_rowW hk2 HR1.out hne (by decide)
          have c3 := HR2.out.cell 0
          have c4 := HR2.out.cell 1
          clear hk2 HR1 HB1 c1 c2
          go_wp2
          go_roundw
          case rel => exact ⟨1, _, by omega, rfl, Lib.hid HXN.out.symm, HB2⟩
          case measure => simp [intOf]; omega
        | false =>
          rw [if_neg (by rw [he]; simp)] at HXN
          go_wp2_with fail
          generalize wr.alloc (.cells #[.string s.nm, .string s.ld, .string s.st] 35) = W1 at *
          refine (bldStr_any w _ s.nm W1 HB1.out (by (repeat rw [ByteArray.size_append]); (try rw [one_size]); (try rw [one_size]); omega) (by omega)).mono ?_
          rintro e W2 ⟨rfl, HB2, hk2⟩
          have HR2 : Hid (Row W2 wr.heap.size 35 #[.string s.nm, .string s.ld, .string s.st]) := kept_rowW hk2 HR1.out hne (by decide)
          have c3 := HR2.out.cell 0
          have c4 := HR2.out.cell 1
          clear hk2 HR1 HB1 c1 c2
          go_wp2_with fail
          refine (bldByte_any w _ 43 _ (by decide) W2 HB2.out (by (repeat rw [ByteArray.size_append]); (try rw [one_size]); (try rw [one_size]); omega)).mono ?_
          rintro e W3 ⟨rfl, HB3, hk3⟩
          have HR3 : Hid (Row W3 wr.heap.size 35 #[.string s.nm, .string s.ld, .string s.st]) := kept_rowW hk3 HR2.out hne (by decide)
          have c5 := HR3.out.cell 0
          have c6 := HR3.out.cell 1
          clear hk3 HR2 HB2 c3 c4
          go_wp2_with fail
          refine (bldStr_any w _ s.ld W3 HB3.out (by (repeat rw [ByteArray.size_append]); (try rw [one_size]); (try rw [one_size]); omega) (by omega)).mono ?_
          rintro e W4 ⟨rfl, HB4, hk4⟩
          have HR4 : Hid (Row W4 wr.heap.size 35 #[.string s.nm, .string s.ld, .string s.st]) := kept_rowW hk4 HR3.out hne (by decide)
          have c7 := HR4.out.cell 0
          have c8 := HR4.out.cell 1
          clear hk4 HR3 HB3 c5 c6
          go_wp2
          go_roundw
          case rel => exact ⟨1, _, by omega, rfl, Lib.hid HXN.out.symm, HB4⟩
          case measure => simp [intOf]; omega
      · have h0' : (0 : Int) < (k : Int) := by omega
        rw [if_neg h0] at HXN
        cases he : s.ld.toList.isEmpty with
        | true =>
          rw [if_pos he] at HXN
          go_wp2_with fail
          generalize wr.alloc (.cells #[.string s.nm, .string s.ld, .string s.st] 35) = W1 at *
          refine (bldByte_any w _ 32 _ (by decide) W1 HB1.out (by (repeat rw [ByteArray.size_append]); (try rw [one_size]); (try rw [one_size]); omega)).mono ?_
          rintro e W2 ⟨rfl, HB2, hk2⟩
          have HR2 : Hid (Row W2 wr.heap.size 35 #[.string s.nm, .string s.ld, .string s.st]) := kept_rowW hk2 HR1.out hne (by decide)
          have c3 := HR2.out.cell 0
          have c4 := HR2.out.cell 1
          clear hk2 HR1 HB1 c1 c2
          go_wp2_with fail
          refine (bldStr_any w _ s.nm W2 HB2.out (by (repeat rw [ByteArray.size_append]); (try rw [one_size]); (try rw [one_size]); omega) (by omega)).mono ?_
          rintro e W3 ⟨rfl, HB3, hk3⟩
          have HR3 : Hid (Row W3 wr.heap.size 35 #[.string s.nm, .string s.ld, .string s.st]) := kept_rowW hk3 HR2.out hne (by decide)
          have c5 := HR3.out.cell 0
          have c6 := HR3.out.cell 1
          clear hk3 HR2 HB2 c3 c4
          go_wp2
          go_roundw
          case rel => exact ⟨k + 1, _, by omega, by go_num, Lib.hid HXN.out.symm, HB3⟩
          case measure => simp [intOf]; omega
        | false =>
          rw [if_neg (by rw [he]; simp)] at HXN
          go_wp2_with fail
          generalize wr.alloc (.cells #[.string s.nm, .string s.ld, .string s.st] 35) = W1 at *
          refine (bldByte_any w _ 32 _ (by decide) W1 HB1.out (by (repeat rw [ByteArray.size_append]); (try rw [one_size]); (try rw [one_size]); omega)).mono ?_
          rintro e W2 ⟨rfl, HB2, hk2⟩
          have HR2 : Hid (Row W2 wr.heap.size 35 #[.string s.nm, .string s.ld, .string s.st]) := kept_rowW hk2 HR1.out hne (by decide)
          have c3 := HR2.out.cell 0
          have c4 := HR2.out.cell 1
          clear hk2 HR1 HB1 c1 c2
          go_wp2_with fail
          refine (bldStr_any w _ s.nm W2 HB2.out (by (repeat rw [ByteArray.size_append]); (try rw [one_size]); (try rw [one_size]); omega) (by omega)).mono ?_
          rintro e W3 ⟨rfl, HB3, hk3⟩
          have HR3 : Hid (Row W3 wr.heap.size 35 #[.string s.nm, .string s.ld, .string s.st]) := kept_rowW hk3 HR2.out hne (by decide)
          have c5 := HR3.out.cell 0
          have c6 := HR3.out.cell 1
          clear hk3 HR2 HB2 c3 c4
          go_wp2_with fail
          refine (bldByte_any w _ 43 _ (by decide) W3 HB3.out (by (repeat rw [ByteArray.size_append]); (try rw [one_size]); (try rw [one_size]); omega)).mono ?_
          rintro e W4 ⟨rfl, HB4, hk4⟩
          have HR4 : Hid (Row W4 wr.heap.size 35 #[.string s.nm, .string s.ld, .string s.st]) := kept_rowW hk4 HR3.out hne (by decide)
          have c7 := HR4.out.cell 0
          have c8 := HR4.out.cell 1
          clear hk4 HR3 HB3 c5 c6
          go_wp2_with fail
          refine (bldStr_any w _ s.ld W4 HB4.out (by (repeat rw [ByteArray.size_append]); (try rw [one_size]); (try rw [one_size]); omega) (by omega)).mono ?_
          rintro e W5 ⟨rfl, HB5, hk5⟩
          have HR5 : Hid (Row W5 wr.heap.size 35 #[.string s.nm, .string s.ld, .string s.st]) := kept_rowW hk5 HR4.out hne (by decide)
          have c9 := HR5.out.cell 0
          have c10 := HR5.out.cell 1
          clear hk5 HR4 HB4 c7 c8
          go_wp2
          go_roundw
          case rel => exact ⟨k + 1, _, by omega, by go_num, Lib.hid HXN.out.symm, HB5⟩
          case measure => simp [intOf]; omega
    · obtain rfl : k = ss.length := by omega
      have HE : Hid (⟨x.data.toList.toArray⟩ = fmtRes ss) := by
        show _ = _
        unfold fmtRes
        rw [if_neg H0.out, ← HX.out]
      go_wp2_with fail
      refine (Try.Builder_String_any_k w.heap.size w.heap.size _ _ HI.out.1 HI.out.2.size).mono ?_
      rintro e w5 ⟨rfl, -, hb5, -⟩
      have HB5 := Lib.hid (HI.out.2.trans hb5)
      clear hb5 HI
      go_wp2
      go_ret
      exact ⟨congrArg (fun z => Ending.returned (.string z)) HE.out, HB5.out⟩

end Go.Proofs.Ytcaegpjbdcopoaa
/- The law FnStepsOf: two rows of the same steps. -/
namespace Go.Proofs.Ytcaegpjbdcopoaa
open Go.RowKit

set_option maxRecDepth 100000 in
set_option maxHeartbeats 1000000 in
theorem soSteps_same (A A' : Option Addr) (l : List Stp) (c c' : Nat) (w : World) (hw : Stps w w.heap.size A l) (hw' : Stps w w.heap.size A' l) (hl : l.length ≤ 1048576) :
    Calls Try.prog 16 #[.slice A l.length c, .slice A' l.length c'] w fun e w' => e = .returned (.bool true) ∧ Below w.heap.size w w' := by
  have HW : Hid (Stps w w.heap.size A l) := hw
  have HW' : Hid (Stps w w.heap.size A' l) := hw'
  clear hw hw'
  go_enter Try.func16, Try.ntmps16
  go_wp2
  go_loopw [11] (fun i wr => ∃ (k : Nat), k ≤ l.length ∧ i = .int .i64 k ∧ Hid (Below w.heap.size w wr))
    (fun i _ => l.length - (intOf i).toNat)
  case atStart => exact ⟨0, Nat.zero_le _, rfl, Below.refl _ _⟩
  case round =>
    obtain ⟨k, hk, rfl, HB⟩ := hrel
    by_cases hlt : k < l.length
    · have hlt' : (k : Int) < (l.length : Int) := by omega
      obtain ⟨b, o, rfl, hB, hc⟩ := HW.out (by omega)
      obtain ⟨b', o', rfl, hB', hc'⟩ := HW'.out (by omega)
      obtain ⟨c0, c1, c2⟩ := hc k l[k] (List.getElem?_eq_getElem hlt)
      obtain ⟨d0, d1, d2⟩ := hc' k l[k] (List.getElem?_eq_getElem hlt)
      clear hc hc'
      rw [← HB.out.cell hB] at c0 c1 c2
      rw [← HB.out.cell hB'] at d0 d1 d2
      generalize l[k] = s at *
      go_wp2_with fail
      go_still (by kernel_rfl)
      go_wp2
      go_roundw
      case rel => exact ⟨k + 1, by omega, by go_num, HB.out.drew⟩
      case measure => simp [intOf]; omega
    · go_wp2
      go_ret
      exact ⟨rfl, HB.out⟩

end Go.Proofs.Ytcaegpjbdcopoaa
/- The law FnStepsOf: each step is a need at the state before it; plain. -/
namespace Go.Proofs.Ytcaegpjbdcopoaa
open Go.RowKit

theorem need_step {l : List Seg} {T : List Nat} {c : UInt8} (hv : validB l = true) (hT : IsState l T) (hc : callP l c = true) : needOk l (namesAt l T) ⟨#[c]⟩ = true ∧ afterStr l (namesAt l T) ⟨#[c]⟩ = (stepAt l T c).st ∧ loadStr l (namesAt l T) ⟨#[c]⟩ = (stepAt l T c).ld := by
  obtain ⟨h1, h2⟩ := stT_names hv hT
  have hk : needOk l (namesAt l T) ⟨#[c]⟩ = true := by
    unfold needOk
    rw [h1, (path_str hc).2]
    rfl
  have hp : pathIx l ⟨#[c]⟩ = pathAt l c := by
    unfold pathIx pathAt
    rw [(callP_ix hc).1, Int.toNat_natCast]
  refine ⟨hk, ?_, ?_⟩
  · unfold afterStr afterIx
    rw [if_pos hk, h2, hp]
    rfl
  · unfold loadStr loadIx
    rw [if_pos hk, h2, hp]
    rfl
/-- Each step is what its need does at the state before it. -/
def ChainS (l : List Seg) : ByteArray → List Stp → Prop
  | _, [] => True
  | x, s :: r => (needOk l x s.nm = true ∧ afterStr l x s.nm = s.st ∧ loadStr l x s.nm = s.ld) ∧ ChainS l s.st r
theorem run_chain {l : List Seg} (hv : validB l = true) : ∀ (xs : List (UInt8 × Bool)) (T : List Nat), IsState l T → (∀ x ∈ xs, callP l x.1 = true) → ChainS l (namesAt l T) ((runS l T xs).map (·.1))
  | [], _, _, _ => trivial
  | x :: xs, T, hT, h => by
    have hc := h x (List.mem_cons_self ..)
    exact ⟨need_step hv hT hc, run_chain hv xs (nextT l T x.1) (next_is hT hc) (fun y hy => h y (List.mem_cons_of_mem _ hy))⟩
def namesC (ss : List Stp) : ByteArray := ⟨(ss.flatMap fun s => s.nm.data.toList).toArray⟩
theorem namesC_snoc (ss : List Stp) (s : Stp) : namesC (ss ++ [s]) = namesC ss ++ s.nm := by
  apply ByteArray.ext
  apply Array.ext'
  unfold namesC
  rw [ByteArray.data_append, Array.toList_append]
  simp
theorem run_names (l : List Seg) : ∀ (xs : List (UInt8 × Bool)) (T : List Nat), ((runS l T xs).map (·.1)).flatMap (fun s => s.nm.data.toList) = xs.map (·.1)
  | [], _ => rfl
  | x :: xs, T => by
    show [x.1] ++ ((runS l (nextT l T x.1) xs).map (·.1)).flatMap (fun s => s.nm.data.toList) = x.1 :: xs.map (·.1)
    rw [run_names l xs]
    rfl
theorem needsR_names (a : UInt8) : ∀ f : Forest, (needsR a f).map (·.1) = needsB a f
  | .nil => rfl
  | .cons c k r => by
    show c :: (needsR c k ++ ((a, true) :: needsR a r)).map (·.1) = c :: (needsB c k ++ (a :: needsB a r))
    rw [List.map_append, List.map_cons, needsR_names c k, needsR_names a r]
theorem namesC_size (ss : List Stp) (h : ∀ s ∈ ss, s.nm.size = 1) : (namesC ss).size ≤ ss.length := by
  unfold namesC
  show (ss.flatMap fun s => s.nm.data.toList).toArray.size ≤ _
  rw [List.size_toArray]
  induction ss with
  | nil => simp
  | cons s r ih =>
    have h1 := h s (List.mem_cons_self ..)
    have h2 := ih (fun x hx => h x (List.mem_cons_of_mem _ hx))
    have h3 : s.nm.data.toList.length = 1 := h1
    rw [List.flatMap_cons, List.length_append, List.length_cons]
    omega

/-- What the law asks of the steps of a trace. -/
theorem steps_said {l : List Seg} {t : ByteArray} {f : Forest} (h : traceB l t.data.toList = some f) :
    ChainS l ⟨#[]⟩ (stepsRes l t) ∧ namesC (stepsRes l t) = needsRes l t ∧ loadsB (stepsRes l t) = loadsRes l t := by
  obtain ⟨hv, -, -⟩ := traceB_some h
  have hall := traceB_all h
  have e : stepsRes l t = (runF l f).map (·.1) := by
    unfold stepsRes
    rw [runRes_some h]
  refine ⟨?_, ?_, (loadsRes_eq l t).symm⟩
  · rw [e]
    exact run_chain hv _ _ (.inl rfl) (needsOfF_all hv hall)
  · rw [e]
    unfold needsRes namesC runF
    rw [h, run_names]
    show (⟨(rootB l :: (needsR (rootB l) f).map (·.1)).toArray⟩ : ByteArray) = _
    rw [needsR_names]
theorem stepsRes_texts (l : List Seg) (t : ByteArray) : ∀ s ∈ stepsRes l t, s.nm.size = 1 ∧ s.ld.size ≤ 8 ∧ s.st.size ≤ 8 := by
  intro s hs
  obtain ⟨y, hy, rfl⟩ := List.mem_map.1 hs
  exact runRes_texts l t y hy

end Go.Proofs.Ytcaegpjbdcopoaa
