/- Joined: Wb Dt Dq As. -/
import Derived.Test.YtifkmehnikfihaaGreatU26
import Derived.Test.YtifkmehnikfihaaGreatU02
import Derived.Test.YtifkmehnikfihaaGreatU03
import Derived.Deep.RegionWith
import Derived.Test.YtifkmehnikfihaaGreatU23
import Derived.Test.YtifkmehnikfihaaGreatU11
import Derived.Test.YtifkmehnikfihaaGreatU10
import Derived.Test.YtifkmehnikfihaaGreatU22
/- Draws of traces: a trace of a valid tree, a tree with a text. -/
namespace Go.Proofs.YtifkmehnikfihaaGreat
open Go.RowKit

set_option maxRecDepth 100000 in
set_option maxHeartbeats 2000000 in
theorem l4Good_any (b c P : Nat) (A : Option Addr) (l : List Seg) (w : World) (h1 : 1 ≤ l.length) (h9 : l.length ≤ 9) (hnm : ∀ s ∈ l, s.name.size ≤ 1) (hA : ∀ g o, A = some ⟨g, o, none⟩ → b < g) (hP : P ≤ 1000) (hr : Rd w b P) (hw : Segs w w.heap.size A l) :
    Calls Tryz.prog 131 #[.pointer (some ⟨b, 0, none⟩), .slice A l.length c] w (TextDrawn b P 870 80 w) := by
  have HD := Lib.hid (l4Draw_any b c A l h1 h9 hnm hA)
  have HW : Hid (Segs w w.heap.size A l) := hw
  have HNM := Lib.hid hnm
  have HAA := Lib.hid hA
  have HR := Lib.hid hr
  clear hr hw hnm hA
  go_enter Tryz.func131, Tryz.ntmps131
  go_wp2_with fail
  refine (draw_any b P 12 _ HR.out (by omega) (by omega) (by omega)).mono ?_
  rintro e w2 ⟨v, rfl, ⟨hv0, hv1⟩, ho2, hr2⟩
  have HO2 := Lib.hid ho2
  have HR2 := Lib.hid hr2
  clear ho2 hr2 hv1 HR
  by_cases hv : v = 0
  · subst hv
    go_wp2
    go_ret
    exact ⟨_, rfl, Nat.zero_le _, HO2.out, HR2.out.weak (by omega)⟩
  · go_wp2_with fail
    refine (draw_any b (P + 1) 4 _ HR2.out (by omega) (by omega) (by omega)).mono ?_
    rintro e w3 ⟨u, rfl, ⟨hu0, hu1⟩, ho3, hr3⟩
    obtain ⟨d, rfl⟩ := Int.eq_ofNat_of_zero_le hu0
    have hd3 : d ≤ 3 := by have := hu1 (by omega); omega
    have HO3 := Lib.hid (HO2.out.trans ho3)
    have HR3 := Lib.hid hr3
    have HW3 := Lib.hid (HW.out.farO HO3.out HAA.out)
    clear ho3 hr3 hu0 hu1 HO2 HR2
    have hK : 6 ^ d ≤ 216 := by
      have : d = 0 ∨ d = 1 ∨ d = 2 ∨ d = 3 := by omega
      rcases this with rfl | rfl | rfl | rfl <;> decide
    have HD2 := Lib.hid (HD.out d hd3 (P + 1 + 1) w3 (by omega) HR3.out HW3.out)
    clear HD HW3
    generalize 6 ^ d = K at *
    go_wp2_with fail
    refine HD2.out.mono ?_
    rintro e w4 ⟨x, rfl, hx, ho4, hr4⟩
    have HO4 := Lib.hid (HO3.out.trans ho4)
    have HR4 := Lib.hid (hr4.weak (Q := P + 870) (by omega))
    have hx6 : x.size ≤ 648 := by omega
    clear ho4 hr4 HR3 HD2 hx HO3
    by_cases h80 : x.size ≤ 80
    · have h80' : (x.size : Int) ≤ 80 := by omega
      go_wp2
      go_ret
      exact ⟨_, rfl, h80, HO4.out, HR4.out⟩
    · have h80' : 80 < (x.size : Int) := by omega
      have hsg : Segs w4 w4.heap.size A l := HW.out.farO HO4.out HAA.out
      obtain ⟨g, o, rfl, hgB, hc⟩ := hsg (by omega)
      obtain ⟨e1, e2, e3⟩ := hc 0 _ (List.getElem?_eq_getElem (by omega))
      have hns := HNM.out _ (List.getElem_mem (show 0 < l.length by omega))
      have h1' : (0 : Int) < (l.length : Int) := by omega
      rw [Nat.zero_mul, Nat.add_zero] at e1
      clear hc hsg
      generalize l[0] = sg at *
      go_wp2
      go_ret
      exact ⟨_, rfl, by omega, HO4.out, HR4.out⟩

/-- The texts that a trace is spoilt with. -/
def oddTexts : List ByteArray := [⟨#[]⟩, ⟨#[40]⟩, ⟨#[41]⟩, ⟨#[88]⟩, ⟨#[65]⟩, ⟨#[40, 41]⟩]
theorem oddTexts_size : ∀ x ∈ oddTexts, x.size ≤ 2 := by decide
/-- Nothing but the reader differs from `w`. -/
def Sat (w : World) (b q : Nat) (W : World) : Prop := Only w W (· = b) ∧ Rd W b q
theorem Sat.alloc {w W : World} {b q : Nat} (h : Hid (Sat w b q W)) (o : Obj) : Hid (Sat w b q (W.alloc o)) := Lib.hid ⟨h.out.1.andBelow ((Below.refl _ W).alloc (Nat.le_refl _) _), h.out.2.alloc o⟩
theorem ofS_any (w : World) (b q g : Nat) (W : World) (hs : Hid (Sat w b q W)) (hq : q ≤ 100000) (hx : Hid (Texts W b g 0 6 (· ∈ oddTexts))) :
    Calls Tryz.prog 130 #[.pointer (some ⟨b, 0, none⟩), .slice (some ⟨g, 0, none⟩) 6 6] W fun e w' => ∃ v : ByteArray, e = .returned (.string v) ∧ v.size ≤ 2 ∧ Only W w' (· = b) ∧ Hid (Sat w b (q + 1) w') := by
  refine (of_any b q g 0 6 6 _ W hs.out.2 (by omega) (by omega) (by omega) hx.out).mono ?_
  rintro e w' ⟨v, rfl, hv, ho, hr⟩
  exact ⟨v, rfl, oddTexts_size v hv, ho, Lib.hid ⟨hs.out.1.trans ho, hr⟩⟩
theorem pickS_any (w : World) (b q : Nat) (W : World) (hs : Hid (Sat w b q W)) (hq : q ≤ 100000) :
    Calls Tryz.prog 119 #[.pointer (some ⟨b, 0, none⟩), .int .i64 2] W fun e w' => ∃ v : Nat, e = .returned (.int .i64 v) ∧ v ≤ 1 ∧ Only W w' (· = b) ∧ Hid (Sat w b (q + 1) w') := by
  refine (draw_any b q 2 W hs.out.2 (by omega) (by omega) (by omega)).mono ?_
  rintro e w' ⟨v, rfl, ⟨h0, h1⟩, ho, hr⟩
  obtain ⟨k, rfl⟩ := Int.eq_ofNat_of_zero_le h0
  exact ⟨k, rfl, by have := h1 (by omega); omega, ho, Lib.hid ⟨hs.out.1.trans ho, hr⟩⟩
theorem texts_far {w w' : World} {b g n : Nat} {Q : ByteArray → Prop} (h : Texts w b g 0 n Q) (ho : Only w w' (· = b)) : Texts w' b g 0 n Q := by
  obtain ⟨h1, h2, h3⟩ := h
  refine ⟨h1, Nat.lt_of_lt_of_le h2 ho.size, fun i hi => ?_⟩
  obtain ⟨v, hv, hq⟩ := h3 i hi
  exact ⟨v, by rw [only_cell ho h1 h2]; exact hv, hq⟩

/-- What l4Some leaves: a slice of few segments, and a text. -/
def WithText (b P : Nat) (w : World) (e : Ending) (w' : World) : Prop :=
  ∃ A l c x, e = .returned (.tuple #[.slice A (List.length l) c, .string x]) ∧ (Segs w' w'.heap.size A l ∧ ∀ g o, A = some ⟨g, o, none⟩ → b < g) ∧ (l.length ≤ 9 ∧ l.length ≤ c ∧ c ≤ 9223372036854775807) ∧ (∀ s ∈ l, s.name.size ≤ 8) ∧ x.size ≤ 82 ∧ Only w w' (· = b) ∧ Rd w' b (P + 1000)

set_option maxRecDepth 100000 in
set_option maxHeartbeats 4000000 in
theorem l4Some_plain (hgood : GoodSaid) (b P : Nat) (w : World) (hr : Rd w b P) (hP : P ≤ 100) :
    Calls Tryz.prog 71 #[.pointer (some ⟨b, 0, none⟩)] w (WithText b P w) := by
  have HS := Lib.hid (l1Some_plain b P w hr (by omega) (fun w h => hgood b P w (by omega) h))
  have HBW := Lib.hid hr.lt
  clear hgood hr
  go_enter Tryz.func71, Tryz.ntmps71
  go_wp2_with fail
  refine Calls.mono HS.out ?_
  rintro e w1 ⟨A, l, c, rfl, hs, hl, hn, ho, hr1⟩
  have HV := Lib.hid (specTreeValid_any A l c w1 hs.1 (by omega) (fun s h => by have := hn s h; unfold maxLen; omega))
  have H1 := Lib.hid hs.1
  have HAA := Lib.hid hs.2
  have H2 := Lib.hid hl
  have H3 := Lib.hid hn
  have H4 := Lib.hid ho
  have H5 := Lib.hid hr1
  clear hs hl hn ho hr1 HS
  go_wp2_with fail
  refine HV.out.mono ?_
  rintro e w2 ⟨rfl, hb2⟩
  have H12 := Lib.hid ((H1.out.below hb2).more hb2.size)
  have HO2 := Lib.hid (H4.out.andBelow hb2)
  have HR2 := Lib.hid (H5.out.below hb2)
  clear hb2 HV H4 H5
  cases hv : validB l with
  | false =>
    have HR3 := Lib.hid (HR2.out.alloc (.cells #[Value.string ⟨#[]⟩, .string ⟨#[65]⟩, .string ⟨#[66]⟩] 9))
    have HX3 := Lib.hid (texts_new w2 b 9 [⟨#[]⟩, ⟨#[65]⟩, ⟨#[66]⟩] HR2.out.lt)
    go_wp2_with fail
    refine (of_any b (P + 50) w2.heap.size 0 3 3 _ _ HR3.out (by omega) (by omega) (by omega) HX3.out).mono ?_
    rintro e w3 ⟨x, rfl, hx, ho3, hr3⟩
    have HX : Hid (x.size ≤ 82) := by
      have : ∀ x ∈ ([⟨#[]⟩, ⟨#[65]⟩, ⟨#[66]⟩] : List ByteArray), x.size ≤ 82 := by decide
      exact this x hx
    have HO3 := Lib.hid (HO2.out.trans ho3.fresh)
    have HR4 := Lib.hid hr3
    have HS3 := Lib.hid (H12.out.farO ho3.fresh HAA.out)
    clear ho3 hr3 hx HX3 HR3
    go_wp2
    refine bodyPost_ret (v := .tuple #[.slice A l.length c, .string x]) (by simp [results, Tryz.results71, go_sem]) rfl ?_
    exact ⟨A, l, c, x, rfl, ⟨HS3.out, HAA.out⟩, H2.out, H3.out, HX.out, HO3.out, HR4.out.weak (by omega)⟩
  | true =>
    have hlen : 1 ≤ l.length := by
      cases l with
      | nil => cases hv
      | cons a r => simp
    have HG := Lib.hid (l4Good_any b c (P + 50) A l w2 hlen H2.out.1 (fun s hs => by obtain ⟨c, h, -⟩ := nameOk_one (validB_names hv hs); rw [h]; exact Nat.le_refl _) HAA.out (by omega) HR2.out H12.out)
    clear hlen hv HR2
    go_wp2_with fail
    refine HG.out.mono ?_
    rintro e w3 ⟨x, rfl, hx, ho3, hr3⟩
    have HO3 := Lib.hid (HO2.out.trans ho3)
    have HR3 := Lib.hid hr3
    have HS3 := Lib.hid (H12.out.farO ho3 HAA.out)
    clear ho3 hr3 HO2 H12 HG
    go_wp2_with fail
    refine (draw_any b (P + 50 + 870) 12 _ HR3.out (by omega) (by omega) (by omega)).mono ?_
    rintro e w4 ⟨v, rfl, ⟨hv0, hv1⟩, ho4, hr4⟩
    have HO4 := Lib.hid (HO3.out.trans ho4)
    have HR4 := Lib.hid hr4
    have HS4 := Lib.hid (HS3.out.farO ho4 HAA.out)
    clear ho4 hr4 HO3 HR3 HS3 hv1
    by_cases hv : v = 0
    · subst hv
      cases he : x.toList.isEmpty with
      | true =>
        go_wp2
        refine bodyPost_ret (v := .tuple #[.slice A l.length c, .string x]) (by simp [results, Tryz.results71, go_sem]) rfl ?_
        exact ⟨A, l, c, x, rfl, ⟨HS4.out, HAA.out⟩, H2.out, H3.out, by omega, HO4.out, HR4.out.weak (by omega)⟩
      | false =>
        have hx0 : x.size ≠ 0 := fun h => by
          rw [show x = ⟨#[]⟩ from ByteArray.ext (Array.eq_empty_of_size_eq_zero h)] at he
          revert he
          unfold ByteArray.toList ByteArray.toList.loop
          decide
        go_wp2_with fail
        refine (draw_any b (P + 50 + 870 + 1) x.size _ HR4.out (by omega) (by omega) (by omega)).mono ?_
        rintro e w5 ⟨k, rfl, ⟨hk0, hk1⟩, ho5, hr5⟩
        obtain ⟨k, rfl⟩ := Int.eq_ofNat_of_zero_le hk0
        have hk : k < x.size := by have := hk1 (by omega); omega
        have HO5 := Lib.hid (HO4.out.trans ho5)
        have HB5 := Lib.hid (Only.refl w5 (· = b)).drew'
        have HS5 := Lib.hid (HS4.out.farO ho5 HAA.out)
        have HR5 := Lib.hid hr5
        have HSAT : Hid (Sat w b (P + 50 + 870 + 1 + 1) w5.drew) := Lib.hid ⟨HO5.out.drew', HR5.out.below ((Below.refl _ w5).drew)⟩
        clear ho5 hr5 HO4 HR4 HS4 hk0 hk1
        have HT0 := Lib.hid (texts_new w5.drew b 9 oddTexts HSAT.out.2.lt)
        have hk0 : (0 : Int) ≤ (k : Int) := Int.natCast_nonneg _
        have hkx : (k : Int) ≤ (x.size : Int) := by omega
        have HQ := Lib.hid hP
        clear HB5 HO5 HR5 he hv0 hx0
        go_wp2_with fail
        go_region_with (first
          | (go_at_call 130; refine (ofS_any w b (P + 50 + 870 + 1 + 1) w5.heap.size _ (Sat.alloc HSAT _) (by have := HQ.out; omega) HT0).mono ?_; rintro e w6 ⟨y, rfl, HY, ho6, HSAT6⟩)
          | (go_at_call 119; refine (pickS_any w b (P + 50 + 870 + 1 + 1 + 1) w6 HSAT6 (by have := HQ.out; omega)).mono ?_; rintro e w7 ⟨j, rfl, hj, ho7, HSAT7⟩; obtain ⟨s, HSJ⟩ : ∃ s : Nat, Hid (s = k + j) := ⟨_, rfl⟩; have hws : IntKind.i64.wrap ((k : Int) + (j : Int)) = (s : Int) := (IntWalk.i64_in _ (by omega)).trans (by rw [HSJ.out]; rfl); have hsx : (s : Int) ≤ (x.size : Int) := by (rw [HSJ.out]; omega)))
        all_goals
          have HSF := Lib.hid (HS5.out.farO ((Only.refl w5 (· = b)).drew'.trans (ho6.fresh.trans ho7)) HAA.out)
          have HSZ : Hid ((x.extract 0 k ++ y ++ x.extract s x.size).size ≤ 82) := by
            show _ ≤ _
            rw [ByteArray.size_append, ByteArray.size_append, ByteArray.size_extract, ByteArray.size_extract]
            have := HSJ.out
            omega
          clear ho6 ho7 HS5 HSAT6 HSAT HT0
          go_wp2
          refine bodyPost_ret (v := .tuple #[.slice A l.length c, .string (x.extract 0 k ++ y ++ x.extract s x.size)]) (by simp [results, Tryz.results71, go_sem]) rfl ?_
          exact ⟨A, l, c, _, rfl, ⟨HSF.out, HAA.out⟩, H2.out, H3.out, HSZ.out, HSAT7.out.1, HSAT7.out.2.weak (by omega)⟩
    · go_wp2
      refine bodyPost_ret (v := .tuple #[.slice A l.length c, .string x]) (by simp [results, Tryz.results71, go_sem]) rfl ?_
      exact ⟨A, l, c, x, rfl, ⟨HS4.out, HAA.out⟩, H2.out, H3.out, by omega, HO4.out, HR4.out.weak (by omega)⟩

end Go.Proofs.YtifkmehnikfihaaGreat
/- A drawn tree, and a drawn trace of its calls, broad rather than deep. -/
namespace Go.Proofs.YtifkmehnikfihaaGreat
open Go.RowKit

def topNums11 : List Int := [3, 4, 2, 5, 1, 0, 6]

set_option maxRecDepth 100000 in
set_option maxHeartbeats 4000000 in
theorem l11Some_plain (hgood : GoodSaid) (b P : Nat) (w : World) (hr : Rd w b P) (hP : P ≤ 49) :
    Calls Tryz.prog 103 #[.pointer (some ⟨b, 0, none⟩)] w (WithText b (P + 51) w) := by
  have HS := Lib.hid (l1Some_plain b P w hr (by omega) (fun w h => hgood b P w (by omega) h))
  have H4S := Lib.hid (fun q w (hq : q ≤ 100) h => l4Some_plain hgood b q w h hq)
  have HBW := Lib.hid hr.lt
  have HPP := Lib.hid hP
  clear hgood hr
  go_enter Tryz.func103, Tryz.ntmps103
  go_wp2_with fail
  refine Calls.mono HS.out ?_
  rintro e w1 ⟨A, l, c, rfl, hs, hl, hn, ho, hr1⟩
  have HV := Lib.hid (specTreeValid_any A l c w1 hs.1 (by omega) (fun s h => by have := hn s h; unfold maxLen; omega))
  have H1 := Lib.hid hs.1
  have HAA := Lib.hid hs.2
  have H2 := Lib.hid hl
  have H3 := Lib.hid hn
  have H4 := Lib.hid ho
  have H5 := Lib.hid hr1
  clear hs hl hn ho hr1 HS
  go_wp2_with fail
  refine HV.out.mono ?_
  rintro e w2 ⟨rfl, hb2⟩
  have H12 := Lib.hid ((H1.out.below hb2).more hb2.size)
  have HO2 := Lib.hid (H4.out.andBelow hb2)
  have HR2 := Lib.hid (H5.out.below hb2)
  clear hb2 HV H4 H5
  cases hv : validB l with
  | false =>
    go_wp2_with fail
    refine (H4S.out (P + 50) w2 (by have := HPP.out; omega) HR2.out).mono ?_
    rintro e w3 ⟨A', l', c', x, rfl, hs', hl', hn', hx', ho', hr'⟩
    have HOF := Lib.hid (HO2.out.trans ho')
    have HRF := Lib.hid hr'
    have HSF := Lib.hid hs'
    have HLF := Lib.hid hl'
    have HNF := Lib.hid hn'
    clear hs' hl' hn' ho' hr' HO2 HR2 H12
    go_wp2
    refine bodyPost_ret (v := .tuple #[.slice A' l'.length c', .string x]) (by simp [results, Tryz.results103, go_sem]) rfl ?_
    exact ⟨A', l', c', x, rfl, HSF.out, HLF.out, HNF.out, hx', HOF.out, HRF.out.weak (by omega)⟩
  | true =>
    have hlen : 1 ≤ l.length := by
      cases l with
      | nil => cases hv
      | cons a r => simp
    have HNM : Hid (∀ s ∈ l, s.name.size ≤ 1) := fun s hs => by obtain ⟨c, h, -⟩ := nameOk_one (validB_names hv hs); rw [h]; exact Nat.le_refl _
    clear hv
    go_wp2_with fail
    refine (draw_any b (P + 50) 12 _ HR2.out (by omega) (by omega) (by omega)).mono ?_
    rintro e w3 ⟨v, rfl, ⟨hv0, hv1⟩, ho3, hr3⟩
    have HO3 := Lib.hid (HO2.out.trans ho3)
    have HR3 := Lib.hid hr3
    have HS3 := Lib.hid (H12.out.farO ho3 HAA.out)
    clear ho3 hr3 HO2 HR2 H12 hv1
    by_cases h0 : v = 0
    · subst h0
      clear hv0
      go_wp2_with fail
      refine (H4S.out (P + 50 + 1) w3 (by have := HPP.out; omega) HR3.out).mono ?_
      rintro e w4 ⟨A', l', c', x, rfl, hs', hl', hn', hx', ho', hr'⟩
      have HOF := Lib.hid (HO3.out.trans ho')
      have HRF := Lib.hid hr'
      have HSF := Lib.hid hs'
      have HLF := Lib.hid hl'
      have HNF := Lib.hid hn'
      clear hs' hl' hn' ho' hr' HO3 HR3 HS3
      go_wp2
      refine bodyPost_ret (v := .tuple #[.slice A' l'.length c', .string x]) (by simp [results, Tryz.results103, go_sem]) rfl ?_
      exact ⟨A', l', c', x, rfl, HSF.out, HLF.out, HNF.out, hx', HOF.out, HRF.out.weak (by omega)⟩
    · have h91 := H2.out.1
      have HDR := Lib.hid (fun q w3 (hq : q + 4 ≤ 10000) h hw => l4Draw_any b c A l hlen h91 HNM.out HAA.out 0 (by omega) q w3 (by rw [Nat.pow_zero]; omega) h hw)
      rw [show 4 * 6 ^ 0 = 4 from rfl, show 3 * 6 ^ 0 = 3 from rfl] at HDR
      have HRA := Lib.hid (HR3.out.alloc (.cells #[.int .i64 3, .int .i64 4, .int .i64 2, .int .i64 5, .int .i64 1, .int .i64 0, .int .i64 6] 3))
      have HXA := Lib.hid (nums_new w3 b 3 topNums11 HR3.out.lt)
      clear H4S HR3
      go_wp2_with fail
      refine (num_any b (P + 50 + 1) w3.heap.size 0 7 7 (· ∈ topNums11) _ HRA.out (by omega) (by omega) (by omega) HXA.out).mono ?_
      rintro e w4 ⟨n, rfl, hn, ho4, hr4⟩
      obtain ⟨m, rfl, hm6⟩ : ∃ m : Nat, n = (m : Int) ∧ m ≤ 6 := by
        have h : ∀ x ∈ topNums11, 0 ≤ x ∧ x ≤ 6 := by decide
        obtain ⟨h2, h3⟩ := h n hn
        exact ⟨n.toNat, by omega, by omega⟩
      have HO4 := Lib.hid (HO3.out.trans ho4.fresh)
      have HR4 := Lib.hid hr4
      have HS4 := Lib.hid (HS3.out.farO ho4.fresh HAA.out)
      clear ho4 hr4 hn HRA HXA HO3 HS3
      go_wp2
      go_loopw [5, 23] (fun s i wr => ∃ (k : Nat) (x : ByteArray), k ≤ m ∧ s = .string x ∧ i = .int .i64 k ∧ x.size ≤ 6 * k ∧ Hid (Only w4 wr (· = b)) ∧ Hid (Rd wr b (P + 52 + 6 * k)))
        (fun _ i _ => m - (intOf i).toNat)
      case atStart => exact ⟨0, _, Nat.zero_le _, rfl, rfl, Nat.le_refl _, Lib.hid (Only.refl _ _), HR4⟩
      case round =>
        obtain ⟨k, x, hk, rfl, rfl, hx, HOk, HRk⟩ := hrel
        clear HR4
        by_cases hlt : k < m
        · have hlt' : (k : Int) < (m : Int) := by omega
          go_wp2_with fail
          refine (draw_any b (P + 52 + 6 * k) l.length _ HRk.out (by omega) (by omega) (by omega)).mono ?_
          rintro e w5 ⟨v5, rfl, ⟨hv0, hv1⟩, ho5, hr5⟩
          obtain ⟨j, rfl⟩ := Int.eq_ofNat_of_zero_le hv0
          have hj : j < l.length := by have := hv1 (by omega); omega
          have hj' : (j : Int) < (l.length : Int) := by omega
          have hj0 : (0 : Int) ≤ (j : Int) := Int.natCast_nonneg _
          have HO5 := Lib.hid (HOk.out.trans ho5)
          have HR5 := Lib.hid hr5
          have hsg : Segs w5 w5.heap.size A l := HS4.out.farO HO5.out HAA.out
          obtain ⟨g, o, hA, hgB, hc⟩ := hsg (by omega)
          obtain ⟨e1, e2, e3⟩ := hc j _ (List.getElem?_eq_getElem hj)
          have hns := HNM.out _ (List.getElem_mem hj)
          have hxs : (x ++ l[j].name).size ≤ 6 * k + 1 := by rw [ByteArray.size_append]; omega
          clear hc ho5 hr5 hv0 hv1 hsg HOk HRk
          subst hA
          generalize l[j] = sg at *
          have hxl : x.size + sg.name.size ≤ 9223372036854775807 := by omega
          go_wp2_with fail
          generalize x ++ sg.name = y at *
          refine (draw_any b (P + 52 + 6 * k + 1) 3 _ HR5.out (by omega) (by omega) (by omega)).mono ?_
          rintro e w6 ⟨v6, rfl, ⟨hv0, hv1⟩, ho6, hr6⟩
          have HO6 := Lib.hid (HO5.out.trans ho6)
          have HR6 := Lib.hid hr6
          clear ho6 hr6 HO5 HR5 e1 e2 e3 hv1
          by_cases h6 : v6 = 0
          · subst h6
            have HDD := Lib.hid (HDR.out (P + 52 + 6 * k + 1 + 1) w6 (by have := HPP.out; omega) HR6.out (HS4.out.farO HO6.out HAA.out))
            have hy1 : y.size + (⟨#[40]⟩ : ByteArray).size ≤ 9223372036854775807 := by show y.size + 1 ≤ _; omega
            go_wp2_with fail
            refine Calls.mono HDD.out ?_
            rintro e w7 ⟨z, rfl, hz, ho7, hr7⟩
            have HO7 := Lib.hid (HO6.out.trans ho7)
            have HR7 := Lib.hid (hr7.weak (Q := P + 52 + 6 * (k + 1)) (by omega))
            have hs1 : (y ++ (⟨#[40]⟩ : ByteArray)).size = y.size + 1 := by rw [ByteArray.size_append]; rfl
            have hs2 : (y ++ (⟨#[40]⟩ : ByteArray) ++ z).size = y.size + 1 + z.size := by rw [ByteArray.size_append, hs1]
            have hs3 : (y ++ (⟨#[40]⟩ : ByteArray) ++ z ++ (⟨#[41]⟩ : ByteArray)).size = y.size + 1 + z.size + 1 := by rw [ByteArray.size_append, hs2]; rfl
            have hy2 : (y ++ (⟨#[40]⟩ : ByteArray)).size + z.size ≤ 9223372036854775807 := by omega
            have hy3 : (y ++ (⟨#[40]⟩ : ByteArray) ++ z).size + (⟨#[41]⟩ : ByteArray).size ≤ 9223372036854775807 := by show _ + 1 ≤ _; omega
            clear ho7 hr7 HO6 HR6 HDD
            go_wp2
            go_roundw
            case rel => exact ⟨k + 1, _, by omega, rfl, by go_num, by rw [hs3]; omega, HO7, HR7⟩
            case measure => simp [intOf]; omega
          · have HR7 := Lib.hid (HR6.out.weak (Q := P + 52 + 6 * (k + 1)) (by omega))
            go_wp2
            go_roundw
            case rel => exact ⟨k + 1, _, by omega, rfl, by go_num, by omega, HO6, HR7⟩
            case measure => simp [intOf]; omega
        · have HSF := Lib.hid (HS4.out.farO HOk.out HAA.out)
          have HOF := Lib.hid (HO4.out.trans HOk.out)
          go_wp2
          refine bodyPost_ret (v := .tuple #[.slice A l.length c, .string x]) (by simp [results, Tryz.results103, go_sem]) rfl ?_
          exact ⟨A, l, c, x, rfl, ⟨HSF.out, HAA.out⟩, H2.out, H3.out, by omega, HOF.out, HRk.out.weak (by omega)⟩

set_option maxRecDepth 100000 in
set_option maxHeartbeats 1000000 in
theorem drawSortedOrder_plain (hgood : GoodSaid) (A0 : Option Addr) (n c0 : Nat) (w : World) (hn : n ≤ c0) (hx : ∀ b, w.heap.size ≤ b → Bytes w b A0 n) :
    Calls Tryz.prog 61 #[.slice A0 n c0] w fun e w' => ∃ A l c x, e = .returned (.tuple #[.slice A (List.length l) c, .string x]) ∧ Segs w' w'.heap.size A l ∧ (l.length ≤ 9 ∧ l.length ≤ c ∧ c ≤ 9223372036854775807) ∧ (∀ s ∈ l, s.name.size ≤ 8) ∧ x.size ≤ 82 ∧ Below w.heap.size w w' := by
  have HO := Lib.hid (l13Open_any A0 n c0 w hn hx)
  have HP := Lib.hid (fun b w h => l11Some_plain hgood b 0 w h (by omega))
  clear hx hgood
  go_enter Tryz.func61, Tryz.ntmps61
  go_wp2_with fail
  refine Calls.mono HO.out ?_
  rintro e w1 ⟨b, rfl, hbb, hr, hb1⟩
  have HB1 := Lib.hid hb1
  have HG := Lib.hid (HP.out b w1 hr)
  clear hr hb1 HO HP
  go_wp2_with fail
  refine Calls.mono HG.out ?_
  rintro e w2 ⟨A, l, c, x, rfl, hs, hl, hn2, hx, ho, -⟩
  have HB2 := Lib.hid (only_below HB1.out hbb ho)
  have HS := Lib.hid hs.1
  have HL := Lib.hid hl
  have HN := Lib.hid hn2
  clear hs hl hn2 ho
  go_wp2
  refine bodyPost_ret (v := .tuple #[.slice A l.length c, .string x]) (by simp [results, Tryz.results61, go_sem]) rfl ?_
  exact ⟨A, l, c, x, rfl, HS.out, HL.out, HN.out, hx, HB2.out⟩

end Go.Proofs.YtifkmehnikfihaaGreat
/- The walk of the law FnExactSortedOrder. -/
namespace Go.Proofs.YtifkmehnikfihaaGreat
open Go.RowKit

theorem sortRes_le (l : List Seg) (t : ByteArray) : (sortRes l t).length ≤ 80 := by
  unfold sortRes
  cases hR : traceB l t.data.toList with
  | none => exact Nat.zero_le _
  | some f =>
    show ((sortNat l (headsB f)).map _).length ≤ 80
    obtain ⟨hv, -, -⟩ := traceB_some hR
    have hn : ((sortNat l (headsB f)).map fun (k : Nat) => (k : Int)).Nodup := by
      rw [List.Nodup, List.pairwise_map]
      exact (sortNat_sorted hv).imp fun {x y} h e => by
        have : x = y := by omega
        subst this; exact h.irrefl
    have h1 := nodup_le f.len _ hn (fun x hx => by
      obtain ⟨y, hy, rfl⟩ := List.mem_map.1 hx
      have := (sortNat_mem hv (headsB_all f (traceB_all hR)) y).1 hy
      rw [headsB_len] at this
      omega)
    have h3 := (traceB_size hR).1
    have h4 := f.len_size
    omega

end Go.Proofs.YtifkmehnikfihaaGreat
/- The program's InOrder. -/
namespace Go.Proofs.YtifkmehnikfihaaGreat
open Go.RowKit

set_option maxRecDepth 100000 in
set_option maxHeartbeats 400000 in
theorem indexI_any (B : Nat) (A : Option Addr) (c : Nat) (xs : List Int) (v : Int) (w : World) (hw : Si.Ints w B A xs) (hl : xs.length ≤ 1048576) :
    Calls Tryz.prog 223 #[.slice A xs.length c, .int .i64 v] w fun e w' => (∃ r : Int, e = .returned (.int .i64 r) ∧ decide (0 ≤ r) = xs.contains v) ∧ w = w' := by
  have HO := Lib.hid hw
  clear hw
  go_enter Tryz.func223, Tryz.ntmps223
  go_wp2
  go_loop [8] (fun i => ∃ (k : Nat), k ≤ xs.length ∧ i = .int .i64 k ∧ Hid ((xs.take k).contains v = false))
    (fun i => xs.length - (intOf i).toNat)
  case atStart => exact ⟨0, Nat.zero_le _, rfl, rfl⟩
  case round =>
    obtain ⟨k, hk, rfl, HN⟩ := hrel
    by_cases hlt : k < xs.length
    · obtain ⟨b, o, rfl, hB, hcs⟩ := HO.out (by omega)
      have hc := hcs k xs[k] (List.getElem?_eq_getElem hlt)
      have HM : Hid (xs[k] ∈ xs) := List.getElem_mem hlt
      have HT : Hid ((xs.take (k + 1)).contains v = ((xs.take k).contains v || (v == xs[k]))) := by
        show _ = _
        rw [List.take_succ_eq_append_getElem hlt, Bool.eq_iff_iff]
        simp only [List.contains_iff_mem, List.mem_append, List.mem_singleton, Bool.or_eq_true, beq_iff_eq]
      clear hcs
      generalize xs[k] = x at *
      cases ht : (v == x) with
      | true =>
        have HE : Hid (xs.contains v = true) := by
          show _ = _
          rw [List.contains_iff_mem, eq_of_beq ht]; exact HM.out
        go_wp2
        go_ret
        exact ⟨⟨k, rfl, ⟨fun _ => List.contains_iff_mem.1 HE.out, fun _ => Int.natCast_nonneg k⟩⟩, rfl⟩
      | false =>
        have HE : Hid ((xs.take (k + 1)).contains v = false) := by
          show _ = _
          rw [HT.out, HN.out, ht]; rfl
        go_wp2
        go_round
        case rel => exact ⟨k + 1, by omega, by go_num, HE⟩
        case measure => simp [intOf]; omega
    · have HE : Hid (xs.contains v = false) := by
        show _ = _
        rw [← HN.out, List.take_of_length_le (by omega)]
      go_wp2
      go_ret
      exact ⟨⟨-1, rfl, ⟨fun h => absurd h (by decide), fun h => absurd (List.contains_iff_mem.2 h) (by rw [HE.out]; decide)⟩⟩, rfl⟩

set_option maxRecDepth 100000 in
set_option maxHeartbeats 400000 in
theorem containsI_any (B : Nat) (A : Option Addr) (c : Nat) (xs : List Int) (v : Int) (w : World) (hw : Si.Ints w B A xs) (hl : xs.length ≤ 1048576) :
    Calls Tryz.prog 172 #[.slice A xs.length c, .int .i64 v] w fun e w' => e = .returned (.bool (xs.contains v)) ∧ w = w' := by
  have HQ := Lib.hid (indexI_any B A c xs v w hw hl)
  clear hw
  generalize xs.contains v = d at *
  go_enter Tryz.func172, Tryz.ntmps172
  go_wp2_with fail
  refine Calls.mono HQ.out ?_
  rintro e w2 ⟨⟨r, rfl, hr⟩, rfl⟩
  cases d with
  | true =>
    have h0 : 0 ≤ r := of_decide_eq_true hr
    clear hr
    go_wp2
    go_ret
    exact ⟨rfl, rfl⟩
  | false =>
    have h0 : ¬ 0 ≤ r := of_decide_eq_false hr
    clear hr
    go_wp2
    go_ret
    exact ⟨by simp [h0], rfl⟩

/-- The first k indices are there. -/
def allTo (xs : List Int) (k : Nat) : Bool := (List.range k).all fun i => xs.contains (i : Int)
theorem allTo_next (xs : List Int) (k : Nat) : allTo xs (k + 1) = (allTo xs k && xs.contains (k : Int)) := by
  unfold allTo
  rw [List.range_succ, List.all_append]
  simp only [List.all_cons, List.all_nil, Bool.and_true]
theorem allTo_false {xs : List Int} {k m : Nat} (h : allTo xs k = false) (hk : k ≤ m) : allTo xs m = false := by
  unfold allTo at h ⊢
  rw [← Bool.not_eq_true, List.all_eq_true] at h ⊢
  exact fun hm => h fun i hi => hm i (List.mem_range.2 (Nat.lt_of_lt_of_le (List.mem_range.1 hi) hk))
theorem orderA_all (n : Nat) (xs : List Int) : orderA n xs = (decide (xs.length = n) && allTo xs n) := rfl

set_option maxRecDepth 100000 in
set_option maxHeartbeats 400000 in
theorem orderValid_any (B : Nat) (A : Option Addr) (c n : Nat) (xs : List Int) (w : World) (hw : Si.Ints w B A xs) (hl : xs.length ≤ 1048576) (hn : n ≤ 1000) :
    Calls Tryz.prog 110 #[.slice A xs.length c, .int .i64 n] w fun e w' => e = .returned (.bool (orderA n xs)) ∧ w = w' := by
  by_cases he : xs.length = n
  · have HC := Lib.hid (fun v => containsI_any B A c xs v w hw hl)
    have HD : Hid (orderA n xs = allTo xs n) := by
      show _ = _
      rw [orderA_all, decide_eq_true he, Bool.true_and]
    have h2 : ((xs.length : Int) != (n : Int)) = false := by rw [he]; simp
    clear hw he
    generalize xs.length = len at *
    go_enter Tryz.func110, Tryz.ntmps110
    go_wp2
    go_loop [11] (fun i => ∃ (k : Nat), k ≤ n ∧ i = .int .i64 k ∧ Hid (allTo xs k = true))
      (fun i => n - (intOf i).toNat)
    case atStart => exact ⟨0, Nat.zero_le _, rfl, rfl⟩
    case round =>
      obtain ⟨k, hk, rfl, HN⟩ := hrel
      by_cases hlt : k < n
      · have HT := Lib.hid (allTo_next xs k)
        have HF : Hid (allTo xs (k + 1) = false → orderA n xs = false) := fun h => by rw [HD.out]; exact allTo_false h (by omega)
        have HK := Lib.hid (HC.out (k : Int))
        go_wp2_with fail
        refine Calls.mono HK.out ?_
        cases hh : xs.contains (k : Int) with
        | true =>
          rw [hh] at HT
          rintro e w2 ⟨rfl, rfl⟩
          have HE : Hid (allTo xs (k + 1) = true) := by
            show _ = _
            rw [HT.out, HN.out]; rfl
          clear HT HF HK hh
          go_wp2
          go_round
          case rel => exact ⟨k + 1, by omega, by go_num, HE⟩
          case measure => simp [intOf]; omega
        | false =>
          rw [hh] at HT
          rintro e w2 ⟨rfl, rfl⟩
          go_wp2
          go_ret
          exact ⟨ret_bool (HF.out (by rw [HT.out]; simp)).symm, rfl⟩
      · have HE : Hid (orderA n xs = true) := by
          show _ = _
          have h1 : k = n := by omega
          rw [HD.out, ← h1]; exact HN.out
        go_wp2
        go_ret
        exact ⟨ret_bool HE.out.symm, rfl⟩
  · have h2 : ((xs.length : Int) != (n : Int)) = true := by
      rw [bne_iff_ne]; omega
    have HE : Hid (orderA n xs = false) := by
      show _ = _
      rw [orderA_all, decide_eq_false he, Bool.false_and]
    clear he hw
    go_enter Tryz.func110, Tryz.ntmps110
    go_wp2
    go_ret
    exact ⟨ret_bool HE.out.symm, rfl⟩

set_option maxRecDepth 100000 in
set_option maxHeartbeats 1000000 in
theorem joinInOrder_any (A : Option Addr) (c : Nat) (ts : List ByteArray) (A2 : Option Addr) (c2 : Nat) (xs : List Int) (w : World) (ht : St.Strs w w.heap.size A ts) (hx : Si.Ints w w.heap.size A2 xs)
    (hin : ∀ x ∈ xs, 0 ≤ x ∧ x < (ts.length : Int)) (hsz : ∀ s ∈ ts, s.size ≤ 240) (hl : xs.length ≤ 80) (hts : ts.length ≤ 80) :
    Calls Tryz.prog 111 #[.slice A ts.length c, .slice A2 xs.length c2] w fun e w' => e = .returned (.string (strOf (joinO ts xs))) ∧ Below w.heap.size w w' := by
  have HT := Lib.hid ht
  have HX := Lib.hid hx
  have HI := Lib.hid hin
  have HS := Lib.hid hsz
  clear ht hx hin hsz
  have HI0 : Hid (Lib.IsBuilderF 93 5 w.heap.size w.heap.size (Lib.byteCells []) (w.alloc (.cells #[.pointer none, .slice none 0 0] 93))) := Lib.IsBuilderF.of (Lib.fresh_isBuilder _ _ w)
  have HB0 : Hid (Below w.heap.size w (w.alloc (.cells #[.pointer none, .slice none 0 0] 93))) := (Below.refl _ w).alloc (Nat.le_refl _) _
  go_enter Tryz.func111, Tryz.ntmps111
  go_wp2
  go_loopw [10] (fun i wr => ∃ (k : Nat), k ≤ xs.length ∧ i = .int .i64 k ∧ Hid (Lib.IsBuilderF 93 5 w.heap.size w.heap.size (Lib.byteCells (joinO ts (xs.take k))) wr) ∧ Hid (Below w.heap.size w wr))
    (fun i _ => xs.length - (intOf i).toNat)
  case atStart => exact ⟨0, Nat.zero_le _, rfl, HI0, HB0⟩
  case round =>
    obtain ⟨k, hk, rfl, HIB, HB⟩ := hrel
    clear HI0 HB0
    have hbs := HB.out.size
    by_cases hlt : k < xs.length
    · obtain ⟨b, o, rfl, hB, hcs⟩ := HX.out (by omega)
      have hc := hcs k xs[k] (List.getElem?_eq_getElem hlt)
      rw [← HB.out.cell hB] at hc
      obtain ⟨hx0, hx1⟩ := HI.out xs[k] (List.getElem_mem hlt)
      have HJ : Hid (joinO ts (xs.take (k + 1)) = joinO ts (xs.take k) ++ (ts.getD xs[k].toNat ⟨#[]⟩).data.toList) := by
        show _ = _
        rw [List.take_succ_eq_append_getElem hlt, joinO_snoc]
      have hzl : (joinO ts (xs.take k)).length ≤ 20000 := by
        have h1 := joinO_len HS.out (xs.take k)
        rw [List.length_take] at h1
        have : min k xs.length ≤ 80 := by omega
        omega
      clear hcs
      generalize xs[k] = x at *
      obtain ⟨j, rfl⟩ := Int.eq_ofNat_of_zero_le hx0
      have hj : j < ts.length := by omega
      obtain ⟨b2, o2, rfl, hB2, hcs2⟩ := HT.out (by omega)
      have hc2 := hcs2 j ts[j] (List.getElem?_eq_getElem hj)
      rw [← HB.out.cell hB2] at hc2
      have hys := HS.out ts[j] (List.getElem_mem hj)
      rw [Int.toNat_natCast, getD_in ts j _ hj] at HJ
      clear hcs2
      generalize ts[j] = y at *
      generalize joinO ts (xs.take k) = z at *
      have hst : Lib.strCells y = Lib.byteCells y.data.toList := rfl
      go_wp2_with fail
      refine (writeString_any w.heap.size w.heap.size _ y _ HIB.out (by rw [byteCells_len]; omega) hbs).mono ?_
      rintro e w2 ⟨rfl, hI2, hb2, -⟩
      rw [hst, ← byteCells_app, ← HJ.out] at hI2
      have HI2 := Lib.hid hI2
      have HB2 := Lib.hid (HB.out.trans hb2)
      clear hI2 hb2 HIB HB HJ hst hc hc2
      go_wp2
      go_roundw
      case rel => exact ⟨k + 1, by omega, by go_num, HI2, HB2⟩
      case measure => simp [intOf]; omega
    · have HE : Hid (xs.take k = xs) := List.take_of_length_le (by omega)
      rw [HE.out] at HIB
      go_wp2_with fail
      refine (Tryz.Builder_String_any_k w.heap.size w.heap.size _ _ HIB.out hbs).mono ?_
      rintro e w5 ⟨rfl, -, hb5, -⟩
      have HB5 := Lib.hid (HB.out.trans hb5)
      clear hb5 HIB HB
      go_wp2
      go_ret
      exact ⟨rfl, HB5.out⟩

set_option maxRecDepth 100000 in
set_option maxHeartbeats 1000000 in
theorem implInOrder_any (A : Option Addr) (l : List Seg) (c : Nat) (t : ByteArray) (A2 : Option Addr) (xs : List Int) (c2 : Nat) (w : World) (hw : Segs w w.heap.size A l) (hx : Si.Ints w w.heap.size A2 xs) (hl : l.length ≤ 1048576) (hlc : l.length ≤ c) (hcm : c ≤ 9223372036854775807) (hn : Short l) (ht : t.size ≤ 1048576)
    (hxl : xs.length ≤ 1048576) :
    Calls Tryz.prog 52 #[.slice A l.length c, .string t, .slice A2 xs.length c2] w (InOrdPost w l t xs) := by
  have HQ := Lib.hid (implTopCalls_any A l c t w hw hl hlc hcm hn ht)
  have hb1 := topsRes_le l t
  have HS := Lib.hid (topsRes_bound l t)
  have HR : Hid (∀ o : Bool, o = inOrdOk l t xs → inOrdRes l t xs = if o = true then strOf (joinO (topsRes l t) xs) else ⟨#[]⟩) := fun o e => by rw [e]; rfl
  have HD : Hid (inOrdOk l t xs = ((traceB l t.data.toList).isSome && orderA (topsRes l t).length xs)) := rfl
  have HX := Lib.hid hx
  unfold TopsPost at HQ
  unfold InOrdPost
  generalize (traceB l t.data.toList).isSome = d at *
  generalize topsRes l t = ts at *
  generalize inOrdRes l t xs = rt at *
  generalize inOrdOk l t xs = rd at *
  clear hw hn hx
  go_enter Tryz.func52, Tryz.ntmps52
  go_wp2_with fail
  refine Calls.mono HQ.out ?_
  rintro e w2 ⟨v, rfl, ho, hb⟩
  obtain ⟨A3, cap3, rfl, hs3⟩ := St.textsForm ho
  have HB := Lib.hid hb
  have HT := Lib.hid hs3
  have HX2 : Hid (Si.Ints w2 w2.heap.size A2 xs) := (HX.out.below hb).more hb.size
  clear ho hs3 hb HQ HX
  cases d with
  | false =>
    have h1 : rd = false := by rw [HD.out]; rfl
    have h2 : rt = ⟨#[]⟩ := by rw [HR.out _ h1.symm]; rfl
    subst h1 h2
    clear HR HD HX2
    go_wp2
    go_ret2
    exact ⟨rfl, HB.out⟩
  | true =>
    have HO := Lib.hid (orderValid_any w2.heap.size A2 c2 ts.length xs w2 HX2.out hxl (by omega))
    rw [Bool.true_and] at HD
    cases ha : orderA ts.length xs with
    | false =>
      have h1 : rd = false := by rw [HD.out, ha]
      have h2 : rt = ⟨#[]⟩ := by rw [HR.out _ h1.symm]; rfl
      subst h1 h2
      rw [ha] at HO
      clear HR HD HX2 ha
      go_wp2_with fail
      refine Calls.mono HO.out ?_
      rintro e w3 ⟨rfl, rfl⟩
      go_wp2
      go_ret2
      exact ⟨rfl, HB.out⟩
    | true =>
      have h1 : rd = true := by rw [HD.out, ha]
      have h2 : rt = strOf (joinO ts xs) := by rw [HR.out _ h1.symm]; rfl
      obtain ⟨hln, hin⟩ := order_in ha
      have HJ := Lib.hid (joinInOrder_any A3 cap3 ts A2 c2 xs w2 HT.out HX2.out hin HS.out (by omega) hb1)
      subst h1 h2
      rw [ha] at HO
      clear HR HD HX2 ha hln hin
      go_wp2_with fail
      refine Calls.mono HO.out ?_
      rintro e w3 ⟨rfl, rfl⟩
      go_wp2_with fail
      refine Calls.mono HJ.out ?_
      rintro e w3 ⟨rfl, hb3⟩
      have HB3 := Lib.hid (HB.out.trans (hb3.mono HB.out.size))
      clear hb3
      go_wp2
      go_ret2
      exact ⟨rfl, HB3.out⟩

end Go.Proofs.YtifkmehnikfihaaGreat
