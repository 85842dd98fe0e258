/- Joined: Wb Ks La Lb Vs. -/
import Derived.Test.YtcpiojliakgdlaaGreatDoorU21
import Derived.Test.YtcpiojliakgdlaaGreatDoorU04
import Derived.Test.YtcpiojliakgdlaaGreatDoorU17
import Derived.Deep.RegionWith
import Derived.Test.YtcpiojliakgdlaaGreatDoorU07
import Derived.Test.YtcpiojliakgdlaaGreatDoorU12
import Derived.IntWalk
import Derived.Test.YtcpiojliakgdlaaGreatDoorU14
import Derived.Test.YtcpiojliakgdlaaGreatDoorU16
/- Draws of traces: a trace of a valid tree, a tree with a text. -/
namespace Go.Proofs.YtcpiojliakgdlaaGreatDoor
open Go.RowKit

set_option maxRecDepth 100000 in
set_option maxHeartbeats 2000000 in
theorem l4Good_any (b c P : Nat) (A : Option Addr) (l : List Seg) (w : World) (h1 : 1 ≤ l.length) (h9 : l.length ≤ 9) (hnm : ∀ s ∈ l, s.name.size ≤ 1) (hA : ∀ g o, A = some ⟨g, o, none⟩ → b < g) (hP : P ≤ 1000) (hr : Rd w b P) (hw : Segs w w.heap.size A l) :
    Calls Tryz.prog 55 #[.pointer (some ⟨b, 0, none⟩), .slice A l.length c] w (TextDrawn b P 870 80 w) := by
  have HD := Lib.hid (l4Draw_any b c A l h1 h9 hnm hA)
  have HW : Hid (Segs w w.heap.size A l) := hw
  have HNM := Lib.hid hnm
  have HAA := Lib.hid hA
  have HR := Lib.hid hr
  clear hr hw hnm hA
  go_enter Tryz.func55, Tryz.ntmps55
  go_wp2_with fail
  refine (draw_any b P 12 _ HR.out (by omega) (by omega) (by omega)).mono ?_
  rintro e w2 ⟨v, rfl, ⟨hv0, hv1⟩, ho2, hr2⟩
  have HO2 := Lib.hid ho2
  have HR2 := Lib.hid hr2
  clear ho2 hr2 hv1 HR
  by_cases hv : v = 0
  · subst hv
    go_wp2
    go_ret
    exact ⟨_, rfl, Nat.zero_le _, HO2.out, HR2.out.weak (by omega)⟩
  · go_wp2_with fail
    refine (draw_any b (P + 1) 4 _ HR2.out (by omega) (by omega) (by omega)).mono ?_
    rintro e w3 ⟨u, rfl, ⟨hu0, hu1⟩, ho3, hr3⟩
    obtain ⟨d, rfl⟩ := Int.eq_ofNat_of_zero_le hu0
    have hd3 : d ≤ 3 := by have := hu1 (by omega); omega
    have HO3 := Lib.hid (HO2.out.trans ho3)
    have HR3 := Lib.hid hr3
    have HW3 := Lib.hid (HW.out.farO HO3.out HAA.out)
    clear ho3 hr3 hu0 hu1 HO2 HR2
    have hK : 6 ^ d ≤ 216 := by
      have : d = 0 ∨ d = 1 ∨ d = 2 ∨ d = 3 := by omega
      rcases this with rfl | rfl | rfl | rfl <;> decide
    have HD2 := Lib.hid (HD.out d hd3 (P + 1 + 1) w3 (by omega) HR3.out HW3.out)
    clear HD HW3
    generalize 6 ^ d = K at *
    go_wp2_with fail
    refine HD2.out.mono ?_
    rintro e w4 ⟨x, rfl, hx, ho4, hr4⟩
    have HO4 := Lib.hid (HO3.out.trans ho4)
    have HR4 := Lib.hid (hr4.weak (Q := P + 870) (by omega))
    have hx6 : x.size ≤ 648 := by omega
    clear ho4 hr4 HR3 HD2 hx HO3
    by_cases h80 : x.size ≤ 80
    · have h80' : (x.size : Int) ≤ 80 := by omega
      go_wp2
      go_ret
      exact ⟨_, rfl, h80, HO4.out, HR4.out⟩
    · have h80' : 80 < (x.size : Int) := by omega
      have hsg : Segs w4 w4.heap.size A l := HW.out.farO HO4.out HAA.out
      obtain ⟨g, o, rfl, hgB, hc⟩ := hsg (by omega)
      obtain ⟨e1, e2, e3⟩ := hc 0 _ (List.getElem?_eq_getElem (by omega))
      have hns := HNM.out _ (List.getElem_mem (show 0 < l.length by omega))
      have h1' : (0 : Int) < (l.length : Int) := by omega
      rw [Nat.zero_mul, Nat.add_zero] at e1
      clear hc hsg
      generalize l[0] = sg at *
      go_wp2
      go_ret
      exact ⟨_, rfl, by omega, HO4.out, HR4.out⟩

/-- The texts that a trace is spoilt with. -/
def oddTexts : List ByteArray := [⟨#[]⟩, ⟨#[40]⟩, ⟨#[41]⟩, ⟨#[88]⟩, ⟨#[65]⟩, ⟨#[40, 41]⟩]
theorem oddTexts_size : ∀ x ∈ oddTexts, x.size ≤ 2 := by decide
/-- Nothing but the reader differs from `w`. -/
def Sat (w : World) (b q : Nat) (W : World) : Prop := Only w W (· = b) ∧ Rd W b q
theorem Sat.alloc {w W : World} {b q : Nat} (h : Hid (Sat w b q W)) (o : Obj) : Hid (Sat w b q (W.alloc o)) := Lib.hid ⟨h.out.1.andBelow ((Below.refl _ W).alloc (Nat.le_refl _) _), h.out.2.alloc o⟩
theorem ofS_any (w : World) (b q g : Nat) (W : World) (hs : Hid (Sat w b q W)) (hq : q ≤ 100000) (hx : Hid (Texts W b g 0 6 (· ∈ oddTexts))) :
    Calls Tryz.prog 54 #[.pointer (some ⟨b, 0, none⟩), .slice (some ⟨g, 0, none⟩) 6 6] W fun e w' => ∃ v : ByteArray, e = .returned (.string v) ∧ v.size ≤ 2 ∧ Only W w' (· = b) ∧ Hid (Sat w b (q + 1) w') := by
  refine (of_any b q g 0 6 6 _ W hs.out.2 (by omega) (by omega) (by omega) hx.out).mono ?_
  rintro e w' ⟨v, rfl, hv, ho, hr⟩
  exact ⟨v, rfl, oddTexts_size v hv, ho, Lib.hid ⟨hs.out.1.trans ho, hr⟩⟩
theorem pickS_any (w : World) (b q : Nat) (W : World) (hs : Hid (Sat w b q W)) (hq : q ≤ 100000) :
    Calls Tryz.prog 25 #[.pointer (some ⟨b, 0, none⟩), .int .i64 2] W fun e w' => ∃ v : Nat, e = .returned (.int .i64 v) ∧ v ≤ 1 ∧ Only W w' (· = b) ∧ Hid (Sat w b (q + 1) w') := by
  refine (draw_any b q 2 W hs.out.2 (by omega) (by omega) (by omega)).mono ?_
  rintro e w' ⟨v, rfl, ⟨h0, h1⟩, ho, hr⟩
  obtain ⟨k, rfl⟩ := Int.eq_ofNat_of_zero_le h0
  exact ⟨k, rfl, by have := h1 (by omega); omega, ho, Lib.hid ⟨hs.out.1.trans ho, hr⟩⟩
/-- What l4Some leaves: a slice of few segments, and a text. -/
def WithText (b P : Nat) (w : World) (e : Ending) (w' : World) : Prop :=
  ∃ A l c x, e = .returned (.tuple #[.slice A (List.length l) c, .string x]) ∧ (Segs w' w'.heap.size A l ∧ ∀ g o, A = some ⟨g, o, none⟩ → b < g) ∧ (l.length ≤ 9 ∧ l.length ≤ c ∧ c ≤ 9223372036854775807) ∧ (∀ s ∈ l, s.name.size ≤ 8) ∧ x.size ≤ 82 ∧ Only w w' (· = b) ∧ Rd w' b (P + 1000)

set_option maxRecDepth 100000 in
set_option maxHeartbeats 4000000 in
theorem l4Some_plain (hgood : GoodSaid) (b P : Nat) (w : World) (hr : Rd w b P) (hP : P ≤ 100) :
    Calls Tryz.prog 30 #[.pointer (some ⟨b, 0, none⟩)] w (WithText b P w) := by
  have HS := Lib.hid (l1Some_plain b P w hr (by omega) (fun w h => hgood b P w (by omega) h))
  have HBW := Lib.hid hr.lt
  clear hgood hr
  go_enter Tryz.func30, Tryz.ntmps30
  go_wp2_with fail
  refine Calls.mono HS.out ?_
  rintro e w1 ⟨A, l, c, rfl, hs, hl, hn, ho, hr1⟩
  have HV := Lib.hid (specTreeValid_any A l c w1 hs.1 (by omega) (fun s h => by have := hn s h; unfold maxLen; omega))
  have H1 := Lib.hid hs.1
  have HAA := Lib.hid hs.2
  have H2 := Lib.hid hl
  have H3 := Lib.hid hn
  have H4 := Lib.hid ho
  have H5 := Lib.hid hr1
  clear hs hl hn ho hr1 HS
  go_wp2_with fail
  refine HV.out.mono ?_
  rintro e w2 ⟨rfl, hb2⟩
  have H12 := Lib.hid ((H1.out.below hb2).more hb2.size)
  have HO2 := Lib.hid (H4.out.andBelow hb2)
  have HR2 := Lib.hid (H5.out.below hb2)
  clear hb2 HV H4 H5
  cases hv : validB l with
  | false =>
    have HR3 := Lib.hid (HR2.out.alloc (.cells #[Value.string ⟨#[]⟩, .string ⟨#[65]⟩, .string ⟨#[66]⟩] 9))
    have HX3 := Lib.hid (texts_new w2 b 9 [⟨#[]⟩, ⟨#[65]⟩, ⟨#[66]⟩] HR2.out.lt)
    go_wp2_with fail
    refine (of_any b (P + 50) w2.heap.size 0 3 3 _ _ HR3.out (by omega) (by omega) (by omega) HX3.out).mono ?_
    rintro e w3 ⟨x, rfl, hx, ho3, hr3⟩
    have HX : Hid (x.size ≤ 82) := by
      have : ∀ x ∈ ([⟨#[]⟩, ⟨#[65]⟩, ⟨#[66]⟩] : List ByteArray), x.size ≤ 82 := by decide
      exact this x hx
    have HO3 := Lib.hid (HO2.out.trans ho3.fresh)
    have HR4 := Lib.hid hr3
    have HS3 := Lib.hid (H12.out.farO ho3.fresh HAA.out)
    clear ho3 hr3 hx HX3 HR3
    go_wp2
    refine bodyPost_ret (v := .tuple #[.slice A l.length c, .string x]) (by simp [results, Tryz.results30, go_sem]) rfl ?_
    exact ⟨A, l, c, x, rfl, ⟨HS3.out, HAA.out⟩, H2.out, H3.out, HX.out, HO3.out, HR4.out.weak (by omega)⟩
  | true =>
    have hlen : 1 ≤ l.length := by
      cases l with
      | nil => cases hv
      | cons a r => simp
    have HG := Lib.hid (l4Good_any b c (P + 50) A l w2 hlen H2.out.1 (fun s hs => by obtain ⟨c, h, -⟩ := nameOk_one (validB_names hv hs); rw [h]; exact Nat.le_refl _) HAA.out (by omega) HR2.out H12.out)
    clear hlen hv HR2
    go_wp2_with fail
    refine HG.out.mono ?_
    rintro e w3 ⟨x, rfl, hx, ho3, hr3⟩
    have HO3 := Lib.hid (HO2.out.trans ho3)
    have HR3 := Lib.hid hr3
    have HS3 := Lib.hid (H12.out.farO ho3 HAA.out)
    clear ho3 hr3 HO2 H12 HG
    go_wp2_with fail
    refine (draw_any b (P + 50 + 870) 12 _ HR3.out (by omega) (by omega) (by omega)).mono ?_
    rintro e w4 ⟨v, rfl, ⟨hv0, hv1⟩, ho4, hr4⟩
    have HO4 := Lib.hid (HO3.out.trans ho4)
    have HR4 := Lib.hid hr4
    have HS4 := Lib.hid (HS3.out.farO ho4 HAA.out)
    clear ho4 hr4 HO3 HR3 HS3 hv1
    by_cases hv : v = 0
    · subst hv
      cases he : x.toList.isEmpty with
      | true =>
        go_wp2
        refine bodyPost_ret (v := .tuple #[.slice A l.length c, .string x]) (by simp [results, Tryz.results30, go_sem]) rfl ?_
        exact ⟨A, l, c, x, rfl, ⟨HS4.out, HAA.out⟩, H2.out, H3.out, by omega, HO4.out, HR4.out.weak (by omega)⟩
      | false =>
        have hx0 : x.size ≠ 0 := fun h => by
          rw [show x = ⟨#[]⟩ from ByteArray.ext (Array.eq_empty_of_size_eq_zero h)] at he
          revert he
          unfold ByteArray.toList ByteArray.toList.loop
          decide
        go_wp2_with fail
        refine (draw_any b (P + 50 + 870 + 1) x.size _ HR4.out (by omega) (by omega) (by omega)).mono ?_
        rintro e w5 ⟨k, rfl, ⟨hk0, hk1⟩, ho5, hr5⟩
        obtain ⟨k, rfl⟩ := Int.eq_ofNat_of_zero_le hk0
        have hk : k < x.size := by have := hk1 (by omega); omega
        have HO5 := Lib.hid (HO4.out.trans ho5)
        have HB5 := Lib.hid (Only.refl w5 (· = b)).drew'
        have HS5 := Lib.hid (HS4.out.farO ho5 HAA.out)
        have HR5 := Lib.hid hr5
        have HSAT : Hid (Sat w b (P + 50 + 870 + 1 + 1) w5.drew) := Lib.hid ⟨HO5.out.drew', HR5.out.below ((Below.refl _ w5).drew)⟩
        clear ho5 hr5 HO4 HR4 HS4 hk0 hk1
        have HT0 := Lib.hid (texts_new w5.drew b 9 oddTexts HSAT.out.2.lt)
        have hk0 : (0 : Int) ≤ (k : Int) := Int.natCast_nonneg _
        have hkx : (k : Int) ≤ (x.size : Int) := by omega
        have HQ := Lib.hid hP
        clear HB5 HO5 HR5 he hv0 hx0
        go_wp2_with fail
        go_region_with (first
          | (go_at_call 54; refine (ofS_any w b (P + 50 + 870 + 1 + 1) w5.heap.size _ (Sat.alloc HSAT _) (by have := HQ.out; omega) HT0).mono ?_; rintro e w6 ⟨y, rfl, HY, ho6, HSAT6⟩)
          | (go_at_call 25; refine (pickS_any w b (P + 50 + 870 + 1 + 1 + 1) w6 HSAT6 (by have := HQ.out; omega)).mono ?_; rintro e w7 ⟨j, rfl, hj, ho7, HSAT7⟩; obtain ⟨s, HSJ⟩ : ∃ s : Nat, Hid (s = k + j) := ⟨_, rfl⟩; have hws : IntKind.i64.wrap ((k : Int) + (j : Int)) = (s : Int) := (IntWalk.i64_in _ (by omega)).trans (by rw [HSJ.out]; rfl); have hsx : (s : Int) ≤ (x.size : Int) := by (rw [HSJ.out]; omega)))
        all_goals
          have HSF := Lib.hid (HS5.out.farO ((Only.refl w5 (· = b)).drew'.trans (ho6.fresh.trans ho7)) HAA.out)
          have HSZ : Hid ((x.extract 0 k ++ y ++ x.extract s x.size).size ≤ 82) := by
            show _ ≤ _
            rw [ByteArray.size_append, ByteArray.size_append, ByteArray.size_extract, ByteArray.size_extract]
            have := HSJ.out
            omega
          clear ho6 ho7 HS5 HSAT6 HSAT HT0
          go_wp2
          refine bodyPost_ret (v := .tuple #[.slice A l.length c, .string (x.extract 0 k ++ y ++ x.extract s x.size)]) (by simp [results, Tryz.results30, go_sem]) rfl ?_
          exact ⟨A, l, c, _, rfl, ⟨HSF.out, HAA.out⟩, H2.out, H3.out, HSZ.out, HSAT7.out.1, HSAT7.out.2.weak (by omega)⟩
    · go_wp2
      refine bodyPost_ret (v := .tuple #[.slice A l.length c, .string x]) (by simp [results, Tryz.results30, go_sem]) rfl ?_
      exact ⟨A, l, c, x, rfl, ⟨HS4.out, HAA.out⟩, H2.out, H3.out, by omega, HO4.out, HR4.out.weak (by omega)⟩

end Go.Proofs.YtcpiojliakgdlaaGreatDoor
/- The draws of the law FnRoomLeft. All over l1Good's contract. -/
namespace Go.Proofs.YtcpiojliakgdlaaGreatDoor
open Go.RowKit

set_option maxRecDepth 100000 in
set_option maxHeartbeats 1000000 in
theorem drawRoomLeft9 (hgood : GoodSaid) (A0 : Option Addr) (n c0 : Nat) (w : World) (hn : n ≤ c0) (hx : ∀ b, w.heap.size ≤ b → Bytes w b A0 n) :
    Calls Tryz.prog 4 #[.slice A0 n c0] w fun e w' => ∃ A l c x, e = .returned (.tuple #[.slice A (List.length l) c, .string x]) ∧ TreeHas w' A l c ∧ x.size ≤ 2 ∧ Below w.heap.size w w' := by
  have HO := Lib.hid (l13Open_any A0 n c0 w hn hx)
  have HP := Lib.hid (fun b w h => l1Place_plain hgood b 0 w h (Nat.zero_le _))
  clear hx hgood
  go_enter Tryz.func4, Tryz.ntmps4
  go_wp2_with fail
  refine Calls.mono HO.out ?_
  rintro e w1 ⟨b, rfl, hbb, hr, hb1⟩
  have HB1 := Lib.hid hb1
  have HPP := Lib.hid (HP.out b w1 hr)
  clear hr hb1 HP HO
  go_wp2_with fail
  refine Calls.mono HPP.out ?_
  rintro e w2 ⟨A, l, c, x, rfl, ⟨hs, hs'⟩, hl, hsh, hxx, ho, hr2⟩
  have HT : Hid (TreeHas w2 A l c) := ⟨hs, hl, hsh⟩
  have HB2 := Lib.hid (only_below HB1.out hbb ho)
  have HX := Lib.hid hxx
  clear hs hs' hl hsh hxx ho hr2 HPP
  go_wp2
  refine bodyPost_ret (v := .tuple #[.slice A l.length c, .string x]) (by simp [results, Tryz.results4, go_sem]) rfl ?_
  exact ⟨A, l, c, x, rfl, HT.out, HX.out, HB2.out⟩

set_option maxRecDepth 100000 in
set_option maxHeartbeats 1000000 in
theorem drawResize9 (hgood : GoodSaid) (A0 : Option Addr) (n c0 : Nat) (w : World) (hn : n ≤ c0) (hx : ∀ b, w.heap.size ≤ b → Bytes w b A0 n) :
    Calls Tryz.prog 6 #[.slice A0 n c0] w fun e w' => ∃ A l c x, ∃ z : Int, e = .returned (.tuple #[.slice A (List.length l) c, .string x, .int .i64 z]) ∧ TreeHas w' A l c ∧ x.size ≤ 2 ∧ (-1 ≤ z ∧ z ≤ 100) ∧ Below w.heap.size w w' := by
  have HO := Lib.hid (l13Open_any A0 n c0 w hn hx)
  have HP := Lib.hid (fun b w h => l1Place_plain hgood b 0 w h (Nat.zero_le _))
  clear hx hgood
  go_enter Tryz.func6, Tryz.ntmps6
  go_wp2_with fail
  refine Calls.mono HO.out ?_
  rintro e w1 ⟨b, rfl, hbb, hr, hb1⟩
  have HB1 := Lib.hid hb1
  have HPP := Lib.hid (HP.out b w1 hr)
  clear hr hb1 HP HO
  go_wp2_with fail
  refine Calls.mono HPP.out ?_
  rintro e w2 ⟨A, l, c, x, rfl, hs, hl, hsh, hxx, ho, hr2⟩
  have HS := Lib.hid hs
  have HL := Lib.hid hl
  have HH := Lib.hid hsh
  have HX := Lib.hid hxx
  have HB2 := Lib.hid (only_below HB1.out hbb ho)
  have HR2 := Lib.hid hr2
  clear hs hl hsh hxx ho hr2 HPP HB1
  go_wp2_with fail
  refine (draw_any b (0 + 51) 99 w2 HR2.out (by omega) (by omega) (by omega)).mono ?_
  rintro e w3 ⟨v, rfl, ⟨hv1, hv2⟩, ho3, hr3⟩
  have hv3 : v < 99 := hv2 (by omega)
  have hwv : IntKind.i64.wrap (1 + v) = 1 + v := IntWalk.i64_in _ (by omega)
  have HS3 : Hid (Segs w3 w3.heap.size A l) := HS.out.1.farO ho3 HS.out.2
  have HB3 := Lib.hid (only_below HB2.out hbb ho3)
  have HR3 := Lib.hid (fun o => hr3.alloc o)
  have HX3 := Lib.hid (fun vs => nums_new w3 b 3 vs hr3.lt)
  clear ho3 hr3 HR2 HB2 hv2
  go_wp2_with fail
  have hx3 := HX3.out [1, 5, 99, 1 + v, 0, 100, -1]
  refine (num_any b (0 + 51 + 1) w3.heap.size 0 7 7 _ _ (HR3.out _) (by omega) (by omega) (by omega) hx3).mono ?_
  rintro e w4 ⟨z, rfl, hzm, ho4, _⟩
  have hzb : Hid (-1 ≤ z ∧ z ≤ 100) := by
    show -1 ≤ z ∧ z ≤ 100
    simp only [List.mem_cons, List.mem_nil_iff, or_false] at hzm
    omega
  have HT : Hid (TreeHas w4 A l c) := ⟨HS3.out.farO ho4.fresh HS.out.2, HL.out, HH.out⟩
  have HB4 := Lib.hid (only_below HB3.out hbb ho4.fresh)
  clear hzm ho4 hx3 HX3 HR3 HS3 HB3
  go_wp2
  refine bodyPost_ret (v := .tuple #[.slice A l.length c, .string x, .int .i64 z]) (by simp [results, Tryz.results6, go_sem]) rfl ?_
  exact ⟨A, l, c, x, z, rfl, HT.out, HX.out, hzb.out, HB4.out⟩

set_option maxRecDepth 100000 in
set_option maxHeartbeats 1000000 in
theorem drawNamesIn9 (hgood : GoodSaid) (A0 : Option Addr) (n c0 : Nat) (w : World) (hn : n ≤ c0) (hx : ∀ b, w.heap.size ≤ b → Bytes w b A0 n) :
    Calls Tryz.prog 9 #[.slice A0 n c0] w fun e w' => ∃ A l c t x y, e = .returned (.tuple #[.slice A (List.length l) c, .string t, .string x, .string y]) ∧ TreeHas w' A l c ∧ t.size ≤ 82 ∧ x.size ≤ 2 ∧ y.size ≤ 2 ∧ Below w.heap.size w w' := by
  have HO := Lib.hid (l13Open_any A0 n c0 w hn hx)
  have HP := Lib.hid (fun b w h => l4Some_plain hgood b 0 w h (Nat.zero_le _))
  clear hx hgood
  go_enter Tryz.func9, Tryz.ntmps9
  go_wp2_with fail
  refine Calls.mono HO.out ?_
  rintro e w1 ⟨b, rfl, hbb, hr, hb1⟩
  have HB1 := Lib.hid hb1
  have HPP := Lib.hid (HP.out b w1 hr)
  clear hr hb1 HP HO
  go_wp2_with fail
  refine Calls.mono HPP.out ?_
  rintro e w2 ⟨A, l, c, x, rfl, hs, hl, hsh, hxx, ho, hr2⟩
  have HS := Lib.hid hs
  have HL := Lib.hid hl
  have HH := Lib.hid hsh
  have HX := Lib.hid hxx
  have HB2 := Lib.hid (only_below HB1.out hbb ho)
  have HR2 := Lib.hid hr2
  clear hs hl hsh hxx ho hr2 HPP HB1
  go_wp2_with fail
  refine (l1Any_any b (0 + 1000) w2 HR2.out (by omega)).mono ?_
  rintro e w3 ⟨s, rfl, hs3, ho3, hr3⟩
  have HS3 : Hid (Segs w3 w3.heap.size A l) := HS.out.1.farO ho3 HS.out.2
  have HB3 := Lib.hid (only_below HB2.out hbb ho3)
  have HR3 := Lib.hid hr3
  have HZ3 := Lib.hid hs3
  clear ho3 hr3 HR2 HB2 hs3
  go_wp2_with fail
  refine (l1Any_any b (0 + 1000 + 1) w3 HR3.out (by omega)).mono ?_
  rintro e w4 ⟨y, rfl, hs4, ho4, hr4⟩
  have HT : Hid (TreeHas w4 A l c) := ⟨HS3.out.farO ho4 HS.out.2, HL.out, HH.out⟩
  have HB4 := Lib.hid (only_below HB3.out hbb ho4)
  have HZ4 := Lib.hid hs4
  clear ho4 hr4 HR3 HB3 HS3 hs4
  go_wp2
  refine bodyPost_ret (v := .tuple #[.slice A l.length c, .string x, .string s, .string y]) (by simp [results, Tryz.results9, go_sem]) rfl ?_
  exact ⟨A, l, c, x, s, y, rfl, HT.out, HX.out, HZ3.out, HZ4.out, HB4.out⟩

end Go.Proofs.YtcpiojliakgdlaaGreatDoor
/- The model's side of rooms: where segments begin and end. -/
namespace Go.Proofs.YtcpiojliakgdlaaGreatDoor
open Go.RowKit

theorem szsNot_take {l : List Seg} {i : Nat} {js : List Nat} {k : Nat} (hk : k < js.length) : szsNot l i (js.take (k + 1)) = szsNot l i (js.take k) + if js[k] = i then 0 else sizeAt l js[k] := by
  rw [List.take_succ_eq_append_getElem hk, szsNot_append]
  simp [szsNot]

theorem run_add_op {P : Program} {ρ : Operand → Value} {o : Oper} {x y : Operand} {t u : TypeId} {A B C : Int} (ho : o.op = .binOp .add t x y u) (hx : ρ x = .int .i64 A) (hy : ρ y = .int .i64 B) (hC : IntKind.i64.wrap (A + B) = C) (w : World) :
    (execOp ρ o).run P w = .ok (.value (.int .i64 C)) w := by
  unfold execOp
  rw [ho]
  subst hC
  simp [hx, hy, go_sem]

set_option maxRecDepth 100000 in
set_option maxHeartbeats 400000 in
theorem l2Address_any (A : Option Addr) (l : List Seg) (c i : Nat) (w : World) (hw : Segs w w.heap.size A l) (hv : validB l = true) (hi : i < l.length) :
    Calls Tryz.prog 61 #[.slice A l.length c, .int .i64 i] w fun e w' => e = .returned (.int .i64 (begAt l i)) ∧ Below w.heap.size w w' := by
  have HW : Hid (Segs w w.heap.size A l) := hw
  have HV := Lib.hid hv
  have HD : Hid (Down l l.length) := (valid_all hv).1.down
  have hl8 := (valid_all hv).2.1
  have HP : Hid (pathOf l i = (rp l i).map fun j : Nat => (j : Int)) := rootPath_chain HD.out (i + 1) i hi (by omega)
  have HJ : Hid (∀ j ∈ rp l i, j < l.length) := rootPath_lt HD.out (i + 1) i hi
  have hz : (rp l i).length ≤ i + 1 := rootPath_len l (i + 1) i
  have HE : Hid (szsNot l i (rp l i) = begAt l i) := szsNot_rp HD.out hi
  clear hw hv
  go_enter Tryz.func61, Tryz.ntmps61
  go_wp2_with fail
  refine (l1Path_any _ _ _ _ _ HW.out (by omega) hi (HD.out.mono (by omega))).mono ?_
  rw [HP.out]
  rintro e w1 ⟨g, cap, rfl, hown, hb1⟩
  rw [List.length_map] at hown ⊢
  have HO := Lib.hid hown
  clear hown HP
  generalize rp l i = js at *
  go_wp2
  go_loop [5, 12] (fun s i' => ∃ (k : Nat), k ≤ js.length ∧ i' = .int .i64 k ∧ s = .int .i64 (szsNot l i (js.take k)))
    (fun _ i' => js.length - (intOf i').toNat)
  case atStart => exact ⟨0, Nat.zero_le _, rfl, rfl⟩
  case round =>
    obtain ⟨k, hk, rfl, rfl⟩ := hrel
    by_cases hlt : k < js.length
    · have hj := HJ.out js[k] (List.getElem_mem hlt)
      have hc : w1.cell? ⟨g, k, none⟩ = some (.int .i64 (js[k] : Int)) := by
        rw [HO.out.cellAt k (by omega)]
        simp [hlt]
      obtain ⟨b, o, rfl, hB, hc'⟩ := HW.out (by omega)
      obtain ⟨c0, c1, c2⟩ := hc' js[k] l[js[k]] (List.getElem?_eq_getElem hj)
      clear hc' c0 c2
      rw [← hb1.cell hB, ← sizeAt_of hj] at c1
      have HQ : Hid _ := szsNot_take (l := l) (i := i) hlt
      have hb0 := szsNot_bd HV.out i (js.take k) (fun j hj => HJ.out j (List.mem_of_mem_take hj))
      have hb0' : 0 ≤ szsNot l i (js.take k) ∧ szsNot l i (js.take k) ≤ 792 := by rw [List.length_take] at hb0; omega
      obtain ⟨n1, n2⟩ := hb0'
      obtain ⟨z1, z2⟩ := sizeAt_bd HV.out hj
      have hj0 : (0 : Int) ≤ (js[k] : Int) := Int.natCast_nonneg _
      have hj1 : (js[k] : Int) < (l.length : Int) := by omega
      clear hb0
      generalize js[k] = j at *
      generalize szsNot l i (js.take k) = n at *
      generalize sizeAt l j = sz at *
      by_cases he : j = i
      · have ht : ((j : Int) != (i : Int)) = false := by rw [he]; simp
        have HR : Hid (szsNot l i (js.take (k + 1)) = n) := by
          show _ = _
          rw [HQ.out, if_pos he, Int.add_zero]
        clear he HQ
        go_wp2
        go_round
        case rel => exact ⟨k + 1, by omega, by go_num, by rw [HR.out]⟩
        case measure => simp [intOf]; omega
      · have ht : ((j : Int) != (i : Int)) = true := by rw [bne_iff_ne]; omega
        have HR : Hid (szsNot l i (js.take (k + 1)) = n + sz) := by
          show _ = _
          rw [HQ.out, if_neg he]
        clear he HQ
        go_wp2
        go_round
        case rel => exact ⟨k + 1, by omega, by go_num, by rw [HR.out]⟩
        case measure => simp [intOf]; omega
    · obtain rfl : k = js.length := by omega
      go_wp2
      go_ret
      exact ⟨ret_int HE.out, hb1⟩

set_option maxRecDepth 100000 in
set_option maxHeartbeats 400000 in
theorem l2End_any (A : Option Addr) (l : List Seg) (c i : Nat) (w : World) (hw : Segs w w.heap.size A l) (hv : validB l = true) (hi : i < l.length) :
    Calls Tryz.prog 37 #[.slice A l.length c, .int .i64 i] w fun e w' => e = .returned (.int .i64 (endAt l i)) ∧ Below w.heap.size w w' := by
  have HW : Hid (Segs w w.heap.size A l) := hw
  have HV := Lib.hid hv
  have HE : Hid (begAt l i + sizeAt l i = endAt l i) := (endAt_beg l i).symm
  have hl8 := (valid_all hv).2.1
  obtain ⟨n1, n2, n3⟩ := place_small hv hi
  obtain ⟨z1, z2⟩ := sizeAt_bd hv hi
  obtain ⟨b, o, rfl, hB, hc⟩ := hw (by omega)
  obtain ⟨c0, c1, c2⟩ := hc i l[i] (List.getElem?_eq_getElem hi)
  rw [← sizeAt_of hi] at c1
  clear hc c0 c2 hv hw
  have hn : begAt l i ≤ 792 := by omega
  clear n2 n3
  go_enter Tryz.func37, Tryz.ntmps37
  go_wp2_with fail
  have hi0 : (0 : Int) ≤ (i : Int) := Int.natCast_nonneg _
  have hi1 : (i : Int) < (l.length : Int) := by omega
  refine wp_region_held_drew (S := (fun w' => w'.cell? ⟨b, o + i * 3 + 1, none⟩ = some (.int .i64 (sizeAt l i)) ∧ Below w.heap.size w w')) (by kernel_rfl) ?_ (fun hHeld => ?_)
  · exact ⟨c1, (Below.refl _ _).drew⟩
  refine take_at (i := 0) (d := 5) (v := .slice (some ⟨b, o, none⟩) l.length c) rfl rfl (by kernel_rfl) (by kernel_rfl) (by kernel_rfl) (fun _ _ _ h => h) (by kernel_rfl) (by (intro w hSw; (try dsimp only at hSw); go_simp)) (by assumption) ?_
  simp only [List.setIfInBounds_toArray, List.set_cons_succ, List.set_cons_zero]
  refine take_at (i := 1) (d := 6) (v := .int .i64 i) rfl rfl (by kernel_rfl) (by kernel_rfl) (by kernel_rfl) (fun _ _ _ h => h) (by kernel_rfl) (by (intro w hSw; (try dsimp only at hSw); go_simp)) (by assumption) ?_
  simp only [List.setIfInBounds_toArray, List.set_cons_succ, List.set_cons_zero]
  refine take_at (i := 3) (d := 8) (v := .slice (some ⟨b, o, none⟩) l.length c) rfl rfl (by kernel_rfl) (by kernel_rfl) (by kernel_rfl) (fun _ _ _ h => h) (by kernel_rfl) (by (intro w hSw; (try dsimp only at hSw); go_simp)) (by assumption) ?_
  simp only [List.setIfInBounds_toArray, List.set_cons_succ, List.set_cons_zero]
  refine take_at (i := 4) (d := 9) (v := .int .i64 i) rfl rfl (by kernel_rfl) (by kernel_rfl) (by kernel_rfl) (fun _ _ _ h => h) (by kernel_rfl) (by (intro w hSw; (try dsimp only at hSw); go_simp)) (by assumption) ?_
  simp only [List.setIfInBounds_toArray, List.set_cons_succ, List.set_cons_zero]
  refine take_at (i := 5) (d := 10) (v := .pointer (some ⟨b, o + i * 3, none⟩)) rfl rfl (by kernel_rfl) (by kernel_rfl) (by kernel_rfl) (fun _ _ _ h => h) (by kernel_rfl) (by (intro w hSw; (try dsimp only at hSw); go_simp)) (by assumption) ?_
  simp only [List.setIfInBounds_toArray, List.set_cons_succ, List.set_cons_zero]
  refine take_at (i := 6) (d := 11) (v := .pointer (some ⟨b, o + i * 3 + 1, none⟩)) rfl rfl (by kernel_rfl) (by kernel_rfl) (by kernel_rfl) (fun _ _ _ h => h) (by kernel_rfl) (by (intro w hSw; (try dsimp only at hSw); go_simp)) (by assumption) ?_
  simp only [List.setIfInBounds_toArray, List.set_cons_succ, List.set_cons_zero]
  refine take_at (i := 7) (d := 12) (v := .int .i64 (sizeAt l i)) rfl rfl (by kernel_rfl) (by kernel_rfl) (by kernel_rfl) (fun _ _ _ h => h) (by kernel_rfl) (by (intro w hSw; (try dsimp only at hSw); go_simp)) (by assumption) ?_
  simp only [List.setIfInBounds_toArray, List.set_cons_succ, List.set_cons_zero]
  refine wpAnyH_ready (rs := [2]) (by kernel_rfl) (by simp) ?_
  refine AllReadyH.cons rfl (fun K hK => ?_) AllReadyH.nil
  go_simp
  refine (l2Address_any _ _ _ _ _ ((HW.out.below hHeld.2).more hHeld.2.size) HV.out hi).mono ?_
  rintro e w2 ⟨rfl, hb2⟩
  have hs2 : w2.cell? ⟨b, o + i * 3 + 1, none⟩ = some (.int .i64 (sizeAt l i)) ∧ Below w.heap.size w w2 := ⟨(hb2.cell (p := ⟨b, o + i * 3 + 1, none⟩) (Nat.lt_of_lt_of_le hB hHeld.2.size)).trans hHeld.1, hHeld.2.trans (hb2.mono hHeld.2.size)⟩
  clear hb2 hHeld
  refine hK.out _ _ hs2 (fun hHeld => ?_)
  clear hK K hs2
  refine take_at (i := 8) (d := 13) (v := .int .i64 (begAt l i + sizeAt l i)) rfl rfl (by kernel_rfl) (by kernel_rfl) (by kernel_rfl) (fun _ _ _ h => h) (by kernel_rfl) (fun _ _ => run_add_op rfl rfl rfl (IntWalk.i64_in _ (by omega)) _) (by assumption) ?_
  simp only [List.setIfInBounds_toArray, List.set_cons_succ, List.set_cons_zero]
  refine take_at (i := 9) (d := 4) (v := .int .i64 (begAt l i + sizeAt l i)) rfl rfl (by kernel_rfl) (by kernel_rfl) (by kernel_rfl) (fun _ _ _ h => h) (by kernel_rfl) (by (intro w hSw; (try dsimp only at hSw); go_simp)) (by assumption) ?_
  simp only [List.setIfInBounds_toArray, List.set_cons_succ, List.set_cons_zero]
  refine wpAnyH_done (by kernel_rfl) ?_ _
  have hb3 := hHeld.2
  clear hHeld
  go_wp2
  go_ret
  exact ⟨ret_int HE.out, hb3⟩

end Go.Proofs.YtcpiojliakgdlaaGreatDoor
/- The model's side of rooms: the whole room, what is saved, who lies together. -/
namespace Go.Proofs.YtcpiojliakgdlaaGreatDoor
open Go.RowKit

set_option maxRecDepth 100000 in
set_option maxHeartbeats 400000 in
theorem l2Room_any (A : Option Addr) (l : List Seg) (c : Nat) (w : World) (hw : Segs w w.heap.size A l) (hv : validB l = true) :
    Calls Tryz.prog 38 #[.slice A l.length c] w fun e w' => e = .returned (.int .i64 (roomTo l l.length)) ∧ Below w.heap.size w w' := by
  have HW : Hid (Segs w w.heap.size A l) := hw
  have HV := Lib.hid hv
  have hl8 := (valid_all hv).2.1
  clear hw hv
  go_enter Tryz.func38, Tryz.ntmps38
  go_wp2
  go_loopw [3, 7] (fun s i wr => ∃ (k : Nat) (n : Int), k ≤ l.length ∧ i = .int .i64 k ∧ s = .int .i64 n ∧ Hid (roomTo l k = n) ∧ Below w.heap.size w wr)
    (fun _ i _ => l.length - (intOf i).toNat)
  case atStart => exact ⟨0, 0, Nat.zero_le _, rfl, rfl, rfl, Below.refl _ _⟩
  case round =>
    obtain ⟨k, n, hk, rfl, rfl, HN, hb⟩ := hrel
    by_cases hlt : k < l.length
    · have HR : Hid (roomTo l (k + 1) = max n (endAt l k)) := by
        show _ = _
        rw [roomTo, HN.out]
      obtain ⟨n1, n2, n3⟩ := place_small HV.out hlt
      have hr := roomTo_bd HV.out k hk
      rw [HN.out] at hr
      obtain ⟨r1, r2⟩ := hr
      have he0 : 0 ≤ endAt l k := by omega
      clear n1 n2 HN
      go_wp2_with fail
      refine (l2End_any _ _ _ _ _ ((HW.out.below hb).more hb.size) HV.out hlt).mono ?_
      rintro e w1 ⟨rfl, hb1⟩
      have B1 := hb.trans (hb1.mono hb.size)
      clear hb hb1
      generalize endAt l k = en at *
      go_wp2
      all_goals go_roundw
      all_goals first
        | exact ⟨k + 1, _, by omega, by go_num, rfl, by rw [HR.out]; omega, B1⟩
        | exact ⟨k + 1, _, by omega, by go_num, rfl, HR, B1⟩
        | (simp [intOf]; omega)
    · obtain rfl : k = l.length := by omega
      go_wp2
      go_ret
      exact ⟨ret_int HN.out.symm, hb⟩

end Go.Proofs.YtcpiojliakgdlaaGreatDoor
/- Chapter 9: the reference's Prune, Resize and MoveUp. -/
namespace Go.Proofs.YtcpiojliakgdlaaGreatDoor
open Go.RowKit

/-- append of a whole tree to an empty one. -/
theorem wp_clone9 {ops : Array Oper} {rest : List Oper} {o : Oper} {a : Act} {Q : Exit → Act → World → Prop} (hgd : o.guard = none) (S X : Operand)
    (ho : o.op = Op.call { callee := Callee.builtin Builtin.append, args := #[S, X], argTypes := #[23, 23] })
    (A : Option Addr) (l : List Seg) (c : Nat) (W : World) (hs : a.eval S = .slice (some ⟨W.heap.size, 0, none⟩) 0 0) (hx : a.eval X = .slice A l.length c) (hw : Segs W W.heap.size A l) (hl : l.length ≤ 1000) (h0 : 0 < l.length)
    (h : ∀ v' w', OwnTree w' W.heap.size v' l → Below W.heap.size W w' → wpList Tryz.prog ops Q rest (a.put o.dst v') w') :
    wpList Tryz.prog ops Q (o :: rest) a (W.alloc (.cells #[] 58)) := by
  obtain ⟨b, ob, rfl, hb, hc⟩ := hw h0
  obtain ⟨i0, hi0, hz0, hz1, hz2⟩ := info_parts info_seg
  refine wpList_append_own _ hgd S X 23 ho W.heap.size 58 i0 zeroSeg 3 32 Tryz.underlying23 hi0 hz0 hz1 hz2 rfl (by decide) (.slice (some ⟨W.heap.size, 0, none⟩) 0 0) 0 [] hs (OwnTree.empty W (Nat.le_refl _)) ⟨b, ob, none⟩ l.length c (segCells l) hx (segCells_len l) (fun j u hj => Lib.cell?_alloc_some _ (Segs.news hw j u hj)) (segCells_one' l) (by unfold maxLen; omega) (by omega) (by simp) ?_
  intro v' w' hown hgrow _
  refine h v' w' ?_ (((Below.refl W.heap.size W).alloc (Nat.le_refl _) _).grown hgrow (by simp) (by intro k hk; simp [Value.ownBlock] at hk; omega))
  unfold OwnTree
  have : 0 + l.length = l.length := Nat.zero_add _
  rw [this, List.nil_append] at hown
  exact hown
theorem OwnTree.setSz9 {w : World} {B g cap : Nat} {tr : List Seg} (h : OwnTree w B (.slice (some ⟨g, 0, none⟩) tr.length cap) tr) {i : Nat} {x : Seg} (hx : tr[i]? = some x) (z : Int) :
    OwnTree (w.setCell ⟨g, i * 3 + 1, none⟩ (.int .i64 z)) B (.slice (some ⟨g, 0, none⟩) tr.length cap) (tr.set i ⟨x.name, z, x.par⟩) := by
  have hi := (List.getElem?_eq_some_iff.1 hx).1
  obtain ⟨s0, s1, s2⟩ := segCells_at hx
  unfold OwnTree at h ⊢
  rw [List.length_set]
  refine ⟨by rw [segCells_len, List.length_set], ?_⟩
  rcases h.2 with ⟨h0, _⟩ | ⟨g', cap', cur, hv, hg, hh, h1, h2, h3, h4⟩
  · cases h0
  · injection hv with hv1 _ hv3
    injection hv1 with hv1
    injection hv1 with hv1
    subst hv1 hv3
    have hr : Row w g 58 cur := hh
    refine .inr ⟨g, cap, _, rfl, hg, hr.put (i * 3 + 1) _, h1, h2, by simpa using h3, ?_⟩
    rw [segCells_set tr i _ hi, set_same s0]
    have e : (((segCells tr).set (i * 3 + 1) (.int .i64 z)).set (i * 3 + 2) (.int .i64 x.par)) = (segCells tr).set (i * 3 + 1) (.int .i64 z) := set_same (by rw [List.getElem?_set_ne (by omega)]; exact s2)
    rw [e, ← h4]
    simp only [Array.toList_setIfInBounds, List.take_set]

set_option maxRecDepth 100000 in
set_option maxHeartbeats 4000000 in
theorem specResize_any (A : Option Addr) (l : List Seg) (c : Nat) (s : ByteArray) (x : Int) (w : World) (hw : Segs w w.heap.size A l) (hl : l.length ≤ 1048576) (hn : Short l) (_hs : s.size ≤ 1048576) :
    Calls Tryz.prog 8 #[.slice A l.length c, .string s, .int .i64 x] w (TreeAns w (resizeL l s x) (resizeOk l s x)) := by
  have HW : Hid (Segs w w.heap.size A l) := hw
  clear hw
  unfold TreeAns
  by_cases hneg : indexB l s < 0
  · have HF : Hid (resizeL l s x = [] ∧ resizeOk l s x = false) := ⟨(neg9 hneg).2.2.2.2.2.2.2.2.2 x, (neg9 hneg).2.2.2.2.2.2.2.2.1 x⟩
    rw [HF.out.1, HF.out.2]
    go_enter Tryz.func8, Tryz.ntmps8
    go_wp2_with fail
    refine (l1Index_any _ _ _ _ _ HW.out hl hn).mono ?_
    rintro e w1 ⟨rfl, hb1⟩
    have HB1 := Lib.hid (hb1.alloc hb1.size (.cells #[] 58))
    have HO1 := Lib.hid (OwnTree.empty (B := w.heap.size) w1 hb1.size)
    clear hb1
    generalize indexB l s = q at *
    go_wp2
    go_ret2
    exact ⟨_, rfl, HO1.out, HB1.out⟩
  · obtain ⟨hv, hi⟩ := index9_valid (l := l) (s := s) (by omega)
    have HI : Hid (indexB l s = ((ix9 l s : Nat) : Int)) := by show _ = _; unfold ix9; omega
    have hin : inB x 1 99 = sizeOk x := rfl
    have HFL : Hid (resizeOk l s x = inB x 1 99) := by show _ = _; unfold resizeOk; rw [decide_eq_true (show 0 ≤ indexB l s by omega), Bool.true_and, hin]
    have hl8 := (valid_all hv).2.1
    have hi1 : ¬ ((ix9 l s : Nat) : Int) < 0 := by omega
    cases hz : inB x 1 99 with
    | false =>
      have HF : Hid (resizeOk l s x = false) := HFL.out.trans hz
      have HR : Hid (resizeL l s x = []) := off9.2.2.2 x HF.out
      rw [HR.out, HF.out]
      clear hneg hv hin
      generalize ix9 l s = i at *
      go_enter Tryz.func8, Tryz.ntmps8
      go_wp2_with fail
      refine (l1Index_any _ _ _ _ _ HW.out hl hn).mono ?_
      rw [HI.out]
      rintro e w1 ⟨rfl, hb1⟩
      have HB1 := Lib.hid (hb1.alloc hb1.size (.cells #[] 58))
      have HO1 := Lib.hid (OwnTree.empty (B := w.heap.size) w1 hb1.size)
      clear hb1
      go_wp2_with fail
      refine (l1In_any _ _ _ _).mono ?_
      rw [hz]
      rintro e w2 ⟨rfl, rfl⟩
      go_wp2
      go_ret2
      exact ⟨_, rfl, HO1.out, HB1.out⟩
    | true =>
      have HF : Hid (resizeOk l s x = true) := HFL.out.trans hz
      have HR : Hid (resizeL l s x = l.set (ix9 l s) ⟨nmAt9 l (ix9 l s), x, parAt l (ix9 l s)⟩) := by show _ = _; unfold resizeL; rw [if_pos HF.out]
      rw [HR.out, HF.out]
      have HLG : Hid (l[ix9 l s]? = some ⟨nmAt9 l (ix9 l s), sizeAt l (ix9 l s), parAt l (ix9 l s)⟩) := by
        show _ = _
        rw [nmAt9_of hi, sizeAt_of hi, parAt_of (List.getElem?_eq_getElem hi)]
        exact List.getElem?_eq_getElem hi
      clear hneg hv hin
      generalize ix9 l s = i at *
      generalize nmAt9 l i = nm at *
      generalize sizeAt l i = sz at *
      generalize parAt l i = pr at *
      have hil : (i : Int) < (l.length : Int) := by omega
      have hi0 : (0 : Int) ≤ (i : Int) := Int.natCast_nonneg _
      go_enter Tryz.func8, Tryz.ntmps8
      go_wp2_with fail
      refine (l1Index_any _ _ _ _ _ HW.out hl hn).mono ?_
      rw [HI.out]
      rintro e w1 ⟨rfl, hb1⟩
      have HW1 := Lib.hid ((HW.out.below hb1).more hb1.size)
      have HB1 := Lib.hid hb1
      clear hb1
      go_wp2_with fail
      refine (l1In_any _ _ _ _).mono ?_
      rw [hz]
      rintro e w2 ⟨rfl, hw2⟩
      subst hw2
      clear hz
      go_wp2_with (at_builtin; go_loud (refine wp_clone9 rfl (.tmp 21) (.tmp 22) rfl A l c w1 rfl rfl HW1.out (by omega) (by omega) ?_); intro v3 w3 ho3 hb3; obtain ⟨g3, cap3, rfl, -, -⟩ : ∃ g cap, v3 = .slice (some ⟨g, 0, none⟩) l.length cap ∧ w1.heap.size ≤ g ∧ g < w3.heap.size := World.ownsRow.form ho3 (by omega); have HO3 := Lib.hid ho3; have HB3 := Lib.hid (HB1.out.trans (hb3.mono HB1.out.size)); have hcc := (ho3.cells HLG.out).1.2.1; have hff := (ho3.cells HLG.out).2 (i * 3 + 1); have HST := Lib.hid (ho3.setSz9 HLG.out x); have HB4 := Lib.hid (HB3.out.setCell (Nat.le_trans HB1.out.size (World.ownsRow.lt ho3 g3 rfl).1) (p := ⟨g3, i * 3 + 1, none⟩) (.int .i64 x)); have HZ1 := Lib.hid HB1.out.size; clear ho3 hb3)
      go_ret2
      exact ⟨_, rfl, treeLow HST.out HZ1.out, HB4.out⟩

end Go.Proofs.YtcpiojliakgdlaaGreatDoor
