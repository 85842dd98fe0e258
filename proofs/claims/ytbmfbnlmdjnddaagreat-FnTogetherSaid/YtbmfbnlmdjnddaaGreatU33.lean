/- Joined: Wb Xb Ab Ii. -/
import Derived.Test.YtbmfbnlmdjnddaaGreatU32
import Derived.Test.YtbmfbnlmdjnddaaGreatU03
import Derived.Test.YtbmfbnlmdjnddaaGreatU07
import Derived.Deep.RegionWith
import Derived.Test.YtbmfbnlmdjnddaaGreatU13
import Derived.Test.YtbmfbnlmdjnddaaGreatU20
import Derived.Test.YtbmfbnlmdjnddaaGreatU21
/- Draws of traces: a trace of a valid tree, a tree with a text. -/
namespace Go.Proofs.YtbmfbnlmdjnddaaGreat
open Go.RowKit

set_option maxRecDepth 100000 in
set_option maxHeartbeats 2000000 in
theorem l4Good_any (b c P : Nat) (A : Option Addr) (l : List Seg) (w : World) (h1 : 1 ≤ l.length) (h9 : l.length ≤ 9) (hnm : ∀ s ∈ l, s.name.size ≤ 1) (hA : ∀ g o, A = some ⟨g, o, none⟩ → b < g) (hP : P ≤ 1000) (hr : Rd w b P) (hw : Segs w w.heap.size A l) :
    Calls Tryz.prog 173 #[.pointer (some ⟨b, 0, none⟩), .slice A l.length c] w (TextDrawn b P 870 80 w) := by
  have HD := Lib.hid (l4Draw_any b c A l h1 h9 hnm hA)
  have HW : Hid (Segs w w.heap.size A l) := hw
  have HNM := Lib.hid hnm
  have HAA := Lib.hid hA
  have HR := Lib.hid hr
  clear hr hw hnm hA
  go_enter Tryz.func173, Tryz.ntmps173
  go_wp2_with fail
  refine (draw_any b P 12 _ HR.out (by omega) (by omega) (by omega)).mono ?_
  rintro e w2 ⟨v, rfl, ⟨hv0, hv1⟩, ho2, hr2⟩
  have HO2 := Lib.hid ho2
  have HR2 := Lib.hid hr2
  clear ho2 hr2 hv1 HR
  by_cases hv : v = 0
  · subst hv
    go_wp2
    go_ret
    exact ⟨_, rfl, Nat.zero_le _, HO2.out, HR2.out.weak (by omega)⟩
  · go_wp2_with fail
    refine (draw_any b (P + 1) 4 _ HR2.out (by omega) (by omega) (by omega)).mono ?_
    rintro e w3 ⟨u, rfl, ⟨hu0, hu1⟩, ho3, hr3⟩
    obtain ⟨d, rfl⟩ := Int.eq_ofNat_of_zero_le hu0
    have hd3 : d ≤ 3 := by have := hu1 (by omega); omega
    have HO3 := Lib.hid (HO2.out.trans ho3)
    have HR3 := Lib.hid hr3
    have HW3 := Lib.hid (HW.out.farO HO3.out HAA.out)
    clear ho3 hr3 hu0 hu1 HO2 HR2
    have hK : 6 ^ d ≤ 216 := by
      have : d = 0 ∨ d = 1 ∨ d = 2 ∨ d = 3 := by omega
      rcases this with rfl | rfl | rfl | rfl <;> decide
    have HD2 := Lib.hid (HD.out d hd3 (P + 1 + 1) w3 (by omega) HR3.out HW3.out)
    clear HD HW3
    generalize 6 ^ d = K at *
    go_wp2_with fail
    refine HD2.out.mono ?_
    rintro e w4 ⟨x, rfl, hx, ho4, hr4⟩
    have HO4 := Lib.hid (HO3.out.trans ho4)
    have HR4 := Lib.hid (hr4.weak (Q := P + 870) (by omega))
    have hx6 : x.size ≤ 648 := by omega
    clear ho4 hr4 HR3 HD2 hx HO3
    by_cases h80 : x.size ≤ 80
    · have h80' : (x.size : Int) ≤ 80 := by omega
      go_wp2
      go_ret
      exact ⟨_, rfl, h80, HO4.out, HR4.out⟩
    · have h80' : 80 < (x.size : Int) := by omega
      have hsg : Segs w4 w4.heap.size A l := HW.out.farO HO4.out HAA.out
      obtain ⟨g, o, rfl, hgB, hc⟩ := hsg (by omega)
      obtain ⟨e1, e2, e3⟩ := hc 0 _ (List.getElem?_eq_getElem (by omega))
      have hns := HNM.out _ (List.getElem_mem (show 0 < l.length by omega))
      have h1' : (0 : Int) < (l.length : Int) := by omega
      rw [Nat.zero_mul, Nat.add_zero] at e1
      clear hc hsg
      generalize l[0] = sg at *
      go_wp2
      go_ret
      exact ⟨_, rfl, by omega, HO4.out, HR4.out⟩

/-- The texts that a trace is spoilt with. -/
def oddTexts : List ByteArray := [⟨#[]⟩, ⟨#[40]⟩, ⟨#[41]⟩, ⟨#[88]⟩, ⟨#[65]⟩, ⟨#[40, 41]⟩]
theorem oddTexts_size : ∀ x ∈ oddTexts, x.size ≤ 2 := by decide
/-- Nothing but the reader differs from `w`. -/
def Sat (w : World) (b q : Nat) (W : World) : Prop := Only w W (· = b) ∧ Rd W b q
theorem Sat.alloc {w W : World} {b q : Nat} (h : Hid (Sat w b q W)) (o : Obj) : Hid (Sat w b q (W.alloc o)) := Lib.hid ⟨h.out.1.andBelow ((Below.refl _ W).alloc (Nat.le_refl _) _), h.out.2.alloc o⟩
theorem ofS_any (w : World) (b q g : Nat) (W : World) (hs : Hid (Sat w b q W)) (hq : q ≤ 100000) (hx : Hid (Texts W b g 0 6 (· ∈ oddTexts))) :
    Calls Tryz.prog 122 #[.pointer (some ⟨b, 0, none⟩), .slice (some ⟨g, 0, none⟩) 6 6] W fun e w' => ∃ v : ByteArray, e = .returned (.string v) ∧ v.size ≤ 2 ∧ Only W w' (· = b) ∧ Hid (Sat w b (q + 1) w') := by
  refine (of_any b q g 0 6 6 _ W hs.out.2 (by omega) (by omega) (by omega) hx.out).mono ?_
  rintro e w' ⟨v, rfl, hv, ho, hr⟩
  exact ⟨v, rfl, oddTexts_size v hv, ho, Lib.hid ⟨hs.out.1.trans ho, hr⟩⟩
theorem pickS_any (w : World) (b q : Nat) (W : World) (hs : Hid (Sat w b q W)) (hq : q ≤ 100000) :
    Calls Tryz.prog 60 #[.pointer (some ⟨b, 0, none⟩), .int .i64 2] W fun e w' => ∃ v : Nat, e = .returned (.int .i64 v) ∧ v ≤ 1 ∧ Only W w' (· = b) ∧ Hid (Sat w b (q + 1) w') := by
  refine (draw_any b q 2 W hs.out.2 (by omega) (by omega) (by omega)).mono ?_
  rintro e w' ⟨v, rfl, ⟨h0, h1⟩, ho, hr⟩
  obtain ⟨k, rfl⟩ := Int.eq_ofNat_of_zero_le h0
  exact ⟨k, rfl, by have := h1 (by omega); omega, ho, Lib.hid ⟨hs.out.1.trans ho, hr⟩⟩
/-- What l4Some leaves: a slice of few segments, and a text. -/
def WithText (b P : Nat) (w : World) (e : Ending) (w' : World) : Prop :=
  ∃ A l c x, e = .returned (.tuple #[.slice A (List.length l) c, .string x]) ∧ (Segs w' w'.heap.size A l ∧ ∀ g o, A = some ⟨g, o, none⟩ → b < g) ∧ (l.length ≤ 9 ∧ l.length ≤ c ∧ c ≤ 9223372036854775807) ∧ (∀ s ∈ l, s.name.size ≤ 8) ∧ x.size ≤ 82 ∧ Only w w' (· = b) ∧ Rd w' b (P + 1000)

set_option maxRecDepth 100000 in
set_option maxHeartbeats 4000000 in
theorem l4Some_plain (hgood : GoodSaid) (b P : Nat) (w : World) (hr : Rd w b P) (hP : P ≤ 100) :
    Calls Tryz.prog 111 #[.pointer (some ⟨b, 0, none⟩)] w (WithText b P w) := by
  have HS := Lib.hid (l1Some_plain b P w hr (by omega) (fun w h => hgood b P w (by omega) h))
  have HBW := Lib.hid hr.lt
  clear hgood hr
  go_enter Tryz.func111, Tryz.ntmps111
  go_wp2_with fail
  refine Calls.mono HS.out ?_
  rintro e w1 ⟨A, l, c, rfl, hs, hl, hn, ho, hr1⟩
  have HV := Lib.hid (specTreeValid_any A l c w1 hs.1 (by omega) (fun s h => by have := hn s h; unfold maxLen; omega))
  have H1 := Lib.hid hs.1
  have HAA := Lib.hid hs.2
  have H2 := Lib.hid hl
  have H3 := Lib.hid hn
  have H4 := Lib.hid ho
  have H5 := Lib.hid hr1
  clear hs hl hn ho hr1 HS
  go_wp2_with fail
  refine HV.out.mono ?_
  rintro e w2 ⟨rfl, hb2⟩
  have H12 := Lib.hid ((H1.out.below hb2).more hb2.size)
  have HO2 := Lib.hid (H4.out.andBelow hb2)
  have HR2 := Lib.hid (H5.out.below hb2)
  clear hb2 HV H4 H5
  cases hv : validB l with
  | false =>
    have HR3 := Lib.hid (HR2.out.alloc (.cells #[Value.string ⟨#[]⟩, .string ⟨#[65]⟩, .string ⟨#[66]⟩] 9))
    have HX3 := Lib.hid (texts_new w2 b 9 [⟨#[]⟩, ⟨#[65]⟩, ⟨#[66]⟩] HR2.out.lt)
    go_wp2_with fail
    refine (of_any b (P + 50) w2.heap.size 0 3 3 _ _ HR3.out (by omega) (by omega) (by omega) HX3.out).mono ?_
    rintro e w3 ⟨x, rfl, hx, ho3, hr3⟩
    have HX : Hid (x.size ≤ 82) := by
      have : ∀ x ∈ ([⟨#[]⟩, ⟨#[65]⟩, ⟨#[66]⟩] : List ByteArray), x.size ≤ 82 := by decide
      exact this x hx
    have HO3 := Lib.hid (HO2.out.trans ho3.fresh)
    have HR4 := Lib.hid hr3
    have HS3 := Lib.hid (H12.out.farO ho3.fresh HAA.out)
    clear ho3 hr3 hx HX3 HR3
    go_wp2
    refine bodyPost_ret (v := .tuple #[.slice A l.length c, .string x]) (by simp [results, Tryz.results111, go_sem]) rfl ?_
    exact ⟨A, l, c, x, rfl, ⟨HS3.out, HAA.out⟩, H2.out, H3.out, HX.out, HO3.out, HR4.out.weak (by omega)⟩
  | true =>
    have hlen : 1 ≤ l.length := by
      cases l with
      | nil => cases hv
      | cons a r => simp
    have HG := Lib.hid (l4Good_any b c (P + 50) A l w2 hlen H2.out.1 (fun s hs => by obtain ⟨c, h, -⟩ := nameOk_one (validB_names hv hs); rw [h]; exact Nat.le_refl _) HAA.out (by omega) HR2.out H12.out)
    clear hlen hv HR2
    go_wp2_with fail
    refine HG.out.mono ?_
    rintro e w3 ⟨x, rfl, hx, ho3, hr3⟩
    have HO3 := Lib.hid (HO2.out.trans ho3)
    have HR3 := Lib.hid hr3
    have HS3 := Lib.hid (H12.out.farO ho3 HAA.out)
    clear ho3 hr3 HO2 H12 HG
    go_wp2_with fail
    refine (draw_any b (P + 50 + 870) 12 _ HR3.out (by omega) (by omega) (by omega)).mono ?_
    rintro e w4 ⟨v, rfl, ⟨hv0, hv1⟩, ho4, hr4⟩
    have HO4 := Lib.hid (HO3.out.trans ho4)
    have HR4 := Lib.hid hr4
    have HS4 := Lib.hid (HS3.out.farO ho4 HAA.out)
    clear ho4 hr4 HO3 HR3 HS3 hv1
    by_cases hv : v = 0
    · subst hv
      cases he : x.toList.isEmpty with
      | true =>
        go_wp2
        refine bodyPost_ret (v := .tuple #[.slice A l.length c, .string x]) (by simp [results, Tryz.results111, go_sem]) rfl ?_
        exact ⟨A, l, c, x, rfl, ⟨HS4.out, HAA.out⟩, H2.out, H3.out, by omega, HO4.out, HR4.out.weak (by omega)⟩
      | false =>
        have hx0 : x.size ≠ 0 := fun h => by
          rw [show x = ⟨#[]⟩ from ByteArray.ext (Array.eq_empty_of_size_eq_zero h)] at he
          revert he
          unfold ByteArray.toList ByteArray.toList.loop
          decide
        go_wp2_with fail
        refine (draw_any b (P + 50 + 870 + 1) x.size _ HR4.out (by omega) (by omega) (by omega)).mono ?_
        rintro e w5 ⟨k, rfl, ⟨hk0, hk1⟩, ho5, hr5⟩
        obtain ⟨k, rfl⟩ := Int.eq_ofNat_of_zero_le hk0
        have hk : k < x.size := by have := hk1 (by omega); omega
        have HO5 := Lib.hid (HO4.out.trans ho5)
        have HB5 := Lib.hid (Only.refl w5 (· = b)).drew'
        have HS5 := Lib.hid (HS4.out.farO ho5 HAA.out)
        have HR5 := Lib.hid hr5
        have HSAT : Hid (Sat w b (P + 50 + 870 + 1 + 1) w5.drew) := Lib.hid ⟨HO5.out.drew', HR5.out.below ((Below.refl _ w5).drew)⟩
        clear ho5 hr5 HO4 HR4 HS4 hk0 hk1
        have HT0 := Lib.hid (texts_new w5.drew b 9 oddTexts HSAT.out.2.lt)
        have hk0 : (0 : Int) ≤ (k : Int) := Int.natCast_nonneg _
        have hkx : (k : Int) ≤ (x.size : Int) := by omega
        have HQ := Lib.hid hP
        clear HB5 HO5 HR5 he hv0 hx0
        go_wp2_with fail
        go_region_with (first
          | (go_at_call 122; refine (ofS_any w b (P + 50 + 870 + 1 + 1) w5.heap.size _ (Sat.alloc HSAT _) (by have := HQ.out; omega) HT0).mono ?_; rintro e w6 ⟨y, rfl, HY, ho6, HSAT6⟩)
          | (go_at_call 60; refine (pickS_any w b (P + 50 + 870 + 1 + 1 + 1) w6 HSAT6 (by have := HQ.out; omega)).mono ?_; rintro e w7 ⟨j, rfl, hj, ho7, HSAT7⟩; obtain ⟨s, HSJ⟩ : ∃ s : Nat, Hid (s = k + j) := ⟨_, rfl⟩; have hws : IntKind.i64.wrap ((k : Int) + (j : Int)) = (s : Int) := (IntWalk.i64_in _ (by omega)).trans (by rw [HSJ.out]; rfl); have hsx : (s : Int) ≤ (x.size : Int) := by (rw [HSJ.out]; omega)))
        all_goals
          have HSF := Lib.hid (HS5.out.farO ((Only.refl w5 (· = b)).drew'.trans (ho6.fresh.trans ho7)) HAA.out)
          have HSZ : Hid ((x.extract 0 k ++ y ++ x.extract s x.size).size ≤ 82) := by
            show _ ≤ _
            rw [ByteArray.size_append, ByteArray.size_append, ByteArray.size_extract, ByteArray.size_extract]
            have := HSJ.out
            omega
          clear ho6 ho7 HS5 HSAT6 HSAT HT0
          go_wp2
          refine bodyPost_ret (v := .tuple #[.slice A l.length c, .string (x.extract 0 k ++ y ++ x.extract s x.size)]) (by simp [results, Tryz.results111, go_sem]) rfl ?_
          exact ⟨A, l, c, _, rfl, ⟨HSF.out, HAA.out⟩, H2.out, H3.out, HSZ.out, HSAT7.out.1, HSAT7.out.2.weak (by omega)⟩
    · go_wp2
      refine bodyPost_ret (v := .tuple #[.slice A l.length c, .string x]) (by simp [results, Tryz.results111, go_sem]) rfl ?_
      exact ⟨A, l, c, x, rfl, ⟨HS4.out, HAA.out⟩, H2.out, H3.out, by omega, HO4.out, HR4.out.weak (by omega)⟩

end Go.Proofs.YtbmfbnlmdjnddaaGreat
/- Draws of chapter 4: a text many times; the draws of NeedsOf, TraceValid, Without. All over l1Good's contract. -/
namespace Go.Proofs.YtbmfbnlmdjnddaaGreat
open Go.RowKit

set_option maxRecDepth 100000 in
set_option maxHeartbeats 1000000 in
theorem l13Many_any (s : ByteArray) (n : Nat) (w : World) (hs : s.size ≤ 2) (hn : n ≤ 100) :
    Calls Tryz.prog 125 #[.string s, .int .i64 n] w fun e w' => (∃ x : ByteArray, e = .returned (.string x) ∧ x.size = s.size * n) ∧ w' = w := by
  have hc : s.size * n ≤ 200 := Nat.le_trans (Nat.mul_le_mul hs hn) (by decide)
  obtain ⟨C, HC⟩ : ∃ C : Nat, Hid (C = s.size * n) := ⟨_, rfl⟩
  have hC : C ≤ 200 := by rw [HC.out]; exact hc
  have HS0 := Lib.hid hs
  go_enter Tryz.func125, Tryz.ntmps125
  go_wp2
  go_loopw [0, 1, 5] (fun u k o wr => ∃ (k' : Nat) (u' o' : ByteArray), u = .string u' ∧ k = .int .i64 k' ∧ o = .string o' ∧ k' ≤ 100 ∧ u'.size ≤ 400 ∧ o'.size ≤ 200 ∧ Hid (o'.size + u'.size * k' = C) ∧ wr = w)
    (fun _ k _ _ => (intOf k).toNat)
  case atStart => exact ⟨n, s, _, rfl, rfl, rfl, hn, by omega, Nat.zero_le _, Lib.hid (by rw [HC.out]; exact Nat.zero_add _), rfl⟩
  case round =>
    obtain ⟨k, u, o, rfl, rfl, rfl, hk, hu, ho, HK, rfl⟩ := hrel
    by_cases h0 : 0 < k
    · have h0' : (0 : Int) < (k : Int) := by omega
      have e1 : (k : Int).tmod 2 = ((k % 2 : Nat) : Int) := by rw [Int.tmod_eq_emod_of_nonneg (by omega)]; rfl
      have e2 : (k : Int).tdiv 2 = ((k / 2 : Nat) : Int) := by rw [Int.tdiv_eq_ediv_of_nonneg (by omega)]; rfl
      have huk : u.size ≤ 200 := by
        have h1 := HK.out
        have h2 : u.size * 1 ≤ u.size * k := Nat.mul_le_mul_left _ h0
        omega
      have huu : (u ++ u).size = 2 * u.size := by rw [ByteArray.size_append]; omega
      have hkd : k = 2 * (k / 2) + k % 2 := by omega
      by_cases hodd : k % 2 = 1
      · rw [hodd] at e1
        have HK2 : Hid ((o ++ u).size + (u ++ u).size * (k / 2) = C) := by
          show _ = _
          rw [ByteArray.size_append, huu, ← HK.out]
          have : u.size * k = u.size * (2 * (k / 2) + 1) := by rw [← hodd, ← hkd]
          rw [this, Nat.mul_add, Nat.mul_one, Nat.mul_assoc, Nat.mul_left_comm]
          omega
        have hoz : (o ++ u).size ≤ 200 := by have := HK2.out; omega
        have hk2 : k / 2 < k := by omega
        clear hkd hc
        generalize k / 2 = k2 at *
        go_wp2
        go_roundw
        case rel => exact ⟨k2, _, _, rfl, by go_num, rfl, by omega, by omega, hoz, HK2, trivial⟩
        case measure => simp [intOf]; omega
      · have hev : k % 2 = 0 := by omega
        rw [hev] at e1
        have HK2 : Hid (o.size + (u ++ u).size * (k / 2) = C) := by
          show _ = _
          rw [huu, ← HK.out]
          have : u.size * k = u.size * (2 * (k / 2)) := by rw [show 2 * (k / 2) = k from by omega]
          rw [this, Nat.mul_assoc, Nat.mul_left_comm]
        have hk2 : k / 2 < k := by omega
        clear hkd hc
        generalize k / 2 = k2 at *
        go_wp2
        go_roundw
        case rel => exact ⟨k2, _, _, rfl, by go_num, rfl, by omega, by omega, ho, HK2, trivial⟩
        case measure => simp [intOf]; omega
    · obtain rfl : k = 0 := by omega
      have HO : Hid (o.size = s.size * n) := by
        show _ = _
        rw [← HC.out, ← HK.out, Nat.mul_zero, Nat.add_zero]
      go_wp2
      go_ret
      exact ⟨⟨o, rfl, HO.out⟩, rfl⟩

end Go.Proofs.YtbmfbnlmdjnddaaGreat
/- laws.soTexts on rows of the same texts, and the draw of FnChainsOf. -/
namespace Go.Proofs.YtbmfbnlmdjnddaaGreat
open Go.RowKit

set_option maxRecDepth 100000 in
set_option maxHeartbeats 1000000 in
theorem soTexts_any (A A' : Option Addr) (l : List ByteArray) (c c' : Nat) (w : World) (hw : St.Strs w w.heap.size A l) (hw' : St.Strs w w.heap.size A' l) (hl : l.length ≤ 1000) :
    Calls Tryz.prog 23 #[.slice A l.length c, .slice A' l.length c'] w fun e w' => e = .returned (.bool true) ∧ Below w.heap.size w w' := by
  have HW : Hid (St.Strs w w.heap.size A l) := hw
  have HW' : Hid (St.Strs w w.heap.size A' l) := hw'
  clear hw hw'
  go_enter Tryz.func23, Tryz.ntmps23
  go_wp2
  go_loopw [11] (fun i wr => ∃ (k : Nat), k ≤ l.length ∧ i = .int .i64 k ∧ Below w.heap.size w wr)
    (fun i _ => l.length - (intOf i).toNat)
  case atStart => exact ⟨0, Nat.zero_le _, rfl, Below.refl _ _⟩
  case round =>
    obtain ⟨k, hk, rfl, hb⟩ := hrel
    by_cases hlt : k < l.length
    · have hlt' : (k : Int) < (l.length : Int) := by omega
      have hk0 : (0 : Int) ≤ (k : Int) := Int.natCast_nonneg _
      obtain ⟨b, o, rfl, hB, hc⟩ := HW.out (by omega)
      obtain ⟨b', o', rfl, hB', hc'⟩ := HW'.out (by omega)
      have c0 := hc k l[k] (List.getElem?_eq_getElem hlt)
      have d0 := hc' k l[k] (List.getElem?_eq_getElem hlt)
      clear hc hc'
      rw [← hb.cell hB] at c0
      rw [← hb.cell hB'] at d0
      generalize l[k] = s at *
      have HB2 := Lib.hid hb.drew
      go_wp2
      go_quiet (fail)
      go_wp2
      go_roundw
      case rel => exact ⟨k + 1, by omega, by go_num, below_drewN hb _⟩
      case measure => simp [intOf]; omega
    · go_wp2
      go_ret
      exact ⟨rfl, hb⟩

end Go.Proofs.YtbmfbnlmdjnddaaGreat
/- Draws of chapter 7: pairs of a valid tree. -/
namespace Go.Proofs.YtbmfbnlmdjnddaaGreat
open Go.RowKit

def PairsDrawn (b P : Nat) (w : World) (n q : Nat) (e : Ending) (w' : World) : Prop :=
  ∃ (v : Value) (L : List Txt), e = .returned v ∧ SolidTexts w' w.heap.size v (L.map strOf) ∧ L.length ≤ n ∧ (∀ x ∈ L, x.length = 2) ∧ Only w w' (· = b) ∧ Rd w' b (P + q)

set_option maxRecDepth 100000 in
set_option maxHeartbeats 4000000 in
theorem l7Good_any (b P : Nat) (A : Option Addr) (l : List Seg) (c : Nat) (w : World) (hr : Rd w b P) (hP : P ≤ 1000) (hw : Segs w w.heap.size A l) (hA : ∀ g o, A = some ⟨g, o, none⟩ → b < g) (hv : validB l = true) :
    Calls Tryz.prog 140 #[.pointer (some ⟨b, 0, none⟩), .slice A l.length c] w (PairsDrawn b P w 9 40) := by
  have HW : Hid (Segs w w.heap.size A l) := hw
  have HA := Lib.hid hA
  have HV := Lib.hid hv
  have h8 := (valid_all hv).2.1
  have h1 := (valid_all hv).2.2
  have HR := fun o o2 => Lib.hid ((hr.alloc o).alloc o2)
  have HN := Lib.hid (nums_new (w.alloc (.cells #[] 9)) b 3 [4, 5, 3, 7, 2, 0, 9] (by have := hr.lt; simp; omega))
  have HS0 : Hid (SolidTexts (w.alloc (.cells #[] 9)) w.heap.size (.slice (some ⟨w.heap.size, 0, none⟩) 0 0) []) := ⟨OwnTexts.empty w (Nat.le_refl _), fun h => by cases h⟩
  have hbl := hr.lt
  clear hw hv hr hA
  unfold PairsDrawn
  go_enter Tryz.func140, Tryz.ntmps140
  go_wp2_with fail
  refine (num_any b P (w.heap.size + 1) 0 7 7 (· ∈ [4, 5, 3, 7, 2, 0, 9]) _ (HR _ _).out (by omega) (by omega) (by omega) (by have := HN.out; simpa using this)).mono ?_
  rintro e w1 ⟨n, rfl, hn, ho, hr1⟩
  have HO1 : Hid (Only w w1 (· = b)) := ho.fresh.fresh
  have HR1 := Lib.hid hr1
  have HS1 : Hid (SolidTexts w1 w.heap.size (.slice (some ⟨w.heap.size, 0, none⟩) 0 0) []) := ⟨HS0.out.1.far (fun g hg => by
    injection hg with hg
    rw [← hg]
    show w1.heap[w.heap.size]? = _
    exact (ho.block w.heap.size (by simp; omega) (by omega)).trans (Below.heap_alloc _ _ _ (by simp))), HS0.out.2⟩
  obtain ⟨m, rfl, hm⟩ : ∃ m : Nat, n = (m : Int) ∧ m ≤ 9 := by
    have h9 : ∀ x ∈ ([4, 5, 3, 7, 2, 0, 9] : List Int), 0 ≤ x ∧ x ≤ 9 := by decide
    obtain ⟨k, hk⟩ := Int.eq_ofNat_of_zero_le (h9 n hn).1
    exact ⟨k, hk, by have := (h9 n hn).2; omega⟩
  clear ho hr1 hn HS0 HN HR
  obtain ⟨b9, o, rfl, hB, hc⟩ := HW.out (by omega)
  have hb9 : b ≠ b9 := by have := HA.out b9 o rfl; omega
  have HCELL : Hid (∀ W i, Only w W (· = b) → (hi : i < l.length) → W.cell? ⟨b9, o + i * 3, none⟩ = some (.string ⟨#[byteOf l i]⟩)) := fun W i hoW hi => by
    have h0 : W.heap[b9]? = w.heap[b9]? := hoW.block b9 hB (fun e => hb9 e.symm)
    have h1 : W.cell? ⟨b9, o + i * 3, none⟩ = w.cell? ⟨b9, o + i * 3, none⟩ := by simp only [World.cell?, h0]
    have h2 := (hc i l[i] (List.getElem?_eq_getElem hi)).1
    rw [h1, h2, (nmAt_one HV.out hi).2]
  clear hc hB
  go_wp2
  go_loopw [5, 13] (fun ov iv wr => ∃ (k : Nat) (vo : Value) (L : List Txt), k ≤ m ∧ iv = .int .i64 k ∧ vo = ov ∧ Hid (SolidTexts wr w.heap.size vo (L.map strOf)) ∧ L.length ≤ k ∧ Hid (∀ x ∈ L, x.length = 2) ∧ Hid (Only w wr (· = b)) ∧ Hid (Rd wr b (P + 1 + 4 * k)))
    (fun _ iv _ => m - (intOf iv).toNat)
  case atStart => exact ⟨0, _, [], Nat.zero_le _, rfl, rfl, HS1, Nat.zero_le _, (fun x hx => absurd hx (by simp)), HO1, HR1⟩
  case round =>
    obtain ⟨k, vo, L, hk, rfl, rfl, HS, hL, H2, HO, HRD⟩ := hrel
    clear HS1 HO1 HR1
    have hk0 : (0 : Int) ≤ (k : Int) := Int.natCast_nonneg _
    by_cases hlt : k < m
    · have hlt' : (k : Int) < (m : Int) := by omega
      go_wp2_with fail
      refine (draw_any b (P + 1 + 4 * k) l.length wr HRD.out (by omega) (by omega) (by omega)).mono ?_
      rintro e w2 ⟨i0, rfl, ⟨hi0, hi1⟩, ho2, hr2⟩
      obtain ⟨i, rfl⟩ := Int.eq_ofNat_of_zero_le hi0
      have hi : i < l.length := by have := hi1 (by omega); omega
      have HR2 := Lib.hid hr2
      have HO2 : Hid (Only w w2 (· = b)) := HO.out.trans ho2
      have HS2 : Hid (SolidTexts w2 w.heap.size vo (L.map strOf)) := ⟨HS.out.1.far (fun g hg => ho2.block g (World.ownsRow.lt HS.out.1 g hg).2 (by have := (World.ownsRow.lt HS.out.1 g hg).1; omega)), HS.out.2⟩
      clear hr2 ho2 hi1 HO HS HRD
      go_wp2_with fail
      refine (draw_any b (P + 1 + 4 * k + 1) l.length w2 HR2.out (by omega) (by omega) (by omega)).mono ?_
      rintro e w3 ⟨j0, rfl, ⟨hj0, hj1⟩, ho3, hr3⟩
      obtain ⟨j, rfl⟩ := Int.eq_ofNat_of_zero_le hj0
      have hj : j < l.length := by have := hj1 (by omega); omega
      have HR3 := Lib.hid hr3
      have HO3 : Hid (Only w w3 (· = b)) := HO2.out.trans ho3
      have HS3 : Hid (SolidTexts w3 w.heap.size vo (L.map strOf)) := ⟨HS2.out.1.far (fun g hg => ho3.block g (World.ownsRow.lt HS2.out.1 g hg).2 (by have := (World.ownsRow.lt HS2.out.1 g hg).1; omega)), HS2.out.2⟩
      clear hr3 ho3 hj1 HO2 HS2 HR2
      go_wp2_with fail
      refine (draw_any b (P + 1 + 4 * k + 2) 3 w3 HR3.out (by omega) (by omega) (by omega)).mono ?_
      rintro e w4 ⟨x, rfl, ⟨hx0, -⟩, ho4, hr4⟩
      have HR4 := Lib.hid hr4
      have HO4 : Hid (Only w w4 (· = b)) := HO3.out.trans ho4
      have HS4 : Hid (SolidTexts w4 w.heap.size vo (L.map strOf)) := ⟨HS3.out.1.far (fun g hg => ho4.block g (World.ownsRow.lt HS3.out.1 g hg).2 (by have := (World.ownsRow.lt HS3.out.1 g hg).1; omega)), HS3.out.2⟩
      clear hr4 ho4 HO3 HS3 HR3
      by_cases hx : 0 < x
      · by_cases hji : j < i
        · have hji' : (j : Int) < (i : Int) := by omega
          have he' : ¬ (j : Int) = (i : Int) := by omega
          have he2 : ((j : Int) == (i : Int)) = false := beq_eq_false_iff_ne.2 he'
          have ca := HCELL.out w4 j HO4.out hj
          have cb := HCELL.out w4 i HO4.out hi
          have HPT := Lib.hid (l4Put_any w.heap.size vo L [byteOf l j, byteOf l i] w4.drew ⟨HS4.out.1.far (fun _ _ => rfl), HS4.out.2⟩ HO4.out.size (by omega))
          unfold PutPost at HPT
          have HC : Hid ((⟨#[byteOf l j]⟩ : ByteArray) ++ ⟨#[byteOf l i]⟩ = strOf [byteOf l j, byteOf l i]) := rfl
          have HPL := Lib.hid (putAll_len [[byteOf l j, byteOf l i]] L)
          have HPM := Lib.hid (fun y => putAll_mem [[byteOf l j, byteOf l i]] L y)
          have hza : (⟨#[byteOf l j]⟩ : ByteArray).size = 1 := rfl
          have hzb : (⟨#[byteOf l i]⟩ : ByteArray).size = 1 := rfl
          have hia : ((j : Nat) : Int) < (l.length : Int) := by omega
          have hib : ((i : Nat) : Int) < (l.length : Int) := by omega
          generalize (⟨#[byteOf l j]⟩ : ByteArray) = sa at *
          generalize (⟨#[byteOf l i]⟩ : ByteArray) = sb at *
          go_wp2_with fail
          go_still_tail 12, (by kernel_rfl)
          change wpList _ _ _ _ _ w4.drew
          go_wp2_with fail
          rw [HC.out]
          refine Calls.mono HPT.out ?_
          rintro e w6 ⟨v6, rfl, hs6, hb6⟩
          have HS6 := Lib.hid hs6
          have HO6 : Hid (Only w w6 (· = b)) := HO4.out.drew'.andBelow hb6
          have HR6 : Hid (Rd w6 b (P + 1 + 4 * (k + 1))) := ((HR4.out.below ((Below.refl _ _).drew)).below hb6).weak (by omega)
          have H26 : Hid (∀ y ∈ putB L [byteOf l j, byteOf l i], y.length = 2) := fun y hy => by
            rcases (HPM.out y).1 hy with h | h
            · exact H2.out y h
            · rw [List.mem_singleton.1 h]; rfl
          have hl6 : (putB L [byteOf l j, byteOf l i]).length ≤ k + 1 := Nat.le_trans HPL.out (by simp; omega)
          clear hs6 hb6 HPT HPL HPM
          go_wp2
          go_roundw
          case rel => exact ⟨k + 1, v6, _, by omega, by go_num, rfl, HS6, hl6, H26, HO6, HR6⟩
          case measure => simp [intOf]; omega
        · have hji' : ¬ (j : Int) < (i : Int) := by omega
          by_cases he : i = j
          · subst he
            go_wp2_with fail
            refine (draw_any b (P + 1 + 4 * k + 3) 6 w4 HR4.out (by omega) (by omega) (by omega)).mono ?_
            rintro e w5 ⟨y, rfl, ⟨hy0, -⟩, ho5, hr5⟩
            have HR5 := Lib.hid hr5
            have HO5 : Hid (Only w w5 (· = b)) := HO4.out.trans ho5
            have HS5 : Hid (SolidTexts w5 w.heap.size vo (L.map strOf)) := ⟨HS4.out.1.far (fun g hg => ho5.block g (World.ownsRow.lt HS4.out.1 g hg).2 (by have := (World.ownsRow.lt HS4.out.1 g hg).1; omega)), HS4.out.2⟩
            clear hr5 ho5 HO4 HS4 HR4
            by_cases hy : y = 0
            · subst hy
              have ca := HCELL.out w5 i HO5.out hi
              have cb := HCELL.out w5 i HO5.out hi
              have HPT := Lib.hid (l4Put_any w.heap.size vo L [byteOf l i, byteOf l i] w5.drew ⟨HS5.out.1.far (fun _ _ => rfl), HS5.out.2⟩ HO5.out.size (by omega))
              unfold PutPost at HPT
              have HC : Hid ((⟨#[byteOf l i]⟩ : ByteArray) ++ ⟨#[byteOf l i]⟩ = strOf [byteOf l i, byteOf l i]) := rfl
              have HPL := Lib.hid (putAll_len [[byteOf l i, byteOf l i]] L)
              have HPM := Lib.hid (fun y => putAll_mem [[byteOf l i, byteOf l i]] L y)
              have hza : (⟨#[byteOf l i]⟩ : ByteArray).size = 1 := rfl
              have hzb : (⟨#[byteOf l i]⟩ : ByteArray).size = 1 := rfl
              have hia : ((i : Nat) : Int) < (l.length : Int) := by omega
              have hib : ((i : Nat) : Int) < (l.length : Int) := by omega
              generalize (⟨#[byteOf l i]⟩ : ByteArray) = sa at *
              go_wp2_with fail
              go_still_tail 12, (by kernel_rfl)
              change wpList _ _ _ _ _ w5.drew
              go_wp2_with fail
              rw [HC.out]
              refine Calls.mono HPT.out ?_
              rintro e w6 ⟨v6, rfl, hs6, hb6⟩
              have HS6 := Lib.hid hs6
              have HO6 : Hid (Only w w6 (· = b)) := HO5.out.drew'.andBelow hb6
              have HR6 : Hid (Rd w6 b (P + 1 + 4 * (k + 1))) := ((HR5.out.below ((Below.refl _ _).drew)).below hb6).weak (by omega)
              have H26 : Hid (∀ y ∈ putB L [byteOf l i, byteOf l i], y.length = 2) := fun y hy => by
                rcases (HPM.out y).1 hy with h | h
                · exact H2.out y h
                · rw [List.mem_singleton.1 h]; rfl
              have hl6 : (putB L [byteOf l i, byteOf l i]).length ≤ k + 1 := Nat.le_trans HPL.out (by simp; omega)
              clear hs6 hb6 HPT HPL HPM
              go_wp2
              go_roundw
              case rel => exact ⟨k + 1, v6, _, by omega, by go_num, rfl, HS6, hl6, H26, HO6, HR6⟩
              case measure => simp [intOf]; omega
            · have hy' : (y == 0) = false := beq_eq_false_iff_ne.2 hy
              have HR6 : Hid (Rd w5 b (P + 1 + 4 * (k + 1))) := HR5.out.weak (by omega)
              go_wp2
              go_roundw
              case rel => exact ⟨k + 1, vo, L, by omega, by go_num, rfl, HS5, by omega, H2, HO5, HR6⟩
              case measure => simp [intOf]; omega
          · have he' : ¬ (i : Int) = (j : Int) := by omega
            have he2 : ((i : Int) == (j : Int)) = false := beq_eq_false_iff_ne.2 he'
            have ca := HCELL.out w4 i HO4.out hi
            have cb := HCELL.out w4 j HO4.out hj
            have HPT := Lib.hid (l4Put_any w.heap.size vo L [byteOf l i, byteOf l j] w4.drew ⟨HS4.out.1.far (fun _ _ => rfl), HS4.out.2⟩ HO4.out.size (by omega))
            unfold PutPost at HPT
            have HC : Hid ((⟨#[byteOf l i]⟩ : ByteArray) ++ ⟨#[byteOf l j]⟩ = strOf [byteOf l i, byteOf l j]) := rfl
            have HPL := Lib.hid (putAll_len [[byteOf l i, byteOf l j]] L)
            have HPM := Lib.hid (fun y => putAll_mem [[byteOf l i, byteOf l j]] L y)
            have hza : (⟨#[byteOf l i]⟩ : ByteArray).size = 1 := rfl
            have hzb : (⟨#[byteOf l j]⟩ : ByteArray).size = 1 := rfl
            have hia : ((i : Nat) : Int) < (l.length : Int) := by omega
            have hib : ((j : Nat) : Int) < (l.length : Int) := by omega
            generalize (⟨#[byteOf l i]⟩ : ByteArray) = sa at *
            generalize (⟨#[byteOf l j]⟩ : ByteArray) = sb at *
            go_wp2_with fail
            go_still_tail 12, (by kernel_rfl)
            change wpList _ _ _ _ _ w4.drew
            go_wp2_with fail
            rw [HC.out]
            refine Calls.mono HPT.out ?_
            rintro e w6 ⟨v6, rfl, hs6, hb6⟩
            have HS6 := Lib.hid hs6
            have HO6 : Hid (Only w w6 (· = b)) := HO4.out.drew'.andBelow hb6
            have HR6 : Hid (Rd w6 b (P + 1 + 4 * (k + 1))) := ((HR4.out.below ((Below.refl _ _).drew)).below hb6).weak (by omega)
            have H26 : Hid (∀ y ∈ putB L [byteOf l i, byteOf l j], y.length = 2) := fun y hy => by
              rcases (HPM.out y).1 hy with h | h
              · exact H2.out y h
              · rw [List.mem_singleton.1 h]; rfl
            have hl6 : (putB L [byteOf l i, byteOf l j]).length ≤ k + 1 := Nat.le_trans HPL.out (by simp; omega)
            clear hs6 hb6 HPT HPL HPM
            go_wp2
            go_roundw
            case rel => exact ⟨k + 1, v6, _, by omega, by go_num, rfl, HS6, hl6, H26, HO6, HR6⟩
            case measure => simp [intOf]; omega
      · by_cases he : i = j
        · subst he
          go_wp2_with fail
          refine (draw_any b (P + 1 + 4 * k + 3) 6 w4 HR4.out (by omega) (by omega) (by omega)).mono ?_
          rintro e w5 ⟨y, rfl, ⟨hy0, -⟩, ho5, hr5⟩
          have HR5 := Lib.hid hr5
          have HO5 : Hid (Only w w5 (· = b)) := HO4.out.trans ho5
          have HS5 : Hid (SolidTexts w5 w.heap.size vo (L.map strOf)) := ⟨HS4.out.1.far (fun g hg => ho5.block g (World.ownsRow.lt HS4.out.1 g hg).2 (by have := (World.ownsRow.lt HS4.out.1 g hg).1; omega)), HS4.out.2⟩
          clear hr5 ho5 HO4 HS4 HR4
          by_cases hy : y = 0
          · subst hy
            have ca := HCELL.out w5 i HO5.out hi
            have cb := HCELL.out w5 i HO5.out hi
            have HPT := Lib.hid (l4Put_any w.heap.size vo L [byteOf l i, byteOf l i] w5.drew ⟨HS5.out.1.far (fun _ _ => rfl), HS5.out.2⟩ HO5.out.size (by omega))
            unfold PutPost at HPT
            have HC : Hid ((⟨#[byteOf l i]⟩ : ByteArray) ++ ⟨#[byteOf l i]⟩ = strOf [byteOf l i, byteOf l i]) := rfl
            have HPL := Lib.hid (putAll_len [[byteOf l i, byteOf l i]] L)
            have HPM := Lib.hid (fun y => putAll_mem [[byteOf l i, byteOf l i]] L y)
            have hza : (⟨#[byteOf l i]⟩ : ByteArray).size = 1 := rfl
            have hzb : (⟨#[byteOf l i]⟩ : ByteArray).size = 1 := rfl
            have hia : ((i : Nat) : Int) < (l.length : Int) := by omega
            have hib : ((i : Nat) : Int) < (l.length : Int) := by omega
            generalize (⟨#[byteOf l i]⟩ : ByteArray) = sa at *
            go_wp2_with fail
            go_still_tail 12, (by kernel_rfl)
            change wpList _ _ _ _ _ w5.drew
            go_wp2_with fail
            rw [HC.out]
            refine Calls.mono HPT.out ?_
            rintro e w6 ⟨v6, rfl, hs6, hb6⟩
            have HS6 := Lib.hid hs6
            have HO6 : Hid (Only w w6 (· = b)) := HO5.out.drew'.andBelow hb6
            have HR6 : Hid (Rd w6 b (P + 1 + 4 * (k + 1))) := ((HR5.out.below ((Below.refl _ _).drew)).below hb6).weak (by omega)
            have H26 : Hid (∀ y ∈ putB L [byteOf l i, byteOf l i], y.length = 2) := fun y hy => by
              rcases (HPM.out y).1 hy with h | h
              · exact H2.out y h
              · rw [List.mem_singleton.1 h]; rfl
            have hl6 : (putB L [byteOf l i, byteOf l i]).length ≤ k + 1 := Nat.le_trans HPL.out (by simp; omega)
            clear hs6 hb6 HPT HPL HPM
            go_wp2
            go_roundw
            case rel => exact ⟨k + 1, v6, _, by omega, by go_num, rfl, HS6, hl6, H26, HO6, HR6⟩
            case measure => simp [intOf]; omega
          · have hy' : (y == 0) = false := beq_eq_false_iff_ne.2 hy
            have HR6 : Hid (Rd w5 b (P + 1 + 4 * (k + 1))) := HR5.out.weak (by omega)
            go_wp2
            go_roundw
            case rel => exact ⟨k + 1, vo, L, by omega, by go_num, rfl, HS5, by omega, H2, HO5, HR6⟩
            case measure => simp [intOf]; omega
        · have he' : ¬ (i : Int) = (j : Int) := by omega
          have he2 : ((i : Int) == (j : Int)) = false := beq_eq_false_iff_ne.2 he'
          have ca := HCELL.out w4 i HO4.out hi
          have cb := HCELL.out w4 j HO4.out hj
          have HPT := Lib.hid (l4Put_any w.heap.size vo L [byteOf l i, byteOf l j] w4.drew ⟨HS4.out.1.far (fun _ _ => rfl), HS4.out.2⟩ HO4.out.size (by omega))
          unfold PutPost at HPT
          have HC : Hid ((⟨#[byteOf l i]⟩ : ByteArray) ++ ⟨#[byteOf l j]⟩ = strOf [byteOf l i, byteOf l j]) := rfl
          have HPL := Lib.hid (putAll_len [[byteOf l i, byteOf l j]] L)
          have HPM := Lib.hid (fun y => putAll_mem [[byteOf l i, byteOf l j]] L y)
          have hza : (⟨#[byteOf l i]⟩ : ByteArray).size = 1 := rfl
          have hzb : (⟨#[byteOf l j]⟩ : ByteArray).size = 1 := rfl
          have hia : ((i : Nat) : Int) < (l.length : Int) := by omega
          have hib : ((j : Nat) : Int) < (l.length : Int) := by omega
          generalize (⟨#[byteOf l i]⟩ : ByteArray) = sa at *
          generalize (⟨#[byteOf l j]⟩ : ByteArray) = sb at *
          go_wp2_with fail
          go_still_tail 12, (by kernel_rfl)
          change wpList _ _ _ _ _ w4.drew
          go_wp2_with fail
          rw [HC.out]
          refine Calls.mono HPT.out ?_
          rintro e w6 ⟨v6, rfl, hs6, hb6⟩
          have HS6 := Lib.hid hs6
          have HO6 : Hid (Only w w6 (· = b)) := HO4.out.drew'.andBelow hb6
          have HR6 : Hid (Rd w6 b (P + 1 + 4 * (k + 1))) := ((HR4.out.below ((Below.refl _ _).drew)).below hb6).weak (by omega)
          have H26 : Hid (∀ y ∈ putB L [byteOf l i, byteOf l j], y.length = 2) := fun y hy => by
            rcases (HPM.out y).1 hy with h | h
            · exact H2.out y h
            · rw [List.mem_singleton.1 h]; rfl
          have hl6 : (putB L [byteOf l i, byteOf l j]).length ≤ k + 1 := Nat.le_trans HPL.out (by simp; omega)
          clear hs6 hb6 HPT HPL HPM
          go_wp2
          go_roundw
          case rel => exact ⟨k + 1, v6, _, by omega, by go_num, rfl, HS6, hl6, H26, HO6, HR6⟩
          case measure => simp [intOf]; omega
    · obtain rfl : k = m := by omega
      have HR9 : Hid (Rd wr b (P + 40)) := HRD.out.weak (by omega)
      go_wp2
      go_ret
      exact ⟨vo, L, rfl, HS.out, by omega, H2.out, HO.out, HR9.out⟩

end Go.Proofs.YtbmfbnlmdjnddaaGreat
