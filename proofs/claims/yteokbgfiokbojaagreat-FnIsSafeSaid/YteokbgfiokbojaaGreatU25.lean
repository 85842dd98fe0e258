/- Joined: Wb Ca Br. -/
import Derived.Test.YteokbgfiokbojaaGreatU24
import Derived.Test.YteokbgfiokbojaaGreatU02
import Derived.Deep.RegionWith
import Derived.Test.YteokbgfiokbojaaGreatU15
import Derived.Test.YteokbgfiokbojaaGreatU22
/- Draws of traces: a trace of a valid tree, a tree with a text. -/
namespace Go.Proofs.YteokbgfiokbojaaGreat
open Go.RowKit

set_option maxRecDepth 100000 in
set_option maxHeartbeats 2000000 in
theorem l4Good_any (b c P : Nat) (A : Option Addr) (l : List Seg) (w : World) (h1 : 1 ≤ l.length) (h9 : l.length ≤ 9) (hnm : ∀ s ∈ l, s.name.size ≤ 1) (hA : ∀ g o, A = some ⟨g, o, none⟩ → b < g) (hP : P ≤ 1000) (hr : Rd w b P) (hw : Segs w w.heap.size A l) :
    Calls Tryz.prog 63 #[.pointer (some ⟨b, 0, none⟩), .slice A l.length c] w (TextDrawn b P 870 80 w) := by
  have HD := Lib.hid (l4Draw_any b c A l h1 h9 hnm hA)
  have HW : Hid (Segs w w.heap.size A l) := hw
  have HNM := Lib.hid hnm
  have HAA := Lib.hid hA
  have HR := Lib.hid hr
  clear hr hw hnm hA
  go_enter Tryz.func63, Tryz.ntmps63
  go_wp2_with fail
  refine (draw_any b P 12 _ HR.out (by omega) (by omega) (by omega)).mono ?_
  rintro e w2 ⟨v, rfl, ⟨hv0, hv1⟩, ho2, hr2⟩
  have HO2 := Lib.hid ho2
  have HR2 := Lib.hid hr2
  clear ho2 hr2 hv1 HR
  by_cases hv : v = 0
  · subst hv
    go_wp2
    go_ret
    exact ⟨_, rfl, Nat.zero_le _, HO2.out, HR2.out.weak (by omega)⟩
  · go_wp2_with fail
    refine (draw_any b (P + 1) 4 _ HR2.out (by omega) (by omega) (by omega)).mono ?_
    rintro e w3 ⟨u, rfl, ⟨hu0, hu1⟩, ho3, hr3⟩
    obtain ⟨d, rfl⟩ := Int.eq_ofNat_of_zero_le hu0
    have hd3 : d ≤ 3 := by have := hu1 (by omega); omega
    have HO3 := Lib.hid (HO2.out.trans ho3)
    have HR3 := Lib.hid hr3
    have HW3 := Lib.hid (HW.out.farO HO3.out HAA.out)
    clear ho3 hr3 hu0 hu1 HO2 HR2
    have hK : 6 ^ d ≤ 216 := by
      have : d = 0 ∨ d = 1 ∨ d = 2 ∨ d = 3 := by omega
      rcases this with rfl | rfl | rfl | rfl <;> decide
    have HD2 := Lib.hid (HD.out d hd3 (P + 1 + 1) w3 (by omega) HR3.out HW3.out)
    clear HD HW3
    generalize 6 ^ d = K at *
    go_wp2_with fail
    refine HD2.out.mono ?_
    rintro e w4 ⟨x, rfl, hx, ho4, hr4⟩
    have HO4 := Lib.hid (HO3.out.trans ho4)
    have HR4 := Lib.hid (hr4.weak (Q := P + 870) (by omega))
    have hx6 : x.size ≤ 648 := by omega
    clear ho4 hr4 HR3 HD2 hx HO3
    by_cases h80 : x.size ≤ 80
    · have h80' : (x.size : Int) ≤ 80 := by omega
      go_wp2
      go_ret
      exact ⟨_, rfl, h80, HO4.out, HR4.out⟩
    · have h80' : 80 < (x.size : Int) := by omega
      have hsg : Segs w4 w4.heap.size A l := HW.out.farO HO4.out HAA.out
      obtain ⟨g, o, rfl, hgB, hc⟩ := hsg (by omega)
      obtain ⟨e1, e2, e3⟩ := hc 0 _ (List.getElem?_eq_getElem (by omega))
      have hns := HNM.out _ (List.getElem_mem (show 0 < l.length by omega))
      have h1' : (0 : Int) < (l.length : Int) := by omega
      rw [Nat.zero_mul, Nat.add_zero] at e1
      clear hc hsg
      generalize l[0] = sg at *
      go_wp2
      go_ret
      exact ⟨_, rfl, by omega, HO4.out, HR4.out⟩

/-- The texts that a trace is spoilt with. -/
def oddTexts : List ByteArray := [⟨#[]⟩, ⟨#[40]⟩, ⟨#[41]⟩, ⟨#[88]⟩, ⟨#[65]⟩, ⟨#[40, 41]⟩]
theorem oddTexts_size : ∀ x ∈ oddTexts, x.size ≤ 2 := by decide
/-- Nothing but the reader differs from `w`. -/
def Sat (w : World) (b q : Nat) (W : World) : Prop := Only w W (· = b) ∧ Rd W b q
theorem Sat.alloc {w W : World} {b q : Nat} (h : Hid (Sat w b q W)) (o : Obj) : Hid (Sat w b q (W.alloc o)) := Lib.hid ⟨h.out.1.andBelow ((Below.refl _ W).alloc (Nat.le_refl _) _), h.out.2.alloc o⟩
theorem ofS_any (w : World) (b q g : Nat) (W : World) (hs : Hid (Sat w b q W)) (hq : q ≤ 100000) (hx : Hid (Texts W b g 0 6 (· ∈ oddTexts))) :
    Calls Tryz.prog 62 #[.pointer (some ⟨b, 0, none⟩), .slice (some ⟨g, 0, none⟩) 6 6] W fun e w' => ∃ v : ByteArray, e = .returned (.string v) ∧ v.size ≤ 2 ∧ Only W w' (· = b) ∧ Hid (Sat w b (q + 1) w') := by
  refine (of_any b q g 0 6 6 _ W hs.out.2 (by omega) (by omega) (by omega) hx.out).mono ?_
  rintro e w' ⟨v, rfl, hv, ho, hr⟩
  exact ⟨v, rfl, oddTexts_size v hv, ho, Lib.hid ⟨hs.out.1.trans ho, hr⟩⟩
theorem pickS_any (w : World) (b q : Nat) (W : World) (hs : Hid (Sat w b q W)) (hq : q ≤ 100000) :
    Calls Tryz.prog 36 #[.pointer (some ⟨b, 0, none⟩), .int .i64 2] W fun e w' => ∃ v : Nat, e = .returned (.int .i64 v) ∧ v ≤ 1 ∧ Only W w' (· = b) ∧ Hid (Sat w b (q + 1) w') := by
  refine (draw_any b q 2 W hs.out.2 (by omega) (by omega) (by omega)).mono ?_
  rintro e w' ⟨v, rfl, ⟨h0, h1⟩, ho, hr⟩
  obtain ⟨k, rfl⟩ := Int.eq_ofNat_of_zero_le h0
  exact ⟨k, rfl, by have := h1 (by omega); omega, ho, Lib.hid ⟨hs.out.1.trans ho, hr⟩⟩
/-- What l4Some leaves: a slice of few segments, and a text. -/
def WithText (b P : Nat) (w : World) (e : Ending) (w' : World) : Prop :=
  ∃ A l c x, e = .returned (.tuple #[.slice A (List.length l) c, .string x]) ∧ (Segs w' w'.heap.size A l ∧ ∀ g o, A = some ⟨g, o, none⟩ → b < g) ∧ (l.length ≤ 9 ∧ l.length ≤ c ∧ c ≤ 9223372036854775807) ∧ (∀ s ∈ l, s.name.size ≤ 8) ∧ x.size ≤ 82 ∧ Only w w' (· = b) ∧ Rd w' b (P + 1000)

set_option maxRecDepth 100000 in
set_option maxHeartbeats 4000000 in
theorem l4Some_plain (hgood : GoodSaid) (b P : Nat) (w : World) (hr : Rd w b P) (hP : P ≤ 100) :
    Calls Tryz.prog 37 #[.pointer (some ⟨b, 0, none⟩)] w (WithText b P w) := by
  have HS := Lib.hid (l1Some_plain b P w hr (by omega) (fun w h => hgood b P w (by omega) h))
  have HBW := Lib.hid hr.lt
  clear hgood hr
  go_enter Tryz.func37, Tryz.ntmps37
  go_wp2_with fail
  refine Calls.mono HS.out ?_
  rintro e w1 ⟨A, l, c, rfl, hs, hl, hn, ho, hr1⟩
  have HV := Lib.hid (specTreeValid_any A l c w1 hs.1 (by omega) (fun s h => by have := hn s h; unfold maxLen; omega))
  have H1 := Lib.hid hs.1
  have HAA := Lib.hid hs.2
  have H2 := Lib.hid hl
  have H3 := Lib.hid hn
  have H4 := Lib.hid ho
  have H5 := Lib.hid hr1
  clear hs hl hn ho hr1 HS
  go_wp2_with fail
  refine HV.out.mono ?_
  rintro e w2 ⟨rfl, hb2⟩
  have H12 := Lib.hid ((H1.out.below hb2).more hb2.size)
  have HO2 := Lib.hid (H4.out.andBelow hb2)
  have HR2 := Lib.hid (H5.out.below hb2)
  clear hb2 HV H4 H5
  cases hv : validB l with
  | false =>
    have HR3 := Lib.hid (HR2.out.alloc (.cells #[Value.string ⟨#[]⟩, .string ⟨#[65]⟩, .string ⟨#[66]⟩] 9))
    have HX3 := Lib.hid (texts_new w2 b 9 [⟨#[]⟩, ⟨#[65]⟩, ⟨#[66]⟩] HR2.out.lt)
    go_wp2_with fail
    refine (of_any b (P + 50) w2.heap.size 0 3 3 _ _ HR3.out (by omega) (by omega) (by omega) HX3.out).mono ?_
    rintro e w3 ⟨x, rfl, hx, ho3, hr3⟩
    have HX : Hid (x.size ≤ 82) := by
      have : ∀ x ∈ ([⟨#[]⟩, ⟨#[65]⟩, ⟨#[66]⟩] : List ByteArray), x.size ≤ 82 := by decide
      exact this x hx
    have HO3 := Lib.hid (HO2.out.trans ho3.fresh)
    have HR4 := Lib.hid hr3
    have HS3 := Lib.hid (H12.out.farO ho3.fresh HAA.out)
    clear ho3 hr3 hx HX3 HR3
    go_wp2
    refine bodyPost_ret (v := .tuple #[.slice A l.length c, .string x]) (by simp [results, Tryz.results37, go_sem]) rfl ?_
    exact ⟨A, l, c, x, rfl, ⟨HS3.out, HAA.out⟩, H2.out, H3.out, HX.out, HO3.out, HR4.out.weak (by omega)⟩
  | true =>
    have hlen : 1 ≤ l.length := by
      cases l with
      | nil => cases hv
      | cons a r => simp
    have HG := Lib.hid (l4Good_any b c (P + 50) A l w2 hlen H2.out.1 (fun s hs => by obtain ⟨c, h, -⟩ := nameOk_one (validB_names hv hs); rw [h]; exact Nat.le_refl _) HAA.out (by omega) HR2.out H12.out)
    clear hlen hv HR2
    go_wp2_with fail
    refine HG.out.mono ?_
    rintro e w3 ⟨x, rfl, hx, ho3, hr3⟩
    have HO3 := Lib.hid (HO2.out.trans ho3)
    have HR3 := Lib.hid hr3
    have HS3 := Lib.hid (H12.out.farO ho3 HAA.out)
    clear ho3 hr3 HO2 H12 HG
    go_wp2_with fail
    refine (draw_any b (P + 50 + 870) 12 _ HR3.out (by omega) (by omega) (by omega)).mono ?_
    rintro e w4 ⟨v, rfl, ⟨hv0, hv1⟩, ho4, hr4⟩
    have HO4 := Lib.hid (HO3.out.trans ho4)
    have HR4 := Lib.hid hr4
    have HS4 := Lib.hid (HS3.out.farO ho4 HAA.out)
    clear ho4 hr4 HO3 HR3 HS3 hv1
    by_cases hv : v = 0
    · subst hv
      cases he : x.toList.isEmpty with
      | true =>
        go_wp2
        refine bodyPost_ret (v := .tuple #[.slice A l.length c, .string x]) (by simp [results, Tryz.results37, go_sem]) rfl ?_
        exact ⟨A, l, c, x, rfl, ⟨HS4.out, HAA.out⟩, H2.out, H3.out, by omega, HO4.out, HR4.out.weak (by omega)⟩
      | false =>
        have hx0 : x.size ≠ 0 := fun h => by
          rw [show x = ⟨#[]⟩ from ByteArray.ext (Array.eq_empty_of_size_eq_zero h)] at he
          revert he
          unfold ByteArray.toList ByteArray.toList.loop
          decide
        go_wp2_with fail
        refine (draw_any b (P + 50 + 870 + 1) x.size _ HR4.out (by omega) (by omega) (by omega)).mono ?_
        rintro e w5 ⟨k, rfl, ⟨hk0, hk1⟩, ho5, hr5⟩
        obtain ⟨k, rfl⟩ := Int.eq_ofNat_of_zero_le hk0
        have hk : k < x.size := by have := hk1 (by omega); omega
        have HO5 := Lib.hid (HO4.out.trans ho5)
        have HB5 := Lib.hid (Only.refl w5 (· = b)).drew'
        have HS5 := Lib.hid (HS4.out.farO ho5 HAA.out)
        have HR5 := Lib.hid hr5
        have HSAT : Hid (Sat w b (P + 50 + 870 + 1 + 1) w5.drew) := Lib.hid ⟨HO5.out.drew', HR5.out.below ((Below.refl _ w5).drew)⟩
        clear ho5 hr5 HO4 HR4 HS4 hk0 hk1
        have HT0 := Lib.hid (texts_new w5.drew b 9 oddTexts HSAT.out.2.lt)
        have hk0 : (0 : Int) ≤ (k : Int) := Int.natCast_nonneg _
        have hkx : (k : Int) ≤ (x.size : Int) := by omega
        have HQ := Lib.hid hP
        clear HB5 HO5 HR5 he hv0 hx0
        go_wp2_with fail
        go_region_with (first
          | (go_at_call 62; refine (ofS_any w b (P + 50 + 870 + 1 + 1) w5.heap.size _ (Sat.alloc HSAT _) (by have := HQ.out; omega) HT0).mono ?_; rintro e w6 ⟨y, rfl, HY, ho6, HSAT6⟩)
          | (go_at_call 36; refine (pickS_any w b (P + 50 + 870 + 1 + 1 + 1) w6 HSAT6 (by have := HQ.out; omega)).mono ?_; rintro e w7 ⟨j, rfl, hj, ho7, HSAT7⟩; obtain ⟨s, HSJ⟩ : ∃ s : Nat, Hid (s = k + j) := ⟨_, rfl⟩; have hws : IntKind.i64.wrap ((k : Int) + (j : Int)) = (s : Int) := (IntWalk.i64_in _ (by omega)).trans (by rw [HSJ.out]; rfl); have hsx : (s : Int) ≤ (x.size : Int) := by (rw [HSJ.out]; omega)))
        all_goals
          have HSF := Lib.hid (HS5.out.farO ((Only.refl w5 (· = b)).drew'.trans (ho6.fresh.trans ho7)) HAA.out)
          have HSZ : Hid ((x.extract 0 k ++ y ++ x.extract s x.size).size ≤ 82) := by
            show _ ≤ _
            rw [ByteArray.size_append, ByteArray.size_append, ByteArray.size_extract, ByteArray.size_extract]
            have := HSJ.out
            omega
          clear ho6 ho7 HS5 HSAT6 HSAT HT0
          go_wp2
          refine bodyPost_ret (v := .tuple #[.slice A l.length c, .string (x.extract 0 k ++ y ++ x.extract s x.size)]) (by simp [results, Tryz.results37, go_sem]) rfl ?_
          exact ⟨A, l, c, _, rfl, ⟨HSF.out, HAA.out⟩, H2.out, H3.out, HSZ.out, HSAT7.out.1, HSAT7.out.2.weak (by omega)⟩
    · go_wp2
      refine bodyPost_ret (v := .tuple #[.slice A l.length c, .string x]) (by simp [results, Tryz.results37, go_sem]) rfl ?_
      exact ⟨A, l, c, x, rfl, ⟨HS4.out, HAA.out⟩, H2.out, H3.out, by omega, HO4.out, HR4.out.weak (by omega)⟩

end Go.Proofs.YteokbgfiokbojaaGreat
/- Draws of chapter 6: calls that go down, and a tree with a text that is often a safe trace. -/
namespace Go.Proofs.YteokbgfiokbojaaGreat
open Go.RowKit

theorem kidsStr_few {l : List Seg} (h9 : l.length ≤ 9) (s : ByteArray) : (kidsStr l s).size ≤ 9 := by
  unfold kidsStr
  by_cases h : indexB l s < 0
  · rw [if_pos h]; exact Nat.zero_le _
  · rw [if_neg h]
    have hv := index_valid (l := l) (s := s) (by omega)
    have := kidNames_len (l := l) (fun s hs => by obtain ⟨c, h, -⟩ := nameOk_one (validB_names hv hs); rw [h]; exact Nat.le_refl _) (indexB l s).toNat l.length (Nat.le_refl _)
    omega
theorem list_none {x : ByteArray} (h : x.toList.isEmpty = false) : 0 < x.size := by
  refine Nat.pos_of_ne_zero fun h0 => ?_
  rw [show x = ⟨#[]⟩ from ByteArray.ext (Array.eq_empty_of_size_eq_zero h0)] at h
  revert h
  unfold ByteArray.toList ByteArray.toList.loop
  decide
def downNums : List Int := [1, 2, 1, 3]

set_option maxRecDepth 100000 in
set_option maxHeartbeats 2000000 in
theorem l6Down_any (b c : Nat) (A : Option Addr) (l : List Seg) (h9 : l.length ≤ 9) (hsh : Short l) (hA : ∀ g o, A = some ⟨g, o, none⟩ → b < g) :
    ∀ (d : Nat), d ≤ 3 → ∀ (P : Nat) (s : ByteArray) (w : World), P + 4 * 6 ^ d ≤ 10000 → Rd w b P → Segs w w.heap.size A l →
    Calls Tryz.prog 39 #[.pointer (some ⟨b, 0, none⟩), .slice A l.length c, .string s, .int .i64 d] w (TextDrawn b P (4 * 6 ^ d) (3 * 6 ^ d) w) := by
  intro d
  induction d with
  | zero =>
    intro _ P s w hP hr hw
    have hP : P ≤ 9996 := by have h : P + 4 * 6 ^ 0 ≤ 10000 := hP; rw [Nat.pow_zero] at h; omega
    have HC := Lib.hid (specChildren_any A l c s w hw (by omega) hsh)
    have hk9 := kidsStr_few h9 s
    have HR0 := Lib.hid hr
    clear hr hw hsh
    generalize kidsStr l s = ks at *
    go_enter Tryz.func39, Tryz.ntmps39
    go_wp2_with fail
    refine Calls.mono HC.out ?_
    rintro e w1 ⟨rfl, hb⟩
    have HO1 : Hid (Only w w1 (· = b)) := (Only.refl w (· = b)).andBelow hb
    have HR1 : Hid (Rd w1 b P) := HR0.out.below hb
    have HR := Lib.hid (HR1.out.alloc (.cells #[.int .i64 1, .int .i64 2, .int .i64 1, .int .i64 3] 3))
    have HX := Lib.hid (nums_new w1 b 3 downNums HR1.out.lt)
    clear hb HC HR0
    go_wp2_with fail
    refine (num_any b P w1.heap.size 0 4 4 (· ∈ downNums) _ HR.out (by omega) (by omega) (by omega) HX.out).mono ?_
    rintro e w2 ⟨n, rfl, hn, ho, hr1⟩
    have HO := Lib.hid (HO1.out.trans ho.fresh)
    have HR2 := Lib.hid hr1
    obtain ⟨m, rfl, hm3⟩ : ∃ m : Nat, n = (m : Int) ∧ m ≤ 3 := by
      have h : ∀ x ∈ downNums, 0 ≤ x ∧ x ≤ 3 := by decide
      obtain ⟨h2, h3⟩ := h n hn
      exact ⟨n.toNat, by omega, by omega⟩
    clear ho hr1 hn HX HR HO1 HR1
    go_wp2
    go_loopw [9, 23] (fun x i wr => x = .string ⟨#[]⟩ ∧ i = .int .i64 0 ∧ Hid (Only w wr (· = b)) ∧ Hid (Rd wr b (P + 1)))
      (fun _ i _ => m - (intOf i).toNat)
    case atStart => exact ⟨rfl, rfl, HO, HR2⟩
    case round =>
      obtain ⟨rfl, rfl, HOk, HRk⟩ := hrel
      clear HO HR2
      by_cases hlt : 0 < m
      · have hlt' : (0 : Int) < (m : Int) := by omega
        cases he : ks.toList.isEmpty with
        | true =>
          go_wp2
          go_ret
          exact ⟨_, rfl, Nat.zero_le _, HOk.out, HRk.out.weak (by omega)⟩
        | false =>
          go_wp2
          go_ret
          exact ⟨_, rfl, Nat.zero_le _, HOk.out, HRk.out.weak (by omega)⟩
      · obtain rfl : m = 0 := by omega
        go_wp2
        go_ret
        exact ⟨_, rfl, Nat.zero_le _, HOk.out, HRk.out.weak (by omega)⟩
  | succ d ih =>
    intro hd P s w hP hr hw
    have hK : 1 ≤ 6 ^ d ∧ 6 ^ d ≤ 36 := by
      have : d = 0 ∨ d = 1 ∨ d = 2 := by omega
      rcases this with rfl | rfl | rfl <;> decide
    have hK2 : 6 ^ (d + 1) = 6 * 6 ^ d := by rw [Nat.pow_succ]; omega
    have IH := Lib.hid (fun P s w hP hr hw => ih (by omega) P s w hP hr hw)
    rw [hK2] at hP ⊢
    clear ih hK2
    generalize 6 ^ d = K at *
    have HC := Lib.hid (specChildren_any A l c s w hw (by omega) hsh)
    have hk9 := kidsStr_few h9 s
    have HR0 := Lib.hid hr
    have HW0 : Hid (Segs w w.heap.size A l) := hw
    have HAA := Lib.hid hA
    clear hr hw hsh hA
    generalize kidsStr l s = ks at *
    go_enter Tryz.func39, Tryz.ntmps39
    go_wp2_with fail
    refine Calls.mono HC.out ?_
    rintro e w1 ⟨rfl, hb⟩
    have HO1 : Hid (Only w w1 (· = b)) := (Only.refl w (· = b)).andBelow hb
    have HR1 : Hid (Rd w1 b P) := HR0.out.below hb
    have HR := Lib.hid (HR1.out.alloc (.cells #[.int .i64 1, .int .i64 2, .int .i64 1, .int .i64 3] 3))
    have HX := Lib.hid (nums_new w1 b 3 downNums HR1.out.lt)
    clear hb HC HR0
    go_wp2_with fail
    refine (num_any b P w1.heap.size 0 4 4 (· ∈ downNums) _ HR.out (by omega) (by omega) (by omega) HX.out).mono ?_
    rintro e w2 ⟨n, rfl, hn, ho, hr1⟩
    have HO := Lib.hid (HO1.out.trans ho.fresh)
    have HR2 := Lib.hid hr1
    obtain ⟨m, rfl, hm3⟩ : ∃ m : Nat, n = (m : Int) ∧ m ≤ 3 := by
      have h : ∀ x ∈ downNums, 0 ≤ x ∧ x ≤ 3 := by decide
      obtain ⟨h2, h3⟩ := h n hn
      exact ⟨n.toNat, by omega, by omega⟩
    clear ho hr1 hn HX HR HO1 HR1
    go_wp2
    go_loopw [9, 23] (fun s i wr => ∃ (k z q : Nat) (x : ByteArray), k ≤ m ∧ s = .string x ∧ i = .int .i64 k ∧ x.size ≤ z ∧ Hid (z = k * (3 + 3 * K)) ∧ Hid (q = k * (1 + 4 * K)) ∧ z ≤ 1000 ∧ q ≤ 1000 ∧ Hid (Only w wr (· = b)) ∧ Hid (Rd wr b (P + 1 + q)))
      (fun _ i _ => m - (intOf i).toNat)
    case atStart => exact ⟨0, 0, 0, _, Nat.zero_le _, rfl, rfl, Nat.le_refl _, Lib.hid (by omega), Lib.hid (by omega), by omega, by omega, HO, HR2⟩
    case round =>
      obtain ⟨k, z, q, x, hk, rfl, rfl, hx, HZ, HQ, hz9, hq9, HOk, HRk⟩ := hrel
      clear HO HR2
      have hfin : Hid (z ≤ 18 * K ∧ 1 + q ≤ 24 * K) := Lib.hid (by
        rw [HZ.out, HQ.out]
        have : k = 0 ∨ k = 1 ∨ k = 2 ∨ k = 3 := by omega
        rcases this with rfl | rfl | rfl | rfl <;> omega)
      by_cases hlt : k < m
      · have hlt' : (k : Int) < (m : Int) := by omega
        have hzz : z + (3 + 3 * K) ≤ 1000 ∧ q + (1 + 4 * K) ≤ 1000 ∧ q ≤ 2 + 8 * K := by
          rw [HZ.out, HQ.out]
          have : k = 0 ∨ k = 1 ∨ k = 2 := by omega
          rcases this with rfl | rfl | rfl <;> omega
        have HZN : Hid (z + (3 + 3 * K) = (k + 1) * (3 + 3 * K)) := Lib.hid ((congrArg (· + (3 + 3 * K)) HZ.out).trans (Nat.succ_mul k (3 + 3 * K)).symm)
        have HQN : Hid (q + (1 + 4 * K) = (k + 1) * (1 + 4 * K)) := Lib.hid ((congrArg (· + (1 + 4 * K)) HQ.out).trans (Nat.succ_mul k (1 + 4 * K)).symm)
        cases he : ks.toList.isEmpty with
        | true =>
          go_wp2
          go_ret
          exact ⟨_, rfl, by have := hfin.out.1; omega, HOk.out, HRk.out.weak (by have := hfin.out.2; omega)⟩
        | false =>
          have hks := list_none he
          have hd0 : ((d + 1 : Nat) : Int) ≠ 0 := by omega
          go_wp2_with fail
          refine (draw_any b (P + 1 + q) ks.size _ HRk.out (by omega) (by omega) (by omega)).mono ?_
          rintro e w3 ⟨v, rfl, ⟨hv0, hv1⟩, ho3, hr3⟩
          obtain ⟨j, rfl⟩ := Int.eq_ofNat_of_zero_le hv0
          have hj : j < ks.size := by have := hv1 (by omega); omega
          have hj' : (j : Int) < (ks.size : Int) := by omega
          have hj1 : (j : Int) + 1 ≤ (ks.size : Int) := by omega
          have hj0 : (0 : Int) ≤ (j : Int) := Int.natCast_nonneg _
          have HO3 := Lib.hid (HOk.out.trans ho3)
          have HR3 := Lib.hid hr3
          have HW3 : Hid (Segs w3 w3.heap.size A l) := HW0.out.farO HO3.out HAA.out
          clear ho3 hr3 hv0 hv1 HOk HRk
          go_wp2_with fail
          have hxs : (x ++ ks.extract j (j + 1)).size ≤ z + 1 := by
            rw [ByteArray.size_append, ByteArray.size_extract]
            omega
          refine (IH.out (P + 1 + q + 1) _ _ (by omega) HR3.out HW3.out).mono ?_
          rintro e w4 ⟨r, rfl, hrs, ho4, hr4⟩
          have HO4 := Lib.hid (HO3.out.trans ho4)
          have HR4 := Lib.hid (hr4.weak (Q := P + 1 + (q + (1 + 4 * K))) (by omega))
          have hr6 : r.size ≤ 200 := by omega
          generalize x ++ ks.extract j (j + 1) = y at *
          have hy6 : y.size ≤ 2000 := by omega
          have hys : (y ++ ⟨#[40]⟩ ++ r ++ ⟨#[41]⟩).size ≤ z + (3 + 3 * K) := by
            have a1 : (⟨#[40]⟩ : ByteArray).size = 1 := rfl
            have a2 : (⟨#[41]⟩ : ByteArray).size = 1 := rfl
            rw [ByteArray.size_append, ByteArray.size_append, ByteArray.size_append, a1, a2]
            omega
          clear ho4 hr4 HR3 HO3 HW3
          cases hre : r.toList.isEmpty with
          | true =>
            go_wp2
            go_roundw
            case rel => exact ⟨k + 1, _, _, _, by omega, rfl, by go_num, by omega, HZN, HQN, hzz.1, hzz.2.1, HO4, HR4⟩
            case measure => simp [intOf]; omega
          | false =>
            go_wp2
            go_roundw
            case rel => exact ⟨k + 1, _, _, _, by omega, rfl, by go_num, hys, HZN, HQN, hzz.1, hzz.2.1, HO4, HR4⟩
            case measure => simp [intOf]; omega
      · obtain rfl : k = m := by omega
        go_wp2
        go_ret
        exact ⟨x, rfl, by have := hfin.out.1; omega, HOk.out, HRk.out.weak (by have := hfin.out.2; omega)⟩

/-- What l6Some leaves. -/
def DownPost (b : Nat) (w : World) (e : Ending) (w' : World) : Prop :=
  ∃ A l c x, e = .returned (.tuple #[.slice A (List.length l) c, .string x]) ∧ TreeHas w' A l c ∧ x.size ≤ 82 ∧ Only w w' (· = b)

set_option maxRecDepth 100000 in
set_option maxHeartbeats 2000000 in
theorem l6Some_plain (hgood : GoodSaid) (b P : Nat) (w : World) (hr : Rd w b P) (hP : P ≤ 50) :
    Calls Tryz.prog 14 #[.pointer (some ⟨b, 0, none⟩)] w (DownPost b w) := by
  have HS := Lib.hid (fun w h => l4Some_plain hgood b (P + 1) w h (by omega))
  have HG := Lib.hid (fun w h => hgood b (P + 1) w (by omega) h)
  have HR := Lib.hid hr
  clear hgood hr
  go_enter Tryz.func14, Tryz.ntmps14
  go_wp2_with fail
  refine (draw_any b P 2 w HR.out (by omega) (by omega) (by omega)).mono ?_
  rintro e w1 ⟨n, rfl, ⟨hn0, hn1⟩, ho, hr1⟩
  have HO1 := Lib.hid ho
  have HR1 := Lib.hid hr1
  have HBW := Lib.hid hr1.lt
  clear ho hr1 hn1 HR
  by_cases h0 : n = 0
  · subst h0
    go_wp2_with fail
    refine Calls.mono (HS.out w1 HR1.out) ?_
    rintro e w2 ⟨A, l, c, x, rfl, ⟨hs, hs'⟩, hl, hsh, hxx, ho, hr2⟩
    have HT : Hid (TreeHas w2 A l c) := ⟨hs, hl, hsh⟩
    have HO2 := Lib.hid (HO1.out.trans ho)
    have HX := Lib.hid hxx
    clear hs hs' hl hsh hxx ho hr2
    go_wp2
    refine bodyPost_ret (v := .tuple #[.slice A l.length c, .string x]) (by simp [results, Tryz.results14, go_sem]) rfl ?_
    exact ⟨A, l, c, x, rfl, HT.out, HX.out, HO2.out⟩
  · have h0' : ¬ n = 0 := h0
    go_wp2_with fail
    refine Calls.mono (HG.out w1 HR1.out) ?_
    rintro e w2 ⟨v, l, rfl, hd, ho, hr2⟩
    obtain ⟨g, c, rfl, hg, hlc, hcm⟩ := hd.own.slice hd.some
    have hS2 : Segs w2 w2.heap.size (some ⟨g, 0, none⟩) l := by
      obtain ⟨A', c', e', hs⟩ := hd.own.form
      cases e'
      exact hs
    have HA : Hid (∀ g' o', (some ⟨g, 0, none⟩ : Option Addr) = some ⟨g', o', none⟩ → b < g') := fun g' o' e => by cases e; exact Nat.lt_of_lt_of_le HBW.out hg
    have h8 : l.length ≤ 9 := by have := hd.few; omega
    have h1 : 0 < l.length := hd.some
    have HN := Lib.hid hd.short
    have HSH : Hid (Short l) := fun s hs => Nat.le_trans (hd.short s hs) (by decide)
    have HO2 := Lib.hid (HO1.out.trans ho)
    have HR2 := Lib.hid hr2
    have HW2 := Lib.hid hS2
    obtain ⟨g', o', eg, hgB, hc⟩ := hS2 h1
    cases eg
    obtain ⟨e1, e2, e3⟩ := hc 0 _ (List.getElem?_eq_getElem h1)
    rw [Nat.zero_mul, Nat.add_zero] at e1
    have hl0 : (0 : Int) < (l.length : Int) := by omega
    clear hc hS2 hd ho hr2 HG HS HO1 HR1
    generalize l[0] = sg at *
    have hk : Hid (4 * 6 ^ 3 = 864 ∧ 3 * 6 ^ 3 = 648) := Lib.hid (by decide)
    go_wp2_with fail
    refine (l6Down_any b c (some ⟨g, 0, none⟩) l h8 HSH.out HA.out 3 (Nat.le_refl _) (P + 1 + 40) sg.name w2 (by have := hk.out.1; omega) HR2.out HW2.out).mono ?_
    rintro e w3 ⟨x, rfl, hx, ho3, hr3⟩
    have HO3 := Lib.hid (HO2.out.trans ho3)
    have HS3 : Hid (Segs w3 w3.heap.size (some ⟨g, 0, none⟩) l) := HW2.out.farO ho3 HA.out
    have hx6 : x.size ≤ 648 := by have := hk.out.2; omega
    clear hx ho3 hr3 hk e1 e2 e3
    by_cases hb : 80 < x.size
    · have hb' : (80 : Int) < (x.size : Int) := by omega
      go_wp2
      refine bodyPost_ret (v := .tuple #[.slice (some ⟨g, 0, none⟩) l.length c, .string ⟨#[]⟩]) (by simp [results, Tryz.results14, go_sem]) rfl ?_
      exact ⟨_, l, c, _, rfl, ⟨HS3.out, ⟨h8, hlc, hcm⟩, HN.out⟩, Nat.zero_le _, HO3.out⟩
    · have hb' : ¬ (80 : Int) < (x.size : Int) := by omega
      go_wp2
      refine bodyPost_ret (v := .tuple #[.slice (some ⟨g, 0, none⟩) l.length c, .string x]) (by simp [results, Tryz.results14, go_sem]) rfl ?_
      exact ⟨_, l, c, x, rfl, ⟨HS3.out, ⟨h8, hlc, hcm⟩, HN.out⟩, by omega, HO3.out⟩

set_option maxRecDepth 100000 in
set_option maxHeartbeats 1000000 in
theorem drawIsSafe_plain (hgood : GoodSaid) (A0 : Option Addr) (n c0 : Nat) (w : World) (hn : n ≤ c0) (hx : ∀ b, w.heap.size ≤ b → Bytes w b A0 n) :
    Calls Tryz.prog 4 #[.slice A0 n c0] w fun e w' => ∃ A l c x, e = .returned (.tuple #[.slice A (List.length l) c, .string x]) ∧ TreeHas w' A l c ∧ x.size ≤ 82 ∧ Below w.heap.size w w' := by
  have HO := Lib.hid (l13Open_any A0 n c0 w hn hx)
  have HP := Lib.hid (fun b w h => l6Some_plain hgood b 0 w h (Nat.zero_le _))
  clear hx hgood
  go_enter Tryz.func4, Tryz.ntmps4
  go_wp2_with fail
  refine Calls.mono HO.out ?_
  rintro e w1 ⟨b, rfl, hbb, hr, hb1⟩
  have HB1 := Lib.hid hb1
  have HPP := Lib.hid (HP.out b w1 hr)
  clear hr hb1 HP HO
  go_wp2_with fail
  refine Calls.mono HPP.out ?_
  rintro e w2 ⟨A, l, c, x, rfl, hT, hxx, ho⟩
  have HT := Lib.hid hT
  have HB2 := Lib.hid (only_below HB1.out hbb ho)
  have HX := Lib.hid hxx
  clear hT hxx ho HPP
  go_wp2
  refine bodyPost_ret (v := .tuple #[.slice A l.length c, .string x]) (by simp [results, Tryz.results4, go_sem]) rfl ?_
  exact ⟨A, l, c, x, rfl, HT.out, HX.out, HB2.out⟩

end Go.Proofs.YteokbgfiokbojaaGreat
/- The program's UnsafeChains and IsSafe: chains struck out, sorted, compacted. -/
namespace Go.Proofs.YteokbgfiokbojaaGreat
open Go.RowKit Go.Shelf

/-- A row of texts of the call's own whose cells hold an array's texts. -/
def OwnD (W : World) (B g cap : Nat) (d : Array Txt) : Prop := OwnTexts W B (.slice (some ⟨g, 0, none⟩) (d.toList.map strOf).length cap) (d.toList.map strOf)
theorem OwnD.cell {W : World} {B g cap : Nat} {d : Array Txt} (h : OwnD W B g cap d) {j : Nat} (hj : j < d.size) : W.cell? ⟨g, j, none⟩ = some (.string (strOf d[j]!)) := by
  have h1 : (d.toList.map strOf)[j]? = some (strOf d[j]!) := by
    rw [List.getElem?_map, getElem!_pos d j hj]
    simp [hj]
  exact St.textsCell h h1
theorem OwnD.free {W : World} {B g cap : Nat} {d : Array Txt} (h : OwnD W B g cap d) (j : Nat) : W.frozen? ⟨g, j, none⟩ = false := St.textsFree h j
theorem OwnD.below {W W' : World} {B g cap : Nat} {d : Array Txt} (h : OwnD W B g cap d) (hb : Below W.heap.size W W') : OwnD W' B g cap d := OwnTexts.below h hb
theorem OwnD.store {W : World} {B g cap : Nat} {d : Array Txt} (h : OwnD W B g cap d) (i : Nat) (u : Txt) : OwnD (W.setCell ⟨g, i, none⟩ (.string (strOf u))) B g cap (d.setIfInBounds i u) := by
  have h1 := St.textsStore h i (strOf u)
  have e : (d.setIfInBounds i u).toList.map strOf = (d.toList.map strOf).set i (strOf u) := by rw [Array.toList_setIfInBounds, List.map_set]
  unfold OwnD
  rw [e, List.length_set]
  exact h1
theorem OwnD.lt {W : World} {B g cap : Nat} {d : Array Txt} (h : OwnD W B g cap d) : B ≤ g ∧ g < W.heap.size := World.ownsRow.lt h g rfl
theorem OwnD.cap {W : World} {B g cap : Nat} {d : Array Txt} (h : OwnD W B g cap d) : d.size ≤ cap ∧ cap ≤ maxLen := by
  rcases h.2 with ⟨h0, _⟩ | ⟨g', cap', cur, e, _, _, h1, h2, _⟩
  · cases h0
  · injection e with _ _ e3
    rw [e3]
    exact ⟨by simpa using h1, h2⟩
/-- The row's head. -/
def HeadD (W : World) (B g cap k : Nat) (ts : List Txt) : Prop := W.ownsRow B 9 1 (.slice (some ⟨g, 0, none⟩) k cap) k (ts.map txtV)
theorem OwnD.head {W : World} {B g cap : Nat} {d : Array Txt} (h : OwnD W B g cap d) {k : Nat} (hk : k ≤ d.size) {ts : List Txt} (ht : d.toList.take k = ts) : HeadD W B g cap k ts := by
  rcases h.2 with ⟨h0, _⟩ | ⟨g', cap', cur, e, hB, hh, h1, h2, h3, h4⟩
  · cases h0
  · injection e with e1 _ e3
    injection e1 with e1
    injection e1 with e1
    subst e1 e3 ht
    have hl : (d.toList.map strOf).length = d.size := by simp
    rw [hl] at h1 h4
    refine ⟨by simp; omega, .inr ⟨g, cap, cur, rfl, hB, hh, by omega, h2, h3, ?_⟩⟩
    have h5 := congrArg (List.take k) h4
    rw [List.take_take, Nat.mul_one, Nat.min_eq_left hk] at h5
    rw [Nat.mul_one, h5, List.map_take, List.map_map]
    rfl
theorem HeadD.set {W : World} {B g cap k : Nat} {ts : List Txt} (h : HeadD W B g cap k ts) {j : Nat} (hj : k ≤ j) (u : Value) : HeadD (W.setCell ⟨g, j, none⟩ u) B g cap k ts := by
  refine ⟨h.1, ?_⟩
  rcases h.2 with ⟨h0, _⟩ | ⟨g', cap', cur, e, hB, hh, h1, h2, h3, h4⟩
  · cases h0
  · injection e with e1 _ e3
    injection e1 with e1
    injection e1 with e1
    subst e1 e3
    have hr : Row W g 9 cur := hh
    refine .inr ⟨g, cap, _, rfl, hB, hr.put j u, h1, h2, by simpa using h3, ?_⟩
    rw [← h4, Array.toList_setIfInBounds, List.take_set]
    exact List.set_eq_of_length_le (by rw [List.length_take]; omega)
theorem HeadD.sets {B g cap k : Nat} {ts : List Txt} : ∀ (us : List Value) (j : Nat) {W : World}, HeadD W B g cap k ts → k ≤ j → HeadD (W.setCells g j us) B g cap k ts
  | [], _, _, h, _ => h
  | u :: us, j, _, h, hj => HeadD.sets us (j + 1) (h.set hj u) (by omega)
theorem only_sets {g : Nat} : ∀ (us : List Value) (j : Nat) {w W : World}, Only w W (· = g) → Only w (W.setCells g j us) (· = g)
  | [], _, _, _, h => h
  | u :: us, j, _, _, h => only_sets us (j + 1) (h.set j u)
theorem HeadD.texts {W : World} {B g cap : Nat} {ts : List Txt} (h : HeadD W B g cap ts.length ts) : OwnTexts W B (.slice (some ⟨g, 0, none⟩) ts.length cap) (ts.map strOf) := by
  unfold OwnTexts
  rw [List.length_map, List.map_map]
  exact h

/-- What the closure that strikes chains out reads: the tree in its box. -/
structure BoxHeld (W : World) (B bx : Nat) (A : Option Addr) (l : List Seg) (c : Nat) : Prop where
  box : Row W bx 23 #[.slice A l.length c]
  segs : Segs W B A l
  low : B ≤ W.heap.size
theorem BoxHeld.only {W W' : World} {B bx g : Nat} {A : Option Addr} {l : List Seg} {c : Nat} (h : BoxHeld W B bx A l c) (ho : Only W W' (· = g)) (hg : B ≤ g) (hne : bx ≠ g) : BoxHeld W' B bx A l c :=
  ⟨ho.row h.box hne, h.segs.below (Only.below (Below.refl _ W) ho h.low (fun k hk e => by omega)), Nat.le_trans h.low ho.size⟩

set_option maxRecDepth 100000 in
set_option maxHeartbeats 1000000 in
theorem struck_any (A : Option Addr) (l : List Seg) (c B bx : Nat) (x : Txt) (W : World) (h : BoxHeld W B bx A l c) (hl : l.length ≤ 1048576) (hlc : l.length ≤ c) (hcm : c ≤ 9223372036854775807) (hn : Short l) (hx : x.length ≤ 9) :
    Calls Tryz.prog 17 #[.string (strOf x), .pointer (some ⟨bx, 0, none⟩)] W fun e w' => e = .returned (.bool (liesB l (strOf x))) ∧ Below W.heap.size W w' := by
  have c0 : W.cell? ⟨bx, 0, none⟩ = some (.slice A l.length c) := h.box.cell 0
  have HL := Lib.hid (chainLies_any A l c (strOf x) W (h.segs.more h.low) hl hlc hcm hn (by rw [str_size]; omega))
  clear h hn
  generalize strOf x = z at *
  go_enter Tryz.func17, Tryz.ntmps17
  go_wp2_with fail
  refine Calls.mono HL.out ?_
  rintro e w1 ⟨rfl, hb⟩
  go_wp2
  go_ret
  exact ⟨rfl, hb⟩

/-- Where the first text stands for which a truth holds. -/
def FirstAt (p : Txt → Bool) (d : Array Txt) (r : Int) : Prop := (r = -1 ∧ ∀ j, j < d.size → p d[j]! = false) ∨ ∃ k : Nat, k < d.size ∧ r = (k : Int) ∧ p d[k]! = true ∧ ∀ j, j < k → p d[j]! = false

set_option maxRecDepth 100000 in
set_option maxHeartbeats 1000000 in
theorem indexStruck_any (A : Option Addr) (l : List Seg) (c B bx g cap : Nat) (d : Array Txt) (W : World) (h : BoxHeld W B bx A l c) (hD : OwnD W B g cap d) (hx : ∀ j, j < d.size → d[j]!.length ≤ 9) (hd : d.size ≤ 80) (hl : l.length ≤ 1048576) (hlc : l.length ≤ c) (hcm : c ≤ 9223372036854775807) (hn : Short l) :
    Calls Tryz.prog 40 #[.slice (some ⟨g, 0, none⟩) d.size cap, .func (.func 17) #[] #[.pointer (some ⟨bx, 0, none⟩)]] W fun e w' => (∃ r : Int, e = .returned (.int .i64 r) ∧ FirstAt (fun x => liesB l (strOf x)) d r) ∧ Below W.heap.size W w' := by
  have HH : Hid (∀ W' x, Below W.heap.size W W' → x.length ≤ 9 → Calls Tryz.prog 17 #[.string (strOf x), .pointer (some ⟨bx, 0, none⟩)] W' fun e w' => e = .returned (.bool (liesB l (strOf x))) ∧ Below W'.heap.size W' w') := fun W' x hb hx =>
    struck_any A l c B bx x W' ⟨h.box.below hb h.box.lt, h.segs.below (hb.mono h.low), Nat.le_trans h.low hb.size⟩ hl hlc hcm hn hx
  have HD := Lib.hid hD
  have HX := Lib.hid hx
  have heg : ∀ args w, (callFunc 17 args).run Tryz.prog w = .ok (.enter 17 args) w := enters_of Tryz.func17 (by kernel_rfl) rfl
  clear h hD hx hn
  go_enter Tryz.func40, Tryz.ntmps40
  go_wp2
  go_loopw [8] (fun i wr => ∃ k : Nat, k ≤ d.size ∧ i = .int .i64 k ∧ Hid (∀ j, j < k → liesB l (strOf d[j]!) = false) ∧ Hid (Below W.heap.size W wr))
    (fun i _ => d.size - (intOf i).toNat)
  case atStart => exact ⟨0, Nat.zero_le _, rfl, fun j hj => absurd hj (Nat.not_lt_zero _), Below.refl _ _⟩
  case round =>
    obtain ⟨k, hk, rfl, HK, HB⟩ := hrel
    have hk0 : (0 : Int) ≤ (k : Int) := Int.natCast_nonneg _
    by_cases hlt : k < d.size
    · have hlt' : (k : Int) < (d.size : Int) := by omega
      have c0 := (HD.out.below HB.out).cell hlt
      have HC := Lib.hid (HH.out wr d[k]! HB.out (HX.out k hlt))
      obtain ⟨x, hxe⟩ : ∃ x, x = d[k]! := ⟨_, rfl⟩
      have HXE := Lib.hid hxe
      rw [← hxe] at c0 HC
      clear hxe
      cases hq : liesB l (strOf x) with
      | false =>
        rw [hq] at HC
        have HK1 : Hid (∀ j, j < k + 1 → liesB l (strOf d[j]!) = false) := by
          show ∀ j, _
          intro j hj
          by_cases hjk : j = k
          · subst hjk; rw [← HXE.out]; exact hq
          · exact HK.out j (by omega)
        clear hq HXE
        generalize strOf x = z at *
        go_wp2_with (go_at_fn 17; refine Calls.mono HC.out ?_; rintro e w1 ⟨rfl, hb1⟩)
        have HB1 : Hid (Below W.heap.size W w1) := HB.out.trans (hb1.mono HB.out.size)
        clear hb1
        go_roundw
        case rel => exact ⟨k + 1, by omega, by go_num, HK1, HB1⟩
        case measure => simp [intOf]; omega
      | true =>
        rw [hq] at HC
        have HF : Hid (FirstAt (fun x => liesB l (strOf x)) d (k : Int)) := .inr ⟨k, hlt, rfl, by rw [← HXE.out]; exact hq, HK.out⟩
        clear hq HXE HK
        generalize strOf x = z at *
        go_wp2_with (go_at_fn 17; refine Calls.mono HC.out ?_; rintro e w1 ⟨rfl, hb1⟩)
        have HB1 : Hid (Below W.heap.size W w1) := HB.out.trans (hb1.mono HB.out.size)
        clear hb1
        go_ret
        exact ⟨⟨_, rfl, HF.out⟩, HB1.out⟩
    · obtain rfl : k = d.size := by omega
      have HF : Hid (FirstAt (fun x => liesB l (strOf x)) d (-1)) := .inl ⟨rfl, HK.out⟩
      clear HK
      go_wp2
      go_ret
      exact ⟨⟨_, rfl, HF.out⟩, HB.out⟩

/-- What is behind slices.DeleteFunc: the texts that are kept, at the row's head. -/
def StruckPost (W : World) (B g cap : Nat) (ts : List Txt) (e : Ending) (w' : World) : Prop :=
  e = .returned (.slice (some ⟨g, 0, none⟩) ts.length cap) ∧ HeadD w' B g cap ts.length ts ∧ Only W w' (· = g)

set_option maxRecDepth 100000 in
set_option maxHeartbeats 2000000 in
theorem deleteStruck_any (A : Option Addr) (l : List Seg) (c B bx g cap : Nat) (d : Array Txt) (W : World) (h : BoxHeld W B bx A l c) (hne : bx ≠ g) (hD : OwnD W B g cap d) (hx : ∀ j, j < d.size → d[j]!.length ≤ 9) (hd : d.size ≤ 80) (hl : l.length ≤ 1048576) (hlc : l.length ≤ c) (hcm : c ≤ 9223372036854775807) (hn : Short l) :
    Calls Tryz.prog 16 #[.slice (some ⟨g, 0, none⟩) d.size cap, .func (.func 17) #[] #[.pointer (some ⟨bx, 0, none⟩)]] W (StruckPost W B g cap (d.toList.filter (apartB l))) := by
  have hI := indexStruck_any A l c B bx g cap d W h hD hx hd hl hlc hcm hn
  obtain ⟨hcap, hcapm⟩ := hD.cap
  unfold maxLen at hcapm
  obtain ⟨kp, HK⟩ : ∃ kp : Nat → Bool, Hid (kp = fun j => apartB l d[j]!) := ⟨_, rfl⟩
  have hfil : d.toList.filter (apartB l) = Lib.keptUpTo kp d d.size := by rw [HK.out]; exact (Lib.keptUpTo_filter (apartB l) d).symm
  rw [hfil]
  have HH : Hid (∀ W' x, Only W W' (· = g) → x.length ≤ 9 → Calls Tryz.prog 17 #[.string (strOf x), .pointer (some ⟨bx, 0, none⟩)] W' fun e w' => e = .returned (.bool (liesB l (strOf x))) ∧ Below W'.heap.size W' w') := fun W' x ho hx =>
    struck_any A l c B bx x W' (h.only ho hD.lt.1 hne) hl hlc hcm hn hx
  have heg : ∀ args w, (callFunc 17 args).run Tryz.prog w = .ok (.enter 17 args) w := enters_of Tryz.func17 (by kernel_rfl) rfl
  have HD := Lib.hid hD
  have HX := Lib.hid hx
  have HI := Lib.hid hI
  clear h hD hx hn hI hfil
  go_enter Tryz.func16, Tryz.ntmps16
  go_wp2_with fail
  refine Calls.mono HI.out ?_
  rintro e w1 ⟨⟨r, rfl, hr⟩, hb1⟩
  rcases hr with ⟨rfl, hall⟩ | ⟨k0, hk0, rfl, htrue, hall⟩
  · have hkeep : ∀ j, j < d.size → kp j = true := fun j hj => by
      rw [HK.out]
      show (!liesB l (strOf d[j]!)) = true
      rw [show liesB l (strOf d[j]!) = false from hall j hj]; rfl
    have HE : Hid (Lib.keptUpTo kp d d.size = d.toList) := (Lib.keptUpTo_all kp d _ hkeep).trans (Lib.range_map_get d)
    have HF : Hid (StruckPost W B g cap (Lib.keptUpTo kp d d.size) (.returned (.slice (some ⟨g, 0, none⟩) d.size cap)) w1) := by
      show StruckPost _ _ _ _ _ _ _
      rw [HE.out]
      have h1 := (HD.out.below hb1).head (k := d.size) (Nat.le_refl _) (ts := d.toList) (List.take_of_length_le (by simp))
      exact ⟨by simp, by simpa using h1, Only.andBelow (Only.refl W _) hb1⟩
    clear hall hkeep hb1
    go_wp2
    go_ret
    exact HF.out
  · have hkeep : ∀ j, j < k0 → kp j = true := fun j hj => by
      rw [HK.out]
      show (!liesB l (strOf d[j]!)) = true
      rw [show liesB l (strOf d[j]!) = false from hall j hj]; rfl
    have hdrop : kp k0 = false := by
      rw [HK.out]
      show (!liesB l (strOf d[k0]!)) = false
      rw [show liesB l (strOf d[k0]!) = true from htrue]; rfl
    have HI0 : Hid (Lib.KeptInv kp d (k0 + 1) k0 d) := Lib.KeptInv.start hkeep hdrop
    have HD1 : Hid (OwnD w1 B g cap d) := HD.out.below hb1
    have HO1 : Hid (Only W w1 (· = g)) := Only.andBelow (Only.refl W _) hb1
    have hne1 : ((k0 : Int) == -1) = false := beq_eq_false_iff_ne.2 (by omega)
    clear hall htrue hkeep hdrop hb1 HD HI
    go_wp2
    go_loopw [5, 6] (fun s5 s6 wr => ∃ (i j : Nat) (dk : Array Txt), s5 = .int .i64 i ∧ s6 = .int .i64 j ∧ j ≤ d.size ∧ Hid (Lib.KeptInv kp d j i dk) ∧ Hid (OwnD wr B g cap dk) ∧ Hid (Only W wr (· = g)))
      (fun _ s6 _ => d.size - (intOf s6).toNat)
    case atStart => exact ⟨k0, k0 + 1, d, rfl, by go_num, by omega, HI0, HD1, HO1⟩
    case round =>
      obtain ⟨i, j, dk, rfl, rfl, hjd, HIv, HDk, HOk⟩ := hrel
      clear HI0 HD1 HO1
      have hij := HIv.out.lt
      have hds := HIv.out.size
      have hj0 : (0 : Int) ≤ (j : Int) := Int.natCast_nonneg _
      have hi0 : (0 : Int) ≤ (i : Int) := Int.natCast_nonneg _
      by_cases hlt : j < d.size
      · have hlt' : (j : Int) < (d.size : Int) := by omega
        have hil' : (i : Int) < (d.size : Int) := by omega
        have cj := HDk.out.cell (j := j) (by omega)
        rw [HIv.out.high j (by omega)] at cj
        have HC := Lib.hid (HH.out wr d[j]! HOk.out (HX.out j hlt))
        obtain ⟨u, hue⟩ : ∃ u, u = d[j]! := ⟨_, rfl⟩
        have HUE := Lib.hid hue
        rw [← hue] at cj HC
        clear hue
        cases hq : liesB l (strOf u) with
        | false =>
          rw [hq] at HC
          have HI1 : Hid (Lib.KeptInv kp d (j + 1) (i + 1) (dk.setIfInBounds i u)) := by
            show Lib.KeptInv _ _ _ _ _
            rw [HUE.out]
            refine HIv.out.keep hlt ?_
            rw [HK.out]
            show (!liesB l (strOf d[j]!)) = true
            rw [← HUE.out, hq]; rfl
          have HST := Lib.hid (fun W' (hb : Below wr.heap.size wr W') => (HDk.out.below hb).store i u)
          have HCI : Hid (∀ W', Below wr.heap.size wr W' → (∃ old, W'.cell? ⟨g, i, none⟩ = some old) ∧ W'.frozen? ⟨g, i, none⟩ = false) := fun W' hb => ⟨⟨_, (HDk.out.below hb).cell (j := i) (by omega)⟩, (HDk.out.below hb).free i⟩
          clear hq HUE HIv
          generalize strOf u = z at *
          go_wp2_with (go_at_fn 17; refine Calls.mono HC.out ?_; rintro e w2 ⟨rfl, hb2⟩; obtain ⟨⟨old, d0⟩, z0⟩ := HCI.out w2 hb2)
          have HD2 := Lib.hid (HST.out w2 hb2)
          have HO2 : Hid (Only W (w2.setCell ⟨g, i, none⟩ (.string z)) (· = g)) := (Only.andBelow HOk.out hb2).set i _
          clear hb2 d0 z0 HST HCI HDk HOk
          go_roundw
          case rel => exact ⟨i + 1, j + 1, _, by go_num, by go_num, by omega, HI1, HD2, HO2⟩
          case measure => simp [intOf]; omega
        | true =>
          rw [hq] at HC
          have HI1 : Hid (Lib.KeptInv kp d (j + 1) i dk) := HIv.out.skip (by
            rw [HK.out]
            show (!liesB l (strOf d[j]!)) = false
            rw [← HUE.out, hq]; rfl)
          clear hq HUE HIv
          generalize strOf u = z at *
          go_wp2_with (go_at_fn 17; refine Calls.mono HC.out ?_; rintro e w2 ⟨rfl, hb2⟩)
          have HD2 := Lib.hid (HDk.out.below hb2)
          have HO2 : Hid (Only W w2 (· = g)) := Only.andBelow HOk.out hb2
          clear hb2 HDk HOk
          go_roundw
          case rel => exact ⟨i, j + 1, _, rfl, by go_num, by omega, HI1, HD2, HO2⟩
          case measure => simp [intOf]; omega
      · obtain rfl : j = d.size := by omega
        have hltz : ¬ (d.size : Int) < (d.size : Int) := by omega
        have hcl : ∀ ty, (Builtin.clear_ #[27] ty #[.slice (some ⟨g, i, none⟩) (d.size - i) (cap - i)]).run Tryz.prog wr = .ok (.tuple #[]) (wr.setCells g i (List.replicate (d.size - i) (.string ByteArray.empty))) :=
          fun ty => Lib.run_clear_slice wr _ _ ty _ Tryz.underlying27 Tryz.zeroValue9 rfl rfl g i _ _ (by omega) (fun t ht => by rw [HDk.out.cell (j := i + t) (by omega)]; rfl) (fun t ht => HDk.out.free _)
        have HLN := HIv.out.len
        have HHD : Hid (HeadD (wr.setCells g i (List.replicate (d.size - i) (.string ByteArray.empty))) B g cap (Lib.keptUpTo kp d d.size).length (Lib.keptUpTo kp d d.size)) := by
          show HeadD _ _ _ _ _ _
          rw [HLN]
          refine HeadD.sets _ _ (HDk.out.head (k := i) (by omega) ?_) (Nat.le_refl _)
          apply List.ext_getElem?
          intro q
          by_cases hq : q < i
          · rw [HIv.out.low q hq, List.getElem?_take_of_lt hq, getElem!_pos dk q (by omega)]
            simp
          · rw [List.getElem?_eq_none (by rw [List.length_take]; omega), List.getElem?_eq_none (by omega)]
        have HOF : Hid (Only W (wr.setCells g i (List.replicate (d.size - i) (.string ByteArray.empty))) (· = g)) := only_sets _ _ HOk.out
        have HLH := Lib.hid HLN
        have hci : ¬ cap = i := by omega
        clear HIv HDk HOk HLN
        go_wp2
        go_ret
        refine ⟨by rw [HLH.out]; rfl, HHD.out, HOF.out⟩

end Go.Proofs.YteokbgfiokbojaaGreat
