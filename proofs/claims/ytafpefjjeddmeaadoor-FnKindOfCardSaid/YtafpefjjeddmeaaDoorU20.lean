/- Joined: Wa Wb Xb Bx Xa Fl Xc. -/
import Derived.Test.YtafpefjjeddmeaaDoorU19
import Derived.Test.YtafpefjjeddmeaaDoorU02
import Derived.Test.YtafpefjjeddmeaaDoorU03
import Derived.Test.YtafpefjjeddmeaaDoorU08
import Derived.Deep.RegionWith
import Derived.Test.YtafpefjjeddmeaaDoorU17
import Derived.Test.YtafpefjjeddmeaaDoorU14
import Derived.Test.YtafpefjjeddmeaaDoorU15
import Derived.Test.YtafpefjjeddmeaaDoorU16
/- Draws of traces: calls within a tree. -/
namespace Go.Proofs.YtafpefjjeddmeaaDoor
open Go.RowKit

/-- What a draw of a text leaves. -/
def TextDrawn (b P Q n : Nat) (w : World) (e : Ending) (w' : World) : Prop := ∃ x : ByteArray, e = .returned (.string x) ∧ x.size ≤ n ∧ Only w w' (· = b) ∧ Rd w' b (P + Q)
theorem TextDrawn.weak {b P Q n Q' n' : Nat} {w : World} {e : Ending} {w' : World} (h : TextDrawn b P Q n w e w') (hQ : Q ≤ Q') (hn : n ≤ n') : TextDrawn b P Q' n' w e w' := by
  obtain ⟨x, h1, h2, h3, h4⟩ := h
  exact ⟨x, h1, Nat.le_trans h2 hn, h3, h4.weak (by omega)⟩
def countNums : List Int := [2, 1, 3, 2]

set_option maxRecDepth 100000 in
set_option maxHeartbeats 2000000 in
theorem l4Draw_any (b c : Nat) (A : Option Addr) (l : List Seg) (h1 : 1 ≤ l.length) (h9 : l.length ≤ 9) (hnm : ∀ s ∈ l, s.name.size ≤ 1) (hA : ∀ g o, A = some ⟨g, o, none⟩ → b < g) :
    ∀ (d : Nat), d ≤ 3 → ∀ (P : Nat) (w : World), P + 4 * 6 ^ d ≤ 10000 → Rd w b P → Segs w w.heap.size A l →
    Calls Tryd.prog 54 #[.pointer (some ⟨b, 0, none⟩), .slice A l.length c, .int .i64 d] w (TextDrawn b P (4 * 6 ^ d) (3 * 6 ^ d) w) := by
  intro d
  induction d with
  | zero =>
    intro _ P w hP hr hw
    have hP : P ≤ 9996 := by have h : P + 4 * 6 ^ 0 ≤ 10000 := hP; rw [Nat.pow_zero] at h; omega
    have HW : Hid (Segs w w.heap.size A l) := hw
    have HNM := Lib.hid hnm
    have HAA := Lib.hid hA
    have HR := Lib.hid (hr.alloc (.cells #[.int .i64 2, .int .i64 1, .int .i64 3, .int .i64 2] 3))
    have HX := Lib.hid (nums_new w b 3 countNums hr.lt)
    have hbw := hr.lt
    clear hr hw hnm hA
    go_enter Tryd.func54, Tryd.ntmps54
    go_wp2_with fail
    refine (num_any b P w.heap.size 0 4 4 (· ∈ countNums) _ HR.out (by omega) (by omega) (by omega) HX.out).mono ?_
    rintro e w1 ⟨n, rfl, hn, ho, hr1⟩
    have HO := Lib.hid ho.fresh
    have HR1 := Lib.hid hr1
    obtain ⟨m, rfl, hm3⟩ : ∃ m : Nat, n = (m : Int) ∧ m ≤ 3 := by
      have h : ∀ x ∈ countNums, 0 ≤ x ∧ x ≤ 3 := by decide
      obtain ⟨h2, h3⟩ := h n hn
      exact ⟨n.toNat, by omega, by omega⟩
    clear ho hr1 hn HX HR
    go_wp2
    go_loopw [7, 11] (fun s i wr => ∃ (k : Nat) (x : ByteArray), k ≤ m ∧ s = .string x ∧ i = .int .i64 k ∧ x.size ≤ k ∧ Hid (Only w wr (· = b)) ∧ Hid (Rd wr b (P + 1 + k)))
      (fun _ i _ => m - (intOf i).toNat)
    case atStart => exact ⟨0, _, Nat.zero_le _, rfl, rfl, Nat.le_refl _, HO, HR1⟩
    case round =>
      obtain ⟨k, x, hk, rfl, rfl, hx, HOk, HRk⟩ := hrel
      clear HO HR1
      by_cases hlt : k < m
      · have hlt' : (k : Int) < (m : Int) := by omega
        go_wp2_with fail
        refine (draw_any b (P + 1 + k) l.length _ HRk.out (by omega) (by omega) (by omega)).mono ?_
        rintro e w2 ⟨v, rfl, ⟨hv0, hv1⟩, ho2, hr2⟩
        obtain ⟨j, rfl⟩ := Int.eq_ofNat_of_zero_le hv0
        have hj : j < l.length := by have := hv1 (by omega); omega
        have hj' : (j : Int) < (l.length : Int) := by omega
        have hj0 : (0 : Int) ≤ (j : Int) := Int.natCast_nonneg _
        have HO2 := Lib.hid (HOk.out.trans ho2)
        have HR2 := Lib.hid (hr2.weak (Q := P + 1 + (k + 1)) (by omega))
        have hsg : Segs w2 w2.heap.size A l := HW.out.farO HO2.out HAA.out
        obtain ⟨g, o, rfl, hgB, hc⟩ := hsg (by omega)
        obtain ⟨e1, e2, e3⟩ := hc j _ (List.getElem?_eq_getElem hj)
        have hns := HNM.out _ (List.getElem_mem hj)
        have hxs : (x ++ l[j].name).size ≤ k + 1 := by rw [ByteArray.size_append]; omega
        clear hc ho2 hr2 hv0 hv1 hsg HOk HRk
        generalize l[j] = sg at *
        go_wp2
        go_roundw
        case rel => exact ⟨k + 1, _, by omega, rfl, by go_num, hxs, HO2, HR2⟩
        case measure => simp [intOf]; omega
      · obtain rfl : k = m := by omega
        go_wp2
        go_ret
        exact ⟨x, rfl, by omega, HOk.out, HRk.out.weak (by omega)⟩
  | succ d ih =>
    intro hd P w hP hr hw
    have hK : 1 ≤ 6 ^ d ∧ 6 ^ d ≤ 36 := by
      have : d = 0 ∨ d = 1 ∨ d = 2 := by omega
      rcases this with rfl | rfl | rfl <;> decide
    have hK2 : 6 ^ (d + 1) = 6 * 6 ^ d := by rw [Nat.pow_succ]; omega
    have IH := Lib.hid (fun P w hP hr hw => ih (by omega) P w hP hr hw)
    rw [hK2] at hP ⊢
    clear ih hK2
    generalize 6 ^ d = K at *
    have HW : Hid (Segs w w.heap.size A l) := hw
    have HNM := Lib.hid hnm
    have HAA := Lib.hid hA
    have HR := Lib.hid (hr.alloc (.cells #[.int .i64 2, .int .i64 1, .int .i64 3, .int .i64 2] 3))
    have HX := Lib.hid (nums_new w b 3 countNums hr.lt)
    have hbw := hr.lt
    clear hr hw hnm hA
    go_enter Tryd.func54, Tryd.ntmps54
    go_wp2_with fail
    refine (num_any b P w.heap.size 0 4 4 (· ∈ countNums) _ HR.out (by omega) (by omega) (by omega) HX.out).mono ?_
    rintro e w1 ⟨n, rfl, hn, ho, hr1⟩
    have HO := Lib.hid ho.fresh
    have HR1 := Lib.hid hr1
    obtain ⟨m, rfl, hm3⟩ : ∃ m : Nat, n = (m : Int) ∧ m ≤ 3 := by
      have h : ∀ x ∈ countNums, 0 ≤ x ∧ x ≤ 3 := by decide
      obtain ⟨h2, h3⟩ := h n hn
      exact ⟨n.toNat, by omega, by omega⟩
    clear ho hr1 hn HX HR
    go_wp2
    go_loopw [7, 11] (fun s i wr => ∃ (k z q : Nat) (x : ByteArray), k ≤ m ∧ s = .string x ∧ i = .int .i64 k ∧ x.size ≤ z ∧ Hid (z = k * (3 + 3 * K)) ∧ Hid (q = k * (2 + 4 * K)) ∧ z ≤ 1000 ∧ q ≤ 1000 ∧ Hid (Only w wr (· = b)) ∧ Hid (Rd wr b (P + 1 + q)))
      (fun _ i _ => m - (intOf i).toNat)
    case atStart => exact ⟨0, 0, 0, _, Nat.zero_le _, rfl, rfl, Nat.le_refl _, Lib.hid (by omega), Lib.hid (by omega), by omega, by omega, HO, HR1⟩
    case round =>
      obtain ⟨k, z, q, x, hk, rfl, rfl, hx, HZ, HQ, hz9, hq9, HOk, HRk⟩ := hrel
      clear HO HR1
      by_cases hlt : k < m
      · have hlt' : (k : Int) < (m : Int) := by omega
        have hzz : z + (3 + 3 * K) ≤ 1000 ∧ q + (2 + 4 * K) ≤ 1000 ∧ q ≤ 4 + 8 * K := by
          rw [HZ.out, HQ.out]
          have : k = 0 ∨ k = 1 ∨ k = 2 := by omega
          rcases this with rfl | rfl | rfl <;> omega
        have HZN : Hid (z + (3 + 3 * K) = (k + 1) * (3 + 3 * K)) := Lib.hid ((congrArg (· + (3 + 3 * K)) HZ.out).trans (Nat.succ_mul k (3 + 3 * K)).symm)
        have HQN : Hid (q + (2 + 4 * K) = (k + 1) * (2 + 4 * K)) := Lib.hid ((congrArg (· + (2 + 4 * K)) HQ.out).trans (Nat.succ_mul k (2 + 4 * K)).symm)
        go_wp2_with fail
        refine (draw_any b (P + 1 + q) l.length _ HRk.out (by omega) (by omega) (by omega)).mono ?_
        rintro e w2 ⟨v, rfl, ⟨hv0, hv1⟩, ho2, hr2⟩
        obtain ⟨j, rfl⟩ := Int.eq_ofNat_of_zero_le hv0
        have hj : j < l.length := by have := hv1 (by omega); omega
        have hj' : (j : Int) < (l.length : Int) := by omega
        have hj0 : (0 : Int) ≤ (j : Int) := Int.natCast_nonneg _
        have HO2 := Lib.hid (HOk.out.trans ho2)
        have HR2 := Lib.hid hr2
        have hsg : Segs w2 w2.heap.size A l := HW.out.farO HO2.out HAA.out
        obtain ⟨g, o, rfl, hgB, hc⟩ := hsg (by omega)
        obtain ⟨e1, e2, e3⟩ := hc j _ (List.getElem?_eq_getElem hj)
        have hns := HNM.out _ (List.getElem_mem hj)
        have hxs : (x ++ l[j].name).size ≤ z + 1 := by rw [ByteArray.size_append]; omega
        clear hc ho2 hr2 hv0 hv1 hsg HOk HRk
        generalize l[j] = sg at *
        have hd0 : (0 : Int) < ((d + 1 : Nat) : Int) := by omega
        go_wp2_with fail
        refine (draw_any b (P + 1 + q + 1) 3 _ HR2.out (by omega) (by omega) (by omega)).mono ?_
        rintro e w3 ⟨u, rfl, ⟨hu0, hu1⟩, ho3, hr3⟩
        have HO3 := Lib.hid (HO2.out.trans ho3)
        have HR3 := Lib.hid hr3
        clear ho3 hr3 hu1
        generalize x ++ sg.name = y at *
        by_cases hu : u = 0
        · subst hu
          go_wp2_with fail
          refine (IH.out (P + 1 + q + 2) _ (by omega) HR3.out (HW.out.farO HO3.out HAA.out)).mono ?_
          rintro e w4 ⟨r, rfl, hrs, ho4, hr4⟩
          have HO4 := Lib.hid (HO3.out.trans ho4)
          have HR4 := Lib.hid (hr4.weak (Q := P + 1 + (q + (2 + 4 * K))) (by omega))
          have hys : (y ++ ⟨#[40]⟩ ++ r ++ ⟨#[41]⟩).size ≤ z + (3 + 3 * K) := by
            have a1 : (⟨#[40]⟩ : ByteArray).size = 1 := rfl
            have a2 : (⟨#[41]⟩ : ByteArray).size = 1 := rfl
            rw [ByteArray.size_append, ByteArray.size_append, ByteArray.size_append, a1, a2]
            omega
          have hr6 : r.size ≤ 200 := by omega
          have hy6 : y.size ≤ 2000 := by omega
          clear ho4 hr4 HR3 HO3 HR2 HO2 e1
          go_wp2
          go_roundw
          case rel => exact ⟨k + 1, _, _, _, by omega, rfl, by go_num, hys, HZN, HQN, hzz.1, hzz.2.1, HO4, HR4⟩
          case measure => simp [intOf]; omega
        · have HR4 := Lib.hid (HR3.out.weak (Q := P + 1 + (q + (2 + 4 * K))) (by omega))
          clear HR3 HR2 HO2 e1
          go_wp2
          go_roundw
          case rel => exact ⟨k + 1, _, _, _, by omega, rfl, by go_num, by omega, HZN, HQN, hzz.1, hzz.2.1, HO3, HR4⟩
          case measure => simp [intOf]; omega
      · obtain rfl : k = m := by omega
        have hkz : z ≤ 18 * K ∧ 1 + q ≤ 24 * K := by
          rw [HZ.out, HQ.out]
          have : k = 0 ∨ k = 1 ∨ k = 2 ∨ k = 3 := by omega
          rcases this with rfl | rfl | rfl | rfl <;> omega
        go_wp2
        go_ret
        exact ⟨x, rfl, by omega, HOk.out, HRk.out.weak (by omega)⟩

end Go.Proofs.YtafpefjjeddmeaaDoor
/- Draws of traces: a trace of a valid tree, a tree with a text. -/
namespace Go.Proofs.YtafpefjjeddmeaaDoor
open Go.RowKit

set_option maxRecDepth 100000 in
set_option maxHeartbeats 2000000 in
theorem l4Good_any (b c P : Nat) (A : Option Addr) (l : List Seg) (w : World) (h1 : 1 ≤ l.length) (h9 : l.length ≤ 9) (hnm : ∀ s ∈ l, s.name.size ≤ 1) (hA : ∀ g o, A = some ⟨g, o, none⟩ → b < g) (hP : P ≤ 1000) (hr : Rd w b P) (hw : Segs w w.heap.size A l) :
    Calls Tryd.prog 34 #[.pointer (some ⟨b, 0, none⟩), .slice A l.length c] w (TextDrawn b P 870 80 w) := by
  have HD := Lib.hid (l4Draw_any b c A l h1 h9 hnm hA)
  have HW : Hid (Segs w w.heap.size A l) := hw
  have HNM := Lib.hid hnm
  have HAA := Lib.hid hA
  have HR := Lib.hid hr
  clear hr hw hnm hA
  go_enter Tryd.func34, Tryd.ntmps34
  go_wp2_with fail
  refine (draw_any b P 12 _ HR.out (by omega) (by omega) (by omega)).mono ?_
  rintro e w2 ⟨v, rfl, ⟨hv0, hv1⟩, ho2, hr2⟩
  have HO2 := Lib.hid ho2
  have HR2 := Lib.hid hr2
  clear ho2 hr2 hv1 HR
  by_cases hv : v = 0
  · subst hv
    go_wp2
    go_ret
    exact ⟨_, rfl, Nat.zero_le _, HO2.out, HR2.out.weak (by omega)⟩
  · go_wp2_with fail
    refine (draw_any b (P + 1) 4 _ HR2.out (by omega) (by omega) (by omega)).mono ?_
    rintro e w3 ⟨u, rfl, ⟨hu0, hu1⟩, ho3, hr3⟩
    obtain ⟨d, rfl⟩ := Int.eq_ofNat_of_zero_le hu0
    have hd3 : d ≤ 3 := by have := hu1 (by omega); omega
    have HO3 := Lib.hid (HO2.out.trans ho3)
    have HR3 := Lib.hid hr3
    have HW3 := Lib.hid (HW.out.farO HO3.out HAA.out)
    clear ho3 hr3 hu0 hu1 HO2 HR2
    have hK : 6 ^ d ≤ 216 := by
      have : d = 0 ∨ d = 1 ∨ d = 2 ∨ d = 3 := by omega
      rcases this with rfl | rfl | rfl | rfl <;> decide
    have HD2 := Lib.hid (HD.out d hd3 (P + 1 + 1) w3 (by omega) HR3.out HW3.out)
    clear HD HW3
    generalize 6 ^ d = K at *
    go_wp2_with fail
    refine HD2.out.mono ?_
    rintro e w4 ⟨x, rfl, hx, ho4, hr4⟩
    have HO4 := Lib.hid (HO3.out.trans ho4)
    have HR4 := Lib.hid (hr4.weak (Q := P + 870) (by omega))
    have hx6 : x.size ≤ 648 := by omega
    clear ho4 hr4 HR3 HD2 hx HO3
    by_cases h80 : x.size ≤ 80
    · have h80' : (x.size : Int) ≤ 80 := by omega
      go_wp2
      go_ret
      exact ⟨_, rfl, h80, HO4.out, HR4.out⟩
    · have h80' : 80 < (x.size : Int) := by omega
      have hsg : Segs w4 w4.heap.size A l := HW.out.farO HO4.out HAA.out
      obtain ⟨g, o, rfl, hgB, hc⟩ := hsg (by omega)
      obtain ⟨e1, e2, e3⟩ := hc 0 _ (List.getElem?_eq_getElem (by omega))
      have hns := HNM.out _ (List.getElem_mem (show 0 < l.length by omega))
      have h1' : (0 : Int) < (l.length : Int) := by omega
      rw [Nat.zero_mul, Nat.add_zero] at e1
      clear hc hsg
      generalize l[0] = sg at *
      go_wp2
      go_ret
      exact ⟨_, rfl, by omega, HO4.out, HR4.out⟩

/-- The texts that a trace is spoilt with. -/
def oddTexts : List ByteArray := [⟨#[]⟩, ⟨#[40]⟩, ⟨#[41]⟩, ⟨#[88]⟩, ⟨#[65]⟩, ⟨#[40, 41]⟩]
theorem oddTexts_size : ∀ x ∈ oddTexts, x.size ≤ 2 := by decide
/-- Nothing but the reader differs from `w`. -/
def Sat (w : World) (b q : Nat) (W : World) : Prop := Only w W (· = b) ∧ Rd W b q
theorem Sat.alloc {w W : World} {b q : Nat} (h : Hid (Sat w b q W)) (o : Obj) : Hid (Sat w b q (W.alloc o)) := Lib.hid ⟨h.out.1.andBelow ((Below.refl _ W).alloc (Nat.le_refl _) _), h.out.2.alloc o⟩
theorem ofS_any (w : World) (b q g : Nat) (W : World) (hs : Hid (Sat w b q W)) (hq : q ≤ 100000) (hx : Hid (Texts W b g 0 6 (· ∈ oddTexts))) :
    Calls Tryd.prog 33 #[.pointer (some ⟨b, 0, none⟩), .slice (some ⟨g, 0, none⟩) 6 6] W fun e w' => ∃ v : ByteArray, e = .returned (.string v) ∧ v.size ≤ 2 ∧ Only W w' (· = b) ∧ Hid (Sat w b (q + 1) w') := by
  refine (of_any b q g 0 6 6 _ W hs.out.2 (by omega) (by omega) (by omega) hx.out).mono ?_
  rintro e w' ⟨v, rfl, hv, ho, hr⟩
  exact ⟨v, rfl, oddTexts_size v hv, ho, Lib.hid ⟨hs.out.1.trans ho, hr⟩⟩
theorem pickS_any (w : World) (b q : Nat) (W : World) (hs : Hid (Sat w b q W)) (hq : q ≤ 100000) :
    Calls Tryd.prog 35 #[.pointer (some ⟨b, 0, none⟩), .int .i64 2] W fun e w' => ∃ v : Nat, e = .returned (.int .i64 v) ∧ v ≤ 1 ∧ Only W w' (· = b) ∧ Hid (Sat w b (q + 1) w') := by
  refine (draw_any b q 2 W hs.out.2 (by omega) (by omega) (by omega)).mono ?_
  rintro e w' ⟨v, rfl, ⟨h0, h1⟩, ho, hr⟩
  obtain ⟨k, rfl⟩ := Int.eq_ofNat_of_zero_le h0
  exact ⟨k, rfl, by have := h1 (by omega); omega, ho, Lib.hid ⟨hs.out.1.trans ho, hr⟩⟩
theorem texts_far {w w' : World} {b g n : Nat} {Q : ByteArray → Prop} (h : Texts w b g 0 n Q) (ho : Only w w' (· = b)) : Texts w' b g 0 n Q := by
  obtain ⟨h1, h2, h3⟩ := h
  refine ⟨h1, Nat.lt_of_lt_of_le h2 ho.size, fun i hi => ?_⟩
  obtain ⟨v, hv, hq⟩ := h3 i hi
  exact ⟨v, by rw [only_cell ho h1 h2]; exact hv, hq⟩

/-- What l4Some leaves: a slice of few segments, and a text. -/
def WithText (b P : Nat) (w : World) (e : Ending) (w' : World) : Prop :=
  ∃ A l c x, e = .returned (.tuple #[.slice A (List.length l) c, .string x]) ∧ (Segs w' w'.heap.size A l ∧ ∀ g o, A = some ⟨g, o, none⟩ → b < g) ∧ (l.length ≤ 9 ∧ l.length ≤ c ∧ c ≤ 9223372036854775807) ∧ (∀ s ∈ l, s.name.size ≤ 8) ∧ x.size ≤ 82 ∧ Only w w' (· = b) ∧ Rd w' b (P + 1000)

set_option maxRecDepth 100000 in
set_option maxHeartbeats 4000000 in
theorem l4Some_plain (hgood : GoodSaid) (b P : Nat) (w : World) (hr : Rd w b P) (hP : P ≤ 100) :
    Calls Tryd.prog 20 #[.pointer (some ⟨b, 0, none⟩)] w (WithText b P w) := by
  have HS := Lib.hid (l1Some_plain b P w hr (by omega) (fun w h => hgood b P w (by omega) h))
  have HBW := Lib.hid hr.lt
  clear hgood hr
  go_enter Tryd.func20, Tryd.ntmps20
  go_wp2_with fail
  refine Calls.mono HS.out ?_
  rintro e w1 ⟨A, l, c, rfl, hs, hl, hn, ho, hr1⟩
  have HV := Lib.hid (specTreeValid_any A l c w1 hs.1 (by omega) (fun s h => by have := hn s h; unfold maxLen; omega))
  have H1 := Lib.hid hs.1
  have HAA := Lib.hid hs.2
  have H2 := Lib.hid hl
  have H3 := Lib.hid hn
  have H4 := Lib.hid ho
  have H5 := Lib.hid hr1
  clear hs hl hn ho hr1 HS
  go_wp2_with fail
  refine HV.out.mono ?_
  rintro e w2 ⟨rfl, hb2⟩
  have H12 := Lib.hid ((H1.out.below hb2).more hb2.size)
  have HO2 := Lib.hid (H4.out.andBelow hb2)
  have HR2 := Lib.hid (H5.out.below hb2)
  clear hb2 HV H4 H5
  cases hv : validB l with
  | false =>
    have HR3 := Lib.hid (HR2.out.alloc (.cells #[Value.string ⟨#[]⟩, .string ⟨#[65]⟩, .string ⟨#[66]⟩] 9))
    have HX3 := Lib.hid (texts_new w2 b 9 [⟨#[]⟩, ⟨#[65]⟩, ⟨#[66]⟩] HR2.out.lt)
    go_wp2_with fail
    refine (of_any b (P + 50) w2.heap.size 0 3 3 _ _ HR3.out (by omega) (by omega) (by omega) HX3.out).mono ?_
    rintro e w3 ⟨x, rfl, hx, ho3, hr3⟩
    have HX : Hid (x.size ≤ 82) := by
      have : ∀ x ∈ ([⟨#[]⟩, ⟨#[65]⟩, ⟨#[66]⟩] : List ByteArray), x.size ≤ 82 := by decide
      exact this x hx
    have HO3 := Lib.hid (HO2.out.trans ho3.fresh)
    have HR4 := Lib.hid hr3
    have HS3 := Lib.hid (H12.out.farO ho3.fresh HAA.out)
    clear ho3 hr3 hx HX3 HR3
    go_wp2
    refine bodyPost_ret (v := .tuple #[.slice A l.length c, .string x]) (by simp [results, Tryd.results20, go_sem]) rfl ?_
    exact ⟨A, l, c, x, rfl, ⟨HS3.out, HAA.out⟩, H2.out, H3.out, HX.out, HO3.out, HR4.out.weak (by omega)⟩
  | true =>
    have hlen : 1 ≤ l.length := by
      cases l with
      | nil => cases hv
      | cons a r => simp
    have HG := Lib.hid (l4Good_any b c (P + 50) A l w2 hlen H2.out.1 (fun s hs => by obtain ⟨c, h, -⟩ := nameOk_one (validB_names hv hs); rw [h]; exact Nat.le_refl _) HAA.out (by omega) HR2.out H12.out)
    clear hlen hv HR2
    go_wp2_with fail
    refine HG.out.mono ?_
    rintro e w3 ⟨x, rfl, hx, ho3, hr3⟩
    have HO3 := Lib.hid (HO2.out.trans ho3)
    have HR3 := Lib.hid hr3
    have HS3 := Lib.hid (H12.out.farO ho3 HAA.out)
    clear ho3 hr3 HO2 H12 HG
    go_wp2_with fail
    refine (draw_any b (P + 50 + 870) 12 _ HR3.out (by omega) (by omega) (by omega)).mono ?_
    rintro e w4 ⟨v, rfl, ⟨hv0, hv1⟩, ho4, hr4⟩
    have HO4 := Lib.hid (HO3.out.trans ho4)
    have HR4 := Lib.hid hr4
    have HS4 := Lib.hid (HS3.out.farO ho4 HAA.out)
    clear ho4 hr4 HO3 HR3 HS3 hv1
    by_cases hv : v = 0
    · subst hv
      cases he : x.toList.isEmpty with
      | true =>
        go_wp2
        refine bodyPost_ret (v := .tuple #[.slice A l.length c, .string x]) (by simp [results, Tryd.results20, go_sem]) rfl ?_
        exact ⟨A, l, c, x, rfl, ⟨HS4.out, HAA.out⟩, H2.out, H3.out, by omega, HO4.out, HR4.out.weak (by omega)⟩
      | false =>
        have hx0 : x.size ≠ 0 := fun h => by
          rw [show x = ⟨#[]⟩ from ByteArray.ext (Array.eq_empty_of_size_eq_zero h)] at he
          revert he
          unfold ByteArray.toList ByteArray.toList.loop
          decide
        go_wp2_with fail
        refine (draw_any b (P + 50 + 870 + 1) x.size _ HR4.out (by omega) (by omega) (by omega)).mono ?_
        rintro e w5 ⟨k, rfl, ⟨hk0, hk1⟩, ho5, hr5⟩
        obtain ⟨k, rfl⟩ := Int.eq_ofNat_of_zero_le hk0
        have hk : k < x.size := by have := hk1 (by omega); omega
        have HO5 := Lib.hid (HO4.out.trans ho5)
        have HB5 := Lib.hid (Only.refl w5 (· = b)).drew'
        have HS5 := Lib.hid (HS4.out.farO ho5 HAA.out)
        have HR5 := Lib.hid hr5
        have HSAT : Hid (Sat w b (P + 50 + 870 + 1 + 1) w5.drew) := Lib.hid ⟨HO5.out.drew', HR5.out.below ((Below.refl _ w5).drew)⟩
        clear ho5 hr5 HO4 HR4 HS4 hk0 hk1
        have HT0 := Lib.hid (texts_new w5.drew b 9 oddTexts HSAT.out.2.lt)
        have hk0 : (0 : Int) ≤ (k : Int) := Int.natCast_nonneg _
        have hkx : (k : Int) ≤ (x.size : Int) := by omega
        have HQ := Lib.hid hP
        clear HB5 HO5 HR5 he hv0 hx0
        go_wp2_with fail
        go_region_with (first
          | (go_at_call 33; refine (ofS_any w b (P + 50 + 870 + 1 + 1) w5.heap.size _ (Sat.alloc HSAT _) (by have := HQ.out; omega) HT0).mono ?_; rintro e w6 ⟨y, rfl, HY, ho6, HSAT6⟩)
          | (go_at_call 35; refine (pickS_any w b (P + 50 + 870 + 1 + 1 + 1) w6 HSAT6 (by have := HQ.out; omega)).mono ?_; rintro e w7 ⟨j, rfl, hj, ho7, HSAT7⟩; obtain ⟨s, HSJ⟩ : ∃ s : Nat, Hid (s = k + j) := ⟨_, rfl⟩; have hws : IntKind.i64.wrap ((k : Int) + (j : Int)) = (s : Int) := (IntWalk.i64_in _ (by omega)).trans (by rw [HSJ.out]; rfl); have hsx : (s : Int) ≤ (x.size : Int) := by (rw [HSJ.out]; omega)))
        all_goals
          have HSF := Lib.hid (HS5.out.farO ((Only.refl w5 (· = b)).drew'.trans (ho6.fresh.trans ho7)) HAA.out)
          have HSZ : Hid ((x.extract 0 k ++ y ++ x.extract s x.size).size ≤ 82) := by
            show _ ≤ _
            rw [ByteArray.size_append, ByteArray.size_append, ByteArray.size_extract, ByteArray.size_extract]
            have := HSJ.out
            omega
          clear ho6 ho7 HS5 HSAT6 HSAT HT0
          go_wp2
          refine bodyPost_ret (v := .tuple #[.slice A l.length c, .string (x.extract 0 k ++ y ++ x.extract s x.size)]) (by simp [results, Tryd.results20, go_sem]) rfl ?_
          exact ⟨A, l, c, _, rfl, ⟨HSF.out, HAA.out⟩, H2.out, H3.out, HSZ.out, HSAT7.out.1, HSAT7.out.2.weak (by omega)⟩
    · go_wp2
      refine bodyPost_ret (v := .tuple #[.slice A l.length c, .string x]) (by simp [results, Tryd.results20, go_sem]) rfl ?_
      exact ⟨A, l, c, x, rfl, ⟨HS4.out, HAA.out⟩, H2.out, H3.out, by omega, HO4.out, HR4.out.weak (by omega)⟩

end Go.Proofs.YtafpefjjeddmeaaDoor
/- Draws of chapter 4: a text many times; the draws of NeedsOf, TraceValid, Without. All over l1Good's contract. -/
namespace Go.Proofs.YtafpefjjeddmeaaDoor
open Go.RowKit

end Go.Proofs.YtafpefjjeddmeaaDoor
/- The kinds of a call and of the one back: plain; laws.soSame on rows of the same numbers; the draws of chapter 6. -/
namespace Go.Proofs.YtafpefjjeddmeaaDoor
open Go.RowKit

/-- What a call's kind says of the call back. -/
theorem kind_back {l : List Seg} (s t : ByteArray) :
    (comOk l s t = false → kindB l s t = -1 ∧ kindB l t s = -1) ∧
    (comOk l s t = true → (kindB l s t = 0 ∧ lieB l s t = true ∧ (kindB l t s = 1 ∨ (s = t ∧ kindB l t s = 0))) ∨ (kindB l s t = 1 ∧ lieB l s t = true ∧ kindB l t s = 0 ∧ s ≠ t) ∨ (kindB l s t = 2 ∧ lieB l s t = false ∧ kindB l t s = 2)) := by
  have hc : comOk l t s = comOk l s t := Bool.and_comm _ _
  constructor
  · intro h
    unfold kindB
    rw [hc, h]
    exact ⟨rfl, rfl⟩
  · intro h
    have h' := h
    unfold comOk hasSeg at h'
    rw [Bool.and_eq_true, decide_eq_true_eq, decide_eq_true_eq] at h'
    obtain ⟨h1, h2⟩ := h'
    have hv := index_valid h1
    have hd := (valid_all hv).1.down
    have hi := index_lt h1
    have hj := index_lt h2
    have k1 : kindB l s t = kindIx l (indexB l s).toNat (indexB l t).toNat := by unfold kindB; rw [if_pos h]
    have k2 : kindB l t s = kindIx l (indexB l t).toNat (indexB l s).toNat := by unfold kindB; rw [hc, if_pos h]
    have hl : lieB l s t = (decide ((indexB l s).toNat ∈ rp l (indexB l t).toNat) || decide ((indexB l t).toNat ∈ rp l (indexB l s).toNat)) := by
      unfold lieB pathIx
      rw [h, Bool.true_and]
    have heq : (indexB l s).toNat = (indexB l t).toNat → s = t := fun e => by
      have e1 : indexB l s = indexB l t := by omega
      have a1 : indexB l s = seek l s := if_pos hv
      have a2 : indexB l t = seek l t := if_pos hv
      obtain ⟨j, hjn⟩ := Int.eq_ofNat_of_zero_le h1
      obtain ⟨x, hx, hn⟩ := seek_name (l := l) (j := j) (show seek l s = (j : Int) by rw [← a1]; exact hjn)
      obtain ⟨y, hy, hm⟩ := seek_name (l := l) (j := j) (show seek l t = (j : Int) by rw [← a2, ← e1]; exact hjn)
      rw [hx] at hy
      injection hy with hy
      subst hy
      exact hn.symm.trans hm
    have hne : s = t → (indexB l s).toNat = (indexB l t).toNat := fun e => by rw [e]
    rw [k1, k2, hl]
    generalize (indexB l s).toNat = i at *
    generalize (indexB l t).toNat = j at *
    have hself : ∀ a : Nat, a ∈ rp l a := fun a => List.mem_append.2 (.inr (List.mem_singleton.2 rfl))
    unfold kindIx
    by_cases a : j ∈ rp l i
    · by_cases b : i ∈ rp l j
      · have e : i = j := Nat.le_antisymm (rp_le hd j hj i b) (rp_le hd i hi j a)
        refine .inl ⟨if_pos a, by simp [a], .inr ⟨heq e, if_pos b⟩⟩
      · exact .inl ⟨if_pos a, by simp [a], .inl (by rw [if_neg b, if_pos a])⟩
    · by_cases b : i ∈ rp l j
      · refine .inr (.inl ⟨by rw [if_neg a, if_pos b], by simp [b], if_pos b, fun e => a ?_⟩)
        rw [hne e]
        exact hself j
      · exact .inr (.inr ⟨by rw [if_neg a, if_neg b], by simp [a, b], by rw [if_neg b, if_neg a]⟩)
/-- The three counts add up to the number of calls. -/
theorem kSum (l : List Seg) : ∀ (xs : List (List UInt8)), (∀ x ∈ xs, kNat l x < 3) → kCnt l xs 0 + kCnt l xs 1 + kCnt l xs 2 = xs.length
  | [], _ => rfl
  | x :: xs, h => by
    have h1 := kSum l xs (fun y hy => h y (List.mem_cons_of_mem _ hy))
    have h2 := h x List.mem_cons_self
    have e : ∀ i, kCnt l (x :: xs) i = kCnt l xs i + if kNat l x = i then 1 else 0 := fun i => by
      unfold kCnt
      rw [List.filter_cons]
      by_cases hx : kNat l x = i
      · simp [hx]
      · simp [hx]
    rw [e, e, e, List.length_cons]
    have : kNat l x = 0 ∨ kNat l x = 1 ∨ kNat l x = 2 := by omega
    rcases this with h3 | h3 | h3 <;> rw [h3] <;> simp <;> omega
theorem counts_said {l : List Seg} {t : ByteArray} {f : Forest} (h : traceB l t.data.toList = some f) : ∃ a b c : Nat, countsRes l t = [(a : Int), (b : Int), (c : Int)] ∧ a + b + c = f.size ∧ f.size ≤ 80 := by
  have h1 := trace_two h
  have h2 : ∀ x ∈ chainsB [rootB l] f, kNat l x < 3 := fun x hx => by
    obtain ⟨⟨y, u, v, rfl, hu, hv⟩, _⟩ := h1 x hx
    exact (kNat_is y hu hv).2
  have h3 := kSum l _ h2
  rw [chainsB_len] at h3
  refine ⟨kCnt l (chainsB [rootB l] f) 0, kCnt l (chainsB [rootB l] f) 1, kCnt l (chainsB [rootB l] f) 2, ?_, h3, (traceB_size h).1⟩
  unfold countsRes
  rw [h]
  rfl

set_option maxRecDepth 100000 in
set_option maxHeartbeats 1000000 in
theorem soSame_any (A A' : Option Addr) (l : List Int) (c c' : Nat) (w : World) (hw : Si.Ints w w.heap.size A l) (hw' : Si.Ints w w.heap.size A' l) (hl : l.length ≤ 1000) :
    Calls Tryd.prog 12 #[.slice A l.length c, .slice A' l.length c'] w fun e w' => e = .returned (.bool true) ∧ Below w.heap.size w w' := by
  have HW : Hid (Si.Ints w w.heap.size A l) := hw
  have HW' : Hid (Si.Ints w w.heap.size A' l) := hw'
  clear hw hw'
  go_enter Tryd.func12, Tryd.ntmps12
  go_wp2
  go_loopw [11] (fun i wr => ∃ (k : Nat), k ≤ l.length ∧ i = .int .i64 k ∧ Below w.heap.size w wr)
    (fun i _ => l.length - (intOf i).toNat)
  case atStart => exact ⟨0, Nat.zero_le _, rfl, Below.refl _ _⟩
  case round =>
    obtain ⟨k, hk, rfl, hb⟩ := hrel
    by_cases hlt : k < l.length
    · have hlt' : (k : Int) < (l.length : Int) := by omega
      have hk0 : (0 : Int) ≤ (k : Int) := Int.natCast_nonneg _
      obtain ⟨b, o, rfl, hB, hc⟩ := HW.out (by omega)
      obtain ⟨b', o', rfl, hB', hc'⟩ := HW'.out (by omega)
      have c0 := hc k l[k] (List.getElem?_eq_getElem hlt)
      have d0 := hc' k l[k] (List.getElem?_eq_getElem hlt)
      clear hc hc'
      rw [← hb.cell hB] at c0
      rw [← hb.cell hB'] at d0
      generalize l[k] = s at *
      have HB2 := Lib.hid hb.drew
      go_wp2
      go_quiet (fail)
      go_wp2
      go_roundw
      case rel => exact ⟨k + 1, by omega, by go_num, below_drewN hb _⟩
      case measure => simp [intOf]; omega
    · go_wp2
      go_ret
      exact ⟨rfl, hb⟩

set_option maxRecDepth 100000 in
set_option maxHeartbeats 1000000 in
theorem drawKindOf_plain (hgood : GoodSaid) (A0 : Option Addr) (n c0 : Nat) (w : World) (hn : n ≤ c0) (hx : ∀ b, w.heap.size ≤ b → Bytes w b A0 n) :
    Calls Tryd.prog 5 #[.slice A0 n c0] w fun e w' => ∃ A l c x y, e = .returned (.tuple #[.slice A (List.length l) c, .string x, .string y]) ∧ TreeHas w' A l c ∧ x.size ≤ 2 ∧ y.size ≤ 2 ∧ Below w.heap.size w w' := by
  have HO := Lib.hid (drawCommonOf_plain hgood A0 n c0 w hn hx)
  clear hx hgood
  go_enter Tryd.func5, Tryd.ntmps5
  go_wp2_with fail
  refine Calls.mono HO.out ?_
  rintro e w1 ⟨A, l, c, x, y, rfl, hT, hx, hy, hb⟩
  have HT := Lib.hid hT
  clear hT
  go_wp2
  refine bodyPost_ret (v := .tuple #[.slice A l.length c, .string x, .string y]) (by simp [results, Tryd.results5, go_sem]) rfl ?_
  exact ⟨A, l, c, x, y, rfl, HT.out, hx, hy, hb⟩

set_option maxRecDepth 100000 in
set_option maxHeartbeats 1000000 in
theorem drawKindCounts_plain (hgood : GoodSaid) (A0 : Option Addr) (n c0 : Nat) (w : World) (hn : n ≤ c0) (hx : ∀ b, w.heap.size ≤ b → Bytes w b A0 n) :
    Calls Tryd.prog 7 #[.slice A0 n c0] w fun e w' => ∃ A l c x, e = .returned (.tuple #[.slice A (List.length l) c, .string x]) ∧ TreeHas w' A l c ∧ x.size ≤ 82 ∧ Below w.heap.size w w' := by
  have HO := Lib.hid (l13Open_any A0 n c0 w hn hx)
  have HP := Lib.hid (fun b w h => l4Some_plain hgood b 0 w h (Nat.zero_le _))
  clear hx hgood
  go_enter Tryd.func7, Tryd.ntmps7
  go_wp2_with fail
  refine Calls.mono HO.out ?_
  rintro e w1 ⟨b, rfl, hbb, hr, hb1⟩
  have HB1 := Lib.hid hb1
  have HPP := Lib.hid (HP.out b w1 hr)
  clear hr hb1 HP HO
  go_wp2_with fail
  refine Calls.mono HPP.out ?_
  rintro e w2 ⟨A, l, c, x, rfl, ⟨hs, hs'⟩, hl, hsh, hxx, ho, hr2⟩
  have HT : Hid (TreeHas w2 A l c) := ⟨hs, hl, hsh⟩
  have HB2 := Lib.hid (only_below HB1.out hbb ho)
  have HX := Lib.hid hxx
  clear hs hs' hl hsh hxx ho hr2 HPP
  go_wp2
  refine bodyPost_ret (v := .tuple #[.slice A l.length c, .string x]) (by simp [results, Tryd.results7, go_sem]) rfl ?_
  exact ⟨A, l, c, x, rfl, HT.out, HX.out, HB2.out⟩

set_option maxRecDepth 100000 in
set_option maxHeartbeats 1000000 in
theorem drawNameOfKind_plain (A0 : Option Addr) (n c0 : Nat) (w : World) (hn : n ≤ c0) (hx : ∀ b, w.heap.size ≤ b → Bytes w b A0 n) :
    Calls Tryd.prog 10 #[.slice A0 n c0] w fun e w' => ∃ k : Int, e = .returned (.int .i64 k) ∧ Below w.heap.size w w' := by
  have HO := Lib.hid (l13Open_any A0 n c0 w hn hx)
  clear hx
  go_enter Tryd.func10, Tryd.ntmps10
  go_wp2_with fail
  refine Calls.mono HO.out ?_
  rintro e w1 ⟨b, rfl, hbb, hr, hb1⟩
  have HB1 := Lib.hid hb1
  have hbl := hr.lt
  have HNM := Lib.hid (nums_new w1 b 3 [0, 1, 2, 3, -1] hbl)
  have HRD := Lib.hid (hr.below ((Below.refl w1.heap.size w1).alloc (o := .cells #[.int .i64 0, .int .i64 1, .int .i64 2, .int .i64 3, .int .i64 (-1)] 3) (Nat.le_refl _)))
  have HOA : Hid (Below w.heap.size w (w1.alloc (.cells #[.int .i64 0, .int .i64 1, .int .i64 2, .int .i64 3, .int .i64 (-1)] 3))) := hb1.alloc hb1.size _
  clear hr hb1 HO
  go_wp2_with fail
  refine (num_any b 0 w1.heap.size 0 5 5 (· ∈ [(0 : Int), 1, 2, 3, -1]) _ HRD.out (by decide) (by decide) (by decide) HNM.out).mono ?_
  rintro e w2 ⟨v, rfl, -, ho, -⟩
  have HB2 := Lib.hid (only_below HOA.out hbb ho)
  clear ho
  go_wp2
  go_ret
  exact ⟨v, rfl, HB2.out⟩

end Go.Proofs.YtafpefjjeddmeaaDoor
/- The law FnNeedsOf: the needs begin and end with the root; plain. -/
namespace Go.Proofs.YtafpefjjeddmeaaDoor
open Go.RowKit

theorem needsB_last (a : UInt8) : ∀ f : Forest, ∃ xs, a :: needsB a f = xs ++ [a]
  | .nil => ⟨[], rfl⟩
  | .cons c k r => by
    obtain ⟨ys, h⟩ := needsB_last a r
    refine ⟨a :: c :: (needsB c k ++ ys), ?_⟩
    show a :: c :: (needsB c k ++ (a :: needsB a r)) = _
    rw [h]
    simp
theorem cut_one (xs : List UInt8) (k : Nat) (c : UInt8) (h : xs[k]? = some c) : (⟨xs.toArray⟩ : ByteArray).extract k (k + 1) = ⟨#[c]⟩ := by
  apply ByteArray.ext
  apply Array.ext'
  rw [ByteArray.data_extract, Array.toList_extract]
  show (xs.drop k).take (k + 1 - k) = [c]
  obtain ⟨hk, rfl⟩ := List.getElem?_eq_some_iff.1 h
  rw [show k + 1 - k = 1 from by omega, List.drop_eq_getElem_cons hk]
  rfl
theorem needs_said {l : List Seg} {t : ByteArray} {f : Forest} (h : traceB l t.data.toList = some f) :
    (needsRes l t).size = 2 * f.size + 1 ∧ (needsRes l t).extract 0 1 = ⟨#[rootB l]⟩ ∧ (needsRes l t).extract (2 * f.size) (2 * f.size + 1) = ⟨#[rootB l]⟩ := by
  have e : needsRes l t = ⟨(rootB l :: needsB (rootB l) f).toArray⟩ := by
    unfold needsRes
    rw [h]
  have hl := needsB_len (rootB l) f
  obtain ⟨xs, hx⟩ := needsB_last (rootB l) f
  have hxl : xs.length = 2 * f.size := by
    have := congrArg List.length hx
    rw [List.length_cons, List.length_append, hl] at this
    simpa using this.symm
  rw [e]
  refine ⟨?_, cut_one _ 0 _ rfl, cut_one _ _ _ ?_⟩
  · show (rootB l :: needsB (rootB l) f).toArray.size = _
    rw [List.size_toArray, List.length_cons, hl]
  · rw [hx, ← hxl, List.getElem?_append_right (Nat.le_refl _), Nat.sub_self]
    rfl

end Go.Proofs.YtafpefjjeddmeaaDoor
/- The program's TraceValid. -/
namespace Go.Proofs.YtafpefjjeddmeaaDoor
open Go.RowKit

end Go.Proofs.YtafpefjjeddmeaaDoor
/- The law FnNeedsOf: its walk. -/
namespace Go.Proofs.YtafpefjjeddmeaaDoor
open Go.RowKit

theorem bytes_laterN {w w' : World} {A : Option Addr} {m : Nat} (h : ∀ b, w.heap.size ≤ b → Bytes w b A m) (hb : Below w.heap.size w w') : ∀ b, w'.heap.size ≤ b → Bytes w' b A m := fun b hbb h0 => by
  have hz := hb.size
  obtain ⟨g, o, rfl, hne, hlt, hx⟩ := h b (by omega) h0
  refine ⟨g, o, rfl, hne, by omega, fun i hi => ?_⟩
  obtain ⟨x, hc, hx2⟩ := hx i hi
  exact ⟨x, (hb.cell (p := ⟨g, o + i, none⟩) hlt).trans hc, hx2⟩
theorem countRes_some {l : List Seg} {t : ByteArray} {f : Forest} (h : traceB l t.data.toList = some f) : countRes l t = f.size := by
  unfold countRes
  rw [h]

end Go.Proofs.YtafpefjjeddmeaaDoor
