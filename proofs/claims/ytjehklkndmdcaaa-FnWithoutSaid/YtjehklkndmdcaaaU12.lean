/- Joined: Wa Wb Xb. -/
import Derived.Test.YtjehklkndmdcaaaU11
import Derived.Test.YtjehklkndmdcaaaU01
import Derived.Test.YtjehklkndmdcaaaU02
import Derived.Test.YtjehklkndmdcaaaU03
import Derived.Deep.RegionWith
/- Draws of traces: calls within a tree. -/
namespace Go.Proofs.Ytjehklkndmdcaaa
open Go.RowKit

/-- What a draw of a text leaves. -/
def TextDrawn (b P Q n : Nat) (w : World) (e : Ending) (w' : World) : Prop := ∃ x : ByteArray, e = .returned (.string x) ∧ x.size ≤ n ∧ Only w w' (· = b) ∧ Rd w' b (P + Q)
theorem TextDrawn.weak {b P Q n Q' n' : Nat} {w : World} {e : Ending} {w' : World} (h : TextDrawn b P Q n w e w') (hQ : Q ≤ Q') (hn : n ≤ n') : TextDrawn b P Q' n' w e w' := by
  obtain ⟨x, h1, h2, h3, h4⟩ := h
  exact ⟨x, h1, Nat.le_trans h2 hn, h3, h4.weak (by omega)⟩
def countNums : List Int := [2, 1, 3, 2]

set_option maxRecDepth 100000 in
set_option maxHeartbeats 2000000 in
theorem l4Draw_any (b c : Nat) (A : Option Addr) (l : List Seg) (h1 : 1 ≤ l.length) (h9 : l.length ≤ 9) (hnm : ∀ s ∈ l, s.name.size ≤ 1) (hA : ∀ g o, A = some ⟨g, o, none⟩ → b < g) :
    ∀ (d : Nat), d ≤ 3 → ∀ (P : Nat) (w : World), P + 4 * 6 ^ d ≤ 10000 → Rd w b P → Segs w w.heap.size A l →
    Calls Try.prog 64 #[.pointer (some ⟨b, 0, none⟩), .slice A l.length c, .int .i64 d] w (TextDrawn b P (4 * 6 ^ d) (3 * 6 ^ d) w) := by
  intro d
  induction d with
  | zero =>
    intro _ P w hP hr hw
    have hP : P ≤ 9996 := by have h : P + 4 * 6 ^ 0 ≤ 10000 := hP; rw [Nat.pow_zero] at h; omega
    have HW : Hid (Segs w w.heap.size A l) := hw
    have HNM := Lib.hid hnm
    have HAA := Lib.hid hA
    have HR := Lib.hid (hr.alloc (.cells #[.int .i64 2, .int .i64 1, .int .i64 3, .int .i64 2] 3))
    have HX := Lib.hid (nums_new w b 3 countNums hr.lt)
    have hbw := hr.lt
    clear hr hw hnm hA
    go_enter Try.func64, Try.ntmps64
    go_wp2_with fail
    refine (num_any b P w.heap.size 0 4 4 (· ∈ countNums) _ HR.out (by omega) (by omega) (by omega) HX.out).mono ?_
    rintro e w1 ⟨n, rfl, hn, ho, hr1⟩
    have HO := Lib.hid ho.fresh
    have HR1 := Lib.hid hr1
    obtain ⟨m, rfl, hm3⟩ : ∃ m : Nat, n = (m : Int) ∧ m ≤ 3 := by
      have h : ∀ x ∈ countNums, 0 ≤ x ∧ x ≤ 3 := by decide
      obtain ⟨h2, h3⟩ := h n hn
      exact ⟨n.toNat, by omega, by omega⟩
    clear ho hr1 hn HX HR
    go_wp2
    go_loopw [7, 11] (fun s i wr => ∃ (k : Nat) (x : ByteArray), k ≤ m ∧ s = .string x ∧ i = .int .i64 k ∧ x.size ≤ k ∧ Hid (Only w wr (· = b)) ∧ Hid (Rd wr b (P + 1 + k)))
      (fun _ i _ => m - (intOf i).toNat)
    case atStart => exact ⟨0, _, Nat.zero_le _, rfl, rfl, Nat.le_refl _, HO, HR1⟩
    case round =>
      obtain ⟨k, x, hk, rfl, rfl, hx, HOk, HRk⟩ := hrel
      clear HO HR1
      by_cases hlt : k < m
      · have hlt' : (k : Int) < (m : Int) := by omega
        go_wp2_with fail
        refine (draw_any b (P + 1 + k) l.length _ HRk.out (by omega) (by omega) (by omega)).mono ?_
        rintro e w2 ⟨v, rfl, ⟨hv0, hv1⟩, ho2, hr2⟩
        obtain ⟨j, rfl⟩ := Int.eq_ofNat_of_zero_le hv0
        have hj : j < l.length := by have := hv1 (by omega); omega
        have hj' : (j : Int) < (l.length : Int) := by omega
        have hj0 : (0 : Int) ≤ (j : Int) := Int.natCast_nonneg _
        have HO2 := Lib.hid (HOk.out.trans ho2)
        have HR2 := Lib.hid (hr2.weak (Q := P + 1 + (k + 1)) (by omega))
        have hsg : Segs w2 w2.heap.size A l := HW.out.farO HO2.out HAA.out
        obtain ⟨g, o, rfl, hgB, hc⟩ := hsg (by omega)
        obtain ⟨e1, e2, e3⟩ := hc j _ (List.getElem?_eq_getElem hj)
        have hns := HNM.out _ (List.getElem_mem hj)
        have hxs : (x ++ l[j].name).size ≤ k + 1 := by rw [ByteArray.size_append]; omega
        clear hc ho2 hr2 hv0 hv1 hsg HOk HRk
        generalize l[j] = sg at *
        go_wp2
        go_roundw
        case rel => exact ⟨k + 1, _, by omega, rfl, by go_num, hxs, HO2, HR2⟩
        case measure => simp [intOf]; omega
      · obtain rfl : k = m := by omega
        go_wp2
        go_ret
        exact ⟨x, rfl, by omega, HOk.out, HRk.out.weak (by omega)⟩
  | succ d ih =>
    intro hd P w hP hr hw
    have hK : 1 ≤ 6 ^ d ∧ 6 ^ d ≤ 36 := by
      have : d = 0 ∨ d = 1 ∨ d = 2 := by omega
      rcases this with rfl | rfl | rfl <;> decide
    have hK2 : 6 ^ (d + 1) = 6 * 6 ^ d := by rw [Nat.pow_succ]; omega
    have IH := Lib.hid (fun P w hP hr hw => ih (by omega) P w hP hr hw)
    rw [hK2] at hP ⊢
    clear ih hK2
    generalize 6 ^ d = K at *
    have HW : Hid (Segs w w.heap.size A l) := hw
    have HNM := Lib.hid hnm
    have HAA := Lib.hid hA
    have HR := Lib.hid (hr.alloc (.cells #[.int .i64 2, .int .i64 1, .int .i64 3, .int .i64 2] 3))
    have HX := Lib.hid (nums_new w b 3 countNums hr.lt)
    have hbw := hr.lt
    clear hr hw hnm hA
    go_enter Try.func64, Try.ntmps64
    go_wp2_with fail
    refine (num_any b P w.heap.size 0 4 4 (· ∈ countNums) _ HR.out (by omega) (by omega) (by omega) HX.out).mono ?_
    rintro e w1 ⟨n, rfl, hn, ho, hr1⟩
    have HO := Lib.hid ho.fresh
    have HR1 := Lib.hid hr1
    obtain ⟨m, rfl, hm3⟩ : ∃ m : Nat, n = (m : Int) ∧ m ≤ 3 := by
      have h : ∀ x ∈ countNums, 0 ≤ x ∧ x ≤ 3 := by decide
      obtain ⟨h2, h3⟩ := h n hn
      exact ⟨n.toNat, by omega, by omega⟩
    clear ho hr1 hn HX HR
    go_wp2
    go_loopw [7, 11] (fun s i wr => ∃ (k z q : Nat) (x : ByteArray), k ≤ m ∧ s = .string x ∧ i = .int .i64 k ∧ x.size ≤ z ∧ Hid (z = k * (3 + 3 * K)) ∧ Hid (q = k * (2 + 4 * K)) ∧ z ≤ 1000 ∧ q ≤ 1000 ∧ Hid (Only w wr (· = b)) ∧ Hid (Rd wr b (P + 1 + q)))
      (fun _ i _ => m - (intOf i).toNat)
    case atStart => exact ⟨0, 0, 0, _, Nat.zero_le _, rfl, rfl, Nat.le_refl _, Lib.hid (by omega), Lib.hid (by omega), by omega, by omega, HO, HR1⟩
    case round =>
      obtain ⟨k, z, q, x, hk, rfl, rfl, hx, HZ, HQ, hz9, hq9, HOk, HRk⟩ := hrel
      clear HO HR1
      by_cases hlt : k < m
      · have hlt' : (k : Int) < (m : Int) := by omega
        have hzz : z + (3 + 3 * K) ≤ 1000 ∧ q + (2 + 4 * K) ≤ 1000 ∧ q ≤ 4 + 8 * K := by
          rw [HZ.out, HQ.out]
          have : k = 0 ∨ k = 1 ∨ k = 2 := by omega
          rcases this with rfl | rfl | rfl <;> omega
        have HZN : Hid (z + (3 + 3 * K) = (k + 1) * (3 + 3 * K)) := Lib.hid ((congrArg (· + (3 + 3 * K)) HZ.out).trans (Nat.succ_mul k (3 + 3 * K)).symm)
        have HQN : Hid (q + (2 + 4 * K) = (k + 1) * (2 + 4 * K)) := Lib.hid ((congrArg (· + (2 + 4 * K)) HQ.out).trans (Nat.succ_mul k (2 + 4 * K)).symm)
        go_wp2_with fail
        refine (draw_any b (P + 1 + q) l.length _ HRk.out (by omega) (by omega) (by omega)).mono ?_
        rintro e w2 ⟨v, rfl, ⟨hv0, hv1⟩, ho2, hr2⟩
        obtain ⟨j, rfl⟩ := Int.eq_ofNat_of_zero_le hv0
        have hj : j < l.length := by have := hv1 (by omega); omega
        have hj' : (j : Int) < (l.length : Int) := by omega
        have hj0 : (0 : Int) ≤ (j : Int) := Int.natCast_nonneg _
        have HO2 := Lib.hid (HOk.out.trans ho2)
        have HR2 := Lib.hid hr2
        have hsg : Segs w2 w2.heap.size A l := HW.out.farO HO2.out HAA.out
        obtain ⟨g, o, rfl, hgB, hc⟩ := hsg (by omega)
        obtain ⟨e1, e2, e3⟩ := hc j _ (List.getElem?_eq_getElem hj)
        have hns := HNM.out _ (List.getElem_mem hj)
        have hxs : (x ++ l[j].name).size ≤ z + 1 := by rw [ByteArray.size_append]; omega
        clear hc ho2 hr2 hv0 hv1 hsg HOk HRk
        generalize l[j] = sg at *
        have hd0 : (0 : Int) < ((d + 1 : Nat) : Int) := by omega
        go_wp2_with fail
        refine (draw_any b (P + 1 + q + 1) 3 _ HR2.out (by omega) (by omega) (by omega)).mono ?_
        rintro e w3 ⟨u, rfl, ⟨hu0, hu1⟩, ho3, hr3⟩
        have HO3 := Lib.hid (HO2.out.trans ho3)
        have HR3 := Lib.hid hr3
        clear ho3 hr3 hu1
        generalize x ++ sg.name = y at *
        by_cases hu : u = 0
        · subst hu
          go_wp2_with fail
          refine (IH.out (P + 1 + q + 2) _ (by omega) HR3.out (HW.out.farO HO3.out HAA.out)).mono ?_
          rintro e w4 ⟨r, rfl, hrs, ho4, hr4⟩
          have HO4 := Lib.hid (HO3.out.trans ho4)
          have HR4 := Lib.hid (hr4.weak (Q := P + 1 + (q + (2 + 4 * K))) (by omega))
          have hys : (y ++ ⟨#[40]⟩ ++ r ++ ⟨#[41]⟩).size ≤ z + (3 + 3 * K) := by
            have a1 : (⟨#[40]⟩ : ByteArray).size = 1 := rfl
            have a2 : (⟨#[41]⟩ : ByteArray).size = 1 := rfl
            rw [ByteArray.size_append, ByteArray.size_append, ByteArray.size_append, a1, a2]
            omega
          have hr6 : r.size ≤ 200 := by omega
          have hy6 : y.size ≤ 2000 := by omega
          clear ho4 hr4 HR3 HO3 HR2 HO2 e1
          go_wp2
          go_roundw
          case rel => exact ⟨k + 1, _, _, _, by omega, rfl, by go_num, hys, HZN, HQN, hzz.1, hzz.2.1, HO4, HR4⟩
          case measure => simp [intOf]; omega
        · have HR4 := Lib.hid (HR3.out.weak (Q := P + 1 + (q + (2 + 4 * K))) (by omega))
          clear HR3 HR2 HO2 e1
          go_wp2
          go_roundw
          case rel => exact ⟨k + 1, _, _, _, by omega, rfl, by go_num, by omega, HZN, HQN, hzz.1, hzz.2.1, HO3, HR4⟩
          case measure => simp [intOf]; omega
      · obtain rfl : k = m := by omega
        have hkz : z ≤ 18 * K ∧ 1 + q ≤ 24 * K := by
          rw [HZ.out, HQ.out]
          have : k = 0 ∨ k = 1 ∨ k = 2 ∨ k = 3 := by omega
          rcases this with rfl | rfl | rfl | rfl <;> omega
        go_wp2
        go_ret
        exact ⟨x, rfl, by omega, HOk.out, HRk.out.weak (by omega)⟩

end Go.Proofs.Ytjehklkndmdcaaa
/- Draws of traces: a trace of a valid tree, a tree with a text. -/
namespace Go.Proofs.Ytjehklkndmdcaaa
open Go.RowKit

set_option maxRecDepth 100000 in
set_option maxHeartbeats 2000000 in
theorem l4Good_any (b c P : Nat) (A : Option Addr) (l : List Seg) (w : World) (h1 : 1 ≤ l.length) (h9 : l.length ≤ 9) (hnm : ∀ s ∈ l, s.name.size ≤ 1) (hA : ∀ g o, A = some ⟨g, o, none⟩ → b < g) (hP : P ≤ 1000) (hr : Rd w b P) (hw : Segs w w.heap.size A l) :
    Calls Try.prog 47 #[.pointer (some ⟨b, 0, none⟩), .slice A l.length c] w (TextDrawn b P 870 80 w) := by
  have HD := Lib.hid (l4Draw_any b c A l h1 h9 hnm hA)
  have HW : Hid (Segs w w.heap.size A l) := hw
  have HNM := Lib.hid hnm
  have HAA := Lib.hid hA
  have HR := Lib.hid hr
  clear hr hw hnm hA
  go_enter Try.func47, Try.ntmps47
  go_wp2_with fail
  refine (draw_any b P 12 _ HR.out (by omega) (by omega) (by omega)).mono ?_
  rintro e w2 ⟨v, rfl, ⟨hv0, hv1⟩, ho2, hr2⟩
  have HO2 := Lib.hid ho2
  have HR2 := Lib.hid hr2
  clear ho2 hr2 hv1 HR
  by_cases hv : v = 0
  · subst hv
    go_wp2
    go_ret
    exact ⟨_, rfl, Nat.zero_le _, HO2.out, HR2.out.weak (by omega)⟩
  · go_wp2_with fail
    refine (draw_any b (P + 1) 4 _ HR2.out (by omega) (by omega) (by omega)).mono ?_
    rintro e w3 ⟨u, rfl, ⟨hu0, hu1⟩, ho3, hr3⟩
    obtain ⟨d, rfl⟩ := Int.eq_ofNat_of_zero_le hu0
    have hd3 : d ≤ 3 := by have := hu1 (by omega); omega
    have HO3 := Lib.hid (HO2.out.trans ho3)
    have HR3 := Lib.hid hr3
    have HW3 := Lib.hid (HW.out.farO HO3.out HAA.out)
    clear ho3 hr3 hu0 hu1 HO2 HR2
    have hK : 6 ^ d ≤ 216 := by
      have : d = 0 ∨ d = 1 ∨ d = 2 ∨ d = 3 := by omega
      rcases this with rfl | rfl | rfl | rfl <;> decide
    have HD2 := Lib.hid (HD.out d hd3 (P + 1 + 1) w3 (by omega) HR3.out HW3.out)
    clear HD HW3
    generalize 6 ^ d = K at *
    go_wp2_with fail
    refine HD2.out.mono ?_
    rintro e w4 ⟨x, rfl, hx, ho4, hr4⟩
    have HO4 := Lib.hid (HO3.out.trans ho4)
    have HR4 := Lib.hid (hr4.weak (Q := P + 870) (by omega))
    have hx6 : x.size ≤ 648 := by omega
    clear ho4 hr4 HR3 HD2 hx HO3
    by_cases h80 : x.size ≤ 80
    · have h80' : (x.size : Int) ≤ 80 := by omega
      go_wp2
      go_ret
      exact ⟨_, rfl, h80, HO4.out, HR4.out⟩
    · have h80' : 80 < (x.size : Int) := by omega
      have hsg : Segs w4 w4.heap.size A l := HW.out.farO HO4.out HAA.out
      obtain ⟨g, o, rfl, hgB, hc⟩ := hsg (by omega)
      obtain ⟨e1, e2, e3⟩ := hc 0 _ (List.getElem?_eq_getElem (by omega))
      have hns := HNM.out _ (List.getElem_mem (show 0 < l.length by omega))
      have h1' : (0 : Int) < (l.length : Int) := by omega
      rw [Nat.zero_mul, Nat.add_zero] at e1
      clear hc hsg
      generalize l[0] = sg at *
      go_wp2
      go_ret
      exact ⟨_, rfl, by omega, HO4.out, HR4.out⟩

/-- The texts that a trace is spoilt with. -/
def oddTexts : List ByteArray := [⟨#[]⟩, ⟨#[40]⟩, ⟨#[41]⟩, ⟨#[88]⟩, ⟨#[65]⟩, ⟨#[40, 41]⟩]
theorem oddTexts_size : ∀ x ∈ oddTexts, x.size ≤ 2 := by decide
/-- Nothing but the reader differs from `w`. -/
def Sat (w : World) (b q : Nat) (W : World) : Prop := Only w W (· = b) ∧ Rd W b q
theorem Sat.alloc {w W : World} {b q : Nat} (h : Hid (Sat w b q W)) (o : Obj) : Hid (Sat w b q (W.alloc o)) := Lib.hid ⟨h.out.1.andBelow ((Below.refl _ W).alloc (Nat.le_refl _) _), h.out.2.alloc o⟩
theorem ofS_any (w : World) (b q g : Nat) (W : World) (hs : Hid (Sat w b q W)) (hq : q ≤ 100000) (hx : Hid (Texts W b g 0 6 (· ∈ oddTexts))) :
    Calls Try.prog 33 #[.pointer (some ⟨b, 0, none⟩), .slice (some ⟨g, 0, none⟩) 6 6] W fun e w' => ∃ v : ByteArray, e = .returned (.string v) ∧ v.size ≤ 2 ∧ Only W w' (· = b) ∧ Hid (Sat w b (q + 1) w') := by
  refine (of_any b q g 0 6 6 _ W hs.out.2 (by omega) (by omega) (by omega) hx.out).mono ?_
  rintro e w' ⟨v, rfl, hv, ho, hr⟩
  exact ⟨v, rfl, oddTexts_size v hv, ho, Lib.hid ⟨hs.out.1.trans ho, hr⟩⟩
theorem pickS_any (w : World) (b q : Nat) (W : World) (hs : Hid (Sat w b q W)) (hq : q ≤ 100000) :
    Calls Try.prog 30 #[.pointer (some ⟨b, 0, none⟩), .int .i64 2] W fun e w' => ∃ v : Nat, e = .returned (.int .i64 v) ∧ v ≤ 1 ∧ Only W w' (· = b) ∧ Hid (Sat w b (q + 1) w') := by
  refine (draw_any b q 2 W hs.out.2 (by omega) (by omega) (by omega)).mono ?_
  rintro e w' ⟨v, rfl, ⟨h0, h1⟩, ho, hr⟩
  obtain ⟨k, rfl⟩ := Int.eq_ofNat_of_zero_le h0
  exact ⟨k, rfl, by have := h1 (by omega); omega, ho, Lib.hid ⟨hs.out.1.trans ho, hr⟩⟩
theorem texts_far {w w' : World} {b g n : Nat} {Q : ByteArray → Prop} (h : Texts w b g 0 n Q) (ho : Only w w' (· = b)) : Texts w' b g 0 n Q := by
  obtain ⟨h1, h2, h3⟩ := h
  refine ⟨h1, Nat.lt_of_lt_of_le h2 ho.size, fun i hi => ?_⟩
  obtain ⟨v, hv, hq⟩ := h3 i hi
  exact ⟨v, by rw [only_cell ho h1 h2]; exact hv, hq⟩

/-- What l4Some leaves: a slice of few segments, and a text. -/
def WithText (b P : Nat) (w : World) (e : Ending) (w' : World) : Prop :=
  ∃ A l c x, e = .returned (.tuple #[.slice A (List.length l) c, .string x]) ∧ (Segs w' w'.heap.size A l ∧ ∀ g o, A = some ⟨g, o, none⟩ → b < g) ∧ (l.length ≤ 9 ∧ l.length ≤ c ∧ c ≤ 9223372036854775807) ∧ (∀ s ∈ l, s.name.size ≤ 8) ∧ x.size ≤ 82 ∧ Only w w' (· = b) ∧ Rd w' b (P + 1000)

set_option maxRecDepth 100000 in
set_option maxHeartbeats 4000000 in
theorem l4Some_plain (hgood : GoodSaid) (b P : Nat) (w : World) (hr : Rd w b P) (hP : P ≤ 100) :
    Calls Try.prog 21 #[.pointer (some ⟨b, 0, none⟩)] w (WithText b P w) := by
  have HS := Lib.hid (l1Some_plain b P w hr (by omega) (fun w h => hgood b P w (by omega) h))
  have HBW := Lib.hid hr.lt
  clear hgood hr
  go_enter Try.func21, Try.ntmps21
  go_wp2_with fail
  refine Calls.mono HS.out ?_
  rintro e w1 ⟨A, l, c, rfl, hs, hl, hn, ho, hr1⟩
  have HV := Lib.hid (specTreeValid_any A l c w1 hs.1 (by omega) (fun s h => by have := hn s h; unfold maxLen; omega))
  have H1 := Lib.hid hs.1
  have HAA := Lib.hid hs.2
  have H2 := Lib.hid hl
  have H3 := Lib.hid hn
  have H4 := Lib.hid ho
  have H5 := Lib.hid hr1
  clear hs hl hn ho hr1 HS
  go_wp2_with fail
  refine HV.out.mono ?_
  rintro e w2 ⟨rfl, hb2⟩
  have H12 := Lib.hid ((H1.out.below hb2).more hb2.size)
  have HO2 := Lib.hid (H4.out.andBelow hb2)
  have HR2 := Lib.hid (H5.out.below hb2)
  clear hb2 HV H4 H5
  cases hv : validB l with
  | false =>
    have HR3 := Lib.hid (HR2.out.alloc (.cells #[Value.string ⟨#[]⟩, .string ⟨#[65]⟩, .string ⟨#[66]⟩] 9))
    have HX3 := Lib.hid (texts_new w2 b 9 [⟨#[]⟩, ⟨#[65]⟩, ⟨#[66]⟩] HR2.out.lt)
    go_wp2_with fail
    refine (of_any b (P + 50) w2.heap.size 0 3 3 _ _ HR3.out (by omega) (by omega) (by omega) HX3.out).mono ?_
    rintro e w3 ⟨x, rfl, hx, ho3, hr3⟩
    have HX : Hid (x.size ≤ 82) := by
      have : ∀ x ∈ ([⟨#[]⟩, ⟨#[65]⟩, ⟨#[66]⟩] : List ByteArray), x.size ≤ 82 := by decide
      exact this x hx
    have HO3 := Lib.hid (HO2.out.trans ho3.fresh)
    have HR4 := Lib.hid hr3
    have HS3 := Lib.hid (H12.out.farO ho3.fresh HAA.out)
    clear ho3 hr3 hx HX3 HR3
    go_wp2
    refine bodyPost_ret (v := .tuple #[.slice A l.length c, .string x]) (by simp [results, Try.results21, go_sem]) rfl ?_
    exact ⟨A, l, c, x, rfl, ⟨HS3.out, HAA.out⟩, H2.out, H3.out, HX.out, HO3.out, HR4.out.weak (by omega)⟩
  | true =>
    have hlen : 1 ≤ l.length := by
      cases l with
      | nil => cases hv
      | cons a r => simp
    have HG := Lib.hid (l4Good_any b c (P + 50) A l w2 hlen H2.out.1 (fun s hs => by obtain ⟨c, h, -⟩ := nameOk_one (validB_names hv hs); rw [h]; exact Nat.le_refl _) HAA.out (by omega) HR2.out H12.out)
    clear hlen hv HR2
    go_wp2_with fail
    refine HG.out.mono ?_
    rintro e w3 ⟨x, rfl, hx, ho3, hr3⟩
    have HO3 := Lib.hid (HO2.out.trans ho3)
    have HR3 := Lib.hid hr3
    have HS3 := Lib.hid (H12.out.farO ho3 HAA.out)
    clear ho3 hr3 HO2 H12 HG
    go_wp2_with fail
    refine (draw_any b (P + 50 + 870) 12 _ HR3.out (by omega) (by omega) (by omega)).mono ?_
    rintro e w4 ⟨v, rfl, ⟨hv0, hv1⟩, ho4, hr4⟩
    have HO4 := Lib.hid (HO3.out.trans ho4)
    have HR4 := Lib.hid hr4
    have HS4 := Lib.hid (HS3.out.farO ho4 HAA.out)
    clear ho4 hr4 HO3 HR3 HS3 hv1
    by_cases hv : v = 0
    · subst hv
      cases he : x.toList.isEmpty with
      | true =>
        go_wp2
        refine bodyPost_ret (v := .tuple #[.slice A l.length c, .string x]) (by simp [results, Try.results21, go_sem]) rfl ?_
        exact ⟨A, l, c, x, rfl, ⟨HS4.out, HAA.out⟩, H2.out, H3.out, by omega, HO4.out, HR4.out.weak (by omega)⟩
      | false =>
        have hx0 : x.size ≠ 0 := fun h => by
          rw [show x = ⟨#[]⟩ from ByteArray.ext (Array.eq_empty_of_size_eq_zero h)] at he
          revert he
          unfold ByteArray.toList ByteArray.toList.loop
          decide
        go_wp2_with fail
        refine (draw_any b (P + 50 + 870 + 1) x.size _ HR4.out (by omega) (by omega) (by omega)).mono ?_
        rintro e w5 ⟨k, rfl, ⟨hk0, hk1⟩, ho5, hr5⟩
        obtain ⟨k, rfl⟩ := Int.eq_ofNat_of_zero_le hk0
        have hk : k < x.size := by have := hk1 (by omega); omega
        have HO5 := Lib.hid (HO4.out.trans ho5)
        have HB5 := Lib.hid (Only.refl w5 (· = b)).drew'
        have HS5 := Lib.hid (HS4.out.farO ho5 HAA.out)
        have HR5 := Lib.hid hr5
        have HSAT : Hid (Sat w b (P + 50 + 870 + 1 + 1) w5.drew) := Lib.hid ⟨HO5.out.drew', HR5.out.below ((Below.refl _ w5).drew)⟩
        clear ho5 hr5 HO4 HR4 HS4 hk0 hk1
        have HT0 := Lib.hid (texts_new w5.drew b 9 oddTexts HSAT.out.2.lt)
        have hk0 : (0 : Int) ≤ (k : Int) := Int.natCast_nonneg _
        have hkx : (k : Int) ≤ (x.size : Int) := by omega
        have HQ := Lib.hid hP
        clear HB5 HO5 HR5 he hv0 hx0
        go_wp2_with fail
        go_region_with (first
          | (go_at_call 33; refine (ofS_any w b (P + 50 + 870 + 1 + 1) w5.heap.size _ (Sat.alloc HSAT _) (by have := HQ.out; omega) HT0).mono ?_; rintro e w6 ⟨y, rfl, HY, ho6, HSAT6⟩)
          | (go_at_call 30; refine (pickS_any w b (P + 50 + 870 + 1 + 1 + 1) w6 HSAT6 (by have := HQ.out; omega)).mono ?_; rintro e w7 ⟨j, rfl, hj, ho7, HSAT7⟩; obtain ⟨s, HSJ⟩ : ∃ s : Nat, Hid (s = k + j) := ⟨_, rfl⟩; have hws : IntKind.i64.wrap ((k : Int) + (j : Int)) = (s : Int) := (IntWalk.i64_in _ (by omega)).trans (by rw [HSJ.out]; rfl); have hsx : (s : Int) ≤ (x.size : Int) := by (rw [HSJ.out]; omega)))
        all_goals
          have HSF := Lib.hid (HS5.out.farO ((Only.refl w5 (· = b)).drew'.trans (ho6.fresh.trans ho7)) HAA.out)
          have HSZ : Hid ((x.extract 0 k ++ y ++ x.extract s x.size).size ≤ 82) := by
            show _ ≤ _
            rw [ByteArray.size_append, ByteArray.size_append, ByteArray.size_extract, ByteArray.size_extract]
            have := HSJ.out
            omega
          clear ho6 ho7 HS5 HSAT6 HSAT HT0
          go_wp2
          refine bodyPost_ret (v := .tuple #[.slice A l.length c, .string (x.extract 0 k ++ y ++ x.extract s x.size)]) (by simp [results, Try.results21, go_sem]) rfl ?_
          exact ⟨A, l, c, _, rfl, ⟨HSF.out, HAA.out⟩, H2.out, H3.out, HSZ.out, HSAT7.out.1, HSAT7.out.2.weak (by omega)⟩
    · go_wp2
      refine bodyPost_ret (v := .tuple #[.slice A l.length c, .string x]) (by simp [results, Try.results21, go_sem]) rfl ?_
      exact ⟨A, l, c, x, rfl, ⟨HS4.out, HAA.out⟩, H2.out, H3.out, by omega, HO4.out, HR4.out.weak (by omega)⟩

end Go.Proofs.Ytjehklkndmdcaaa
/- Draws of chapter 4: a text many times; the draws of NeedsOf, TraceValid, Without. All over l1Good's contract. -/
namespace Go.Proofs.Ytjehklkndmdcaaa
open Go.RowKit

set_option maxRecDepth 100000 in
set_option maxHeartbeats 1000000 in
theorem l13Many_any (s : ByteArray) (n : Nat) (w : World) (hs : s.size ≤ 2) (hn : n ≤ 100) :
    Calls Try.prog 34 #[.string s, .int .i64 n] w fun e w' => (∃ x : ByteArray, e = .returned (.string x) ∧ x.size = s.size * n) ∧ w' = w := by
  have hc : s.size * n ≤ 200 := Nat.le_trans (Nat.mul_le_mul hs hn) (by decide)
  obtain ⟨C, HC⟩ : ∃ C : Nat, Hid (C = s.size * n) := ⟨_, rfl⟩
  have hC : C ≤ 200 := by rw [HC.out]; exact hc
  have HS0 := Lib.hid hs
  go_enter Try.func34, Try.ntmps34
  go_wp2
  go_loopw [0, 1, 5] (fun u k o wr => ∃ (k' : Nat) (u' o' : ByteArray), u = .string u' ∧ k = .int .i64 k' ∧ o = .string o' ∧ k' ≤ 100 ∧ u'.size ≤ 400 ∧ o'.size ≤ 200 ∧ Hid (o'.size + u'.size * k' = C) ∧ wr = w)
    (fun _ k _ _ => (intOf k).toNat)
  case atStart => exact ⟨n, s, _, rfl, rfl, rfl, hn, by omega, Nat.zero_le _, Lib.hid (by rw [HC.out]; exact Nat.zero_add _), rfl⟩
  case round =>
    obtain ⟨k, u, o, rfl, rfl, rfl, hk, hu, ho, HK, rfl⟩ := hrel
    by_cases h0 : 0 < k
    · have h0' : (0 : Int) < (k : Int) := by omega
      have e1 : (k : Int).tmod 2 = ((k % 2 : Nat) : Int) := by rw [Int.tmod_eq_emod_of_nonneg (by omega)]; rfl
      have e2 : (k : Int).tdiv 2 = ((k / 2 : Nat) : Int) := by rw [Int.tdiv_eq_ediv_of_nonneg (by omega)]; rfl
      have huk : u.size ≤ 200 := by
        have h1 := HK.out
        have h2 : u.size * 1 ≤ u.size * k := Nat.mul_le_mul_left _ h0
        omega
      have huu : (u ++ u).size = 2 * u.size := by rw [ByteArray.size_append]; omega
      have hkd : k = 2 * (k / 2) + k % 2 := by omega
      by_cases hodd : k % 2 = 1
      · rw [hodd] at e1
        have HK2 : Hid ((o ++ u).size + (u ++ u).size * (k / 2) = C) := by
          show _ = _
          rw [ByteArray.size_append, huu, ← HK.out]
          have : u.size * k = u.size * (2 * (k / 2) + 1) := by rw [← hodd, ← hkd]
          rw [this, Nat.mul_add, Nat.mul_one, Nat.mul_assoc, Nat.mul_left_comm]
          omega
        have hoz : (o ++ u).size ≤ 200 := by have := HK2.out; omega
        have hk2 : k / 2 < k := by omega
        clear hkd hc
        generalize k / 2 = k2 at *
        go_wp2
        go_roundw
        case rel => exact ⟨k2, _, _, rfl, by go_num, rfl, by omega, by omega, hoz, HK2, trivial⟩
        case measure => simp [intOf]; omega
      · have hev : k % 2 = 0 := by omega
        rw [hev] at e1
        have HK2 : Hid (o.size + (u ++ u).size * (k / 2) = C) := by
          show _ = _
          rw [huu, ← HK.out]
          have : u.size * k = u.size * (2 * (k / 2)) := by rw [show 2 * (k / 2) = k from by omega]
          rw [this, Nat.mul_assoc, Nat.mul_left_comm]
        have hk2 : k / 2 < k := by omega
        clear hkd hc
        generalize k / 2 = k2 at *
        go_wp2
        go_roundw
        case rel => exact ⟨k2, _, _, rfl, by go_num, rfl, by omega, by omega, ho, HK2, trivial⟩
        case measure => simp [intOf]; omega
    · obtain rfl : k = 0 := by omega
      have HO : Hid (o.size = s.size * n) := by
        show _ = _
        rw [← HC.out, ← HK.out, Nat.mul_zero, Nat.add_zero]
      go_wp2
      go_ret
      exact ⟨⟨o, rfl, HO.out⟩, rfl⟩

set_option maxRecDepth 100000 in
set_option maxHeartbeats 1000000 in
theorem drawNeedsOf_plain (hgood : GoodSaid) (A0 : Option Addr) (n c0 : Nat) (w : World) (hn : n ≤ c0) (hx : ∀ b, w.heap.size ≤ b → Bytes w b A0 n) :
    Calls Try.prog 5 #[.slice A0 n c0] w fun e w' => ∃ A l c x, e = .returned (.tuple #[.slice A (List.length l) c, .string x]) ∧ TreeHas w' A l c ∧ x.size ≤ 82 ∧ Below w.heap.size w w' := by
  have HO := Lib.hid (l13Open_any A0 n c0 w hn hx)
  have HP := Lib.hid (fun b w h => l4Some_plain hgood b 0 w h (Nat.zero_le _))
  clear hx hgood
  go_enter Try.func5, Try.ntmps5
  go_wp2_with fail
  refine Calls.mono HO.out ?_
  rintro e w1 ⟨b, rfl, hbb, hr, hb1⟩
  have HB1 := Lib.hid hb1
  have HPP := Lib.hid (HP.out b w1 hr)
  clear hr hb1 HP HO
  go_wp2_with fail
  refine Calls.mono HPP.out ?_
  rintro e w2 ⟨A, l, c, x, rfl, ⟨hs, hs'⟩, hl, hsh, hxx, ho, hr2⟩
  have HT : Hid (TreeHas w2 A l c) := ⟨hs, hl, hsh⟩
  have HB2 := Lib.hid (only_below HB1.out hbb ho)
  have HX := Lib.hid hxx
  clear hs hs' hl hsh hxx ho hr2 HPP
  go_wp2
  refine bodyPost_ret (v := .tuple #[.slice A l.length c, .string x]) (by simp [results, Try.results5, go_sem]) rfl ?_
  exact ⟨A, l, c, x, rfl, HT.out, HX.out, HB2.out⟩

set_option maxRecDepth 100000 in
set_option maxHeartbeats 1000000 in
theorem drawWithout_plain (hgood : GoodSaid) (A0 : Option Addr) (n c0 : Nat) (w : World) (hn : n ≤ c0) (hx : ∀ b, w.heap.size ≤ b → Bytes w b A0 n) :
    Calls Try.prog 13 #[.slice A0 n c0] w fun e w' => ∃ A l c x y, e = .returned (.tuple #[.slice A (List.length l) c, .string x, .string y]) ∧ TreeHas w' A l c ∧ x.size ≤ 82 ∧ y.size ≤ 2 ∧ Below w.heap.size w w' := by
  have HO := Lib.hid (l13Open_any A0 n c0 w hn hx)
  have HP := Lib.hid (fun b w h => l4Some_plain hgood b 0 w h (Nat.zero_le _))
  clear hx hgood
  go_enter Try.func13, Try.ntmps13
  go_wp2_with fail
  refine Calls.mono HO.out ?_
  rintro e w1 ⟨b, rfl, hbb, hr, hb1⟩
  have HB1 := Lib.hid hb1
  have HPP := Lib.hid (HP.out b w1 hr)
  clear hr hb1 HP HO
  go_wp2_with fail
  refine Calls.mono HPP.out ?_
  rintro e w2 ⟨A, l, c, x, rfl, ⟨hs, hs'⟩, hl, hsh, hxx, ho, hr2⟩
  have HB2 := Lib.hid (only_below HB1.out hbb ho)
  have HS2 := Lib.hid hs
  have HSA := Lib.hid hs'
  have HL := Lib.hid hl
  have HSH := Lib.hid hsh
  have HX := Lib.hid hxx
  have HR2 := Lib.hid hr2
  clear hs hs' hl hsh hxx ho hr2 HPP
  go_wp2_with fail
  refine (l1Any_any b _ w2 HR2.out (by omega)).mono ?_
  rintro e w3 ⟨y, rfl, hy, ho3, hr3⟩
  have HT : Hid (TreeHas w3 A l c) := ⟨HS2.out.farO ho3 HSA.out, HL.out, HSH.out⟩
  have HB3 := Lib.hid (only_below HB2.out hbb ho3)
  have HY := Lib.hid hy
  clear ho3 hr3 hy
  go_wp2
  refine bodyPost_ret (v := .tuple #[.slice A l.length c, .string x, .string y]) (by simp [results, Try.results13, go_sem]) rfl ?_
  exact ⟨A, l, c, x, y, rfl, HT.out, HX.out, HY.out, HB3.out⟩

set_option maxRecDepth 100000 in
set_option maxHeartbeats 2000000 in
theorem drawTraceValid_plain (hgood : GoodSaid) (A0 : Option Addr) (n c0 : Nat) (w : World) (hn : n ≤ c0) (hx : ∀ b, w.heap.size ≤ b → Bytes w b A0 n) :
    Calls Try.prog 9 #[.slice A0 n c0] w fun e w' => ∃ A l c x, e = .returned (.tuple #[.slice A (List.length l) c, .string x]) ∧ TreeHas w' A l c ∧ x.size ≤ 82 ∧ Below w.heap.size w w' := by
  have HO := Lib.hid (l13Open_any A0 n c0 w hn hx)
  have HP := Lib.hid (fun b w h => l4Some_plain hgood b 1 w h (by omega))
  have HG := Lib.hid (fun b w h => hgood b 1 w (by omega) h)
  clear hx hgood
  go_enter Try.func9, Try.ntmps9
  go_wp2_with fail
  refine Calls.mono HO.out ?_
  rintro e w1 ⟨b, rfl, hbb, hr, hb1⟩
  have HB1 := Lib.hid hb1
  have HR1 := Lib.hid hr
  clear hr hb1 HO
  go_wp2_with fail
  refine (draw_any b 0 16 w1 HR1.out (by omega) (by omega) (by omega)).mono ?_
  rintro e w2 ⟨v, rfl, ⟨hv0, hv1⟩, ho2, hr2⟩
  have HB2 := Lib.hid (only_below HB1.out hbb ho2)
  have HR2 := Lib.hid hr2
  clear ho2 hr2 hv1 HR1 HB1
  by_cases h0 : v = 0
  · subst h0
    have HGG := Lib.hid (HG.out b w2 HR2.out)
    have HBW := Lib.hid HR2.out.lt
    clear HG HP HR2
    go_wp2_with fail
    refine Calls.mono HGG.out ?_
    rintro e w3 ⟨vt, l, rfl, hd, ho3, hr3⟩
    obtain ⟨g, c, rfl, hg, hlc, hcm⟩ := hd.own.slice hd.some
    have HD3 := Lib.hid hd
    have HB3 := Lib.hid (only_below HB2.out hbb ho3)
    have hr3b := hr3.lt
    have HR3 := Lib.hid (hr3.alloc (.cells #[.int .i64 7, .int .i64 8, .int .i64 6] 3))
    have HX3 := Lib.hid (nums_new w3 b 3 [7, 8, 6] hr3b)
    clear hd ho3 hr3 HGG HB2
    go_wp2_with fail
    refine (num_any b (1 + 40) w3.heap.size 0 3 3 (· ∈ ([7, 8, 6] : List Int)) _ HR3.out (by omega) (by omega) (by omega) HX3.out).mono ?_
    rintro e w4 ⟨k, rfl, hk, ho4, hr4⟩
    obtain ⟨m, rfl, hm8⟩ : ∃ m : Nat, k = (m : Int) ∧ m ≤ 8 := by
      have h : ∀ x ∈ ([7, 8, 6] : List Int), 0 ≤ x ∧ x ≤ 8 := by decide
      obtain ⟨h2, h3⟩ := h k hk
      exact ⟨k.toNat, by omega, by omega⟩
    have HD4 := Lib.hid (HD3.out.far ho4.fresh HBW.out)
    have HB4 := Lib.hid (only_below HB3.out hbb ho4.fresh)
    have HR4 := Lib.hid hr4
    clear ho4 hr4 hk HX3 HR3 HD3 HB3
    go_wp2_with fail
    refine (l13Many_any ⟨#[65, 40]⟩ m w4 (Nat.le_refl _) (by omega)).mono ?_
    rintro e w5 ⟨⟨x1, rfl, hx1⟩, rfl⟩
    have hx1' : x1.size ≤ 16 := by
      have h2 : (⟨#[65, 40]⟩ : ByteArray).size = 2 := rfl
      rw [h2] at hx1; omega
    clear hx1
    go_wp2_with fail
    refine (l13Many_any ⟨#[41]⟩ m w5 (by decide) (by omega)).mono ?_
    rintro e w6 ⟨⟨x2, rfl, hx2⟩, rfl⟩
    have hx2' : x2.size ≤ 8 := by
      have h2 : (⟨#[41]⟩ : ByteArray).size = 1 := rfl
      rw [h2] at hx2; omega
    clear hx2
    have HR6 := Lib.hid (HR4.out.alloc (.cells #[.int .i64 80, .int .i64 81] 3))
    have HX6 := Lib.hid (nums_new w6 b 3 [80, 81] HR4.out.lt)
    go_wp2_with fail
    refine (num_any b (1 + 40 + 1) w6.heap.size 0 2 2 (· ∈ ([80, 81] : List Int)) _ HR6.out (by omega) (by omega) (by omega) HX6.out).mono ?_
    rintro e w7 ⟨k, rfl, hk, ho7, hr7⟩
    obtain ⟨j, rfl, hj⟩ : ∃ j : Nat, k = (j : Int) ∧ j ≤ 81 := by
      have h : ∀ x ∈ ([80, 81] : List Int), 0 ≤ x ∧ x ≤ 81 := by decide
      obtain ⟨h2, h3⟩ := h k hk
      exact ⟨k.toNat, by omega, by omega⟩
    have HD7 := Lib.hid (HD4.out.far ho7.fresh HBW.out)
    have HB7 := Lib.hid (only_below HB4.out hbb ho7.fresh)
    have HR7 := Lib.hid hr7
    clear ho7 hr7 hk HX6 HR6 HR4 HD4 HB4
    go_wp2_with fail
    refine (l13Many_any ⟨#[65]⟩ j w7 (by decide) (by omega)).mono ?_
    rintro e w8 ⟨⟨x3, rfl, hx3⟩, rfl⟩
    have hx3' : x3.size ≤ 81 := by
      have h2 : (⟨#[65]⟩ : ByteArray).size = 1 := rfl
      rw [h2] at hx3; omega
    clear hx3
    have hx4' : (x1 ++ ⟨#[65]⟩ ++ x2).size ≤ 81 := by
      have h2 : (⟨#[65]⟩ : ByteArray).size = 1 := rfl
      rw [ByteArray.size_append, ByteArray.size_append, h2]
      omega
    generalize x1 ++ ⟨#[65]⟩ ++ x2 = x4 at *
    have HR8 := Lib.hid (HR7.out.alloc (.cells #[.string x4, .string x3] 9))
    have HX8 := Lib.hid (texts_new w8 b 9 [x4, x3] HR7.out.lt)
    go_wp2_with fail
    refine (of_any b (1 + 40 + 1 + 1) w8.heap.size 0 2 2 _ _ HR8.out (by omega) (by omega) (by omega) HX8.out).mono ?_
    rintro e w9 ⟨y, rfl, hy, ho9, hr9⟩
    have hy' : y.size ≤ 82 := by
      rcases List.mem_cons.1 hy with rfl | hy
      · omega
      · rcases List.mem_cons.1 hy with rfl | hy
        · omega
        · cases hy
    have HD9 := Lib.hid (HD7.out.far ho9.fresh HBW.out)
    have HB9 := Lib.hid (only_below HB7.out hbb ho9.fresh)
    clear ho9 hr9 hy HX8 HR8 HR7 HD7 HB7
    go_wp2
    obtain ⟨A', c', e', hs⟩ := HD9.out.own.form
    refine bodyPost_ret (v := .tuple #[.slice (some ⟨g, 0, none⟩) l.length c, .string y]) (by simp [results, Try.results9, go_sem]) rfl ?_
    exact ⟨some ⟨g, 0, none⟩, l, c, y, rfl, ⟨by cases e'; exact hs, ⟨by have := HD9.out.few; omega, hlc, hcm⟩, HD9.out.short⟩, hy', HB9.out⟩
  · have HPP := Lib.hid (HP.out b w2 HR2.out)
    clear HG HP
    go_wp2_with fail
    refine Calls.mono HPP.out ?_
    rintro e w3 ⟨A, l, c, x, rfl, ⟨hs, hs'⟩, hl, hsh, hxx, ho, hr2⟩
    have HT : Hid (TreeHas w3 A l c) := ⟨hs, hl, hsh⟩
    have HB3 := Lib.hid (only_below HB2.out hbb ho)
    have HX := Lib.hid hxx
    clear hs hs' hl hsh hxx ho hr2 HPP HB2
    go_wp2
    refine bodyPost_ret (v := .tuple #[.slice A l.length c, .string x]) (by simp [results, Try.results9, go_sem]) rfl ?_
    exact ⟨A, l, c, x, rfl, HT.out, HX.out, HB3.out⟩

end Go.Proofs.Ytjehklkndmdcaaa
