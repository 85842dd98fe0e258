/- Joined: Ca Cb Cc. -/
import Derived.Test.YtbmfbnlmdjnddaaGreatU33
import Derived.Test.YtbmfbnlmdjnddaaGreatU05
import Derived.Test.YtbmfbnlmdjnddaaGreatU17
import Derived.Test.YtbmfbnlmdjnddaaGreatU21
import Derived.Test.YtbmfbnlmdjnddaaGreatU29
import Derived.Test.YtbmfbnlmdjnddaaGreatU13
/- Draws of chapter 6: calls that go down, and a tree with a text that is often a safe trace. -/
namespace Go.Proofs.YtbmfbnlmdjnddaaGreat
open Go.RowKit

theorem kidsStr_few {l : List Seg} (h9 : l.length ≤ 9) (s : ByteArray) : (kidsStr l s).size ≤ 9 := by
  unfold kidsStr
  by_cases h : indexB l s < 0
  · rw [if_pos h]; exact Nat.zero_le _
  · rw [if_neg h]
    have hv := index_valid (l := l) (s := s) (by omega)
    have := kidNames_len (l := l) (fun s hs => by obtain ⟨c, h, -⟩ := nameOk_one (validB_names hv hs); rw [h]; exact Nat.le_refl _) (indexB l s).toNat l.length (Nat.le_refl _)
    omega
theorem list_none {x : ByteArray} (h : x.toList.isEmpty = false) : 0 < x.size := by
  refine Nat.pos_of_ne_zero fun h0 => ?_
  rw [show x = ⟨#[]⟩ from ByteArray.ext (Array.eq_empty_of_size_eq_zero h0)] at h
  revert h
  unfold ByteArray.toList ByteArray.toList.loop
  decide
def downNums : List Int := [1, 2, 1, 3]

set_option maxRecDepth 100000 in
set_option maxHeartbeats 2000000 in
theorem l6Down_any (b c : Nat) (A : Option Addr) (l : List Seg) (h9 : l.length ≤ 9) (hsh : Short l) (hA : ∀ g o, A = some ⟨g, o, none⟩ → b < g) :
    ∀ (d : Nat), d ≤ 3 → ∀ (P : Nat) (s : ByteArray) (w : World), P + 4 * 6 ^ d ≤ 10000 → Rd w b P → Segs w w.heap.size A l →
    Calls Tryz.prog 113 #[.pointer (some ⟨b, 0, none⟩), .slice A l.length c, .string s, .int .i64 d] w (TextDrawn b P (4 * 6 ^ d) (3 * 6 ^ d) w) := by
  intro d
  induction d with
  | zero =>
    intro _ P s w hP hr hw
    have hP : P ≤ 9996 := by have h : P + 4 * 6 ^ 0 ≤ 10000 := hP; rw [Nat.pow_zero] at h; omega
    have HC := Lib.hid (specChildren_any A l c s w hw (by omega) hsh)
    have hk9 := kidsStr_few h9 s
    have HR0 := Lib.hid hr
    clear hr hw hsh
    generalize kidsStr l s = ks at *
    go_enter Tryz.func113, Tryz.ntmps113
    go_wp2_with fail
    refine Calls.mono HC.out ?_
    rintro e w1 ⟨rfl, hb⟩
    have HO1 : Hid (Only w w1 (· = b)) := (Only.refl w (· = b)).andBelow hb
    have HR1 : Hid (Rd w1 b P) := HR0.out.below hb
    have HR := Lib.hid (HR1.out.alloc (.cells #[.int .i64 1, .int .i64 2, .int .i64 1, .int .i64 3] 3))
    have HX := Lib.hid (nums_new w1 b 3 downNums HR1.out.lt)
    clear hb HC HR0
    go_wp2_with fail
    refine (num_any b P w1.heap.size 0 4 4 (· ∈ downNums) _ HR.out (by omega) (by omega) (by omega) HX.out).mono ?_
    rintro e w2 ⟨n, rfl, hn, ho, hr1⟩
    have HO := Lib.hid (HO1.out.trans ho.fresh)
    have HR2 := Lib.hid hr1
    obtain ⟨m, rfl, hm3⟩ : ∃ m : Nat, n = (m : Int) ∧ m ≤ 3 := by
      have h : ∀ x ∈ downNums, 0 ≤ x ∧ x ≤ 3 := by decide
      obtain ⟨h2, h3⟩ := h n hn
      exact ⟨n.toNat, by omega, by omega⟩
    clear ho hr1 hn HX HR HO1 HR1
    go_wp2
    go_loopw [9, 23] (fun x i wr => x = .string ⟨#[]⟩ ∧ i = .int .i64 0 ∧ Hid (Only w wr (· = b)) ∧ Hid (Rd wr b (P + 1)))
      (fun _ i _ => m - (intOf i).toNat)
    case atStart => exact ⟨rfl, rfl, HO, HR2⟩
    case round =>
      obtain ⟨rfl, rfl, HOk, HRk⟩ := hrel
      clear HO HR2
      by_cases hlt : 0 < m
      · have hlt' : (0 : Int) < (m : Int) := by omega
        cases he : ks.toList.isEmpty with
        | true =>
          go_wp2
          go_ret
          exact ⟨_, rfl, Nat.zero_le _, HOk.out, HRk.out.weak (by omega)⟩
        | false =>
          go_wp2
          go_ret
          exact ⟨_, rfl, Nat.zero_le _, HOk.out, HRk.out.weak (by omega)⟩
      · obtain rfl : m = 0 := by omega
        go_wp2
        go_ret
        exact ⟨_, rfl, Nat.zero_le _, HOk.out, HRk.out.weak (by omega)⟩
  | succ d ih =>
    intro hd P s w hP hr hw
    have hK : 1 ≤ 6 ^ d ∧ 6 ^ d ≤ 36 := by
      have : d = 0 ∨ d = 1 ∨ d = 2 := by omega
      rcases this with rfl | rfl | rfl <;> decide
    have hK2 : 6 ^ (d + 1) = 6 * 6 ^ d := by rw [Nat.pow_succ]; omega
    have IH := Lib.hid (fun P s w hP hr hw => ih (by omega) P s w hP hr hw)
    rw [hK2] at hP ⊢
    clear ih hK2
    generalize 6 ^ d = K at *
    have HC := Lib.hid (specChildren_any A l c s w hw (by omega) hsh)
    have hk9 := kidsStr_few h9 s
    have HR0 := Lib.hid hr
    have HW0 : Hid (Segs w w.heap.size A l) := hw
    have HAA := Lib.hid hA
    clear hr hw hsh hA
    generalize kidsStr l s = ks at *
    go_enter Tryz.func113, Tryz.ntmps113
    go_wp2_with fail
    refine Calls.mono HC.out ?_
    rintro e w1 ⟨rfl, hb⟩
    have HO1 : Hid (Only w w1 (· = b)) := (Only.refl w (· = b)).andBelow hb
    have HR1 : Hid (Rd w1 b P) := HR0.out.below hb
    have HR := Lib.hid (HR1.out.alloc (.cells #[.int .i64 1, .int .i64 2, .int .i64 1, .int .i64 3] 3))
    have HX := Lib.hid (nums_new w1 b 3 downNums HR1.out.lt)
    clear hb HC HR0
    go_wp2_with fail
    refine (num_any b P w1.heap.size 0 4 4 (· ∈ downNums) _ HR.out (by omega) (by omega) (by omega) HX.out).mono ?_
    rintro e w2 ⟨n, rfl, hn, ho, hr1⟩
    have HO := Lib.hid (HO1.out.trans ho.fresh)
    have HR2 := Lib.hid hr1
    obtain ⟨m, rfl, hm3⟩ : ∃ m : Nat, n = (m : Int) ∧ m ≤ 3 := by
      have h : ∀ x ∈ downNums, 0 ≤ x ∧ x ≤ 3 := by decide
      obtain ⟨h2, h3⟩ := h n hn
      exact ⟨n.toNat, by omega, by omega⟩
    clear ho hr1 hn HX HR HO1 HR1
    go_wp2
    go_loopw [9, 23] (fun s i wr => ∃ (k z q : Nat) (x : ByteArray), k ≤ m ∧ s = .string x ∧ i = .int .i64 k ∧ x.size ≤ z ∧ Hid (z = k * (3 + 3 * K)) ∧ Hid (q = k * (1 + 4 * K)) ∧ z ≤ 1000 ∧ q ≤ 1000 ∧ Hid (Only w wr (· = b)) ∧ Hid (Rd wr b (P + 1 + q)))
      (fun _ i _ => m - (intOf i).toNat)
    case atStart => exact ⟨0, 0, 0, _, Nat.zero_le _, rfl, rfl, Nat.le_refl _, Lib.hid (by omega), Lib.hid (by omega), by omega, by omega, HO, HR2⟩
    case round =>
      obtain ⟨k, z, q, x, hk, rfl, rfl, hx, HZ, HQ, hz9, hq9, HOk, HRk⟩ := hrel
      clear HO HR2
      have hfin : Hid (z ≤ 18 * K ∧ 1 + q ≤ 24 * K) := Lib.hid (by
        rw [HZ.out, HQ.out]
        have : k = 0 ∨ k = 1 ∨ k = 2 ∨ k = 3 := by omega
        rcases this with rfl | rfl | rfl | rfl <;> omega)
      by_cases hlt : k < m
      · have hlt' : (k : Int) < (m : Int) := by omega
        have hzz : z + (3 + 3 * K) ≤ 1000 ∧ q + (1 + 4 * K) ≤ 1000 ∧ q ≤ 2 + 8 * K := by
          rw [HZ.out, HQ.out]
          have : k = 0 ∨ k = 1 ∨ k = 2 := by omega
          rcases this with rfl | rfl | rfl <;> omega
        have HZN : Hid (z + (3 + 3 * K) = (k + 1) * (3 + 3 * K)) := Lib.hid ((congrArg (· + (3 + 3 * K)) HZ.out).trans (Nat.succ_mul k (3 + 3 * K)).symm)
        have HQN : Hid (q + (1 + 4 * K) = (k + 1) * (1 + 4 * K)) := Lib.hid ((congrArg (· + (1 + 4 * K)) HQ.out).trans (Nat.succ_mul k (1 + 4 * K)).symm)
        cases he : ks.toList.isEmpty with
        | true =>
          go_wp2
          go_ret
          exact ⟨_, rfl, by have := hfin.out.1; omega, HOk.out, HRk.out.weak (by have := hfin.out.2; omega)⟩
        | false =>
          have hks := list_none he
          have hd0 : ((d + 1 : Nat) : Int) ≠ 0 := by omega
          go_wp2_with fail
          refine (draw_any b (P + 1 + q) ks.size _ HRk.out (by omega) (by omega) (by omega)).mono ?_
          rintro e w3 ⟨v, rfl, ⟨hv0, hv1⟩, ho3, hr3⟩
          obtain ⟨j, rfl⟩ := Int.eq_ofNat_of_zero_le hv0
          have hj : j < ks.size := by have := hv1 (by omega); omega
          have hj' : (j : Int) < (ks.size : Int) := by omega
          have hj1 : (j : Int) + 1 ≤ (ks.size : Int) := by omega
          have hj0 : (0 : Int) ≤ (j : Int) := Int.natCast_nonneg _
          have HO3 := Lib.hid (HOk.out.trans ho3)
          have HR3 := Lib.hid hr3
          have HW3 : Hid (Segs w3 w3.heap.size A l) := HW0.out.farO HO3.out HAA.out
          clear ho3 hr3 hv0 hv1 HOk HRk
          go_wp2_with fail
          have hxs : (x ++ ks.extract j (j + 1)).size ≤ z + 1 := by
            rw [ByteArray.size_append, ByteArray.size_extract]
            omega
          refine (IH.out (P + 1 + q + 1) _ _ (by omega) HR3.out HW3.out).mono ?_
          rintro e w4 ⟨r, rfl, hrs, ho4, hr4⟩
          have HO4 := Lib.hid (HO3.out.trans ho4)
          have HR4 := Lib.hid (hr4.weak (Q := P + 1 + (q + (1 + 4 * K))) (by omega))
          have hr6 : r.size ≤ 200 := by omega
          generalize x ++ ks.extract j (j + 1) = y at *
          have hy6 : y.size ≤ 2000 := by omega
          have hys : (y ++ ⟨#[40]⟩ ++ r ++ ⟨#[41]⟩).size ≤ z + (3 + 3 * K) := by
            have a1 : (⟨#[40]⟩ : ByteArray).size = 1 := rfl
            have a2 : (⟨#[41]⟩ : ByteArray).size = 1 := rfl
            rw [ByteArray.size_append, ByteArray.size_append, ByteArray.size_append, a1, a2]
            omega
          clear ho4 hr4 HR3 HO3 HW3
          cases hre : r.toList.isEmpty with
          | true =>
            go_wp2
            go_roundw
            case rel => exact ⟨k + 1, _, _, _, by omega, rfl, by go_num, by omega, HZN, HQN, hzz.1, hzz.2.1, HO4, HR4⟩
            case measure => simp [intOf]; omega
          | false =>
            go_wp2
            go_roundw
            case rel => exact ⟨k + 1, _, _, _, by omega, rfl, by go_num, hys, HZN, HQN, hzz.1, hzz.2.1, HO4, HR4⟩
            case measure => simp [intOf]; omega
      · obtain rfl : k = m := by omega
        go_wp2
        go_ret
        exact ⟨x, rfl, by have := hfin.out.1; omega, HOk.out, HRk.out.weak (by have := hfin.out.2; omega)⟩

/-- What l6Some leaves. -/
def DownPost (b : Nat) (w : World) (e : Ending) (w' : World) : Prop :=
  ∃ A l c x, e = .returned (.tuple #[.slice A (List.length l) c, .string x]) ∧ TreeHas w' A l c ∧ x.size ≤ 82 ∧ Only w w' (· = b)

set_option maxRecDepth 100000 in
set_option maxHeartbeats 2000000 in
theorem l6Some_plain (hgood : GoodSaid) (b P : Nat) (w : World) (hr : Rd w b P) (hP : P ≤ 50) :
    Calls Tryz.prog 50 #[.pointer (some ⟨b, 0, none⟩)] w (DownPost b w) := by
  have HS := Lib.hid (fun w h => l4Some_plain hgood b (P + 1) w h (by omega))
  have HG := Lib.hid (fun w h => hgood b (P + 1) w (by omega) h)
  have HR := Lib.hid hr
  clear hgood hr
  go_enter Tryz.func50, Tryz.ntmps50
  go_wp2_with fail
  refine (draw_any b P 2 w HR.out (by omega) (by omega) (by omega)).mono ?_
  rintro e w1 ⟨n, rfl, ⟨hn0, hn1⟩, ho, hr1⟩
  have HO1 := Lib.hid ho
  have HR1 := Lib.hid hr1
  have HBW := Lib.hid hr1.lt
  clear ho hr1 hn1 HR
  by_cases h0 : n = 0
  · subst h0
    go_wp2_with fail
    refine Calls.mono (HS.out w1 HR1.out) ?_
    rintro e w2 ⟨A, l, c, x, rfl, ⟨hs, hs'⟩, hl, hsh, hxx, ho, hr2⟩
    have HT : Hid (TreeHas w2 A l c) := ⟨hs, hl, hsh⟩
    have HO2 := Lib.hid (HO1.out.trans ho)
    have HX := Lib.hid hxx
    clear hs hs' hl hsh hxx ho hr2
    go_wp2
    refine bodyPost_ret (v := .tuple #[.slice A l.length c, .string x]) (by simp [results, Tryz.results50, go_sem]) rfl ?_
    exact ⟨A, l, c, x, rfl, HT.out, HX.out, HO2.out⟩
  · have h0' : ¬ n = 0 := h0
    go_wp2_with fail
    refine Calls.mono (HG.out w1 HR1.out) ?_
    rintro e w2 ⟨v, l, rfl, hd, ho, hr2⟩
    obtain ⟨g, c, rfl, hg, hlc, hcm⟩ := hd.own.slice hd.some
    have hS2 : Segs w2 w2.heap.size (some ⟨g, 0, none⟩) l := by
      obtain ⟨A', c', e', hs⟩ := hd.own.form
      cases e'
      exact hs
    have HA : Hid (∀ g' o', (some ⟨g, 0, none⟩ : Option Addr) = some ⟨g', o', none⟩ → b < g') := fun g' o' e => by cases e; exact Nat.lt_of_lt_of_le HBW.out hg
    have h8 : l.length ≤ 9 := by have := hd.few; omega
    have h1 : 0 < l.length := hd.some
    have HN := Lib.hid hd.short
    have HSH : Hid (Short l) := fun s hs => Nat.le_trans (hd.short s hs) (by decide)
    have HO2 := Lib.hid (HO1.out.trans ho)
    have HR2 := Lib.hid hr2
    have HW2 := Lib.hid hS2
    obtain ⟨g', o', eg, hgB, hc⟩ := hS2 h1
    cases eg
    obtain ⟨e1, e2, e3⟩ := hc 0 _ (List.getElem?_eq_getElem h1)
    rw [Nat.zero_mul, Nat.add_zero] at e1
    have hl0 : (0 : Int) < (l.length : Int) := by omega
    clear hc hS2 hd ho hr2 HG HS HO1 HR1
    generalize l[0] = sg at *
    have hk : Hid (4 * 6 ^ 3 = 864 ∧ 3 * 6 ^ 3 = 648) := Lib.hid (by decide)
    go_wp2_with fail
    refine (l6Down_any b c (some ⟨g, 0, none⟩) l h8 HSH.out HA.out 3 (Nat.le_refl _) (P + 1 + 40) sg.name w2 (by have := hk.out.1; omega) HR2.out HW2.out).mono ?_
    rintro e w3 ⟨x, rfl, hx, ho3, hr3⟩
    have HO3 := Lib.hid (HO2.out.trans ho3)
    have HS3 : Hid (Segs w3 w3.heap.size (some ⟨g, 0, none⟩) l) := HW2.out.farO ho3 HA.out
    have hx6 : x.size ≤ 648 := by have := hk.out.2; omega
    clear hx ho3 hr3 hk e1 e2 e3
    by_cases hb : 80 < x.size
    · have hb' : (80 : Int) < (x.size : Int) := by omega
      go_wp2
      refine bodyPost_ret (v := .tuple #[.slice (some ⟨g, 0, none⟩) l.length c, .string ⟨#[]⟩]) (by simp [results, Tryz.results50, go_sem]) rfl ?_
      exact ⟨_, l, c, _, rfl, ⟨HS3.out, ⟨h8, hlc, hcm⟩, HN.out⟩, Nat.zero_le _, HO3.out⟩
    · have hb' : ¬ (80 : Int) < (x.size : Int) := by omega
      go_wp2
      refine bodyPost_ret (v := .tuple #[.slice (some ⟨g, 0, none⟩) l.length c, .string x]) (by simp [results, Tryz.results50, go_sem]) rfl ?_
      exact ⟨_, l, c, x, rfl, ⟨HS3.out, ⟨h8, hlc, hcm⟩, HN.out⟩, by omega, HO3.out⟩

set_option maxRecDepth 100000 in
set_option maxHeartbeats 1000000 in
theorem drawLostIn_plain (hgood : GoodSaid) (A0 : Option Addr) (n c0 : Nat) (w : World) (hn : n ≤ c0) (hx : ∀ b, w.heap.size ≤ b → Bytes w b A0 n) :
    Calls Tryz.prog 8 #[.slice A0 n c0] w fun e w' => ∃ A l c x, e = .returned (.tuple #[.slice A (List.length l) c, .string x]) ∧ TreeHas w' A l c ∧ x.size ≤ 82 ∧ Below w.heap.size w w' := by
  have HO := Lib.hid (l13Open_any A0 n c0 w hn hx)
  have HP := Lib.hid (fun b w h => l6Some_plain hgood b 0 w h (Nat.zero_le _))
  clear hx hgood
  go_enter Tryz.func8, Tryz.ntmps8
  go_wp2_with fail
  refine Calls.mono HO.out ?_
  rintro e w1 ⟨b, rfl, hbb, hr, hb1⟩
  have HB1 := Lib.hid hb1
  have HPP := Lib.hid (HP.out b w1 hr)
  clear hr hb1 HP HO
  go_wp2_with fail
  refine Calls.mono HPP.out ?_
  rintro e w2 ⟨A, l, c, x, rfl, hT, hxx, ho⟩
  have HT := Lib.hid hT
  have HB2 := Lib.hid (only_below HB1.out hbb ho)
  have HX := Lib.hid hxx
  clear hT hxx ho HPP
  go_wp2
  refine bodyPost_ret (v := .tuple #[.slice A l.length c, .string x]) (by simp [results, Tryz.results8, go_sem]) rfl ?_
  exact ⟨A, l, c, x, rfl, HT.out, HX.out, HB2.out⟩

end Go.Proofs.YtbmfbnlmdjnddaaGreat
/- Draws of chapter 3: a state, and a text of names. -/
namespace Go.Proofs.YtbmfbnlmdjnddaaGreat
open Go.RowKit

theorem statesB_few {l : List Seg} (hv : validB l = true) : 1 ≤ (statesB l).length ∧ (statesB l).length ≤ 9 := by
  unfold statesB
  have h8 := (valid_all hv).2.1
  rw [if_pos hv]
  unfold stTexts
  simp
  omega
theorem statesB_short {l : List Seg} (hv : validB l = true) : ∀ x ∈ statesB l, x.size ≤ 9 := by
  intro x hx
  unfold statesB at hx
  rw [if_pos hv] at hx
  have h8 := (valid_all hv).2.1
  unfold stTexts at hx
  rcases List.mem_cons.1 hx with rfl | h
  · exact Nat.zero_le _
  · obtain ⟨i, hi, rfl⟩ := List.mem_map.1 h
    have hi' := List.mem_range.1 hi
    have h1 := namesAt_len (l := l) (fun s hs => by obtain ⟨c, h, -⟩ := nameOk_one (validB_names hv hs); rw [h]; exact Nat.le_refl _) (rp l i)
    have h2 : (rp l i).length ≤ i + 1 := rootPath_len l (i + 1) i
    omega
def oddStates : List ByteArray := [⟨#[66]⟩, ⟨#[66, 65]⟩, ⟨#[65, 65]⟩, ⟨#[65, 88]⟩, ⟨#[65, 66]⟩, ⟨#[65, 66, 67]⟩, ⟨#[]⟩]

set_option maxRecDepth 100000 in
set_option maxHeartbeats 2000000 in
theorem l3State_plain (b c P : Nat) (A : Option Addr) (l : List Seg) (w : World) (h9 : l.length ≤ 9) (hsh : Short l) (hr : Rd w b P) (hP : P ≤ 1000) (hw : Segs w w.heap.size A l) :
    Calls Tryz.prog 61 #[.pointer (some ⟨b, 0, none⟩), .slice A l.length c] w (TextDrawn b P 2 9 w) := by
  have HS := Lib.hid (specStates_any A l c w hw (by omega) hsh)
  have HR := Lib.hid hr
  have hf := fun h => statesB_few (l := l) h
  have HSB := Lib.hid (fun h => statesB_short (l := l) h)
  clear hw hsh hr
  unfold StatesPost at HS
  generalize statesB l = st at *
  cases hv : validB l with
  | false =>
    rw [hv] at HS
    clear hf HSB
    go_enter Tryz.func61, Tryz.ntmps61
    go_wp2_with fail
    refine Calls.mono HS.out ?_
    rintro e w1 ⟨v, rfl, -, hb⟩
    have HO1 : Hid (Only w w1 (· = b)) := (Only.refl w (· = b)).andBelow hb
    have HR1 : Hid (Rd w1 b P) := HR.out.below hb
    have HR2 := Lib.hid (HR1.out.alloc (.cells (oddStates.map Value.string).toArray 9))
    have HX := Lib.hid (texts_new w1 b 9 oddStates HR1.out.lt)
    clear hb HS HR
    go_wp2_with fail
    refine (of_any b P w1.heap.size 0 7 7 (· ∈ oddStates) _ HR2.out (by omega) (by omega) (by omega) HX.out).mono ?_
    rintro e w2 ⟨x, rfl, hx, ho, hr2⟩
    have HX2 : Hid (x.size ≤ 9) := by
      have h : ∀ x ∈ oddStates, x.size ≤ 9 := by decide
      exact h x hx
    have HO2 := Lib.hid (HO1.out.trans ho.fresh)
    have HR3 := Lib.hid hr2
    clear hx ho hr2 HX HR2 HO1 HR1
    go_wp2
    go_ret
    exact ⟨x, rfl, HX2.out, HO2.out, HR3.out.weak (by omega)⟩
  | true =>
    obtain ⟨hf1, hf2⟩ := hf hv
    have HSS := Lib.hid (HSB.out hv)
    rw [hv] at HS
    clear hf HSB hv
    go_enter Tryz.func61, Tryz.ntmps61
    go_wp2_with fail
    refine Calls.mono HS.out ?_
    rintro e w1 ⟨v, rfl, ho, hb⟩
    obtain ⟨g, cap, rfl⟩ := ho.form hf1
    have hgl := World.ownsRow.lt ho g rfl
    have HO1 : Hid (Only w w1 (· = b)) := (Only.refl w (· = b)).andBelow hb
    have HR1 : Hid (Rd w1 b P) := HR.out.below hb
    have hbw := HR.out.lt
    have HC : Hid (∀ i (s : ByteArray), st[i]? = some s → w1.cell? ⟨g, i, none⟩ = some (.string s)) := fun i s h => St.textsCell ho h
    have HG : Hid (g ≠ b ∧ g < w1.heap.size) := ⟨by omega, hgl.2⟩
    clear hb HS HR ho hgl hbw
    go_wp2_with fail
    refine (draw_any b P 12 _ HR1.out (by omega) (by omega) (by omega)).mono ?_
    rintro e w2 ⟨n, rfl, ⟨hn0, hn1⟩, ho2, hr2⟩
    have HO2 := Lib.hid (HO1.out.trans ho2)
    have HC2 : Hid (∀ i (s : ByteArray), st[i]? = some s → w2.cell? ⟨g, i, none⟩ = some (.string s)) := fun i s h => (only_cell ho2 HG.out.1 HG.out.2 i).trans (HC.out i s h)
    have HG2 : Hid (g ≠ b ∧ g < w2.heap.size) := ⟨HG.out.1, Nat.lt_of_lt_of_le HG.out.2 ho2.size⟩
    have HR2 := Lib.hid hr2
    clear ho2 hr2 HO1 HR1 HC HG hn1
    by_cases hp : 0 < n
    · go_wp2_with fail
      refine (draw_any b (P + 1) st.length _ HR2.out (by omega) (by omega) (by omega)).mono ?_
      rintro e w3 ⟨v, rfl, ⟨hv0, hv1⟩, ho3, hr3⟩
      obtain ⟨j, rfl⟩ := Int.eq_ofNat_of_zero_le hv0
      have hj : j < st.length := by have := hv1 (by omega); omega
      have hj' : (j : Int) < (st.length : Int) := by omega
      have hj0 : (0 : Int) ≤ (j : Int) := Int.natCast_nonneg _
      have HO3 := Lib.hid (HO2.out.trans ho3)
      have HR3 := Lib.hid hr3
      have cj := (only_cell ho3 HG2.out.1 HG2.out.2 j).trans (HC2.out j _ (List.getElem?_eq_getElem hj))
      have HX2 := Lib.hid (HSS.out _ (List.getElem_mem hj))
      clear ho3 hr3 hv0 hv1 HO2 HR2 HC2 HG2
      generalize st[j] = x at *
      go_wp2
      go_ret
      exact ⟨x, rfl, HX2.out, HO3.out, HR3.out.weak (by omega)⟩
    · have HR4 := Lib.hid (HR2.out.alloc (.cells (oddStates.map Value.string).toArray 9))
      have HX := Lib.hid (texts_new w2 b 9 oddStates HR2.out.lt)
      go_wp2_with fail
      refine (of_any b (P + 1) w2.heap.size 0 7 7 (· ∈ oddStates) _ HR4.out (by omega) (by omega) (by omega) HX.out).mono ?_
      rintro e w3 ⟨x, rfl, hx, ho, hr3⟩
      have HX2 : Hid (x.size ≤ 9) := by
        have h : ∀ x ∈ oddStates, x.size ≤ 9 := by decide
        exact h x hx
      have HO3 := Lib.hid (HO2.out.trans ho.fresh)
      have HR3 := Lib.hid hr3
      clear hx ho hr3 HX HR4 HO2 HR2
      go_wp2
      go_ret
      exact ⟨x, rfl, HX2.out, HO3.out, HR3.out.weak (by omega)⟩

def needNums : List Int := [4, 6, 3, 8, 1, 0]
def needTexts : List ByteArray := [⟨#[65]⟩, ⟨#[66]⟩, ⟨#[72]⟩]
def longNums : List Int := [60, 61, 59]

set_option maxRecDepth 100000 in
set_option maxHeartbeats 2000000 in
theorem l3Needs_plain (b c P : Nat) (A : Option Addr) (l : List Seg) (w : World) (h9 : l.length ≤ 9) (hnm : ∀ s ∈ l, s.name.size ≤ 8) (hA : ∀ g o, A = some ⟨g, o, none⟩ → b < g) (hr : Rd w b P) (hP : P ≤ 1000) (hw : Segs w w.heap.size A l) :
    Calls Tryz.prog 62 #[.pointer (some ⟨b, 0, none⟩), .slice A l.length c] w (TextDrawn b P 19 64 w) := by
  have HW : Hid (Segs w w.heap.size A l) := hw
  have HNM := Lib.hid hnm
  have HAA := Lib.hid hA
  have HR := Lib.hid (hr.alloc (.cells #[.int .i64 4, .int .i64 6, .int .i64 3, .int .i64 8, .int .i64 1, .int .i64 0] 3))
  have HX := Lib.hid (nums_new w b 3 needNums hr.lt)
  clear hr hw hnm hA
  go_enter Tryz.func62, Tryz.ntmps62
  go_wp2_with fail
  refine (num_any b P w.heap.size 0 6 6 (· ∈ needNums) _ HR.out (by omega) (by omega) (by omega) HX.out).mono ?_
  rintro e w1 ⟨n, rfl, hn, ho, hr1⟩
  have HO := Lib.hid ho.fresh
  have HR1 := Lib.hid hr1
  obtain ⟨m, rfl, hm8⟩ : ∃ m : Nat, n = (m : Int) ∧ m ≤ 8 := by
    have h : ∀ x ∈ needNums, 0 ≤ x ∧ x ≤ 8 := by decide
    obtain ⟨h2, h3⟩ := h n hn
    exact ⟨n.toNat, by omega, by omega⟩
  clear ho hr1 hn HX HR
  go_wp2
  go_loopw [5, 9] (fun s i wr => ∃ (k : Nat) (x : ByteArray), k ≤ m ∧ s = .string x ∧ i = .int .i64 k ∧ x.size ≤ 8 * k ∧ Hid (Only w wr (· = b)) ∧ Hid (Rd wr b (P + 1 + 2 * k)))
    (fun _ i _ => m - (intOf i).toNat)
  case atStart => exact ⟨0, _, Nat.zero_le _, rfl, rfl, Nat.le_refl _, HO, HR1⟩
  case round =>
    obtain ⟨k, x, hk, rfl, rfl, hx, HOk, HRk⟩ := hrel
    clear HO HR1
    by_cases hlt : k < m
    · have hlt' : (k : Int) < (m : Int) := by omega
      have hb2 : b < wr.heap.size := HRk.out.lt
      by_cases hl0 : 0 < l.length
      · have hl0' : (0 : Int) < (l.length : Int) := by omega
        go_wp2_with fail
        refine (draw_any b (P + 1 + 2 * k) 20 _ HRk.out (by omega) (by omega) (by omega)).mono ?_
        rintro e w2 ⟨n, rfl, ⟨hn0, hn1⟩, ho2, hr2⟩
        have HO2 := Lib.hid (HOk.out.trans ho2)
        have HR2 := Lib.hid hr2
        clear ho2 hr2 HOk HRk hn1 hb2
        by_cases hp : 0 < n
        · go_wp2_with fail
          refine (draw_any b (P + 1 + 2 * k + 1) l.length _ HR2.out (by omega) (by omega) (by omega)).mono ?_
          rintro e w3 ⟨v, rfl, ⟨hv0, hv1⟩, ho3, hr3⟩
          obtain ⟨j, rfl⟩ := Int.eq_ofNat_of_zero_le hv0
          have hj : j < l.length := by have := hv1 (by omega); omega
          have hj' : (j : Int) < (l.length : Int) := by omega
          have hj0 : (0 : Int) ≤ (j : Int) := Int.natCast_nonneg _
          have HO3 := Lib.hid (HO2.out.trans ho3)
          have HR3 := Lib.hid (hr3.weak (Q := P + 1 + 2 * (k + 1)) (by omega))
          have hsg : Segs w3 w3.heap.size A l := HW.out.farO HO3.out HAA.out
          obtain ⟨g, o, rfl, hgB, hc⟩ := hsg (by omega)
          obtain ⟨e1, e2, e3⟩ := hc j _ (List.getElem?_eq_getElem hj)
          have hns := HNM.out _ (List.getElem_mem hj)
          have hxs : (x ++ l[j].name).size ≤ 8 * (k + 1) := by rw [ByteArray.size_append]; omega
          clear hc ho3 hr3 hv0 hv1 hsg HO2 HR2
          generalize l[j] = sg at *
          go_wp2
          go_roundw
          case rel => exact ⟨k + 1, _, by omega, rfl, by go_num, hxs, HO3, HR3⟩
          case measure => simp [intOf]; omega
        · have HR4 := Lib.hid (HR2.out.alloc (.cells (needTexts.map Value.string).toArray 9))
          have HX := Lib.hid (texts_new w2 b 9 needTexts HR2.out.lt)
          go_wp2_with fail
          refine (of_any b (P + 1 + 2 * k + 1) w2.heap.size 0 3 3 (· ∈ needTexts) _ HR4.out (by omega) (by omega) (by omega) HX.out).mono ?_
          rintro e w3 ⟨y, rfl, hy, ho, hr3⟩
          have hy1 : y.size ≤ 1 := by
            have h : ∀ x ∈ needTexts, x.size ≤ 1 := by decide
            exact h y hy
          have HO3 := Lib.hid (HO2.out.trans ho.fresh)
          have HR3 := Lib.hid (hr3.weak (Q := P + 1 + 2 * (k + 1)) (by omega))
          have hxs : (x ++ y).size ≤ 8 * (k + 1) := by rw [ByteArray.size_append]; omega
          clear hy ho hr3 HX HR4 HO2 HR2
          go_wp2
          go_roundw
          case rel => exact ⟨k + 1, _, by omega, rfl, by go_num, hxs, HO3, HR3⟩
          case measure => simp [intOf]; omega
      · have hl0' : ¬ (0 : Int) < (l.length : Int) := by omega
        have HR4 := Lib.hid (HRk.out.alloc (.cells (needTexts.map Value.string).toArray 9))
        have HX := Lib.hid (texts_new wr b 9 needTexts hb2)
        go_wp2_with fail
        refine (of_any b (P + 1 + 2 * k) wr.heap.size 0 3 3 (· ∈ needTexts) _ HR4.out (by omega) (by omega) (by omega) HX.out).mono ?_
        rintro e w3 ⟨y, rfl, hy, ho, hr3⟩
        have hy1 : y.size ≤ 1 := by
          have h : ∀ x ∈ needTexts, x.size ≤ 1 := by decide
          exact h y hy
        have HO3 := Lib.hid (HOk.out.trans ho.fresh)
        have HR3 := Lib.hid (hr3.weak (Q := P + 1 + 2 * (k + 1)) (by omega))
        have hxs : (x ++ y).size ≤ 8 * (k + 1) := by rw [ByteArray.size_append]; omega
        clear hy ho hr3 HX HR4 HOk HRk
        go_wp2
        go_roundw
        case rel => exact ⟨k + 1, _, by omega, rfl, by go_num, hxs, HO3, HR3⟩
        case measure => simp [intOf]; omega
    · obtain rfl : k = m := by omega
      have hx64 : x.size ≤ 64 := by omega
      have HR2 := Lib.hid (HRk.out.weak (Q := P + 17) (by omega))
      clear HRk
      go_wp2_with fail
      refine (draw_any b (P + 17) 30 _ HR2.out (by omega) (by omega) (by omega)).mono ?_
      rintro e w2 ⟨n, rfl, ⟨hn0, hn1⟩, ho2, hr2⟩
      have HO2 := Lib.hid (HOk.out.trans ho2)
      have HR3 := Lib.hid hr2
      clear ho2 hr2 HOk HR2 hn1
      by_cases h0 : n = 0
      · subst h0
        have HR4 := Lib.hid (HR3.out.alloc (.cells #[.int .i64 60, .int .i64 61, .int .i64 59] 3))
        have HX := Lib.hid (nums_new w2 b 3 longNums HR3.out.lt)
        go_wp2_with fail
        refine (num_any b (P + 18) w2.heap.size 0 3 3 (· ∈ longNums) _ HR4.out (by omega) (by omega) (by omega) HX.out).mono ?_
        rintro e w3 ⟨n, rfl, hn, ho, hr3⟩
        obtain ⟨q, rfl, hq⟩ : ∃ q : Nat, n = (q : Int) ∧ q ≤ 61 := by
          have h : ∀ x ∈ longNums, 0 ≤ x ∧ x ≤ 61 := by decide
          obtain ⟨h2, h3⟩ := h n hn
          exact ⟨n.toNat, by omega, by omega⟩
        have HO3 := Lib.hid (HO2.out.trans ho.fresh)
        have HR5 := Lib.hid hr3
        clear hn ho hr3 HX HR4 HO2 HR3
        go_wp2_with fail
        refine (l13Many_any ⟨#[65]⟩ q _ (by decide) (by omega)).mono ?_
        rintro e w4 ⟨⟨y, rfl, hy⟩, rfl⟩
        have HY : Hid (y.size ≤ 64) := by
          have : (⟨#[65]⟩ : ByteArray).size = 1 := rfl
          show _ ≤ _
          rw [hy, this]
          omega
        clear hy
        go_wp2
        go_ret
        exact ⟨y, rfl, HY.out, HO3.out, HR5.out.weak (by omega)⟩
      · have h0' : ¬ n = 0 := h0
        go_wp2
        go_ret
        exact ⟨x, rfl, hx64, HO2.out, HR3.out.weak (by omega)⟩

end Go.Proofs.YtbmfbnlmdjnddaaGreat
/- What FnLostIn says, plain; the draw of ChainLies. -/
namespace Go.Proofs.YtbmfbnlmdjnddaaGreat
open Go.RowKit

theorem names_list {l : List Seg} (hv : validB l = true) : ∀ (js : List Nat), (∀ j ∈ js, j < l.length) → (namesAt l js).data.toList = js.map (byteOf l)
  | [], _ => rfl
  | j :: js, h => by
    have ih := names_list hv js (fun k hk => h k (List.mem_cons_of_mem _ hk))
    have e : (namesAt l (j :: js)).data.toList = nmAt l j ++ (namesAt l js).data.toList := rfl
    rw [e, ih, (nmAt_one hv (h j List.mem_cons_self)).1]
    rfl
theorem path_lies {l : List Seg} (hv : validB l = true) {j : Nat} (hj : j < l.length) {a b : Nat} (ha : a ∈ rp l j) (hb : b ∈ rp l j) : lieIx l a b = true := by
  have hd := (valid_all hv).1.down
  have self : ∀ a, a ∈ rp l a := fun a => List.mem_append.2 (.inr (List.mem_singleton.2 rfl))
  unfold lieIx
  rw [Bool.or_eq_true]
  rcases List.prefix_or_prefix_of_prefix (rp_prefix hd j hj a ha) (rp_prefix hd j hj b hb) with h | h
  · exact .inl (decide_eq_true (h.subset (self a)))
  · exact .inr (decide_eq_true (h.subset (self b)))
/-- Of every state one may lie above the other. -/
theorem state_lies {l : List Seg} {s : ByteArray} (h : stOk l s = true) : liesB l s = true := by
  unfold stOk at h
  obtain ⟨T, hT⟩ := Option.isSome_iff_exists.1 h
  obtain ⟨hv, hS, rfl⟩ := stIx_some hT
  have hlt := hS.lt (valid_all hv).1.down
  have hl := names_list hv T hlt
  have hnm : namedOk l (namesAt l T).data.toList = true := by
    rw [hl]
    unfold namedOk
    rw [List.all_eq_true]
    intro b hb
    obtain ⟨j, hj, rfl⟩ := List.mem_map.1 hb
    rw [bSeek_byte hv (hlt j hj)]
    exact decide_eq_true (by omega)
  have hjs : ∀ i, i ∈ namedJs l (namesAt l T).data.toList → i ∈ T := by
    intro i hi
    rw [hl] at hi
    unfold namedJs at hi
    rw [List.map_map] at hi
    obtain ⟨j, hj, rfl⟩ := List.mem_map.1 hi
    show (bSeek l (byteOf l j)).toNat ∈ T
    rw [bSeek_byte hv (hlt j hj)]
    exact hj
  rw [liesB_named hv hnm]
  unfold togeB
  rw [all_range]
  intro i _
  rw [all_range]
  intro j _
  rw [kindIx_side, Bool.not_eq_true']
  show (decide (i ∈ namedJs l (namesAt l T).data.toList) && decide (j ∈ namedJs l (namesAt l T).data.toList) && !lieIx l i j) = false
  cases h1 : decide (i ∈ namedJs l (namesAt l T).data.toList) with
  | false => rfl
  | true =>
    cases h2 : decide (j ∈ namedJs l (namesAt l T).data.toList) with
    | false => rfl
    | true =>
      have a1 := hjs i (of_decide_eq_true h1)
      have a2 := hjs j (of_decide_eq_true h2)
      rcases hS with rfl | ⟨k, hk, rfl⟩
      · cases a1
      · rw [path_lies hv hk a1 a2]; rfl
/-- What is lost is of a chain, and lies sideways of its last. -/
theorem lost_in {l : List Seg} {t : ByteArray} (i : Nat) (hi : i < (lostRes l t).size) :
    ∃ x ∈ xsRes l t, hasT (strOf x) ((lostRes l t).extract i (i + 1)) = true ∧ lieB l ((lostRes l t).extract i (i + 1)) ⟨#[lastB x]⟩ = false := by
  unfold xsRes
  cases hR : traceB l t.data.toList with
  | none =>
    have e0 : lostRes l t = ⟨#[]⟩ := by unfold lostRes; rw [hR]
    rw [e0] at hi
    exact absurd hi (Nat.not_lt_zero _)
  | some f =>
    have eL : lostRes l t = namesAt l (selIx (lostF l (chainsB [rootB l] f)) l.length) := by unfold lostRes; rw [hR]
    show ∃ x ∈ chainsB [rootB l] f, _
    rw [eL] at hi ⊢
    have hv := (traceB_some hR).1
    generalize hF : lostF l (chainsB [rootB l] f) = F at hi ⊢
    have hlt : ∀ j ∈ selIx F l.length, j < l.length := fun j hj => List.mem_range.1 (List.mem_filter.1 hj).1
    have hi' : i < (namesAt l (selIx F l.length)).size := hi
    have e := one_byte (namesAt l (selIx F l.length)) hi'
    have hm : (namesAt l (selIx F l.length))[i]'hi' ∈ (namesAt l (selIx F l.length)).data.toList := List.getElem_mem (l := (namesAt l (selIx F l.length)).data.toList) (by simpa using hi')
    rw [names_list hv _ hlt] at hm
    obtain ⟨j, hj, hje⟩ := List.mem_map.1 hm
    have hjl := hlt j hj
    have hFj : F j = true := (List.mem_filter.1 hj).2
    rw [← hF] at hFj
    unfold lostF at hFj
    rw [Bool.and_eq_true, List.any_eq_true] at hFj
    obtain ⟨-, x, hx, hlx⟩ := hFj
    unfold lostX at hlx
    rw [Bool.and_eq_true, kindIx_side, Bool.not_eq_true'] at hlx
    obtain ⟨hb, hk⟩ := hlx
    refine ⟨x, hx, ?_, ?_⟩
    · show hasT (strOf x) ((namesAt l (selIx F l.length)).extract i (i + 1)) = true
      rw [e, ← hje]
      obtain ⟨k, hk, hke⟩ := List.getElem_of_mem (of_decide_eq_true hb)
      refine decide_eq_true ⟨k, by rw [str_size]; exact hk, ?_⟩
      rw [one_byte (strOf x) (by rw [str_size]; exact hk), ← hke]
      rfl
    · show lieB l ((namesAt l (selIx F l.length)).extract i (i + 1)) ⟨#[lastB x]⟩ = false
      rw [e, ← hje, lieB_bytes hv, bSeek_byte hv hjl, Int.toNat_natCast, hk, Bool.and_false]
/-- Whether one of the first chains loses a segment. -/
def inLost (l : List Seg) (xs : List Txt) (b : ByteArray) (j : Nat) : Bool := (xs.take j).any fun x => hasT (strOf x) b && !lieB l b ⟨#[lastB x]⟩
theorem inLost_succ (l : List Seg) (xs : List Txt) (b : ByteArray) {j : Nat} (hj : j < xs.length) : inLost l xs b (j + 1) = (inLost l xs b j || (hasT (strOf xs[j]) b && !lieB l b ⟨#[lastB xs[j]]⟩)) := by
  unfold inLost
  rw [List.take_succ_eq_append_getElem hj, List.any_append]
  simp
theorem inLost_all {l : List Seg} {t : ByteArray} {i : Nat} (hi : i < (lostRes l t).size) : inLost l (xsRes l t) ((lostRes l t).extract i (i + 1)) (xsRes l t).length = true := by
  obtain ⟨x, hx, h1, h2⟩ := lost_in i hi
  unfold inLost
  rw [List.take_length, List.any_eq_true]
  exact ⟨x, hx, by rw [h1, h2]; rfl⟩
theorem str_lastB {x : Txt} (h : ∃ y u v, x = y ++ [u, v]) : (strOf x).extract ((strOf x).size - 1) (strOf x).size = ⟨#[lastB x]⟩ := by
  obtain ⟨y, u, v, rfl⟩ := h
  have e : y ++ [u, v] = (y ++ [u]) ++ [v] := by simp
  rw [e, str_last, lastB_snoc]

set_option maxRecDepth 100000 in
set_option maxHeartbeats 1000000 in
theorem drawChainLies_plain (hgood : GoodSaid) (A0 : Option Addr) (n c0 : Nat) (w : World) (hn : n ≤ c0) (hx : ∀ b, w.heap.size ≤ b → Bytes w b A0 n) :
    Calls Tryz.prog 11 #[.slice A0 n c0] w fun e w' => ∃ A l c x, e = .returned (.tuple #[.slice A (List.length l) c, .string x]) ∧ TreeHas w' A l c ∧ x.size ≤ 82 ∧ Below w.heap.size w w' := by
  have HO := Lib.hid (l13Open_any A0 n c0 w hn hx)
  have HP := Lib.hid (fun b w h => l1Some_plain b 0 w h (Nat.zero_le _) (fun w h => hgood b 0 w (Nat.zero_le _) h))
  clear hx hgood
  go_enter Tryz.func11, Tryz.ntmps11
  go_wp2_with fail
  refine Calls.mono HO.out ?_
  rintro e w1 ⟨b, rfl, hbb, hr, hb1⟩
  have HB1 := Lib.hid hb1
  have HPP := Lib.hid (HP.out b w1 hr)
  clear hr hb1 HP HO
  go_wp2_with fail
  refine Calls.mono HPP.out ?_
  rintro e w2 ⟨A, l, c, rfl, hs, hl, hsn, ho, hr2⟩
  have HS := Lib.hid hs.1
  have HAA := Lib.hid hs.2
  have HN := Lib.hid hsn
  have HSH := Lib.hid (fun s hs => Nat.le_trans (hsn s hs) (by decide) : Short l)
  have HO2 := Lib.hid ho
  have HR2 := Lib.hid hr2
  have hl9 : l.length ≤ 9 := hl.1
  have HL := Lib.hid hl
  clear hs hl hsn ho hr2 HPP
  go_wp2_with fail
  refine (draw_any b (0 + 50) 2 _ HR2.out (by omega) (by omega) (by omega)).mono ?_
  rintro e w3 ⟨n, rfl, ⟨hn0, hn1⟩, ho3, hr3⟩
  have HO3 := Lib.hid (HO2.out.trans ho3)
  have HS3 := Lib.hid (HS.out.farO ho3 HAA.out)
  have HR3 := Lib.hid hr3
  clear ho3 hr3 hn1 HO2 HS HR2
  by_cases h0 : n = 0
  · subst h0
    go_wp2_with fail
    refine (l3State_plain b c (0 + 50 + 1) A l w3 hl9 HSH.out HR3.out (by omega) HS3.out).mono ?_
    rintro e w4 ⟨x, rfl, hx, ho4, hr4⟩
    have HO4 := Lib.hid (HO3.out.trans ho4)
    have HS4 := Lib.hid (HS3.out.farO ho4 HAA.out)
    clear ho4 hr4
    go_wp2
    refine bodyPost_ret (v := .tuple #[.slice A l.length c, .string x]) (by simp [results, Tryz.results11, go_sem]) rfl ?_
    exact ⟨A, l, c, x, rfl, ⟨HS4.out, HL.out, HN.out⟩, by omega, only_below HB1.out hbb HO4.out⟩
  · have h0' : ¬ n = 0 := h0
    go_wp2_with fail
    refine (l3Needs_plain b c (0 + 50 + 1) A l w3 hl9 HN.out HAA.out HR3.out (by omega) HS3.out).mono ?_
    rintro e w4 ⟨x, rfl, hx, ho4, hr4⟩
    have HO4 := Lib.hid (HO3.out.trans ho4)
    have HS4 := Lib.hid (HS3.out.farO ho4 HAA.out)
    clear ho4 hr4
    go_wp2
    refine bodyPost_ret (v := .tuple #[.slice A l.length c, .string x]) (by simp [results, Tryz.results11, go_sem]) rfl ?_
    exact ⟨A, l, c, x, rfl, ⟨HS4.out, HL.out, HN.out⟩, by omega, only_below HB1.out hbb HO4.out⟩

end Go.Proofs.YtbmfbnlmdjnddaaGreat
