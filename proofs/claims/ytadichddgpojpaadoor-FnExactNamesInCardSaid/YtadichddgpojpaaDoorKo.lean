/- Chapter 9: NamesIn on both sides. -/
import Derived.Test.YtadichddgpojpaaDoorKn
import Derived.Test.YtadichddgpojpaaDoorFk
import Derived.Test.YtadichddgpojpaaDoorFl
import Derived.Test.YtadichddgpojpaaDoorPe
import Derived.Test.YtadichddgpojpaaDoorSh
namespace Go.Proofs.YtadichddgpojpaaDoor
open Go.RowKit

theorem namesOk9_parts {l : List Seg} {t s x : ByteArray} (h : namesOk9 l t s x = true) : (traceB l t.data.toList).isSome = true ∧ 0 ≤ indexB l s ∧ 0 ≤ indexB l x := by
  unfold namesOk9 at h
  rw [Bool.and_eq_true, Bool.and_eq_true] at h
  exact ⟨h.1.1, of_decide_eq_true h.1.2, of_decide_eq_true h.2⟩

set_option maxRecDepth 100000 in
set_option maxHeartbeats 4000000 in
theorem specNamesIn9_any (A : Option Addr) (l : List Seg) (c : Nat) (t s x : ByteArray) (w : World) (hw : Segs w w.heap.size A l) (hl : l.length ≤ 1048576) (hn : Short l) (ht : t.size ≤ 1048576) :
    Calls Tryd.prog 5 #[.slice A l.length c, .string t, .string s, .string x] w fun e w' => e = .returned (.tuple #[.string (namesIn9 l t s x), .bool (namesOk9 l t s x)]) ∧ Below w.heap.size w w' := by
  have HCT := Lib.hid (specTraceValid_any A l c t w hw hl hn ht)
  have HCI : Hid (∀ y W, Below w.heap.size w W → Calls Tryd.prog 11 #[.slice A l.length c, .string y] W fun e w' => e = .returned (.int .i64 (indexB l y)) ∧ Below W.heap.size W w') := fun y W hb => l1Index_any A l c y W ((hw.below hb).more hb.size) hl hn
  have HOK : Hid (namesOk9 l t s x = ((traceB l t.data.toList).isSome && decide (0 ≤ indexB l s) && decide (0 ≤ indexB l x))) := rfl
  have HOFF := Lib.hid (fun h => namesIn9_off (l := l) (t := t) (s := s) (x := x) h)
  have HON : Hid (namesOk9 l t s x = true → namesIn9 l t s x = bytes9 (t.data.toList.map (sw9 (hd9 s) (hd9 x)))) := fun h => if_pos h
  have HST : Hid (namesOk9 l t s x = true → ∀ k, k < t.size → _) := fun h => step9 t s x (one9 (namesOk9_parts h).2.1) (one9 (namesOk9_parts h).2.2)
  clear hw
  obtain ⟨tv, HTV⟩ : ∃ b, Hid ((traceB l t.data.toList).isSome = b) := ⟨_, rfl⟩
  obtain ⟨i, HI⟩ : ∃ b, Hid (indexB l s = b) := ⟨_, rfl⟩
  obtain ⟨j, HJ⟩ : ∃ b, Hid (indexB l x = b) := ⟨_, rfl⟩
  rw [HTV.out, HI.out, HJ.out] at HOK
  rw [HTV.out] at HCT
  have HCI1 := Lib.hid (HCI.out s)
  have HCI2 := Lib.hid (HCI.out x)
  rw [HI.out] at HCI1
  rw [HJ.out] at HCI2
  clear HCI HTV HI HJ
  have HX1 : Hid (namesOk9 l t s x = true → x.size = 1) := fun h => by
    rw [one9 (namesOk9_parts h).2.2]
    rfl
  generalize namesOk9 l t s x = ok at *
  generalize namesIn9 l t s x = res at *
  have hgo : ok = false → tv = false ∨ i < 0 ∨ j < 0 := fun h => by
    have h1 := HOK.out
    rw [h] at h1
    cases htv : tv with
    | false => exact .inl rfl
    | true =>
      rw [htv] at h1
      by_cases h2 : i < 0
      · exact .inr (.inl h2)
      · by_cases h3 : j < 0
        · exact .inr (.inr h3)
        · rw [decide_eq_true (show 0 ≤ i by omega), decide_eq_true (show 0 ≤ j by omega)] at h1
          cases h1
  cases hok : ok with
  | false =>
    obtain rfl : res = ⟨#[]⟩ := HOFF.out hok
    have h3 := hgo hok
    clear hgo HOK HOFF HON HST hok
    cases tv with
    | false =>
      go_enter Tryd.func5, Tryd.ntmps5
      go_wp2_with fail
      refine Calls.mono HCT.out ?_
      rintro e w1 ⟨rfl, hb1⟩
      go_wp2
      go_ret2
      exact ⟨rfl, hb1⟩
    | true =>
      by_cases hi : i < 0
      · go_enter Tryd.func5, Tryd.ntmps5
        go_wp2_with fail
        refine Calls.mono HCT.out ?_
        rintro e w1 ⟨rfl, hb1⟩
        go_wp2_with fail
        refine Calls.mono (HCI1.out w1 hb1) ?_
        rintro e w2 ⟨rfl, hb2⟩
        have HB2 := Lib.hid (hb1.trans (hb2.mono hb1.size))
        go_wp2
        go_ret2
        exact ⟨rfl, HB2.out⟩
      · have hj : j < 0 := by
          rcases h3 with h | h | h
          · cases h
          · omega
          · exact h
        have hi' : 0 ≤ i := by omega
        clear h3
        go_enter Tryd.func5, Tryd.ntmps5
        go_wp2_with fail
        refine Calls.mono HCT.out ?_
        rintro e w1 ⟨rfl, hb1⟩
        go_wp2_with fail
        refine Calls.mono (HCI1.out w1 hb1) ?_
        rintro e w2 ⟨rfl, hb2⟩
        have HB2 := Lib.hid (hb1.trans (hb2.mono hb1.size))
        go_wp2_with fail
        refine Calls.mono (HCI2.out w2 HB2.out) ?_
        rintro e w3 ⟨rfl, hb3⟩
        have HB3 := Lib.hid (HB2.out.trans (hb3.mono HB2.out.size))
        go_wp2
        go_ret2
        exact ⟨rfl, HB3.out⟩
  | true =>
    have h1 := HOK.out
    rw [hok] at h1
    have h2 := h1.symm
    rw [Bool.and_eq_true, Bool.and_eq_true] at h2
    obtain ⟨⟨htv, hi⟩, hj⟩ := h2
    have hi := of_decide_eq_true hi
    have hj := of_decide_eq_true hj
    subst htv
    have HS := Lib.hid (HST.out hok)
    obtain ⟨U, HU⟩ : ∃ U : Nat → ByteArray, Hid (∀ k, bytes9 ((t.data.toList.take k).map (sw9 (hd9 s) (hd9 x))) = U k) := ⟨_, fun _ => rfl⟩
    have HS2 : Hid (∀ k, k < t.size → (((t.extract k (k + 1)).toList == s.toList) = true ∧ U k ++ x = U (k + 1)) ∨ (((t.extract k (k + 1)).toList == s.toList) = false ∧ U k ++ t.extract k (k + 1) = U (k + 1))) := fun k hk => by
      have h := HS.out k hk
      rw [HU.out, HU.out] at h
      exact h
    have HE : Hid (U t.size = res) := by
      show _ = _
      rw [HON.out hok, ← HU.out, size9, List.take_length]
    have HE0 : Hid (U 0 = ⟨#[]⟩) := by
      show _ = _
      rw [← HU.out]
      rfl
    have HUZ : Hid (∀ k, (U k).size ≤ t.size) := fun k => by
      rw [← HU.out, size9, size9 t]
      unfold bytes9
      simp
      omega
    have hx1 := HX1.out hok
    clear hgo HOK HOFF HON HST HS HU h1 hok HX1
    go_enter Tryd.func5, Tryd.ntmps5
    go_wp2_with fail
    refine Calls.mono HCT.out ?_
    rintro e w1 ⟨rfl, hb1⟩
    go_wp2_with fail
    refine Calls.mono (HCI1.out w1 hb1) ?_
    rintro e w2 ⟨rfl, hb2⟩
    have HB2 := Lib.hid (hb1.trans (hb2.mono hb1.size))
    go_wp2_with fail
    refine Calls.mono (HCI2.out w2 HB2.out) ?_
    rintro e w3 ⟨rfl, hb3⟩
    have HB3 := Lib.hid (HB2.out.trans (hb3.mono HB2.out.size))
    clear hb1 hb2 hb3 HB2 HCT HCI1 HCI2
    go_wp2
    go_loopw [10, 11, 30] (fun ov _ iv wr => ∃ k : Nat, k ≤ t.size ∧ iv = .int .i64 k ∧ ov = .string (U k) ∧ Hid (Below w.heap.size w wr))
      (fun _ _ iv _ => t.size - (intOf iv).toNat)
    case atStart => exact ⟨0, Nat.zero_le _, rfl, by rw [HE0.out], HB3⟩
    case round =>
      obtain ⟨k, hk, rfl, rfl, HBr⟩ := hrel
      by_cases hlt : k < t.size
      · have hlt' : (k : Int) < (t.size : Int) := by omega
        have hk0 : (0 : Int) ≤ (k : Int) := Int.natCast_nonneg _
        have hq : ((k : Int) + 1).toNat = k + 1 := by omega
        have hz1 : (U k).size + x.size ≤ 9223372036854775807 := by have := HUZ.out k; omega
        have hz2 : (U k).size + (t.extract k (k + 1)).size ≤ 9223372036854775807 := by
          have := HUZ.out k
          rw [ByteArray.size_extract]
          omega
        rcases HS2.out k hlt with ⟨hb, hu⟩ | ⟨hb, hu⟩
        · have HU2 := Lib.hid hu
          clear hu
          go_wp2
          go_roundw
          case rel => exact ⟨k + 1, by omega, by go_num, by rw [← HU2.out], HBr⟩
          case measure => simp [intOf]; omega
        · have HU2 := Lib.hid hu
          clear hu
          go_wp2
          go_roundw
          case rel => exact ⟨k + 1, by omega, by go_num, by rw [← HU2.out], HBr⟩
          case measure => simp [intOf]; omega
      · obtain rfl : k = t.size := by omega
        go_wp2
        go_ret2
        exact ⟨by rw [← HE.out]; rfl, HBr.out⟩

theorem found9_ptr {l : List Seg} {nb : Nat → Nat} {s : ByteArray} (hv : validB l = true) (h : 0 ≤ indexB l s) : foundPtr l nb s = some ⟨nb (indexB l s).toNat, 0, none⟩ := by
  have h1 : indexB l s = seek l s := if_pos hv
  unfold foundPtr
  rw [if_neg (by omega), h1]
theorem gone9_ptr {l : List Seg} {nb : Nat → Nat} {s : ByteArray} (hv : validB l = true) (h : indexB l s < 0) : foundPtr l nb s = none := by
  have h1 : indexB l s = seek l s := if_pos hv
  unfold foundPtr
  rw [if_pos (by omega)]

set_option maxRecDepth 100000 in
set_option maxHeartbeats 4000000 in
theorem implNamesIn9_any (A : Option Addr) (l : List Seg) (c : Nat) (t s x : ByteArray) (m : Int) (w : World) (hw : Segs w w.heap.size A l) (hl : l.length ≤ 1048576) (hlc : l.length ≤ c) (hcm : c ≤ 9223372036854775807) (hn : Short l) (ht : t.size ≤ 1048576) (hm : w.cell? ⟨0, 0, none⟩ = some (.int .i64 m)) (hz : 0 < w.heap.size) :
    Calls Tryd.prog 7 #[.slice A l.length c, .string t, .string s, .string x] w fun e w' => e = .returned (.tuple #[.string (namesIn9 l t s x), .bool (namesOk9 l t s x)]) ∧ Below w.heap.size w w' := by
  have HW : Hid (Segs w w.heap.size A l) := hw
  have HM := Lib.hid hm
  have HOK : Hid (namesOk9 l t s x = ((traceB l t.data.toList).isSome && decide (0 ≤ indexB l s) && decide (0 ≤ indexB l x))) := rfl
  have HOFF := Lib.hid (fun h => namesIn9_off (l := l) (t := t) (s := s) (x := x) h)
  have HON : Hid (namesOk9 l t s x = true → namesIn9 l t s x = bytes9 (t.data.toList.map (sw9 (hd9 s) (hd9 x)))) := fun h => if_pos h
  have HCT : Hid (∀ W, Below w.heap.size w W → Calls Tryd.prog 14 #[.slice A l.length c, .string t] W fun e w' => e = .returned (.bool (traceB l t.data.toList).isSome) ∧ Below W.heap.size W w') := fun W hb => traceValid_any A l c t W ((hw.below hb).more hb.size) hl hlc hcm hn ht
  clear hw hm
  cases hv : validB l with
  | false =>
    have hin : indexB l s < 0 := by
      have : indexB l s = -1 := if_neg (by rw [hv]; decide)
      omega
    have hok : namesOk9 l t s x = false := by
      rw [HOK.out, decide_eq_false (show ¬ 0 ≤ indexB l s by omega)]
      simp
    rw [HOFF.out hok, hok]
    clear HOK HOFF HON HCT hin hok
    go_enter Tryd.func7, Tryd.ntmps7
    go_wp2_with fail
    refine (findTwo_bad _ _ _ _ _ _ HW.out hl hlc hcm hn hv).mono ?_
    rintro e w1 ⟨rfl, hb1⟩
    have HB1 := Lib.hid hb1
    go_wp2
    go_ret2
    exact ⟨rfl, HB1.out⟩
  | true =>
    have HCF : Hid (Calls Tryd.prog 13 #[.slice A l.length c, .string s, .string x] w fun e w' => ∃ p q, e = .returned (.tuple #[.pointer p, .pointer q]) ∧ (∀ h : 0 ≤ indexB l s, ∃ b, p = some ⟨b, 0, none⟩) ∧ (indexB l s < 0 → p = none) ∧ (0 ≤ indexB l x → ∃ b, q = some ⟨b, 0, none⟩) ∧ (indexB l x < 0 → q = none) ∧ Below w.heap.size w w') := by
      refine (findTwo_any A l c s x w HW.out hl hlc hcm hn hv).mono ?_
      rintro e w1 ⟨g, nb, cv, rfl, -, hb⟩
      exact ⟨_, _, rfl, fun h => ⟨_, found9_ptr hv h⟩, fun h => gone9_ptr hv h, fun h => ⟨_, found9_ptr hv h⟩, fun h => gone9_ptr hv h, hb⟩
    have HC1 : Hid (0 ≤ indexB l s → s = ⟨#[hd9 s]⟩) := fun h => one9 h
    have HC2 : Hid (0 ≤ indexB l x → x = ⟨#[hd9 x]⟩) := fun h => one9 h
    by_cases hi : indexB l s < 0
    · have hok : namesOk9 l t s x = false := by
        rw [HOK.out, decide_eq_false (show ¬ 0 ≤ indexB l s by omega)]
        simp
      rw [HOFF.out hok, hok]
      clear HOK HOFF HON HCT hok HC1 HC2
      go_enter Tryd.func7, Tryd.ntmps7
      go_wp2_with fail
      refine Calls.mono HCF.out ?_
      rintro e w1 ⟨p, q, rfl, -, h0, -, -, hb1⟩
      obtain rfl := h0 hi
      have HB1 := Lib.hid hb1
      go_wp2
      go_ret2
      exact ⟨rfl, HB1.out⟩
    · by_cases hj : indexB l x < 0
      · have hok : namesOk9 l t s x = false := by
          rw [HOK.out, decide_eq_false (show ¬ 0 ≤ indexB l x by omega)]
          simp
        rw [HOFF.out hok, hok]
        clear HOK HOFF HON HCT hok HC1 HC2
        go_enter Tryd.func7, Tryd.ntmps7
        go_wp2_with fail
        refine Calls.mono HCF.out ?_
        rintro e w1 ⟨p, q, rfl, h1, -, -, h0, hb1⟩
        obtain rfl := h0 hj
        obtain ⟨b, rfl⟩ := h1 (by omega)
        have HB1 := Lib.hid hb1
        clear h1 h0
        go_wp2
        go_ret2
        exact ⟨rfl, HB1.out⟩
      · have hok : namesOk9 l t s x = (traceB l t.data.toList).isSome := by
          rw [HOK.out, decide_eq_true (show 0 ≤ indexB l s by omega), decide_eq_true (show 0 ≤ indexB l x by omega)]
          simp
        have hs1 := HC1.out (by omega)
        have hx1 := HC2.out (by omega)
        have HCR : Hid (∀ W, W.cell? ⟨0, 0, none⟩ = some (.int .i64 m) → Calls Tryd.prog 15 #[.string t, .string s, .string x] W fun e w' => e = .returned (.string (bytes9 (t.data.toList.map (sw9 (hd9 s) (hd9 x))))) ∧ Below W.heap.size W w') := fun W h0 => by
          have hs2 : s.size = 1 := by rw [hs1]; rfl
          have hx2 : x.size = 1 := by rw [hx1]; rfl
          have hcnt := Lib.countB_le s (by omega) t.size t (Nat.le_refl _)
          have h1 := Tryd.strings_ReplaceAll t s x m W (by omega) h0 (by omega) (by rw [hx2]; omega)
          have e1 : s.data.toList = [hd9 s] := by
            have := congrArg (fun b : ByteArray => b.data.toList) hs1
            exact this
          have e2 : x.data.toList = [hd9 x] := by
            have := congrArg (fun b : ByteArray => b.data.toList) hx1
            exact this
          rw [e1, e2, replAll9] at h1
          exact h1
        cases htv : (traceB l t.data.toList).isSome with
        | false =>
          rw [htv] at hok HCT
          rw [HOFF.out hok, hok]
          clear HOK HOFF HON hok HC1 HC2 HCR hs1 hx1
          go_enter Tryd.func7, Tryd.ntmps7
          go_wp2_with fail
          refine Calls.mono HCF.out ?_
          rintro e w1 ⟨p, q, rfl, h1, -, h2, -, hb1⟩
          obtain ⟨b, rfl⟩ := h1 (by omega)
          obtain ⟨b2, rfl⟩ := h2 (by omega)
          have HB1 := Lib.hid hb1
          clear h1 h2 hb1
          go_wp2_with fail
          refine Calls.mono (HCT.out w1 HB1.out) ?_
          rintro e w2 ⟨rfl, hb2⟩
          have HB2 := Lib.hid (HB1.out.trans (hb2.mono HB1.out.size))
          clear hb2
          go_wp2
          go_ret2
          exact ⟨rfl, HB2.out⟩
        | true =>
          rw [htv] at hok HCT
          rw [HON.out hok, hok]
          generalize bytes9 (t.data.toList.map (sw9 (hd9 s) (hd9 x))) = res at *
          clear HOK HOFF HON hok HC1 HC2 hs1 hx1
          go_enter Tryd.func7, Tryd.ntmps7
          go_wp2_with fail
          refine Calls.mono HCF.out ?_
          rintro e w1 ⟨p, q, rfl, h1, -, h2, -, hb1⟩
          obtain ⟨b, rfl⟩ := h1 (by omega)
          obtain ⟨b2, rfl⟩ := h2 (by omega)
          have HB1 := Lib.hid hb1
          clear h1 h2 hb1
          go_wp2_with fail
          refine Calls.mono (HCT.out w1 HB1.out) ?_
          rintro e w2 ⟨rfl, hb2⟩
          have HB2 := Lib.hid (HB1.out.trans (hb2.mono HB1.out.size))
          clear hb2
          have hm2 := (HB2.out.cell (p := ⟨0, 0, none⟩) hz).trans HM.out
          go_wp2_with fail
          refine Calls.mono (HCR.out w2 hm2) ?_
          rintro e w3 ⟨rfl, hb3⟩
          have HB3 := Lib.hid (HB2.out.trans (hb3.mono HB2.out.size))
          clear hb3
          go_wp2
          go_ret2
          exact ⟨rfl, HB3.out⟩

end Go.Proofs.YtadichddgpojpaaDoor
