/- Joined: Ze Zf. -/
import Derived.Test.YtdbddockmdkmeaaDoorU04
import Derived.Test.YtdbddockmdkmeaaDoorU01
import Derived.BigQuiet
import Derived.Deep.QuietTactic
import Derived.Test.YtdbddockmdkmeaaDoorU06
import Derived.Test.YtdbddockmdkmeaaDoorU07
import Derived.Test.YtdbddockmdkmeaaDoorU09
/- soSame over any two rows of numbers. -/
namespace Go.Proofs.YtdbddockmdkmeaaDoor
open Go.RowKit

theorem same_all12 {xs ys : List Int} {k : Nat} (h : xs.take k = ys.take k) (h1 : xs.length ≤ k) (h2 : ys.length ≤ k) : xs = ys := by
  rw [List.take_of_length_le h1, List.take_of_length_le h2] at h
  exact h
theorem same_next12 {xs ys : List Int} {k : Nat} (h : xs.take k = ys.take k) (h1 : k < xs.length) (h2 : k < ys.length) (e : xs[k] = ys[k]) : xs.take (k + 1) = ys.take (k + 1) := by
  rw [List.take_succ_eq_append_getElem h1, List.take_succ_eq_append_getElem h2, h, e]
theorem same_not12 {xs ys : List Int} {k : Nat} (h1 : k < xs.length) (h2 : k < ys.length) (e : xs[k] ≠ ys[k]) : xs ≠ ys := fun h => by
  subst h
  exact e rfl

set_option maxRecDepth 100000 in
set_option maxHeartbeats 1000000 in
theorem soSame12_any (A A' : Option Addr) (xs ys : List Int) (c c' : Nat) (w : World) (hw : Si.Ints w w.heap.size A xs) (hw' : Si.Ints w w.heap.size A' ys) (hl : xs.length ≤ 1048576) (hl' : ys.length ≤ 1048576) :
    Calls Tryd.prog 40 #[.slice A xs.length c, .slice A' ys.length c'] w fun e w' => e = .returned (.bool (decide (xs = ys))) ∧ Below w.heap.size w w' := by
  have HW : Hid (Si.Ints w w.heap.size A xs) := hw
  have HW' : Hid (Si.Ints w w.heap.size A' ys) := hw'
  clear hw hw'
  by_cases hlt0 : ys.length < xs.length
  · have hcmp : (ys.length : Int) < (xs.length : Int) := by omega
    go_enter Tryd.func40, Tryd.ntmps40
    go_wp2
    go_loopw [11] (fun i wr => ∃ (k : Nat), k ≤ ys.length ∧ i = .int .i64 k ∧ Hid (xs.take k = ys.take k) ∧ Below w.heap.size w wr)
      (fun i _ => ys.length - (intOf i).toNat)
    case atStart => exact ⟨0, Nat.zero_le _, rfl, Lib.hid rfl, Below.refl _ _⟩
    case round =>
      obtain ⟨k, hk, rfl, HK, hb⟩ := hrel
      by_cases hlt : k < ys.length
      · have hx : k < xs.length := by omega
        have hy : k < ys.length := by omega
        have hltx : (k : Int) < (xs.length : Int) := by omega
        have hlty : (k : Int) < (ys.length : Int) := by omega
        have hk0 : (0 : Int) ≤ (k : Int) := Int.natCast_nonneg _
        obtain ⟨b, o, rfl, hB, hc⟩ := HW.out (by omega)
        obtain ⟨b', o', rfl, hB', hc'⟩ := HW'.out (by omega)
        have c0 := hc k xs[k] (List.getElem?_eq_getElem hx)
        have d0 := hc' k ys[k] (List.getElem?_eq_getElem hy)
        clear hc hc'
        rw [← hb.cell hB] at c0
        rw [← hb.cell hB'] at d0
        by_cases he : xs[k] = ys[k]
        · have HN := Lib.hid (same_next12 HK.out hx hy he)
          rw [he] at c0
          clear he
          generalize ys[k] = s at *
          go_wp2
          go_quiet (fail)
          go_wp2
          go_roundw
          case rel => exact ⟨k + 1, by omega, by go_num, HN, below_drewN hb _⟩
          case measure => simp [intOf]; omega
        · have HN : Hid (decide (xs = ys) = false) := decide_eq_false (same_not12 hx hy he)
          have hne : (xs[k] != ys[k]) = true := by simpa using he
          clear he
          generalize xs[k] = s at *
          generalize ys[k] = s' at *
          go_wp2
          go_quiet (fail)
          go_wp2
          go_ret
          exact ⟨by rw [HN.out]; rfl, below_drewN hb _⟩
      · have hke : k = ys.length := by omega
        by_cases hle : xs.length = ys.length
        · have HN : Hid (decide (xs = ys) = true) := decide_eq_true (same_all12 HK.out (by omega) (by omega))
          have hbe : ((xs.length : Int) == (ys.length : Int)) = true := by rw [hle]; simp
          clear hle hke
          go_wp2
          go_ret
          exact ⟨by rw [HN.out]; rfl, hb⟩
        · have HN : Hid (decide (xs = ys) = false) := decide_eq_false fun e => hle (by rw [e])
          have hbe : ((xs.length : Int) == (ys.length : Int)) = false := by rw [beq_eq_false_iff_ne]; omega
          clear hle hke
          go_wp2
          go_ret
          exact ⟨by rw [HN.out]; rfl, hb⟩
  · have hcmp : ¬ (ys.length : Int) < (xs.length : Int) := by omega
    go_enter Tryd.func40, Tryd.ntmps40
    go_wp2
    go_loopw [11] (fun i wr => ∃ (k : Nat), k ≤ xs.length ∧ i = .int .i64 k ∧ Hid (xs.take k = ys.take k) ∧ Below w.heap.size w wr)
      (fun i _ => xs.length - (intOf i).toNat)
    case atStart => exact ⟨0, Nat.zero_le _, rfl, Lib.hid rfl, Below.refl _ _⟩
    case round =>
      obtain ⟨k, hk, rfl, HK, hb⟩ := hrel
      by_cases hlt : k < xs.length
      · have hx : k < xs.length := by omega
        have hy : k < ys.length := by omega
        have hltx : (k : Int) < (xs.length : Int) := by omega
        have hlty : (k : Int) < (ys.length : Int) := by omega
        have hk0 : (0 : Int) ≤ (k : Int) := Int.natCast_nonneg _
        obtain ⟨b, o, rfl, hB, hc⟩ := HW.out (by omega)
        obtain ⟨b', o', rfl, hB', hc'⟩ := HW'.out (by omega)
        have c0 := hc k xs[k] (List.getElem?_eq_getElem hx)
        have d0 := hc' k ys[k] (List.getElem?_eq_getElem hy)
        clear hc hc'
        rw [← hb.cell hB] at c0
        rw [← hb.cell hB'] at d0
        by_cases he : xs[k] = ys[k]
        · have HN := Lib.hid (same_next12 HK.out hx hy he)
          rw [he] at c0
          clear he
          generalize ys[k] = s at *
          go_wp2
          go_quiet (fail)
          go_wp2
          go_roundw
          case rel => exact ⟨k + 1, by omega, by go_num, HN, below_drewN hb _⟩
          case measure => simp [intOf]; omega
        · have HN : Hid (decide (xs = ys) = false) := decide_eq_false (same_not12 hx hy he)
          have hne : (xs[k] != ys[k]) = true := by simpa using he
          clear he
          generalize xs[k] = s at *
          generalize ys[k] = s' at *
          go_wp2
          go_quiet (fail)
          go_wp2
          go_ret
          exact ⟨by rw [HN.out]; rfl, below_drewN hb _⟩
      · have hke : k = xs.length := by omega
        by_cases hle : xs.length = ys.length
        · have HN : Hid (decide (xs = ys) = true) := decide_eq_true (same_all12 HK.out (by omega) (by omega))
          have hbe : ((xs.length : Int) == (ys.length : Int)) = true := by rw [hle]; simp
          clear hle hke
          go_wp2
          go_ret
          exact ⟨by rw [HN.out]; rfl, hb⟩
        · have HN : Hid (decide (xs = ys) = false) := decide_eq_false fun e => hle (by rw [e])
          have hbe : ((xs.length : Int) == (ys.length : Int)) = false := by rw [beq_eq_false_iff_ne]; omega
          clear hle hke
          go_wp2
          go_ret
          exact ⟨by rw [HN.out]; rfl, hb⟩

end Go.Proofs.YtdbddockmdkmeaaDoor
/- The law FnNumbers: texts of numbers. -/
namespace Go.Proofs.YtdbddockmdkmeaaDoor
open Go.RowKit

theorem bytes_later12 {w w' : World} {A : Option Addr} {m : Nat} (h : ∀ b, w.heap.size ≤ b → Bytes w b A m) (hb : Below w.heap.size w w') : ∀ b, w'.heap.size ≤ b → Bytes w' b A m := fun b hbb h0 => by
  have hz := hb.size
  obtain ⟨g, o, rfl, hne, hlt, hx⟩ := h b (by omega) h0
  refine ⟨g, o, rfl, hne, by omega, fun i hi => ?_⟩
  obtain ⟨x, hc, hx2⟩ := hx i hi
  exact ⟨x, (hb.cell (p := ⟨g, o + i, none⟩) hlt).trans hc, hx2⟩
theorem nums_in12 (t : ByteArray) : ∀ n ∈ numsRes12 t, -9223372036854775808 ≤ n ∧ n ≤ 9223372036854775807 := by
  intro n hn
  unfold numsRes12 at hn
  split at hn
  · simp at hn
  · split at hn
    · rename_i hok
      obtain ⟨p, hp, rfl⟩ := List.mem_map.1 hn
      obtain ⟨_, h2, h3, _⟩ := ok12_parts (List.all_eq_true.1 hok p hp)
      have h4 := val12_lt h3 p.data.toList.length (Nat.le_refl _)
      rw [List.take_length] at h4
      have h5 : 10 ^ p.data.toList.length ≤ 10 ^ 17 := Nat.pow_le_pow_right (by decide) h2
      omega
    · simp at hn
/-- Four rows of numbers, in memory. -/
structure Four12 (w : World) (A1 A2 A3 A4 : Option Addr) (xs ys ns : List Int) (W : World) : Prop where
  one : Si.Ints W W.heap.size A1 xs
  two : Si.Ints W W.heap.size A2 ys
  got : Si.Ints W W.heap.size A3 ns
  want : Si.Ints W W.heap.size A4 ns
  below : Below w.heap.size w W
theorem Four12.on {w W W' : World} {A1 A2 A3 A4 : Option Addr} {xs ys ns : List Int} (h : Four12 w A1 A2 A3 A4 xs ys ns W) (hb : Below W.heap.size W W') : Four12 w A1 A2 A3 A4 xs ys ns W' :=
  ⟨(h.one.below hb).more hb.size, (h.two.below hb).more hb.size, (h.got.below hb).more hb.size, (h.want.below hb).more hb.size, h.below.trans (hb.mono h.below.size)⟩

set_option maxRecDepth 100000 in
set_option maxHeartbeats 4000000 in
theorem numbersLaw_any (A0 : Option Addr) (n c0 : Nat) (A9 : Option Addr) (n2 c2 : Nat) (w : World) (hn : n ≤ c0) (hm : n ≤ maxLen) (hx : ∀ b, w.heap.size ≤ b → Bytes w b A0 n) (hn2 : n2 ≤ c2) (hm2 : n2 ≤ maxLen) (hx2 : ∀ b, w.heap.size ≤ b → Bytes w b A9 n2) (hp : Pow12 w) (he : Errs12 w) :
    Calls Tryd.prog 5 #[.slice A0 n c0, .slice A9 n2 c2] w fun e w' => e = .returned (.bool true) ∧ Below w.heap.size w w' := by
  unfold maxLen at hm hm2
  have HP := Lib.hid hp
  have HE := Lib.hid he
  clear hp he
  by_cases hbig : 1048576 < n
  · clear hx hx2
    go_enter Tryd.func5, Tryd.ntmps5
    go_wp2
    go_ret
    exact ⟨rfl, Below.refl _ _⟩
  by_cases hbig2 : 1048576 < n2
  · clear hx hx2
    go_enter Tryd.func5, Tryd.ntmps5
    go_wp2
    go_ret
    exact ⟨rfl, Below.refl _ _⟩
  have HD := Lib.hid (drawFormatNumbers_any A0 n c0 w hn hx)
  have HD2 := Lib.hid (fun w' (hb : Below w.heap.size w w') => drawFormatNumbers_any A9 n2 c2 w' hn2 (bytes_later12 hx2 hb))
  have HD3 := Lib.hid (fun w' (hb : Below w.heap.size w w') => drawParseNumbers_any A0 n c0 w' hn (bytes_later12 hx hb))
  unfold NumsDrawn12 at HD HD2
  unfold TextDrawn12 at HD3
  clear hx hx2
  go_enter Tryd.func5, Tryd.ntmps5
  go_wp2_with fail
  refine Calls.mono HD.out ?_
  rintro e w1 ⟨v1, xs, rfl, ho1, hl1, hin1, hb1⟩
  obtain ⟨A1, c1, rfl, hs1⟩ := Si.intsForm ho1
  have HB1 := Lib.hid hb1
  have HS1 := Lib.hid hs1
  clear ho1 hs1 hb1 HD
  go_wp2_with fail
  refine Calls.mono (HD2.out w1 HB1.out) ?_
  rintro e w2 ⟨v2, ys, rfl, ho2, hl2, hin2, hb2⟩
  obtain ⟨A2, c4, rfl, hs2⟩ := Si.intsForm ho2
  have HB2 := Lib.hid (HB1.out.trans (hb2.mono HB1.out.size))
  have HS2 := Lib.hid ((HS1.out.below hb2).more hb2.size)
  have HT2 := Lib.hid hs2
  clear ho2 hs2 hb2 HD2 HB1 HS1
  go_wp2_with fail
  refine Calls.mono (HD3.out w2 HB2.out) ?_
  rintro e w3 ⟨t, rfl, htz, hb3⟩
  have HB3 := Lib.hid (HB2.out.trans (hb3.mono HB2.out.size))
  have HS3 := Lib.hid ((HS2.out.below hb3).more hb3.size)
  have HT3 := Lib.hid ((HT2.out.below hb3).more hb3.size)
  have hlen := nums_len12 (t := t) (by omega)
  have HIN := Lib.hid (nums_in12 t)
  have HTX := Lib.hid (fun h => nums_text (t := t) h)
  have HPS := Lib.hid (fun w => specParseNumbers_any t w (by omega))
  have HPI := Lib.hid (fun w hp he => parseNumbers_any t w hp he (by omega))
  unfold NumsPost12 at HPS HPI
  clear hb3 HD3 HB2 HS2 HT2
  generalize numsRes12 t = ns at *
  generalize numsOk12 t = ok at *
  go_wp2_with fail
  refine Calls.mono (HPI.out _ (HP.out.below HB3.out) (HE.out.below HB3.out)) ?_
  rintro e w4 ⟨v3, rfl, ho4, hb4⟩
  obtain ⟨A3, c3, rfl, hs4⟩ := Si.intsForm ho4
  have HB4 := Lib.hid (HB3.out.trans (hb4.mono HB3.out.size))
  have HS4 := Lib.hid ((HS3.out.below hb4).more hb4.size)
  have HT4 := Lib.hid ((HT3.out.below hb4).more hb4.size)
  have HG4 := Lib.hid hs4
  clear ho4 hs4 hb4 HB3 HS3 HT3 HPI
  go_wp2_with fail
  refine Calls.mono (HPS.out _) ?_
  rintro e w5 ⟨v4, rfl, ho5, hb5⟩
  obtain ⟨A4, c5, rfl, hs5⟩ := Si.intsForm ho5
  have HF5 : Hid (Four12 w A1 A2 A3 A4 xs ys ns w5) := ⟨(HS4.out.below hb5).more hb5.size, (HT4.out.below hb5).more hb5.size, (HG4.out.below hb5).more hb5.size, hs5, HB4.out.trans (hb5.mono HB4.out.size)⟩
  clear ho5 hs5 hb5 HB4 HS4 HT4 HG4 HPS
  have C1 : Hid (∀ W, Four12 w A1 A2 A3 A4 xs ys ns W → Calls Tryd.prog 38 #[.slice A1 xs.length c1] W fun e w' => e = .returned (.string (fmtRes xs)) ∧ Below W.heap.size W w') := fun W h => formatNumbers_any A1 xs c1 W h.one (HP.out.below h.below) (by omega) hin1
  have C2 : Hid (∀ W, Four12 w A1 A2 A3 A4 xs ys ns W → Calls Tryd.prog 39 #[.slice A1 xs.length c1] W fun e w' => e = .returned (.string (fmtRes xs)) ∧ Below W.heap.size W w') := fun W h => specFormatNumbers_any A1 xs c1 W h.one (by omega) hin1
  have C3 : Hid (∀ W, Four12 w A1 A2 A3 A4 xs ys ns W → Calls Tryd.prog 38 #[.slice A2 ys.length c4] W fun e w' => e = .returned (.string (fmtRes ys)) ∧ Below W.heap.size W w') := fun W h => formatNumbers_any A2 ys c4 W h.two (HP.out.below h.below) (by omega) hin2
  have C4 : Hid (∀ W, Four12 w A1 A2 A3 A4 xs ys ns W → Calls Tryd.prog 40 #[.slice A1 xs.length c1, .slice A2 ys.length c4] W fun e w' => e = .returned (.bool (decide (xs = ys))) ∧ Below W.heap.size W w') := fun W h => soSame12_any A1 A2 xs ys c1 c4 W h.one h.two (by omega) (by omega)
  have C5 : Hid (∀ W, Four12 w A1 A2 A3 A4 xs ys ns W → Calls Tryd.prog 40 #[.slice A3 ns.length c3, .slice A4 ns.length c5] W fun e w' => e = .returned (.bool true) ∧ Below W.heap.size W w') := fun W h => by
    have := soSame12_any A3 A4 ns ns c3 c5 W h.got h.want hlen hlen
    rw [decide_eq_true rfl] at this
    exact this
  have C6 : Hid (∀ W, Four12 w A1 A2 A3 A4 xs ys ns W → Calls Tryd.prog 38 #[.slice A3 ns.length c3] W fun e w' => e = .returned (.string (fmtRes ns)) ∧ Below W.heap.size W w') := fun W h => formatNumbers_any A3 ns c3 W h.got (HP.out.below h.below) hlen HIN.out
  have HFI := Lib.hid (@fmt_inj xs ys)
  clear hin1 hin2 hl1 hl2 hlen HIN htz HE HP
  obtain ⟨q, HQ⟩ : ∃ q : Bool, Hid (((fmtRes xs).toList == (fmtRes ys).toList) = q ∧ decide (xs = ys) = q) := by
    by_cases h : xs = ys
    · exact ⟨true, Lib.hid ⟨by rw [h]; simp, decide_eq_true h⟩⟩
    · refine ⟨false, Lib.hid ⟨?_, decide_eq_false h⟩⟩
      rw [← Bool.not_eq_true]
      intro e
      exact h (HFI.out.1 (sameB_iff.1 e))
  rw [HQ.out.2] at C4
  have hq := HQ.out.1
  clear HQ HFI
  generalize fmtRes xs = fx at *
  generalize fmtRes ys = fy at *
  go_wp2_with fail
  refine Calls.mono (C1.out _ HF5.out) ?_
  rintro e w6 ⟨rfl, hb⟩
  have HF6 := Lib.hid (HF5.out.on hb)
  clear hb HF5
  go_wp2_with fail
  refine Calls.mono (C2.out _ HF6.out) ?_
  rintro e w7 ⟨rfl, hb⟩
  have HF7 := Lib.hid (HF6.out.on hb)
  clear hb HF6
  go_wp2_with fail
  refine Calls.mono (C1.out _ HF7.out) ?_
  rintro e w8 ⟨rfl, hb⟩
  have HF8 := Lib.hid (HF7.out.on hb)
  clear hb HF7
  go_wp2_with fail
  refine Calls.mono (C3.out _ HF8.out) ?_
  rintro e w9 ⟨rfl, hb⟩
  have HF9 := Lib.hid (HF8.out.on hb)
  clear hb HF8
  go_wp2_with fail
  refine Calls.mono (C4.out _ HF9.out) ?_
  rintro e w10 ⟨rfl, hb⟩
  have HF10 := Lib.hid (HF9.out.on hb)
  clear hb HF9
  go_wp2_with fail
  refine Calls.mono (C5.out _ HF10.out) ?_
  rintro e w11 ⟨rfl, hb⟩
  have HF11 := Lib.hid (HF10.out.on hb)
  clear hb HF10
  clear C1 C2 C3 C4 C5
  cases ok with
  | false =>
    go_wp2
    go_ret
    exact ⟨by cases q <;> rfl, HF11.out.below⟩
  | true =>
    have HTT := Lib.hid (HTX.out rfl)
    rw [HTT.out] at C6
    clear HTX HTT
    go_wp2_with fail
    refine Calls.mono (C6.out _ HF11.out) ?_
    rintro e w12 ⟨rfl, hb⟩
    have HF12 := Lib.hid (HF11.out.on hb)
    clear hb HF11
    go_wp2
    go_ret
    exact ⟨by cases q <;> rfl, HF12.out.below⟩

end Go.Proofs.YtdbddockmdkmeaaDoor
