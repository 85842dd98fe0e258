/- Joined: As At Da. -/
import Derived.Test.YtifkmehnikfihaaU16
import Derived.Test.YtifkmehnikfihaaU21
import Derived.Test.YtifkmehnikfihaaU12
import Derived.Test.YtifkmehnikfihaaU09
/- The program's InOrder. -/
namespace Go.Proofs.Ytifkmehnikfihaa
open Go.RowKit

set_option maxRecDepth 100000 in
set_option maxHeartbeats 400000 in
theorem indexI_any (B : Nat) (A : Option Addr) (c : Nat) (xs : List Int) (v : Int) (w : World) (hw : Si.Ints w B A xs) (hl : xs.length ≤ 1048576) :
    Calls Try.prog 60 #[.slice A xs.length c, .int .i64 v] w fun e w' => (∃ r : Int, e = .returned (.int .i64 r) ∧ decide (0 ≤ r) = xs.contains v) ∧ w = w' := by
  have HO := Lib.hid hw
  clear hw
  go_enter Try.func60, Try.ntmps60
  go_wp2
  go_loop [8] (fun i => ∃ (k : Nat), k ≤ xs.length ∧ i = .int .i64 k ∧ Hid ((xs.take k).contains v = false))
    (fun i => xs.length - (intOf i).toNat)
  case atStart => exact ⟨0, Nat.zero_le _, rfl, rfl⟩
  case round =>
    obtain ⟨k, hk, rfl, HN⟩ := hrel
    by_cases hlt : k < xs.length
    · obtain ⟨b, o, rfl, hB, hcs⟩ := HO.out (by omega)
      have hc := hcs k xs[k] (List.getElem?_eq_getElem hlt)
      have HM : Hid (xs[k] ∈ xs) := List.getElem_mem hlt
      have HT : Hid ((xs.take (k + 1)).contains v = ((xs.take k).contains v || (v == xs[k]))) := by
        show _ = _
        rw [List.take_succ_eq_append_getElem hlt, Bool.eq_iff_iff]
        simp only [List.contains_iff_mem, List.mem_append, List.mem_singleton, Bool.or_eq_true, beq_iff_eq]
      clear hcs
      generalize xs[k] = x at *
      cases ht : (v == x) with
      | true =>
        have HE : Hid (xs.contains v = true) := by
          show _ = _
          rw [List.contains_iff_mem, eq_of_beq ht]; exact HM.out
        go_wp2
        go_ret
        exact ⟨⟨k, rfl, ⟨fun _ => List.contains_iff_mem.1 HE.out, fun _ => Int.natCast_nonneg k⟩⟩, rfl⟩
      | false =>
        have HE : Hid ((xs.take (k + 1)).contains v = false) := by
          show _ = _
          rw [HT.out, HN.out, ht]; rfl
        go_wp2
        go_round
        case rel => exact ⟨k + 1, by omega, by go_num, HE⟩
        case measure => simp [intOf]; omega
    · have HE : Hid (xs.contains v = false) := by
        show _ = _
        rw [← HN.out, List.take_of_length_le (by omega)]
      go_wp2
      go_ret
      exact ⟨⟨-1, rfl, ⟨fun h => absurd h (by decide), fun h => absurd (List.contains_iff_mem.2 h) (by rw [HE.out]; decide)⟩⟩, rfl⟩

set_option maxRecDepth 100000 in
set_option maxHeartbeats 400000 in
theorem containsI_any (B : Nat) (A : Option Addr) (c : Nat) (xs : List Int) (v : Int) (w : World) (hw : Si.Ints w B A xs) (hl : xs.length ≤ 1048576) :
    Calls Try.prog 48 #[.slice A xs.length c, .int .i64 v] w fun e w' => e = .returned (.bool (xs.contains v)) ∧ w = w' := by
  have HQ := Lib.hid (indexI_any B A c xs v w hw hl)
  clear hw
  generalize xs.contains v = d at *
  go_enter Try.func48, Try.ntmps48
  go_wp2_with fail
  refine Calls.mono HQ.out ?_
  rintro e w2 ⟨⟨r, rfl, hr⟩, rfl⟩
  cases d with
  | true =>
    have h0 : 0 ≤ r := of_decide_eq_true hr
    clear hr
    go_wp2
    go_ret
    exact ⟨rfl, rfl⟩
  | false =>
    have h0 : ¬ 0 ≤ r := of_decide_eq_false hr
    clear hr
    go_wp2
    go_ret
    exact ⟨by simp [h0], rfl⟩

/-- The first k indices are there. -/
def allTo (xs : List Int) (k : Nat) : Bool := (List.range k).all fun i => xs.contains (i : Int)
theorem allTo_next (xs : List Int) (k : Nat) : allTo xs (k + 1) = (allTo xs k && xs.contains (k : Int)) := by
  unfold allTo
  rw [List.range_succ, List.all_append]
  simp only [List.all_cons, List.all_nil, Bool.and_true]
theorem allTo_false {xs : List Int} {k m : Nat} (h : allTo xs k = false) (hk : k ≤ m) : allTo xs m = false := by
  unfold allTo at h ⊢
  rw [← Bool.not_eq_true, List.all_eq_true] at h ⊢
  exact fun hm => h fun i hi => hm i (List.mem_range.2 (Nat.lt_of_lt_of_le (List.mem_range.1 hi) hk))
theorem orderA_all (n : Nat) (xs : List Int) : orderA n xs = (decide (xs.length = n) && allTo xs n) := rfl

set_option maxRecDepth 100000 in
set_option maxHeartbeats 400000 in
theorem orderValid_any (B : Nat) (A : Option Addr) (c n : Nat) (xs : List Int) (w : World) (hw : Si.Ints w B A xs) (hl : xs.length ≤ 1048576) (hn : n ≤ 1000) :
    Calls Try.prog 32 #[.slice A xs.length c, .int .i64 n] w fun e w' => e = .returned (.bool (orderA n xs)) ∧ w = w' := by
  by_cases he : xs.length = n
  · have HC := Lib.hid (fun v => containsI_any B A c xs v w hw hl)
    have HD : Hid (orderA n xs = allTo xs n) := by
      show _ = _
      rw [orderA_all, decide_eq_true he, Bool.true_and]
    have h2 : ((xs.length : Int) != (n : Int)) = false := by rw [he]; simp
    clear hw he
    generalize xs.length = len at *
    go_enter Try.func32, Try.ntmps32
    go_wp2
    go_loop [11] (fun i => ∃ (k : Nat), k ≤ n ∧ i = .int .i64 k ∧ Hid (allTo xs k = true))
      (fun i => n - (intOf i).toNat)
    case atStart => exact ⟨0, Nat.zero_le _, rfl, rfl⟩
    case round =>
      obtain ⟨k, hk, rfl, HN⟩ := hrel
      by_cases hlt : k < n
      · have HT := Lib.hid (allTo_next xs k)
        have HF : Hid (allTo xs (k + 1) = false → orderA n xs = false) := fun h => by rw [HD.out]; exact allTo_false h (by omega)
        have HK := Lib.hid (HC.out (k : Int))
        go_wp2_with fail
        refine Calls.mono HK.out ?_
        cases hh : xs.contains (k : Int) with
        | true =>
          rw [hh] at HT
          rintro e w2 ⟨rfl, rfl⟩
          have HE : Hid (allTo xs (k + 1) = true) := by
            show _ = _
            rw [HT.out, HN.out]; rfl
          clear HT HF HK hh
          go_wp2
          go_round
          case rel => exact ⟨k + 1, by omega, by go_num, HE⟩
          case measure => simp [intOf]; omega
        | false =>
          rw [hh] at HT
          rintro e w2 ⟨rfl, rfl⟩
          go_wp2
          go_ret
          exact ⟨ret_bool (HF.out (by rw [HT.out]; simp)).symm, rfl⟩
      · have HE : Hid (orderA n xs = true) := by
          show _ = _
          have h1 : k = n := by omega
          rw [HD.out, ← h1]; exact HN.out
        go_wp2
        go_ret
        exact ⟨ret_bool HE.out.symm, rfl⟩
  · have h2 : ((xs.length : Int) != (n : Int)) = true := by
      rw [bne_iff_ne]; omega
    have HE : Hid (orderA n xs = false) := by
      show _ = _
      rw [orderA_all, decide_eq_false he, Bool.false_and]
    clear he hw
    go_enter Try.func32, Try.ntmps32
    go_wp2
    go_ret
    exact ⟨ret_bool HE.out.symm, rfl⟩

set_option maxRecDepth 100000 in
set_option maxHeartbeats 1000000 in
theorem joinInOrder_any (A : Option Addr) (c : Nat) (ts : List ByteArray) (A2 : Option Addr) (c2 : Nat) (xs : List Int) (w : World) (ht : St.Strs w w.heap.size A ts) (hx : Si.Ints w w.heap.size A2 xs)
    (hin : ∀ x ∈ xs, 0 ≤ x ∧ x < (ts.length : Int)) (hsz : ∀ s ∈ ts, s.size ≤ 240) (hl : xs.length ≤ 80) (hts : ts.length ≤ 80) :
    Calls Try.prog 33 #[.slice A ts.length c, .slice A2 xs.length c2] w fun e w' => e = .returned (.string (strOf (joinO ts xs))) ∧ Below w.heap.size w w' := by
  have HT := Lib.hid ht
  have HX := Lib.hid hx
  have HI := Lib.hid hin
  have HS := Lib.hid hsz
  clear ht hx hin hsz
  have HI0 : Hid (Lib.IsBuilderF 56 5 w.heap.size w.heap.size (Lib.byteCells []) (w.alloc (.cells #[.pointer none, .slice none 0 0] 56))) := Lib.IsBuilderF.of (Lib.fresh_isBuilder _ _ w)
  have HB0 : Hid (Below w.heap.size w (w.alloc (.cells #[.pointer none, .slice none 0 0] 56))) := (Below.refl _ w).alloc (Nat.le_refl _) _
  go_enter Try.func33, Try.ntmps33
  go_wp2
  go_loopw [10] (fun i wr => ∃ (k : Nat), k ≤ xs.length ∧ i = .int .i64 k ∧ Hid (Lib.IsBuilderF 56 5 w.heap.size w.heap.size (Lib.byteCells (joinO ts (xs.take k))) wr) ∧ Hid (Below w.heap.size w wr))
    (fun i _ => xs.length - (intOf i).toNat)
  case atStart => exact ⟨0, Nat.zero_le _, rfl, HI0, HB0⟩
  case round =>
    obtain ⟨k, hk, rfl, HIB, HB⟩ := hrel
    clear HI0 HB0
    have hbs := HB.out.size
    by_cases hlt : k < xs.length
    · obtain ⟨b, o, rfl, hB, hcs⟩ := HX.out (by omega)
      have hc := hcs k xs[k] (List.getElem?_eq_getElem hlt)
      rw [← HB.out.cell hB] at hc
      obtain ⟨hx0, hx1⟩ := HI.out xs[k] (List.getElem_mem hlt)
      have HJ : Hid (joinO ts (xs.take (k + 1)) = joinO ts (xs.take k) ++ (ts.getD xs[k].toNat ⟨#[]⟩).data.toList) := by
        show _ = _
        rw [List.take_succ_eq_append_getElem hlt, joinO_snoc]
      have hzl : (joinO ts (xs.take k)).length ≤ 20000 := by
        have h1 := joinO_len HS.out (xs.take k)
        rw [List.length_take] at h1
        have : min k xs.length ≤ 80 := by omega
        omega
      clear hcs
      generalize xs[k] = x at *
      obtain ⟨j, rfl⟩ := Int.eq_ofNat_of_zero_le hx0
      have hj : j < ts.length := by omega
      obtain ⟨b2, o2, rfl, hB2, hcs2⟩ := HT.out (by omega)
      have hc2 := hcs2 j ts[j] (List.getElem?_eq_getElem hj)
      rw [← HB.out.cell hB2] at hc2
      have hys := HS.out ts[j] (List.getElem_mem hj)
      rw [Int.toNat_natCast, getD_in ts j _ hj] at HJ
      clear hcs2
      generalize ts[j] = y at *
      generalize joinO ts (xs.take k) = z at *
      have hst : Lib.strCells y = Lib.byteCells y.data.toList := rfl
      go_wp2_with fail
      refine (writeString_any w.heap.size w.heap.size _ y _ HIB.out (by rw [byteCells_len]; omega) hbs).mono ?_
      rintro e w2 ⟨rfl, hI2, hb2, -⟩
      rw [hst, ← byteCells_app, ← HJ.out] at hI2
      have HI2 := Lib.hid hI2
      have HB2 := Lib.hid (HB.out.trans hb2)
      clear hI2 hb2 HIB HB HJ hst hc hc2
      go_wp2
      go_roundw
      case rel => exact ⟨k + 1, by omega, by go_num, HI2, HB2⟩
      case measure => simp [intOf]; omega
    · have HE : Hid (xs.take k = xs) := List.take_of_length_le (by omega)
      rw [HE.out] at HIB
      go_wp2_with fail
      refine (Try.Builder_String_any_k w.heap.size w.heap.size _ _ HIB.out hbs).mono ?_
      rintro e w5 ⟨rfl, -, hb5, -⟩
      have HB5 := Lib.hid (HB.out.trans hb5)
      clear hb5 HIB HB
      go_wp2
      go_ret
      exact ⟨rfl, HB5.out⟩

set_option maxRecDepth 100000 in
set_option maxHeartbeats 1000000 in
theorem implInOrder_any (A : Option Addr) (l : List Seg) (c : Nat) (t : ByteArray) (A2 : Option Addr) (xs : List Int) (c2 : Nat) (w : World) (hw : Segs w w.heap.size A l) (hx : Si.Ints w w.heap.size A2 xs) (hl : l.length ≤ 1048576) (hlc : l.length ≤ c) (hcm : c ≤ 9223372036854775807) (hn : Short l) (ht : t.size ≤ 1048576)
    (hxl : xs.length ≤ 1048576) :
    Calls Try.prog 17 #[.slice A l.length c, .string t, .slice A2 xs.length c2] w (InOrdPost w l t xs) := by
  have HQ := Lib.hid (implTopCalls_any A l c t w hw hl hlc hcm hn ht)
  have hb1 := topsRes_le l t
  have HS := Lib.hid (topsRes_bound l t)
  have HR : Hid (∀ o : Bool, o = inOrdOk l t xs → inOrdRes l t xs = if o = true then strOf (joinO (topsRes l t) xs) else ⟨#[]⟩) := fun o e => by rw [e]; rfl
  have HD : Hid (inOrdOk l t xs = ((traceB l t.data.toList).isSome && orderA (topsRes l t).length xs)) := rfl
  have HX := Lib.hid hx
  unfold TopsPost at HQ
  unfold InOrdPost
  generalize (traceB l t.data.toList).isSome = d at *
  generalize topsRes l t = ts at *
  generalize inOrdRes l t xs = rt at *
  generalize inOrdOk l t xs = rd at *
  clear hw hn hx
  go_enter Try.func17, Try.ntmps17
  go_wp2_with fail
  refine Calls.mono HQ.out ?_
  rintro e w2 ⟨v, rfl, ho, hb⟩
  obtain ⟨A3, cap3, rfl, hs3⟩ := St.textsForm ho
  have HB := Lib.hid hb
  have HT := Lib.hid hs3
  have HX2 : Hid (Si.Ints w2 w2.heap.size A2 xs) := (HX.out.below hb).more hb.size
  clear ho hs3 hb HQ HX
  cases d with
  | false =>
    have h1 : rd = false := by rw [HD.out]; rfl
    have h2 : rt = ⟨#[]⟩ := by rw [HR.out _ h1.symm]; rfl
    subst h1 h2
    clear HR HD HX2
    go_wp2
    go_ret2
    exact ⟨rfl, HB.out⟩
  | true =>
    have HO := Lib.hid (orderValid_any w2.heap.size A2 c2 ts.length xs w2 HX2.out hxl (by omega))
    rw [Bool.true_and] at HD
    cases ha : orderA ts.length xs with
    | false =>
      have h1 : rd = false := by rw [HD.out, ha]
      have h2 : rt = ⟨#[]⟩ := by rw [HR.out _ h1.symm]; rfl
      subst h1 h2
      rw [ha] at HO
      clear HR HD HX2 ha
      go_wp2_with fail
      refine Calls.mono HO.out ?_
      rintro e w3 ⟨rfl, rfl⟩
      go_wp2
      go_ret2
      exact ⟨rfl, HB.out⟩
    | true =>
      have h1 : rd = true := by rw [HD.out, ha]
      have h2 : rt = strOf (joinO ts xs) := by rw [HR.out _ h1.symm]; rfl
      obtain ⟨hln, hin⟩ := order_in ha
      have HJ := Lib.hid (joinInOrder_any A3 cap3 ts A2 c2 xs w2 HT.out HX2.out hin HS.out (by omega) hb1)
      subst h1 h2
      rw [ha] at HO
      clear HR HD HX2 ha hln hin
      go_wp2_with fail
      refine Calls.mono HO.out ?_
      rintro e w3 ⟨rfl, rfl⟩
      go_wp2_with fail
      refine Calls.mono HJ.out ?_
      rintro e w3 ⟨rfl, hb3⟩
      have HB3 := Lib.hid (HB.out.trans (hb3.mono HB.out.size))
      clear hb3
      go_wp2
      go_ret2
      exact ⟨rfl, HB3.out⟩

end Go.Proofs.Ytifkmehnikfihaa
/- The walk of the law FnExactInOrder. -/
namespace Go.Proofs.Ytifkmehnikfihaa
open Go.RowKit

set_option maxRecDepth 100000 in
set_option maxHeartbeats 1000000 in
theorem lawInOrder_any (A : Option Addr) (l : List Seg) (c : Nat) (s : ByteArray) (A2 : Option Addr) (xs : List Int) (c2 : Nat) (w : World) (hw : Segs w w.heap.size A l) (hl : l.length ≤ maxLen) (hn : Short l) (hsz : s.size ≤ maxLen) (hx : Si.Ints w w.heap.size A2 xs) (hxl : xs.length ≤ maxLen) :
    Calls Try.prog 4 #[.slice A l.length c, .string s, .slice A2 xs.length c2] w fun e w' => e = .returned (.bool true) ∧ Below w.heap.size w w' := by
  have HW : Hid (Segs w w.heap.size A l) := hw
  have HX : Hid (Si.Ints w w.heap.size A2 xs) := hx
  clear hw hx
  unfold maxLen at hsz hxl
  by_cases hbigs : 1048576 < s.size
  · go_enter Try.func4, Try.ntmps4
    go_wp2
    go_ret
    exact ⟨rfl, Below.refl _ _⟩
  by_cases hbigx : 1048576 < xs.length
  · go_enter Try.func4, Try.ntmps4
    go_wp2
    go_ret
    exact ⟨rfl, Below.refl _ _⟩
  by_cases hs : sizeLeft l < 0
  · go_enter Try.func4, Try.ntmps4
    go_wp2_with fail
    refine (szSegmentS_any _ _ _ _ HW.out hl hn).mono ?_
    rintro e w1 ⟨rfl, hb1⟩
    go_wp2
    go_ret
    exact ⟨rfl, hb1⟩
  · have hlen := sizeLeft_len hs
    have hxn : xs.length ≤ 1048576 := by omega
    have hsn : s.size ≤ 1048576 := by omega
    have hlm : l.length ≤ 9223372036854775807 := Nat.le_trans hlen (by decide)
    have hxm : xs.length ≤ 9223372036854775807 := Nat.le_trans hxn (by decide)
    have HSP := Lib.hid (fun A A2 W h1 h2 => specInOrder_any A l l.length s A2 xs xs.length W h1 h2 hlen hn hsn hxn (Nat.le_refl _) hxm)
    have HIM := Lib.hid (fun A A2 W h1 h2 => implInOrder_any A l l.length s A2 xs xs.length W h1 h2 hlen (Nat.le_refl _) hlm hn hsn hxn)
    unfold InOrdPost at HSP HIM
    generalize inOrdRes l s xs = rt at *
    generalize inOrdOk l s xs = rd at *
    go_enter Try.func4, Try.ntmps4
    go_wp2_with fail
    refine (szSegmentS_any _ _ _ _ HW.out hl hn).mono ?_
    rintro e w1 ⟨rfl, hb1⟩
    have HB1 : Hid (Below w.heap.size w w1) := hb1
    clear hb1
    generalize sizeLeft l = lft at *
    go_wp2_with fail
    refine (toSegmentS_any _ _ _ _ ((HW.out.below HB1.out).more HB1.out.size) hlen).mono ?_
    rintro e w2 ⟨rfl, hb2, hx2⟩
    have HB2 : Hid (Below w.heap.size w w2) := HB1.out.trans (hb2.mono HB1.out.size)
    have HS2 := Lib.hid hx2
    clear hb2 hx2 HB1
    go_wp2_with fail
    refine (toIntS_any _ _ _ _ ((HX.out.below HB2.out).more HB2.out.size) hxn).mono ?_
    rintro e w3 ⟨rfl, hb3, hx3⟩
    have HB3 : Hid (Below w.heap.size w w3) := HB2.out.trans (hb3.mono HB2.out.size)
    have HS3 : Hid (Segs w3 w3.heap.size _ l) := (HS2.out.below hb3).more hb3.size
    have HI3 : Hid (Si.Ints w3 w3.heap.size (some ⟨w2.heap.size, 0, none⟩) xs) := Si.intsOf hx3
    clear hb3 hx3 HB2 HS2
    go_wp2_with fail
    refine (HSP.out _ _ _ HS3.out HI3.out).mono ?_
    rintro e w4 ⟨rfl, hb4⟩
    have HB4 : Hid (Below w.heap.size w w4) := HB3.out.trans (hb4.mono HB3.out.size)
    clear hb4 HB3 HS3 HI3
    go_wp2_with fail
    refine (toSegmentS_any _ _ _ _ ((HW.out.below HB4.out).more HB4.out.size) hlen).mono ?_
    rintro e w5 ⟨rfl, hb5, hx5⟩
    have HB5 : Hid (Below w.heap.size w w5) := HB4.out.trans (hb5.mono HB4.out.size)
    have HS5 := Lib.hid hx5
    clear hb5 hx5 HB4
    go_wp2_with fail
    refine (toIntS_any _ _ _ _ ((HX.out.below HB5.out).more HB5.out.size) hxn).mono ?_
    rintro e w6 ⟨rfl, hb6, hx6⟩
    have HB6 : Hid (Below w.heap.size w w6) := HB5.out.trans (hb6.mono HB5.out.size)
    have HS6 : Hid (Segs w6 w6.heap.size _ l) := (HS5.out.below hb6).more hb6.size
    have HI6 : Hid (Si.Ints w6 w6.heap.size (some ⟨w5.heap.size, 0, none⟩) xs) := Si.intsOf hx6
    clear hb6 hx6 HB5 HS5
    go_wp2_with fail
    refine (HIM.out _ _ _ HS6.out HI6.out).mono ?_
    rintro e w7 ⟨rfl, hb7⟩
    have HB7 : Hid (Below w.heap.size w w7) := HB6.out.trans (hb7.mono HB6.out.size)
    have HS7 := Lib.hid ((HS6.out.below hb7).more hb7.size)
    have HI7 := Lib.hid ((HI6.out.below hb7).more hb7.size)
    clear hb7 HB6 HS6 HI6
    go_wp2_with fail
    refine (toSegmentS_any _ _ _ _ ((HW.out.below HB7.out).more HB7.out.size) hlen).mono ?_
    rintro e w8 ⟨rfl, hb8, hx8⟩
    have HB8 : Hid (Below w.heap.size w w8) := HB7.out.trans (hb8.mono HB7.out.size)
    have HS8 := Lib.hid ((HS7.out.below hb8).more hb8.size)
    have HI8 := Lib.hid ((HI7.out.below hb8).more hb8.size)
    have HT8 := Lib.hid hx8
    clear hb8 hx8 HB7 HS7 HI7
    go_wp2_with fail
    refine (eqSegmentS_same _ _ _ _ _ _ HS8.out HT8.out hlen).mono ?_
    rintro e w9 ⟨rfl, hb9⟩
    have HB9 : Hid (Below w.heap.size w w9) := HB8.out.trans (hb9.mono HB8.out.size)
    have HI9 := Lib.hid ((HI8.out.below hb9).more hb9.size)
    clear hb9 HB8 HS8 HI8 HT8
    go_wp2_with fail
    refine (toIntS_any _ _ _ _ ((HX.out.below HB9.out).more HB9.out.size) hxn).mono ?_
    rintro e w10 ⟨rfl, hb10, hx10⟩
    have HB10 : Hid (Below w.heap.size w w10) := HB9.out.trans (hb10.mono HB9.out.size)
    have HI10 := Lib.hid ((HI9.out.below hb10).more hb10.size)
    have HJ10 : Hid (Si.Ints w10 w10.heap.size (some ⟨w9.heap.size, 0, none⟩) xs) := Si.intsOf hx10
    clear hb10 hx10 HB9 HI9
    go_wp2_with fail
    refine (Si.eqIntS_same _ _ _ _ _ _ HI10.out HJ10.out hxn).mono ?_
    rintro e w11 ⟨rfl, hb11⟩
    have HB11 : Hid (Below w.heap.size w w11) := HB10.out.trans (hb11.mono HB10.out.size)
    clear hb11 HB10 HI10 HJ10
    go_wp2
    go_ret
    exact ⟨rfl, HB11.out⟩

end Go.Proofs.Ytifkmehnikfihaa
/- A stable sort, plain: blocks that are sorted by insertion, and merged by rotations. What stands at place k is d k; places are compared by a key, and of one key by their number. -/
namespace Go.Proofs.Ytifkmehnikfihaa
open Go.RowKit

/-- x comes ahead of y. -/
def Ahead (key : Nat → Int) (x y : Nat) : Prop := key x < key y ∨ (key x = key y ∧ x < y)
theorem Ahead.trans {key : Nat → Int} {x y z : Nat} (h : Ahead key x y) (k : Ahead key y z) : Ahead key x z := by
  unfold Ahead at *; omega
theorem Ahead.irrefl {key : Nat → Int} {x : Nat} (h : Ahead key x x) : False := by
  unfold Ahead at h; omega
theorem Ahead.total {key : Nat → Int} {x y : Nat} (h : x ≠ y) : Ahead key x y ∨ Ahead key y x := by
  unfold Ahead; omega
theorem ahead_less {key : Nat → Int} {x y : Nat} (h : key x < key y) : Ahead key x y := .inl h
theorem ahead_not {key : Nat → Int} {x y : Nat} (h : ¬ key y < key x) (hxy : x < y) : Ahead key x y := by
  unfold Ahead; omega

/-- Sorted from a on and ahead of b. -/
def Sorted11 (key : Nat → Int) (d : Nat → Nat) (a b : Nat) : Prop := ∀ i j, a ≤ i → i < j → j < b → Ahead key (d i) (d j)
/-- What stood ahead of m has lower numbers than what stands behind. -/
def Cross11 (d : Nat → Nat) (a m b : Nat) : Prop := ∀ i j, a ≤ i → i < m → m ≤ j → j < b → d i < d j
/-- What stands from a to b is taken from there, and the rest stands. -/
def Inside (d d' : Nat → Nat) (a b : Nat) : Prop := (∀ k, a ≤ k → k < b → ∃ j, a ≤ j ∧ j < b ∧ d' k = d j) ∧ ∀ k, k < a ∨ b ≤ k → d' k = d k
theorem Inside.refl (d : Nat → Nat) (a b : Nat) : Inside d d a b := ⟨fun k h1 h2 => ⟨k, h1, h2, rfl⟩, fun _ _ => rfl⟩
theorem Inside.trans {d d' d'' : Nat → Nat} {a b : Nat} (h : Inside d d' a b) (k : Inside d' d'' a b) : Inside d d'' a b := by
  refine ⟨fun i h1 h2 => ?_, fun i hi => (k.2 i hi).trans (h.2 i hi)⟩
  obtain ⟨j, j1, j2, e⟩ := k.1 i h1 h2
  obtain ⟨j', j3, j4, e'⟩ := h.1 j j1 j2
  exact ⟨j', j3, j4, e.trans e'⟩
theorem Inside.wide {d d' : Nat → Nat} {a b a' b' : Nat} (h : Inside d d' a b) (h1 : a' ≤ a) (h2 : b ≤ b') : Inside d d' a' b' := by
  refine ⟨fun k k1 k2 => ?_, fun k hk => h.2 k (by omega)⟩
  by_cases hin : a ≤ k ∧ k < b
  · obtain ⟨j, j1, j2, e⟩ := h.1 k hin.1 hin.2
    exact ⟨j, by omega, by omega, e⟩
  · exact ⟨k, k1, k2, h.2 k (by omega)⟩

/-- Two places that change. -/
def swap11 (d : Nat → Nat) (i j : Nat) (k : Nat) : Nat := if k = i then d j else if k = j then d i else d k
/-- Two stretches of n places that change. -/
def swaps11 (d : Nat → Nat) (a b n : Nat) (k : Nat) : Nat := if a ≤ k ∧ k < a + n then d (b + (k - a)) else if b ≤ k ∧ k < b + n then d (a + (k - b)) else d k
/-- What stands from m to b comes ahead of what stands from a to m. -/
def rot11 (d : Nat → Nat) (a m b : Nat) (k : Nat) : Nat := if a ≤ k ∧ k < a + (b - m) then d (k + (m - a)) else if a + (b - m) ≤ k ∧ k < b then d (k - (b - m)) else d k
theorem swaps11_zero (d : Nat → Nat) (a b : Nat) : swaps11 d a b 0 = d := by
  funext k
  unfold swaps11
  rw [if_neg (by omega), if_neg (by omega)]
theorem swaps11_next {d : Nat → Nat} {a b n : Nat} (h : a + n < b) : swap11 (swaps11 d a b n) (a + n) (b + n) = swaps11 d a b (n + 1) := by
  funext k
  unfold swap11 swaps11
  repeat' split
  all_goals first | (exfalso; omega) | rfl | (congr 1; omega)
theorem rot11_big {d : Nat → Nat} {p i j m : Nat} (hp : p + i = m) (h : j < i) : rot11 (swaps11 d p m j) (p + j) m (m + j) = rot11 d p m (m + j) := by
  funext k
  unfold rot11 swaps11
  repeat' split
  all_goals first | (exfalso; omega) | rfl | (congr 1; omega)
theorem rot11_small {d : Nat → Nat} {p i j m : Nat} (hp : p + i = m) (h : i < j) : rot11 (swaps11 d p (m + j - i) i) p m (m + j - i) = rot11 d p m (m + j) := by
  funext k
  unfold rot11 swaps11
  repeat' split
  all_goals first | (exfalso; omega) | rfl | (congr 1; omega)
theorem rot11_same {d : Nat → Nat} {p i m : Nat} (hp : p + i = m) : swaps11 d p m i = rot11 d p m (m + i) := by
  funext k
  unfold rot11 swaps11
  repeat' split
  all_goals first | (exfalso; omega) | rfl | (congr 1; omega)
theorem rot11_inside {d : Nat → Nat} {a m b : Nat} (h1 : a ≤ m) (h2 : m ≤ b) : Inside d (rot11 d a m b) a b := by
  refine ⟨fun k k1 k2 => ?_, fun k hk => ?_⟩
  · unfold rot11
    by_cases h : a ≤ k ∧ k < a + (b - m)
    · exact ⟨k + (m - a), by omega, by omega, if_pos h⟩
    · exact ⟨k - (b - m), by omega, by omega, by rw [if_neg h, if_pos (by omega)]⟩
  · unfold rot11
    rw [if_neg (by omega), if_neg (by omega)]
/-- One place goes behind those from a + 1 to i. -/
def goes11 (d : Nat → Nat) (a i : Nat) (k : Nat) : Nat := if a ≤ k ∧ k < i then d (k + 1) else if k = i then d a else d k
theorem goes11_zero (d : Nat → Nat) (a : Nat) : goes11 d a a = d := by
  funext k
  unfold goes11
  by_cases h : k = a
  · rw [if_neg (by omega), if_pos h, h]
  · rw [if_neg (by omega), if_neg h]
theorem goes11_next {d : Nat → Nat} {a i : Nat} (h : a ≤ i) : swap11 (goes11 d a i) i (i + 1) = goes11 d a (i + 1) := by
  funext k
  unfold swap11 goes11
  repeat' split
  all_goals first | (exfalso; omega) | rfl | (congr 1; omega)
/-- One place comes ahead of those from i to m - 1. -/
def comes11 (d : Nat → Nat) (i m : Nat) (k : Nat) : Nat := if k = i then d m else if i < k ∧ k ≤ m then d (k - 1) else d k
theorem comes11_zero (d : Nat → Nat) (m : Nat) : comes11 d m m = d := by
  funext k
  unfold comes11
  by_cases h : k = m
  · rw [if_pos h, h]
  · rw [if_neg h, if_neg (by omega)]
theorem comes11_next {d : Nat → Nat} {i m : Nat} (h : i + 1 ≤ m) : swap11 (comes11 d (i + 1) m) (i + 1) i = comes11 d i m := by
  funext k
  unfold swap11 comes11
  repeat' split
  all_goals first | (exfalso; omega) | rfl | (congr 1; omega)
theorem goes11_inside {d : Nat → Nat} {a i b : Nat} (h1 : a ≤ i) (h2 : i < b) : Inside d (goes11 d a i) a b := by
  refine ⟨fun k k1 k2 => ?_, fun k hk => ?_⟩
  · unfold goes11
    by_cases h : a ≤ k ∧ k < i
    · exact ⟨k + 1, by omega, by omega, if_pos h⟩
    · by_cases h3 : k = i
      · exact ⟨a, by omega, by omega, by rw [if_neg h, if_pos h3]⟩
      · exact ⟨k, k1, k2, by rw [if_neg h, if_neg h3]⟩
  · unfold goes11
    rw [if_neg (by omega), if_neg (by omega)]
theorem comes11_inside {d : Nat → Nat} {i m a b : Nat} (h0 : a ≤ i) (h1 : i ≤ m) (h2 : m < b) : Inside d (comes11 d i m) a b := by
  refine ⟨fun k k1 k2 => ?_, fun k hk => ?_⟩
  · unfold comes11
    by_cases h : k = i
    · exact ⟨m, by omega, by omega, if_pos h⟩
    · by_cases h3 : i < k ∧ k ≤ m
      · exact ⟨k - 1, by omega, by omega, by rw [if_neg h, if_pos h3]⟩
      · exact ⟨k, k1, k2, by rw [if_neg h, if_neg h3]⟩
  · unfold comes11
    rw [if_neg (by omega), if_neg (by omega)]

/-- One place ahead of a sorted stretch is put where it belongs. -/
theorem goes_sorted {key : Nat → Int} {d : Nat → Nat} {a b i : Nat} (hs : Sorted11 key d (a + 1) b) (hc : Cross11 d a (a + 1) b) (h1 : a + 1 ≤ i) (h2 : i ≤ b)
    (hl : i = a + 1 ∨ key (d (i - 1)) < key (d a)) (hr : i = b ∨ ¬ key (d i) < key (d a)) : Sorted11 key (goes11 d a (i - 1)) a b := by
  have lo : ∀ k, a + 1 ≤ k → k < i → Ahead key (d k) (d a) := fun k k1 k2 => by
    rcases hl with h | h
    · omega
    · by_cases e : k = i - 1
      · rw [e]; exact .inl h
      · exact (hs k (i - 1) k1 (by omega) (by omega)).trans (.inl h)
  have hi : ∀ k, i ≤ k → k < b → Ahead key (d a) (d k) := fun k k1 k2 => by
    rcases hr with h | h
    · omega
    · have h0 : Ahead key (d a) (d i) := ahead_not h (hc a i (Nat.le_refl _) (by omega) (by omega) (by omega))
      by_cases e : k = i
      · rw [e]; exact h0
      · exact h0.trans (hs i k (by omega) (by omega) k2)
  intro x y hx hxy hy
  unfold goes11
  by_cases x1 : a ≤ x ∧ x < i - 1
  · rw [if_pos x1]
    by_cases y1 : a ≤ y ∧ y < i - 1
    · rw [if_pos y1]; exact hs _ _ (by omega) (by omega) (by omega)
    · rw [if_neg y1]
      by_cases y2 : y = i - 1
      · rw [if_pos y2]; exact lo _ (by omega) (by omega)
      · rw [if_neg y2]; exact hs _ _ (by omega) (by omega) hy
  · rw [if_neg x1, if_neg (show ¬ (a ≤ y ∧ y < i - 1) by omega)]
    by_cases x2 : x = i - 1
    · rw [if_pos x2, if_neg (by omega)]; exact hi _ (by omega) hy
    · rw [if_neg x2, if_neg (by omega)]; exact hs _ _ (by omega) hxy hy
/-- One place behind a sorted stretch is put where it belongs. -/
theorem comes_sorted {key : Nat → Int} {d : Nat → Nat} {a m i : Nat} (hs : Sorted11 key d a m) (hc : Cross11 d a m (m + 1)) (h1 : a ≤ i) (h2 : i ≤ m)
    (hl : i = a ∨ ¬ key (d m) < key (d (i - 1))) (hr : i = m ∨ key (d m) < key (d i)) : Sorted11 key (comes11 d i m) a (m + 1) := by
  have lo : ∀ k, a ≤ k → k < i → Ahead key (d k) (d m) := fun k k1 k2 => by
    rcases hl with h | h
    · omega
    · have h0 : Ahead key (d (i - 1)) (d m) := ahead_not h (hc (i - 1) m (by omega) (by omega) (Nat.le_refl _) (by omega))
      by_cases e : k = i - 1
      · rw [e]; exact h0
      · exact (hs k (i - 1) k1 (by omega) (by omega)).trans h0
  have hi : ∀ k, i ≤ k → k < m → Ahead key (d m) (d k) := fun k k1 k2 => by
    rcases hr with h | h
    · omega
    · by_cases e : k = i
      · rw [e]; exact .inl h
      · exact Ahead.trans (.inl h) (hs i k (by omega) (by omega) k2)
  intro x y hx hxy hy
  unfold comes11
  by_cases x1 : x = i
  · rw [if_pos x1, if_neg (by omega), if_pos (by omega)]; exact hi _ (by omega) (by omega)
  · rw [if_neg x1]
    by_cases x2 : i < x ∧ x ≤ m
    · rw [if_pos x2, if_neg (by omega), if_pos (by omega)]; exact hs _ _ (by omega) (by omega) (by omega)
    · rw [if_neg x2]
      by_cases y1 : y = i
      · rw [if_pos y1]; exact lo _ hx (by omega)
      · rw [if_neg y1]
        by_cases y2 : i < y ∧ y ≤ m
        · rw [if_pos y2]; exact hs _ _ hx (by omega) (by omega)
        · rw [if_neg y2]; exact hs _ _ hx hxy (by omega)

/-- Where a merge parts its two stretches. -/
structure Parts11 (key : Nat → Int) (d : Nat → Nat) (a m b s : Nat) : Prop where
  lo : a ≤ s
  mid : s ≤ m
  e1 : m ≤ (a + b) / 2 + m - s
  e2 : (a + b) / 2 + m - s ≤ b
  h1 : a ≤ (a + b) / 2
  hl : s = a ∨ (a + b) / 2 + m - s = b ∨ ¬ key (d ((a + b) / 2 + m - s)) < key (d (s - 1))
  hr : s = m ∨ (a + b) / 2 + m - s = m ∨ key (d ((a + b) / 2 + m - s - 1)) < key (d s)
/-- Behind the rotation all that stands ahead of the middle comes ahead of what stands behind it. -/
theorem parts_cross {key : Nat → Int} {d : Nat → Nat} {a m b s : Nat} (h1 : Sorted11 key d a m) (h2 : Sorted11 key d m b) (hc : Cross11 d a m b) (P : Parts11 key d a m b s) :
    ∀ i j, a ≤ i → i < (a + b) / 2 → (a + b) / 2 ≤ j → j < b → Ahead key (rot11 d s m ((a + b) / 2 + m - s) i) (rot11 d s m ((a + b) / 2 + m - s) j) := by
  obtain ⟨lo, mid, e1, e2, h0, hl, hr⟩ := P
  generalize hM : (a + b) / 2 = M at *
  have hMb : M ≤ b := by omega
  generalize hE : M + m - s = E at *
  have hEM : s + (E - m) = M := by omega
  -- the four meetings
  have LL : ∀ i j, a ≤ i → i < s → s ≤ j → j < m → Ahead key (d i) (d j) := fun i j i1 i2 j1 j2 => h1 i j i1 (by omega) j2
  have RR : ∀ i j, m ≤ i → i < E → E ≤ j → j < b → Ahead key (d i) (d j) := fun i j i1 i2 j1 j2 => h2 i j i1 (by omega) j2
  have LR : ∀ i j, a ≤ i → i < s → E ≤ j → j < b → Ahead key (d i) (d j) := fun i j i1 i2 j1 j2 => by
    rcases hl with h | h | h
    · omega
    · omega
    · have x0 : Ahead key (d (s - 1)) (d E) := ahead_not h (hc (s - 1) E (by omega) (by omega) (by omega) (by omega))
      have x1 : Ahead key (d (s - 1)) (d j) := by
        by_cases e : j = E
        · rw [e]; exact x0
        · exact x0.trans (h2 E j (by omega) (by omega) j2)
      by_cases e : i = s - 1
      · rw [e]; exact x1
      · exact (h1 i (s - 1) i1 (by omega) (by omega)).trans x1
  have RL : ∀ i j, m ≤ i → i < E → s ≤ j → j < m → Ahead key (d i) (d j) := fun i j i1 i2 j1 j2 => by
    rcases hr with h | h | h
    · omega
    · omega
    · have x1 : Ahead key (d i) (d s) := by
        by_cases e : i = E - 1
        · rw [e]; exact .inl h
        · exact (h2 i (E - 1) i1 (by omega) (by omega)).trans (.inl h)
      by_cases e : j = s
      · rw [e]; exact x1
      · exact x1.trans (h1 s j (by omega) (by omega) j2)
  intro i j i1 i2 j1 j2
  unfold rot11
  by_cases x1 : s ≤ i ∧ i < s + (E - m)
  · rw [if_pos x1]
    by_cases y1 : s + (E - m) ≤ j ∧ j < E
    · rw [if_neg (by omega), if_pos y1]; exact RL _ _ (by omega) (by omega) (by omega) (by omega)
    · rw [if_neg (by omega), if_neg y1]; exact RR _ _ (by omega) (by omega) (by omega) j2
  · rw [if_neg x1, if_neg (by omega)]
    by_cases y1 : s + (E - m) ≤ j ∧ j < E
    · rw [if_neg (by omega), if_pos y1]; exact LL _ _ i1 (by omega) (by omega) (by omega)
    · rw [if_neg (by omega), if_neg y1]; exact LR _ _ i1 (by omega) (by omega) j2
/-- The two halves behind the rotation, each of two stretches. -/
theorem parts_left {key : Nat → Int} {d : Nat → Nat} {a m b s : Nat} (h1 : Sorted11 key d a m) (h2 : Sorted11 key d m b) (hc : Cross11 d a m b) (P : Parts11 key d a m b s) :
    Sorted11 key (rot11 d s m ((a + b) / 2 + m - s)) a s ∧ Sorted11 key (rot11 d s m ((a + b) / 2 + m - s)) s ((a + b) / 2) ∧ Cross11 (rot11 d s m ((a + b) / 2 + m - s)) a s ((a + b) / 2) := by
  obtain ⟨lo, mid, e1, e2, h0, -, -⟩ := P
  generalize hM : (a + b) / 2 = M at *
  generalize hE : M + m - s = E at *
  have hEM : s + (E - m) = M := by omega
  refine ⟨fun i j i1 i2 i3 => ?_, fun i j i1 i2 i3 => ?_, fun i j i1 i2 i3 i4 => ?_⟩
  · unfold rot11
    rw [if_neg (by omega), if_neg (by omega), if_neg (by omega), if_neg (by omega)]
    exact h1 i j i1 i2 (by omega)
  · unfold rot11
    rw [if_pos (by omega), if_pos (by omega)]
    exact h2 _ _ (by omega) (by omega) (by omega)
  · unfold rot11
    rw [if_neg (by omega), if_neg (by omega), if_pos (by omega)]
    exact hc _ _ i1 (by omega) (by omega) (by omega)
theorem parts_right {key : Nat → Int} {d : Nat → Nat} {a m b s : Nat} (h1 : Sorted11 key d a m) (h2 : Sorted11 key d m b) (hc : Cross11 d a m b) (P : Parts11 key d a m b s) :
    Sorted11 key (rot11 d s m ((a + b) / 2 + m - s)) ((a + b) / 2) ((a + b) / 2 + m - s) ∧ Sorted11 key (rot11 d s m ((a + b) / 2 + m - s)) ((a + b) / 2 + m - s) b ∧ Cross11 (rot11 d s m ((a + b) / 2 + m - s)) ((a + b) / 2) ((a + b) / 2 + m - s) b := by
  obtain ⟨lo, mid, e1, e2, h0, -, -⟩ := P
  generalize hM : (a + b) / 2 = M at *
  generalize hE : M + m - s = E at *
  have hEM : s + (E - m) = M := by omega
  refine ⟨fun i j i1 i2 i3 => ?_, fun i j i1 i2 i3 => ?_, fun i j i1 i2 i3 i4 => ?_⟩
  · unfold rot11
    rw [if_neg (by omega), if_pos (by omega), if_neg (by omega), if_pos (by omega)]
    exact h1 _ _ (by omega) (by omega) (by omega)
  · unfold rot11
    rw [if_neg (by omega), if_neg (by omega), if_neg (by omega), if_neg (by omega)]
    exact h2 i j (by omega) i2 (by omega)
  · unfold rot11
    rw [if_neg (by omega), if_pos (by omega), if_neg (by omega), if_neg (by omega)]
    exact hc _ _ (by omega) (by omega) (by omega) i4
/-- Two sorted halves, of which all of one comes ahead of all of the other. -/
theorem Sorted11.join {key : Nat → Int} {d : Nat → Nat} {a m b : Nat} (h1 : Sorted11 key d a m) (h2 : Sorted11 key d m b) (h : ∀ i j, a ≤ i → i < m → m ≤ j → j < b → Ahead key (d i) (d j)) : Sorted11 key d a b := by
  intro i j i1 i2 i3
  by_cases x : j < m
  · exact h1 i j i1 i2 x
  · by_cases y : i < m
    · exact h i j i1 y (by omega) i3
    · exact h2 i j (by omega) i2 i3
/-- What is merged within its half keeps what both halves say of each other. -/
theorem cross_inside {key : Nat → Int} {d d' d'' : Nat → Nat} {a m b : Nat} (h : ∀ i j, a ≤ i → i < m → m ≤ j → j < b → Ahead key (d i) (d j)) (k1 : Inside d d' a m) (k2 : Inside d' d'' m b) :
    ∀ i j, a ≤ i → i < m → m ≤ j → j < b → Ahead key (d'' i) (d'' j) := by
  intro i j i1 i2 j1 j2
  obtain ⟨x, x1, x2, ex⟩ := k1.1 i i1 i2
  obtain ⟨y, y1, y2, ey⟩ := k2.1 j j1 j2
  rw [k2.2 i (by omega), ex, ey, k1.2 y (by omega)]
  exact h x y x1 x2 y1 y2
theorem Sorted11.same {key : Nat → Int} {d d' : Nat → Nat} {a b : Nat} (h : Sorted11 key d a b) (e : ∀ k, a ≤ k → k < b → d' k = d k) : Sorted11 key d' a b := fun i j i1 i2 i3 => by
  rw [e i i1 (by omega), e j (by omega) i3]
  exact h i j i1 i2 i3
theorem Cross11.same {d d' : Nat → Nat} {a m b : Nat} (h : Cross11 d a m b) (e : ∀ k, a ≤ k → k < b → d' k = d k) : Cross11 d' a m b := fun i j i1 i2 i3 i4 => by
  rw [e i i1 (by omega), e j (by omega) i4]
  exact h i j i1 i2 i3 i4
/-- What is taken from where lower numbers stood has lower numbers. -/
theorem Cross11.inside {d d' : Nat → Nat} {a m b : Nat} (h : Cross11 d a m b) (k1 : ∀ i, a ≤ i → i < m → ∃ j, a ≤ j ∧ j < m ∧ d' i = d j) (k2 : ∀ i, m ≤ i → i < b → ∃ j, m ≤ j ∧ j < b ∧ d' i = d j) : Cross11 d' a m b := by
  intro i j i1 i2 j1 j2
  obtain ⟨x, x1, x2, ex⟩ := k1 i i1 i2
  obtain ⟨y, y1, y2, ey⟩ := k2 j j1 j2
  rw [ex, ey]
  exact h x y x1 x2 y1 y2

end Go.Proofs.Ytifkmehnikfihaa
