/- Joined: Gf Xb Cb. -/
import Derived.Test.YtcpiojliakgdlaaU11
import Derived.Test.YtcpiojliakgdlaaU15
import Derived.Maps.AppendAt
import Derived.Deep.AppendLies
/- The model's NeedAll and CheapestNeed. -/
namespace Go.Proofs.Ytcpiojliakgdlaa
open Go.RowKit

theorem names_append (l : List Seg) (a b : List Nat) : namesAt l (a ++ b) = namesAt l a ++ namesAt l b := by
  apply ByteArray.ext
  apply Array.ext'
  rw [ByteArray.data_append, Array.toList_append]
  show (a ++ b).flatMap (nmAt l) = a.flatMap (nmAt l) ++ b.flatMap (nmAt l)
  rw [List.flatMap_append]
theorem need_byte {l : List Seg} (hv : validB l = true) {T : List Nat} (hT : IsState l T) {b : UInt8} (hb : 0 ≤ bSeek l b) : needOk l (namesAt l T) ⟨#[b]⟩ = true ∧ afterStr l (namesAt l T) ⟨#[b]⟩ = namesAt l (needT T (rp l (bSeek l b).toNat)) ∧
    loadStr l (namesAt l T) ⟨#[b]⟩ = namesAt l (loadT T (rp l (bSeek l b).toNat)) ∧ dropStr l (namesAt l T) ⟨#[b]⟩ = namesAt l (dropT T (rp l (bSeek l b).toNat)) := by
  obtain ⟨h1, h2⟩ := stT_names hv hT
  have hi : indexB l ⟨#[b]⟩ = bSeek l b := if_pos hv
  have h3 : needOk l (namesAt l T) ⟨#[b]⟩ = true := by
    unfold needOk hasSeg
    rw [h1, hi, decide_eq_true hb]
    rfl
  refine ⟨h3, ?_, ?_, ?_⟩
  · unfold afterStr afterIx pathIx
    rw [if_pos h3, h2, hi]
  · unfold loadStr loadIx pathIx
    rw [if_pos h3, h2, hi]
  · unfold dropStr dropIx pathIx
    rw [if_pos h3, h2, hi]
theorem need_none {l : List Seg} (hv : validB l = true) (s : ByteArray) {b : UInt8} (hb : bSeek l b < 0) : needOk l s ⟨#[b]⟩ = false := by
  have hi : indexB l ⟨#[b]⟩ = bSeek l b := if_pos hv
  unfold needOk hasSeg
  rw [hi, decide_eq_false (by omega), Bool.and_false]
set_option maxRecDepth 100000 in
set_option maxHeartbeats 1000000 in
theorem specAll_any (A : Option Addr) (l : List Seg) (c : Nat) (s u : ByteArray) (w : World) (hw : Segs w w.heap.size A l) (hl : l.length ≤ 1048576) (hn : Short l) (hs : s.size ≤ 1048576) (hu : u.size ≤ 1048576) :
    Calls Try.prog 26 #[.slice A l.length c, .string s, .string u] w fun e w' => e = .returned (.tuple #[.string (allState l s u), .string (allLoad l s u), .bool (allOkB l s u)]) ∧ Below w.heap.size w w' := by
  have HW : Hid (Segs w w.heap.size A l) := hw
  clear hw
  have hbad : allOkB l s u = false → allState l s u = ⟨#[]⟩ ∧ allLoad l s u = ⟨#[]⟩ := fun h => by
    unfold allState allLoad
    rw [if_neg (by rw [h]; decide), if_neg (by rw [h]; decide)]
    exact ⟨rfl, rfl⟩
  have HBAD := Lib.hid hbad
  clear hbad
  cases hq : stOk l s with
  | false =>
    have HQ : Hid (allOkB l s u = false) := by
      show _ = _
      unfold allOkB
      rw [hq]
      rfl
    have HE := Lib.hid (HBAD.out HQ.out)
    go_enter Try.func26, Try.ntmps26
    go_wp2_with fail
    refine (specState_any _ _ _ _ _ HW.out hl hn hs).mono ?_
    rw [hq]
    rintro e w1 ⟨rfl, hb1⟩
    clear hq
    go_wp2
    go_ret3
    exact ⟨ret_three HE.out.1.symm HE.out.2.symm HQ.out.symm, hb1⟩
  | true =>
    by_cases hbig : 60 < u.size
    · have HQ : Hid (allOkB l s u = false) := by
        show _ = _
        unfold allOkB
        rw [hq, decide_eq_false (by omega)]
        rfl
      have HE := Lib.hid (HBAD.out HQ.out)
      go_enter Try.func26, Try.ntmps26
      go_wp2_with fail
      refine (specState_any _ _ _ _ _ HW.out hl hn hs).mono ?_
      rw [hq]
      rintro e w1 ⟨rfl, hb1⟩
      clear hq
      go_wp2
      go_ret3
      exact ⟨ret_three HE.out.1.symm HE.out.2.symm HQ.out.symm, hb1⟩
    · obtain ⟨hv, hT, hTn⟩ := stT_state hq
      have HV := Lib.hid hv
      have HS : Hid (IsState l (stT l s)) := hT
      have HN := Lib.hid hTn
      have HOK : Hid (allOkB l s u = namedOk l u.data.toList) := by
        show _ = _
        unfold allOkB
        rw [hq, decide_eq_true (by omega)]
        rfl
      have h8 := (valid_all hv).2.1
      have HD : Hid (Down l l.length) := (valid_all hv).1.down
      clear hv hT hTn
      have HT0 : Hid (namesAt l (runT l (stT l s) (namedJs l (u.data.toList.take 0))) = s ∧ namesAt l (runL l (stT l s) (namedJs l (u.data.toList.take 0))) = ⟨#[]⟩) := ⟨HN.out, rfl⟩
      go_enter Try.func26, Try.ntmps26
      go_wp2_with fail
      refine (specState_any _ _ _ _ _ HW.out hl hn hs).mono ?_
      rw [hq]
      rintro e w1 ⟨rfl, hb1⟩
      have HQ := Lib.hid hq
      clear hq
      go_wp2
      go_loopw [1, 9, 25] (fun v a i wr => ∃ k : Nat, k ≤ u.size ∧ i = .int .i64 k ∧ v = .string (namesAt l (runT l (stT l s) (namedJs l (u.data.toList.take k)))) ∧ a = .string (namesAt l (runL l (stT l s) (namedJs l (u.data.toList.take k)))) ∧ Hid (namedOk l (u.data.toList.take k) = true) ∧ Below w.heap.size w wr)
        (fun _ _ i _ => u.size - (intOf i).toNat)
      case atStart => exact ⟨0, Nat.zero_le _, rfl, by rw [HT0.out.1], by rw [HT0.out.2], rfl, hb1⟩
      case round =>
        obtain ⟨k, hk, rfl, rfl, rfl, HK, hb⟩ := hrel
        clear hb1
        have hk0 : (0 : Int) ≤ (k : Int) := Int.natCast_nonneg _
        by_cases hlt : k < u.size
        · have hlt' : (k : Int) < (u.size : Int) := by omega
          have h1 : (k : Int) + 1 ≤ (u.size : Int) := by omega
          obtain ⟨t1, t2⟩ := named_take (l := l) u hlt
          have HM : Hid (u[k] ∈ u.data.toList) := by
            show u.data.toList[k]'(by simpa using hlt) ∈ _
            exact List.getElem_mem _
          have HX := Lib.hid (one_byte u hlt)
          have HT1 := Lib.hid t1
          have HT2 := Lib.hid t2
          have hbd := bSeek_bd l u[k]
          clear t1 t2
          generalize u[k] = b at *
          have hlt2 := namedJs_lt HK.out
          have hln : (namedJs l (u.data.toList.take k)).length ≤ k := by
            unfold namedJs
            rw [List.length_map, List.length_take]
            omega
          have HTk : Hid (IsState l (runT l (stT l s) (namedJs l (u.data.toList.take k)))) := runT_state _ HS.out hlt2
          have hL := runL_lt HD.out _ HS.out hlt2
          have HLk : Hid (namesAt l (runL l (stT l s) (namedJs l (u.data.toList.take (k + 1)))) = namesAt l (runL l (stT l s) (namedJs l (u.data.toList.take k))) ++ namesAt l (loadT (runT l (stT l s) (namedJs l (u.data.toList.take k))) (rp l (bSeek l b).toNat))) := by
            show _ = _
            rw [HT2.out, runL_snoc, names_append]
          have HRk : Hid (runT l (stT l s) (namedJs l (u.data.toList.take (k + 1))) = needT (runT l (stT l s) (namedJs l (u.data.toList.take k))) (rp l (bSeek l b).toNat)) := by
            show _ = _
            rw [HT2.out, runT_snoc]
          have hzL : (namesAt l (runL l (stT l s) (namedJs l (u.data.toList.take k)))).size ≤ 480 := by
            rw [names_size HV.out hL.1]
            refine Nat.le_trans hL.2 ?_
            refine Nat.le_trans (Nat.mul_le_mul h8 hln) ?_
            omega
          have hzT : (namesAt l (runT l (stT l s) (namedJs l (u.data.toList.take k)))).size ≤ 1048576 := by
            rw [names_size HV.out (HTk.out.lt HD.out)]
            have := state_len HTk.out
            omega
          clear hL hlt2 hln
          generalize runT l (stT l s) (namedJs l (u.data.toList.take k)) = Tk at *
          generalize namesAt l (runL l (stT l s) (namedJs l (u.data.toList.take k))) = Lk at *
          rcases hbd with hbd | ⟨hb0, hb1⟩
          · have HF : Hid (allOkB l s u = false) := HOK.out.trans (namedOk_bad HM.out (by omega))
            have HE := Lib.hid (HBAD.out HF.out)
            have hno := need_none HV.out (namesAt l Tk) (b := b) (by omega)
            clear hbd
            go_wp2_with fail
            refine (specNeed_any _ _ _ _ _ _ ((HW.out.below hb).more hb.size) hl hn hzT).mono ?_
            rw [HX.out, hno]
            rintro e w2 ⟨rfl, hb2⟩
            have B2 := hb.trans (hb2.mono hb.size)
            clear hb hb2 hno
            go_wp2
            go_ret3
            exact ⟨ret_three HE.out.1.symm HE.out.2.symm HF.out.symm, B2⟩
          · obtain ⟨n1, n2, n3, -⟩ := need_byte HV.out HTk.out hb0
            have hzl := loadStr_len (l := l) (s := namesAt l Tk) (t := ⟨#[b]⟩)
            rw [n3] at hzl
            have HK1 : Hid (namedOk l (u.data.toList.take (k + 1)) = true) := by
              show _ = _
              rw [HT1.out, HK.out, decide_eq_true hb0]
              rfl
            clear hb0 hb1
            go_wp2_with fail
            refine (specNeed_any _ _ _ _ _ _ ((HW.out.below hb).more hb.size) hl hn hzT).mono ?_
            rw [HX.out, n1, n2, n3]
            rintro e w2 ⟨rfl, hb2⟩
            have B2 := hb.trans (hb2.mono hb.size)
            clear hb hb2 n1 n2 n3
            generalize namesAt l (loadT Tk (rp l (bSeek l b).toNat)) = Lb at *
            go_wp2
            go_roundw
            case rel => exact ⟨k + 1, by omega, by go_num, by rw [HRk.out], by rw [HLk.out], HK1, B2⟩
            case measure => simp [intOf]; omega
        · obtain rfl : k = u.size := by omega
          have HE : Hid (allOkB l s u = true ∧ allState l s u = namesAt l (runT l (stT l s) (namedJs l (u.data.toList.take u.size))) ∧ allLoad l s u = namesAt l (runL l (stT l s) (namedJs l (u.data.toList.take u.size)))) := by
            have e : u.data.toList.take u.size = u.data.toList := List.take_of_length_le (by simp)
            have hk := HK.out
            rw [e] at hk ⊢
            have h3 : allOkB l s u = true := HOK.out.trans hk
            unfold allState allLoad
            rw [if_pos h3, if_pos h3]
            exact ⟨h3, rfl, rfl⟩
          go_wp2
          go_ret3
          exact ⟨ret_three HE.out.2.1.symm HE.out.2.2.symm HE.out.1.symm, hb⟩

/-- The name and the cost of the best one so far. -/
def bestNm (l : List Seg) (T : List Nat) (k : Nat) : ByteArray := match cheapIx l T k with
  | none => ⟨#[]⟩
  | some j => namesAt l [j]
def bestCost (l : List Seg) (T : List Nat) (k : Nat) : Int := match cheapIx l T k with
  | none => 0
  | some j => nCost l T j
theorem best_in {l : List Seg} {T : List Nat} {k : Nat} (h : k ∈ T) : bestNm l T (k + 1) = bestNm l T k ∧ bestCost l T (k + 1) = bestCost l T k := by
  have e : cheapIx l T (k + 1) = cheapIx l T k := by
    show (if k ∈ T then _ else _) = _
    rw [if_pos h]
  unfold bestNm bestCost
  rw [e]
  exact ⟨rfl, rfl⟩
/-- A segment that isn't loaded: taken if there is none yet, or it costs less. -/
theorem best_out {l : List Seg} (hv : validB l = true) {T : List Nat} {k : Nat} (hk : k < l.length) (h : k ∉ T) :
    (bestNm l T k = ⟨#[]⟩ ∧ bestNm l T (k + 1) = namesAt l [k] ∧ bestCost l T (k + 1) = nCost l T k) ∨
    (∃ c : UInt8, bestNm l T k = ⟨#[c]⟩ ∧ (nCost l T k < bestCost l T k → bestNm l T (k + 1) = namesAt l [k] ∧ bestCost l T (k + 1) = nCost l T k) ∧ (¬ nCost l T k < bestCost l T k → bestNm l T (k + 1) = bestNm l T k ∧ bestCost l T (k + 1) = bestCost l T k)) := by
  have e : cheapIx l T (k + 1) = match cheapIx l T k with
    | none => some k
    | some j => if nCost l T k < nCost l T j then some k else some j := by
    show (if k ∈ T then _ else _) = _
    rw [if_neg h]
    cases cheapIx l T k <;> rfl
  unfold bestNm bestCost
  cases hc : cheapIx l T k with
  | none =>
    rw [hc] at e
    rw [e]
    exact .inl ⟨rfl, rfl, rfl⟩
  | some j =>
    rw [hc] at e
    dsimp only at e
    have hj := cheapIx_lt l T k j hc
    refine .inr ⟨byteOf l j, ?_, fun hlt => ?_, fun hlt => ?_⟩
    · show (⟨([j].flatMap (nmAt l)).toArray⟩ : ByteArray) = _
      rw [List.flatMap_cons, (nmAt_one hv (by omega)).1]
      rfl
    · rw [if_pos hlt] at e
      rw [e]
      exact ⟨rfl, rfl⟩
    · rw [if_neg hlt] at e
      rw [e]
      exact ⟨rfl, rfl⟩
theorem best_cost {l : List Seg} (hv : validB l = true) {T : List Nat} (hT : IsState l T) {k : Nat} (hk : k ≤ l.length) : 0 ≤ bestCost l T k ∧ bestCost l T k ≤ 792 := by
  unfold bestCost
  cases hc : cheapIx l T k with
  | none => exact ⟨Int.le_refl 0, (by decide : (0 : Int) ≤ 792)⟩
  | some j =>
    have hj := cheapIx_lt l T k j hc
    show 0 ≤ nCost l T j ∧ nCost l T j ≤ 792
    by_cases h : j ∈ T
    · rw [nCost_in (valid_all hv).1.down hT h]
      exact ⟨Int.le_refl 0, by decide⟩
    · have := nCost_out hv hT (show j < l.length by omega) h
      omega
theorem best_end {l : List Seg} (s : ByteArray) (h : stOk l s = true) : cheapStr l s = bestNm l (stT l s) l.length ∧ cheapOk l s = decide (bestNm l (stT l s) l.length ≠ ⟨#[]⟩) := by
  obtain ⟨hv, _, _⟩ := stT_state h
  unfold cheapStr cheapOk bestNm
  rw [if_pos h]
  cases hc : cheapIx l (stT l s) l.length with
  | none => exact ⟨rfl, by simp⟩
  | some j =>
    refine ⟨rfl, ?_⟩
    have hj := cheapIx_lt l _ _ j hc
    symm
    apply decide_eq_true
    intro e
    have := names_size hv (P := [j]) (fun x hx => by rw [List.mem_singleton.1 hx]; exact hj)
    dsimp only at e
    rw [e] at this
    cases this

set_option maxRecDepth 100000 in
set_option maxHeartbeats 1000000 in
theorem specCheap_any (A : Option Addr) (l : List Seg) (c : Nat) (s : ByteArray) (w : World) (hw : Segs w w.heap.size A l) (hl : l.length ≤ 1048576) (hn : Short l) (hs : s.size ≤ 1048576) :
    Calls Try.prog 34 #[.slice A l.length c, .string s] w fun e w' => e = .returned (.tuple #[.string (cheapStr l s), .bool (cheapOk l s)]) ∧ Below w.heap.size w w' := by
  have HW : Hid (Segs w w.heap.size A l) := hw
  clear hw
  cases hq : stOk l s with
  | false =>
    have HE : Hid (cheapStr l s = ⟨#[]⟩ ∧ cheapOk l s = false) := by
      unfold cheapStr cheapOk
      rw [if_neg (by rw [hq]; decide)]
      exact ⟨rfl, rfl⟩
    go_enter Try.func34, Try.ntmps34
    go_wp2_with fail
    refine (specState_any _ _ _ _ _ HW.out hl hn hs).mono ?_
    rw [hq]
    rintro e w1 ⟨rfl, hb1⟩
    clear hq
    go_wp2
    go_ret2
    exact ⟨ret_two HE.out.1.symm HE.out.2.symm, hb1⟩
  | true =>
    obtain ⟨hv, hT, hTn⟩ := stT_state hq
    have HE := Lib.hid (best_end s hq)
    have HC := Lib.hid (fun i hi => loadCost_at hq (i := i) hi)
    have HV := Lib.hid hv
    have HS : Hid (IsState l (stT l s)) := hT
    clear hv hT hTn
    go_enter Try.func34, Try.ntmps34
    go_wp2_with fail
    refine (specState_any _ _ _ _ _ HW.out hl hn hs).mono ?_
    rw [hq]
    rintro e w1 ⟨rfl, hb1⟩
    clear hq
    generalize stT l s = T at *
    go_wp2
    go_loopw [6, 7, 17] (fun v a i wr => ∃ k : Nat, k ≤ l.length ∧ i = .int .i64 k ∧ v = .string (bestNm l T k) ∧ a = .int .i64 (bestCost l T k) ∧ Below w.heap.size w wr)
      (fun _ _ i _ => l.length - (intOf i).toNat)
    case atStart => exact ⟨0, Nat.zero_le _, rfl, rfl, rfl, hb1⟩
    case round =>
      obtain ⟨k, hk, rfl, rfl, rfl, hb⟩ := hrel
      clear hb1
      have hk0 : (0 : Int) ≤ (k : Int) := Int.natCast_nonneg _
      by_cases hlt : k < l.length
      · have hlt' : (k : Int) < (l.length : Int) := by omega
        obtain ⟨b', o', rfl, hB, hc⟩ := HW.out (by omega)
        obtain ⟨c0, c1, c2⟩ := hc k l[k] (List.getElem?_eq_getElem hlt)
        clear hc
        rw [← hb.cell hB] at c0 c1 c2
        have HNM : Hid (l[k].name = namesAt l [k]) := by
          show _ = _
          rw [(nmAt_one HV.out hlt).2]
          show _ = (⟨([k].flatMap (nmAt l)).toArray⟩ : ByteArray)
          rw [List.flatMap_cons, (nmAt_one HV.out hlt).1]
          rfl
        have HCk := Lib.hid (HC.out k hlt)
        have hbc := best_cost HV.out HS.out hk
        generalize l[k] = x at *
        go_wp2_with fail
        refine (specLoadCost_any _ _ _ _ _ _ ((HW.out.below (hb.alloc hb.size _)).more (by have := hb.size; simp; omega)) hl hn hs).mono ?_
        rw [HNM.out, HCk.out]
        rintro e w2 ⟨rfl, hb2⟩
        have B2 := (hb.alloc hb.size _).trans (hb2.mono (by have := hb.size; simp; omega))
        have hcell : w2.cell? ⟨wr.heap.size, 0, none⟩ = some (.string (namesAt l [k])) := (hb2.cell (p := ⟨wr.heap.size, 0, none⟩) (by simp)).trans ((Row.new wr 99 _).cell 0)
        clear hb hb2 c0 c1 c2
        by_cases hm : k ∈ T
        · have hz := nCost_in (valid_all HV.out).1.down HS.out hm
          have HB := Lib.hid (best_in (l := l) hm)
          clear hm
          rw [hz]
          go_wp2
          go_roundw
          case rel => exact ⟨k + 1, by omega, by go_num, by rw [HB.out.1], by rw [HB.out.2], B2⟩
          case measure => simp [intOf]; omega
        · obtain ⟨n1, n2⟩ := nCost_out HV.out HS.out hlt hm
          rcases best_out HV.out hlt hm with ⟨e1, e2, e3⟩ | ⟨c', e1, e2, e3⟩
          · have HB2 := Lib.hid e2
            have HB3 := Lib.hid e3
            have HB1 : Hid (Value.string (bestNm l T k) = .string ⟨#[]⟩) := congrArg Value.string e1
            clear e1 e2 e3 hm
            rw [HB1.out]
            generalize nCost l T k = n at *
            generalize namesAt l [k] = nm at *
            go_wp2
            go_roundw
            case rel => exact ⟨k + 1, by omega, by go_num, by rw [HB2.out], by rw [HB3.out], B2⟩
            case measure => simp [intOf]; omega
          · by_cases hlt2 : nCost l T k < bestCost l T k
            · obtain ⟨f1, f2⟩ := e2 hlt2
              have HB2 := Lib.hid f1
              have HB3 := Lib.hid f2
              have HB1 : Hid (Value.string (bestNm l T k) = .string ⟨#[c']⟩) := congrArg Value.string e1
              clear e1 e2 e3 hm f1 f2
              rw [HB1.out]
              generalize nCost l T k = n at *
              generalize bestCost l T k = m at *
              generalize namesAt l [k] = nm at *
              go_wp2
              go_roundw
              case rel => exact ⟨k + 1, by omega, by go_num, by rw [HB2.out], by rw [HB3.out], B2⟩
              case measure => simp [intOf]; omega
            · obtain ⟨f1, f2⟩ := e3 hlt2
              have HB2 := Lib.hid f1
              have HB3 := Lib.hid f2
              have HB1 : Hid (Value.string (bestNm l T k) = .string ⟨#[c']⟩) := congrArg Value.string e1
              clear e1 e2 e3 hm f1 f2
              rw [HB1.out]
              generalize nCost l T k = n at *
              generalize hbm : bestCost l T k = m at *
              clear hbm
              generalize namesAt l [k] = nm at *
              go_wp2
              go_roundw
              case rel => exact ⟨k + 1, by omega, by go_num, by rw [HB2.out, HB1.out], by rw [HB3.out], B2⟩
              case measure => simp [intOf]; omega
      · obtain rfl : k = l.length := by omega
        have HE2 : Hid (cheapOk l s = decide (bestNm l T l.length ≠ ⟨#[]⟩)) := HE.out.2
        have HE1 : Hid (cheapStr l s = bestNm l T l.length) := HE.out.1
        generalize bestNm l T l.length = nm at *
        by_cases hnm : nm = ⟨#[]⟩
        · subst hnm
          go_wp2
          go_ret2
          exact ⟨ret_two HE1.out.symm (by rw [HE2.out]; rfl), hb⟩
        · have hne : nm.toList ≠ [] := toList_ne (Nat.pos_of_ne_zero fun e => hnm (str_empty e))
          have hne2 : (nm.toList == []) = false := by simp [hne]
          have HT : Hid (cheapOk l s = true) := by
            show _ = _
            rw [HE2.out, decide_eq_true hnm]
          clear hnm HE2 HE
          go_wp2
          go_ret2
          exact ⟨ret_two HE1.out.symm HT.out.symm, hb⟩

end Go.Proofs.Ytcpiojliakgdlaa

/- The model's StatesOf: all states, as texts of the call's own. -/
namespace Go.Proofs.Ytcpiojliakgdlaa
open Go.RowKit

def stTexts (l : List Seg) (k : Nat) : List ByteArray := ⟨#[]⟩ :: (List.range k).map (fun i => namesAt l (rp l i))
theorem stTexts_succ (l : List Seg) (k : Nat) : stTexts l (k + 1) = stTexts l k ++ [namesAt l (rp l k)] := by
  unfold stTexts
  rw [List.range_succ, List.map_append]
  rfl
theorem stTexts_len (l : List Seg) (k : Nat) : (stTexts l k).length = k + 1 := by simp [stTexts]
/-- All states as texts; none of a list that is no tree. -/
def statesB (l : List Seg) : List ByteArray := if validB l = true then stTexts l l.length else []
def StatesPost (w : World) (l : List Seg) (e : Ending) (w' : World) : Prop :=
  ∃ v, e = .returned (.tuple #[v, .bool (validB l)]) ∧ OwnTexts w' w.heap.size v (statesB l) ∧ Below w.heap.size w w'
set_option maxRecDepth 100000 in
set_option maxHeartbeats 1000000 in
theorem specStates_any (A : Option Addr) (l : List Seg) (c : Nat) (w : World) (hw : Segs w w.heap.size A l) (hl : l.length ≤ 1048576) (hn : Short l) :
    Calls Try.prog 31 #[.slice A l.length c] w (StatesPost w l) := by
  have HW : Hid (Segs w w.heap.size A l) := hw
  clear hw
  cases hv : validB l with
  | false =>
    have HS : Hid (statesB l = [] ∧ validB l = false) := ⟨if_neg (by rw [hv]; decide), hv⟩
    go_enter Try.func31, Try.ntmps31
    go_wp2_with fail
    refine (specTreeValid_any _ _ _ _ HW.out hl hn).mono ?_
    rw [hv]
    rintro e w1 ⟨rfl, hb1⟩
    have HB := Lib.hid hb1
    clear hb1 hv
    go_wp2
    refine bodyPost_ret (v := .tuple #[.slice (some ⟨w1.heap.size, 0, none⟩) 0 0, .bool false]) (by simp [results, Try.results31, go_sem]) rfl ?_
    refine ⟨_, by rw [HS.out.2], by rw [HS.out.1]; exact OwnTexts.empty w1 HB.out.size, HB.out.alloc HB.out.size _⟩
  | true =>
    have h8 := (valid_all hv).2.1
    have HD : Hid (Down l l.length) := (valid_all hv).1.down
    have HO : Hid _ := valid_names hv
    have HS : Hid (statesB l = stTexts l l.length ∧ validB l = true) := ⟨if_pos hv, hv⟩
    obtain ⟨i0, hi0, hz0, hz1, hz2⟩ := info_parts info_str
    have I0 := Lib.hid hi0
    have Z0 := Lib.hid hz0
    have Z1 := Lib.hid hz1
    have Z2 := Lib.hid hz2
    clear hi0 hz0 hz1 hz2
    go_enter Try.func31, Try.ntmps31
    go_wp2_with fail
    refine (specTreeValid_any _ _ _ _ HW.out hl hn).mono ?_
    rw [hv]
    rintro e w1 ⟨rfl, hb1⟩
    have HB := Lib.hid hb1
    have HT0 := Lib.hid (OwnTexts.one w1 HB.out.size ⟨#[]⟩)
    clear hb1 hv
    go_wp2
    go_loopw [4, 13] (fun o i wr => ∃ k : Nat, k ≤ l.length ∧ i = .int .i64 k ∧ Hid (OwnTexts wr w.heap.size o (stTexts l k)) ∧ Hid (Below w.heap.size w wr))
      (fun _ i _ => l.length - (intOf i).toNat)
    case atStart => exact ⟨0, Nat.zero_le _, rfl, HT0, HB.out.alloc HB.out.size _⟩
    case round =>
      obtain ⟨k, hk, rfl, HT, HBr⟩ := hrel
      clear HT0
      have hk0 : (0 : Int) ≤ (k : Int) := Int.natCast_nonneg _
      have hlen := stTexts_len l k
      by_cases hlt : k < l.length
      · have hlt' : (k : Int) < (l.length : Int) := by omega
        have HP : Hid (pathOf l k = (rp l k).map fun j : Nat => (j : Int)) := rootPath_chain HD.out (k + 1) k hlt (by omega)
        have HL : Hid (∀ j ∈ rp l k, j < l.length) := rootPath_lt HD.out (k + 1) k hlt
        have HZ : Hid ((rp l k).length ≤ 1048577) := Nat.le_trans (rootPath_len l (k + 1) k) (by omega)
        have HN := Lib.hid (stTexts_succ l k)
        obtain ⟨g, cap, rfl⟩ := HT.out.form (by omega)
        rw [hlen]
        go_wp2_with fail
        refine (l1Path_any _ _ _ _ _ ((HW.out.below HBr.out).more HBr.out.size) hl hlt (HD.out.mono (by omega))).mono ?_
        rw [HP.out]
        rintro e w2 ⟨g2, cap2, rfl, hown2, hb2⟩
        rw [List.length_map] at hown2 ⊢
        have HO2 := Lib.hid hown2
        have HB2 := Lib.hid (HBr.out.trans (hb2.mono HBr.out.size))
        have HT2 := Lib.hid (HT.out.below hb2)
        clear hown2 hb2
        go_wp2_with fail
        refine (l1Names_any _ _ _ _ _ _ _ _ ((HW.out.below HB2.out).more HB2.out.size) hl HO.out HL.out HZ.out HO2.out).mono ?_
        rintro e w3 ⟨rfl, rfl⟩
        generalize namesAt l (rp l k) = nm at *
        have hT3 := HT2.out
        unfold OwnTexts at hT3
        rw [hlen] at hT3
        have HT3 := Lib.hid (hT3.alloc (.cells #[.string nm] 9))
        clear hT3
        go_wp2_with (at_builtin; refine wpList_append_own_at _ rfl _ _ 40 rfl w.heap.size 9 i0 (.string ByteArray.empty) 1 16 Try.underlying40 I0.out Z0.out Z1.out Z2.out rfl (by decide) _ _ _ rfl HT3.out ⟨w2.heap.size, 0, none⟩ 1 1 [.string nm] rfl rfl (cell_one_new _ _ _) (by simp [Value.oneCell']) (by unfold maxLen; omega) (by omega) (by have := HB2.out.size; simp; omega) ?_; intro v4 w4 hown4 hgrow _ _)
        have HB4 : Hid (Below w.heap.size w w4) := (HB2.out.alloc HB2.out.size _).grown hgrow (by have := HB2.out.size; simp; omega) (fun q hq => (World.ownsRow.lt HT3.out q hq).1)
        have HT4 : Hid (OwnTexts w4 w.heap.size v4 (stTexts l (k + 1))) := by
          show OwnTexts w4 w.heap.size v4 (stTexts l (k + 1))
          unfold OwnTexts
          rw [HN.out, List.length_append, hlen, List.map_append]
          exact hown4
        clear hown4 hgrow
        go_roundw
        case rel => exact ⟨k + 1, by omega, by go_num, HT4, HB4⟩
        case measure => simp [intOf]; omega
      · obtain rfl : k = l.length := by omega
        go_wp2
        refine bodyPost_ret (v := .tuple #[u4, .bool true]) (by simp [results, Try.results31, go_sem]) rfl ?_
        exact ⟨_, by rw [HS.out.2], by rw [HS.out.1]; exact HT.out, HBr.out⟩

end Go.Proofs.Ytcpiojliakgdlaa
/- Draws of chapter 4: a text many times; the draws of NeedsOf, TraceValid, Without. All over l1Good's contract. -/
namespace Go.Proofs.Ytcpiojliakgdlaa
open Go.RowKit

set_option maxRecDepth 100000 in
set_option maxHeartbeats 1000000 in
theorem l13Many_any (s : ByteArray) (n : Nat) (w : World) (hs : s.size ≤ 2) (hn : n ≤ 100) :
    Calls Try.prog 120 #[.string s, .int .i64 n] w fun e w' => (∃ x : ByteArray, e = .returned (.string x) ∧ x.size = s.size * n) ∧ w' = w := by
  have hc : s.size * n ≤ 200 := Nat.le_trans (Nat.mul_le_mul hs hn) (by decide)
  obtain ⟨C, HC⟩ : ∃ C : Nat, Hid (C = s.size * n) := ⟨_, rfl⟩
  have hC : C ≤ 200 := by rw [HC.out]; exact hc
  have HS0 := Lib.hid hs
  go_enter Try.func120, Try.ntmps120
  go_wp2
  go_loopw [0, 1, 5] (fun u k o wr => ∃ (k' : Nat) (u' o' : ByteArray), u = .string u' ∧ k = .int .i64 k' ∧ o = .string o' ∧ k' ≤ 100 ∧ u'.size ≤ 400 ∧ o'.size ≤ 200 ∧ Hid (o'.size + u'.size * k' = C) ∧ wr = w)
    (fun _ k _ _ => (intOf k).toNat)
  case atStart => exact ⟨n, s, _, rfl, rfl, rfl, hn, by omega, Nat.zero_le _, Lib.hid (by rw [HC.out]; exact Nat.zero_add _), rfl⟩
  case round =>
    obtain ⟨k, u, o, rfl, rfl, rfl, hk, hu, ho, HK, rfl⟩ := hrel
    by_cases h0 : 0 < k
    · have h0' : (0 : Int) < (k : Int) := by omega
      have e1 : (k : Int).tmod 2 = ((k % 2 : Nat) : Int) := by rw [Int.tmod_eq_emod_of_nonneg (by omega)]; rfl
      have e2 : (k : Int).tdiv 2 = ((k / 2 : Nat) : Int) := by rw [Int.tdiv_eq_ediv_of_nonneg (by omega)]; rfl
      have huk : u.size ≤ 200 := by
        have h1 := HK.out
        have h2 : u.size * 1 ≤ u.size * k := Nat.mul_le_mul_left _ h0
        omega
      have huu : (u ++ u).size = 2 * u.size := by rw [ByteArray.size_append]; omega
      have hkd : k = 2 * (k / 2) + k % 2 := by omega
      by_cases hodd : k % 2 = 1
      · rw [hodd] at e1
        have HK2 : Hid ((o ++ u).size + (u ++ u).size * (k / 2) = C) := by
          show _ = _
          rw [ByteArray.size_append, huu, ← HK.out]
          have : u.size * k = u.size * (2 * (k / 2) + 1) := by rw [← hodd, ← hkd]
          rw [this, Nat.mul_add, Nat.mul_one, Nat.mul_assoc, Nat.mul_left_comm]
          omega
        have hoz : (o ++ u).size ≤ 200 := by have := HK2.out; omega
        have hk2 : k / 2 < k := by omega
        clear hkd hc
        generalize k / 2 = k2 at *
        go_wp2
        go_roundw
        case rel => exact ⟨k2, _, _, rfl, by go_num, rfl, by omega, by omega, hoz, HK2, trivial⟩
        case measure => simp [intOf]; omega
      · have hev : k % 2 = 0 := by omega
        rw [hev] at e1
        have HK2 : Hid (o.size + (u ++ u).size * (k / 2) = C) := by
          show _ = _
          rw [huu, ← HK.out]
          have : u.size * k = u.size * (2 * (k / 2)) := by rw [show 2 * (k / 2) = k from by omega]
          rw [this, Nat.mul_assoc, Nat.mul_left_comm]
        have hk2 : k / 2 < k := by omega
        clear hkd hc
        generalize k / 2 = k2 at *
        go_wp2
        go_roundw
        case rel => exact ⟨k2, _, _, rfl, by go_num, rfl, by omega, by omega, ho, HK2, trivial⟩
        case measure => simp [intOf]; omega
    · obtain rfl : k = 0 := by omega
      have HO : Hid (o.size = s.size * n) := by
        show _ = _
        rw [← HC.out, ← HK.out, Nat.mul_zero, Nat.add_zero]
      go_wp2
      go_ret
      exact ⟨⟨o, rfl, HO.out⟩, rfl⟩

end Go.Proofs.Ytcpiojliakgdlaa
/- Draws of chapter 3: a state, and a text of names. -/
namespace Go.Proofs.Ytcpiojliakgdlaa
open Go.RowKit

theorem statesB_few {l : List Seg} (hv : validB l = true) : 1 ≤ (statesB l).length ∧ (statesB l).length ≤ 9 := by
  unfold statesB
  have h8 := (valid_all hv).2.1
  rw [if_pos hv]
  unfold stTexts
  simp
  omega
theorem statesB_short {l : List Seg} (hv : validB l = true) : ∀ x ∈ statesB l, x.size ≤ 9 := by
  intro x hx
  unfold statesB at hx
  rw [if_pos hv] at hx
  have h8 := (valid_all hv).2.1
  unfold stTexts at hx
  rcases List.mem_cons.1 hx with rfl | h
  · exact Nat.zero_le _
  · obtain ⟨i, hi, rfl⟩ := List.mem_map.1 h
    have hi' := List.mem_range.1 hi
    have h1 := namesAt_len (l := l) (fun s hs => by obtain ⟨c, h, -⟩ := nameOk_one (validB_names hv hs); rw [h]; exact Nat.le_refl _) (rp l i)
    have h2 : (rp l i).length ≤ i + 1 := rootPath_len l (i + 1) i
    omega
def oddStates : List ByteArray := [⟨#[66]⟩, ⟨#[66, 65]⟩, ⟨#[65, 65]⟩, ⟨#[65, 88]⟩, ⟨#[65, 66]⟩, ⟨#[65, 66, 67]⟩, ⟨#[]⟩]

set_option maxRecDepth 100000 in
set_option maxHeartbeats 2000000 in
theorem l3State_plain (b c P : Nat) (A : Option Addr) (l : List Seg) (w : World) (h9 : l.length ≤ 9) (hsh : Short l) (hr : Rd w b P) (hP : P ≤ 1000) (hw : Segs w w.heap.size A l) :
    Calls Try.prog 76 #[.pointer (some ⟨b, 0, none⟩), .slice A l.length c] w (TextDrawn b P 2 9 w) := by
  have HS := Lib.hid (specStates_any A l c w hw (by omega) hsh)
  have HR := Lib.hid hr
  have hf := fun h => statesB_few (l := l) h
  have HSB := Lib.hid (fun h => statesB_short (l := l) h)
  clear hw hsh hr
  unfold StatesPost at HS
  generalize statesB l = st at *
  cases hv : validB l with
  | false =>
    rw [hv] at HS
    clear hf HSB
    go_enter Try.func76, Try.ntmps76
    go_wp2_with fail
    refine Calls.mono HS.out ?_
    rintro e w1 ⟨v, rfl, -, hb⟩
    have HO1 : Hid (Only w w1 (· = b)) := (Only.refl w (· = b)).andBelow hb
    have HR1 : Hid (Rd w1 b P) := HR.out.below hb
    have HR2 := Lib.hid (HR1.out.alloc (.cells (oddStates.map Value.string).toArray 9))
    have HX := Lib.hid (texts_new w1 b 9 oddStates HR1.out.lt)
    clear hb HS HR
    go_wp2_with fail
    refine (of_any b P w1.heap.size 0 7 7 (· ∈ oddStates) _ HR2.out (by omega) (by omega) (by omega) HX.out).mono ?_
    rintro e w2 ⟨x, rfl, hx, ho, hr2⟩
    have HX2 : Hid (x.size ≤ 9) := by
      have h : ∀ x ∈ oddStates, x.size ≤ 9 := by decide
      exact h x hx
    have HO2 := Lib.hid (HO1.out.trans ho.fresh)
    have HR3 := Lib.hid hr2
    clear hx ho hr2 HX HR2 HO1 HR1
    go_wp2
    go_ret
    exact ⟨x, rfl, HX2.out, HO2.out, HR3.out.weak (by omega)⟩
  | true =>
    obtain ⟨hf1, hf2⟩ := hf hv
    have HSS := Lib.hid (HSB.out hv)
    rw [hv] at HS
    clear hf HSB hv
    go_enter Try.func76, Try.ntmps76
    go_wp2_with fail
    refine Calls.mono HS.out ?_
    rintro e w1 ⟨v, rfl, ho, hb⟩
    obtain ⟨g, cap, rfl⟩ := ho.form hf1
    have hgl := World.ownsRow.lt ho g rfl
    have HO1 : Hid (Only w w1 (· = b)) := (Only.refl w (· = b)).andBelow hb
    have HR1 : Hid (Rd w1 b P) := HR.out.below hb
    have hbw := HR.out.lt
    have HC : Hid (∀ i (s : ByteArray), st[i]? = some s → w1.cell? ⟨g, i, none⟩ = some (.string s)) := fun i s h => St.textsCell ho h
    have HG : Hid (g ≠ b ∧ g < w1.heap.size) := ⟨by omega, hgl.2⟩
    clear hb HS HR ho hgl hbw
    go_wp2_with fail
    refine (draw_any b P 12 _ HR1.out (by omega) (by omega) (by omega)).mono ?_
    rintro e w2 ⟨n, rfl, ⟨hn0, hn1⟩, ho2, hr2⟩
    have HO2 := Lib.hid (HO1.out.trans ho2)
    have HC2 : Hid (∀ i (s : ByteArray), st[i]? = some s → w2.cell? ⟨g, i, none⟩ = some (.string s)) := fun i s h => (only_cell ho2 HG.out.1 HG.out.2 i).trans (HC.out i s h)
    have HG2 : Hid (g ≠ b ∧ g < w2.heap.size) := ⟨HG.out.1, Nat.lt_of_lt_of_le HG.out.2 ho2.size⟩
    have HR2 := Lib.hid hr2
    clear ho2 hr2 HO1 HR1 HC HG hn1
    by_cases hp : 0 < n
    · go_wp2_with fail
      refine (draw_any b (P + 1) st.length _ HR2.out (by omega) (by omega) (by omega)).mono ?_
      rintro e w3 ⟨v, rfl, ⟨hv0, hv1⟩, ho3, hr3⟩
      obtain ⟨j, rfl⟩ := Int.eq_ofNat_of_zero_le hv0
      have hj : j < st.length := by have := hv1 (by omega); omega
      have hj' : (j : Int) < (st.length : Int) := by omega
      have hj0 : (0 : Int) ≤ (j : Int) := Int.natCast_nonneg _
      have HO3 := Lib.hid (HO2.out.trans ho3)
      have HR3 := Lib.hid hr3
      have cj := (only_cell ho3 HG2.out.1 HG2.out.2 j).trans (HC2.out j _ (List.getElem?_eq_getElem hj))
      have HX2 := Lib.hid (HSS.out _ (List.getElem_mem hj))
      clear ho3 hr3 hv0 hv1 HO2 HR2 HC2 HG2
      generalize st[j] = x at *
      go_wp2
      go_ret
      exact ⟨x, rfl, HX2.out, HO3.out, HR3.out.weak (by omega)⟩
    · have HR4 := Lib.hid (HR2.out.alloc (.cells (oddStates.map Value.string).toArray 9))
      have HX := Lib.hid (texts_new w2 b 9 oddStates HR2.out.lt)
      go_wp2_with fail
      refine (of_any b (P + 1) w2.heap.size 0 7 7 (· ∈ oddStates) _ HR4.out (by omega) (by omega) (by omega) HX.out).mono ?_
      rintro e w3 ⟨x, rfl, hx, ho, hr3⟩
      have HX2 : Hid (x.size ≤ 9) := by
        have h : ∀ x ∈ oddStates, x.size ≤ 9 := by decide
        exact h x hx
      have HO3 := Lib.hid (HO2.out.trans ho.fresh)
      have HR3 := Lib.hid hr3
      clear hx ho hr3 HX HR4 HO2 HR2
      go_wp2
      go_ret
      exact ⟨x, rfl, HX2.out, HO3.out, HR3.out.weak (by omega)⟩

def needNums : List Int := [4, 6, 3, 8, 1, 0]
def needTexts : List ByteArray := [⟨#[65]⟩, ⟨#[66]⟩, ⟨#[72]⟩]
def longNums : List Int := [60, 61, 59]

set_option maxRecDepth 100000 in
set_option maxHeartbeats 2000000 in
theorem l3Needs_plain (b c P : Nat) (A : Option Addr) (l : List Seg) (w : World) (h9 : l.length ≤ 9) (hnm : ∀ s ∈ l, s.name.size ≤ 8) (hA : ∀ g o, A = some ⟨g, o, none⟩ → b < g) (hr : Rd w b P) (hP : P ≤ 1000) (hw : Segs w w.heap.size A l) :
    Calls Try.prog 77 #[.pointer (some ⟨b, 0, none⟩), .slice A l.length c] w (TextDrawn b P 19 64 w) := by
  have HW : Hid (Segs w w.heap.size A l) := hw
  have HNM := Lib.hid hnm
  have HAA := Lib.hid hA
  have HR := Lib.hid (hr.alloc (.cells #[.int .i64 4, .int .i64 6, .int .i64 3, .int .i64 8, .int .i64 1, .int .i64 0] 3))
  have HX := Lib.hid (nums_new w b 3 needNums hr.lt)
  clear hr hw hnm hA
  go_enter Try.func77, Try.ntmps77
  go_wp2_with fail
  refine (num_any b P w.heap.size 0 6 6 (· ∈ needNums) _ HR.out (by omega) (by omega) (by omega) HX.out).mono ?_
  rintro e w1 ⟨n, rfl, hn, ho, hr1⟩
  have HO := Lib.hid ho.fresh
  have HR1 := Lib.hid hr1
  obtain ⟨m, rfl, hm8⟩ : ∃ m : Nat, n = (m : Int) ∧ m ≤ 8 := by
    have h : ∀ x ∈ needNums, 0 ≤ x ∧ x ≤ 8 := by decide
    obtain ⟨h2, h3⟩ := h n hn
    exact ⟨n.toNat, by omega, by omega⟩
  clear ho hr1 hn HX HR
  go_wp2
  go_loopw [5, 9] (fun s i wr => ∃ (k : Nat) (x : ByteArray), k ≤ m ∧ s = .string x ∧ i = .int .i64 k ∧ x.size ≤ 8 * k ∧ Hid (Only w wr (· = b)) ∧ Hid (Rd wr b (P + 1 + 2 * k)))
    (fun _ i _ => m - (intOf i).toNat)
  case atStart => exact ⟨0, _, Nat.zero_le _, rfl, rfl, Nat.le_refl _, HO, HR1⟩
  case round =>
    obtain ⟨k, x, hk, rfl, rfl, hx, HOk, HRk⟩ := hrel
    clear HO HR1
    by_cases hlt : k < m
    · have hlt' : (k : Int) < (m : Int) := by omega
      have hb2 : b < wr.heap.size := HRk.out.lt
      by_cases hl0 : 0 < l.length
      · have hl0' : (0 : Int) < (l.length : Int) := by omega
        go_wp2_with fail
        refine (draw_any b (P + 1 + 2 * k) 20 _ HRk.out (by omega) (by omega) (by omega)).mono ?_
        rintro e w2 ⟨n, rfl, ⟨hn0, hn1⟩, ho2, hr2⟩
        have HO2 := Lib.hid (HOk.out.trans ho2)
        have HR2 := Lib.hid hr2
        clear ho2 hr2 HOk HRk hn1 hb2
        by_cases hp : 0 < n
        · go_wp2_with fail
          refine (draw_any b (P + 1 + 2 * k + 1) l.length _ HR2.out (by omega) (by omega) (by omega)).mono ?_
          rintro e w3 ⟨v, rfl, ⟨hv0, hv1⟩, ho3, hr3⟩
          obtain ⟨j, rfl⟩ := Int.eq_ofNat_of_zero_le hv0
          have hj : j < l.length := by have := hv1 (by omega); omega
          have hj' : (j : Int) < (l.length : Int) := by omega
          have hj0 : (0 : Int) ≤ (j : Int) := Int.natCast_nonneg _
          have HO3 := Lib.hid (HO2.out.trans ho3)
          have HR3 := Lib.hid (hr3.weak (Q := P + 1 + 2 * (k + 1)) (by omega))
          have hsg : Segs w3 w3.heap.size A l := HW.out.farO HO3.out HAA.out
          obtain ⟨g, o, rfl, hgB, hc⟩ := hsg (by omega)
          obtain ⟨e1, e2, e3⟩ := hc j _ (List.getElem?_eq_getElem hj)
          have hns := HNM.out _ (List.getElem_mem hj)
          have hxs : (x ++ l[j].name).size ≤ 8 * (k + 1) := by rw [ByteArray.size_append]; omega
          clear hc ho3 hr3 hv0 hv1 hsg HO2 HR2
          generalize l[j] = sg at *
          go_wp2
          go_roundw
          case rel => exact ⟨k + 1, _, by omega, rfl, by go_num, hxs, HO3, HR3⟩
          case measure => simp [intOf]; omega
        · have HR4 := Lib.hid (HR2.out.alloc (.cells (needTexts.map Value.string).toArray 9))
          have HX := Lib.hid (texts_new w2 b 9 needTexts HR2.out.lt)
          go_wp2_with fail
          refine (of_any b (P + 1 + 2 * k + 1) w2.heap.size 0 3 3 (· ∈ needTexts) _ HR4.out (by omega) (by omega) (by omega) HX.out).mono ?_
          rintro e w3 ⟨y, rfl, hy, ho, hr3⟩
          have hy1 : y.size ≤ 1 := by
            have h : ∀ x ∈ needTexts, x.size ≤ 1 := by decide
            exact h y hy
          have HO3 := Lib.hid (HO2.out.trans ho.fresh)
          have HR3 := Lib.hid (hr3.weak (Q := P + 1 + 2 * (k + 1)) (by omega))
          have hxs : (x ++ y).size ≤ 8 * (k + 1) := by rw [ByteArray.size_append]; omega
          clear hy ho hr3 HX HR4 HO2 HR2
          go_wp2
          go_roundw
          case rel => exact ⟨k + 1, _, by omega, rfl, by go_num, hxs, HO3, HR3⟩
          case measure => simp [intOf]; omega
      · have hl0' : ¬ (0 : Int) < (l.length : Int) := by omega
        have HR4 := Lib.hid (HRk.out.alloc (.cells (needTexts.map Value.string).toArray 9))
        have HX := Lib.hid (texts_new wr b 9 needTexts hb2)
        go_wp2_with fail
        refine (of_any b (P + 1 + 2 * k) wr.heap.size 0 3 3 (· ∈ needTexts) _ HR4.out (by omega) (by omega) (by omega) HX.out).mono ?_
        rintro e w3 ⟨y, rfl, hy, ho, hr3⟩
        have hy1 : y.size ≤ 1 := by
          have h : ∀ x ∈ needTexts, x.size ≤ 1 := by decide
          exact h y hy
        have HO3 := Lib.hid (HOk.out.trans ho.fresh)
        have HR3 := Lib.hid (hr3.weak (Q := P + 1 + 2 * (k + 1)) (by omega))
        have hxs : (x ++ y).size ≤ 8 * (k + 1) := by rw [ByteArray.size_append]; omega
        clear hy ho hr3 HX HR4 HOk HRk
        go_wp2
        go_roundw
        case rel => exact ⟨k + 1, _, by omega, rfl, by go_num, hxs, HO3, HR3⟩
        case measure => simp [intOf]; omega
    · obtain rfl : k = m := by omega
      have hx64 : x.size ≤ 64 := by omega
      have HR2 := Lib.hid (HRk.out.weak (Q := P + 17) (by omega))
      clear HRk
      go_wp2_with fail
      refine (draw_any b (P + 17) 30 _ HR2.out (by omega) (by omega) (by omega)).mono ?_
      rintro e w2 ⟨n, rfl, ⟨hn0, hn1⟩, ho2, hr2⟩
      have HO2 := Lib.hid (HOk.out.trans ho2)
      have HR3 := Lib.hid hr2
      clear ho2 hr2 HOk HR2 hn1
      by_cases h0 : n = 0
      · subst h0
        have HR4 := Lib.hid (HR3.out.alloc (.cells #[.int .i64 60, .int .i64 61, .int .i64 59] 3))
        have HX := Lib.hid (nums_new w2 b 3 longNums HR3.out.lt)
        go_wp2_with fail
        refine (num_any b (P + 18) w2.heap.size 0 3 3 (· ∈ longNums) _ HR4.out (by omega) (by omega) (by omega) HX.out).mono ?_
        rintro e w3 ⟨n, rfl, hn, ho, hr3⟩
        obtain ⟨q, rfl, hq⟩ : ∃ q : Nat, n = (q : Int) ∧ q ≤ 61 := by
          have h : ∀ x ∈ longNums, 0 ≤ x ∧ x ≤ 61 := by decide
          obtain ⟨h2, h3⟩ := h n hn
          exact ⟨n.toNat, by omega, by omega⟩
        have HO3 := Lib.hid (HO2.out.trans ho.fresh)
        have HR5 := Lib.hid hr3
        clear hn ho hr3 HX HR4 HO2 HR3
        go_wp2_with fail
        refine (l13Many_any ⟨#[65]⟩ q _ (by decide) (by omega)).mono ?_
        rintro e w4 ⟨⟨y, rfl, hy⟩, rfl⟩
        have HY : Hid (y.size ≤ 64) := by
          have : (⟨#[65]⟩ : ByteArray).size = 1 := rfl
          show _ ≤ _
          rw [hy, this]
          omega
        clear hy
        go_wp2
        go_ret
        exact ⟨y, rfl, HY.out, HO3.out, HR5.out.weak (by omega)⟩
      · have h0' : ¬ n = 0 := h0
        go_wp2
        go_ret
        exact ⟨x, rfl, hx64, HO2.out, HR3.out.weak (by omega)⟩

end Go.Proofs.Ytcpiojliakgdlaa
