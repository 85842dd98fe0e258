/- Joined: Gq Ky Kz. -/
import Derived.Test.YtcpiojliakgdlaaU21
import Derived.Test.YtcpiojliakgdlaaU16
import Derived.Deep.Onto
import Derived.Test.YtcpiojliakgdlaaU17
import Derived.Test.YtcpiojliakgdlaaU19
import Derived.Test.YtcpiojliakgdlaaU20
import Derived.Test.YtcpiojliakgdlaaU13
/- impl.NeedAll. -/
namespace Go.Proofs.Ytcpiojliakgdlaa
open Go.RowKit Go.Shelf

theorem all_no {l : List Seg} {s u : ByteArray} (h : allOkB l s u = false) : allState l s u = ⟨#[]⟩ ∧ allLoad l s u = ⟨#[]⟩ := by
  unfold allState allLoad
  rw [if_neg (by rw [h]; decide), if_neg (by rw [h]; decide)]
  exact ⟨rfl, rfl⟩
theorem runT_take {l : List Seg} (T : List Nat) (js : List Nat) {k : Nat} (hk : k < js.length) : runT l T (js.take (k + 1)) = needT (runT l T (js.take k)) (rp l js[k]) ∧ runL l T (js.take (k + 1)) = runL l T (js.take k) ++ loadT (runT l T (js.take k)) (rp l js[k]) := by
  rw [List.take_succ_eq_append_getElem hk]
  exact ⟨runT_snoc l _ T _, runL_snoc l _ T _⟩

theorem isB_lower {T e : TypeId} {B B' b : Nat} {bs : List Value} {W : World} (h : Lib.IsBuilderF T e B b bs W) (hB : B' ≤ B) : Lib.IsBuilderF T e B' b bs W := by
  have at_ : ∀ p, Lib.BuilderAtF T e B b p bs W → Lib.BuilderAtF T e B' b p bs W := fun p hp => by
    obtain ⟨h1, v, h2, h3, h4⟩ := hp
    refine ⟨Nat.le_trans hB h1, v, h2, ⟨h3.1, ?_⟩, h4⟩
    rcases h3.2 with h5 | ⟨g, cap, cur, fz, hv, hg, hh, r⟩
    · exact .inl h5
    · exact .inr ⟨g, cap, cur, fz, hv, Nat.le_trans hB hg, hh, r⟩
  exact h.elim (fun x => .inl (at_ _ x)) (fun x => .inr (at_ _ x))

set_option maxRecDepth 100000 in
set_option maxHeartbeats 2000000 in
theorem needAll_found (A : Option Addr) (l : List Seg) (c : Nat) (s u : ByteArray) (w : World) (hw : Segs w w.heap.size A l) (hl : l.length ≤ 1048576) (hlc : l.length ≤ c) (hcm : c ≤ 9223372036854775807) (hn : Short l) (hok : allOkB l s u = true) :
    Calls Try.prog 25 #[.slice A l.length c, .string s, .string u] w fun e w' => e = .returned (.tuple #[.string (allState l s u), .string (allLoad l s u), .bool true]) ∧ Below w.heap.size w w' := by
  have HW : Hid (Segs w w.heap.size A l) := hw
  have hst : stOk l s = true ∧ u.size ≤ 60 ∧ namedOk l u.data.toList = true := by
    unfold allOkB at hok
    simp only [Bool.and_eq_true, decide_eq_true_eq] at hok
    exact ⟨hok.1.1, hok.1.2, hok.2⟩
  obtain ⟨hs1, hu60, hnm⟩ := hst
  obtain ⟨hv, hT, hTn⟩ := stT_state hs1
  have HE : Hid (allState l s u = namesAt l (runT l (stT l s) (namedJs l u.data.toList)) ∧ allLoad l s u = namesAt l (runL l (stT l s) (namedJs l u.data.toList))) := by
    unfold allState allLoad
    rw [if_pos hok, if_pos hok]
    exact ⟨rfl, rfl⟩
  have HV := Lib.hid hv
  have HT : Hid (IsState l (stT l s)) := hT
  have HD : Hid (Down l l.length) := (valid_all hv).1.down
  have h8 := (valid_all hv).2.1
  have HJ := Lib.hid (namedJs_lt hnm)
  have hjl : (namedJs l u.data.toList).length ≤ 60 := by
    unfold namedJs
    rw [List.length_map]
    simpa using hu60
  have HS := Lib.hid hs1
  have HNM := Lib.hid hnm
  have hdu : decide ((60 : Int) < (u.size : Int)) = false := decide_eq_false (by omega)
  clear hw hok hs1 hnm hv hT hTn
  go_enter Try.func25, Try.ntmps25
  go_wp2_with fail
  refine (nodesOf_any _ _ _ _ HW.out hl hlc hcm hn HV.out).mono ?_
  rintro e w1 ⟨g, nb, cv, rfl, hN, hb1⟩
  have HN := Lib.hid hN
  have HB1 := Lib.hid hb1
  clear hN hb1
  go_wp2_with fail
  refine (findState_any _ _ _ _ _ _ _ HN.out HV.out).mono ?_
  rw [HS.out]
  unfold bitsV bitCells
  rintro e w2 ⟨rfl, hb2⟩
  have HB2 := Lib.hid hb2
  clear hb2
  go_wp2_with fail
  have HB2a : Hid (Below w1.heap.size w1 (w2.alloc (.cells (bitCells (inT (stT l s))) 64))) := HB2.out.alloc HB2.out.size _
  refine (nodesNamed_any _ _ _ _ _ u _ (HN.out.below HB2a.out) HV.out (by omega)).mono ?_
  rintro e w3 (⟨_, v, rfl, hown, hb3⟩ | ⟨hok, _, _⟩)
  · obtain ⟨a, c', rfl⟩ : ∃ a c', v = .slice a (namedJs l u.data.toList).length c' := by
      rcases hown.2 with ⟨e1, e2⟩ | ⟨q, cap, _, e1, _⟩
      · exact ⟨none, 0, by rw [e1, e2]⟩
      · exact ⟨_, _, e1⟩
    have HO := Lib.hid hown
    have hR3 : Row w3 w2.heap.size 64 (bitCells (inT (stT l s))) := (Row.new w2 _ _).below hb3 (by simp)
    have HR3 := Lib.hid hR3
    have HB3 := Lib.hid (HB2a.out.trans (hb3.mono HB2a.out.size))
    have h23 : w2.heap.size + 1 ≤ w3.heap.size := by have := hb3.size; simpa using this
    clear hown hb3 hR3
    generalize namedJs l u.data.toList = js at *
    go_wp2_with fail
    have hBw : Below w3.heap.size w3 (w3.alloc (.cells #[.pointer none, .slice none 0 0] 90)) := (Below.refl _ w3).alloc (Nat.le_refl _) _
    refine (needsFor_any _ _ _ _ _ _ _ _ _ _ (HN.out.below (HB3.out.trans (hBw.mono HB3.out.size))) HV.out HJ.out (by omega) (HO.out.alloc _)).mono ?_
    rintro e w4 ⟨fv, rfl, hown4, hb4⟩
    have hI4 : Lib.IsBuilderF 90 5 w3.heap.size w3.heap.size [] (w3.alloc (.cells #[.pointer none, .slice none 0 0] 90)) := Lib.IsBuilderF.of (Lib.fresh_isBuilder _ _ w3)
    have h34 : w3.heap.size + 1 ≤ w4.heap.size := by have := hb4.size; simpa using this
    have h12 := HB2.out.size
    have hG4 : Going w1 w2.heap.size w3.heap.size fv (js.map (needV l)) (stT l s) [] w4 := by
      have hI5 := isB_own _ _ _ _ 0 (fun _ : List Unit => ([] : List Value)) [] _ w4 none hI4 (grownBy_of_below hb4) (fun r e => by cases e)
      refine ⟨(HR3.out.alloc _).below hb4 (by simp; omega), ?_, ?_, (HB3.out.trans (hBw.mono HB3.out.size)).trans (hb4.mono (by simp; have := HB3.out.size; omega)), by omega, by omega, by omega⟩
      · exact isB_lower hI5 (by omega)
      · rw [List.length_map]
        exact World.ownsRow.mono hown4 (by simp; omega)
    have HG := Lib.hid hG4
    obtain ⟨a4, c4, rfl⟩ : ∃ a4 c4, fv = .slice a4 js.length c4 := by
      rcases hown4.2 with ⟨e1, e2⟩ | ⟨q, cap, _, e1, _⟩
      · exact ⟨none, 0, by rw [e1, e2]⟩
      · exact ⟨_, _, e1⟩
    clear hown4 hb4 hI4 hG4 hBw
    go_wp2
    go_loopw [44] (fun i wr => ∃ k : Nat, k ≤ js.length ∧ i = .int .i64 k ∧ Hid (Going w1 w2.heap.size w3.heap.size (.slice a4 js.length c4) (js.map (needV l)) (runT l (stT l s) (js.take k)) (Lib.byteCells (namesAt l (runL l (stT l s) (js.take k))).data.toList) wr))
      (fun i _ => js.length - (intOf i).toNat)
    case atStart => exact ⟨0, Nat.zero_le _, rfl, HG⟩
    case round =>
      obtain ⟨k, hk, rfl, HGk⟩ := hrel
      clear HG
      have hk0 : (0 : Int) ≤ (k : Int) := Int.natCast_nonneg _
      by_cases hlt : k < js.length
      · have hlt' : (k : Int) < (js.length : Int) := by omega
        have hw3r : w3.heap.size < wr.heap.size := by
          obtain ⟨cb, hcb⟩ := builder_cells HGk.out.text
          exact (Array.getElem?_eq_some_iff.1 hcb).1
        have hfn := HGk.out.funcs
        rw [List.length_map] at hfn
        obtain ⟨q, cap, hq⟩ := own_form hfn (by omega)
        injection hq with hq1 _ hq3
        subst hq1
        subst hq3
        have hc : wr.cell? ⟨q, k, none⟩ = some (needV l js[k]) := by
          rw [hfn.cellAt k (by omega)]
          simp [hlt]
        clear hfn
        obtain ⟨⟨d0, d1, d2, d3⟩, d4, d5, d6, d7⟩ := bits_cells HGk.out.held
        obtain ⟨hRT, hRL⟩ := runT_take (l := l) (stT l s) js hlt
        have hTk : IsState l (runT l (stT l s) (js.take k)) := runT_state _ HT.out (fun j hj => HJ.out j (List.mem_of_mem_take hj))
        have hjl' := HJ.out js[k] (List.getElem_mem hlt)
        have hln := runL_lt HD.out (js.take k) HT.out (fun j hj => HJ.out j (List.mem_of_mem_take hj))
        have hzL : (namesAt l (runL l (stT l s) (js.take k))).size ≤ 480 := by
          rw [names_size HV.out hln.1]
          refine Nat.le_trans hln.2 ?_
          refine Nat.le_trans (Nat.mul_le_mul h8 (List.length_take_le k js)) ?_
          omega
        clear hln
        generalize js[k] = j at *
        have hPj : IsState l (rp l j) := .inr ⟨j, hjl', rfl⟩
        have hU := needT_state hTk hPj
        have HP8 : Hid (∀ x ∈ rp l j, x < 8) := fun x hx => by have := rootPath_lt HD.out _ _ hjl' x hx; omega
        have HLo : Hid ((lessT (needT (runT l (stT l s) (js.take k)) (rp l j)) (runT l (stT l s) (js.take k))).Pairwise (· < ·) ∧ ∀ x ∈ lessT (needT (runT l (stT l s) (js.take k)) (rp l j)) (runT l (stT l s) (js.take k)), x < l.length) := ⟨less_asc (hU.asc HD.out), less_lt (hU.lt HD.out)⟩
        have hzl : (namesAt l (lessT (needT (runT l (stT l s) (js.take k)) (rp l j)) (runT l (stT l s) (js.take k)))).size ≤ 8 := by
          rw [names_size HV.out HLo.out.2]
          have := load_len hTk hPj
          unfold loadT at this
          omega
        have HRT := Lib.hid hRT
        have HRL : Hid (Lib.byteCells (namesAt l (runL l (stT l s) (js.take (k + 1)))).data.toList = Lib.byteCells (namesAt l (runL l (stT l s) (js.take k))).data.toList ++ Lib.strCells (namesAt l (lessT (needT (runT l (stT l s) (js.take k)) (rp l j)) (runT l (stT l s) (js.take k))))) := by
          show _ = _
          rw [hRL, names_append, ByteArray.data_append, Array.toList_append]
          simp [Lib.byteCells, Lib.strCells, loadT]
        clear hRT hRL hU hPj hTk
        generalize runT l (stT l s) (js.take k) = Tk at *
        generalize namesAt l (runL l (stT l s) (js.take k)) = Lk at *
        have HM := Lib.hid (fun W => meet_any Tk (rp l j) W HP8.out)
        have HLS := Lib.hid (fun W => lessIn_any (needT Tk (rp l j)) Tk W)
        have HNS := Lib.hid (fun W hW => namesIn_any w.heap.size g l nb cv (lessT (needT Tk (rp l j)) Tk) W hW HV.out HLo.out.1 HLo.out.2)
        unfold needV at hc
        unfold bitsV bitCells at hc HM HLS HNS
        go_wp2_with fail
        refine (HM.out _).mono ?_
        rintro e w5 ⟨rfl, hb5⟩
        have hG5 := (HGk.out.below' hb5).below' ((Below.refl _ w5).alloc (Nat.le_refl _) (.cells (bitCells (inT (needT Tk (rp l j)))) 64))
        have hr5 : Row (w5.alloc (.cells (bitCells (inT (needT Tk (rp l j)))) 64)) w5.heap.size 64 (bitCells (inT (needT Tk (rp l j)))) := Row.new _ _ _
        have hzw := hb5.size
        have HG5 := Lib.hid hG5
        have HR5 := Lib.hid hr5
        clear d0 d1 d2 d3 d4 d5 d6 d7 hc hb5 hG5 hr5
        obtain ⟨⟨d0, d1, d2, d3⟩, d4, d5, d6, d7⟩ := bits_cells HG5.out.held
        unfold bitCells at d0 d1 d2 d3 d4 d5 d6 d7
        go_wp2_with fail
        refine (HLS.out _).mono ?_
        rintro e w6 ⟨rfl, hb6⟩
        have HG6 := Lib.hid (HG5.out.below' hb6)
        have HR6 := Lib.hid (HR5.out.below hb6 HR5.out.lt)
        clear d0 d1 d2 d3 d4 d5 d6 d7 hb6 HG5 HR5
        go_wp2_with fail
        refine (HNS.out _ (HN.out.below HG6.out.below)).mono ?_
        rintro e w7 ⟨rfl, hb7⟩
        have HG7 := Lib.hid (HG6.out.below' hb7)
        have HR7 := Lib.hid (HR6.out.below hb7 HR6.out.lt)
        have hzw7 := HG7.out.below.size
        clear hb7 HG6 HR6
        have hLkz : (Lib.byteCells Lk.data.toList).length = Lk.size := by simp [Lib.byteCells]
        generalize namesAt l (lessT (needT Tk (rp l j)) Tk) = nm at *
        go_wp2_with fail
        refine (writeString_any w1.heap.size w3.heap.size _ nm _ HG7.out.text (by omega) hzw7).mono ?_
        rintro e w8 ⟨rfl, hI8, hb8, hk8⟩
        have HG8 := Lib.hid (HG7.out.wrote hI8 hb8 hk8)
        have HR8 := Lib.hid (kept_row hk8 HR7.out (by omega) (by decide))
        clear hI8 hb8 hk8 HG7 HR7
        obtain ⟨⟨d0, d1, d2, d3⟩, d4, d5, d6, d7⟩ := bits_cells HG8.out.held
        have hfz := fun j => HG8.out.held.free j
        have z0 := hfz 0
        have z1 := hfz 1
        have z2 := hfz 2
        have z3 := hfz 3
        have z4 := hfz 4
        have z5 := hfz 5
        have z6 := hfz 6
        have z7 := hfz 7
        clear hfz
        obtain ⟨⟨e0, e1, e2, e3⟩, e4, e5, e6, e7⟩ := bits_cells HR8.out
        have HG9 : Hid (Going w1 w2.heap.size w3.heap.size (.slice (some ⟨q, 0, none⟩) js.length c4) (js.map (needV l)) (runT l (stT l s) (js.take (k + 1))) (Lib.byteCells (namesAt l (runL l (stT l s) (js.take (k + 1)))).data.toList) (putBits w8 w2.heap.size (inT (needT Tk (rp l j))))) := by
          show Going _ _ _ _ _ _ _ _
          rw [HRT.out, HRL.out]
          exact HG8.out.put _
        go_wp2
        go_roundw
        case rel => exact ⟨k + 1, by omega, by go_num, HG9⟩
        case measure => simp [intOf]; omega
      · obtain rfl : k = js.length := by omega
        rw [List.take_length] at HGk
        obtain ⟨⟨d0, d1, d2, d3⟩, d4, d5, d6, d7⟩ := bits_cells HGk.out.held
        have hU := runT_state js HT.out HJ.out
        have HNS := Lib.hid (fun W hW => namesIn_any w.heap.size g l nb cv (runT l (stT l s) js) W hW HV.out (hU.asc HD.out) (hU.lt HD.out))
        unfold bitsV bitCells at HNS
        clear hU
        go_wp2_with fail
        refine (HNS.out _ (HN.out.below HGk.out.below)).mono ?_
        rintro e w5 ⟨rfl, hb5⟩
        have HG5 := Lib.hid (HGk.out.below' hb5)
        have hzw5 := HG5.out.below.size
        clear d0 d1 d2 d3 d4 d5 d6 d7 hb5 HGk
        go_wp2_with fail
        refine (Try.Builder_String_any_k w1.heap.size w3.heap.size _ _ HG5.out.text hzw5).mono ?_
        rintro e w6 ⟨rfl, _, hb6, _⟩
        have HB6 := Lib.hid (HB1.out.trans ((HG5.out.below.trans hb6).mono HB1.out.size))
        clear hb6
        go_wp2
        go_ret3
        exact ⟨ret_three HE.out.1.symm HE.out.2.symm rfl, HB6.out⟩
  · rw [HNM.out] at hok
    cases hok

end Go.Proofs.Ytcpiojliakgdlaa

/- impl.NeedAll, all ways; impl.CheapestNeed. -/
namespace Go.Proofs.Ytcpiojliakgdlaa
open Go.RowKit Go.Shelf

set_option maxRecDepth 100000 in
set_option maxHeartbeats 1000000 in
theorem needAll_any (A : Option Addr) (l : List Seg) (c : Nat) (s u : ByteArray) (w : World) (hw : Segs w w.heap.size A l) (hl : l.length ≤ 1048576) (hlc : l.length ≤ c) (hcm : c ≤ 9223372036854775807) (hn : Short l) (hu : u.size ≤ 1048576) :
    Calls Try.prog 25 #[.slice A l.length c, .string s, .string u] w fun e w' => e = .returned (.tuple #[.string (allState l s u), .string (allLoad l s u), .bool (allOkB l s u)]) ∧ Below w.heap.size w w' := by
  cases hok : allOkB l s u with
  | true => exact needAll_found A l c s u w hw hl hlc hcm hn hok
  | false =>
    have HW : Hid (Segs w w.heap.size A l) := hw
    clear hw
    have HE := Lib.hid (all_no hok)
    cases hv : validB l with
    | false =>
      clear hok
      go_enter Try.func25, Try.ntmps25
      go_wp2_with fail
      refine (nodesOf_bad _ _ _ _ HW.out hl hlc hcm hn hv).mono ?_
      rintro e w1 ⟨rfl, hb1⟩
      go_wp2_with fail
      refine (findState_bad _ _).mono ?_
      unfold bitsV bitCells
      rintro e w2 ⟨rfl, hb2⟩
      have B2 := hb1.trans (hb2.mono hb1.size)
      clear hb1 hb2 hv
      go_wp2
      go_ret3
      exact ⟨ret_three HE.out.1.symm HE.out.2.symm rfl, B2.alloc B2.size _⟩
    | true =>
      have HV := Lib.hid hv
      cases hs : stOk l s with
      | false =>
        clear hv hok
        go_enter Try.func25, Try.ntmps25
        go_wp2_with fail
        refine (nodesOf_any _ _ _ _ HW.out hl hlc hcm hn HV.out).mono ?_
        rintro e w1 ⟨g, nb, cv, rfl, hN, hb1⟩
        have HN := Lib.hid hN
        clear hN
        go_wp2_with fail
        refine (findState_any _ _ _ _ _ _ _ HN.out HV.out).mono ?_
        rw [hs]
        unfold bitsV bitCells
        rintro e w2 ⟨rfl, hb2⟩
        have B2 := hb1.trans (hb2.mono hb1.size)
        clear hb1 hb2 hs
        go_wp2
        go_ret3
        exact ⟨ret_three HE.out.1.symm HE.out.2.symm rfl, B2.alloc B2.size _⟩
      | true =>
        by_cases h60 : 60 < u.size
        · clear hv hok
          go_enter Try.func25, Try.ntmps25
          go_wp2_with fail
          refine (nodesOf_any _ _ _ _ HW.out hl hlc hcm hn HV.out).mono ?_
          rintro e w1 ⟨g, nb, cv, rfl, hN, hb1⟩
          have HN := Lib.hid hN
          clear hN
          go_wp2_with fail
          refine (findState_any _ _ _ _ _ _ _ HN.out HV.out).mono ?_
          rw [hs]
          unfold bitsV bitCells
          rintro e w2 ⟨rfl, hb2⟩
          have B2 := hb1.trans (hb2.mono hb1.size)
          clear hb1 hb2 hs
          go_wp2
          go_ret3
          exact ⟨ret_three HE.out.1.symm HE.out.2.symm rfl, B2.alloc B2.size _⟩
        · have HNO : Hid (namedOk l u.data.toList = false) := by
            show _ = _
            unfold allOkB at hok
            rw [hs, decide_eq_true (show u.size ≤ 60 by omega)] at hok
            exact hok
          have hdu : decide ((60 : Int) < (u.size : Int)) = false := decide_eq_false (by omega)
          clear hv hok
          go_enter Try.func25, Try.ntmps25
          go_wp2_with fail
          refine (nodesOf_any _ _ _ _ HW.out hl hlc hcm hn HV.out).mono ?_
          rintro e w1 ⟨g, nb, cv, rfl, hN, hb1⟩
          have HN := Lib.hid hN
          clear hN
          go_wp2_with fail
          refine (findState_any _ _ _ _ _ _ _ HN.out HV.out).mono ?_
          rw [hs]
          unfold bitsV bitCells
          rintro e w2 ⟨rfl, hb2⟩
          have HB2 := Lib.hid hb2
          have HB2a : Hid (Below w1.heap.size w1 (w2.alloc (.cells (bitCells (inT (stT l s))) 64))) := HB2.out.alloc HB2.out.size _
          have HB1 := Lib.hid hb1
          clear hb1 hb2 hs
          go_wp2_with fail
          refine (nodesNamed_any _ _ _ _ _ u _ (HN.out.below HB2a.out) HV.out hu).mono ?_
          rintro e w3 (⟨hno, _⟩ | ⟨_, rfl, hb3⟩)
          · rw [HNO.out] at hno
            cases hno
          · have HB3 := Lib.hid (HB1.out.trans ((HB2a.out.trans (hb3.mono HB2a.out.size)).mono HB1.out.size))
            clear hb3
            go_wp2
            go_ret3
            exact ⟨ret_three HE.out.1.symm HE.out.2.symm rfl, HB3.out⟩

set_option maxRecDepth 100000 in
set_option maxHeartbeats 1000000 in
theorem cheapest_any (A : Option Addr) (l : List Seg) (c : Nat) (s : ByteArray) (w : World) (hw : Segs w w.heap.size A l) (hl : l.length ≤ 1048576) (hlc : l.length ≤ c) (hcm : c ≤ 9223372036854775807) (hn : Short l) :
    Calls Try.prog 33 #[.slice A l.length c, .string s] w fun e w' => e = .returned (.tuple #[.string (cheapStr l s), .bool (cheapOk l s)]) ∧ Below w.heap.size w w' := by
  have HW : Hid (Segs w w.heap.size A l) := hw
  clear hw
  have hno : stOk l s = false → cheapStr l s = ⟨#[]⟩ ∧ cheapOk l s = false := fun hq => by
    unfold cheapStr cheapOk
    rw [if_neg (by rw [hq]; decide)]
    exact ⟨rfl, rfl⟩
  cases hv : validB l with
  | false =>
    have HE := Lib.hid (hno (stOk_bad s hv))
    clear hno
    go_enter Try.func33, Try.ntmps33
    go_wp2_with fail
    refine (nodesOf_bad _ _ _ _ HW.out hl hlc hcm hn hv).mono ?_
    rintro e w1 ⟨rfl, hb1⟩
    go_wp2_with fail
    refine (findState_bad _ _).mono ?_
    unfold bitsV bitCells
    rintro e w2 ⟨rfl, hb2⟩
    have B2 := hb1.trans (hb2.mono hb1.size)
    clear hb1 hb2 hv
    go_wp2
    go_ret2
    exact ⟨ret_two HE.out.1.symm HE.out.2.symm, B2.alloc B2.size _⟩
  | true =>
    have HV := Lib.hid hv
    cases hq : stOk l s with
    | false =>
      have HE := Lib.hid (hno hq)
      clear hno hv
      go_enter Try.func33, Try.ntmps33
      go_wp2_with fail
      refine (nodesOf_any _ _ _ _ HW.out hl hlc hcm hn HV.out).mono ?_
      rintro e w1 ⟨g, nb, cv, rfl, hN, hb1⟩
      have HN := Lib.hid hN
      clear hN
      go_wp2_with fail
      refine (findState_any _ _ _ _ _ _ _ HN.out HV.out).mono ?_
      rw [hq]
      unfold bitsV bitCells
      rintro e w2 ⟨rfl, hb2⟩
      have B2 := hb1.trans (hb2.mono hb1.size)
      clear hb1 hb2 hq
      go_wp2
      go_ret2
      exact ⟨ret_two HE.out.1.symm HE.out.2.symm, B2.alloc B2.size _⟩
    | true =>
      obtain ⟨_, hT, hTn⟩ := stT_state hq
      have h8 := (valid_all hv).2.1
      have HE := Lib.hid (best_end s hq)
      have HC := Lib.hid (fun i hi => loadCost_at hq (i := i) hi)
      have HS : Hid (IsState l (stT l s)) := hT
      have HQ := Lib.hid hq
      clear hno hv hq hT hTn
      go_enter Try.func33, Try.ntmps33
      go_wp2_with fail
      refine (nodesOf_any _ _ _ _ HW.out hl hlc hcm hn HV.out).mono ?_
      rintro e w1 ⟨g, nb, cv, rfl, hN, hb1⟩
      have HN := Lib.hid hN
      have HB1 := Lib.hid hb1
      clear hN hb1
      go_wp2_with fail
      refine (findState_any _ _ _ _ _ _ _ HN.out HV.out).mono ?_
      rw [HQ.out]
      unfold bitsV bitCells
      rintro e w2 ⟨rfl, hb2⟩
      generalize stT l s = T at *
      have hR2 : Row (w2.alloc (.cells (bitCells (inT T)) 64)) w2.heap.size 64 (bitCells (inT T)) := Row.new _ _ _
      have hB2 : Below w1.heap.size w1 (w2.alloc (.cells (bitCells (inT T)) 64)) := hb2.alloc hb2.size _
      have HR2 := Lib.hid hR2
      have HB2 := Lib.hid hB2
      have h12 := hb2.size
      clear hR2 hB2 hb2
      go_wp2
      go_loopw [9, 10, 26] (fun v a i wr => ∃ k : Nat, k ≤ l.length ∧ i = .int .i64 k ∧ v = .string (bestNm l T k) ∧ a = .int .i64 (bestCost l T k) ∧ Hid (Row wr w2.heap.size 64 (bitCells (inT T))) ∧ Hid (Below w1.heap.size w1 wr))
        (fun _ _ i _ => l.length - (intOf i).toNat)
      case atStart => exact ⟨0, Nat.zero_le _, rfl, rfl, rfl, HR2, HB2⟩
      case round =>
        obtain ⟨k, hk, rfl, rfl, rfl, HR, HB⟩ := hrel
        clear HR2 HB2
        have hk0 : (0 : Int) ≤ (k : Int) := Int.natCast_nonneg _
        by_cases hlt : k < l.length
        · have hlt' : (k : Int) < (l.length : Int) := by omega
          have hk8 : (k : Int) < 8 := by omega
          obtain ⟨cs, hrow, _, hci⟩ := HN.out.row
          have gk : wr.cell? ⟨g, k, none⟩ = some (.pointer (some ⟨nb k, 0, none⟩)) := by
            rw [HB.out.cell (p := ⟨g, k, none⟩) hrow.lt, hrow.cell]
            exact hci k hlt
          have hnk := HN.out.node k _ hlt (List.getElem?_eq_getElem hlt)
          have hnl := hnk.lt
          have HNM : Hid (l[k].name = namesAt l [k]) := by
            show _ = _
            rw [(nmAt_one HV.out hlt).2]
            show _ = (⟨([k].flatMap (nmAt l)).toArray⟩ : ByteArray)
            rw [List.flatMap_cons, (nmAt_one HV.out hlt).1]
            rfl
          have nk0 := (HB.out.cell (p := ⟨nb k, 0, none⟩) hnl).trans (hnk.cell 0)
          have nk : wr.cell? ⟨nb k, 0, none⟩ = some (.string (namesAt l [k])) := by
            rw [← HNM.out]
            exact nk0
          have HCk := Lib.hid (HC.out k hlt)
          have hbc := best_cost HV.out HS.out hk
          clear hrow hci hnk nk0
          by_cases hm : k ∈ T
          · have hc : wr.cell? ⟨w2.heap.size, k, none⟩ = some (.bool true) := by
              rw [HR.out.cell, bits_at _ (by omega)]
              unfold inT
              rw [decide_eq_true hm]
            have HBst := Lib.hid (best_in (l := l) hm)
            clear hm
            go_wp2
            go_roundw
            case rel => exact ⟨k + 1, by omega, by go_num, by rw [HBst.out.1], by rw [HBst.out.2], HR, HB⟩
            case measure => simp [intOf]; omega
          · have hc : wr.cell? ⟨w2.heap.size, k, none⟩ = some (.bool false) := by
              rw [HR.out.cell, bits_at _ (by omega)]
              unfold inT
              rw [decide_eq_false hm]
            obtain ⟨n1, n2⟩ := nCost_out HV.out HS.out hlt hm
            have HBO := Lib.hid (best_out HV.out hlt hm)
            have hsw : Segs wr wr.heap.size A l := (HW.out.below (HB1.out.trans (HB.out.mono HB1.out.size))).more (Nat.le_trans HB1.out.size HB.out.size)
            clear hm
            go_wp2_with fail
            refine (loadCost_any _ _ _ _ _ _ hsw hl hlc hcm hn).mono ?_
            rw [HCk.out]
            rintro e w3 ⟨rfl, hb3⟩
            have HR3 := Lib.hid (HR.out.below hb3 HR.out.lt)
            have HB3 := Lib.hid (HB.out.trans (hb3.mono HB.out.size))
            have hnlr : nb k < wr.heap.size := Nat.lt_of_lt_of_le hnl HB.out.size
            have nk3 : w3.cell? ⟨nb k, 0, none⟩ = some (.string (namesAt l [k])) := (hb3.cell (p := ⟨nb k, 0, none⟩) hnlr).trans nk
            clear hsw hb3 nk gk hc
            rcases HBO.out with ⟨e1, e2, e3⟩ | ⟨c', e1, e2, e3⟩
            · have HX2 := Lib.hid e2
              have HX3 := Lib.hid e3
              have HX1 : Hid (Value.string (bestNm l T k) = .string ⟨#[]⟩) := congrArg Value.string e1
              clear e1 e2 e3 HBO
              rw [HX1.out]
              generalize nCost l T k = n at *
              generalize namesAt l [k] = nm at *
              go_wp2
              go_roundw
              case rel => exact ⟨k + 1, by omega, by go_num, by rw [HX2.out], by rw [HX3.out], HR3, HB3⟩
              case measure => simp [intOf]; omega
            · by_cases hlt2 : nCost l T k < bestCost l T k
              · obtain ⟨f1, f2⟩ := e2 hlt2
                have HX2 := Lib.hid f1
                have HX3 := Lib.hid f2
                have HX1 : Hid (Value.string (bestNm l T k) = .string ⟨#[c']⟩) := congrArg Value.string e1
                clear e1 e2 e3 f1 f2 HBO
                rw [HX1.out]
                generalize nCost l T k = n at *
                generalize bestCost l T k = m at *
                generalize namesAt l [k] = nm at *
                go_wp2
                go_roundw
                case rel => exact ⟨k + 1, by omega, by go_num, by rw [HX2.out], by rw [HX3.out], HR3, HB3⟩
                case measure => simp [intOf]; omega
              · obtain ⟨f1, f2⟩ := e3 (by omega)
                have HX2 := Lib.hid f1
                have HX3 := Lib.hid f2
                have HX1 : Hid (Value.string (bestNm l T k) = .string ⟨#[c']⟩) := congrArg Value.string e1
                clear e1 e2 e3 f1 f2 HBO
                rw [HX1.out]
                generalize nCost l T k = n at *
                generalize bestCost l T k = m at *
                generalize namesAt l [k] = nm at *
                go_wp2
                go_roundw
                case rel => exact ⟨k + 1, by omega, by go_num, by rw [HX2.out, HX1.out], by rw [HX3.out], HR3, HB3⟩
                case measure => simp [intOf]; omega
        · obtain rfl : k = l.length := by omega
          have HE2 : Hid (cheapOk l s = decide (bestNm l T l.length ≠ ⟨#[]⟩)) := HE.out.2
          have HE1 : Hid (cheapStr l s = bestNm l T l.length) := HE.out.1
          have HBB := Lib.hid (HB1.out.trans (HB.out.mono HB1.out.size))
          generalize bestNm l T l.length = nm at *
          by_cases hnm : nm = ⟨#[]⟩
          · subst hnm
            go_wp2
            go_ret2
            exact ⟨ret_two HE1.out.symm (by rw [HE2.out]; rfl), HBB.out⟩
          · have hne : nm.toList ≠ [] := toList_ne (Nat.pos_of_ne_zero fun e => hnm (str_empty e))
            have hne2 : (nm.toList == []) = false := by simp [hne]
            have HT : Hid (cheapOk l s = true) := by
              show _ = _
              rw [HE2.out, decide_eq_true hnm]
            clear hnm HE2 HE
            go_wp2
            go_ret2
            exact ⟨ret_two HE1.out.symm HT.out.symm, HBB.out⟩

end Go.Proofs.Ytcpiojliakgdlaa
/- The walk of the law FnNeedAll. -/
namespace Go.Proofs.Ytcpiojliakgdlaa
open Go.RowKit

theorem bytes_later3 {w w' : World} {A : Option Addr} {m : Nat} (h : ∀ b, w.heap.size ≤ b → Bytes w b A m) (hb : Below w.heap.size w w') : ∀ b, w'.heap.size ≤ b → Bytes w' b A m := fun b hbb h0 => by
  have hz := hb.size
  obtain ⟨g, o, rfl, hne, hlt, hx⟩ := h b (by omega) h0
  refine ⟨g, o, rfl, hne, by omega, fun i hi => ?_⟩
  obtain ⟨x, hc, hx2⟩ := hx i hi
  exact ⟨x, (hb.cell (p := ⟨g, o + i, none⟩) hlt).trans hc, hx2⟩

set_option maxRecDepth 100000 in
set_option maxHeartbeats 16000000 in
theorem needAllLaw_any (hgood : GoodSaid) (A0 : Option Addr) (n c0 : Nat) (A2 : Option Addr) (n2 c2 : Nat) (w : World) (hn : n ≤ c0) (hm : n ≤ maxLen) (hx : ∀ b, w.heap.size ≤ b → Bytes w b A0 n) (hn2 : n2 ≤ c2) (hm2 : n2 ≤ maxLen) (hx2 : ∀ b, w.heap.size ≤ b → Bytes w b A2 n2) :
    Calls Try.prog 4 #[.slice A0 n c0, .slice A2 n2 c2] w fun e w' => e = .returned (.bool true) ∧ Below w.heap.size w w' := by
  unfold maxLen at hm hm2
  by_cases hbig : 1048576 < n
  · clear hx hx2 hgood
    go_enter Try.func4, Try.ntmps4
    go_wp2
    go_ret
    exact ⟨rfl, Below.refl _ _⟩
  by_cases hbig2 : 1048576 < n2
  · clear hx hx2 hgood
    go_enter Try.func4, Try.ntmps4
    go_wp2
    go_ret
    exact ⟨rfl, Below.refl _ _⟩
  have HD := Lib.hid (drawNeedAll3 hgood A0 n c0 w hn hx)
  have HD2 := Lib.hid (fun w' (hb : Below w.heap.size w w') => drawCostOf3 hgood A2 n2 c2 w' hn2 (bytes_later3 hx2 hb))
  clear hx hx2 hgood
  go_enter Try.func4, Try.ntmps4
  go_wp2_with fail
  refine Calls.mono HD.out ?_
  rintro e w1 ⟨A, l, c, s, u, rfl, ⟨hs1, ⟨hl9, hlc, hcm⟩, hnm⟩, hsz, huz, hb1⟩
  have hsh : Short l := fun x hx => by have := hnm x hx; unfold maxLen; omega
  have hs' : s.size ≤ 1048576 := by omega
  have hu' : u.size ≤ 1048576 := by omega
  have HNI := Lib.hid (fun W h => needAll_any A l c s u W h (by omega) hlc hcm hsh hu')
  have HNS := Lib.hid (fun W h => specAll_any A l c s u W h (by omega) hsh hs' hu')
  have HQ := Lib.hid (fun x y W h => needOf_any A l c x y W h (by omega) hlc hcm hsh)
  have HLC := Lib.hid (fun x y W h => loadCost_any A l c x y W h (by omega) hlc hcm hsh)
  have HCO := Lib.hid (fun W h => costOf_any A l c (allLoad l s u) W h (by omega) hlc hcm hsh (by have := all_small (l := l) s u; omega))
  have HRA := Lib.hid (fun h => runs_all (l := l) (s := s) (u := u) h)
  have HB1 := Lib.hid hb1
  have HW := Lib.hid hs1
  clear hs1 hnm hb1 hsh hs' hu' HD
  obtain ⟨ok, HOK⟩ : ∃ x, Hid (allOkB l s u = x) := ⟨_, rfl⟩
  obtain ⟨S, HS⟩ : ∃ x, Hid (allState l s u = x) := ⟨_, rfl⟩
  obtain ⟨L, HL⟩ : ∃ x, Hid (allLoad l s u = x) := ⟨_, rfl⟩
  rw [HOK.out, HS.out, HL.out] at HNI HNS
  rw [HL.out] at HCO
  go_wp2_with fail
  refine Calls.mono (HNI.out w1 HW.out) ?_
  rintro e w2 ⟨rfl, hb2⟩
  have HB2 : Hid (Below w.heap.size w w2) := HB1.out.trans (hb2.mono HB1.out.size)
  have HW := Lib.hid ((HW.out.below hb2).more hb2.size)
  clear hb2 HB1 HNI
  go_wp2_with fail
  refine Calls.mono (HNS.out w2 HW.out) ?_
  rintro e w3 ⟨rfl, hb3⟩
  have HB3 : Hid (Below w.heap.size w w3) := HB2.out.trans (hb3.mono HB2.out.size)
  have HW := Lib.hid ((HW.out.below hb3).more hb3.size)
  clear hb3 HB2 HNS
  go_wp2_with fail
  refine Calls.mono (HD2.out w3 HB3.out) ?_
  rintro e w4 ⟨B, t, d, x, rfl, ⟨hs4, ⟨ht9, htd, hdm⟩, htn⟩, hxz, hb4⟩
  have HB4 : Hid (Below w.heap.size w w4) := HB3.out.trans (hb4.mono HB3.out.size)
  have HW := Lib.hid ((HW.out.below hb4).more hb4.size)
  have HV := Lib.hid hs4
  have hth : Short t := fun x hx => by have := htn x hx; unfold maxLen; omega
  have hx' : x.size ≤ 1048576 := by omega
  have HCI := Lib.hid (fun W h => costOf_any B t d x W h (by omega) htd hdm hth hx')
  have HCS := Lib.hid (fun W h => specCost_any B t d x W h (by omega) hth hx')
  generalize costB t x = ct at *
  clear hb4 HB3 hs4 htn hth hx' HD2
  cases ok with
  | false =>
    go_wp2_with fail
    refine Calls.mono (HCI.out w4 HV.out) ?_
    rintro e w5 ⟨rfl, hb5⟩
    have HB5 : Hid (Below w.heap.size w w5) := HB4.out.trans (hb5.mono HB4.out.size)
    have HW := Lib.hid ((HW.out.below hb5).more hb5.size)
    have HV := Lib.hid ((HV.out.below hb5).more hb5.size)
    clear hb5 HB4
    go_wp2_with fail
    refine Calls.mono (HCS.out w5 HV.out) ?_
    rintro e w6 ⟨rfl, hb6⟩
    have HB6 : Hid (Below w.heap.size w w6) := HB5.out.trans (hb6.mono HB5.out.size)
    have HW := Lib.hid ((HW.out.below hb6).more hb6.size)
    have HV := Lib.hid ((HV.out.below hb6).more hb6.size)
    clear hb6 HB5
    go_wp2_with fail
    refine Calls.mono (HCI.out w6 HV.out) ?_
    rintro e w7 ⟨rfl, hb7⟩
    have HB7 : Hid (Below w.heap.size w w7) := HB6.out.trans (hb7.mono HB6.out.size)
    have HW := Lib.hid ((HW.out.below hb7).more hb7.size)
    have HV := Lib.hid ((HV.out.below hb7).more hb7.size)
    clear hb7 HB6
    go_wp2_with fail
    refine Calls.mono (HCS.out w7 HV.out) ?_
    rintro e w8 ⟨rfl, hb8⟩
    have HB8 : Hid (Below w.heap.size w w8) := HB7.out.trans (hb8.mono HB7.out.size)
    have HW := Lib.hid ((HW.out.below hb8).more hb8.size)
    have HV := Lib.hid ((HV.out.below hb8).more hb8.size)
    clear hb8 HB7
    go_wp2
    go_ret
    exact ⟨rfl, HB8.out⟩
  | true =>
    obtain ⟨st, sm, hst0, hsm0, hstep, hbd, hfin, hcost⟩ := HRA.out HOK.out
    rw [HS.out] at hfin
    rw [HL.out] at hcost
    rw [← hcost] at HCO
    have HST := Lib.hid hstep
    have HBD := Lib.hid hbd
    clear hstep hbd hcost HOK HS HL HRA
    go_wp2_with fail
    refine Calls.mono (HCI.out w4 HV.out) ?_
    rintro e w5 ⟨rfl, hb5⟩
    have HB5 : Hid (Below w.heap.size w w5) := HB4.out.trans (hb5.mono HB4.out.size)
    have HW := Lib.hid ((HW.out.below hb5).more hb5.size)
    have HV := Lib.hid ((HV.out.below hb5).more hb5.size)
    clear hb5 HB4
    go_wp2_with fail
    refine Calls.mono (HCS.out w5 HV.out) ?_
    rintro e w6 ⟨rfl, hb6⟩
    have HB6 : Hid (Below w.heap.size w w6) := HB5.out.trans (hb6.mono HB5.out.size)
    have HW := Lib.hid ((HW.out.below hb6).more hb6.size)
    have HV := Lib.hid ((HV.out.below hb6).more hb6.size)
    clear hb6 HB5
    clear HV HCI HCS
    go_wp2
    go_loopw [16, 17, 108] (fun x m i wr => ∃ k : Nat, k ≤ u.size ∧ i = .int .i64 k ∧ x = .string (st k) ∧ m = .int .i64 (sm k) ∧ Hid (Segs wr wr.heap.size A l) ∧ Hid (Below w.heap.size w wr))
      (fun _ _ i _ => u.size - (intOf i).toNat)
    case atStart => exact ⟨0, Nat.zero_le _, rfl, by rw [hst0], by rw [hsm0], HW, HB6⟩
    case round =>
      obtain ⟨k, hk, rfl, rfl, rfl, HSr, HBr⟩ := hrel
      clear HW HB6
      by_cases hlt : k < u.size
      · have hlt' : (k : Int) < (u.size : Int) := by omega
        have hlt'' : (k : Int) + 1 ≤ (u.size : Int) := by omega
        have hkk : (k : Int) ≤ (k : Int) + 1 := by omega
        have hk0 : (0 : Int) ≤ (k : Int) := Int.natCast_nonneg _
        have hk1 : (0 : Int) ≤ (k : Int) + 1 := by omega
        have hq : ((k : Int) + 1).toNat = k + 1 := by omega
        have hwk : IntKind.i64.wrap ((k : Int) + 1) = (k : Int) + 1 := IntWalk.i64_in _ (by omega)
        obtain ⟨e1, e2⟩ := HST.out k hlt
        have hb1 := HBD.out k hk
        have hb2 := HBD.out (k + 1) (by omega)
        have HC1 := Lib.hid (fun W h => HQ.out (st k) (u.extract k (k + 1)) W h)
        have HC2 := Lib.hid (fun W h => HLC.out (st k) (u.extract k (k + 1)) W h)
        rw [e1] at HC1
        have hwm : IntKind.i64.wrap (sm k + loadCostB l (st k) (u.extract k (k + 1))) = sm (k + 1) := by rw [e2]; exact IntWalk.i64_in _ (by omega)
        clear HQ HLC HST HBD e1 e2
        generalize loadCostB l (st k) (u.extract k (k + 1)) = lc at *
        generalize loadStr l (st k) (u.extract k (k + 1)) = ls at *
        generalize needOk l (st k) (u.extract k (k + 1)) = no at *
        go_wp2_with fail
        refine Calls.mono (HC1.out wr HSr.out) ?_
        rintro e wa ⟨rfl, hba⟩
        have HSa := Lib.hid ((HSr.out.below hba).more hba.size)
        have HBa := Lib.hid (HBr.out.trans (hba.mono HBr.out.size))
        clear hba HC1 HSr HBr
        go_wp2_with fail
        refine Calls.mono (HC2.out wa HSa.out) ?_
        rintro e wb ⟨rfl, hbb⟩
        have HSb := Lib.hid ((HSa.out.below hbb).more hbb.size)
        have HBb := Lib.hid (HBa.out.trans (hbb.mono HBa.out.size))
        clear hbb HC2 HSa HBa
        go_wp2
        go_roundw
        case rel => exact ⟨k + 1, by omega, by go_num, rfl, rfl, HSb, HBb⟩
        case measure => simp [intOf]; omega
      · obtain rfl : k = u.size := by omega
        clear HQ HLC HST HBD
        rw [hfin]
        go_wp2_with fail
        refine Calls.mono (HCO.out wr HSr.out) ?_
        rintro e wa ⟨rfl, hba⟩
        have HBa := Lib.hid (HBr.out.trans (hba.mono HBr.out.size))
        clear hba HCO HSr HBr
        go_wp2
        go_ret
        exact ⟨rfl, HBa.out⟩

end Go.Proofs.Ytcpiojliakgdlaa
/- All states, and the cheapest need: what the law FnStates asks; plain. -/
namespace Go.Proofs.Ytcpiojliakgdlaa
open Go.RowKit

theorem cut_at3 {l : List Seg} (hv : validB l = true) {js : List Nat} (hj : ∀ j ∈ js, j < l.length) {i : Nat} (hi : i < js.length) : (namesAt l js).extract i (i + 1) = namesAt l [js[i]] := by
  have hm : ∀ j ∈ [js[i]], j < l.length := fun j h => by
    rw [List.mem_singleton.1 h]
    exact hj _ (List.getElem_mem hi)
  apply ByteArray.ext
  apply Array.ext'
  rw [namesAt_map hv _ hm]
  have e4 : ((namesAt l js).extract i (i + 1)).data.toList = (((namesAt l js).data.toList).drop i).take 1 := by
    simp [ByteArray.data_extract]
  rw [e4, namesAt_map hv _ hj, ← List.map_drop, List.drop_eq_getElem_cons hi]
  rfl
theorem namesStr_at3 {l : List Seg} (hv : validB l = true) : namesStr l = namesAt l (List.range l.length) := by
  apply WideShapes.bytes_inj
  have h1 : namesStr l = seenOf l l.length := if_pos hv
  rw [h1, ← range_names l l.length (Nat.le_refl _)]
  rfl
theorem name_cut3 {l : List Seg} (hv : validB l = true) {k : Nat} (hk : k < l.length) : (namesStr l).extract k (k + 1) = namesAt l [k] := by
  rw [namesStr_at3 hv, cut_at3 hv (fun j hj => List.mem_range.1 hj) (by simpa using hk)]
  simp
theorem name_size3 {l : List Seg} (hv : validB l = true) : (namesStr l).size = l.length := by
  rw [namesStr_at3 hv, names_size hv (fun j hj => List.mem_range.1 hj), List.length_range]

theorem states_all3 {l : List Seg} {p : ByteArray} (h : p ∈ statesB l) : stOk l p = true ∧ costB l p ≤ roomB l ∧ p.size ≤ 9 := by
  unfold statesB at h
  split at h
  · rename_i hv
    have hd := (valid_all hv).1.down
    have h8 := (valid_all hv).2.1
    have hr : roomB l = roomTo l l.length := if_pos hv
    unfold stTexts at h
    rcases List.mem_cons.1 h with rfl | h
    · have h1 := stT_names hv (.inl rfl : IsState l [])
      have h2 := costB_names hv (js := []) (fun j hj => by cases hj)
      have h3 : szs l [] = 0 := rfl
      have h4 := (roomTo_bd hv l.length (Nat.le_refl _)).1
      have h5 : namesAt l [] = ⟨#[]⟩ := rfl
      rw [h5] at h1 h2
      refine ⟨h1.1, by omega, by decide⟩
    · obtain ⟨i, hi, rfl⟩ := List.mem_map.1 h
      have hi := List.mem_range.1 hi
      have hlt : ∀ j ∈ rp l i, j < l.length := fun j hj => by have := rp_le hd i hi j hj; omega
      have hS : IsState l (rp l i) := .inr ⟨i, hi, rfl⟩
      have h1 := stT_names hv hS
      have h2 := costB_names hv hlt
      have h3 : endAt l i = szs l (rp l i) := rfl
      have h4 := roomTo_le l l.length i hi
      have h5 := names_size hv hlt
      have h6 := state_len hS
      refine ⟨h1.1, by omega, by omega⟩
  · cases h
theorem states_len3 {l : List Seg} (hv : validB l = true) : (statesB l).length = l.length + 1 := by
  unfold statesB
  rw [if_pos hv]
  unfold stTexts
  simp
theorem states_few3 (l : List Seg) : (statesB l).length ≤ 9 := by
  cases hv : validB l with
  | false =>
    have : statesB l = [] := if_neg (by rw [hv]; decide)
    rw [this]
    simp
  | true =>
    have h1 := states_len3 hv
    have h2 := (valid_all hv).2.1
    omega

theorem cheap_least3 {l : List Seg} {T : List Nat} : ∀ (k j : Nat), cheapIx l T k = some j → j ∉ T ∧ ∀ i, i < k → i ∉ T → nCost l T j ≤ nCost l T i
  | 0, _, h => by cases h
  | k + 1, j, h => by
    unfold cheapIx at h
    split at h
    · rename_i hk
      obtain ⟨h1, h2⟩ := cheap_least3 k j h
      refine ⟨h1, fun i hi hn => ?_⟩
      by_cases e : i = k
      · rw [e] at hn; exact absurd hk hn
      · exact h2 i (by omega) hn
    · rename_i hk
      split at h
      · rename_i hno
        injection h with h
        subst h
        refine ⟨hk, fun i hi hn => ?_⟩
        by_cases e : i = k
        · rw [e]; exact Int.le_refl _
        · exact absurd hno (cheap_any3 k i (by omega) hn)
      · rename_i j' hj'
        obtain ⟨h1, h2⟩ := cheap_least3 k j' hj'
        split at h
        · injection h with h
          subst h
          refine ⟨hk, fun i hi hn => ?_⟩
          by_cases e : i = k
          · rw [e]; exact Int.le_refl _
          · have := h2 i (by omega) hn
            omega
        · injection h with h
          subst h
          refine ⟨h1, fun i hi hn => ?_⟩
          by_cases e : i = k
          · rw [e]; omega
          · exact h2 i (by omega) hn
where
  cheap_any3 : ∀ (k i : Nat), i < k → i ∉ T → cheapIx l T k ≠ none
    | 0, i, h, _ => absurd h (by omega)
    | k + 1, i, h, hn => fun hc => by
      unfold cheapIx at hc
      split at hc
      · rename_i hk
        by_cases e : i = k
        · rw [e] at hn; exact hn hk
        · exact cheap_any3 k i (by omega) hn hc
      · split at hc
        · cases hc
        · split at hc <;> cases hc
theorem cheap_says3 {l : List Seg} {s : ByteArray} (h : cheapOk l s = true) : validB l = true ∧ (namesStr l).size = l.length ∧ l.length ≤ 8 ∧ ∀ k, k < l.length → 0 < loadCostB l s ((namesStr l).extract k (k + 1)) → loadCostB l s (cheapStr l s) ≤ loadCostB l s ((namesStr l).extract k (k + 1)) := by
  unfold cheapOk at h
  unfold cheapStr
  by_cases hs : stOk l s = true
  · rw [if_pos hs] at h ⊢
    obtain ⟨hv, hT, -⟩ := stT_state hs
    have hd := (valid_all hv).1.down
    cases hc : cheapIx l (stT l s) l.length with
    | none => rw [hc] at h; cases h
    | some j =>
      have hj := cheapIx_lt l _ _ _ hc
      obtain ⟨h1, h2⟩ := cheap_least3 l.length j hc
      refine ⟨hv, name_size3 hv, (valid_all hv).2.1, fun k hk hp => ?_⟩
      show loadCostB l s (namesAt l [j]) ≤ _
      rw [name_cut3 hv hk, loadCost_at hs hk] at hp ⊢
      rw [loadCost_at hs hj]
      refine h2 k hk fun hm => ?_
      have := nCost_in hd hT hm
      omega
  · rw [if_neg hs] at h; cases h

end Go.Proofs.Ytcpiojliakgdlaa
