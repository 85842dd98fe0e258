/- Joined: Go Ag. -/
import Derived.Test.YtcpiojliakgdlaaU15
import Derived.Test.YtcpiojliakgdlaaU11
import Derived.Test.YtcpiojliakgdlaaU12
import Derived.Test.YtcpiojliakgdlaaU10
import Derived.BigQuiet
/- impl.nodesNamed, sizesTogether, CostOf, LoadCost. -/
namespace Go.Proofs.Ytcpiojliakgdlaa
open Go.RowKit Go.Shelf

/-- The nodes that are named, in a row of the call's own. -/
def NamedPost (w : World) (l : List Seg) (nb : Nat → Nat) (s : ByteArray) (e : Ending) (w' : World) : Prop :=
  ∃ v, e = .returned (.tuple #[v, .bool true]) ∧ w'.ownsRow w.heap.size 72 1 v (namedJs l s.data.toList).length (ptrsOf nb (namedJs l s.data.toList)) ∧ Below w.heap.size w w'

set_option maxRecDepth 100000 in
set_option maxHeartbeats 400000 in
theorem nodesNamed_bad (s : ByteArray) (w : World) (hs : s.size ≤ 1048576) :
    Calls Try.prog 72 #[.slice none 0 0, .string s] w fun e w' => e = .returned (.tuple #[.slice none 0 0, .bool (decide (s.size = 0))]) ∧ w = w' := by
  by_cases h0 : s.size = 0
  · have HD : Hid (decide (s.size = 0) = true) := decide_eq_true h0
    go_enter Try.func72, Try.ntmps72
    go_wp2
    go_loop [6, 11] (fun v i => v = .slice none 0 0 ∧ i = .int .i64 0) (fun _ _ => 0)
    case atStart => exact ⟨rfl, rfl⟩
    case round =>
      obtain ⟨rfl, rfl⟩ := hrel
      go_wp2
      refine bodyPost_ret (v := .tuple #[.slice none 0 0, .bool true]) (by simp [results, Try.results72, go_sem]) rfl ?_
      exact ⟨rfl, rfl⟩
  · have HD : Hid (decide (s.size = 0) = false) := decide_eq_false h0
    have hp : 0 < s.size := by omega
    clear h0
    go_enter Try.func72, Try.ntmps72
    go_wp2
    go_loop [6, 11] (fun v i => v = .slice none 0 0 ∧ i = .int .i64 0) (fun _ _ => 0)
    case atStart => exact ⟨rfl, rfl⟩
    case round =>
      obtain ⟨rfl, rfl⟩ := hrel
      go_wp2_with fail
      refine (findNode_nil _ _).mono ?_
      rintro e w1 ⟨rfl, rfl⟩
      go_wp2
      refine bodyPost_ret (v := .tuple #[.slice none 0 0, .bool false]) (by simp [results, Try.results72, go_sem]) rfl ?_
      exact ⟨by rw [HD.out], rfl⟩

theorem found_byte {l : List Seg} {nb : Nat → Nat} {b : UInt8} (h : 0 ≤ bSeek l b) : foundPtr l nb ⟨#[b]⟩ = some ⟨nb (bSeek l b).toNat, 0, none⟩ := if_neg (by unfold bSeek at h; omega)
theorem found_none {l : List Seg} {nb : Nat → Nat} {b : UInt8} (h : bSeek l b < 0) : foundPtr l nb ⟨#[b]⟩ = none := if_pos h

def NamedEither (w : World) (l : List Seg) (nb : Nat → Nat) (s : ByteArray) (e : Ending) (w' : World) : Prop :=
  (namedOk l s.data.toList = true ∧ NamedPost w l nb s e w') ∨ (namedOk l s.data.toList = false ∧ e = .returned (.tuple #[.slice none 0 0, .bool false]) ∧ Below w.heap.size w w')

set_option maxRecDepth 100000 in
set_option maxHeartbeats 1000000 in
theorem nodesNamed_any (B g : Nat) (l : List Seg) (nb : Nat → Nat) (cv : Nat → Value) (s : ByteArray) (w : World) (h : Nodes w B g l.length l.length l nb cv) (hv : validB l = true) (hs : s.size ≤ 1048576) :
    Calls Try.prog 72 #[.slice (some ⟨g, 0, none⟩) l.length l.length, .string s] w (NamedEither w l nb s) := by
  have h8 := (valid_all hv).2.1
  have HN := Lib.hid h
  obtain ⟨i0, hi0, hz0, hz1, hz2⟩ := info_parts info_ptr
  have I0 := Lib.hid hi0
  have Z0 := Lib.hid hz0
  have Z1 := Lib.hid hz1
  have Z2 := Lib.hid hz2
  clear hi0 hz0 hz1 hz2 h hv
  go_enter Try.func72, Try.ntmps72
  go_wp2
  go_loopw [6, 11] (fun v i wr => ∃ k : Nat, k ≤ s.size ∧ i = .int .i64 k ∧ Hid (namedOk l (s.data.toList.take k) = true) ∧ Hid (wr.ownsRow w.heap.size 72 1 v (namedJs l (s.data.toList.take k)).length (ptrsOf nb (namedJs l (s.data.toList.take k)))) ∧ Hid (Below w.heap.size w wr) ∧ ∃ a n c, v = .slice a n c)
    (fun _ i _ => s.size - (intOf i).toNat)
  case atStart => exact ⟨0, Nat.zero_le _, rfl, rfl, World.ownsRow_nil _ _ _ _, Below.refl _ _, _, _, _, rfl⟩
  case round =>
    obtain ⟨k, hk, rfl, HK, HO, HB, a, n, c, rfl⟩ := hrel
    have hk0 : (0 : Int) ≤ (k : Int) := Int.natCast_nonneg _
    by_cases hlt : k < s.size
    · have hlt' : (k : Int) < (s.size : Int) := by omega
      have h1 : (k : Int) + 1 ≤ (s.size : Int) := by omega
      obtain ⟨t1, t2⟩ := named_take (l := l) s hlt
      have HM : Hid (s[k] ∈ s.data.toList) := by
        show s.data.toList[k]'(by simpa using hlt) ∈ _
        exact List.getElem_mem _
      have HX := Lib.hid (one_byte s hlt)
      have HT1 := Lib.hid t1
      have HT2 := Lib.hid t2
      have hbd := bSeek_bd l s[k]
      clear t1 t2
      generalize s[k] = b at *
      have HNk := Lib.hid (HN.out.below HB.out)
      go_wp2_with fail
      refine (findNode_any _ _ _ _ _ _ _ HNk.out (by omega)).mono ?_
      rw [HX.out]
      rcases hbd with hbd | ⟨hb0, hb1⟩
      · have HF : Hid (namedOk l s.data.toList = false) := namedOk_bad HM.out (by omega)
        rw [found_none (by omega)]
        rintro e w1 ⟨rfl, rfl⟩
        clear hbd
        go_wp2
        refine bodyPost_ret (v := .tuple #[.slice none 0 0, .bool false]) (by simp [results, Try.results72, go_sem]) rfl ?_
        exact .inr ⟨HF.out, rfl, HB.out⟩
      · rw [found_byte hb0]
        rintro e w1 ⟨rfl, rfl⟩
        have hlen : (namedJs l (s.data.toList.take k)).length = k := by
          unfold namedJs
          rw [List.length_map, List.length_take]
          simp
          omega
        have HK1 : Hid (namedOk l (s.data.toList.take (k + 1)) = true) := by
          show _ = _
          rw [HT1.out, HK.out, decide_eq_true hb0]
          rfl
        generalize (bSeek l b).toNat = j at *
        clear hb0 hb1
        have HJ : Hid (ptrsOf nb (namedJs l (s.data.toList.take (k + 1))) = ptrsOf nb (namedJs l (s.data.toList.take k)) ++ [.pointer (some ⟨nb j, 0, none⟩)] ∧ (namedJs l (s.data.toList.take (k + 1))).length = (namedJs l (s.data.toList.take k)).length + 1) := by
          rw [HT2.out]
          exact ⟨by simp [ptrsOf, ptrTo], by simp⟩
        have hHO := HO.out
        rw [hlen] at hHO
        have HO2 := Lib.hid (hHO.alloc (.cells #[.pointer (some ⟨nb j, 0, none⟩)] 72))
        clear hHO
        have hbz := HB.out.size
        go_wp2_with (at_builtin; refine wpList_append_own_at _ rfl _ _ 61 rfl w.heap.size 72 i0 (.pointer none) 1 8 Try.underlying61 I0.out Z0.out Z1.out Z2.out rfl (by decide) _ _ _ rfl HO2.out ⟨wr.heap.size, 0, none⟩ 1 1 [.pointer (some ⟨nb j, 0, none⟩)] rfl rfl (cell_one_new _ _ _) (by simp [Value.oneCell']) (by unfold maxLen; omega) (by omega) (by simp; omega) ?_; intro v4 w4 hown4 hgrow _ _)
        have HB4 : Hid (Below w.heap.size w w4) := (HB.out.alloc hbz _).grown hgrow (by simp; omega) (fun q hq => (World.ownsRow.lt HO2.out q hq).1)
        have HO4 : Hid (w4.ownsRow w.heap.size 72 1 v4 (namedJs l (s.data.toList.take (k + 1))).length (ptrsOf nb (namedJs l (s.data.toList.take (k + 1))))) := by
          show World.ownsRow _ _ _ _ _ _ _
          rw [HJ.out.1, HJ.out.2, hlen]
          exact hown4
        have HV : ∃ a n c, v4 = .slice a n c := by
          obtain ⟨q, cap, rfl⟩ := own_form hown4 (by omega)
          exact ⟨_, _, _, rfl⟩
        clear hown4 hgrow
        go_roundw
        case rel => exact ⟨k + 1, by omega, by go_num, HK1, HO4, HB4, HV⟩
        case measure => simp [intOf]; omega
    · obtain rfl : k = s.size := by omega
      have e : s.data.toList.take s.size = s.data.toList := List.take_of_length_le (by simp)
      rw [e] at HK HO
      go_wp2
      refine bodyPost_ret (v := .tuple #[.slice a n c, .bool true]) (by simp [results, Try.results72, go_sem]) rfl ?_
      exact .inl ⟨HK.out, _, rfl, HO.out, HB.out⟩

theorem szs_take {l : List Seg} {js : List Nat} {k : Nat} (hk : k < js.length) : szs l (js.take (k + 1)) = szs l (js.take k) + sizeAt l js[k] := by
  rw [List.take_succ_eq_append_getElem hk, szs_snoc]

set_option maxRecDepth 100000 in
set_option maxHeartbeats 1000000 in
theorem sizes_any (B g B' : Nat) (l : List Seg) (nb : Nat → Nat) (cv : Nat → Value) (js : List Nat) (a : Option Addr) (c : Nat) (w : World) (h : Nodes w B g l.length l.length l nb cv) (hv : validB l = true) (hj : ∀ j ∈ js, j < l.length) (hjl : js.length ≤ 1048576)
    (hown : w.ownsRow B' 72 1 (.slice a js.length c) js.length (ptrsOf nb js)) :
    Calls Try.prog 73 #[.slice a js.length c] w fun e w' => e = .returned (.int .i64 (szs l js)) ∧ w = w' := by
  have HN := Lib.hid h
  have HV := Lib.hid hv
  have HJ := Lib.hid hj
  have HO := Lib.hid hown
  clear h hv hj hown
  go_enter Try.func73, Try.ntmps73
  go_wp2
  go_loop [3, 8] (fun v i => ∃ k : Nat, k ≤ js.length ∧ i = .int .i64 k ∧ v = .int .i64 (szs l (js.take k)))
    (fun _ i => js.length - (intOf i).toNat)
  case atStart => exact ⟨0, Nat.zero_le _, rfl, rfl⟩
  case round =>
    obtain ⟨k, hk, rfl, rfl⟩ := hrel
    by_cases hlt : k < js.length
    · obtain ⟨q, cap, hq⟩ := own_form HO.out (by omega)
      injection hq with hq1 _ _
      subst hq1
      have hjk := HJ.out js[k] (List.getElem_mem hlt)
      have hc : w.cell? ⟨q, k, none⟩ = some (.pointer (some ⟨nb js[k], 0, none⟩)) := by
        rw [HO.out.cellAt k (by omega)]
        simp [ptrsOf, ptrTo, hlt]
      have hn1 : w.cell? ⟨nb js[k], 1, none⟩ = some (.int .i64 (sizeAt l js[k])) := by
        rw [sizeAt_of hjk]
        exact (HN.out.node js[k] _ hjk (List.getElem?_eq_getElem hjk)).cell 1
      have HS := Lib.hid (szs_take (l := l) hlt)
      have hb := szs_bd HV.out (js.take k) (fun j h => HJ.out j (List.mem_of_mem_take h))
      have hlen : (js.take k).length = k := by rw [List.length_take]; omega
      have hb0 : 0 ≤ szs l (js.take k) := by omega
      have hb1 : szs l (js.take k) ≤ 103809024 := by omega
      obtain ⟨z1, z2⟩ := sizeAt_bd HV.out hjk
      clear hb hlen
      generalize sizeAt l js[k] = z at *
      generalize js[k] = j at *
      generalize szs l (js.take k) = S0 at *
      go_wp2
      go_round
      case rel => exact ⟨k + 1, by omega, by go_num, by rw [HS.out]⟩
      case measure => simp [intOf]; omega
    · obtain rfl : k = js.length := by omega
      go_wp2
      go_ret
      exact ⟨rfl, rfl⟩

set_option maxRecDepth 100000 in
set_option maxHeartbeats 400000 in
theorem costOf_any (A : Option Addr) (l : List Seg) (c : Nat) (s : ByteArray) (w : World) (hw : Segs w w.heap.size A l) (hl : l.length ≤ 1048576) (hlc : l.length ≤ c) (hcm : c ≤ 9223372036854775807) (hn : Short l) (hs : s.size ≤ 1048576) :
    Calls Try.prog 22 #[.slice A l.length c, .string s] w fun e w' => e = .returned (.int .i64 (costB l s)) ∧ Below w.heap.size w w' := by
  have HW : Hid (Segs w w.heap.size A l) := hw
  clear hw
  have hnil := fun (W : World) (a : Option Addr) (n c : Nat) => Lib.run_eql_slice_nil (P := Try.prog) W 61 72 a n c 0 0 Try.underlying61
  cases hv : validB l with
  | false =>
    have HF : Hid (costB l s = -1) := if_neg (by rw [hv]; simp)
    generalize hd : decide (s.size = 0) = d
    have HD := Lib.hid hd
    clear hd
    go_enter Try.func22, Try.ntmps22
    go_wp2_with fail
    refine (nodesOf_bad _ _ _ _ HW.out hl hlc hcm hn hv).mono ?_
    rintro e w1 ⟨rfl, hb1⟩
    go_wp2_with fail
    refine (nodesNamed_bad s _ hs).mono ?_
    rw [HD.out]
    rintro e w2 ⟨rfl, rfl⟩
    go_wp2
    go_ret
    exact ⟨ret_int HF.out.symm, hb1⟩
  | true =>
    have HV := Lib.hid hv
    clear hv
    go_enter Try.func22, Try.ntmps22
    go_wp2_with fail
    refine (nodesOf_any _ _ _ _ HW.out hl hlc hcm hn HV.out).mono ?_
    rintro e w1 ⟨g, nb, cv, rfl, hN, hb1⟩
    have HN := Lib.hid hN
    clear hN
    go_wp2_with fail
    refine (nodesNamed_any _ _ _ _ _ s _ HN.out HV.out hs).mono ?_
    rintro e w2 (⟨hok, v, rfl, hown, hb2⟩ | ⟨hok, rfl, hb2⟩)
    · have HF : Hid (costB l s = szs l (namedJs l s.data.toList)) := if_pos ⟨HV.out, hok⟩
      have HJ := Lib.hid (namedJs_lt hok)
      have HN2 := Lib.hid (HN.out.below hb2)
      have B2 := hb1.trans (hb2.mono hb1.size)
      have hjl : (namedJs l s.data.toList).length ≤ 1048576 := by
        unfold namedJs
        rw [List.length_map]
        simpa using hs
      obtain ⟨a, c', rfl⟩ : ∃ a c', v = .slice a (namedJs l s.data.toList).length c' := by
        rcases hown.2 with ⟨e1, e2⟩ | ⟨q, cap, _, e1, _⟩
        · exact ⟨none, 0, by rw [e1, e2]⟩
        · exact ⟨_, _, e1⟩
      have HO := Lib.hid hown
      clear hown hb1 hb2 hok
      go_wp2_with fail
      refine (sizes_any _ _ _ _ _ _ _ _ _ _ HN2.out HV.out HJ.out hjl HO.out).mono ?_
      rintro e w3 ⟨rfl, rfl⟩
      go_wp2
      go_ret
      exact ⟨ret_int HF.out.symm, B2⟩
    · have HF : Hid (costB l s = -1) := if_neg (by rw [hok]; simp)
      have B2 := hb1.trans (hb2.mono hb1.size)
      clear hb1 hb2 hok
      go_wp2
      go_ret
      exact ⟨ret_int HF.out.symm, B2⟩

set_option maxRecDepth 100000 in
set_option maxHeartbeats 400000 in
theorem loadCost_any (A : Option Addr) (l : List Seg) (c : Nat) (s t : ByteArray) (w : World) (hw : Segs w w.heap.size A l) (hl : l.length ≤ 1048576) (hlc : l.length ≤ c) (hcm : c ≤ 9223372036854775807) (hn : Short l) :
    Calls Try.prog 17 #[.slice A l.length c, .string s, .string t] w fun e w' => e = .returned (.int .i64 (loadCostB l s t)) ∧ Below w.heap.size w w' := by
  have HW : Hid (Segs w w.heap.size A l) := hw
  clear hw
  cases hq : needOk l s t with
  | false =>
    have HE : Hid (loadCostB l s t = -1) := if_neg (by rw [hq]; decide)
    go_enter Try.func17, Try.ntmps17
    go_wp2_with fail
    refine (needOf_any _ _ _ _ _ _ HW.out hl hlc hcm hn).mono ?_
    rw [hq]
    rintro e w1 ⟨rfl, hb1⟩
    clear hq
    go_wp2
    go_ret
    exact ⟨ret_int HE.out.symm, hb1⟩
  | true =>
    have HE := Lib.hid (loadCost_eq hq)
    have hz : (loadStr l s t).size ≤ 1048576 := Nat.le_trans loadStr_len (by decide)
    go_enter Try.func17, Try.ntmps17
    go_wp2_with fail
    refine (needOf_any _ _ _ _ _ _ HW.out hl hlc hcm hn).mono ?_
    rw [hq]
    rintro e w1 ⟨rfl, hb1⟩
    clear hq
    go_wp2_with fail
    refine (costOf_any _ _ _ _ _ ((HW.out.below hb1).more hb1.size) hl hlc hcm hn hz).mono ?_
    rw [HE.out]
    rintro e w2 ⟨rfl, hb2⟩
    have B2 := hb1.trans (hb2.mono hb1.size)
    clear hb1 hb2
    go_wp2
    go_ret
    exact ⟨rfl, B2⟩

end Go.Proofs.Ytcpiojliakgdlaa

/- impl.needsFor: what is to be met, as functions. -/
namespace Go.Proofs.Ytcpiojliakgdlaa
open Go.RowKit Go.Shelf

/-- What the loop over needs keeps. -/
structure Going (w1 : World) (H b : Nat) (fv : Value) (fs : List Value) (T : List Nat) (bs : List Value) (W : World) : Prop where
  held : Row W H 64 (bitCells (inT T))
  text : Lib.IsBuilderF 90 5 w1.heap.size b bs W
  funcs : W.ownsRow w1.heap.size 68 1 fv fs.length fs
  below : Below w1.heap.size w1 W
  low : w1.heap.size ≤ H ∧ w1.heap.size ≤ b ∧ b ≠ H
theorem Going.below' {w1 W W' : World} {H b : Nat} {fv : Value} {fs : List Value} {T : List Nat} {bs : List Value} (h : Going w1 H b fv fs T bs W) (hb : Below W.heap.size W W') : Going w1 H b fv fs T bs W' :=
  ⟨h.held.below hb h.held.lt, isB_own _ _ _ _ 0 (fun _ : List Unit => bs) [] W W' none h.text (grownBy_of_below hb) (fun r e => by cases e), own_keep h.funcs (fun g hg => hb.block g (World.ownsRow.lt h.funcs g hg).2), h.below.trans (hb.mono h.below.size), h.low⟩
theorem Going.put {w1 W : World} {H b : Nat} {fv : Value} {fs : List Value} {T : List Nat} {bs : List Value} (h : Going w1 H b fv fs T bs W) (U : List Nat) : Going w1 H b fv fs U bs (putBits W H (inT U)) := by
  have hne : ∀ g, fv.ownBlock = some g → g ≠ H := fun g hg e => by
    rcases h.funcs.2 with ⟨rfl, _⟩ | ⟨g', cap, cur, rfl, _, hh, _⟩
    · cases hg
    · have : g' = g := by simpa [Value.ownBlock] using hg
      subst this
      subst e
      have h1 : W.heap[g']? = some (.cells _ 64 (0, 0)) := h.held
      rw [hh] at h1
      injection h1 with h1
      injection h1 with _ h2
      exact absurd h2 (by decide)
  refine ⟨putBits_row h.held, ?_, own_keep h.funcs (fun g hg => putBits_block W H _ (hne g hg)), putBits_below h.below h.low.1, h.low⟩
  have key : ∀ p, Lib.BuilderAtF 90 5 w1.heap.size b p bs W → Lib.BuilderAtF 90 5 w1.heap.size b p bs (putBits W H (inT U)) := fun p hp => by
    obtain ⟨h1, v, h2, h3, h4⟩ := hp
    refine ⟨h1, v, (putBits_block W H _ h.low.2.2).trans h2, ⟨h3.1, ?_⟩, h4⟩
    rcases h3.2 with h5 | ⟨g, cap, cur, fz, hv, hg, hh, r⟩
    · exact .inl h5
    · refine .inr ⟨g, cap, cur, fz, hv, hg, (putBits_block W H _ (fun e => ?_)).trans hh, r⟩
      subst e
      have h6 : W.heap[g]? = some (.cells _ 64 (0, 0)) := h.held
      rw [hh] at h6
      injection h6 with h6
      injection h6 with _ h7
      exact absurd h7 (by decide)
  exact h.text.elim (fun x => .inl (key _ x)) (fun x => .inr (key _ x))
end Go.Proofs.Ytcpiojliakgdlaa
/- The walk of the law FnNeedOf. -/
namespace Go.Proofs.Ytcpiojliakgdlaa
open Go.RowKit

set_option maxRecDepth 100000 in
set_option maxHeartbeats 1000000 in
theorem soHas_same3 (s c : ByteArray) (w : World) (hs : s.size ≤ 1048576) :
    Calls Try.prog 20 #[.string s, .string c] w fun e w' => e = .returned (.bool (hasT s c)) ∧ w' = w := by
  go_enter Try.func20, Try.ntmps20
  go_wp2
  go_loopw [8] (fun i wr => ∃ k : Nat, k ≤ s.size ∧ i = .int .i64 k ∧ Hid (∀ j, j < k → s.extract j (j + 1) ≠ c) ∧ wr = w)
    (fun i _ => s.size - (intOf i).toNat)
  case atStart => exact ⟨0, Nat.zero_le _, rfl, fun j hj => absurd hj (by omega), rfl⟩
  case round =>
    obtain ⟨k, hk, rfl, HN, rfl⟩ := hrel
    by_cases hlt : k < s.size
    · have hlt' : (k : Int) < (s.size : Int) := by omega
      have hk0 : (0 : Int) ≤ (k : Int) := Int.natCast_nonneg _
      have hq : ((k : Int) + 1).toNat = k + 1 := by omega
      by_cases he : s.extract k (k + 1) = c
      · have ht : ((s.extract k (k + 1)).toList == c.toList) = true := by rw [he]; simp
        have HF : Hid (hasT s c = true) := decide_eq_true ⟨k, hlt, he⟩
        clear he HN
        go_wp2
        go_ret
        exact ⟨ret_bool HF.out.symm, rfl⟩
      · have ht : ((s.extract k (k + 1)).toList == c.toList) = false := by
          have := (sameB_iff (a := s.extract k (k + 1)) (b := c))
          unfold sameB at this
          cases hq2 : ((s.extract k (k + 1)).toList == c.toList) with
          | false => rfl
          | true => exact absurd (this.1 hq2) he
        have HM : Hid (∀ j, j < k + 1 → s.extract j (j + 1) ≠ c) := fun j hj => by
          rcases Nat.lt_or_ge j k with h | h
          · exact HN.out j h
          · obtain rfl : j = k := by omega
            exact he
        clear he HN
        go_wp2
        go_roundw
        case rel => exact ⟨k + 1, by omega, by go_num, HM, trivial⟩
        case measure => simp [intOf]; omega
    · have HF : Hid (hasT s c = false) := decide_eq_false (fun ⟨j, hj, he⟩ => HN.out j (by omega) he)
      clear HN
      go_wp2
      go_ret
      exact ⟨ret_bool HF.out.symm, rfl⟩


theorem nil_of3 {x : ByteArray} (h : x.toList.isEmpty = true) : x = ⟨#[]⟩ := by
  rw [ByteArray.toList_eq] at h
  refine ByteArray.ext (Array.toList_inj.1 ?_)
  exact List.isEmpty_iff.1 h

set_option maxRecDepth 100000 in
set_option maxHeartbeats 16000000 in
theorem needOfLaw_any (hgood : GoodSaid) (A0 : Option Addr) (n c0 : Nat) (w : World) (hn : n ≤ c0) (hm : n ≤ maxLen) (hx : ∀ b, w.heap.size ≤ b → Bytes w b A0 n) :
    Calls Try.prog 3 #[.slice A0 n c0] w fun e w' => e = .returned (.bool true) ∧ Below w.heap.size w w' := by
  unfold maxLen at hm
  by_cases hbig : 1048576 < n
  · clear hx hgood
    go_enter Try.func3, Try.ntmps3
    go_wp2
    go_ret
    exact ⟨rfl, Below.refl _ _⟩
  have HD := Lib.hid (drawNeedOf3 hgood A0 n c0 w hn hx)
  clear hx hgood
  go_enter Try.func3, Try.ntmps3
  go_wp2_with fail
  refine Calls.mono HD.out ?_
  rintro e w1 ⟨A, l, c, s, t, rfl, ⟨hs1, ⟨hl9, hlc, hcm⟩, hnm⟩, hsz, htz, hb1⟩
  have hsh : Short l := fun x hx => by have := hnm x hx; unfold maxLen; omega
  have hs' : s.size ≤ 1048576 := by omega
  have HNI := Lib.hid (fun W h => needOf_any A l c s t W h (by omega) hlc hcm hsh)
  have HNS := Lib.hid (fun W h => specNeed_any A l c s t W h (by omega) hsh hs')
  have HDI := Lib.hid (fun W h => dropsOf_any A l c s t W h (by omega) hlc hcm hsh)
  have HDS := Lib.hid (fun W h => specDrops_any A l c s t W h (by omega) hsh hs')
  have HLI := Lib.hid (fun W h => loadCost_any A l c s t W h (by omega) hlc hcm hsh)
  have HLS := Lib.hid (fun W h => specLoadCost_any A l c s t W h (by omega) hsh hs')
  have HPO := Lib.hid (fun W h => pathOf_any A l c t W h (by omega) hlc hcm hsh)
  have HAG := Lib.hid (fun x W h => needOf_any A l c x t W h (by omega) hlc hcm hsh)
  have HSV := Lib.hid (fun x W h => stateValid_any A l c x W h (by omega) hlc hcm hsh)
  have HCO := Lib.hid (fun x (hx : x.size ≤ 1048576) W h => costOf_any A l c x W h (by omega) hlc hcm hsh hx)
  have HEN := Lib.hid (fun W h => endOf_any A l c t W h (by omega) hlc hcm hsh)
  have HSY := Lib.hid (fun h => need_says (l := l) (s := s) (t := t) h)
  have HOF := Lib.hid (fun h => need_off (l := l) (s := s) (t := t) h)
  have hpos := need_cost (l := l) (s := s) (t := t)
  have HB1 := Lib.hid hb1
  have HW := Lib.hid hs1
  clear hs1 hnm hb1 hsh hs' HD
  generalize needOk l s t = nd at *
  generalize afterStr l s t = a at *
  generalize loadStr l s t = ld at *
  generalize dropStr l s t = dr at *
  generalize pathStr l t = p at *
  generalize hasSeg l t = hsg at *
  cases nd with
  | false =>
    rw [HOF.out rfl] at HLI HLS
    clear HSY HOF hpos HPO HAG HSV HCO HEN
    go_wp2_with fail
    refine Calls.mono (HNI.out w1 HW.out) ?_
    rintro e w2 ⟨rfl, hb2⟩
    have HB2 : Hid (Below w.heap.size w w2) := HB1.out.trans (hb2.mono HB1.out.size)
    have HW := Lib.hid ((HW.out.below hb2).more hb2.size)
    clear hb2 HB1 HNI
    go_wp2_with fail
    refine Calls.mono (HNS.out w2 HW.out) ?_
    rintro e w3 ⟨rfl, hb3⟩
    have HB3 : Hid (Below w.heap.size w w3) := HB2.out.trans (hb3.mono HB2.out.size)
    have HW := Lib.hid ((HW.out.below hb3).more hb3.size)
    clear hb3 HB2 HNS
    go_wp2_with fail
    refine Calls.mono (HDI.out w3 HW.out) ?_
    rintro e w4 ⟨rfl, hb4⟩
    have HB4 : Hid (Below w.heap.size w w4) := HB3.out.trans (hb4.mono HB3.out.size)
    have HW := Lib.hid ((HW.out.below hb4).more hb4.size)
    clear hb4 HB3 HDI
    go_wp2_with fail
    refine Calls.mono (HDS.out w4 HW.out) ?_
    rintro e w5 ⟨rfl, hb5⟩
    have HB5 : Hid (Below w.heap.size w w5) := HB4.out.trans (hb5.mono HB4.out.size)
    have HW := Lib.hid ((HW.out.below hb5).more hb5.size)
    clear hb5 HB4 HDS
    go_wp2_with fail
    refine Calls.mono (HLI.out w5 HW.out) ?_
    rintro e w6 ⟨rfl, hb6⟩
    have HB6 : Hid (Below w.heap.size w w6) := HB5.out.trans (hb6.mono HB5.out.size)
    have HW := Lib.hid ((HW.out.below hb6).more hb6.size)
    clear hb6 HB5 HLI
    go_wp2_with fail
    refine Calls.mono (HLS.out w6 HW.out) ?_
    rintro e w7 ⟨rfl, hb7⟩
    have HB7 : Hid (Below w.heap.size w w7) := HB6.out.trans (hb7.mono HB6.out.size)
    have HW := Lib.hid ((HW.out.below hb7).more hb7.size)
    clear hb7 HB6
    go_wp2_with fail
    refine Calls.mono (HLS.out w7 HW.out) ?_
    rintro e w8 ⟨rfl, hb8⟩
    have HB8 : Hid (Below w.heap.size w w8) := HB7.out.trans (hb8.mono HB7.out.size)
    have HW := Lib.hid ((HW.out.below hb8).more hb8.size)
    clear hb8 HB7
    go_wp2
    go_ret
    exact ⟨rfl, HB8.out⟩
  | true =>
    obtain ⟨⟨za, zl, zd, zp, zs⟩, hone, htwo, ⟨ha1, ha2, ha3⟩, hlen, hsame, hcost, hfit⟩ := HSY.out rfl
    have hp0 : 0 ≤ loadCostB l s t := of_decide_eq_true hpos
    have HAG := Lib.hid (HAG.out a)
    have HSV := Lib.hid (HSV.out a)
    have HCO := Lib.hid (HCO.out ld (by omega))
    rw [ha1, ha2] at HAG
    rw [ha3] at HSV
    rw [← hcost] at HCO
    have HON := Lib.hid hone
    have HTW := Lib.hid htwo
    have HSM := Lib.hid hsame
    have hw1 : IntKind.i64.wrap ((s.size : Int) - (dr.size : Int)) = (s.size : Int) - (dr.size : Int) := IntWalk.i64_in _ (by omega)
    have hw2 : IntKind.i64.wrap ((s.size : Int) - (dr.size : Int) + (ld.size : Int)) = (a.size : Int) := by rw [hlen]; exact IntWalk.i64_in _ (by omega)
    clear hlen hone htwo hsame ha1 ha2 ha3 hcost HSY HOF hpos
    generalize loadCostB l s t = lc at *
    generalize endB l t = en at *
    generalize needOk l a t = nd2 at *
    go_wp2_with fail
    refine Calls.mono (HNI.out w1 HW.out) ?_
    rintro e w2 ⟨rfl, hb2⟩
    have HB2 : Hid (Below w.heap.size w w2) := HB1.out.trans (hb2.mono HB1.out.size)
    have HW := Lib.hid ((HW.out.below hb2).more hb2.size)
    clear hb2 HB1 HNI
    go_wp2_with fail
    refine Calls.mono (HNS.out w2 HW.out) ?_
    rintro e w3 ⟨rfl, hb3⟩
    have HB3 : Hid (Below w.heap.size w w3) := HB2.out.trans (hb3.mono HB2.out.size)
    have HW := Lib.hid ((HW.out.below hb3).more hb3.size)
    clear hb3 HB2 HNS
    go_wp2_with fail
    refine Calls.mono (HDI.out w3 HW.out) ?_
    rintro e w4 ⟨rfl, hb4⟩
    have HB4 : Hid (Below w.heap.size w w4) := HB3.out.trans (hb4.mono HB3.out.size)
    have HW := Lib.hid ((HW.out.below hb4).more hb4.size)
    clear hb4 HB3 HDI
    go_wp2_with fail
    refine Calls.mono (HDS.out w4 HW.out) ?_
    rintro e w5 ⟨rfl, hb5⟩
    have HB5 : Hid (Below w.heap.size w w5) := HB4.out.trans (hb5.mono HB4.out.size)
    have HW := Lib.hid ((HW.out.below hb5).more hb5.size)
    clear hb5 HB4 HDS
    go_wp2_with fail
    refine Calls.mono (HLI.out w5 HW.out) ?_
    rintro e w6 ⟨rfl, hb6⟩
    have HB6 : Hid (Below w.heap.size w w6) := HB5.out.trans (hb6.mono HB5.out.size)
    have HW := Lib.hid ((HW.out.below hb6).more hb6.size)
    clear hb6 HB5 HLI
    go_wp2_with fail
    refine Calls.mono (HLS.out w6 HW.out) ?_
    rintro e w7 ⟨rfl, hb7⟩
    have HB7 : Hid (Below w.heap.size w w7) := HB6.out.trans (hb7.mono HB6.out.size)
    have HW := Lib.hid ((HW.out.below hb7).more hb7.size)
    clear hb7 HB6
    go_wp2_with fail
    refine Calls.mono (HPO.out w7 HW.out) ?_
    rintro e w8 ⟨rfl, hb8⟩
    have HB8 : Hid (Below w.heap.size w w8) := HB7.out.trans (hb8.mono HB7.out.size)
    have HW := Lib.hid ((HW.out.below hb8).more hb8.size)
    clear hb8 HB7 HPO
    go_wp2
    go_loopw [153] (fun i wr => ∃ k : Nat, k ≤ p.size ∧ i = .int .i64 k ∧ Hid (Below w8.heap.size w8 wr))
      (fun i _ => p.size - (intOf i).toNat)
    case atStart => exact ⟨0, Nat.zero_le _, rfl, Lib.hid (Below.refl _ _)⟩
    case round =>
      obtain ⟨k, hk, rfl, HBr⟩ := hrel
      by_cases hlt : k < p.size
      · have hlt' : (k : Int) < (p.size : Int) := by omega
        have hlt'' : (k : Int) + 1 ≤ (p.size : Int) := by omega
        have hkk : (k : Int) ≤ (k : Int) + 1 := by omega
        have hk0 : (0 : Int) ≤ (k : Int) := Int.natCast_nonneg _
        have hk1 : (0 : Int) ≤ (k : Int) + 1 := by omega
        have hq : ((k : Int) + 1).toNat = k + 1 := by omega
        have hwk : IntKind.i64.wrap ((k : Int) + 1) = (k : Int) + 1 := IntWalk.i64_in _ (by omega)
        obtain ⟨e1, e2⟩ := HON.out k hlt
        clear HON HTW HSM HAG HSV HCO HEN HW HB8 HLS
        generalize hq1 : hasT ld (p.extract k (k + 1)) = q at *
        have HSH : Hid (∀ W x q', ((x = a ∧ q' = true) ∨ (x = ld ∧ q' = q) ∨ (x = s ∧ q' = !q)) → Calls Try.prog 20 #[.string x, .string (p.extract k (k + 1))] W fun e w' => e = .returned (.bool q') ∧ w' = W) := fun W x q' h => by
          rcases h with ⟨rfl, rfl⟩ | ⟨rfl, rfl⟩ | ⟨rfl, rfl⟩
          · rw [← e1]; exact soHas_same3 _ _ W (by omega)
          · rw [← hq1]; exact soHas_same3 _ _ W (by omega)
          · rw [← e2]; exact soHas_same3 _ _ W (by omega)
        clear e1 e2 hq1
        cases q
        all_goals
          go_wp2_with fail
          go_quiet (first | (go_at_call 20; exact Calls.quiet_of_same (HSH.out _ _ _ (by first | exact .inl ⟨rfl, rfl⟩ | exact .inr (.inl ⟨rfl, rfl⟩) | exact .inr (.inr ⟨rfl, rfl⟩)))))
          go_wp2
          go_roundw
          case rel => exact ⟨k + 1, by omega, by go_num, below_drewN HBr.out _⟩
          case measure => simp [intOf]; omega
      · obtain rfl : k = p.size := by omega
        clear HON
        go_wp2
        go_loopw [184] (fun i wr => ∃ k : Nat, k ≤ s.size ∧ i = .int .i64 k ∧ Hid (Below w8.heap.size w8 wr))
          (fun i _ => s.size - (intOf i).toNat)
        case atStart => exact ⟨0, Nat.zero_le _, rfl, HBr⟩
        case round =>
          clear HBr
          obtain ⟨k, hk, rfl, HBr⟩ := hrel
          by_cases hlt : k < s.size
          · have hlt' : (k : Int) < (s.size : Int) := by omega
            have hlt'' : (k : Int) + 1 ≤ (s.size : Int) := by omega
            have hkk : (k : Int) ≤ (k : Int) + 1 := by omega
            have hk0 : (0 : Int) ≤ (k : Int) := Int.natCast_nonneg _
            have hk1 : (0 : Int) ≤ (k : Int) + 1 := by omega
            have hq : ((k : Int) + 1).toNat = k + 1 := by omega
            have hwk : IntKind.i64.wrap ((k : Int) + 1) = (k : Int) + 1 := IntWalk.i64_in _ (by omega)
            have e1 := HTW.out k hlt
            clear HTW HSM HAG HSV HCO HEN HW HB8 HLS
            generalize hq1 : hasT dr (s.extract k (k + 1)) = q at *
            have HSH : Hid (∀ W x q', ((x = a ∧ q' = !q) ∨ (x = dr ∧ q' = q)) → Calls Try.prog 20 #[.string x, .string (s.extract k (k + 1))] W fun e w' => e = .returned (.bool q') ∧ w' = W) := fun W x q' h => by
              rcases h with ⟨rfl, rfl⟩ | ⟨rfl, rfl⟩
              · rw [← e1]; exact soHas_same3 _ _ W (by omega)
              · rw [← hq1]; exact soHas_same3 _ _ W (by omega)
            clear e1 hq1
            cases q
            all_goals
              go_wp2_with fail
              go_quiet (first | (go_at_call 20; exact Calls.quiet_of_same (HSH.out _ _ _ (by first | exact .inl ⟨rfl, rfl⟩ | exact .inr ⟨rfl, rfl⟩))))
              go_wp2
              go_roundw
              case rel => exact ⟨k + 1, by omega, by go_num, below_drewN HBr.out _⟩
              case measure => simp [intOf]; omega
          · obtain rfl : k = s.size := by omega
            have HB50 : Hid (Below w.heap.size w wr) := HB8.out.trans (HBr.out.mono HB8.out.size)
            have HW := Lib.hid ((HW.out.below HBr.out).more HBr.out.size)
            obtain ⟨w50, hw50⟩ : ∃ x, x = wr := ⟨_, rfl⟩
            subst hw50
            clear HBr HB8 HTW
            go_wp2_with fail
            refine Calls.mono (HAG.out w50 HW.out) ?_
            rintro e w51 ⟨rfl, hb51⟩
            have HB51 : Hid (Below w.heap.size w w51) := HB50.out.trans (hb51.mono HB50.out.size)
            have HW := Lib.hid ((HW.out.below hb51).more hb51.size)
            clear hb51 HB50 HAG
            go_wp2_with fail
            refine Calls.mono (HSV.out w51 HW.out) ?_
            rintro e w52 ⟨rfl, hb52⟩
            have HB52 : Hid (Below w.heap.size w w52) := HB51.out.trans (hb52.mono HB51.out.size)
            have HW := Lib.hid ((HW.out.below hb52).more hb52.size)
            clear hb52 HB51 HSV
            cases he : ld.toList.isEmpty with
            | true =>
              obtain rfl := HSM.out (nil_of3 he)
              clear HSM
              go_wp2_with fail
              refine Calls.mono (HCO.out w52 HW.out) ?_
              rintro e w53 ⟨rfl, hb53⟩
              have HB53 : Hid (Below w.heap.size w w53) := HB52.out.trans (hb53.mono HB52.out.size)
              have HW := Lib.hid ((HW.out.below hb53).more hb53.size)
              clear hb53 HB52 HCO
              go_wp2
              go_ret
              exact ⟨rfl, HB53.out⟩
            | false =>
              clear HSM
              go_wp2_with fail
              refine Calls.mono (HCO.out w52 HW.out) ?_
              rintro e w53 ⟨rfl, hb53⟩
              have HB53 : Hid (Below w.heap.size w w53) := HB52.out.trans (hb53.mono HB52.out.size)
              have HW := Lib.hid ((HW.out.below hb53).more hb53.size)
              clear hb53 HB52 HCO
              go_wp2_with fail
              refine Calls.mono (HEN.out w53 HW.out) ?_
              rintro e w54 ⟨rfl, hb54⟩
              have HB54 : Hid (Below w.heap.size w w54) := HB53.out.trans (hb54.mono HB53.out.size)
              have HW := Lib.hid ((HW.out.below hb54).more hb54.size)
              clear hb54 HB53 HEN
              go_wp2
              go_ret
              exact ⟨rfl, HB54.out⟩

end Go.Proofs.Ytcpiojliakgdlaa
