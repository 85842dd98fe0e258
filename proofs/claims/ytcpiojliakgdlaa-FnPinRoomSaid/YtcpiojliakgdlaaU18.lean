/- Joined: Gl Gm Gn Go Bd Ea Fb Fc Fd Fe. -/
import Derived.Test.YtcpiojliakgdlaaU17
import Derived.Test.YtcpiojliakgdlaaU03
import Derived.Deep.RegionWith
import Derived.WalkMore
import Derived.Test.YtcpiojliakgdlaaU16
import Derived.Test.YtcpiojliakgdlaaU12
import Derived.Test.YtcpiojliakgdlaaU05
import Derived.Test.YtcpiojliakgdlaaSh
import Derived.Maps.AppendAt
import Derived.Deep.AppendLies
import Derived.Defers
import Derived.Recover
/- impl.findState at nodes; needFor, meet; StateValid. -/
namespace Go.Proofs.Ytcpiojliakgdlaa
open Go.RowKit Go.Shelf

/-- The truths of a state. -/
def inT (T : List Nat) (j : Nat) : Bool := decide (j ∈ T)

end Go.Proofs.Ytcpiojliakgdlaa
/- impl.meetNeed: the states ahead of a need and behind it. -/
namespace Go.Proofs.Ytcpiojliakgdlaa
open Go.RowKit Go.Shelf

end Go.Proofs.Ytcpiojliakgdlaa
/- impl.StateValid, DropsOf, NeedOf. -/
namespace Go.Proofs.Ytcpiojliakgdlaa
open Go.RowKit Go.Shelf

end Go.Proofs.Ytcpiojliakgdlaa
/- impl.nodesNamed, sizesTogether, CostOf, LoadCost. -/
namespace Go.Proofs.Ytcpiojliakgdlaa
open Go.RowKit Go.Shelf

/-- The nodes that are named, in a row of the call's own. -/
def NamedPost (w : World) (l : List Seg) (nb : Nat → Nat) (s : ByteArray) (e : Ending) (w' : World) : Prop :=
  ∃ v, e = .returned (.tuple #[v, .bool true]) ∧ w'.ownsRow w.heap.size 72 1 v (namedJs l s.data.toList).length (ptrsOf nb (namedJs l s.data.toList)) ∧ Below w.heap.size w w'

set_option maxRecDepth 100000 in
set_option maxHeartbeats 400000 in
theorem nodesNamed_bad (s : ByteArray) (w : World) (hs : s.size ≤ 1048576) :
    Calls Try.prog 72 #[.slice none 0 0, .string s] w fun e w' => e = .returned (.tuple #[.slice none 0 0, .bool (decide (s.size = 0))]) ∧ w = w' := by
  by_cases h0 : s.size = 0
  · have HD : Hid (decide (s.size = 0) = true) := decide_eq_true h0
    go_enter Try.func72, Try.ntmps72
    go_wp2
    go_loop [6, 11] (fun v i => v = .slice none 0 0 ∧ i = .int .i64 0) (fun _ _ => 0)
    case atStart => exact ⟨rfl, rfl⟩
    case round =>
      obtain ⟨rfl, rfl⟩ := hrel
      go_wp2
      refine bodyPost_ret (v := .tuple #[.slice none 0 0, .bool true]) (by simp [results, Try.results72, go_sem]) rfl ?_
      exact ⟨rfl, rfl⟩
  · have HD : Hid (decide (s.size = 0) = false) := decide_eq_false h0
    have hp : 0 < s.size := by omega
    clear h0
    go_enter Try.func72, Try.ntmps72
    go_wp2
    go_loop [6, 11] (fun v i => v = .slice none 0 0 ∧ i = .int .i64 0) (fun _ _ => 0)
    case atStart => exact ⟨rfl, rfl⟩
    case round =>
      obtain ⟨rfl, rfl⟩ := hrel
      go_wp2_with fail
      refine (findNode_nil _ _).mono ?_
      rintro e w1 ⟨rfl, rfl⟩
      go_wp2
      refine bodyPost_ret (v := .tuple #[.slice none 0 0, .bool false]) (by simp [results, Try.results72, go_sem]) rfl ?_
      exact ⟨by rw [HD.out], rfl⟩

theorem found_byte {l : List Seg} {nb : Nat → Nat} {b : UInt8} (h : 0 ≤ bSeek l b) : foundPtr l nb ⟨#[b]⟩ = some ⟨nb (bSeek l b).toNat, 0, none⟩ := if_neg (by unfold bSeek at h; omega)
theorem found_none {l : List Seg} {nb : Nat → Nat} {b : UInt8} (h : bSeek l b < 0) : foundPtr l nb ⟨#[b]⟩ = none := if_pos h

def NamedEither (w : World) (l : List Seg) (nb : Nat → Nat) (s : ByteArray) (e : Ending) (w' : World) : Prop :=
  (namedOk l s.data.toList = true ∧ NamedPost w l nb s e w') ∨ (namedOk l s.data.toList = false ∧ e = .returned (.tuple #[.slice none 0 0, .bool false]) ∧ Below w.heap.size w w')

set_option maxRecDepth 100000 in
set_option maxHeartbeats 1000000 in
theorem nodesNamed_any (B g : Nat) (l : List Seg) (nb : Nat → Nat) (cv : Nat → Value) (s : ByteArray) (w : World) (h : Nodes w B g l.length l.length l nb cv) (hv : validB l = true) (hs : s.size ≤ 1048576) :
    Calls Try.prog 72 #[.slice (some ⟨g, 0, none⟩) l.length l.length, .string s] w (NamedEither w l nb s) := by
  have h8 := (valid_all hv).2.1
  have HN := Lib.hid h
  obtain ⟨i0, hi0, hz0, hz1, hz2⟩ := info_parts info_ptr
  have I0 := Lib.hid hi0
  have Z0 := Lib.hid hz0
  have Z1 := Lib.hid hz1
  have Z2 := Lib.hid hz2
  clear hi0 hz0 hz1 hz2 h hv
  go_enter Try.func72, Try.ntmps72
  go_wp2
  go_loopw [6, 11] (fun v i wr => ∃ k : Nat, k ≤ s.size ∧ i = .int .i64 k ∧ Hid (namedOk l (s.data.toList.take k) = true) ∧ Hid (wr.ownsRow w.heap.size 72 1 v (namedJs l (s.data.toList.take k)).length (ptrsOf nb (namedJs l (s.data.toList.take k)))) ∧ Hid (Below w.heap.size w wr) ∧ ∃ a n c, v = .slice a n c)
    (fun _ i _ => s.size - (intOf i).toNat)
  case atStart => exact ⟨0, Nat.zero_le _, rfl, rfl, World.ownsRow_nil _ _ _ _, Below.refl _ _, _, _, _, rfl⟩
  case round =>
    obtain ⟨k, hk, rfl, HK, HO, HB, a, n, c, rfl⟩ := hrel
    have hk0 : (0 : Int) ≤ (k : Int) := Int.natCast_nonneg _
    by_cases hlt : k < s.size
    · have hlt' : (k : Int) < (s.size : Int) := by omega
      have h1 : (k : Int) + 1 ≤ (s.size : Int) := by omega
      obtain ⟨t1, t2⟩ := named_take (l := l) s hlt
      have HM : Hid (s[k] ∈ s.data.toList) := by
        show s.data.toList[k]'(by simpa using hlt) ∈ _
        exact List.getElem_mem _
      have HX := Lib.hid (one_byte s hlt)
      have HT1 := Lib.hid t1
      have HT2 := Lib.hid t2
      have hbd := bSeek_bd l s[k]
      clear t1 t2
      generalize s[k] = b at *
      have HNk := Lib.hid (HN.out.below HB.out)
      go_wp2_with fail
      refine (findNode_any _ _ _ _ _ _ _ HNk.out (by omega)).mono ?_
      rw [HX.out]
      rcases hbd with hbd | ⟨hb0, hb1⟩
      · have HF : Hid (namedOk l s.data.toList = false) := namedOk_bad HM.out (by omega)
        rw [found_none (by omega)]
        rintro e w1 ⟨rfl, rfl⟩
        clear hbd
        go_wp2
        refine bodyPost_ret (v := .tuple #[.slice none 0 0, .bool false]) (by simp [results, Try.results72, go_sem]) rfl ?_
        exact .inr ⟨HF.out, rfl, HB.out⟩
      · rw [found_byte hb0]
        rintro e w1 ⟨rfl, rfl⟩
        have hlen : (namedJs l (s.data.toList.take k)).length = k := by
          unfold namedJs
          rw [List.length_map, List.length_take]
          simp
          omega
        have HK1 : Hid (namedOk l (s.data.toList.take (k + 1)) = true) := by
          show _ = _
          rw [HT1.out, HK.out, decide_eq_true hb0]
          rfl
        generalize (bSeek l b).toNat = j at *
        clear hb0 hb1
        have HJ : Hid (ptrsOf nb (namedJs l (s.data.toList.take (k + 1))) = ptrsOf nb (namedJs l (s.data.toList.take k)) ++ [.pointer (some ⟨nb j, 0, none⟩)] ∧ (namedJs l (s.data.toList.take (k + 1))).length = (namedJs l (s.data.toList.take k)).length + 1) := by
          rw [HT2.out]
          exact ⟨by simp [ptrsOf, ptrTo], by simp⟩
        have hHO := HO.out
        rw [hlen] at hHO
        have HO2 := Lib.hid (hHO.alloc (.cells #[.pointer (some ⟨nb j, 0, none⟩)] 72))
        clear hHO
        have hbz := HB.out.size
        go_wp2_with (at_builtin; refine wpList_append_own_at _ rfl _ _ 61 rfl w.heap.size 72 i0 (.pointer none) 1 8 Try.underlying61 I0.out Z0.out Z1.out Z2.out rfl (by decide) _ _ _ rfl HO2.out ⟨wr.heap.size, 0, none⟩ 1 1 [.pointer (some ⟨nb j, 0, none⟩)] rfl rfl (cell_one_new _ _ _) (by simp [Value.oneCell']) (by unfold maxLen; omega) (by omega) (by simp; omega) ?_; intro v4 w4 hown4 hgrow _ _)
        have HB4 : Hid (Below w.heap.size w w4) := (HB.out.alloc hbz _).grown hgrow (by simp; omega) (fun q hq => (World.ownsRow.lt HO2.out q hq).1)
        have HO4 : Hid (w4.ownsRow w.heap.size 72 1 v4 (namedJs l (s.data.toList.take (k + 1))).length (ptrsOf nb (namedJs l (s.data.toList.take (k + 1))))) := by
          show World.ownsRow _ _ _ _ _ _ _
          rw [HJ.out.1, HJ.out.2, hlen]
          exact hown4
        have HV : ∃ a n c, v4 = .slice a n c := by
          obtain ⟨q, cap, rfl⟩ := own_form hown4 (by omega)
          exact ⟨_, _, _, rfl⟩
        clear hown4 hgrow
        go_roundw
        case rel => exact ⟨k + 1, by omega, by go_num, HK1, HO4, HB4, HV⟩
        case measure => simp [intOf]; omega
    · obtain rfl : k = s.size := by omega
      have e : s.data.toList.take s.size = s.data.toList := List.take_of_length_le (by simp)
      rw [e] at HK HO
      go_wp2
      refine bodyPost_ret (v := .tuple #[.slice a n c, .bool true]) (by simp [results, Try.results72, go_sem]) rfl ?_
      exact .inl ⟨HK.out, _, rfl, HO.out, HB.out⟩

end Go.Proofs.Ytcpiojliakgdlaa

/- impl.needsFor: what is to be met, as functions. -/
namespace Go.Proofs.Ytcpiojliakgdlaa
open Go.RowKit Go.Shelf

/-- What the loop over needs keeps. -/
structure Going (w1 : World) (H b : Nat) (fv : Value) (fs : List Value) (T : List Nat) (bs : List Value) (W : World) : Prop where
  held : Row W H 64 (bitCells (inT T))
  text : Lib.IsBuilderF 90 5 w1.heap.size b bs W
  funcs : W.ownsRow w1.heap.size 68 1 fv fs.length fs
  below : Below w1.heap.size w1 W
  low : w1.heap.size ≤ H ∧ w1.heap.size ≤ b ∧ b ≠ H
theorem Going.put {w1 W : World} {H b : Nat} {fv : Value} {fs : List Value} {T : List Nat} {bs : List Value} (h : Going w1 H b fv fs T bs W) (U : List Nat) : Going w1 H b fv fs U bs (putBits W H (inT U)) := by
  have hne : ∀ g, fv.ownBlock = some g → g ≠ H := fun g hg e => by
    rcases h.funcs.2 with ⟨rfl, _⟩ | ⟨g', cap, cur, rfl, _, hh, _⟩
    · cases hg
    · have : g' = g := by simpa [Value.ownBlock] using hg
      subst this
      subst e
      have h1 : W.heap[g']? = some (.cells _ 64 (0, 0)) := h.held
      rw [hh] at h1
      injection h1 with h1
      injection h1 with _ h2
      exact absurd h2 (by decide)
  refine ⟨putBits_row h.held, ?_, own_keep h.funcs (fun g hg => putBits_block W H _ (hne g hg)), putBits_below h.below h.low.1, h.low⟩
  have key : ∀ p, Lib.BuilderAtF 90 5 w1.heap.size b p bs W → Lib.BuilderAtF 90 5 w1.heap.size b p bs (putBits W H (inT U)) := fun p hp => by
    obtain ⟨h1, v, h2, h3, h4⟩ := hp
    refine ⟨h1, v, (putBits_block W H _ h.low.2.2).trans h2, ⟨h3.1, ?_⟩, h4⟩
    rcases h3.2 with h5 | ⟨g, cap, cur, fz, hv, hg, hh, r⟩
    · exact .inl h5
    · refine .inr ⟨g, cap, cur, fz, hv, hg, (putBits_block W H _ (fun e => ?_)).trans hh, r⟩
      subst e
      have h6 : W.heap[g]? = some (.cells _ 64 (0, 0)) := h.held
      rw [hh] at h6
      injection h6 with h6
      injection h6 with _ h7
      exact absurd h7 (by decide)
  exact h.text.elim (fun x => .inl (key _ x)) (fun x => .inr (key _ x))
end Go.Proofs.Ytcpiojliakgdlaa
/- ChainLies on both sides. -/
namespace Go.Proofs.Ytcpiojliakgdlaa
open Go.RowKit Go.Shelf

/-- The set of the first of some indices. -/
def memF (js : List Nat) (j : Nat) : Bool := decide (j ∈ js)
theorem memF_snoc (js : List Nat) (i : Nat) : setF (fun j => memF js j || decide (j = i)) = setF (memF (js ++ [i])) := by
  apply setF_congr
  intro j _
  unfold memF
  rw [Bool.eq_iff_iff, Bool.or_eq_true, decide_eq_true_eq, decide_eq_true_eq, decide_eq_true_eq, List.mem_append, List.mem_singleton]

set_option maxRecDepth 100000 in
set_option maxHeartbeats 1000000 in
theorem setOf_any (B g : Nat) (l : List Seg) (nb : Nat → Nat) (cv : Nat → Value) (js : List Nat) (v : Value) (B2 : Nat) (w : World) (h : Nodes w B g l.length l.length l nb cv) (hv : validB l = true) (hj : ∀ j ∈ js, j < l.length) (hjl : js.length ≤ 1048576)
    (hown : w.ownsRow B2 72 1 v js.length (ptrsOf nb js)) :
    Calls Try.prog 130 #[.slice (some ⟨g, 0, none⟩) l.length l.length, v] w fun e w' => e = .returned (.int .u64 (setF (memF js) : Int)) ∧ w = w' := by
  have h8 := (valid_all hv).2.1
  have HIX := Lib.hid (fun i (hi : i < l.length) => indexAll_any B g i l nb cv w h (by omega) hi)
  have HO := Lib.hid hown
  have HJ := Lib.hid hj
  clear h hv
  obtain ⟨a, cap, rfl⟩ : ∃ a cap, v = .slice a js.length cap := by
    rcases hown.2 with ⟨rfl, h0⟩ | ⟨g', cap, cur, rfl, _⟩
    · exact ⟨none, 0, by rw [h0]⟩
    · exact ⟨_, cap, rfl⟩
  clear hown hj
  have H0 : Hid (setF (memF (js.take 0)) = 0) := rfl
  go_enter Try.func130, Try.ntmps130
  go_wp2
  go_loop [5, 10] (fun o i => ∃ k : Nat, k ≤ js.length ∧ i = .int .i64 k ∧ o = .int .u64 (setF (memF (js.take k)) : Int))
    (fun _ i => js.length - (intOf i).toNat)
  case atStart => exact ⟨0, Nat.zero_le _, rfl, rfl⟩
  case round =>
    obtain ⟨k, hk, rfl, rfl⟩ := hrel
    have hk0 : (0 : Int) ≤ (k : Int) := Int.natCast_nonneg _
    by_cases hlt : k < js.length
    · have hlt' : (k : Int) < (js.length : Int) := by omega
      obtain ⟨g', cap', hv'⟩ := own_form HO.out (by omega)
      injection hv' with hA _ hc
      subst hA hc
      have c0 : w.cell? ⟨g', k, none⟩ = some (.pointer (some ⟨nb js[k], 0, none⟩)) := by
        rw [HO.out.cellAt k (by omega)]
        simp [ptrsOf, ptrTo, hlt]
      have hjk := HJ.out js[k] (List.getElem_mem hlt)
      have HS : Hid (js.take (k + 1) = js.take k ++ [js[k]]) := List.take_succ_eq_append_getElem hlt
      have HN := Lib.hid (HIX.out js[k] hjk)
      generalize js[k] = i at *
      have hi8 : i < 8 := by omega
      have HX := Lib.hid (memF_snoc (js.take k) i)
      go_wp2_with fail
      refine HN.out.mono ?_
      rintro e w1 ⟨rfl, rfl⟩
      go_wp2_with fail
      refine (with_any _ i _ hi8).mono ?_
      rintro e w1 ⟨rfl, rfl⟩
      go_wp2
      go_round
      case rel => exact ⟨k + 1, by omega, by go_num, by rw [HX.out, HS.out]⟩
      case measure => simp [intOf]; omega
    · obtain rfl : k = js.length := by omega
      rw [List.take_length]
      go_wp2
      go_ret
      exact ⟨rfl, rfl⟩

end Go.Proofs.Ytcpiojliakgdlaa
/- What stays: pins, their room, their loads. No program. -/
namespace Go.Proofs.Ytcpiojliakgdlaa
open Go.RowKit

/-- Pins: some segments but the root, each once, in the order of the tree. -/
def Pins10 (l : List Seg) (T : List Nat) : Prop := T.Pairwise (· < ·) ∧ ∀ j ∈ T, 0 < j ∧ j < l.length
theorem Pins10.lt {l : List Seg} {T : List Nat} (h : Pins10 l T) : ∀ j ∈ T, j < l.length := fun j hj => (h.2 j hj).2
theorem Pins10.all {l : List Seg} {T : List Nat} (h : Pins10 l T) (hn : 0 < l.length) : (0 :: T).Pairwise (· < ·) ∧ ∀ j ∈ 0 :: T, j < l.length := by
  refine ⟨List.pairwise_cons.2 ⟨fun j hj => (h.2 j hj).1, h.1⟩, fun j hj => ?_⟩
  rcases List.mem_cons.1 hj with rfl | hj
  · exact hn
  · exact h.lt j hj
theorem Pins10.nil {l : List Seg} : Pins10 l [] := ⟨List.Pairwise.nil, fun _ h => by cases h⟩
theorem asc_len10 : ∀ {T : List Nat} {a n : Nat}, T.Pairwise (· < ·) → (∀ j ∈ T, a ≤ j ∧ j < n) → T.length ≤ n - a
  | [], _, _, _, _ => Nat.zero_le _
  | t :: T, a, n, h, hj => by
    obtain ⟨h1, h2⟩ := List.pairwise_cons.1 h
    have h3 := asc_len10 (a := t + 1) h2 (fun j hm => ⟨h1 j hm, (hj j (List.mem_cons_of_mem _ hm)).2⟩)
    have h4 := hj t List.mem_cons_self
    rw [List.length_cons]
    omega
theorem Pins10.len {l : List Seg} {T : List Nat} (h : Pins10 l T) : T.length + 1 ≤ l.length ∨ T = [] := by
  cases hT : T with
  | nil => exact .inr rfl
  | cons t U =>
    have h1 := asc_len10 (a := 1) h.1 (fun j hj => ⟨(h.2 j hj).1, (h.2 j hj).2⟩)
    have h2 := (h.2 t (by rw [hT]; exact List.mem_cons_self)).2
    rw [hT] at h1
    left
    omega

/-- Which segments are among some names, and their names in the order of the tree. -/
def inS10 (l : List Seg) (bs : List UInt8) (i : Nat) : Bool := decide (byteOf l i ∈ bs)
def sortS10 (l : List Seg) (bs : List UInt8) : ByteArray := namesAt l (selIx (inS10 l bs) l.length)
def pinT10 (l : List Seg) (s : ByteArray) : List Nat := selIx (inS10 l s.data.toList) l.length
def pinOk10 (l : List Seg) (s : ByteArray) : Bool := validB l && (sameB (sortS10 l s.data.toList) s && !inS10 l s.data.toList 0)
theorem pinOk10_bad {l : List Seg} (s : ByteArray) (h : validB l = false) : pinOk10 l s = false := by unfold pinOk10; rw [h]; rfl
theorem selIx_same10 {f g : Nat → Bool} {n : Nat} (h : ∀ i, i < n → f i = g i) : selIx f n = selIx g n := by
  unfold selIx
  exact List.filter_congr fun i hi => h i (List.mem_range.1 hi)
theorem selIx_asc10 (f : Nat → Bool) (n : Nat) : (selIx f n).Pairwise (· < ·) := by
  unfold selIx
  exact List.Pairwise.filter _ List.pairwise_lt_range
theorem selIx_mem10 {f : Nat → Bool} {n j : Nat} : j ∈ selIx f n ↔ j < n ∧ f j = true := by
  unfold selIx
  rw [List.mem_filter, List.mem_range]
theorem pinOk10_pins {l : List Seg} {s : ByteArray} (h : pinOk10 l s = true) : validB l = true ∧ Pins10 l (pinT10 l s) ∧ namesAt l (pinT10 l s) = s := by
  unfold pinOk10 at h
  rw [Bool.and_eq_true, Bool.and_eq_true] at h
  obtain ⟨hv, h1, h2⟩ := h
  refine ⟨hv, ⟨selIx_asc10 _ _, fun j hj => ?_⟩, sameB_iff.1 h1⟩
  obtain ⟨hj1, hj2⟩ := selIx_mem10.1 hj
  refine ⟨?_, hj1⟩
  rcases Nat.eq_zero_or_pos j with rfl | hp
  · rw [hj2] at h2
    cases h2
  · exact hp
theorem inS10_names {l : List Seg} (hv : validB l = true) {T : List Nat} (hT : ∀ j ∈ T, j < l.length) {i : Nat} (hi : i < l.length) : inS10 l (namesAt l T).data.toList i = decide (i ∈ T) := by
  unfold inS10
  rw [namesAt_map hv T hT, decide_eq_decide, List.mem_map]
  constructor
  · rintro ⟨j, hj, he⟩
    rw [← byteOf_inj hv (hT j hj) hi he]
    exact hj
  · intro h
    exact ⟨i, h, rfl⟩
theorem pins_of10 {l : List Seg} (hv : validB l = true) {T : List Nat} (hT : Pins10 l T) : pinOk10 l (namesAt l T) = true ∧ pinT10 l (namesAt l T) = T := by
  have h0 : 0 < l.length := by have := (valid_all hv).2.2; omega
  have h1 : pinT10 l (namesAt l T) = T := by
    unfold pinT10
    rw [selIx_same10 (fun i hi => inS10_names hv hT.lt hi)]
    exact sel_mem hT.1 hT.lt
  refine ⟨?_, h1⟩
  unfold pinOk10
  rw [hv, inS10_names hv hT.lt h0]
  have h2 : sortS10 l (namesAt l T).data.toList = namesAt l T := by
    show namesAt l (pinT10 l (namesAt l T)) = _
    rw [h1]
  rw [sameB_iff.2 h2, decide_eq_false (fun h => Nat.lt_irrefl 0 (hT.2 0 h).1)]
  rfl
/-- What the program keeps of the segments that a text names. -/
def kept10 (js : List Nat) (j : Nat) : Bool := (memF js j || decide (j = 0)) && !decide (j = 0)
theorem pins_impl10 {l : List Seg} (hv : validB l = true) (s : ByteArray) : (namedOk l s.data.toList && sameB (namesAt l (selIx (kept10 (namedJs l s.data.toList)) l.length)) s) = pinOk10 l s := by
  have h0 : 0 < l.length := by have := (valid_all hv).2.2; omega
  rw [Bool.eq_iff_iff, Bool.and_eq_true]
  constructor
  · rintro ⟨h1, h2⟩
    have h3 := sameB_iff.1 h2
    have h4 : Pins10 l (selIx (kept10 (namedJs l s.data.toList)) l.length) := by
      refine ⟨selIx_asc10 _ _, fun j hj => ?_⟩
      obtain ⟨hj1, hj2⟩ := selIx_mem10.1 hj
      refine ⟨?_, hj1⟩
      rcases Nat.eq_zero_or_pos j with rfl | hp
      · unfold kept10 at hj2
        simp at hj2
      · exact hp
    have h5 := (pins_of10 hv h4).1
    rwa [h3] at h5
  · intro h
    obtain ⟨_, h1, h2⟩ := pinOk10_pins h
    obtain ⟨h3, h4⟩ := named_names hv _ h1.lt
    rw [h2] at h3 h4
    refine ⟨h3, sameB_iff.2 ?_⟩
    rw [h4]
    have h5 : selIx (kept10 (pinT10 l s)) l.length = pinT10 l s := by
      rw [selIx_same10 (g := fun j => decide (j ∈ pinT10 l s)) (fun i _ => ?_)]
      · exact sel_mem h1.1 h1.lt
      · unfold kept10 memF
        by_cases h0 : i = 0
        · subst h0
          rw [decide_eq_false (fun h => Nat.lt_irrefl 0 (h1.2 0 h).1)]
          rfl
        · rw [decide_eq_false h0]
          simp
    rw [h5, h2]
theorem pin_set10 {l : List Seg} {s : ByteArray} (h : pinOk10 l s = true) : namedJs l s.data.toList = pinT10 l s := by
  obtain ⟨hv, h1, h2⟩ := pinOk10_pins h
  have h3 := (named_names hv _ h1.lt).2
  rwa [h2] at h3

/-- The segments of a path that do not stay. -/
def outT10 (T P : List Nat) : List Nat := P.filter (fun j => decide (j ∉ 0 :: T))
def deep10 (l : List Seg) (T : List Nat) : Nat → Int
  | 0 => 0
  | k + 1 => max (deep10 l T k) (szs l (outT10 T (rp l k)))
def room10 (l : List Seg) (T : List Nat) : Int := sizeAt l 0 + szs l T + deep10 l T l.length
theorem szs_pos10 {l : List Seg} (hv : validB l = true) {js : List Nat} (hj : ∀ j ∈ js, j < l.length) : 0 ≤ szs l js ∧ szs l js ≤ 99 * (js.length : Int) := by
  have h1 := szs_bd hv js hj
  omega
theorem outT10_mem {T P : List Nat} {j : Nat} : j ∈ outT10 T P ↔ j ∈ P ∧ j ∉ 0 :: T := by
  unfold outT10
  rw [List.mem_filter, decide_eq_true_iff]
theorem outT10_lt {l : List Seg} (hd : Down l l.length) (T : List Nat) {i : Nat} (hi : i < l.length) : ∀ j ∈ outT10 T (rp l i), j < l.length := fun j hj => by
  have := rp_le hd i hi j (outT10_mem.1 hj).1
  omega
theorem outT10_len {l : List Seg} (T : List Nat) {i : Nat} (hi : i < l.length) : (outT10 T (rp l i)).length ≤ l.length := by
  have h1 : (outT10 T (rp l i)).length ≤ (rp l i).length := List.length_filter_le _ _
  have h2 := rootPath_len l (i + 1) i
  have h3 : (rp l i).length = (rootPath l (i + 1) i).length := rfl
  omega
theorem deep10_bd {l : List Seg} (hv : validB l = true) (T : List Nat) : ∀ k, k ≤ l.length → 0 ≤ deep10 l T k ∧ deep10 l T k ≤ 792
  | 0, _ => by simp [deep10]
  | k + 1, hk => by
    have h1 := deep10_bd hv T k (by omega)
    have h2 := szs_pos10 hv (outT10_lt (valid_all hv).1.down T (show k < l.length by omega))
    have h3 := outT10_len T (show k < l.length by omega)
    have h4 := (valid_all hv).2.1
    unfold deep10
    omega
theorem room10_bd {l : List Seg} (hv : validB l = true) {T : List Nat} (hT : Pins10 l T) : 0 ≤ szs l T ∧ szs l T ≤ 792 ∧ 0 ≤ room10 l T ∧ room10 l T ≤ 2000 := by
  have h1 := deep10_bd hv T l.length (Nat.le_refl _)
  have h2 := szs_pos10 hv hT.lt
  have h3 := (valid_all hv).2.1
  have h4 := sizeAt_bd hv (show 0 < l.length by have := (valid_all hv).2.2; omega)
  have h5 : T.length ≤ l.length := by
    rcases hT.len with h | h
    · omega
    · rw [h]; exact Nat.zero_le _
  unfold room10
  omega

/-- A size for each segment: none for what stays. -/
def szZ10 (l : List Seg) (S : Nat → Bool) (j : Nat) : Int := if S j = true then 0 else sizeAt l j
def enZ10 (l : List Seg) (sz : Nat → Int) (i : Nat) : Int := ((rp l i).map sz).sum
theorem enZ10_root {l : List Seg} {sz : Nat → Int} {i : Nat} (hp : parAt l i < 0) : enZ10 l sz i = sz i := by
  unfold enZ10
  rw [rp_root hp]
  simp
theorem enZ10_step {l : List Seg} {sz : Nat → Int} (hd : Down l l.length) {i p : Nat} (hi : i < l.length) (hp : parAt l i = (p : Int)) : enZ10 l sz i = enZ10 l sz p + sz i := by
  unfold enZ10
  rw [rp_step hd hi hp, List.map_append, List.sum_append_int]
  simp
theorem enZ10_bd {l : List Seg} {sz : Nat → Int} (hv : validB l = true) (hs : ∀ j, j < l.length → 0 ≤ sz j ∧ sz j ≤ 99) : ∀ i, i < l.length → 0 ≤ enZ10 l sz i ∧ enZ10 l sz i ≤ 99 * ((i : Int) + 1) :=
  rp_ind (valid_all hv).1.down (fun i hi hp => by
    have h1 := hs i hi
    rw [enZ10_root hp]
    omega) (fun i p hi hpi hp ih => by
    have h1 := hs i hi
    rw [enZ10_step (valid_all hv).1.down hi hp]
    omega)
theorem enZ10_small {l : List Seg} {sz : Nat → Int} (hv : validB l = true) (hs : ∀ j, j < l.length → 0 ≤ sz j ∧ sz j ≤ 99) {i : Nat} (hi : i < l.length) : 0 ≤ enZ10 l sz i ∧ enZ10 l sz i ≤ 792 := by
  have h1 := enZ10_bd hv hs i hi
  have h2 := (valid_all hv).2.1
  omega
def lastZ10 (l : List Seg) (sz : Nat → Int) : Nat → Nat
  | 0 => 0
  | k + 1 => if enZ10 l sz (lastZ10 l sz k) < enZ10 l sz (k + 1) then k + 1 else lastZ10 l sz k
theorem lastZ10_le (l : List Seg) (sz : Nat → Int) : ∀ k, lastZ10 l sz k ≤ k
  | 0 => Nat.le_refl 0
  | k + 1 => by
    have := lastZ10_le l sz k
    unfold lastZ10
    split <;> omega
theorem enZ10_out {l : List Seg} (T : List Nat) (i : Nat) : enZ10 l (szZ10 l (memF (0 :: T))) i = szs l (outT10 T (rp l i)) := by
  unfold enZ10 szs outT10
  generalize rp l i = P
  induction P with
  | nil => rfl
  | cons j P ih =>
    rw [List.map_cons, List.sum_cons, ih, List.filter_cons]
    unfold szZ10 memF
    by_cases h : j ∈ 0 :: T
    · rw [if_pos (decide_eq_true h), if_neg (by rw [decide_eq_true_iff]; exact fun h2 => h2 h)]
      omega
    · rw [if_neg (by rw [decide_eq_true_iff]; exact h), if_pos (decide_eq_true h), List.map_cons, List.sum_cons]
theorem szZ10_bd {l : List Seg} (hv : validB l = true) (S : Nat → Bool) : ∀ j, j < l.length → 0 ≤ szZ10 l S j ∧ szZ10 l S j ≤ 99 := fun j hj => by
  have h1 := sizeAt_bd hv hj
  unfold szZ10
  split <;> omega
theorem lastZ10_room {l : List Seg} (hv : validB l = true) (T : List Nat) : ∀ k, k < l.length → enZ10 l (szZ10 l (memF (0 :: T))) (lastZ10 l (szZ10 l (memF (0 :: T))) k) = deep10 l T (k + 1)
  | 0, hk => by
    have h1 := enZ10_small hv (szZ10_bd hv (memF (0 :: T))) hk
    have h2 := enZ10_out (l := l) T 0
    show enZ10 l _ 0 = max 0 (szs l (outT10 T (rp l 0)))
    omega
  | k + 1, hk => by
    have h1 := lastZ10_room hv T k (by omega)
    have h2 := enZ10_out (l := l) T (k + 1)
    have h3 : deep10 l T (k + 1 + 1) = max (deep10 l T (k + 1)) (szs l (outT10 T (rp l (k + 1)))) := rfl
    unfold lastZ10
    split <;> omega

/-- More pins never take less room. -/
theorem out_step10 (l : List Seg) (T : List Nat) (x : Nat) (hx : 0 ≤ sizeAt l x) : ∀ P : List Nat, P.Pairwise (· < ·) → szs l (outT10 T P) ≤ szs l (outT10 (T ++ [x]) P) + sizeAt l x ∧ (x ∉ P → outT10 (T ++ [x]) P = outT10 T P)
  | [], _ => ⟨by show (0 : Int) ≤ 0 + _; omega, fun _ => rfl⟩
  | j :: P, hp => by
    obtain ⟨h1, h2⟩ := List.pairwise_cons.1 hp
    obtain ⟨h3, h4⟩ := out_step10 l T x hx P h2
    have hc : ∀ U, outT10 U (j :: P) = if j ∉ 0 :: U then j :: outT10 U P else outT10 U P := fun U => by
      unfold outT10
      rw [List.filter_cons]
      by_cases h : j ∉ 0 :: U
      · rw [if_pos h, if_pos (decide_eq_true h)]
      · rw [if_neg h, if_neg (by rw [decide_eq_true_iff]; exact h)]
    have hs : ∀ U, szs l (j :: U) = sizeAt l j + szs l U := fun U => rfl
    by_cases e : j = x
    · subst e
      have hn : j ∉ P := fun h => Nat.lt_irrefl j (h1 j h)
      refine ⟨?_, fun h => absurd List.mem_cons_self h⟩
      rw [hc (T ++ [j]), if_neg (by simp), h4 hn, hc T]
      split
      · rw [hs]; omega
      · omega
    · have hm : j ∉ 0 :: (T ++ [x]) ↔ j ∉ 0 :: T := by simp [e]
      refine ⟨?_, fun h => ?_⟩
      · rw [hc, hc]
        by_cases h : j ∉ 0 :: T
        · rw [if_pos h, if_pos (hm.2 h), hs, hs]; omega
        · rw [if_neg h, if_neg (fun h5 => h (hm.1 h5))]; exact h3
      · rw [hc, hc, h4 (fun h5 => h (List.mem_cons_of_mem _ h5))]
        by_cases h : j ∉ 0 :: T
        · rw [if_pos h, if_pos (hm.2 h)]
        · rw [if_neg h, if_neg (fun h5 => h (hm.1 h5))]
theorem deep_step10 {l : List Seg} (hd : Down l l.length) (T : List Nat) (x : Nat) (hx : 0 ≤ sizeAt l x) : ∀ k, k ≤ l.length → deep10 l T k ≤ deep10 l (T ++ [x]) k + sizeAt l x
  | 0, _ => by show (0 : Int) ≤ 0 + _; omega
  | k + 1, hk => by
    have h1 := deep_step10 hd T x hx k (by omega)
    have h2 := (out_step10 l T x hx (rp l k) (rp_asc hd k (by omega))).1
    unfold deep10
    omega
theorem room10_mono {l : List Seg} (hv : validB l = true) (T : List Nat) {x : Nat} (hx : x < l.length) : room10 l T ≤ room10 l (T ++ [x]) := by
  have h1 := deep_step10 (valid_all hv).1.down T x (by have := sizeAt_bd hv hx; omega) l.length (Nat.le_refl _)
  have h2 := szs_snoc l T x
  unfold room10
  omega

/-- All pins that begin with some and go on with others, in their order. -/
def allR10 (fits : List Nat → Bool) : List Nat → List Nat → List (List Nat)
  | _, [] => []
  | T, x :: xs => ((if fits (T ++ [x]) = true then [T ++ [x]] else []) ++ allR10 fits (T ++ [x]) xs) ++ allR10 fits T xs
def all10 (fits : List Nat → Bool) (T xs : List Nat) : List (List Nat) := (if fits T = true then [T] else []) ++ allR10 fits T xs
theorem allR10_cons (fits : List Nat → Bool) (T : List Nat) (x : Nat) (xs : List Nat) : allR10 fits T (x :: xs) = all10 fits (T ++ [x]) xs ++ allR10 fits T xs := rfl
theorem allR10_len (fits : List Nat → Bool) : ∀ (xs T : List Nat), (allR10 fits T xs).length + 1 ≤ 2 ^ xs.length
  | [], _ => Nat.le_refl 1
  | x :: xs, T => by
    have h1 := allR10_len fits xs (T ++ [x])
    have h2 := allR10_len fits xs T
    rw [allR10_cons, all10, List.length_append, List.length_append, List.length_cons, Nat.pow_succ]
    have h3 : (if fits (T ++ [x]) = true then [T ++ [x]] else []).length ≤ 1 := by split <;> simp
    omega
theorem all10_len (fits : List Nat → Bool) (xs T : List Nat) : (all10 fits T xs).length ≤ 2 ^ xs.length := by
  have h1 := allR10_len fits xs T
  have h3 : (if fits T = true then [T] else []).length ≤ 1 := by split <;> simp
  rw [all10, List.length_append]
  omega
theorem allR10_mem {fits : List Nat → Bool} : ∀ (xs T U : List Nat), U ∈ allR10 fits T xs → fits U = true ∧ ∃ V, V.Sublist xs ∧ U = T ++ V
  | [], _, _, h => by cases h
  | x :: xs, T, U, h => by
    rw [allR10_cons, all10] at h
    rcases List.mem_append.1 h with h | h
    · rcases List.mem_append.1 h with h | h
      · by_cases hf : fits (T ++ [x]) = true
        · rw [if_pos hf, List.mem_singleton] at h
          subst h
          exact ⟨hf, [x], List.singleton_sublist.2 List.mem_cons_self, rfl⟩
        · rw [if_neg hf] at h; cases h
      · obtain ⟨h1, V, h2, h3⟩ := allR10_mem xs _ U h
        exact ⟨h1, x :: V, h2.cons_cons x, by rw [h3]; simp⟩
    · obtain ⟨h1, V, h2, h3⟩ := allR10_mem xs _ U h
      exact ⟨h1, V, h2.cons x, h3⟩
theorem all10_mem {fits : List Nat → Bool} {xs T U : List Nat} (h : U ∈ all10 fits T xs) : fits U = true ∧ ∃ V, V.Sublist xs ∧ U = T ++ V := by
  rcases List.mem_append.1 h with h | h
  · by_cases hf : fits T = true
    · rw [if_pos hf, List.mem_singleton] at h
      subst h
      exact ⟨hf, [], List.nil_sublist _, by simp⟩
    · rw [if_neg hf] at h; cases h
  · exact allR10_mem xs T U h
/-- All segments but the root, by their indices. -/
def rest10 (n : Nat) : List Nat := (List.range (n - 1)).map (· + 1)
theorem rest10_asc (n : Nat) : (rest10 n).Pairwise (· < ·) ∧ ∀ j ∈ rest10 n, 0 < j ∧ j < n := by
  unfold rest10
  refine ⟨?_, fun j hj => ?_⟩
  · rw [List.pairwise_map]
    exact List.pairwise_lt_range.imp (by intro a b h; omega)
  · obtain ⟨y, hy, rfl⟩ := List.mem_map.1 hj
    have := List.mem_range.1 hy
    omega
/-- All pins that fit in a room. -/
def fits10 (l : List Seg) (room : Int) (T : List Nat) : Bool := decide (room10 l T ≤ room)
def pinsAll10 (l : List Seg) (room : Int) : List (List Nat) := all10 (fits10 l room) [] (rest10 l.length)
theorem pinsAll10_pins {l : List Seg} {room : Int} {U : List Nat} (h : U ∈ pinsAll10 l room) : Pins10 l U ∧ room10 l U ≤ room := by
  obtain ⟨h1, V, h2, rfl⟩ := all10_mem h
  obtain ⟨h3, h4⟩ := rest10_asc l.length
  exact ⟨⟨List.Pairwise.sublist h2 h3, fun j hj => h4 j (h2.subset hj)⟩, of_decide_eq_true h1⟩
theorem pinsAll10_len {l : List Seg} (hv : validB l = true) (room : Int) : (pinsAll10 l room).length ≤ 128 := by
  have h1 := all10_len (fits10 l room) (rest10 l.length) []
  have h2 := (valid_all hv).2.1
  have h3 : (rest10 l.length).length = l.length - 1 := by unfold rest10; simp
  rw [h3] at h1
  have h4 : 2 ^ (l.length - 1) ≤ 2 ^ 7 := Nat.pow_le_pow_right (by decide) (by omega)
  unfold pinsAll10
  omega

/-- The need for a segment where some stay: its path without them. -/
def pathT10 (l : List Seg) (T : List Nat) (j : Nat) : List Nat := outT10 T (rp l j)
theorem namesAt_append10 (l : List Seg) (xs ys : List Nat) : namesAt l (xs ++ ys) = namesAt l xs ++ namesAt l ys := by
  apply WideShapes.bytes_inj
  show _ = (namesAt l xs ++ namesAt l ys).data.toList
  rw [ByteArray.data_append, Array.toList_append]
  show (xs ++ ys).flatMap (nmAt l) = xs.flatMap (nmAt l) ++ ys.flatMap (nmAt l)
  rw [List.flatMap_append]
end Go.Proofs.Ytcpiojliakgdlaa
/- The program's reader of traces: skip, readName, newCall. -/
namespace Go.Proofs.Ytcpiojliakgdlaa
open Go.RowKit

/-- The nodes' names lie below block 'b'. -/
def Known (w : World) (b g : Nat) (l : List Seg) (nb : Nat → Nat) : Prop :=
  g < b ∧ ∀ i x, l[i]? = some x → nb i < b ∧ w.cell? ⟨g, i, none⟩ = some (.pointer (some ⟨nb i, 0, none⟩)) ∧ w.cell? ⟨nb i, 0, none⟩ = some (.string x.name)
theorem Known.below {w w' : World} {b g : Nat} {l : List Seg} {nb : Nat → Nat} (h : Known w b g l nb) (hb : Below b w w') : Known w' b g l nb :=
  ⟨h.1, fun i x hx => by
    obtain ⟨h1, h2, h3⟩ := h.2 i x hx
    exact ⟨h1, (hb.cell (p := ⟨g, i, none⟩) h.1).trans h2, (hb.cell (p := ⟨nb i, 0, none⟩) h1).trans h3⟩⟩
theorem Only.belowRow {w w' : World} {b : Nat} (ho : Only w w' (· = b)) (hb : b ≤ w.heap.size) : Below b w w' :=
  Only.below (Below.refl b w) ho hb (fun k h1 h2 => by omega)

/-- A call that makes none, and one that makes some. -/
def leafV (c : UInt8) : Value := .iface 205 (.agg #[.string ⟨#[c]⟩])
def branchV (c : UInt8) (g n cap : Nat) : Value := .iface 207 (.agg #[.string ⟨#[c]⟩, .slice (some ⟨g, 0, none⟩) n cap])

end Go.Proofs.Ytcpiojliakgdlaa
/- The program's calls in memory, and how one is read: readCall. -/
namespace Go.Proofs.Ytcpiojliakgdlaa
open Go.RowKit

theorem cell_same {w w' : World} {g : Nat} (h : w'.heap[g]? = w.heap[g]?) (i : Nat) : w'.cell? ⟨g, i, none⟩ = w.cell? ⟨g, i, none⟩ := by
  simp [World.cell?, h]

/-- The calls 'f' lie in block 'g' from place 'o' on, those within them in blocks that 'S' names. -/
def Cells (w : World) (S : Nat → Prop) : Forest → Nat → Nat → Prop
  | .nil, _, _ => True
  | .cons c k r, g, o => (∃ v, w.cell? ⟨g, o, none⟩ = some v ∧ ((k.isNil = true ∧ v = leafV c) ∨ (k.isNil = false ∧ ∃ h cap, v = branchV c h k.len cap ∧ S h ∧ Cells w S k h 0))) ∧ Cells w S r g (o + 1)
def IsCall (w : World) (S : Nat → Prop) (c : UInt8) (k : Forest) (v : Value) : Prop :=
  (k.isNil = true ∧ v = leafV c) ∨ (k.isNil = false ∧ ∃ h cap, v = branchV c h k.len cap ∧ S h ∧ Cells w S k h 0)
theorem Cells.keep {w w' : World} {S S' : Nat → Prop} (hS : ∀ q, S q → S' q ∧ w'.heap[q]? = w.heap[q]?) : ∀ (f : Forest) (g o : Nat), w'.heap[g]? = w.heap[g]? → Cells w S f g o → Cells w' S' f g o
  | .nil, _, _, _, _ => trivial
  | .cons c k r, g, o, hg, h => by
    obtain ⟨⟨v, hv, hc⟩, hr⟩ := h
    refine ⟨⟨v, (cell_same hg o).trans hv, ?_⟩, Cells.keep hS r g (o + 1) hg hr⟩
    rcases hc with hc | ⟨h1, q, cap, e, hs, hk⟩
    · exact .inl hc
    · exact .inr ⟨h1, q, cap, e, (hS q hs).1, Cells.keep hS k q 0 (hS q hs).2 hk⟩
theorem IsCall.keep {w w' : World} {S S' : Nat → Prop} (hS : ∀ q, S q → S' q ∧ w'.heap[q]? = w.heap[q]?) {c : UInt8} {k : Forest} {v : Value} (h : IsCall w S c k v) : IsCall w' S' c k v := by
  rcases h with hc | ⟨h1, q, cap, e, hs, hk⟩
  · exact .inl hc
  · exact .inr ⟨h1, q, cap, e, (hS q hs).1, Cells.keep hS k q 0 (hS q hs).2 hk⟩

/-- A list of values is the calls 'f'. -/
def Vals (w : World) (S : Nat → Prop) : Forest → List Value → Prop
  | .nil, xs => xs = []
  | .cons c k r, xs => ∃ v vs, xs = v :: vs ∧ IsCall w S c k v ∧ Vals w S r vs
theorem Vals.keep {w w' : World} {S S' : Nat → Prop} (hS : ∀ q, S q → S' q ∧ w'.heap[q]? = w.heap[q]?) : ∀ (f : Forest) (xs : List Value), Vals w S f xs → Vals w' S' f xs
  | .nil, _, h => h
  | .cons c k r, xs, h => by
    obtain ⟨v, vs, e, hc, hr⟩ := h
    exact ⟨v, vs, e, hc.keep hS, Vals.keep hS r vs hr⟩
theorem Vals.snoc {w : World} {S : Nat → Prop} {c : UInt8} {k : Forest} {v : Value} (hc : IsCall w S c k v) : ∀ (f : Forest) (xs : List Value), Vals w S f xs → Vals w S (f.app (.cons c k .nil)) (xs ++ [v])
  | .nil, xs, h => by
    have h' : xs = [] := h
    subst h'
    exact ⟨v, [], rfl, hc, rfl⟩
  | .cons c' k' r, xs, h => by
    obtain ⟨v', vs, e, hc', hr⟩ := h
    subst e
    exact ⟨v', vs ++ [v], rfl, hc', Vals.snoc hc r vs hr⟩
theorem Vals.len {w : World} {S : Nat → Prop} : ∀ (f : Forest) (xs : List Value), Vals w S f xs → xs.length = f.len
  | .nil, xs, h => by
    have h' : xs = [] := h
    subst h'; rfl
  | .cons c k r, xs, h => by
    obtain ⟨v, vs, e, _, hr⟩ := h
    subst e
    show vs.length + 1 = r.len + 1
    rw [Vals.len r vs hr]
theorem Vals.cells {w : World} {S : Nat → Prop} {g : Nat} : ∀ (f : Forest) (xs : List Value) (o : Nat), Vals w S f xs → (∀ i, i < xs.length → w.cell? ⟨g, o + i, none⟩ = xs[i]?) → Cells w S f g o
  | .nil, _, _, _, _ => trivial
  | .cons c k r, xs, o, h, hx => by
    obtain ⟨v, vs, e, hc, hr⟩ := h
    subst e
    refine ⟨⟨v, ?_, hc⟩, Vals.cells r vs (o + 1) hr fun i hi => ?_⟩
    · exact hx 0 (by simp)
    · have := hx (i + 1) (by simp; omega)
      rw [show o + 1 + i = o + (i + 1) by omega, this]
      simp

/-- A slice of calls that the reader makes, block 'B' and later being its own. -/
def OwnCalls (w : World) (B : Nat) (v : Value) (f : Forest) : Prop :=
  ∃ xs, w.ownsRow B 193 1 v f.len xs ∧ Vals w (fun q => B ≤ q ∧ q < w.heap.size ∧ v.ownBlock ≠ some q) f xs
/-- A slice of calls that is read. -/
def SliceIs (w : World) (S : Nat → Prop) (v : Value) (f : Forest) : Prop :=
  ∃ A cap, v = .slice A f.len cap ∧ (0 < f.len → ∃ g, A = some ⟨g, 0, none⟩ ∧ S g ∧ Cells w S f g 0)
theorem SliceIs.keep {w w' : World} {S S' : Nat → Prop} (hS : ∀ q, S q → S' q ∧ w'.heap[q]? = w.heap[q]?) {v : Value} {f : Forest} (h : SliceIs w S v f) : SliceIs w' S' v f := by
  obtain ⟨A, cap, e, h⟩ := h
  refine ⟨A, cap, e, fun hl => ?_⟩
  obtain ⟨g, e1, hs, hc⟩ := h hl
  exact ⟨g, e1, (hS g hs).1, Cells.keep hS f g 0 (hS g hs).2 hc⟩
theorem OwnCalls.form {w : World} {B : Nat} {v : Value} {f : Forest} (h : OwnCalls w B v f) (hf : f.isNil = false) : ∃ g cap, v = .slice (some ⟨g, 0, none⟩) f.len cap ∧ B ≤ g ∧ g < w.heap.size ∧ Cells w (fun q => B ≤ q ∧ q < w.heap.size) f g 0 := by
  obtain ⟨xs, hown, hv⟩ := h
  rw [Forest.isNil_len] at hf
  have hl : f.len ≠ 0 := of_decide_eq_false hf
  have hx := Vals.len f xs hv
  rcases hown.2 with ⟨rfl, h0⟩ | ⟨g, cap, cur, rfl, hg, hh, r⟩
  · exact absurd h0 hl
  · refine ⟨g, cap, rfl, hg, (Array.getElem?_eq_some_iff.1 hh).1, ?_⟩
    refine Vals.cells f xs 0 (Vals.keep (fun q h => ⟨⟨h.1, h.2.1⟩, rfl⟩) f xs hv) fun i hi => ?_
    rw [Nat.zero_add]
    exact World.ownsRow.cellAt hown i (by omega)
theorem OwnCalls.slice {w : World} {B : Nat} {v : Value} {f : Forest} (h : OwnCalls w B v f) : SliceIs w (fun q => B ≤ q ∧ q < w.heap.size) v f := by
  cases hf : f.isNil with
  | false =>
    obtain ⟨g, cap, e, h1, h2, h3⟩ := h.form hf
    exact ⟨_, cap, e, fun _ => ⟨g, rfl, ⟨h1, h2⟩, h3⟩⟩
  | true =>
    rw [Forest.isNil_len] at hf
    have hl : f.len = 0 := of_decide_eq_true hf
    obtain ⟨xs, hown, hv⟩ := h
    rcases hown.2 with ⟨rfl, h0⟩ | ⟨g, cap, cur, rfl, hg, hh, r⟩
    · exact ⟨none, 0, by rw [hl], fun h => by omega⟩
    · exact ⟨_, cap, rfl, fun h => by omega⟩
theorem OwnCalls.nil (w : World) (B : Nat) : OwnCalls w B (.slice none 0 0) .nil := ⟨[], World.ownsRow_nil w B _ 1, rfl⟩
/-- What is written elsewhere leaves the slice as it is. -/
theorem OwnCalls.only {w w' : World} {B b : Nat} {v : Value} {f : Forest} (h : OwnCalls w B v f) (ho : Only w w' (· = b)) (hb : b < B) : OwnCalls w' B v f := by
  obtain ⟨xs, hown, hv⟩ := h
  refine ⟨xs, own_keep hown fun g hg => ?_, Vals.keep (fun q h => ⟨⟨h.1, Nat.lt_of_lt_of_le h.2.1 ho.size, h.2.2⟩, ho.block q h.2.1 (by have := h.1; omega)⟩) f xs hv⟩
  have := hown.lt g hg
  exact ho.block g this.2 (by omega)
/-- One more call is appended. -/
theorem OwnCalls.more {w W w' : World} {B c0 : Nat} {v v' u : Value} {f k : Forest} {c : UInt8} {xs : List Value} (hv : Vals w (fun q => B ≤ q ∧ q < w.heap.size ∧ v.ownBlock ≠ some q) f xs) 
    (hu : IsCall w (fun q => c0 ≤ q ∧ q < w.heap.size) c k u) (hc0 : B ≤ c0) (hvc : ∀ q, v.ownBlock = some q → q < c0)
    (hW : Below w.heap.size w W) (hg : W.grownBy w' v.ownBlock) (hown' : w'.ownsRow B 193 1 v' (f.len + 1) (xs ++ [u])) (hat : v'.ownBlock = v.ownBlock ∨ v'.ownBlock = some W.heap.size) :
    OwnCalls w' B v' (f.app (.cons c k .nil)) := by
  have hs := hW.size
  have hs2 := hg.size
  have keep : ∀ q, q < w.heap.size → v.ownBlock ≠ some q → w'.heap[q]? = w.heap[q]? := fun q h1 h2 => (hg.block q (by omega) (fun e => h2 e.symm)).trans (hW.block q h1)
  have ne : ∀ q, q < w.heap.size → v.ownBlock ≠ some q → v'.ownBlock ≠ some q := fun q h1 h2 => by
    rcases hat with e | e
    · rw [e]; exact h2
    · rw [e]; intro he; injection he with he; omega
  refine ⟨xs ++ [u], by rw [Forest.app_len]; exact hown', Vals.snoc ?_ f xs (Vals.keep (fun q h => ⟨⟨h.1, by omega, ne q h.2.1 h.2.2⟩, keep q h.2.1 h.2.2⟩) f xs hv)⟩
  refine hu.keep fun q h => ?_
  have h2 : v.ownBlock ≠ some q := fun e => by have := hvc q e; omega
  exact ⟨⟨by omega, by omega, ne q h.2 h2⟩, keep q h.2 h2⟩

/-- What one call reads. -/
def named (c : UInt8) : Got → Option (UInt8 × Forest × List UInt8)
  | none => none
  | some (k, r) => some (c, k, r)
theorem closed_app {f : Forest} (h : f.isNil = false) (u : List UInt8) : closed (some (f, 41 :: u)) = some (f, u) := by
  cases f with
  | nil => cases h
  | cons c k r => rfl
theorem closed_end (f : Forest) : closed (some (f, [])) = none := by cases f <;> rfl
theorem ahead_shut {P : UInt8 → Bool} {d : Nat} (f : Forest) (u : List UInt8) : ahead f (calls P d (41 :: u)) = some (f, 41 :: u) := by
  rw [calls_close]; show some (f.app .nil, 41 :: u) = _; rw [Forest.app_nil]
theorem ahead_end {P : UInt8 → Bool} {d : Nat} (f : Forest) : ahead f (calls P d []) = some (f, []) := by
  rw [calls_nil]; show some (f.app .nil, []) = _; rw [Forest.app_nil]
theorem IsCall.one {w : World} {S : Nat → Prop} {c : UInt8} {k : Forest} {v : Value} (h : IsCall w S c k v) : v.oneCell' = true := by
  rcases h with ⟨_, rfl⟩ | ⟨_, q, cap, rfl, _⟩ <;> rfl
theorem IsCall.iface {w : World} {S : Nat → Prop} {c : UInt8} {k : Forest} {v : Value} (h : IsCall w S c k v) : ∃ t x, v = .iface t x := by
  rcases h with ⟨_, rfl⟩ | ⟨_, q, cap, rfl, _⟩ <;> exact ⟨_, _, rfl⟩
end Go.Proofs.Ytcpiojliakgdlaa
/- The program's reader of traces: readCall, readOutermost. -/
namespace Go.Proofs.Ytcpiojliakgdlaa
open Go.RowKit

/-- The first call of a list: a slice of one. -/
theorem OwnCalls.one {w : World} {B c0 : Nat} {u : Value} {c : UInt8} {k : Forest} (hB : B ≤ c0) (hB2 : B ≤ w.heap.size) (hu : IsCall w (fun q => c0 ≤ q ∧ q < w.heap.size) c k u) :
    OwnCalls (w.alloc (.cells #[u] 193)) B (.slice (some ⟨w.heap.size, 0, none⟩) 1 1) (.cons c k .nil) := by
  refine ⟨[u], World.ownsRow_lit w #[u] 1 hB2 (by simp [maxLen]) rfl, u, [], rfl, ?_, rfl⟩
  refine hu.keep fun q h => ⟨⟨by omega, by simp; omega, ?_⟩, Below.heap_alloc w _ q h.2⟩
  intro e
  have : w.heap.size = q := by simpa [Value.ownBlock] using e
  omega

theorem Only.andLow {w w1 w2 : World} {may : Nat → Prop} (h : Only w w1 may) (hb : Below w.heap.size w1 w2) : Only w w2 may :=
  ⟨hb.os.trans h.os, hb.tape.trans h.tape, hb.output.trans h.output, Nat.le_trans h.size hb.size, fun k hk hm => (hb.block k hk).trans (h.block k hk hm)⟩
theorem OwnCalls.lt {w : World} {B : Nat} {v : Value} {f : Forest} (h : OwnCalls w B v f) : ∀ x, v.ownBlock = some x → B ≤ x ∧ x < w.heap.size := by
  obtain ⟨xs, hown, _⟩ := h
  exact fun x e => hown.lt x e

theorem Row.only {w w' : World} {b g : Nat} {t : TypeId} {cs : Array Value} (h : Row w g t cs) (ho : Only w w' (· = b)) (hg : g ≠ b) : Row w' g t cs := ho.row h hg

end Go.Proofs.Ytcpiojliakgdlaa
/- The program's readOutermost and readTrace: it recovers. -/
namespace Go.Proofs.Ytcpiojliakgdlaa
open Go.RowKit

/-- All is read. -/
def whole : Got → Option Forest
  | some (f, []) => some f
  | _ => none
end Go.Proofs.Ytcpiojliakgdlaa
