/- A row of texts of the call's own; marks in segments and in texts: what a law writes into what it was given, and whether it is held. -/
import Derived.Test.YtdbddockmdkmeaaDoorRg
import Derived.Test.YtdbddockmdkmeaaDoorLk
import Derived.Test.YtdbddockmdkmeaaDoorNo
import Derived.BigQuiet
namespace Go.Proofs.YtdbddockmdkmeaaDoor
open Go.RowKit

/-- Texts in a row of the call's own. -/
def OwnTexts (w : World) (B : Nat) (v : Value) (ts : List ByteArray) : Prop := w.ownsRow B 9 1 v ts.length (ts.map Value.string)
theorem OwnTexts.far {w w' : World} {B : Nat} {v : Value} {ts : List ByteArray} (h : OwnTexts w B v ts) (hk : ∀ g, v.ownBlock = some g → w'.heap[g]? = w.heap[g]?) : OwnTexts w' B v ts := by
  refine ⟨h.1, ?_⟩
  rcases h.2 with h0 | ⟨g', cap, cur, rfl, hg, hh, r⟩
  · exact .inl h0
  · exact .inr ⟨g', cap, cur, rfl, hg, (hk g' rfl).trans hh, r⟩
theorem OwnTexts.below {w w' : World} {B : Nat} {v : Value} {ts : List ByteArray} (h : OwnTexts w B v ts) (hb : Below w.heap.size w w') : OwnTexts w' B v ts := h.far fun g hg => hb.block g (World.ownsRow.lt h g hg).2
theorem info_str : (Tryd.prog.info? 9).map (fun i => (i.zero, i.size, i.bytes)) = some (some (.string ByteArray.empty), 1, 16) := by kernel_rfl

theorem OwnTexts.empty (w : World) {B : Nat} (hB : B ≤ w.heap.size) : OwnTexts (w.alloc (.cells #[] 9)) B (.slice (some ⟨w.heap.size, 0, none⟩) 0 0) [] :=
  World.ownsRow_lit w #[] 0 hB (by simp [maxLen]) rfl
theorem OwnTexts.one (w : World) {B : Nat} (hB : B ≤ w.heap.size) (s : ByteArray) : OwnTexts (w.alloc (.cells #[.string s] 9)) B (.slice (some ⟨w.heap.size, 0, none⟩) 1 1) [s] :=
  World.ownsRow_lit w #[.string s] 1 hB (by simp [maxLen]) rfl
theorem OwnTexts.form {w : World} {B : Nat} {v : Value} {ts : List ByteArray} (h : OwnTexts w B v ts) (hn : 0 < ts.length) : ∃ g cap, v = .slice (some ⟨g, 0, none⟩) ts.length cap := own_form h hn

end Go.Proofs.YtdbddockmdkmeaaDoor
namespace Go.Proofs.YtdbddockmdkmeaaDoor.St
open Go.RowKit

def digC (m : Nat) : UInt8 := UInt8.ofNat (48 + m % 10)
theorem digC_nat (m : Nat) : (digC m).toNat = 48 + m % 10 := by
  unfold digC
  rw [UInt8.toNat_ofNat']
  omega
/-- The decimal digits of a number, ahead of a text. -/
def mtl (k : Nat) (out : ByteArray) : ByteArray := if _h : k = 0 then out else mtl (k / 10) (⟨#[digC k]⟩ ++ out)
termination_by k
decreasing_by omega
theorem mtl_zero (out : ByteArray) : mtl 0 out = out := by
  rw [mtl]
  exact dif_pos rfl
theorem mtl_step {k : Nat} (h : 0 < k) (out : ByteArray) : mtl k out = mtl (k / 10) (⟨#[digC k]⟩ ++ out) := by
  conv => lhs; rw [mtl]
  exact dif_neg (by omega)
def mt (k : Nat) : ByteArray := ⟨#[109]⟩ ++ mtl k ⟨#[]⟩

theorem onlyRefl (w : World) (may : Nat → Prop) : Only w w may := ⟨rfl, rfl, rfl, Nat.le_refl _, fun _ _ _ => rfl⟩
theorem onlyBelow {w w1 w2 : World} {may : Nat → Prop} (h : Only w w1 may) (hb : Below w1.heap.size w1 w2) : Only w w2 may :=
  ⟨hb.os.trans h.os, hb.tape.trans h.tape, hb.output.trans h.output, Nat.le_trans h.size hb.size, fun k hk hn => (hb.block k (Nat.lt_of_lt_of_le hk h.size)).trans (h.block k hk hn)⟩
theorem onlyPut {w w' : World} {may : Nat → Prop} (h : Only w w' may) {b : Nat} (hm : may b) (i : Nat) (u : Value) : Only w (w'.setCell ⟨b, i, none⟩ u) may := by
  have hb : Below 0 w' (w'.setCell ⟨b, i, none⟩ u) := (Below.refl 0 w').setCell (Nat.zero_le _) u
  exact ⟨hb.os.trans h.os, hb.tape.trans h.tape, hb.output.trans h.output, by have := h.size; have := hb.size; omega, fun k hk hn => (Below.heap_setCell w' ⟨b, i, none⟩ u k (fun e => hn (by rw [e]; exact hm))).trans (h.block k hk hn)⟩

/-- A slice of texts in memory below 'B'. -/
def Strs (w : World) (B : Nat) (A : Option Addr) (ts : List ByteArray) : Prop :=
  0 < ts.length → ∃ b o, A = some ⟨b, o, none⟩ ∧ b < B ∧ ∀ (k : Nat) (s : ByteArray), ts[k]? = some s → w.cell? ⟨b, o + k, none⟩ = some (.string s)
theorem Strs.below {w w' : World} {B : Nat} {A : Option Addr} {l : List ByteArray} (h : Strs w B A l) (hb : Below B w w') : Strs w' B A l := fun hl => by
  obtain ⟨b, o, e, hB, hc⟩ := h hl
  refine ⟨b, o, e, hB, fun k s hk => ?_⟩
  rw [hb.cell hB]
  exact hc k s hk
theorem Strs.more {w : World} {B B' : Nat} {A : Option Addr} {l : List ByteArray} (h : Strs w B A l) (hB : B ≤ B') : Strs w B' A l := fun hl => by
  obtain ⟨b, o, e, hb, hc⟩ := h hl
  exact ⟨b, o, e, Nat.lt_of_lt_of_le hb hB, hc⟩
theorem textsCell {w : World} {B g cap : Nat} {ts : List ByteArray} (h : OwnTexts w B (.slice (some ⟨g, 0, none⟩) ts.length cap) ts) {i : Nat} {s : ByteArray} (hi : ts[i]? = some s) : w.cell? ⟨g, i, none⟩ = some (.string s) := by
  have hlt := (List.getElem?_eq_some_iff.1 hi).1
  have := World.ownsRow.cellAt h i (by omega)
  rw [this, List.getElem?_map, hi]
  rfl
theorem textsForm {w : World} {B : Nat} {v : Value} {ts : List ByteArray} (h : OwnTexts w B v ts) : ∃ A cap, v = .slice A ts.length cap ∧ Strs w w.heap.size A ts := by
  have h' := h
  rcases h.2 with ⟨rfl, h0⟩ | ⟨g, cap, cur, rfl, hg, hh, r⟩
  · exact ⟨none, 0, by rw [h0], fun h => absurd h (by omega)⟩
  · refine ⟨_, cap, rfl, fun _ => ⟨g, 0, rfl, (Array.getElem?_eq_some_iff.1 hh).1, fun k s hk => ?_⟩⟩
    rw [Nat.zero_add]
    exact textsCell h' hk
theorem textsFree {w : World} {B g cap n : Nat} {ts : List ByteArray} (h : OwnTexts w B (.slice (some ⟨g, 0, none⟩) n cap) ts) (j : Nat) : w.frozen? ⟨g, j, none⟩ = false := by
  rcases h.2 with ⟨h0, _⟩ | ⟨g', cap', cur, hv, hg, hh, _⟩
  · cases h0
  · injection hv with hv1 _ hv3
    injection hv1 with hv1
    injection hv1 with hv1
    subst hv1
    exact Row.free (hh : Row w g _ cur) j
theorem textsStore {w : World} {B g cap : Nat} {ts : List ByteArray} (h : OwnTexts w B (.slice (some ⟨g, 0, none⟩) ts.length cap) ts) (i : Nat) (s : ByteArray) :
    OwnTexts (w.setCell ⟨g, i, none⟩ (.string s)) B (.slice (some ⟨g, 0, none⟩) ts.length cap) (ts.set i s) := by
  unfold OwnTexts at h ⊢
  rw [List.length_set]
  refine ⟨by simp, ?_⟩
  rcases h.2 with ⟨h0, _⟩ | ⟨g', cap', cur, hv, hg, hh, h1, h2, h3, h4⟩
  · cases h0
  · injection hv with hv1 _ hv3
    injection hv1 with hv1
    injection hv1 with hv1
    subst hv1 hv3
    have hr : Row w g 9 cur := hh
    refine .inr ⟨g, cap, _, rfl, hg, hr.put i _, h1, h2, by simpa using h3, ?_⟩
    rw [List.map_set, ← h4]
    simp only [Array.toList_setIfInBounds, List.take_set]
theorem textsFar {w w' : World} {B : Nat} {v : Value} {ts : List ByteArray} {may : Nat → Prop} (h : OwnTexts w B v ts) (ho : Only w w' may) (hm : ∀ g, v.ownBlock = some g → ¬ may g) : OwnTexts w' B v ts :=
  h.far fun g hg => ho.block g (World.ownsRow.lt h g hg).2 (hm g hg)

/-- The first 'i' are marked. -/
def smarked (ts : List ByteArray) (k : Nat) : Nat → List ByteArray
  | 0 => ts
  | i + 1 => (smarked ts k i).set i (mt (k + i))
theorem smarked_len (l : List ByteArray) (k : Nat) : ∀ i, (smarked l k i).length = l.length
  | 0 => rfl
  | i + 1 => by
    show ((smarked l k i).set i _).length = _
    rw [List.length_set, smarked_len l k i]
theorem smarked_at (l : List ByteArray) (k : Nat) : ∀ i j, j < i → i ≤ l.length → (smarked l k i)[j]? = some (mt (k + j))
  | 0, _, h, _ => absurd h (by omega)
  | i + 1, j, h, hi => by
    show ((smarked l k i).set i _)[j]? = _
    by_cases hj : j = i
    · subst hj
      rw [List.getElem?_set_self (by rw [smarked_len]; omega)]
    · rw [List.getElem?_set_ne (by omega)]
      exact smarked_at l k i j (by omega) (by omega)

set_option maxHeartbeats 400000 in
theorem toSegmentS_row (A : Option Addr) (l : List Seg) (c : Nat) (w : World) (hw : Segs w w.heap.size A l) (hl : l.length ≤ 1048576) :
    Calls Tryd.prog 46 #[.slice A l.length c] w fun e w' => e = .returned (.slice (some ⟨w.heap.size, 0, none⟩) l.length l.length) ∧ Below w.heap.size w w' ∧ Segs w' w'.heap.size (some ⟨w.heap.size, 0, none⟩) l ∧ ∃ cs, Row w' w.heap.size 66 cs ∧ cs.size = l.length * 3 := by
  have HW : Hid (Segs w w.heap.size A l) := hw
  clear hw
  have hmk := run_make_segs l.length hl
  go_enter Tryd.func46, Tryd.ntmps46
  go_wp2
  go_loopw [4] (fun i wr => ∃ (k : Nat) (cs : Array Value), k ≤ l.length ∧ i = .int .i64 k ∧ Below w.heap.size w wr ∧ Row wr w.heap.size 66 cs ∧ Filled l k cs)
    (fun i _ => l.length - (intOf i).toNat)
  case atStart => exact ⟨0, _, Nat.zero_le _, rfl, (Below.refl _ _).alloc (Nat.le_refl _) _, Row.new _ _ _, Filled.start _ (size_madeCells _ _)⟩
  case round =>
    obtain ⟨k, cs, hk, rfl, hb, hrow, hf⟩ := hrel
    have hz : w.heap.size < wr.heap.size := hrow.lt
    by_cases hlt : k < l.length
    · obtain ⟨b, o, rfl, hB, hc⟩ := HW.out (by omega)
      obtain ⟨c0, c1, c2⟩ := hc k l[k] (List.getElem?_eq_getElem hlt)
      clear hc
      rw [← hb.cell hB] at c0 c1 c2
      have HN := Lib.hid (hf.next hlt)
      have HS := Lib.hid hf.1
      clear hf
      generalize l[k] = s at *
      go_wp2_with fail
      refine (toSegment_any s.name s.size s.par _).mono ?_
      rintro e w1 ⟨rfl, hb1⟩
      have hrow1 := hrow.below hb1 hz
      clear hrow
      have hb2 : Below w.heap.size w w1 := hb.trans (hb1.mono hb.size)
      have f0 := hrow1.free (k * 3)
      have f1 := hrow1.free (k * 3 + 1)
      have f2 := hrow1.free (k * 3 + 2)
      have d0 : w1.cell? ⟨w.heap.size, k * 3, none⟩ = some (cs[k * 3]'(by have := HS.out; omega)) := by rw [hrow1.cell, Array.getElem?_eq_getElem]
      have d1 : w1.cell? ⟨w.heap.size, k * 3 + 1, none⟩ = some (cs[k * 3 + 1]'(by have := HS.out; omega)) := by rw [hrow1.cell, Array.getElem?_eq_getElem]
      have d2 : w1.cell? ⟨w.heap.size, k * 3 + 2, none⟩ = some (cs[k * 3 + 2]'(by have := HS.out; omega)) := by rw [hrow1.cell, Array.getElem?_eq_getElem]
      have HR := Lib.hid hrow1
      clear hrow1
      generalize cs[k * 3]'_ = u0 at *
      generalize cs[k * 3 + 1]'_ = u1 at *
      generalize cs[k * 3 + 2]'_ = u2 at *
      go_wp2
      go_roundw
      case rel => exact ⟨k + 1, _, by omega, by go_num, ((hb2.setCell (Nat.le_refl _) _).setCell (Nat.le_refl _) _).setCell (Nat.le_refl _) _, ((HR.out.put _ _).put _ _).put _ _, HN.out⟩
      case measure => simp [intOf]; omega
    · obtain rfl : k = l.length := by omega
      have hd := hf.done hrow
      have HQ := Lib.hid hrow
      have HQ2 := Lib.hid hf.1
      clear hf hrow
      go_wp2
      go_ret
      exact ⟨rfl, hb, hd, _, HQ.out, HQ2.out⟩

end Go.Proofs.YtdbddockmdkmeaaDoor.St

namespace Go.Proofs.YtdbddockmdkmeaaDoor
open Go.RowKit

theorem strsOf {w : World} {B n cap : Nat} {A : Option Addr} {ts : List ByteArray} (h : OwnTexts w B (.slice A n cap) ts) : St.Strs w w.heap.size A ts := by
  obtain ⟨A', cap', e, h'⟩ := St.textsForm h
  injection e with e1 e2 e3
  rw [e1]
  exact h'

end Go.Proofs.YtdbddockmdkmeaaDoor
