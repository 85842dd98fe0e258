/- Joined: Ti Aq Ar. -/
import Derived.Test.YtifkmehnikfihaaU13
import Derived.Test.YtifkmehnikfihaaU17
import Derived.Test.YtifkmehnikfihaaU01
import Derived.Test.YtifkmehnikfihaaU14
/- A row of numbers of the call's own; marks in numbers: what a law writes into what it was given, and whether it is held. -/
namespace Go.Proofs.Ytifkmehnikfihaa.Si
open Go.RowKit

/-- Numbers in a row of the call's own. -/
def OwnInts (w : World) (B : Nat) (v : Value) (ts : List Int) : Prop := w.ownsRow B 3 1 v ts.length (ts.map (Value.int .i64))
theorem OwnInts.far {w w' : World} {B : Nat} {v : Value} {ts : List Int} (h : OwnInts w B v ts) (hk : ∀ g, v.ownBlock = some g → w'.heap[g]? = w.heap[g]?) : OwnInts w' B v ts := by
  refine ⟨h.1, ?_⟩
  rcases h.2 with h0 | ⟨g', cap, cur, rfl, hg, hh, r⟩
  · exact .inl h0
  · exact .inr ⟨g', cap, cur, rfl, hg, (hk g' rfl).trans hh, r⟩
theorem OwnInts.below {w w' : World} {B : Nat} {v : Value} {ts : List Int} (h : OwnInts w B v ts) (hb : Below w.heap.size w w') : OwnInts w' B v ts := h.far fun g hg => hb.block g (World.ownsRow.lt h g hg).2
theorem OwnInts.empty (w : World) {B : Nat} (hB : B ≤ w.heap.size) : OwnInts (w.alloc (.cells #[] 3)) B (.slice (some ⟨w.heap.size, 0, none⟩) 0 0) [] :=
  World.ownsRow_lit w #[] 0 hB (by simp [maxLen]) rfl
/-- A slice of numbers in memory below 'B'. -/
def Ints (w : World) (B : Nat) (A : Option Addr) (ts : List Int) : Prop :=
  0 < ts.length → ∃ b o, A = some ⟨b, o, none⟩ ∧ b < B ∧ ∀ (k : Nat) (s : Int), ts[k]? = some s → w.cell? ⟨b, o + k, none⟩ = some (.int .i64 s)
theorem Ints.below {w w' : World} {B : Nat} {A : Option Addr} {l : List Int} (h : Ints w B A l) (hb : Below B w w') : Ints w' B A l := fun hl => by
  obtain ⟨b, o, e, hB, hc⟩ := h hl
  refine ⟨b, o, e, hB, fun k s hk => ?_⟩
  rw [hb.cell hB]
  exact hc k s hk
theorem Ints.more {w : World} {B B' : Nat} {A : Option Addr} {l : List Int} (h : Ints w B A l) (hB : B ≤ B') : Ints w B' A l := fun hl => by
  obtain ⟨b, o, e, hb, hc⟩ := h hl
  exact ⟨b, o, e, Nat.lt_of_lt_of_le hb hB, hc⟩
theorem intsCell {w : World} {B g cap : Nat} {ts : List Int} (h : OwnInts w B (.slice (some ⟨g, 0, none⟩) ts.length cap) ts) {i : Nat} {s : Int} (hi : ts[i]? = some s) : w.cell? ⟨g, i, none⟩ = some (.int .i64 s) := by
  have hlt := (List.getElem?_eq_some_iff.1 hi).1
  have := World.ownsRow.cellAt h i (by omega)
  rw [this, List.getElem?_map, hi]
  rfl
theorem intsForm {w : World} {B : Nat} {v : Value} {ts : List Int} (h : OwnInts w B v ts) : ∃ A cap, v = .slice A ts.length cap ∧ Ints w w.heap.size A ts := by
  have h' := h
  rcases h.2 with ⟨rfl, h0⟩ | ⟨g, cap, cur, rfl, hg, hh, r⟩
  · exact ⟨none, 0, by rw [h0], fun h => absurd h (by omega)⟩
  · refine ⟨_, cap, rfl, fun _ => ⟨g, 0, rfl, (Array.getElem?_eq_some_iff.1 hh).1, fun k s hk => ?_⟩⟩
    rw [Nat.zero_add]
    exact intsCell h' hk
theorem intsOf {w : World} {B n cap : Nat} {A : Option Addr} {ts : List Int} (h : OwnInts w B (.slice A n cap) ts) : Ints w w.heap.size A ts := by
  obtain ⟨A', cap', e, h'⟩ := intsForm h
  injection e with e1 e2 e3
  rw [e1]
  exact h'
theorem intsFree {w : World} {B g cap n : Nat} {ts : List Int} (h : OwnInts w B (.slice (some ⟨g, 0, none⟩) n cap) ts) (j : Nat) : w.frozen? ⟨g, j, none⟩ = false := by
  rcases h.2 with ⟨h0, _⟩ | ⟨g', cap', cur, hv, hg, hh, _⟩
  · cases h0
  · injection hv with hv1 _ hv3
    injection hv1 with hv1
    injection hv1 with hv1
    subst hv1
    exact Row.free (hh : Row w g _ cur) j
theorem intsStore {w : World} {B g cap : Nat} {ts : List Int} (h : OwnInts w B (.slice (some ⟨g, 0, none⟩) ts.length cap) ts) (i : Nat) (s : Int) :
    OwnInts (w.setCell ⟨g, i, none⟩ (.int .i64 s)) B (.slice (some ⟨g, 0, none⟩) ts.length cap) (ts.set i s) := by
  unfold OwnInts at h ⊢
  rw [List.length_set]
  refine ⟨by simp, ?_⟩
  rcases h.2 with ⟨h0, _⟩ | ⟨g', cap', cur, hv, hg, hh, h1, h2, h3, h4⟩
  · cases h0
  · injection hv with hv1 _ hv3
    injection hv1 with hv1
    injection hv1 with hv1
    subst hv1 hv3
    have hr : Row w g 3 cur := hh
    refine .inr ⟨g, cap, _, rfl, hg, hr.put i _, h1, h2, by simpa using h3, ?_⟩
    rw [List.map_set, ← h4]
    simp only [Array.toList_setIfInBounds, List.take_set]
theorem intsFar {w w' : World} {B : Nat} {v : Value} {ts : List Int} {may : Nat → Prop} (h : OwnInts w B v ts) (ho : Only w w' may) (hm : ∀ g, v.ownBlock = some g → ¬ may g) : OwnInts w' B v ts :=
  h.far fun g hg => ho.block g (World.ownsRow.lt h g hg).2 (hm g hg)

/-- The first 'i' are marked. -/
def imarked (ts : List Int) (k : Nat) : Nat → List Int
  | 0 => ts
  | i + 1 => (imarked ts k i).set i ((k + i : Nat) : Int)
theorem imarked_len (l : List Int) (k : Nat) : ∀ i, (imarked l k i).length = l.length
  | 0 => rfl
  | i + 1 => by
    show ((imarked l k i).set i _).length = _
    rw [List.length_set, imarked_len l k i]
theorem imarked_at (l : List Int) (k : Nat) : ∀ i j, j < i → i ≤ l.length → (imarked l k i)[j]? = some ((k + j : Nat) : Int)
  | 0, _, h, _ => absurd h (by omega)
  | i + 1, j, h, hi => by
    show ((imarked l k i).set i _)[j]? = _
    by_cases hj : j = i
    · subst hj
      rw [List.getElem?_set_self (by rw [imarked_len]; omega)]
    · rw [List.getElem?_set_ne (by omega)]
      exact imarked_at l k i j (by omega) (by omega)

set_option maxRecDepth 100000 in
set_option maxHeartbeats 1000000 in
theorem eqIntS_same (A A' : Option Addr) (l : List Int) (c c' : Nat) (w : World) (hw : Ints w w.heap.size A l) (hw' : Ints w w.heap.size A' l) (hl : l.length ≤ 1048576) :
    Calls Try.prog 18 #[.slice A l.length c, .slice A' l.length c'] w fun e w' => e = .returned (.bool true) ∧ Below w.heap.size w w' := by
  have HW : Hid (Ints w w.heap.size A l) := hw
  have HW' : Hid (Ints w w.heap.size A' l) := hw'
  clear hw hw'
  go_enter Try.func18, Try.ntmps18
  go_wp2
  go_loopw [5] (fun i wr => ∃ (k : Nat), k ≤ l.length ∧ i = .int .i64 k ∧ Below w.heap.size w wr)
    (fun i _ => l.length - (intOf i).toNat)
  case atStart => exact ⟨0, Nat.zero_le _, rfl, Below.refl _ _⟩
  case round =>
    obtain ⟨k, hk, rfl, hb⟩ := hrel
    by_cases hlt : k < l.length
    · have hlt' : (k : Int) < (l.length : Int) := by omega
      have hk0 : (0 : Int) ≤ (k : Int) := Int.natCast_nonneg _
      obtain ⟨b, o, rfl, hB, hc⟩ := HW.out (by omega)
      obtain ⟨b', o', rfl, hB', hc'⟩ := HW'.out (by omega)
      have c0 := hc k l[k] (List.getElem?_eq_getElem hlt)
      have d0 := hc' k l[k] (List.getElem?_eq_getElem hlt)
      clear hc hc'
      rw [← hb.cell hB] at c0
      rw [← hb.cell hB'] at d0
      generalize l[k] = s at *
      have HB2 := Lib.hid hb.drew
      go_wp2
      go_quiet (fail)
      go_wp2
      go_roundw
      case rel => exact ⟨k + 1, by omega, by go_num, below_drewN hb _⟩
      case measure => simp [intOf]; omega
    · go_wp2
      go_ret
      exact ⟨rfl, hb⟩

set_option maxRecDepth 100000 in
set_option maxHeartbeats 1000000 in
theorem markIntS_any (B k : Nat) (v : Value) (l : List Int) (w : World) (hown : OwnInts w B v l) (hk : k = 1) (hl : l.length ≤ 1000) :
    Calls Try.prog 21 #[v, .int .i64 k] w fun e w' => e = .returned (.int .i64 ((k + l.length : Nat) : Int)) ∧ OwnInts w' B v (imarked l k l.length) ∧ Only w w' (fun b => v.ownBlock = some b) := by
  have hk9 : k ≤ 10 := by omega
  clear hk
  obtain ⟨A, cap, rfl, -⟩ := intsForm hown
  have HO := Lib.hid hown
  clear hown
  go_enter Try.func21, Try.ntmps21
  go_wp2
  go_loopw [1, 5] (fun a c wr => ∃ (i : Nat), i ≤ l.length ∧ c = .int .i64 i ∧ a = .int .i64 ((k + i : Nat) : Int) ∧ Hid (OwnInts wr B (.slice A l.length cap) (imarked l k i)) ∧ Hid (Only w wr (fun b => (Value.slice A l.length cap).ownBlock = some b)))
    (fun _ c _ => l.length - (intOf c).toNat)
  case atStart => exact ⟨0, Nat.zero_le _, rfl, rfl, HO, St.onlyRefl _ _⟩
  case round =>
    obtain ⟨i, hi, rfl, rfl, HT, HY⟩ := hrel
    by_cases hlt : i < l.length
    · have hlt' : (i : Int) < (l.length : Int) := by omega
      have hi0 : (0 : Int) ≤ (i : Int) := Int.natCast_nonneg _
      have hml := imarked_len l k i
      have hT := HT.out
      rw [← hml] at hT
      obtain ⟨g, cap', hv⟩ := own_form hT (by omega)
      injection hv with hA _ hc
      subst hA hc
      have hold : (imarked l k i)[i]? = some ((imarked l k i)[i]'(by omega)) := List.getElem?_eq_getElem (by omega)
      have hst := fun W (hW : OwnInts W B (.slice (some ⟨g, 0, none⟩) (imarked l k i).length cap) (imarked l k i)) => intsStore hW i ((k + i : Nat) : Int)
      generalize (imarked l k i)[i]'_ = old at *
      have d0 := intsCell hT hold
      have z0 := intsFree hT i
      have hT2 := hst wr hT
      rw [hml] at hT2
      have HT2 : Hid (OwnInts (wr.setCell ⟨g, i, none⟩ (.int .i64 ((k + i : Nat) : Int))) B (.slice (some ⟨g, 0, none⟩) l.length cap) (imarked l k (i + 1))) := hT2
      clear hT hst hold hml hT2 HT
      go_wp2
      go_roundw
      case rel => exact ⟨i + 1, by omega, by go_num, congrArg (Value.int .i64) (by omega), HT2, St.onlyPut HY.out rfl _ _⟩
      case measure => simp [intOf]; omega
    · obtain rfl : i = l.length := by omega
      go_wp2
      go_ret
      exact ⟨rfl, HT.out, HY.out⟩

set_option maxRecDepth 100000 in
set_option maxHeartbeats 2000000 in
theorem heldIntS_any (k : Nat) (A : Option Addr) (cap : Nat) (l : List Int) (w : World) (hw : Ints w w.heap.size A l) (hm : ∀ j, j < l.length → l[j]? = some ((k + j : Nat) : Int)) (hk : k = 1) (hl : l.length ≤ 1000) :
    Calls Try.prog 22 #[.slice A l.length cap, .int .i64 k] w fun e w' => e = .returned (.int .i64 ((k + l.length : Nat) : Int)) ∧ Below w.heap.size w w' := by
  have hk9 : k ≤ 10 := by omega
  clear hk
  have HW : Hid (Ints w w.heap.size A l) := hw
  have HM := Lib.hid hm
  clear hw hm
  go_enter Try.func22, Try.ntmps22
  go_wp2
  go_loopw [1, 5] (fun a c wr => ∃ (i : Nat), i ≤ l.length ∧ c = .int .i64 i ∧ a = .int .i64 ((k + i : Nat) : Int) ∧ Below w.heap.size w wr)
    (fun _ c _ => l.length - (intOf c).toNat)
  case atStart => exact ⟨0, Nat.zero_le _, rfl, rfl, Below.refl _ _⟩
  case round =>
    obtain ⟨i, hi, rfl, rfl, hb⟩ := hrel
    by_cases hlt : i < l.length
    · have hlt' : (i : Int) < (l.length : Int) := by omega
      have hi0 : (0 : Int) ≤ (i : Int) := Int.natCast_nonneg _
      obtain ⟨b, o, rfl, hB, hc⟩ := HW.out (by omega)
      have c0 := hc i _ (HM.out i hlt)
      clear hc
      rw [← hb.cell hB] at c0
      have HB2 := Lib.hid hb
      go_wp2
      go_roundw
      case rel => exact ⟨i + 1, by omega, by go_num, congrArg (Value.int .i64) (by omega), HB2.out⟩
      case measure => simp [intOf]; omega
    · obtain rfl : i = l.length := by omega
      go_wp2
      go_ret
      exact ⟨rfl, hb⟩

end Go.Proofs.Ytifkmehnikfihaa.Si

namespace Go.Proofs.Ytifkmehnikfihaa
open Go.RowKit

theorem imark1 (B : Nat) (v : Value) (l : List Int) (w : World) (hown : Si.OwnInts w B v l) (hl : l.length ≤ 1000) :
    Calls Try.prog 21 #[v, .int .i64 1] w fun e w' => e = .returned (.int .i64 ((1 + l.length : Nat) : Int)) ∧ Si.OwnInts w' B v (Si.imarked l 1 l.length) ∧ Only w w' (fun b => v.ownBlock = some b) :=
  Si.markIntS_any B 1 v l w hown rfl hl
theorem iheld1 (A : Option Addr) (n cap : Nat) (l : List Int) (w : World) (hn : l.length = n) (hw : Si.Ints w w.heap.size A (Si.imarked l 1 l.length)) (hl : l.length ≤ 1000) :
    Calls Try.prog 22 #[.slice A n cap, .int .i64 1] w fun e w' => e = .returned (.int .i64 ((1 + l.length : Nat) : Int)) ∧ Below w.heap.size w w' := by
  have h := Si.heldIntS_any 1 A cap (Si.imarked l 1 l.length) w hw (fun j hj => Si.imarked_at l 1 l.length j (by rw [Si.imarked_len] at hj; exact hj) (Nat.le_refl _)) rfl (by rw [Si.imarked_len]; exact hl)
  rw [Si.imarked_len, hn] at h
  rw [hn]
  exact h

end Go.Proofs.Ytifkmehnikfihaa
/- A law's argument that is a row of numbers: opened, turned into the program's own; the reference's l1Has over such a row. -/
namespace Go.Proofs.Ytifkmehnikfihaa
open Go.ChangeShapes Go.WideShapes Go.ChangeAt Go.RowKit

theorem list_ofI {Q : Nat → Int → Prop} : ∀ (n : Nat), (∀ i, i < n → ∃ s, Q i s) → ∃ l : List Int, l.length = n ∧ ∀ i s, l[i]? = some s → Q i s
  | 0, _ => ⟨[], rfl, fun i s h => by simp at h⟩
  | n + 1, h => by
    obtain ⟨l, hl, hq⟩ := list_ofI n fun i hi => h i (by omega)
    obtain ⟨s, hs⟩ := h n (by omega)
    refine ⟨l ++ [s], by simp [hl], fun i t ht => ?_⟩
    rcases Nat.lt_or_ge i n with hlt | hge
    · rw [List.getElem?_append_left (by omega)] at ht
      exact hq i t ht
    · rw [List.getElem?_append_right (by omega)] at ht
      have hi : i - l.length < 1 := by
        have := (List.getElem?_eq_some_iff.1 ht).1
        simpa using this
      have h0 : i - l.length = 0 := by omega
      rw [h0] at ht
      simp at ht
      obtain rfl : i = n := by omega
      exact ht ▸ hs
theorem one_ofI {l : List Value} (h : l.length = 1) : ∃ a, l = [a] := by
  match l, h with
  | [a], _ => exact ⟨a, rfl⟩
theorem open_ints {H : Type} {enc : TypeId × Value → H} {w : World} {base : Nat} {spare : Nat → Bool} {held : Bool} {fuel : Nat} {a0 : Option Addr} {n c : Nat} {x : DataW H × List MemPlace}
    (h : DataW.trod enc Try.prog w base spare held fuel 34 [.slice a0 n c] = some x) : ∃ ts : List Int, ts.length = n ∧ n ≤ maxLen ∧ Si.Ints w w.heap.size a0 ts := by
  rcases Deep.open_slice Try.underlying34 h with ⟨hcs, _⟩ | ⟨a, len, cap, m, n', D, Pl, hcs, hb, hl, hm, hmm, hx, hi⟩
  · simp at hcs
    obtain ⟨rfl, rfl, rfl⟩ := hcs
    exact ⟨[], rfl, Nat.zero_le _, fun h0 => absurd h0 (by simp)⟩
  · simp at hcs
    obtain ⟨rfl, rfl, rfl⟩ := hcs
    have hlm : n ≤ m := by rw [hmm]; split <;> omega
    have hs : ∀ i, i < n → ∃ s : Int, w.cell? (a.add i) = some (.int .i64 s) := by
      intro i hin
      obtain ⟨cs', hc, ht'⟩ := hi i (by omega)
      rw [cells_int] at hc
      obtain ⟨_, hcl, hat⟩ := World.cells?_some hc
      obtain ⟨u0, rfl⟩ := one_ofI hcl
      have e0 := hat 0 (by omega)
      obtain ⟨s, hs, _, _⟩ := DataW.trod_int Try.underlying3 ht'
      simp at hs
      subst hs
      rw [Deep.add_add] at e0
      exact ⟨s, by simpa using e0⟩
    obtain ⟨l, hll, hq⟩ := list_ofI n hs
    refine ⟨l, hll, by omega, fun h0 => ?_⟩
    obtain ⟨b, o, spot⟩ := a
    have hc0 := hq 0 l[0] (List.getElem?_eq_getElem h0)
    have hspot : spot = none := by simpa [Addr.add] using World.cell?_spot hc0
    subst hspot
    have hlt := World.block_lt_of_cell? w _ hc0
    rw [WideShapes.add_plain] at hlt
    refine ⟨b, o, rfl, hlt, fun k s hk => ?_⟩
    have := hq k s hk
    rw [WideShapes.add_plain] at this
    exact this

theorem run_makeI (n : Nat) (hn : n ≤ 1048576) (W : World) :
    (Instr.makeSlice 34 (.int .i64 (n : Int)) (.int .i64 (n : Int))).run Try.prog W = .ok (.slice (some ⟨W.heap.size, 0, none⟩) n n) (W.alloc (.cells (madeCells (Value.int .i64 0).cells (n * 1)) 3)) := by
  obtain ⟨i0, hi, hz0, hz1, hz2⟩ := info_parts info_int
  have hr := run_make (P := Try.prog) W 34 3 i0 (.int .i64 0) Try.underlying34 hi hz0 .i64 .i64 n n (by omega) (by omega) (by rw [hz2]; omega) (by omega)
  simp only [Int.toNat_natCast, hz1] at hr
  exact hr
/-- The first 'k' of the numbers lie in the cells. -/
def FilledI (ts : List Int) (k : Nat) (cs : Array Value) : Prop := cs.size = ts.length ∧ ∀ (j : Nat) (s : Int), j < k → ts[j]? = some s → cs[j]? = some (.int .i64 s)
theorem FilledI.next {ts : List Int} {k : Nat} {cs : Array Value} (h : FilledI ts k cs) (hk : k < ts.length) : FilledI ts (k + 1) (cs.setIfInBounds k (.int .i64 ts[k])) := by
  refine ⟨by simpa using h.1, fun j s hj hs => ?_⟩
  have hz := h.1
  rcases Nat.lt_or_ge j k with hlt | hge
  · rw [Array.getElem?_setIfInBounds_ne (by omega)]
    exact h.2 j s hlt hs
  · obtain rfl : j = k := by omega
    rw [List.getElem?_eq_getElem hk] at hs
    injection hs with hs
    subst hs
    rw [Array.getElem?_setIfInBounds_self_of_lt (by omega)]
theorem FilledI.done {ts : List Int} {cs : Array Value} {w : World} {g B : Nat} (h : FilledI ts ts.length cs) (hr : Row w g 3 cs) (hB : B ≤ g) (hm : ts.length ≤ maxLen) : Si.OwnInts w B (.slice (some ⟨g, 0, none⟩) ts.length ts.length) ts := by
  unfold Si.OwnInts
  have hl : cs.toList = ts.map (Value.int .i64) := by
    apply List.ext_getElem?
    intro i
    rw [Array.getElem?_toList, List.getElem?_map]
    rcases Nat.lt_or_ge i ts.length with hlt | hge
    · rw [h.2 i ts[i] hlt (List.getElem?_eq_getElem hlt), List.getElem?_eq_getElem hlt]
      rfl
    · rw [List.getElem?_eq_none hge, Array.getElem?_eq_none (by rw [h.1]; exact hge)]
      rfl
  refine ⟨by simp, .inr ⟨g, ts.length, cs, rfl, hB, hr, Nat.le_refl _, hm, by rw [h.1]; simp, ?_⟩⟩
  rw [hl, Nat.mul_one]
  exact List.take_of_length_le (by simp)

set_option maxRecDepth 100000 in
set_option maxHeartbeats 400000 in
theorem toIntS_any (A : Option Addr) (ts : List Int) (c : Nat) (w : World) (hw : Si.Ints w w.heap.size A ts) (hl : ts.length ≤ 1048576) :
    Calls Try.prog 16 #[.slice A ts.length c] w fun e w' => e = .returned (.slice (some ⟨w.heap.size, 0, none⟩) ts.length ts.length) ∧ Below w.heap.size w w' ∧ Si.OwnInts w' w.heap.size (.slice (some ⟨w.heap.size, 0, none⟩) ts.length ts.length) ts := by
  have HW : Hid (Si.Ints w w.heap.size A ts) := hw
  clear hw
  have hmk := run_makeI ts.length hl
  go_enter Try.func16, Try.ntmps16
  go_wp2
  go_loopw [4] (fun i wr => ∃ (k : Nat) (cs : Array Value), k ≤ ts.length ∧ i = .int .i64 k ∧ Below w.heap.size w wr ∧ Row wr w.heap.size 3 cs ∧ FilledI ts k cs)
    (fun i _ => ts.length - (intOf i).toNat)
  case atStart => exact ⟨0, _, Nat.zero_le _, rfl, (Below.refl _ _).alloc (Nat.le_refl _) _, Row.new _ _ _, ⟨size_madeCells _ _, fun j _ hj => absurd hj (by omega)⟩⟩
  case round =>
    obtain ⟨k, cs, hk, rfl, hb, hrow, hf⟩ := hrel
    have hz : w.heap.size < wr.heap.size := hrow.lt
    by_cases hlt : k < ts.length
    · obtain ⟨b, o, rfl, hB, hc⟩ := HW.out (by omega)
      have c0 := hc k ts[k] (List.getElem?_eq_getElem hlt)
      clear hc
      rw [← hb.cell hB] at c0
      have HN := Lib.hid (hf.next hlt)
      have HS := Lib.hid hf.1
      clear hf
      generalize ts[k] = s at *
      have f0 := hrow.free k
      have d0 : wr.cell? ⟨w.heap.size, k, none⟩ = some (cs[k]'(by have := HS.out; omega)) := by rw [hrow.cell, Array.getElem?_eq_getElem]
      have HR := Lib.hid hrow
      clear hrow
      generalize cs[k]'_ = u0 at *
      go_wp2
      go_roundw
      case rel => exact ⟨k + 1, _, by omega, by go_num, hb.setCell (Nat.le_refl _) _, HR.out.put _ _, HN.out⟩
      case measure => simp [intOf]; omega
    · obtain rfl : k = ts.length := by omega
      have hd := hf.done hrow (B := w.heap.size) (Nat.le_refl _) (by unfold maxLen; omega)
      clear hf
      go_wp2
      go_ret
      exact ⟨rfl, hb, hd⟩

set_option maxHeartbeats 400000 in
theorem hasIn_any (B : Nat) (A : Option Addr) (c : Nat) (xs : List Int) (n : Int) (w : World) (hw : Si.Ints w B A xs) (hl : xs.length ≤ 2097152) :
    Calls Try.prog 47 #[.slice A xs.length c, .int .i64 n] w fun e w' => e = .returned (.bool (hasB xs n)) ∧ w = w' := by
  have HO := Lib.hid hw
  clear hw
  go_enter Try.func47, Try.ntmps47
  go_wp2
  go_loop [9] (fun i => ∃ (k : Nat), k ≤ xs.length ∧ i = .int .i64 k ∧ Hid (hasB (xs.take k) n = false))
    (fun i => xs.length - (intOf i).toNat)
  case atStart => exact ⟨0, Nat.zero_le _, rfl, rfl⟩
  case round =>
    obtain ⟨k, hk, rfl, HN⟩ := hrel
    by_cases hlt : k < xs.length
    · obtain ⟨b, o, rfl, hB, hcs⟩ := HO.out (by omega)
      have hc := hcs k xs[k] (List.getElem?_eq_getElem hlt)
      have HM : Hid (xs[k] ∈ xs) := List.getElem_mem hlt
      have HT : Hid _ := hasB_take (n := n) hlt
      clear hcs
      generalize xs[k] = x at *
      cases ht : (x == n) with
      | true =>
        have HE : Hid (hasB xs n = true) := by
          exact List.any_eq_true.2 ⟨x, HM.out, ht⟩
        go_wp2
        go_ret
        exact ⟨ret_bool HE.out.symm, rfl⟩
      | false =>
        have HE : Hid (hasB (xs.take (k + 1)) n = false) := by
          show _ = _
          rw [HT.out, HN.out, ht]; rfl
        go_wp2
        go_round
        case rel => exact ⟨k + 1, by omega, by go_num, HE⟩
        case measure => simp [intOf]; omega
    · go_wp2
      go_ret
      exact ⟨ret_bool (by rw [← HN.out, List.take_of_length_le (by omega)]), rfl⟩

end Go.Proofs.Ytifkmehnikfihaa
/- The reference's InOrder. -/
namespace Go.Proofs.Ytifkmehnikfihaa
open Go.RowKit

theorem hasB_contains (xs : List Int) (n : Int) : hasB xs n = xs.contains n := by
  unfold hasB
  rw [Bool.eq_iff_iff, List.any_eq_true, List.contains_iff_mem]
  exact ⟨fun ⟨x, hx, he⟩ => (beq_iff_eq.1 he) ▸ hx, fun h => ⟨n, h, beq_self_eq_true n⟩⟩
/-- The first k places are well. -/
def ordPre (n : Nat) (xs : List Int) (k : Nat) : Bool := (List.range k).all (fun i => decide (0 ≤ xs.getD i 0) && decide (xs.getD i 0 ≤ (n : Int) - 1) && !((xs.take i).contains (xs.getD i 0)))
theorem ordPre_next {n : Nat} {xs : List Int} {k : Nat} (hk : k < xs.length) : ordPre n xs (k + 1) = (ordPre n xs k && (inB xs[k] 0 ((n : Int) - 1) && !hasB (xs.take k) xs[k])) := by
  unfold ordPre
  rw [List.range_succ, List.all_append, hasB_contains]
  simp only [List.all_cons, List.all_nil, Bool.and_true, getD_in xs k 0 hk, inB]
theorem orderB_pre (n : Nat) (xs : List Int) : orderB n xs = (ordPre n xs xs.length && decide (xs.length = n)) := rfl
theorem ordPre_false {n : Nat} {xs : List Int} {k m : Nat} (h : ordPre n xs k = false) (hk : k ≤ m) : ordPre n xs m = false := by
  unfold ordPre at h ⊢
  rw [← Bool.not_eq_true, List.all_eq_true] at h ⊢
  exact fun hm => h fun i hi => hm i (List.mem_range.2 (Nat.lt_of_lt_of_le (List.mem_range.1 hi) hk))
theorem orderB_false {n : Nat} {xs : List Int} {k : Nat} (h : ordPre n xs k = false) (hk : k ≤ xs.length) : orderB n xs = false := by
  rw [orderB_pre, ordPre_false h hk]; rfl
theorem ints_take {w : World} {B : Nat} {A : Option Addr} {xs : List Int} (h : Si.Ints w B A xs) (k : Nat) : Si.Ints w B A (xs.take k) := fun hl => by
  obtain ⟨b, o, e, hB, hc⟩ := h (by rw [List.length_take] at hl; omega)
  refine ⟨b, o, e, hB, fun i s hi => hc i s ?_⟩
  rw [List.getElem?_take] at hi
  split at hi
  · exact hi
  · cases hi

set_option maxRecDepth 100000 in
set_option maxHeartbeats 1000000 in
theorem l11Order_any (B : Nat) (A : Option Addr) (c n : Nat) (xs : List Int) (w : World) (hw : Si.Ints w B A xs) (hl : xs.length ≤ 1048576) (hlc : xs.length ≤ c) (hcm : c ≤ 9223372036854775807) (hn : n ≤ 1000) :
    Calls Try.prog 30 #[.int .i64 n, .slice A xs.length c] w fun e w' => e = .returned (.bool (orderB n xs)) ∧ w = w' := by
  have HO := Lib.hid hw
  clear hw
  go_enter Try.func30, Try.ntmps30
  go_wp2
  go_loop [9] (fun i => ∃ (k : Nat), k ≤ xs.length ∧ i = .int .i64 k ∧ Hid (ordPre n xs k = true))
    (fun i => xs.length - (intOf i).toNat)
  case atStart => exact ⟨0, Nat.zero_le _, rfl, rfl⟩
  case round =>
    obtain ⟨k, hk, rfl, HN⟩ := hrel
    by_cases hlt : k < xs.length
    · obtain ⟨b, o, rfl, hB, hcs⟩ := HO.out (by omega)
      have hc := hcs k xs[k] (List.getElem?_eq_getElem hlt)
      have HT : Hid _ := ordPre_next (n := n) hlt
      have HTK : Hid (∀ x, Calls Try.prog 47 #[.slice (some ⟨b, o, none⟩) k c, .int .i64 x] w fun e w' => e = .returned (.bool (hasB (xs.take k) x)) ∧ w = w') := fun x => by
        have h1 := hasIn_any B (some ⟨b, o, none⟩) c (xs.take k) x w (ints_take HO.out k) (by rw [List.length_take]; omega)
        rw [List.length_take, Nat.min_eq_left (by omega)] at h1
        exact h1
      clear hcs
      have HF : Hid (ordPre n xs (k + 1) = false → orderB n xs = false) := fun h => orderB_false h (by omega)
      generalize xs[k] = x at *
      have HI := Lib.hid (l1In_any x 0 ((n : Int) - 1) w)
      cases hb : inB x 0 ((n : Int) - 1) with
      | false =>
        rw [hb] at HT HI
        go_wp2_with fail
        refine Calls.mono HI.out ?_
        rintro e w2 ⟨rfl, rfl⟩
        go_wp2
        go_ret
        exact ⟨ret_bool (HF.out (by rw [HT.out]; simp)).symm, rfl⟩
      | true =>
        rw [hb] at HT HI
        go_wp2_with fail
        refine Calls.mono HI.out ?_
        rintro e w2 ⟨rfl, rfl⟩
        have hkc : k ≤ c := by omega
        go_wp2_with fail
        refine Calls.mono (HTK.out x) ?_
        cases hh : hasB (xs.take k) x with
        | true =>
          rw [hh] at HT
          rintro e w2 ⟨rfl, rfl⟩
          go_wp2
          go_ret
          exact ⟨ret_bool (HF.out (by rw [HT.out]; simp)).symm, rfl⟩
        | false =>
          rw [hh] at HT
          rintro e w2 ⟨rfl, rfl⟩
          have HE : Hid (ordPre n xs (k + 1) = true) := by
            show _ = _
            rw [HT.out, HN.out]; rfl
          clear HT HTK HI HF hh hb
          go_wp2
          go_round
          case rel => exact ⟨k + 1, by omega, by go_num, HE⟩
          case measure => simp [intOf]; omega
    · have HK : Hid (orderB n xs = decide (xs.length = n)) := by
        show _ = _
        have h1 : k = xs.length := by omega
        rw [orderB_pre, ← h1, HN.out, Bool.true_and]
      clear HN
      by_cases he : xs.length = n
      · have h2 : ((xs.length : Int) == (n : Int)) = true := by rw [he]; simp
        have HE : Hid (orderB n xs = true) := by show _ = _; rw [HK.out]; exact decide_eq_true he
        clear he HK
        go_wp2
        go_ret
        exact ⟨ret_bool HE.out.symm, rfl⟩
      · have h2 : ((xs.length : Int) == (n : Int)) = false := by
          rw [beq_eq_false_iff_ne]; omega
        have HE : Hid (orderB n xs = false) := by show _ = _; rw [HK.out]; exact decide_eq_false he
        go_wp2
        go_ret
        exact ⟨ret_bool HE.out.symm, rfl⟩

theorem str_app (x y : List UInt8) : strOf x ++ strOf y = strOf (x ++ y) := bytes_cat x y
theorem strOf_list (b : ByteArray) : strOf b.data.toList = b := by
  unfold strOf
  apply ByteArray.ext
  simp

set_option maxRecDepth 100000 in
set_option maxHeartbeats 1000000 in
theorem l11Join_any (B : Nat) (A : Option Addr) (c : Nat) (ts : List ByteArray) (A2 : Option Addr) (c2 : Nat) (xs : List Int) (w : World) (ht : St.Strs w B A ts) (hx : Si.Ints w B A2 xs)
    (hin : ∀ x ∈ xs, 0 ≤ x ∧ x < (ts.length : Int)) (hsz : ∀ s ∈ ts, s.size ≤ 240) (hl : xs.length ≤ 80) (hts : ts.length ≤ 80) :
    Calls Try.prog 31 #[.slice A ts.length c, .slice A2 xs.length c2] w fun e w' => e = .returned (.string (strOf (joinO ts xs))) ∧ w = w' := by
  have HT := Lib.hid ht
  have HX := Lib.hid hx
  have HI := Lib.hid hin
  have HS := Lib.hid hsz
  clear ht hx hin hsz
  go_enter Try.func31, Try.ntmps31
  go_wp2
  go_loop [5, 10] (fun s i => ∃ (k : Nat) (z : ByteArray), k ≤ xs.length ∧ s = .string z ∧ i = .int .i64 k ∧ Hid (z = strOf (joinO ts (xs.take k))))
    (fun _ i => xs.length - (intOf i).toNat)
  case atStart => exact ⟨0, _, Nat.zero_le _, rfl, rfl, rfl⟩
  case round =>
    obtain ⟨k, z, hk, rfl, rfl, HZ⟩ := hrel
    by_cases hlt : k < xs.length
    · obtain ⟨b, o, rfl, hB, hcs⟩ := HX.out (by omega)
      have hc := hcs k xs[k] (List.getElem?_eq_getElem hlt)
      obtain ⟨hx0, hx1⟩ := HI.out xs[k] (List.getElem_mem hlt)
      have HJ : Hid (joinO ts (xs.take (k + 1)) = joinO ts (xs.take k) ++ (ts.getD xs[k].toNat ⟨#[]⟩).data.toList) := by
        show _ = _
        rw [List.take_succ_eq_append_getElem hlt, joinO_snoc]
      have hzl : z.size ≤ 20000 := by
        have h1 := joinO_len HS.out (xs.take k)
        rw [HZ.out]
        unfold strOf
        show (joinO ts (xs.take k)).toArray.size ≤ 20000
        rw [List.size_toArray, List.length_take] at *
        have : min k xs.length ≤ 80 := by omega
        omega
      clear hcs
      generalize xs[k] = x at *
      obtain ⟨j, rfl⟩ := Int.eq_ofNat_of_zero_le hx0
      have hj : j < ts.length := by omega
      obtain ⟨b2, o2, rfl, hB2, hcs2⟩ := HT.out (by omega)
      have hc2 := hcs2 j ts[j] (List.getElem?_eq_getElem hj)
      have hys := HS.out ts[j] (List.getElem_mem hj)
      rw [Int.toNat_natCast, getD_in ts j _ hj] at HJ
      have HJ2 : Hid (z ++ ts[j] = strOf (joinO ts (xs.take (k + 1)))) := by
        show _ = _
        rw [HJ.out, ← str_app, ← HZ.out, strOf_list]
      clear hcs2 HJ
      generalize ts[j] = y at *
      have hsum : z.size + y.size ≤ 9223372036854775807 := by omega
      go_wp2
      go_round
      case rel => exact ⟨k + 1, _, by omega, rfl, by go_num, HJ2⟩
      case measure => simp [intOf]; omega
    · go_wp2
      go_ret
      refine ⟨?_, rfl⟩
      rw [HZ.out, List.take_of_length_le (by omega)]
      rfl

/-- What InOrder hands back. -/
def InOrdPost (w : World) (l : List Seg) (t : ByteArray) (xs : List Int) (e : Ending) (w' : World) : Prop :=
  e = .returned (.tuple #[.string (inOrdRes l t xs), .bool (inOrdOk l t xs)]) ∧ Below w.heap.size w w'
theorem order_in {n : Nat} {xs : List Int} (h : orderA n xs = true) : xs.length = n ∧ ∀ x ∈ xs, 0 ≤ x ∧ x < (n : Int) := by
  unfold orderA at h
  simp only [Bool.and_eq_true, List.all_eq_true, List.mem_range, decide_eq_true_eq, List.contains_iff_mem] at h
  exact ⟨h.1, (nodup_of_all n xs h.1 h.2).2⟩

set_option maxRecDepth 100000 in
set_option maxHeartbeats 1000000 in
theorem specInOrder_any (A : Option Addr) (l : List Seg) (c : Nat) (t : ByteArray) (A2 : Option Addr) (xs : List Int) (c2 : Nat) (w : World) (hw : Segs w w.heap.size A l) (hx : Si.Ints w w.heap.size A2 xs) (hl : l.length ≤ 1048576) (hn : Short l) (ht : t.size ≤ 1048576)
    (hxl : xs.length ≤ 1048576) (hxc : xs.length ≤ c2) (hcm : c2 ≤ 9223372036854775807) :
    Calls Try.prog 15 #[.slice A l.length c, .string t, .slice A2 xs.length c2] w (InOrdPost w l t xs) := by
  have HQ := Lib.hid (l11Top_any A l c t w hw hl hn ht)
  have hb1 := topsRes_le l t
  have HS := Lib.hid (topsRes_bound l t)
  have HR : Hid (∀ o : Bool, o = inOrdOk l t xs → inOrdRes l t xs = if o = true then strOf (joinO (topsRes l t) xs) else ⟨#[]⟩) := fun o e => by rw [e]; rfl
  have HD : Hid (inOrdOk l t xs = ((traceB l t.data.toList).isSome && orderA (topsRes l t).length xs)) := rfl
  have HX := Lib.hid hx
  unfold TopsPost at HQ
  unfold InOrdPost
  generalize (traceB l t.data.toList).isSome = d at *
  generalize topsRes l t = ts at *
  generalize inOrdRes l t xs = rt at *
  generalize inOrdOk l t xs = rd at *
  clear hw hn hx
  go_enter Try.func15, Try.ntmps15
  go_wp2_with fail
  refine Calls.mono HQ.out ?_
  rintro e w2 ⟨v, rfl, ho, hb⟩
  obtain ⟨A3, cap3, rfl, hs3⟩ := St.textsForm ho
  have HB := Lib.hid hb
  have HT := Lib.hid hs3
  have HX2 : Hid (Si.Ints w2 w2.heap.size A2 xs) := (HX.out.below hb).more hb.size
  clear ho hs3 hb HQ HX
  cases d with
  | false =>
    have h1 : rd = false := by rw [HD.out]; rfl
    have h2 : rt = ⟨#[]⟩ := by rw [HR.out _ h1.symm]; rfl
    subst h1 h2
    clear HR HD HX2
    go_wp2
    go_ret2
    exact ⟨rfl, HB.out⟩
  | true =>
    have HO := Lib.hid (l11Order_any w2.heap.size A2 c2 ts.length xs w2 HX2.out hxl hxc hcm (by omega))
    rw [orderA_is] at HO
    rw [Bool.true_and] at HD
    cases ha : orderA ts.length xs with
    | false =>
      have h1 : rd = false := by rw [HD.out, ha]
      have h2 : rt = ⟨#[]⟩ := by rw [HR.out _ h1.symm]; rfl
      subst h1 h2
      rw [ha] at HO
      clear HR HD HX2 ha
      go_wp2_with fail
      refine Calls.mono HO.out ?_
      rintro e w3 ⟨rfl, rfl⟩
      go_wp2
      go_ret2
      exact ⟨rfl, HB.out⟩
    | true =>
      have h1 : rd = true := by rw [HD.out, ha]
      have h2 : rt = strOf (joinO ts xs) := by rw [HR.out _ h1.symm]; rfl
      obtain ⟨hln, hin⟩ := order_in ha
      have HJ := Lib.hid (l11Join_any w2.heap.size A3 cap3 ts A2 c2 xs w2 HT.out HX2.out hin HS.out (by omega) hb1)
      subst h1 h2
      rw [ha] at HO
      clear HR HD HX2 ha hln hin
      go_wp2_with fail
      refine Calls.mono HO.out ?_
      rintro e w3 ⟨rfl, rfl⟩
      go_wp2_with fail
      refine Calls.mono HJ.out ?_
      rintro e w3 ⟨rfl, rfl⟩
      go_wp2
      go_ret2
      exact ⟨rfl, HB.out⟩

end Go.Proofs.Ytifkmehnikfihaa
