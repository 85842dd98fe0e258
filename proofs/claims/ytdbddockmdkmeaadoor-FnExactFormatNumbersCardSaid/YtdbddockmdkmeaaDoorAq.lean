/- A law's argument that is a row of numbers: opened, turned into the program's own; the reference's l1Has over such a row. -/
import Derived.Test.YtdbddockmdkmeaaDoorTi
import Derived.Test.YtdbddockmdkmeaaDoorOp
import Derived.Test.YtdbddockmdkmeaaDoorPa
namespace Go.Proofs.YtdbddockmdkmeaaDoor
open Go.ChangeShapes Go.WideShapes Go.ChangeAt Go.RowKit

theorem list_ofI {Q : Nat → Int → Prop} : ∀ (n : Nat), (∀ i, i < n → ∃ s, Q i s) → ∃ l : List Int, l.length = n ∧ ∀ i s, l[i]? = some s → Q i s
  | 0, _ => ⟨[], rfl, fun i s h => by simp at h⟩
  | n + 1, h => by
    obtain ⟨l, hl, hq⟩ := list_ofI n fun i hi => h i (by omega)
    obtain ⟨s, hs⟩ := h n (by omega)
    refine ⟨l ++ [s], by simp [hl], fun i t ht => ?_⟩
    rcases Nat.lt_or_ge i n with hlt | hge
    · rw [List.getElem?_append_left (by omega)] at ht
      exact hq i t ht
    · rw [List.getElem?_append_right (by omega)] at ht
      have hi : i - l.length < 1 := by
        have := (List.getElem?_eq_some_iff.1 ht).1
        simpa using this
      have h0 : i - l.length = 0 := by omega
      rw [h0] at ht
      simp at ht
      obtain rfl : i = n := by omega
      exact ht ▸ hs
theorem one_ofI {l : List Value} (h : l.length = 1) : ∃ a, l = [a] := by
  match l, h with
  | [a], _ => exact ⟨a, rfl⟩
theorem open_ints {H : Type} {enc : TypeId × Value → H} {w : World} {base : Nat} {spare : Nat → Bool} {held : Bool} {fuel : Nat} {a0 : Option Addr} {n c : Nat} {x : DataW H × List MemPlace}
    (h : DataW.trod enc Tryd.prog w base spare held fuel 38 [.slice a0 n c] = some x) : ∃ ts : List Int, ts.length = n ∧ n ≤ maxLen ∧ Si.Ints w w.heap.size a0 ts := by
  rcases Deep.open_slice Tryd.underlying38 h with ⟨hcs, _⟩ | ⟨a, len, cap, m, n', D, Pl, hcs, hb, hl, hm, hmm, hx, hi⟩
  · simp at hcs
    obtain ⟨rfl, rfl, rfl⟩ := hcs
    exact ⟨[], rfl, Nat.zero_le _, fun h0 => absurd h0 (by simp)⟩
  · simp at hcs
    obtain ⟨rfl, rfl, rfl⟩ := hcs
    have hlm : n ≤ m := by rw [hmm]; split <;> omega
    have hs : ∀ i, i < n → ∃ s : Int, w.cell? (a.add i) = some (.int .i64 s) := by
      intro i hin
      obtain ⟨cs', hc, ht'⟩ := hi i (by omega)
      rw [cells_int] at hc
      obtain ⟨_, hcl, hat⟩ := World.cells?_some hc
      obtain ⟨u0, rfl⟩ := one_ofI hcl
      have e0 := hat 0 (by omega)
      obtain ⟨s, hs, _, _⟩ := DataW.trod_int Tryd.underlying3 ht'
      simp at hs
      subst hs
      rw [Deep.add_add] at e0
      exact ⟨s, by simpa using e0⟩
    obtain ⟨l, hll, hq⟩ := list_ofI n hs
    refine ⟨l, hll, by omega, fun h0 => ?_⟩
    obtain ⟨b, o, spot⟩ := a
    have hc0 := hq 0 l[0] (List.getElem?_eq_getElem h0)
    have hspot : spot = none := by simpa [Addr.add] using World.cell?_spot hc0
    subst hspot
    have hlt := World.block_lt_of_cell? w _ hc0
    rw [WideShapes.add_plain] at hlt
    refine ⟨b, o, rfl, hlt, fun k s hk => ?_⟩
    have := hq k s hk
    rw [WideShapes.add_plain] at this
    exact this

theorem run_makeI (n : Nat) (hn : n ≤ 1048576) (W : World) :
    (Instr.makeSlice 38 (.int .i64 (n : Int)) (.int .i64 (n : Int))).run Tryd.prog W = .ok (.slice (some ⟨W.heap.size, 0, none⟩) n n) (W.alloc (.cells (madeCells (Value.int .i64 0).cells (n * 1)) 3)) := by
  obtain ⟨i0, hi, hz0, hz1, hz2⟩ := info_parts info_int
  have hr := run_make (P := Tryd.prog) W 38 3 i0 (.int .i64 0) Tryd.underlying38 hi hz0 .i64 .i64 n n (by omega) (by omega) (by rw [hz2]; omega) (by omega)
  simp only [Int.toNat_natCast, hz1] at hr
  exact hr
/-- The first 'k' of the numbers lie in the cells. -/
def FilledI (ts : List Int) (k : Nat) (cs : Array Value) : Prop := cs.size = ts.length ∧ ∀ (j : Nat) (s : Int), j < k → ts[j]? = some s → cs[j]? = some (.int .i64 s)
theorem FilledI.next {ts : List Int} {k : Nat} {cs : Array Value} (h : FilledI ts k cs) (hk : k < ts.length) : FilledI ts (k + 1) (cs.setIfInBounds k (.int .i64 ts[k])) := by
  refine ⟨by simpa using h.1, fun j s hj hs => ?_⟩
  have hz := h.1
  rcases Nat.lt_or_ge j k with hlt | hge
  · rw [Array.getElem?_setIfInBounds_ne (by omega)]
    exact h.2 j s hlt hs
  · obtain rfl : j = k := by omega
    rw [List.getElem?_eq_getElem hk] at hs
    injection hs with hs
    subst hs
    rw [Array.getElem?_setIfInBounds_self_of_lt (by omega)]
theorem FilledI.done {ts : List Int} {cs : Array Value} {w : World} {g B : Nat} (h : FilledI ts ts.length cs) (hr : Row w g 3 cs) (hB : B ≤ g) (hm : ts.length ≤ maxLen) : Si.OwnInts w B (.slice (some ⟨g, 0, none⟩) ts.length ts.length) ts := by
  unfold Si.OwnInts
  have hl : cs.toList = ts.map (Value.int .i64) := by
    apply List.ext_getElem?
    intro i
    rw [Array.getElem?_toList, List.getElem?_map]
    rcases Nat.lt_or_ge i ts.length with hlt | hge
    · rw [h.2 i ts[i] hlt (List.getElem?_eq_getElem hlt), List.getElem?_eq_getElem hlt]
      rfl
    · rw [List.getElem?_eq_none hge, Array.getElem?_eq_none (by rw [h.1]; exact hge)]
      rfl
  refine ⟨by simp, .inr ⟨g, ts.length, cs, rfl, hB, hr, Nat.le_refl _, hm, by rw [h.1]; simp, ?_⟩⟩
  rw [hl, Nat.mul_one]
  exact List.take_of_length_le (by simp)

set_option maxRecDepth 100000 in
set_option maxHeartbeats 400000 in
theorem toIntS_any (A : Option Addr) (ts : List Int) (c : Nat) (w : World) (hw : Si.Ints w w.heap.size A ts) (hl : ts.length ≤ 1048576) :
    Calls Tryd.prog 41 #[.slice A ts.length c] w fun e w' => e = .returned (.slice (some ⟨w.heap.size, 0, none⟩) ts.length ts.length) ∧ Below w.heap.size w w' ∧ Si.OwnInts w' w.heap.size (.slice (some ⟨w.heap.size, 0, none⟩) ts.length ts.length) ts := by
  have HW : Hid (Si.Ints w w.heap.size A ts) := hw
  clear hw
  have hmk := run_makeI ts.length hl
  go_enter Tryd.func41, Tryd.ntmps41
  go_wp2
  go_loopw [4] (fun i wr => ∃ (k : Nat) (cs : Array Value), k ≤ ts.length ∧ i = .int .i64 k ∧ Below w.heap.size w wr ∧ Row wr w.heap.size 3 cs ∧ FilledI ts k cs)
    (fun i _ => ts.length - (intOf i).toNat)
  case atStart => exact ⟨0, _, Nat.zero_le _, rfl, (Below.refl _ _).alloc (Nat.le_refl _) _, Row.new _ _ _, ⟨size_madeCells _ _, fun j _ hj => absurd hj (by omega)⟩⟩
  case round =>
    obtain ⟨k, cs, hk, rfl, hb, hrow, hf⟩ := hrel
    have hz : w.heap.size < wr.heap.size := hrow.lt
    by_cases hlt : k < ts.length
    · obtain ⟨b, o, rfl, hB, hc⟩ := HW.out (by omega)
      have c0 := hc k ts[k] (List.getElem?_eq_getElem hlt)
      clear hc
      rw [← hb.cell hB] at c0
      have HN := Lib.hid (hf.next hlt)
      have HS := Lib.hid hf.1
      clear hf
      generalize ts[k] = s at *
      have f0 := hrow.free k
      have d0 : wr.cell? ⟨w.heap.size, k, none⟩ = some (cs[k]'(by have := HS.out; omega)) := by rw [hrow.cell, Array.getElem?_eq_getElem]
      have HR := Lib.hid hrow
      clear hrow
      generalize cs[k]'_ = u0 at *
      go_wp2
      go_roundw
      case rel => exact ⟨k + 1, _, by omega, by go_num, hb.setCell (Nat.le_refl _) _, HR.out.put _ _, HN.out⟩
      case measure => simp [intOf]; omega
    · obtain rfl : k = ts.length := by omega
      have hd := hf.done hrow (B := w.heap.size) (Nat.le_refl _) (by unfold maxLen; omega)
      clear hf
      go_wp2
      go_ret
      exact ⟨rfl, hb, hd⟩

set_option maxHeartbeats 400000 in
theorem hasIn_any (B : Nat) (A : Option Addr) (c : Nat) (xs : List Int) (n : Int) (w : World) (hw : Si.Ints w B A xs) (hl : xs.length ≤ 2097152) :
    Calls Tryd.prog 63 #[.slice A xs.length c, .int .i64 n] w fun e w' => e = .returned (.bool (hasB xs n)) ∧ w = w' := by
  have HO := Lib.hid hw
  clear hw
  go_enter Tryd.func63, Tryd.ntmps63
  go_wp2
  go_loop [9] (fun i => ∃ (k : Nat), k ≤ xs.length ∧ i = .int .i64 k ∧ Hid (hasB (xs.take k) n = false))
    (fun i => xs.length - (intOf i).toNat)
  case atStart => exact ⟨0, Nat.zero_le _, rfl, rfl⟩
  case round =>
    obtain ⟨k, hk, rfl, HN⟩ := hrel
    by_cases hlt : k < xs.length
    · obtain ⟨b, o, rfl, hB, hcs⟩ := HO.out (by omega)
      have hc := hcs k xs[k] (List.getElem?_eq_getElem hlt)
      have HM : Hid (xs[k] ∈ xs) := List.getElem_mem hlt
      have HT : Hid _ := hasB_take (n := n) hlt
      clear hcs
      generalize xs[k] = x at *
      cases ht : (x == n) with
      | true =>
        have HE : Hid (hasB xs n = true) := by
          exact List.any_eq_true.2 ⟨x, HM.out, ht⟩
        go_wp2
        go_ret
        exact ⟨ret_bool HE.out.symm, rfl⟩
      | false =>
        have HE : Hid (hasB (xs.take (k + 1)) n = false) := by
          show _ = _
          rw [HT.out, HN.out, ht]; rfl
        go_wp2
        go_round
        case rel => exact ⟨k + 1, by omega, by go_num, HE⟩
        case measure => simp [intOf]; omega
    · go_wp2
      go_ret
      exact ⟨ret_bool (by rw [← HN.out, List.take_of_length_le (by omega)]), rfl⟩

end Go.Proofs.YtdbddockmdkmeaaDoor
