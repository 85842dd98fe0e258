/- Joined: Op Aq Ar Do. -/
import Derived.Test.YtifkmehnikfihaaGreatU01
import Derived.ProofKit
import Derived.OpenShut
import Derived.ShutString
import Derived.ChangeOld
import Derived.Deep.Slices
import Derived.Deep.Fields
import Derived.Test.YtifkmehnikfihaaGreatU11
import Derived.Test.YtifkmehnikfihaaGreatU19
import Derived.Test.YtifkmehnikfihaaGreatU22
/- The argument of a law, opened: a slice of segments reads as a list. -/
namespace Go.Proofs.YtifkmehnikfihaaGreat
open Go.ChangeShapes Go.WideShapes Go.ChangeAt Go.RowKit

theorem list_of {Q : Nat → Seg → Prop} : ∀ (n : Nat), (∀ i, i < n → ∃ s, Q i s) → ∃ l : List Seg, l.length = n ∧ ∀ i s, l[i]? = some s → Q i s
  | 0, _ => ⟨[], rfl, fun i s h => by simp at h⟩
  | n + 1, h => by
    obtain ⟨l, hl, hq⟩ := list_of n fun i hi => h i (by omega)
    obtain ⟨s, hs⟩ := h n (by omega)
    refine ⟨l ++ [s], by simp [hl], fun i t ht => ?_⟩
    rcases Nat.lt_or_ge i n with hlt | hge
    · rw [List.getElem?_append_left (by omega)] at ht
      exact hq i t ht
    · rw [List.getElem?_append_right (by omega)] at ht
      have hi : i - l.length < 1 := by
        have := (List.getElem?_eq_some_iff.1 ht).1
        simpa using this
      have h0 : i - l.length = 0 := by omega
      rw [h0] at ht
      simp at ht
      obtain rfl : i = n := by omega
      exact ht ▸ hs

theorem three_of {l : List Value} (h : l.length = 3) : ∃ a b c, l = [a, b, c] := by
  match l, h with
  | [a, b, c], _ => exact ⟨a, b, c, rfl⟩
theorem cells_seg : Tryz.prog.cellsOf 146 = 3 := by kernel_rfl
theorem cells_str : Tryz.prog.cellsOf 9 = 1 := by kernel_rfl
theorem cells_int : Tryz.prog.cellsOf 3 = 1 := by kernel_rfl

theorem open_segs {H : Type} {enc : TypeId × Value → H} {w : World} {base : Nat} {spare : Nat → Bool} {held : Bool} {fuel : Nat} {a0 : Option Addr} {n c : Nat} {x : DataW H × List MemPlace}
    (h : DataW.trod enc Tryz.prog w base spare held fuel 56 [.slice a0 n c] = some x) : ∃ l : List Seg, l.length = n ∧ n ≤ maxLen ∧ Segs w w.heap.size a0 l ∧ Short l := by
  rcases Deep.open_slice Tryz.underlying56 h with ⟨hcs, _⟩ | ⟨a, len, cap, m, n', D, Pl, hcs, hb, hl, hm, hmm, hx, hi⟩
  · simp at hcs
    obtain ⟨rfl, rfl, rfl⟩ := hcs
    exact ⟨[], rfl, Nat.zero_le _, fun h0 => absurd h0 (by simp), fun s hs => by simp at hs⟩
  · simp at hcs
    obtain ⟨rfl, rfl, rfl⟩ := hcs
    have hlm : n ≤ m := by rw [hmm]; split <;> omega
    have hs : ∀ i, i < n → ∃ s : Seg, (w.cell? (a.add (i * 3)) = some (.string s.name) ∧ w.cell? (a.add (i * 3 + 1)) = some (.int .i64 s.size) ∧ w.cell? (a.add (i * 3 + 2)) = some (.int .i64 s.par)) ∧ s.name.size ≤ maxLen := by
      intro i hin
      obtain ⟨cs', hc, ht'⟩ := hi i (by omega)
      rw [cells_seg] at hc
      obtain ⟨ys, n'', hn', hy, hlen, hyl, hf⟩ := DataW.trod_struct Tryz.underlying146 ht'
      obtain ⟨_, hcl, hat⟩ := World.cells?_some hc
      obtain ⟨u0, u1, u2, rfl⟩ := three_of hcl
      have e0 := hat 0 (by omega)
      have e1 := hat 1 (by omega)
      have e2 := hat 2 (by omega)
      have f0 : DataW.trod enc Tryz.prog w base spare held n'' 9 (([u0, u1, u2].drop 0).take (Tryz.prog.cellsOf 9)) = ys[0]? := hf 0 _ rfl
      rw [cells_str] at f0
      have f1 : DataW.trod enc Tryz.prog w base spare held n'' 3 (([u0, u1, u2].drop 1).take (Tryz.prog.cellsOf 3)) = ys[1]? := hf 1 _ rfl
      rw [cells_int] at f1
      have f2 : DataW.trod enc Tryz.prog w base spare held n'' 3 (([u0, u1, u2].drop 2).take (Tryz.prog.cellsOf 3)) = ys[2]? := hf 2 _ rfl
      rw [cells_int] at f2
      obtain ⟨y0, g0⟩ : ∃ y, ys[0]? = some y := ⟨_, List.getElem?_eq_getElem (by rw [hyl]; decide)⟩
      obtain ⟨y1, g1⟩ : ∃ y, ys[1]? = some y := ⟨_, List.getElem?_eq_getElem (by rw [hyl]; decide)⟩
      obtain ⟨y2, g2⟩ : ∃ y, ys[2]? = some y := ⟨_, List.getElem?_eq_getElem (by rw [hyl]; decide)⟩
      rw [g0] at f0
      rw [g1] at f1
      rw [g2] at f2
      obtain ⟨s, hs, _, hss⟩ := DataW.trod_string Tryz.underlying9 f0
      obtain ⟨p, hp, _, _⟩ := DataW.trod_int Tryz.underlying3 f1
      obtain ⟨q, hq, _, _⟩ := DataW.trod_int Tryz.underlying3 f2
      simp at hs hp hq
      subst hs hp hq
      rw [Deep.add_add] at e0 e1 e2
      exact ⟨⟨s, p, q⟩, ⟨e0, e1, e2⟩, hss⟩
    obtain ⟨l, hll, hq⟩ := list_of n hs
    refine ⟨l, hll, by omega, fun h0 => ?_, fun s hs => ?_⟩
    · obtain ⟨b, o, spot⟩ := a
      have hc0 := (hq 0 l[0] (List.getElem?_eq_getElem h0)).1.1
      have hspot : spot = none := by simpa [Addr.add] using World.cell?_spot hc0
      subst hspot
      have hlt := World.block_lt_of_cell? w _ hc0
      rw [WideShapes.add_plain] at hlt
      refine ⟨b, o, rfl, hlt, fun k s hk => ?_⟩
      have := (hq k s hk).1
      rw [WideShapes.add_plain, WideShapes.add_plain, WideShapes.add_plain, ← Nat.add_assoc, ← Nat.add_assoc] at this
      exact this
    · obtain ⟨j, hj, rfl⟩ := List.getElem_of_mem hs
      exact (hq j _ (List.getElem?_eq_getElem hj)).2

theorem own : ownKnob Tryz.prog.godebug = none := by kernel_rfl
theorem laidOut : laidOutB Tryz.prog = true := by kernel_rfl

end Go.Proofs.YtifkmehnikfihaaGreat
/- A law's argument that is a row of numbers: opened, turned into the program's own; the reference's l1Has over such a row. -/
namespace Go.Proofs.YtifkmehnikfihaaGreat
open Go.ChangeShapes Go.WideShapes Go.ChangeAt Go.RowKit

theorem list_ofI {Q : Nat → Int → Prop} : ∀ (n : Nat), (∀ i, i < n → ∃ s, Q i s) → ∃ l : List Int, l.length = n ∧ ∀ i s, l[i]? = some s → Q i s
  | 0, _ => ⟨[], rfl, fun i s h => by simp at h⟩
  | n + 1, h => by
    obtain ⟨l, hl, hq⟩ := list_ofI n fun i hi => h i (by omega)
    obtain ⟨s, hs⟩ := h n (by omega)
    refine ⟨l ++ [s], by simp [hl], fun i t ht => ?_⟩
    rcases Nat.lt_or_ge i n with hlt | hge
    · rw [List.getElem?_append_left (by omega)] at ht
      exact hq i t ht
    · rw [List.getElem?_append_right (by omega)] at ht
      have hi : i - l.length < 1 := by
        have := (List.getElem?_eq_some_iff.1 ht).1
        simpa using this
      have h0 : i - l.length = 0 := by omega
      rw [h0] at ht
      simp at ht
      obtain rfl : i = n := by omega
      exact ht ▸ hs
theorem one_ofI {l : List Value} (h : l.length = 1) : ∃ a, l = [a] := by
  match l, h with
  | [a], _ => exact ⟨a, rfl⟩
theorem open_ints {H : Type} {enc : TypeId × Value → H} {w : World} {base : Nat} {spare : Nat → Bool} {held : Bool} {fuel : Nat} {a0 : Option Addr} {n c : Nat} {x : DataW H × List MemPlace}
    (h : DataW.trod enc Tryz.prog w base spare held fuel 27 [.slice a0 n c] = some x) : ∃ ts : List Int, ts.length = n ∧ n ≤ maxLen ∧ Si.Ints w w.heap.size a0 ts := by
  rcases Deep.open_slice Tryz.underlying27 h with ⟨hcs, _⟩ | ⟨a, len, cap, m, n', D, Pl, hcs, hb, hl, hm, hmm, hx, hi⟩
  · simp at hcs
    obtain ⟨rfl, rfl, rfl⟩ := hcs
    exact ⟨[], rfl, Nat.zero_le _, fun h0 => absurd h0 (by simp)⟩
  · simp at hcs
    obtain ⟨rfl, rfl, rfl⟩ := hcs
    have hlm : n ≤ m := by rw [hmm]; split <;> omega
    have hs : ∀ i, i < n → ∃ s : Int, w.cell? (a.add i) = some (.int .i64 s) := by
      intro i hin
      obtain ⟨cs', hc, ht'⟩ := hi i (by omega)
      rw [cells_int] at hc
      obtain ⟨_, hcl, hat⟩ := World.cells?_some hc
      obtain ⟨u0, rfl⟩ := one_ofI hcl
      have e0 := hat 0 (by omega)
      obtain ⟨s, hs, _, _⟩ := DataW.trod_int Tryz.underlying3 ht'
      simp at hs
      subst hs
      rw [Deep.add_add] at e0
      exact ⟨s, by simpa using e0⟩
    obtain ⟨l, hll, hq⟩ := list_ofI n hs
    refine ⟨l, hll, by omega, fun h0 => ?_⟩
    obtain ⟨b, o, spot⟩ := a
    have hc0 := hq 0 l[0] (List.getElem?_eq_getElem h0)
    have hspot : spot = none := by simpa [Addr.add] using World.cell?_spot hc0
    subst hspot
    have hlt := World.block_lt_of_cell? w _ hc0
    rw [WideShapes.add_plain] at hlt
    refine ⟨b, o, rfl, hlt, fun k s hk => ?_⟩
    have := hq k s hk
    rw [WideShapes.add_plain] at this
    exact this

theorem run_makeI (n : Nat) (hn : n ≤ 1048576) (W : World) :
    (Instr.makeSlice 27 (.int .i64 (n : Int)) (.int .i64 (n : Int))).run Tryz.prog W = .ok (.slice (some ⟨W.heap.size, 0, none⟩) n n) (W.alloc (.cells (madeCells (Value.int .i64 0).cells (n * 1)) 3)) := by
  obtain ⟨i0, hi, hz0, hz1, hz2⟩ := info_parts info_int
  have hr := run_make (P := Tryz.prog) W 27 3 i0 (.int .i64 0) Tryz.underlying27 hi hz0 .i64 .i64 n n (by omega) (by omega) (by rw [hz2]; omega) (by omega)
  simp only [Int.toNat_natCast, hz1] at hr
  exact hr
/-- The first 'k' of the numbers lie in the cells. -/
def FilledI (ts : List Int) (k : Nat) (cs : Array Value) : Prop := cs.size = ts.length ∧ ∀ (j : Nat) (s : Int), j < k → ts[j]? = some s → cs[j]? = some (.int .i64 s)
theorem FilledI.next {ts : List Int} {k : Nat} {cs : Array Value} (h : FilledI ts k cs) (hk : k < ts.length) : FilledI ts (k + 1) (cs.setIfInBounds k (.int .i64 ts[k])) := by
  refine ⟨by simpa using h.1, fun j s hj hs => ?_⟩
  have hz := h.1
  rcases Nat.lt_or_ge j k with hlt | hge
  · rw [Array.getElem?_setIfInBounds_ne (by omega)]
    exact h.2 j s hlt hs
  · obtain rfl : j = k := by omega
    rw [List.getElem?_eq_getElem hk] at hs
    injection hs with hs
    subst hs
    rw [Array.getElem?_setIfInBounds_self_of_lt (by omega)]
theorem FilledI.done {ts : List Int} {cs : Array Value} {w : World} {g B : Nat} (h : FilledI ts ts.length cs) (hr : Row w g 3 cs) (hB : B ≤ g) (hm : ts.length ≤ maxLen) : Si.OwnInts w B (.slice (some ⟨g, 0, none⟩) ts.length ts.length) ts := by
  unfold Si.OwnInts
  have hl : cs.toList = ts.map (Value.int .i64) := by
    apply List.ext_getElem?
    intro i
    rw [Array.getElem?_toList, List.getElem?_map]
    rcases Nat.lt_or_ge i ts.length with hlt | hge
    · rw [h.2 i ts[i] hlt (List.getElem?_eq_getElem hlt), List.getElem?_eq_getElem hlt]
      rfl
    · rw [List.getElem?_eq_none hge, Array.getElem?_eq_none (by rw [h.1]; exact hge)]
      rfl
  refine ⟨by simp, .inr ⟨g, ts.length, cs, rfl, hB, hr, Nat.le_refl _, hm, by rw [h.1]; simp, ?_⟩⟩
  rw [hl, Nat.mul_one]
  exact List.take_of_length_le (by simp)

set_option maxHeartbeats 400000 in
theorem hasIn_any (B : Nat) (A : Option Addr) (c : Nat) (xs : List Int) (n : Int) (w : World) (hw : Si.Ints w B A xs) (hl : xs.length ≤ 2097152) :
    Calls Tryz.prog 178 #[.slice A xs.length c, .int .i64 n] w fun e w' => e = .returned (.bool (hasB xs n)) ∧ w = w' := by
  have HO := Lib.hid hw
  clear hw
  go_enter Tryz.func178, Tryz.ntmps178
  go_wp2
  go_loop [9] (fun i => ∃ (k : Nat), k ≤ xs.length ∧ i = .int .i64 k ∧ Hid (hasB (xs.take k) n = false))
    (fun i => xs.length - (intOf i).toNat)
  case atStart => exact ⟨0, Nat.zero_le _, rfl, rfl⟩
  case round =>
    obtain ⟨k, hk, rfl, HN⟩ := hrel
    by_cases hlt : k < xs.length
    · obtain ⟨b, o, rfl, hB, hcs⟩ := HO.out (by omega)
      have hc := hcs k xs[k] (List.getElem?_eq_getElem hlt)
      have HM : Hid (xs[k] ∈ xs) := List.getElem_mem hlt
      have HT : Hid _ := hasB_take (n := n) hlt
      clear hcs
      generalize xs[k] = x at *
      cases ht : (x == n) with
      | true =>
        have HE : Hid (hasB xs n = true) := by
          exact List.any_eq_true.2 ⟨x, HM.out, ht⟩
        go_wp2
        go_ret
        exact ⟨ret_bool HE.out.symm, rfl⟩
      | false =>
        have HE : Hid (hasB (xs.take (k + 1)) n = false) := by
          show _ = _
          rw [HT.out, HN.out, ht]; rfl
        go_wp2
        go_round
        case rel => exact ⟨k + 1, by omega, by go_num, HE⟩
        case measure => simp [intOf]; omega
    · go_wp2
      go_ret
      exact ⟨ret_bool (by rw [← HN.out, List.take_of_length_le (by omega)]), rfl⟩

end Go.Proofs.YtifkmehnikfihaaGreat
/- The reference's InOrder. -/
namespace Go.Proofs.YtifkmehnikfihaaGreat
open Go.RowKit

theorem hasB_contains (xs : List Int) (n : Int) : hasB xs n = xs.contains n := by
  unfold hasB
  rw [Bool.eq_iff_iff, List.any_eq_true, List.contains_iff_mem]
  exact ⟨fun ⟨x, hx, he⟩ => (beq_iff_eq.1 he) ▸ hx, fun h => ⟨n, h, beq_self_eq_true n⟩⟩
/-- The first k places are well. -/
def ordPre (n : Nat) (xs : List Int) (k : Nat) : Bool := (List.range k).all (fun i => decide (0 ≤ xs.getD i 0) && decide (xs.getD i 0 ≤ (n : Int) - 1) && !((xs.take i).contains (xs.getD i 0)))
theorem ordPre_next {n : Nat} {xs : List Int} {k : Nat} (hk : k < xs.length) : ordPre n xs (k + 1) = (ordPre n xs k && (inB xs[k] 0 ((n : Int) - 1) && !hasB (xs.take k) xs[k])) := by
  unfold ordPre
  rw [List.range_succ, List.all_append, hasB_contains]
  simp only [List.all_cons, List.all_nil, Bool.and_true, getD_in xs k 0 hk, inB]
theorem orderB_pre (n : Nat) (xs : List Int) : orderB n xs = (ordPre n xs xs.length && decide (xs.length = n)) := rfl
theorem ordPre_false {n : Nat} {xs : List Int} {k m : Nat} (h : ordPre n xs k = false) (hk : k ≤ m) : ordPre n xs m = false := by
  unfold ordPre at h ⊢
  rw [← Bool.not_eq_true, List.all_eq_true] at h ⊢
  exact fun hm => h fun i hi => hm i (List.mem_range.2 (Nat.lt_of_lt_of_le (List.mem_range.1 hi) hk))
theorem orderB_false {n : Nat} {xs : List Int} {k : Nat} (h : ordPre n xs k = false) (hk : k ≤ xs.length) : orderB n xs = false := by
  rw [orderB_pre, ordPre_false h hk]; rfl
theorem ints_take {w : World} {B : Nat} {A : Option Addr} {xs : List Int} (h : Si.Ints w B A xs) (k : Nat) : Si.Ints w B A (xs.take k) := fun hl => by
  obtain ⟨b, o, e, hB, hc⟩ := h (by rw [List.length_take] at hl; omega)
  refine ⟨b, o, e, hB, fun i s hi => hc i s ?_⟩
  rw [List.getElem?_take] at hi
  split at hi
  · exact hi
  · cases hi

set_option maxRecDepth 100000 in
set_option maxHeartbeats 1000000 in
theorem l11Order_any (B : Nat) (A : Option Addr) (c n : Nat) (xs : List Int) (w : World) (hw : Si.Ints w B A xs) (hl : xs.length ≤ 1048576) (hlc : xs.length ≤ c) (hcm : c ≤ 9223372036854775807) (hn : n ≤ 1000) :
    Calls Tryz.prog 121 #[.int .i64 n, .slice A xs.length c] w fun e w' => e = .returned (.bool (orderB n xs)) ∧ w = w' := by
  have HO := Lib.hid hw
  clear hw
  go_enter Tryz.func121, Tryz.ntmps121
  go_wp2
  go_loop [9] (fun i => ∃ (k : Nat), k ≤ xs.length ∧ i = .int .i64 k ∧ Hid (ordPre n xs k = true))
    (fun i => xs.length - (intOf i).toNat)
  case atStart => exact ⟨0, Nat.zero_le _, rfl, rfl⟩
  case round =>
    obtain ⟨k, hk, rfl, HN⟩ := hrel
    by_cases hlt : k < xs.length
    · obtain ⟨b, o, rfl, hB, hcs⟩ := HO.out (by omega)
      have hc := hcs k xs[k] (List.getElem?_eq_getElem hlt)
      have HT : Hid _ := ordPre_next (n := n) hlt
      have HTK : Hid (∀ x, Calls Tryz.prog 178 #[.slice (some ⟨b, o, none⟩) k c, .int .i64 x] w fun e w' => e = .returned (.bool (hasB (xs.take k) x)) ∧ w = w') := fun x => by
        have h1 := hasIn_any B (some ⟨b, o, none⟩) c (xs.take k) x w (ints_take HO.out k) (by rw [List.length_take]; omega)
        rw [List.length_take, Nat.min_eq_left (by omega)] at h1
        exact h1
      clear hcs
      have HF : Hid (ordPre n xs (k + 1) = false → orderB n xs = false) := fun h => orderB_false h (by omega)
      generalize xs[k] = x at *
      have HI := Lib.hid (l1In_any x 0 ((n : Int) - 1) w)
      cases hb : inB x 0 ((n : Int) - 1) with
      | false =>
        rw [hb] at HT HI
        go_wp2_with fail
        refine Calls.mono HI.out ?_
        rintro e w2 ⟨rfl, rfl⟩
        go_wp2
        go_ret
        exact ⟨ret_bool (HF.out (by rw [HT.out]; simp)).symm, rfl⟩
      | true =>
        rw [hb] at HT HI
        go_wp2_with fail
        refine Calls.mono HI.out ?_
        rintro e w2 ⟨rfl, rfl⟩
        have hkc : k ≤ c := by omega
        go_wp2_with fail
        refine Calls.mono (HTK.out x) ?_
        cases hh : hasB (xs.take k) x with
        | true =>
          rw [hh] at HT
          rintro e w2 ⟨rfl, rfl⟩
          go_wp2
          go_ret
          exact ⟨ret_bool (HF.out (by rw [HT.out]; simp)).symm, rfl⟩
        | false =>
          rw [hh] at HT
          rintro e w2 ⟨rfl, rfl⟩
          have HE : Hid (ordPre n xs (k + 1) = true) := by
            show _ = _
            rw [HT.out, HN.out]; rfl
          clear HT HTK HI HF hh hb
          go_wp2
          go_round
          case rel => exact ⟨k + 1, by omega, by go_num, HE⟩
          case measure => simp [intOf]; omega
    · have HK : Hid (orderB n xs = decide (xs.length = n)) := by
        show _ = _
        have h1 : k = xs.length := by omega
        rw [orderB_pre, ← h1, HN.out, Bool.true_and]
      clear HN
      by_cases he : xs.length = n
      · have h2 : ((xs.length : Int) == (n : Int)) = true := by rw [he]; simp
        have HE : Hid (orderB n xs = true) := by show _ = _; rw [HK.out]; exact decide_eq_true he
        clear he HK
        go_wp2
        go_ret
        exact ⟨ret_bool HE.out.symm, rfl⟩
      · have h2 : ((xs.length : Int) == (n : Int)) = false := by
          rw [beq_eq_false_iff_ne]; omega
        have HE : Hid (orderB n xs = false) := by show _ = _; rw [HK.out]; exact decide_eq_false he
        go_wp2
        go_ret
        exact ⟨ret_bool HE.out.symm, rfl⟩

theorem str_app (x y : List UInt8) : strOf x ++ strOf y = strOf (x ++ y) := bytes_cat x y
theorem strOf_list (b : ByteArray) : strOf b.data.toList = b := by
  unfold strOf
  apply ByteArray.ext
  simp

set_option maxRecDepth 100000 in
set_option maxHeartbeats 1000000 in
theorem l11Join_any (B : Nat) (A : Option Addr) (c : Nat) (ts : List ByteArray) (A2 : Option Addr) (c2 : Nat) (xs : List Int) (w : World) (ht : St.Strs w B A ts) (hx : Si.Ints w B A2 xs)
    (hin : ∀ x ∈ xs, 0 ≤ x ∧ x < (ts.length : Int)) (hsz : ∀ s ∈ ts, s.size ≤ 240) (hl : xs.length ≤ 80) (hts : ts.length ≤ 80) :
    Calls Tryz.prog 109 #[.slice A ts.length c, .slice A2 xs.length c2] w fun e w' => e = .returned (.string (strOf (joinO ts xs))) ∧ w = w' := by
  have HT := Lib.hid ht
  have HX := Lib.hid hx
  have HI := Lib.hid hin
  have HS := Lib.hid hsz
  clear ht hx hin hsz
  go_enter Tryz.func109, Tryz.ntmps109
  go_wp2
  go_loop [5, 10] (fun s i => ∃ (k : Nat) (z : ByteArray), k ≤ xs.length ∧ s = .string z ∧ i = .int .i64 k ∧ Hid (z = strOf (joinO ts (xs.take k))))
    (fun _ i => xs.length - (intOf i).toNat)
  case atStart => exact ⟨0, _, Nat.zero_le _, rfl, rfl, rfl⟩
  case round =>
    obtain ⟨k, z, hk, rfl, rfl, HZ⟩ := hrel
    by_cases hlt : k < xs.length
    · obtain ⟨b, o, rfl, hB, hcs⟩ := HX.out (by omega)
      have hc := hcs k xs[k] (List.getElem?_eq_getElem hlt)
      obtain ⟨hx0, hx1⟩ := HI.out xs[k] (List.getElem_mem hlt)
      have HJ : Hid (joinO ts (xs.take (k + 1)) = joinO ts (xs.take k) ++ (ts.getD xs[k].toNat ⟨#[]⟩).data.toList) := by
        show _ = _
        rw [List.take_succ_eq_append_getElem hlt, joinO_snoc]
      have hzl : z.size ≤ 20000 := by
        have h1 := joinO_len HS.out (xs.take k)
        rw [HZ.out]
        unfold strOf
        show (joinO ts (xs.take k)).toArray.size ≤ 20000
        rw [List.size_toArray, List.length_take] at *
        have : min k xs.length ≤ 80 := by omega
        omega
      clear hcs
      generalize xs[k] = x at *
      obtain ⟨j, rfl⟩ := Int.eq_ofNat_of_zero_le hx0
      have hj : j < ts.length := by omega
      obtain ⟨b2, o2, rfl, hB2, hcs2⟩ := HT.out (by omega)
      have hc2 := hcs2 j ts[j] (List.getElem?_eq_getElem hj)
      have hys := HS.out ts[j] (List.getElem_mem hj)
      rw [Int.toNat_natCast, getD_in ts j _ hj] at HJ
      have HJ2 : Hid (z ++ ts[j] = strOf (joinO ts (xs.take (k + 1)))) := by
        show _ = _
        rw [HJ.out, ← str_app, ← HZ.out, strOf_list]
      clear hcs2 HJ
      generalize ts[j] = y at *
      have hsum : z.size + y.size ≤ 9223372036854775807 := by omega
      go_wp2
      go_round
      case rel => exact ⟨k + 1, _, by omega, rfl, by go_num, HJ2⟩
      case measure => simp [intOf]; omega
    · go_wp2
      go_ret
      refine ⟨?_, rfl⟩
      rw [HZ.out, List.take_of_length_le (by omega)]
      rfl

/-- What InOrder hands back. -/
def InOrdPost (w : World) (l : List Seg) (t : ByteArray) (xs : List Int) (e : Ending) (w' : World) : Prop :=
  e = .returned (.tuple #[.string (inOrdRes l t xs), .bool (inOrdOk l t xs)]) ∧ Below w.heap.size w w'
theorem order_in {n : Nat} {xs : List Int} (h : orderA n xs = true) : xs.length = n ∧ ∀ x ∈ xs, 0 ≤ x ∧ x < (n : Int) := by
  unfold orderA at h
  simp only [Bool.and_eq_true, List.all_eq_true, List.mem_range, decide_eq_true_eq, List.contains_iff_mem] at h
  exact ⟨h.1, (nodup_of_all n xs h.1 h.2).2⟩

set_option maxRecDepth 100000 in
set_option maxHeartbeats 1000000 in
theorem specInOrder_any (A : Option Addr) (l : List Seg) (c : Nat) (t : ByteArray) (A2 : Option Addr) (xs : List Int) (c2 : Nat) (w : World) (hw : Segs w w.heap.size A l) (hx : Si.Ints w w.heap.size A2 xs) (hl : l.length ≤ 1048576) (hn : Short l) (ht : t.size ≤ 1048576)
    (hxl : xs.length ≤ 1048576) (hxc : xs.length ≤ c2) (hcm : c2 ≤ 9223372036854775807) :
    Calls Tryz.prog 55 #[.slice A l.length c, .string t, .slice A2 xs.length c2] w (InOrdPost w l t xs) := by
  have HQ := Lib.hid (l11Top_any A l c t w hw hl hn ht)
  have hb1 := topsRes_le l t
  have HS := Lib.hid (topsRes_bound l t)
  have HR : Hid (∀ o : Bool, o = inOrdOk l t xs → inOrdRes l t xs = if o = true then strOf (joinO (topsRes l t) xs) else ⟨#[]⟩) := fun o e => by rw [e]; rfl
  have HD : Hid (inOrdOk l t xs = ((traceB l t.data.toList).isSome && orderA (topsRes l t).length xs)) := rfl
  have HX := Lib.hid hx
  unfold TopsPost at HQ
  unfold InOrdPost
  generalize (traceB l t.data.toList).isSome = d at *
  generalize topsRes l t = ts at *
  generalize inOrdRes l t xs = rt at *
  generalize inOrdOk l t xs = rd at *
  clear hw hn hx
  go_enter Tryz.func55, Tryz.ntmps55
  go_wp2_with fail
  refine Calls.mono HQ.out ?_
  rintro e w2 ⟨v, rfl, ho, hb⟩
  obtain ⟨A3, cap3, rfl, hs3⟩ := St.textsForm ho
  have HB := Lib.hid hb
  have HT := Lib.hid hs3
  have HX2 : Hid (Si.Ints w2 w2.heap.size A2 xs) := (HX.out.below hb).more hb.size
  clear ho hs3 hb HQ HX
  cases d with
  | false =>
    have h1 : rd = false := by rw [HD.out]; rfl
    have h2 : rt = ⟨#[]⟩ := by rw [HR.out _ h1.symm]; rfl
    subst h1 h2
    clear HR HD HX2
    go_wp2
    go_ret2
    exact ⟨rfl, HB.out⟩
  | true =>
    have HO := Lib.hid (l11Order_any w2.heap.size A2 c2 ts.length xs w2 HX2.out hxl hxc hcm (by omega))
    rw [orderA_is] at HO
    rw [Bool.true_and] at HD
    cases ha : orderA ts.length xs with
    | false =>
      have h1 : rd = false := by rw [HD.out, ha]
      have h2 : rt = ⟨#[]⟩ := by rw [HR.out _ h1.symm]; rfl
      subst h1 h2
      rw [ha] at HO
      clear HR HD HX2 ha
      go_wp2_with fail
      refine Calls.mono HO.out ?_
      rintro e w3 ⟨rfl, rfl⟩
      go_wp2
      go_ret2
      exact ⟨rfl, HB.out⟩
    | true =>
      have h1 : rd = true := by rw [HD.out, ha]
      have h2 : rt = strOf (joinO ts xs) := by rw [HR.out _ h1.symm]; rfl
      obtain ⟨hln, hin⟩ := order_in ha
      have HJ := Lib.hid (l11Join_any w2.heap.size A3 cap3 ts A2 c2 xs w2 HT.out HX2.out hin HS.out (by omega) hb1)
      subst h1 h2
      rw [ha] at HO
      clear HR HD HX2 ha hln hin
      go_wp2_with fail
      refine Calls.mono HO.out ?_
      rintro e w3 ⟨rfl, rfl⟩
      go_wp2_with fail
      refine Calls.mono HJ.out ?_
      rintro e w3 ⟨rfl, rfl⟩
      go_wp2
      go_ret2
      exact ⟨rfl, HB.out⟩

end Go.Proofs.YtifkmehnikfihaaGreat
/- The reference's SortedOrder. -/
namespace Go.Proofs.YtifkmehnikfihaaGreat
open Go.RowKit

/-- Who is called outermost; nobody where nothing was read. -/
def headsR (l : List Seg) (t : ByteArray) : List UInt8 := match traceB l t.data.toList with
  | none => []
  | some f => headsB f
theorem sortNat_nil (l : List Seg) : sortNat l [] = [] := List.flatMap_eq_nil_iff.2 fun _ _ => rfl
theorem sortRes_is (l : List Seg) (t : ByteArray) : sortRes l t = (sortNat l (headsR l t)).map fun (k : Nat) => (k : Int) := by
  unfold sortRes headsR
  cases traceB l t.data.toList with
  | none => rw [sortNat_nil]; rfl
  | some f => rfl
theorem topsRes_heads (l : List Seg) (t : ByteArray) : (topsRes l t).length = (headsR l t).length := by
  unfold topsRes headsR
  cases traceB l t.data.toList with
  | none => rfl
  | some f => show ((topsB f).map strOf).length = (headsB f).length; rw [List.length_map, topsB_len, headsB_len]
/-- What stands when all of the first k segments' calls are taken, and of the next one's those below i. -/
def sortPre (l : List Seg) (cs : List UInt8) (k i : Nat) : List Nat := (List.range k).flatMap (groupB l cs) ++ (List.range i).filter fun j => cs.getD j 0 == byteOf l k
theorem sortPre_start (l : List Seg) (cs : List UInt8) : sortPre l cs 0 0 = [] := rfl
theorem sortPre_next (l : List Seg) (cs : List UInt8) (k i : Nat) : sortPre l cs k (i + 1) = if cs.getD i 0 == byteOf l k then sortPre l cs k i ++ [i] else sortPre l cs k i := by
  unfold sortPre
  rw [List.range_succ, List.filter_append, ← List.append_assoc]
  by_cases h : (cs.getD i 0 == byteOf l k) = true
  · rw [if_pos h, List.filter_cons_of_pos (by exact h), List.filter_nil]
  · rw [if_neg h, List.filter_cons_of_neg (by exact h), List.filter_nil, List.append_nil]
theorem sortPre_row (l : List Seg) (cs : List UInt8) (k : Nat) : sortPre l cs (k + 1) 0 = sortPre l cs k cs.length := by
  unfold sortPre
  rw [List.range_succ, List.flatMap_append, List.flatMap_cons, List.flatMap_nil, List.append_nil]
  show _ ++ [] = _
  rw [List.append_nil]; rfl
theorem sortPre_all (l : List Seg) (cs : List UInt8) : sortPre l cs l.length 0 = sortNat l cs := by
  unfold sortPre sortNat
  show _ ++ [] = _
  rw [List.append_nil]
theorem flat_len {α β : Type} {f : α → List β} {n : Nat} (h : ∀ a, (f a).length ≤ n) : ∀ xs : List α, (xs.flatMap f).length ≤ xs.length * n
  | [] => Nat.zero_le _
  | a :: xs => by
    rw [List.flatMap_cons, List.length_append, List.length_cons, Nat.succ_mul]
    have := h a
    have := flat_len h xs
    omega
theorem sortPre_len (l : List Seg) (cs : List UInt8) (k i : Nat) : (sortPre l cs k i).length ≤ k * cs.length + i := by
  unfold sortPre
  rw [List.length_append]
  have h1 := flat_len (f := groupB l cs) (n := cs.length) (fun t => by
    unfold groupB
    have := List.length_filter_le (fun i => cs.getD i 0 == byteOf l t) (List.range cs.length)
    rw [List.length_range] at this; exact this) (List.range k)
  have h2 := List.length_filter_le (fun j => cs.getD j 0 == byteOf l k) (List.range i)
  rw [List.length_range] at h1 h2
  omega
def sortInts (l : List Seg) (t : ByteArray) (k i : Nat) : List Int := (sortPre l (headsR l t) k i).map fun (k : Nat) => (k : Int)
/-- What one test of the inner loop meets. -/
theorem sort_round (l : List Seg) (t : ByteArray) (k i : Nat) (hk : k < l.length) (hi : i < (topsRes l t).length) :
    (traceB l t.data.toList).isSome = true ∧ (sortInts l t k i).length ≤ 10000 ∧ ∃ c x b, (topsRes l t)[i] = strOf (c :: x) ∧ l[k].name = ⟨#[b]⟩ ∧ sortInts l t k (i + 1) = if c == b then sortInts l t k i ++ [(i : Int)] else sortInts l t k i := by
  have hth := topsRes_heads l t
  have h80 := topsRes_le l t
  have hi2 := hi
  unfold topsRes at hi2
  cases hR : traceB l t.data.toList with
  | none => rw [hR] at hi2; cases hi2
  | some f =>
    obtain ⟨hv, -, -⟩ := traceB_some hR
    refine ⟨rfl, ?_, ?_⟩
    · unfold sortInts
      rw [List.length_map]
      have h1 := sortPre_len l (headsR l t) k i
      have h8 := (valid_all hv).2.1
      have : k * (headsR l t).length ≤ 8 * 80 := Nat.mul_le_mul (by omega) (by omega)
      omega
    · have e1 : topsRes l t = (topsB f).map strOf := by unfold topsRes; rw [hR]
      have e2 : headsR l t = headsB f := by unfold headsR; rw [hR]
      have hif : i < (topsB f).length := by rw [e1, List.length_map] at hi; exact hi
      rcases headsB_tops f i with ⟨h, _⟩ | ⟨c, x, h1, h2⟩
      · rw [List.getElem?_eq_getElem hif] at h; cases h
      · refine ⟨c, x, byteOf l k, ?_, (nmAt_one hv hk).2, ?_⟩
        · have : (topsRes l t)[i]? = some (strOf (c :: x)) := by rw [e1, List.getElem?_map, h1]; rfl
          rw [List.getElem?_eq_getElem hi] at this
          injection this
        · unfold sortInts
          rw [sortPre_next, e2]
          have : (headsB f).getD i 0 = c := by rw [List.getD_eq_getElem?_getD, h2]; rfl
          rw [this]
          by_cases hb : (c == byteOf l k) = true
          · rw [if_pos hb, if_pos hb, List.map_append]; rfl
          · rw [if_neg hb, if_neg hb]

set_option maxRecDepth 100000 in
/-- Numbers put behind numbers, and what else stands. -/
theorem wp_appJ11 {ops : Array Oper} {rest : List Oper} {o : Oper} {a : Act} {Q : Exit → Act → World → Prop} (hgd : o.guard = none) (S X : Operand)
    (ho : o.op = Op.call { callee := Callee.builtin Builtin.append, args := #[S, X], argTypes := #[27, 27] })
    (B : Nat) (v : Value) (ts : List Int) (W : World) (hs : a.eval S = v) (hown : Si.OwnInts W B v ts) (htl : ts.length ≤ 10000) (hB : B ≤ W.heap.size)
    (g : Nat) (u : Int) (hx : a.eval X = .slice (some ⟨g, 0, none⟩) 1 1) (hnew : W.cell? ⟨g, 0, none⟩ = some (.int .i64 u))
    (h : ∀ v' w', Si.OwnInts w' B v' (ts ++ [u]) → Below B W w' → (∀ k, k < W.heap.size → v.ownBlock ≠ some k → w'.heap[k]? = W.heap[k]?) → (∀ k, k < W.heap.size → v.ownBlock ≠ some k → v'.ownBlock ≠ some k) → wpList Tryz.prog ops Q rest (a.put o.dst v') w') :
    wpList Tryz.prog ops Q (o :: rest) a W := by
  obtain ⟨i0, hi, hz0, hz1, hz2⟩ := info_parts info_int
  refine wpList_append_own_at W hgd S X 27 ho B 3 i0 (.int .i64 0) 1 8 Tryz.underlying27 hi hz0 hz1 hz2 rfl (by decide) v ts.length (ts.map (Value.int .i64)) hs hown ⟨g, 0, none⟩ 1 1 [.int .i64 u] hx rfl ?_ ?_ (by unfold maxLen; omega) (by omega) hB ?_
  · intro j x hj
    have hj0 : j = 0 := by have := (List.getElem?_eq_some_iff.1 hj).1; simp at this; omega
    subst hj0
    simp at hj
    subst hj
    exact hnew
  · intro x hx'
    rw [List.mem_singleton.1 hx']
    rfl
  · intro v' w' h1 h2 h3 h4
    refine h v' w' ?_ ?_ ?_ ?_
    · show w'.ownsRow B _ 1 v' (ts ++ [u]).length ((ts ++ [u]).map (Value.int .i64))
      rw [List.length_append, List.map_append]
      exact h1
    · exact (Below.refl B W).grown h2 hB (fun k e => (World.ownsRow.lt hown k e).1)
    · exact fun k hk hne => h2.block k hk (fun e => hne e.symm)
    · intro k hk hne e
      rcases h4 with h4 | h4
      · rw [h4] at e; exact hne e
      · rw [h4] at e; injection e with e; omega
theorem own_keep11 {w w' : World} {B : Nat} {e : TypeId} {size : Nat} {v : Value} {n : Nat} {xs : List Value} (h : w.ownsRow B e size v n xs) (hk : ∀ k, v.ownBlock = some k → w'.heap[k]? = w.heap[k]?) : w'.ownsRow B e size v n xs := by
  refine ⟨h.1, ?_⟩
  rcases h.2 with h0 | ⟨g, cap, cur, rfl, h1, h2, h3⟩
  · exact .inl h0
  · exact .inr ⟨g, cap, cur, rfl, h1, (hk g rfl).trans h2, h3⟩
theorem own_lt {w : World} {B : Nat} {e : TypeId} {size : Nat} {v : Value} {n : Nat} {xs : List Value} (h : w.ownsRow B e size v n xs) {k : Nat} (hk : v.ownBlock = some k) : B ≤ k ∧ k < w.heap.size := by
  have := World.ownsRow.lt h k hk
  omega

theorem first_of (c : UInt8) (x : List UInt8) : (strOf (c :: x)).extract 0 1 = ⟨#[c]⟩ := by
  apply ByteArray.ext
  unfold strOf
  simp
theorem str_one_eq (c b : UInt8) : sameB (⟨#[c]⟩ : ByteArray) ⟨#[b]⟩ = (c == b) := by
  by_cases h : c = b
  · subst h; rw [beq_self_eq_true]; exact sameB_iff.2 rfl
  · rw [beq_false_of_ne h, ← Bool.not_eq_true]
    intro e
    have e := sameB_iff.1 e
    injection e with e; injection e with e; injection e with e
    exact h e

set_option maxRecDepth 100000 in
set_option maxHeartbeats 4000000 in
theorem specSortedOrder_any (A : Option Addr) (l : List Seg) (c : Nat) (t : ByteArray) (w : World) (hw : Segs w w.heap.size A l) (hl : l.length ≤ 1048576) (hn : Short l) (ht : t.size ≤ 1048576) :
    Calls Tryz.prog 62 #[.slice A l.length c, .string t] w (SortPost w l t) := by
  have HB1 : Hid (Below w.heap.size w (w.alloc (.cells #[] 3))) := (Below.refl _ w).alloc (Nat.le_refl _) _
  have HQ := Lib.hid (l11Top_any A l c t (w.alloc (.cells #[] 3)) ((hw.below HB1.out).more HB1.out.size) hl hn ht)
  have HW := Lib.hid hw
  have HO1 : Hid (Si.OwnInts (w.alloc (.cells #[] 3)) w.heap.size (.slice (some ⟨w.heap.size, 0, none⟩) 0 0) (sortInts l t 0 0)) :=
    ⟨rfl, .inr ⟨w.heap.size, 0, #[], rfl, Nat.le_refl _, heap_alloc_new _ _, Nat.le_refl _, by unfold maxLen; omega, rfl, rfl⟩⟩
  have HRND := Lib.hid (sort_round l t)
  have h80 := topsRes_le l t
  have HROW : Hid (∀ k, sortInts l t (k + 1) 0 = sortInts l t k (topsRes l t).length) := fun k => by
    unfold sortInts; rw [sortPre_row, topsRes_heads]
  have HALL : Hid (sortInts l t l.length 0 = sortRes l t) := by
    show _ = _
    unfold sortInts; rw [sortPre_all, sortRes_is]
  unfold TopsPost at HQ
  unfold SortPost
  generalize (traceB l t.data.toList).isSome = d at *
  generalize topsRes l t = ts at *
  generalize sortRes l t = R0 at *
  generalize sortInts l t = pre at *
  clear hw hn
  go_enter Tryz.func62, Tryz.ntmps62
  go_wp2_with fail
  refine Calls.mono HQ.out ?_
  rintro e w2 ⟨v, rfl, ho, hb⟩
  rw [World.size_alloc] at ho hb
  obtain ⟨A3, cap3, rfl, -⟩ := St.textsForm ho
  have HT2 : Hid (OwnTexts w2 w.heap.size (.slice A3 ts.length cap3) ts) := own_low ho (by omega)
  have HB2 : Hid (Below w.heap.size w w2) := HB1.out.trans (hb.mono (by omega))
  have HO2 : Hid (Si.OwnInts w2 w.heap.size (.slice (some ⟨w.heap.size, 0, none⟩) 0 0) (pre 0 0)) := own_keep11 HO1.out fun k hk => by
    injection hk with hk
    exact hb.block _ (by have : w.heap.size = k := hk; omega)
  have HD2 : Hid (∀ k, (Value.slice (some ⟨w.heap.size, 0, none⟩) 0 0).ownBlock = some k → (Value.slice A3 ts.length cap3).ownBlock ≠ some k) := fun k h1 h2 => by
    have := (own_lt ho h2).1
    injection h1 with h1
    have : w.heap.size = k := h1
    omega
  clear ho hb HQ HO1 HB1
  go_wp2
  go_loopw [6, 22] (fun o i wr => ∃ (k : Nat), k ≤ l.length ∧ i = .int .i64 k ∧ Hid (Si.OwnInts wr w.heap.size o (pre k 0)) ∧ Hid (OwnTexts wr w.heap.size (.slice A3 ts.length cap3) ts) ∧ Hid (∀ b, o.ownBlock = some b → (Value.slice A3 ts.length cap3).ownBlock ≠ some b) ∧ Hid (Below w.heap.size w wr))
    (fun _ i _ => l.length - (intOf i).toNat)
  case atStart => exact ⟨0, Nat.zero_le _, rfl, HO2, HT2, HD2, HB2⟩
  case round =>
    obtain ⟨k, hk, rfl, HO, HT, HD, HB⟩ := hrel
    clear HO2 HT2 HD2 HB2
    by_cases hlt : k < l.length
    · obtain ⟨b, o, rfl, hB, hcs⟩ := (HW.out.below HB.out) (by omega)
      obtain ⟨c0, c1, c2⟩ := hcs k l[k] (List.getElem?_eq_getElem hlt)
      have HRN := Lib.hid (fun i => HRND.out k i hlt)
      clear hcs
      generalize l[k].name = nm at *
      generalize l[k].size = sz at *
      generalize l[k].par = pr at *
      obtain ⟨A1, cap1, rfl, -⟩ := Si.intsForm HO.out
      have HOq : Hid (Si.OwnInts (wr.alloc (.cells #[.string nm, .int .i64 sz, .int .i64 pr] 34)) w.heap.size (.slice A1 (pre k 0).length cap1) (pre k 0)) := HO.out.below ((Below.refl _ wr).alloc (Nat.le_refl _) _)
      have HTq : Hid (OwnTexts (wr.alloc (.cells #[.string nm, .int .i64 sz, .int .i64 pr] 34)) w.heap.size (.slice A3 ts.length cap3) ts) := HT.out.below ((Below.refl _ wr).alloc (Nat.le_refl _) _)
      have HBq : Hid (Below w.heap.size w (wr.alloc (.cells #[.string nm, .int .i64 sz, .int .i64 pr] 34))) := HB.out.alloc HB.out.size _
      have HRq : Hid (Row (wr.alloc (.cells #[.string nm, .int .i64 sz, .int .i64 pr] 34)) wr.heap.size 34 #[.string nm, .int .i64 sz, .int .i64 pr]) := Row.new wr _ _
      have HNq : Hid ((Value.slice A1 (pre k 0).length cap1).ownBlock ≠ some wr.heap.size ∧ (Value.slice A3 ts.length cap3).ownBlock ≠ some wr.heap.size) := ⟨fun h => by have := (own_lt HO.out h).2; omega, fun h => by have := (own_lt HT.out h).2; omega⟩
      go_wp2
      go_loopw [6, 28] (fun o i ws => ∃ (j : Nat), j ≤ ts.length ∧ i = .int .i64 j ∧ Hid (Si.OwnInts ws w.heap.size o (pre k j)) ∧ Hid (OwnTexts ws w.heap.size (.slice A3 ts.length cap3) ts) ∧ Hid (∀ b, o.ownBlock = some b → (Value.slice A3 ts.length cap3).ownBlock ≠ some b) ∧ Hid (Below w.heap.size w ws) ∧ Hid (Row ws wr.heap.size 34 #[.string nm, .int .i64 sz, .int .i64 pr]) ∧ Hid (o.ownBlock ≠ some wr.heap.size ∧ (Value.slice A3 ts.length cap3).ownBlock ≠ some wr.heap.size))
        (fun _ i _ => ts.length - (intOf i).toNat)
      case atStart => exact ⟨0, Nat.zero_le _, rfl, HOq, HTq, HD, HBq, HRq, HNq⟩
      case round =>
        obtain ⟨j, hj, rfl, HO2, HT2, HD2, HB2, HR2, HN2⟩ := hrel
        clear HOq HTq HD HBq HRq HNq HO HT HB c0 c1 c2
        by_cases hjt : j < ts.length
        · obtain ⟨hd, hpl, ch, x, bn, htj, rfl, hnx⟩ := HRN.out j hjt
          subst hd
          obtain ⟨A6, cap6, h6, HSS⟩ := St.textsForm HT2.out
          injection h6 with h61 _ h63
          subst h61 h63
          obtain ⟨b2, o2, rfl, hB2, hcs2⟩ := HSS (by omega)
          have e1 := hcs2 j ts[j] (List.getElem?_eq_getElem hjt)
          rw [htj] at e1
          have e2 := HR2.out.cell 0
          obtain ⟨A5, cap5, rfl, -⟩ := Si.intsForm HO2.out
          have hfs : 1 ≤ (strOf (ch :: x)).size := by
            unfold strOf
            show 1 ≤ (ch :: x).toArray.size
            rw [List.size_toArray, List.length_cons]; omega
          have hfx := first_of ch x
          generalize strOf (ch :: x) = tx at *
          clear hcs2 htj HSS HRN
          have HNX := Lib.hid hnx
          clear hnx
          go_wp2_with fail
          go_quiet (fail)
          have HO9 : Hid (Si.OwnInts (wr.drewN nq) w.heap.size (.slice A5 (pre k j).length cap5) (pre k j)) := HO2.out
          have HT9 : Hid (OwnTexts (wr.drewN nq) w.heap.size (.slice (some ⟨b2, o2, none⟩) ts.length cap3) ts) := HT2.out
          have HB9 : Hid (Below w.heap.size w (wr.drewN nq)) := HB2.out.trans ⟨rfl, rfl, rfl, Nat.le_refl _, fun _ _ => rfl⟩
          have HR9 : Hid (Row (wr.drewN nq) _ 34 #[.string ⟨#[bn]⟩, .int .i64 sz, .int .i64 pr]) := HR2.out
          clear HO2 HT2 HB2 HR2 e1 e2
          generalize wr.drewN nq = w9 at *
          have hz9 := HB9.out.size
          cases hcb : ch == bn with
          | false =>
            rw [hcb] at HNX
            have HP : Hid (pre k (j + 1) = pre k j) := HNX.out
            go_wp2
            go_roundw
            case rel => exact ⟨j + 1, by omega, by go_num, by rw [HP.out]; exact HO9, HT9, HD2, HB9, HR9, HN2⟩
            case measure => simp [intOf]; omega
          | true =>
            rw [hcb] at HNX
            have HP : Hid (pre k (j + 1) = pre k j ++ [(j : Int)]) := HNX.out
            have HT6 : Hid (Si.OwnInts (w9.alloc (.cells #[.int .i64 j] 3)) w.heap.size (.slice A5 (pre k j).length cap5) (pre k j)) := HO9.out.below ((Below.refl _ w9).alloc (Nat.le_refl _) _)
            have HN6 : Hid ((w9.alloc (.cells #[.int .i64 j] 3)).cell? ⟨w9.heap.size, 0, none⟩ = some (.int .i64 j)) := Row.cell (Row.new w9 3 #[.int .i64 j]) 0
            have HT10 : Hid (OwnTexts (w9.alloc (.cells #[.int .i64 j] 3)) w.heap.size (.slice (some ⟨b2, o2, none⟩) ts.length cap3) ts) := HT9.out.below ((Below.refl _ w9).alloc (Nat.le_refl _) _)
            have HR10 : Hid (Row (w9.alloc (.cells #[.int .i64 j] 3)) _ 34 #[.string ⟨#[bn]⟩, .int .i64 sz, .int .i64 pr]) := HR9.out.below ((Below.refl _ w9).alloc (Nat.le_refl _) _) HR9.out.lt
            have HB10 : Hid (Below w.heap.size w (w9.alloc (.cells #[.int .i64 j] 3))) := HB9.out.alloc hz9 _
            clear HO9 HT9 HB9 HR9 HNX
            go_wp2_with (at_builtin; go_loud (refine wp_appJ11 rfl (.tmp 41) (.tmp 43) rfl w.heap.size _ (pre k j) _ rfl HT6.out hpl (by simp; omega) w9.heap.size (j : Int) rfl HN6.out ?_); intro v7 w7 ho7 hb7 hk7 ha7; have HO7 := Lib.hid ho7; have HB7 := Lib.hid (HB10.out.trans hb7); have HT7 := Lib.hid (own_keep11 HT10.out fun b hb => hk7 b (own_lt HT10.out hb).2 fun h => HD2.out b h hb); have HR7 := Lib.hid ((hk7 _ HR10.out.lt HN2.out.1).trans HR10.out); have HD7 := Lib.hid (fun b (h : v7.ownBlock = some b) (hb : (Value.slice (some ⟨b2, o2, none⟩) ts.length cap3).ownBlock = some b) => ha7 b (own_lt HT10.out hb).2 (fun h2 => HD2.out b h2 hb) h); have HN7 := Lib.hid (And.intro (ha7 _ HR10.out.lt HN2.out.1) HN2.out.2); clear ho7 hb7 hk7 ha7 HN6 HT6 HT10 HR10 HB10)
            rw [← HP.out] at HO7
            go_roundw
            case rel => exact ⟨j + 1, by omega, by go_num, HO7, HT7, HD7, HB7, HR7, HN7⟩
            case measure => simp [intOf]; omega
        · have hje : j = ts.length := by omega
          subst hje
          rw [← HROW.out] at HO2
          go_wp2
          go_roundw
          case rel => exact ⟨k + 1, by omega, by go_num, HO2, HT2, HD2, HB2⟩
          case measure => simp [intOf]; omega
    · have hke : k = l.length := by omega
      subst hke
      rw [HALL.out] at HO
      go_wp2
      go_ret2
      exact ⟨_, rfl, HO.out, HB.out⟩

end Go.Proofs.YtifkmehnikfihaaGreat
