/- Joined: Jb Ji. -/
import Derived.Test.YtnknfpfpjijemaaU15
import Derived.Test.YtnknfpfpjijemaaU24
import Derived.Test.YtnknfpfpjijemaaU14
import Derived.Test.YtnknfpfpjijemaaU23
/- A law's argument that is a row of texts: opened, sized, turned into the program's own. -/
namespace Go.Proofs.Ytnknfpfpjijemaa
open Go.ChangeShapes Go.WideShapes Go.ChangeAt Go.RowKit

/-- Texts no longer than Go allows. -/
def Shorts (ts : List ByteArray) : Prop := ∀ s ∈ ts, s.size ≤ maxLen
theorem list_ofT {Q : Nat → ByteArray → Prop} : ∀ (n : Nat), (∀ i, i < n → ∃ s, Q i s) → ∃ l : List ByteArray, l.length = n ∧ ∀ i s, l[i]? = some s → Q i s
  | 0, _ => ⟨[], rfl, fun i s h => by simp at h⟩
  | n + 1, h => by
    obtain ⟨l, hl, hq⟩ := list_ofT n fun i hi => h i (by omega)
    obtain ⟨s, hs⟩ := h n (by omega)
    refine ⟨l ++ [s], by simp [hl], fun i t ht => ?_⟩
    rcases Nat.lt_or_ge i n with hlt | hge
    · rw [List.getElem?_append_left (by omega)] at ht
      exact hq i t ht
    · rw [List.getElem?_append_right (by omega)] at ht
      have hi : i - l.length < 1 := by
        have := (List.getElem?_eq_some_iff.1 ht).1
        simpa using this
      have h0 : i - l.length = 0 := by omega
      rw [h0] at ht
      simp at ht
      obtain rfl : i = n := by omega
      exact ht ▸ hs
theorem one_ofV {l : List Value} (h : l.length = 1) : ∃ a, l = [a] := by
  match l, h with
  | [a], _ => exact ⟨a, rfl⟩
theorem open_strs {H : Type} {enc : TypeId × Value → H} {w : World} {base : Nat} {spare : Nat → Bool} {held : Bool} {fuel : Nat} {a0 : Option Addr} {n c : Nat} {x : DataW H × List MemPlace}
    (h : DataW.trod enc Try.prog w base spare held fuel 24 [.slice a0 n c] = some x) : ∃ ts : List ByteArray, ts.length = n ∧ n ≤ maxLen ∧ St.Strs w w.heap.size a0 ts ∧ Shorts ts := by
  rcases Deep.open_slice Try.underlying24 h with ⟨hcs, _⟩ | ⟨a, len, cap, m, n', D, Pl, hcs, hb, hl, hm, hmm, hx, hi⟩
  · simp at hcs
    obtain ⟨rfl, rfl, rfl⟩ := hcs
    exact ⟨[], rfl, Nat.zero_le _, fun h0 => absurd h0 (by simp), fun s hs => by simp at hs⟩
  · simp at hcs
    obtain ⟨rfl, rfl, rfl⟩ := hcs
    have hlm : n ≤ m := by rw [hmm]; split <;> omega
    have hs : ∀ i, i < n → ∃ s : ByteArray, w.cell? (a.add i) = some (.string s) ∧ s.size ≤ maxLen := by
      intro i hin
      obtain ⟨cs', hc, ht'⟩ := hi i (by omega)
      rw [cells_str] at hc
      obtain ⟨_, hcl, hat⟩ := World.cells?_some hc
      obtain ⟨u0, rfl⟩ := one_ofV hcl
      have e0 := hat 0 (by omega)
      obtain ⟨s, hs, _, hss⟩ := DataW.trod_string Try.underlying9 ht'
      simp at hs
      subst hs
      rw [Deep.add_add] at e0
      exact ⟨s, by simpa using e0, hss⟩
    obtain ⟨l, hll, hq⟩ := list_ofT n hs
    refine ⟨l, hll, by omega, fun h0 => ?_, fun s hs => ?_⟩
    · obtain ⟨b, o, spot⟩ := a
      have hc0 := (hq 0 l[0] (List.getElem?_eq_getElem h0)).1
      have hspot : spot = none := by simpa [Addr.add] using World.cell?_spot hc0
      subst hspot
      have hlt := World.block_lt_of_cell? w _ hc0
      rw [WideShapes.add_plain] at hlt
      refine ⟨b, o, rfl, hlt, fun k s hk => ?_⟩
      have := (hq k s hk).1
      rw [WideShapes.add_plain] at this
      exact this
    · obtain ⟨j, hj, rfl⟩ := List.getElem_of_mem hs
      exact (hq j _ (List.getElem?_eq_getElem hj)).2

/-- The number that is left: -1 where it runs out. -/
def textsFrom : List ByteArray → Int → Int
  | [], n => n
  | s :: l, n => if n - s.size < 0 then -1 else textsFrom l (n - s.size)
def textsLeft (ts : List ByteArray) (n : Int) : Int := if n - (ts.length : Int) < 0 then -1 else textsFrom ts (n - ts.length)
theorem textsFrom_le : ∀ (ts : List ByteArray) (n : Int), ¬ textsFrom ts n < 0 → textsFrom ts n ≤ n ∧ ∀ s ∈ ts, (s.size : Int) ≤ n
  | [], n, _ => ⟨Int.le_refl _, fun s hs => by cases hs⟩
  | s :: l, n, h => by
    unfold textsFrom at h ⊢
    by_cases hs : n - s.size < 0
    · rw [if_pos hs] at h; omega
    · rw [if_neg hs] at h ⊢
      obtain ⟨h1, h2⟩ := textsFrom_le l _ h
      refine ⟨by omega, fun x hx => ?_⟩
      rcases List.mem_cons.1 hx with rfl | hx
      · omega
      · have := h2 x hx; omega
theorem textsLeft_ok {ts : List ByteArray} {n : Int} (hn : n ≤ 1048576) (h : ¬ textsLeft ts n < 0) : ts.length ≤ 1048576 ∧ ∀ s ∈ ts, s.size ≤ 1048576 := by
  unfold textsLeft at h
  by_cases hl : n - (ts.length : Int) < 0
  · rw [if_pos hl] at h; omega
  · rw [if_neg hl] at h
    obtain ⟨h1, h2⟩ := textsFrom_le ts _ h
    refine ⟨by omega, fun s hs => ?_⟩
    have := h2 s hs
    omega

theorem leftOf_le : ∀ (l : List Seg) (n : Int), leftOf l n = -1 ∨ leftOf l n ≤ n
  | [], n => .inr (Int.le_refl n)
  | s :: l, n => by
    unfold leftOf
    by_cases h : n - s.name.size < 0
    · rw [if_pos h]; exact .inl rfl
    · rw [if_neg h]
      rcases leftOf_le l (n - s.name.size) with h1 | h1
      · exact .inl h1
      · right; omega
theorem sizeLeft_le (l : List Seg) : sizeLeft l ≤ 1048576 := by
  unfold sizeLeft
  by_cases h : 1048576 - (l.length : Int) < 0
  · rw [if_pos h]; decide
  · rw [if_neg h]
    rcases leftOf_le l (1048576 - l.length) with h1 | h1 <;> omega

set_option maxRecDepth 100000 in
set_option maxHeartbeats 400000 in
theorem szStringS_any (A : Option Addr) (ts : List ByteArray) (c : Nat) (left : Int) (w : World) (hw : St.Strs w w.heap.size A ts) (hl : ts.length ≤ maxLen) (hn : Shorts ts) (h1 : 0 ≤ left) (h2 : left ≤ 1048576) :
    Calls Try.prog 18 #[.slice A ts.length c, .int .i64 left] w fun e w' => e = .returned (.int .i64 (textsLeft ts left)) ∧ Below w.heap.size w w' := by
  unfold maxLen at hl
  by_cases h : left - (ts.length : Int) < 0
  · have HF : Hid (textsLeft ts left = -1) := if_pos h
    go_enter Try.func18, Try.ntmps18
    go_wp2
    go_ret
    exact ⟨ret_int HF.out.symm, Below.refl _ _⟩
  · have HW : Hid (St.Strs w w.heap.size A ts) := hw
    clear hw
    have HF : Hid (textsLeft ts left = textsFrom ts (left - ts.length)) := if_neg h
    go_enter Try.func18, Try.ntmps18
    go_wp2
    go_loopw [1, 5] (fun v i wr => ∃ (k : Nat) (n : Int), k ≤ ts.length ∧ i = .int .i64 k ∧ v = .int .i64 n ∧ 0 ≤ n ∧ n ≤ 1048576 ∧ Hid (textsFrom ts (left - ts.length) = textsFrom (ts.drop k) n) ∧ Below w.heap.size w wr)
      (fun _ i _ => ts.length - (intOf i).toNat)
    case atStart => exact ⟨0, _, Nat.zero_le _, rfl, rfl, by omega, by omega, rfl, Below.refl _ _⟩
    case round =>
      obtain ⟨k, n, hk, rfl, rfl, h0, h1', HE, hb⟩ := hrel
      by_cases hlt : k < ts.length
      · obtain ⟨b, o, rfl, hB, hc⟩ := HW.out (by omega)
        have c0 := hc k ts[k] (List.getElem?_eq_getElem hlt)
        clear hc
        rw [← hb.cell hB] at c0
        have hs := hn ts[k] (List.getElem_mem hlt)
        unfold maxLen at hs
        have HD : Hid (textsFrom (ts.drop k) n = if n - ts[k].size < 0 then -1 else textsFrom (ts.drop (k + 1)) (n - ts[k].size)) := by
          rw [List.drop_eq_getElem_cons hlt]; rfl
        generalize ts[k] = s at *
        by_cases hle : n - s.size < 0
        · have HG : Hid (textsFrom (ts.drop k) n = -1) := HD.out.trans (if_pos hle)
          clear HD
          go_wp2
          go_ret
          exact ⟨ret_int (HF.out.trans (HE.out.trans HG.out)).symm, hb⟩
        · have HG : Hid (textsFrom (ts.drop k) n = textsFrom (ts.drop (k + 1)) (n - s.size)) := HD.out.trans (if_neg hle)
          clear HD
          go_wp2
          go_roundw
          case rel => exact ⟨k + 1, _, by omega, by go_num, rfl, by omega, by omega, HE.out.trans HG.out, hb⟩
          case measure => simp [intOf]; omega
      · go_wp2
        go_ret
        refine ⟨ret_int ?_, hb⟩
        rw [HF.out, HE.out, List.drop_of_length_le (by omega)]; rfl

theorem run_make_strs (n : Nat) (hn : n ≤ 1048576) (W : World) :
    (Instr.makeSlice 24 (.int .i64 (n : Int)) (.int .i64 (n : Int))).run Try.prog W = .ok (.slice (some ⟨W.heap.size, 0, none⟩) n n) (W.alloc (.cells (madeCells (Value.string ByteArray.empty).cells (n * 1)) 9)) := by
  obtain ⟨i0, hi, hz0, hz1, hz2⟩ := info_parts info_str
  have hr := run_make (P := Try.prog) W 24 9 i0 (.string ByteArray.empty) Try.underlying24 hi hz0 .i64 .i64 n n (by omega) (by omega) (by rw [hz2]; omega) (by omega)
  simp only [Int.toNat_natCast, hz1] at hr
  exact hr
/-- The first 'k' of the texts lie in the cells. -/
def FilledT (ts : List ByteArray) (k : Nat) (cs : Array Value) : Prop := cs.size = ts.length ∧ ∀ (j : Nat) (s : ByteArray), j < k → ts[j]? = some s → cs[j]? = some (.string s)
theorem FilledT.next {ts : List ByteArray} {k : Nat} {cs : Array Value} (h : FilledT ts k cs) (hk : k < ts.length) : FilledT ts (k + 1) (cs.setIfInBounds k (.string ts[k])) := by
  refine ⟨by simpa using h.1, fun j s hj hs => ?_⟩
  have hz := h.1
  rcases Nat.lt_or_ge j k with hlt | hge
  · rw [Array.getElem?_setIfInBounds_ne (by omega)]
    exact h.2 j s hlt hs
  · obtain rfl : j = k := by omega
    rw [List.getElem?_eq_getElem hk] at hs
    injection hs with hs
    subst hs
    rw [Array.getElem?_setIfInBounds_self_of_lt (by omega)]
theorem FilledT.done {ts : List ByteArray} {cs : Array Value} {w : World} {g B : Nat} (h : FilledT ts ts.length cs) (hr : Row w g 9 cs) (hB : B ≤ g) (hm : ts.length ≤ maxLen) : OwnTexts w B (.slice (some ⟨g, 0, none⟩) ts.length ts.length) ts := by
  unfold OwnTexts
  have hl : cs.toList = ts.map Value.string := by
    apply List.ext_getElem?
    intro i
    rw [Array.getElem?_toList, List.getElem?_map]
    rcases Nat.lt_or_ge i ts.length with hlt | hge
    · rw [h.2 i ts[i] hlt (List.getElem?_eq_getElem hlt), List.getElem?_eq_getElem hlt]
      rfl
    · rw [List.getElem?_eq_none hge, Array.getElem?_eq_none (by rw [h.1]; exact hge)]
      rfl
  refine ⟨by simp, .inr ⟨g, ts.length, cs, rfl, hB, hr, Nat.le_refl _, hm, by rw [h.1]; simp, ?_⟩⟩
  rw [hl, Nat.mul_one]
  exact List.take_of_length_le (by simp)

set_option maxRecDepth 100000 in
set_option maxHeartbeats 400000 in
theorem toStringS_any (A : Option Addr) (ts : List ByteArray) (c : Nat) (w : World) (hw : St.Strs w w.heap.size A ts) (hl : ts.length ≤ 1048576) :
    Calls Try.prog 21 #[.slice A ts.length c] w fun e w' => e = .returned (.slice (some ⟨w.heap.size, 0, none⟩) ts.length ts.length) ∧ Below w.heap.size w w' ∧ OwnTexts w' w.heap.size (.slice (some ⟨w.heap.size, 0, none⟩) ts.length ts.length) ts := by
  have HW : Hid (St.Strs w w.heap.size A ts) := hw
  clear hw
  have hmk := run_make_strs ts.length hl
  go_enter Try.func21, Try.ntmps21
  go_wp2
  go_loopw [4] (fun i wr => ∃ (k : Nat) (cs : Array Value), k ≤ ts.length ∧ i = .int .i64 k ∧ Below w.heap.size w wr ∧ Row wr w.heap.size 9 cs ∧ FilledT ts k cs)
    (fun i _ => ts.length - (intOf i).toNat)
  case atStart => exact ⟨0, _, Nat.zero_le _, rfl, (Below.refl _ _).alloc (Nat.le_refl _) _, Row.new _ _ _, ⟨size_madeCells _ _, fun j _ hj => absurd hj (by omega)⟩⟩
  case round =>
    obtain ⟨k, cs, hk, rfl, hb, hrow, hf⟩ := hrel
    have hz : w.heap.size < wr.heap.size := hrow.lt
    by_cases hlt : k < ts.length
    · obtain ⟨b, o, rfl, hB, hc⟩ := HW.out (by omega)
      have c0 := hc k ts[k] (List.getElem?_eq_getElem hlt)
      clear hc
      rw [← hb.cell hB] at c0
      have HN := Lib.hid (hf.next hlt)
      have HS := Lib.hid hf.1
      clear hf
      generalize ts[k] = s at *
      have f0 := hrow.free k
      have d0 : wr.cell? ⟨w.heap.size, k, none⟩ = some (cs[k]'(by have := HS.out; omega)) := by rw [hrow.cell, Array.getElem?_eq_getElem]
      have HR := Lib.hid hrow
      clear hrow
      generalize cs[k]'_ = u0 at *
      go_wp2
      go_roundw
      case rel => exact ⟨k + 1, _, by omega, by go_num, hb.setCell (Nat.le_refl _) _, HR.out.put _ _, HN.out⟩
      case measure => simp [intOf]; omega
    · obtain rfl : k = ts.length := by omega
      have hd := hf.done hrow (B := w.heap.size) (Nat.le_refl _) (by unfold maxLen; omega)
      clear hf
      go_wp2
      go_ret
      exact ⟨rfl, hb, hd⟩

end Go.Proofs.Ytnknfpfpjijemaa
/- The walk of the law FnExactGraphValid. -/
namespace Go.Proofs.Ytnknfpfpjijemaa
open Go.RowKit

set_option maxRecDepth 100000 in
set_option maxHeartbeats 1000000 in
theorem lawGraphValid_any (A : Option Addr) (l : List Seg) (c : Nat) (A2 : Option Addr) (ts : List ByteArray) (c2 : Nat) (w : World) (hw : Segs w w.heap.size A l) (hl : l.length ≤ maxLen) (hn : Short l) (ht : St.Strs w w.heap.size A2 ts) (htl : ts.length ≤ maxLen) (hts : Shorts ts) :
    Calls Try.prog 4 #[.slice A l.length c, .slice A2 ts.length c2] w fun e w' => e = .returned (.bool true) ∧ Below w.heap.size w w' := by
  have HW : Hid (Segs w w.heap.size A l) := hw
  have HT : Hid (St.Strs w w.heap.size A2 ts) := ht
  clear hw ht
  by_cases hs : sizeLeft l < 0
  · go_enter Try.func4, Try.ntmps4
    go_wp2_with fail
    refine (szSegmentS_any _ _ _ _ HW.out hl hn).mono ?_
    rintro e w1 ⟨rfl, hb1⟩
    go_wp2
    go_ret
    exact ⟨rfl, hb1⟩
  have hlen := sizeLeft_len hs
  have hsl := sizeLeft_le l
  have hlm : l.length ≤ 9223372036854775807 := Nat.le_trans hlen (by decide)
  by_cases hs2 : textsLeft ts (sizeLeft l) < 0
  · go_enter Try.func4, Try.ntmps4
    go_wp2_with fail
    refine (szSegmentS_any _ _ _ _ HW.out hl hn).mono ?_
    rintro e w1 ⟨rfl, hb1⟩
    have HB1 := Lib.hid hb1
    clear hb1
    generalize sizeLeft l = lft at *
    go_wp2_with fail
    refine (szStringS_any A2 ts c2 lft _ ((HT.out.below HB1.out).more HB1.out.size) htl hts (by omega) hsl).mono ?_
    rintro e w2 ⟨rfl, hb2⟩
    have HB2 : Hid (Below w.heap.size w w2) := HB1.out.trans (hb2.mono HB1.out.size)
    clear hb2
    go_wp2
    go_ret
    exact ⟨rfl, HB2.out⟩
  obtain ⟨htl1, hts1⟩ := textsLeft_ok hsl hs2
  have HSP := Lib.hid (fun A A2 c c2 W h1 h2 => specGraph_any A l c A2 ts c2 W h1 h2 hlen hn htl1 hts1)
  have HIM := Lib.hid (fun A A2 c2 W h1 h2 => implGraph_any A l l.length A2 ts c2 W h1 h2 hlen (Nat.le_refl _) hlm hn htl1 hts1)
  generalize graphB l ts = d at HSP HIM
  go_enter Try.func4, Try.ntmps4
  go_wp2_with fail
  refine (szSegmentS_any _ _ _ _ HW.out hl hn).mono ?_
  rintro e w1 ⟨rfl, hb1⟩
  have HB1 := Lib.hid hb1
  clear hb1
  generalize sizeLeft l = lft at *
  go_wp2_with fail
  refine (szStringS_any A2 ts c2 lft _ ((HT.out.below HB1.out).more HB1.out.size) htl hts (by omega) hsl).mono ?_
  rintro e w2 ⟨rfl, hb2⟩
  have HB2 : Hid (Below w.heap.size w w2) := HB1.out.trans (hb2.mono HB1.out.size)
  clear hb2
  go_wp2_with fail
  refine (toSegmentS_any _ _ _ _ ((HW.out.below HB2.out).more HB2.out.size) hlen).mono ?_
  rintro e w3 ⟨rfl, hb3, hx3⟩
  have HB3 : Hid (Below w.heap.size w w3) := HB2.out.trans (hb3.mono HB2.out.size)
  have HX := Lib.hid hx3
  clear hb3 hx3 HB2
  go_wp2_with fail
  refine (toStringS_any _ _ _ _ ((HT.out.below HB3.out).more HB3.out.size) htl1).mono ?_
  rintro e w4 ⟨rfl, hb4, hx4⟩
  have HB4 : Hid (Below w.heap.size w w4) := HB3.out.trans (hb4.mono HB3.out.size)
  have HY : Hid (St.Strs w4 w4.heap.size (some ⟨w3.heap.size, 0, none⟩) ts) := strsOf hx4
  have HX := Lib.hid ((HX.out.below hb4).more hb4.size)
  clear hb4 hx4 HB3
  go_wp2_with fail
  refine (HSP.out _ _ _ _ _ HX.out HY.out).mono ?_
  rintro e w5 ⟨rfl, hb5⟩
  have HB5 : Hid (Below w.heap.size w w5) := HB4.out.trans (hb5.mono HB4.out.size)
  clear hb5 HX HY HB4 HSP
  go_wp2_with fail
  refine (toSegmentS_any _ _ _ _ ((HW.out.below HB5.out).more HB5.out.size) hlen).mono ?_
  rintro e w6 ⟨rfl, hb6, hx6⟩
  have HB6 : Hid (Below w.heap.size w w6) := HB5.out.trans (hb6.mono HB5.out.size)
  have HX := Lib.hid hx6
  clear hb6 hx6 HB5
  go_wp2_with fail
  refine (toStringS_any _ _ _ _ ((HT.out.below HB6.out).more HB6.out.size) htl1).mono ?_
  rintro e w7 ⟨rfl, hb7, hx7⟩
  have HB7 : Hid (Below w.heap.size w w7) := HB6.out.trans (hb7.mono HB6.out.size)
  have HY : Hid (St.Strs w7 w7.heap.size (some ⟨w6.heap.size, 0, none⟩) ts) := strsOf hx7
  have HX := Lib.hid ((HX.out.below hb7).more hb7.size)
  clear hb7 hx7 HB6
  go_wp2_with fail
  refine (HIM.out _ _ _ _ HX.out HY.out).mono ?_
  rintro e w8 ⟨rfl, hb8⟩
  have HB8 : Hid (Below w.heap.size w w8) := HB7.out.trans (hb8.mono HB7.out.size)
  have HX := Lib.hid ((HX.out.below hb8).more hb8.size)
  have HY := Lib.hid ((HY.out.below hb8).more hb8.size)
  clear hb8 HB7 HIM
  go_wp2_with fail
  refine (toSegmentS_any _ _ _ _ ((HW.out.below HB8.out).more HB8.out.size) hlen).mono ?_
  rintro e w9 ⟨rfl, hb9, hx9⟩
  have HB9 : Hid (Below w.heap.size w w9) := HB8.out.trans (hb9.mono HB8.out.size)
  have HX2 := Lib.hid hx9
  have HX := Lib.hid ((HX.out.below hb9).more hb9.size)
  have HY := Lib.hid ((HY.out.below hb9).more hb9.size)
  clear hb9 hx9 HB8
  go_wp2_with fail
  refine (eqSegmentS_same _ _ _ _ _ _ HX.out HX2.out hlen).mono ?_
  rintro e w10 ⟨rfl, hb10⟩
  have HB10 : Hid (Below w.heap.size w w10) := HB9.out.trans (hb10.mono HB9.out.size)
  have HY := Lib.hid ((HY.out.below hb10).more hb10.size)
  clear hb10 HB9 HX HX2
  go_wp2_with fail
  refine (toStringS_any _ _ _ _ ((HT.out.below HB10.out).more HB10.out.size) htl1).mono ?_
  rintro e w11 ⟨rfl, hb11, hx11⟩
  have HB11 : Hid (Below w.heap.size w w11) := HB10.out.trans (hb11.mono HB10.out.size)
  have HY2 : Hid (St.Strs w11 w11.heap.size (some ⟨w10.heap.size, 0, none⟩) ts) := strsOf hx11
  have HY := Lib.hid ((HY.out.below hb11).more hb11.size)
  clear hb11 hx11 HB10
  go_wp2_with fail
  refine (St.eqStringS_same _ _ _ _ _ _ HY.out HY2.out htl1).mono ?_
  rintro e w12 ⟨rfl, hb12⟩
  have HB12 : Hid (Below w.heap.size w w12) := HB11.out.trans (hb12.mono HB11.out.size)
  clear hb12 HB11 HY HY2
  go_wp2
  go_ret
  exact ⟨rfl, HB12.out⟩

end Go.Proofs.Ytnknfpfpjijemaa
