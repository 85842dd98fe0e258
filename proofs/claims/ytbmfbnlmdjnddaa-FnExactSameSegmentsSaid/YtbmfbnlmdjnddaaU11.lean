/- Joined: Jb Ie Oa Od. -/
import Derived.Test.YtbmfbnlmdjnddaaU10
import Derived.Test.YtbmfbnlmdjnddaaU06
import Derived.Test.YtbmfbnlmdjnddaaU03
/- A law's argument that is a row of texts: opened, sized, turned into the program's own. -/
namespace Go.Proofs.Ytbmfbnlmdjnddaa
open Go.ChangeShapes Go.WideShapes Go.ChangeAt Go.RowKit

/-- Texts no longer than Go allows. -/
def Shorts (ts : List ByteArray) : Prop := ∀ s ∈ ts, s.size ≤ maxLen
theorem list_ofT {Q : Nat → ByteArray → Prop} : ∀ (n : Nat), (∀ i, i < n → ∃ s, Q i s) → ∃ l : List ByteArray, l.length = n ∧ ∀ i s, l[i]? = some s → Q i s
  | 0, _ => ⟨[], rfl, fun i s h => by simp at h⟩
  | n + 1, h => by
    obtain ⟨l, hl, hq⟩ := list_ofT n fun i hi => h i (by omega)
    obtain ⟨s, hs⟩ := h n (by omega)
    refine ⟨l ++ [s], by simp [hl], fun i t ht => ?_⟩
    rcases Nat.lt_or_ge i n with hlt | hge
    · rw [List.getElem?_append_left (by omega)] at ht
      exact hq i t ht
    · rw [List.getElem?_append_right (by omega)] at ht
      have hi : i - l.length < 1 := by
        have := (List.getElem?_eq_some_iff.1 ht).1
        simpa using this
      have h0 : i - l.length = 0 := by omega
      rw [h0] at ht
      simp at ht
      obtain rfl : i = n := by omega
      exact ht ▸ hs
theorem one_ofV {l : List Value} (h : l.length = 1) : ∃ a, l = [a] := by
  match l, h with
  | [a], _ => exact ⟨a, rfl⟩
theorem open_strs {H : Type} {enc : TypeId × Value → H} {w : World} {base : Nat} {spare : Nat → Bool} {held : Bool} {fuel : Nat} {a0 : Option Addr} {n c : Nat} {x : DataW H × List MemPlace}
    (h : DataW.trod enc Try.prog w base spare held fuel 24 [.slice a0 n c] = some x) : ∃ ts : List ByteArray, ts.length = n ∧ n ≤ maxLen ∧ St.Strs w w.heap.size a0 ts ∧ Shorts ts := by
  rcases Deep.open_slice Try.underlying24 h with ⟨hcs, _⟩ | ⟨a, len, cap, m, n', D, Pl, hcs, hb, hl, hm, hmm, hx, hi⟩
  · simp at hcs
    obtain ⟨rfl, rfl, rfl⟩ := hcs
    exact ⟨[], rfl, Nat.zero_le _, fun h0 => absurd h0 (by simp), fun s hs => by simp at hs⟩
  · simp at hcs
    obtain ⟨rfl, rfl, rfl⟩ := hcs
    have hlm : n ≤ m := by rw [hmm]; split <;> omega
    have hs : ∀ i, i < n → ∃ s : ByteArray, w.cell? (a.add i) = some (.string s) ∧ s.size ≤ maxLen := by
      intro i hin
      obtain ⟨cs', hc, ht'⟩ := hi i (by omega)
      rw [cells_str] at hc
      obtain ⟨_, hcl, hat⟩ := World.cells?_some hc
      obtain ⟨u0, rfl⟩ := one_ofV hcl
      have e0 := hat 0 (by omega)
      obtain ⟨s, hs, _, hss⟩ := DataW.trod_string Try.underlying9 ht'
      simp at hs
      subst hs
      rw [Deep.add_add] at e0
      exact ⟨s, by simpa using e0, hss⟩
    obtain ⟨l, hll, hq⟩ := list_ofT n hs
    refine ⟨l, hll, by omega, fun h0 => ?_, fun s hs => ?_⟩
    · obtain ⟨b, o, spot⟩ := a
      have hc0 := (hq 0 l[0] (List.getElem?_eq_getElem h0)).1
      have hspot : spot = none := by simpa [Addr.add] using World.cell?_spot hc0
      subst hspot
      have hlt := World.block_lt_of_cell? w _ hc0
      rw [WideShapes.add_plain] at hlt
      refine ⟨b, o, rfl, hlt, fun k s hk => ?_⟩
      have := (hq k s hk).1
      rw [WideShapes.add_plain] at this
      exact this
    · obtain ⟨j, hj, rfl⟩ := List.getElem_of_mem hs
      exact (hq j _ (List.getElem?_eq_getElem hj)).2

/-- The number that is left: -1 where it runs out. -/
def textsFrom : List ByteArray → Int → Int
  | [], n => n
  | s :: l, n => if n - s.size < 0 then -1 else textsFrom l (n - s.size)
def textsLeft (ts : List ByteArray) (n : Int) : Int := if n - (ts.length : Int) < 0 then -1 else textsFrom ts (n - ts.length)
theorem textsFrom_le : ∀ (ts : List ByteArray) (n : Int), ¬ textsFrom ts n < 0 → textsFrom ts n ≤ n ∧ ∀ s ∈ ts, (s.size : Int) ≤ n
  | [], n, _ => ⟨Int.le_refl _, fun s hs => by cases hs⟩
  | s :: l, n, h => by
    unfold textsFrom at h ⊢
    by_cases hs : n - s.size < 0
    · rw [if_pos hs] at h; omega
    · rw [if_neg hs] at h ⊢
      obtain ⟨h1, h2⟩ := textsFrom_le l _ h
      refine ⟨by omega, fun x hx => ?_⟩
      rcases List.mem_cons.1 hx with rfl | hx
      · omega
      · have := h2 x hx; omega
theorem textsLeft_ok {ts : List ByteArray} {n : Int} (hn : n ≤ 1048576) (h : ¬ textsLeft ts n < 0) : ts.length ≤ 1048576 ∧ ∀ s ∈ ts, s.size ≤ 1048576 := by
  unfold textsLeft at h
  by_cases hl : n - (ts.length : Int) < 0
  · rw [if_pos hl] at h; omega
  · rw [if_neg hl] at h
    obtain ⟨h1, h2⟩ := textsFrom_le ts _ h
    refine ⟨by omega, fun s hs => ?_⟩
    have := h2 s hs
    omega

theorem leftOf_le : ∀ (l : List Seg) (n : Int), leftOf l n = -1 ∨ leftOf l n ≤ n
  | [], n => .inr (Int.le_refl n)
  | s :: l, n => by
    unfold leftOf
    by_cases h : n - s.name.size < 0
    · rw [if_pos h]; exact .inl rfl
    · rw [if_neg h]
      rcases leftOf_le l (n - s.name.size) with h1 | h1
      · exact .inl h1
      · right; omega
theorem sizeLeft_le (l : List Seg) : sizeLeft l ≤ 1048576 := by
  unfold sizeLeft
  by_cases h : 1048576 - (l.length : Int) < 0
  · rw [if_pos h]; decide
  · rw [if_neg h]
    rcases leftOf_le l (1048576 - l.length) with h1 | h1 <;> omega

set_option maxRecDepth 100000 in
set_option maxHeartbeats 400000 in
theorem szStringS_any (A : Option Addr) (ts : List ByteArray) (c : Nat) (left : Int) (w : World) (hw : St.Strs w w.heap.size A ts) (hl : ts.length ≤ maxLen) (hn : Shorts ts) (h1 : 0 ≤ left) (h2 : left ≤ 1048576) :
    Calls Try.prog 28 #[.slice A ts.length c, .int .i64 left] w fun e w' => e = .returned (.int .i64 (textsLeft ts left)) ∧ Below w.heap.size w w' := by
  unfold maxLen at hl
  by_cases h : left - (ts.length : Int) < 0
  · have HF : Hid (textsLeft ts left = -1) := if_pos h
    go_enter Try.func28, Try.ntmps28
    go_wp2
    go_ret
    exact ⟨ret_int HF.out.symm, Below.refl _ _⟩
  · have HW : Hid (St.Strs w w.heap.size A ts) := hw
    clear hw
    have HF : Hid (textsLeft ts left = textsFrom ts (left - ts.length)) := if_neg h
    go_enter Try.func28, Try.ntmps28
    go_wp2
    go_loopw [1, 5] (fun v i wr => ∃ (k : Nat) (n : Int), k ≤ ts.length ∧ i = .int .i64 k ∧ v = .int .i64 n ∧ 0 ≤ n ∧ n ≤ 1048576 ∧ Hid (textsFrom ts (left - ts.length) = textsFrom (ts.drop k) n) ∧ Below w.heap.size w wr)
      (fun _ i _ => ts.length - (intOf i).toNat)
    case atStart => exact ⟨0, _, Nat.zero_le _, rfl, rfl, by omega, by omega, rfl, Below.refl _ _⟩
    case round =>
      obtain ⟨k, n, hk, rfl, rfl, h0, h1', HE, hb⟩ := hrel
      by_cases hlt : k < ts.length
      · obtain ⟨b, o, rfl, hB, hc⟩ := HW.out (by omega)
        have c0 := hc k ts[k] (List.getElem?_eq_getElem hlt)
        clear hc
        rw [← hb.cell hB] at c0
        have hs := hn ts[k] (List.getElem_mem hlt)
        unfold maxLen at hs
        have HD : Hid (textsFrom (ts.drop k) n = if n - ts[k].size < 0 then -1 else textsFrom (ts.drop (k + 1)) (n - ts[k].size)) := by
          rw [List.drop_eq_getElem_cons hlt]; rfl
        generalize ts[k] = s at *
        by_cases hle : n - s.size < 0
        · have HG : Hid (textsFrom (ts.drop k) n = -1) := HD.out.trans (if_pos hle)
          clear HD
          go_wp2
          go_ret
          exact ⟨ret_int (HF.out.trans (HE.out.trans HG.out)).symm, hb⟩
        · have HG : Hid (textsFrom (ts.drop k) n = textsFrom (ts.drop (k + 1)) (n - s.size)) := HD.out.trans (if_neg hle)
          clear HD
          go_wp2
          go_roundw
          case rel => exact ⟨k + 1, _, by omega, by go_num, rfl, by omega, by omega, HE.out.trans HG.out, hb⟩
          case measure => simp [intOf]; omega
      · go_wp2
        go_ret
        refine ⟨ret_int ?_, hb⟩
        rw [HF.out, HE.out, List.drop_of_length_le (by omega)]; rfl

theorem run_make_strs (n : Nat) (hn : n ≤ 1048576) (W : World) :
    (Instr.makeSlice 24 (.int .i64 (n : Int)) (.int .i64 (n : Int))).run Try.prog W = .ok (.slice (some ⟨W.heap.size, 0, none⟩) n n) (W.alloc (.cells (madeCells (Value.string ByteArray.empty).cells (n * 1)) 9)) := by
  obtain ⟨i0, hi, hz0, hz1, hz2⟩ := info_parts info_str
  have hr := run_make (P := Try.prog) W 24 9 i0 (.string ByteArray.empty) Try.underlying24 hi hz0 .i64 .i64 n n (by omega) (by omega) (by rw [hz2]; omega) (by omega)
  simp only [Int.toNat_natCast, hz1] at hr
  exact hr
/-- The first 'k' of the texts lie in the cells. -/
def FilledT (ts : List ByteArray) (k : Nat) (cs : Array Value) : Prop := cs.size = ts.length ∧ ∀ (j : Nat) (s : ByteArray), j < k → ts[j]? = some s → cs[j]? = some (.string s)
theorem FilledT.next {ts : List ByteArray} {k : Nat} {cs : Array Value} (h : FilledT ts k cs) (hk : k < ts.length) : FilledT ts (k + 1) (cs.setIfInBounds k (.string ts[k])) := by
  refine ⟨by simpa using h.1, fun j s hj hs => ?_⟩
  have hz := h.1
  rcases Nat.lt_or_ge j k with hlt | hge
  · rw [Array.getElem?_setIfInBounds_ne (by omega)]
    exact h.2 j s hlt hs
  · obtain rfl : j = k := by omega
    rw [List.getElem?_eq_getElem hk] at hs
    injection hs with hs
    subst hs
    rw [Array.getElem?_setIfInBounds_self_of_lt (by omega)]
theorem FilledT.done {ts : List ByteArray} {cs : Array Value} {w : World} {g B : Nat} (h : FilledT ts ts.length cs) (hr : Row w g 9 cs) (hB : B ≤ g) (hm : ts.length ≤ maxLen) : OwnTexts w B (.slice (some ⟨g, 0, none⟩) ts.length ts.length) ts := by
  unfold OwnTexts
  have hl : cs.toList = ts.map Value.string := by
    apply List.ext_getElem?
    intro i
    rw [Array.getElem?_toList, List.getElem?_map]
    rcases Nat.lt_or_ge i ts.length with hlt | hge
    · rw [h.2 i ts[i] hlt (List.getElem?_eq_getElem hlt), List.getElem?_eq_getElem hlt]
      rfl
    · rw [List.getElem?_eq_none hge, Array.getElem?_eq_none (by rw [h.1]; exact hge)]
      rfl
  refine ⟨by simp, .inr ⟨g, ts.length, cs, rfl, hB, hr, Nat.le_refl _, hm, by rw [h.1]; simp, ?_⟩⟩
  rw [hl, Nat.mul_one]
  exact List.take_of_length_le (by simp)

set_option maxRecDepth 100000 in
set_option maxHeartbeats 400000 in
theorem toStringS_any (A : Option Addr) (ts : List ByteArray) (c : Nat) (w : World) (hw : St.Strs w w.heap.size A ts) (hl : ts.length ≤ 1048576) :
    Calls Try.prog 31 #[.slice A ts.length c] w fun e w' => e = .returned (.slice (some ⟨w.heap.size, 0, none⟩) ts.length ts.length) ∧ Below w.heap.size w w' ∧ OwnTexts w' w.heap.size (.slice (some ⟨w.heap.size, 0, none⟩) ts.length ts.length) ts := by
  have HW : Hid (St.Strs w w.heap.size A ts) := hw
  clear hw
  have hmk := run_make_strs ts.length hl
  go_enter Try.func31, Try.ntmps31
  go_wp2
  go_loopw [4] (fun i wr => ∃ (k : Nat) (cs : Array Value), k ≤ ts.length ∧ i = .int .i64 k ∧ Below w.heap.size w wr ∧ Row wr w.heap.size 9 cs ∧ FilledT ts k cs)
    (fun i _ => ts.length - (intOf i).toNat)
  case atStart => exact ⟨0, _, Nat.zero_le _, rfl, (Below.refl _ _).alloc (Nat.le_refl _) _, Row.new _ _ _, ⟨size_madeCells _ _, fun j _ hj => absurd hj (by omega)⟩⟩
  case round =>
    obtain ⟨k, cs, hk, rfl, hb, hrow, hf⟩ := hrel
    have hz : w.heap.size < wr.heap.size := hrow.lt
    by_cases hlt : k < ts.length
    · obtain ⟨b, o, rfl, hB, hc⟩ := HW.out (by omega)
      have c0 := hc k ts[k] (List.getElem?_eq_getElem hlt)
      clear hc
      rw [← hb.cell hB] at c0
      have HN := Lib.hid (hf.next hlt)
      have HS := Lib.hid hf.1
      clear hf
      generalize ts[k] = s at *
      have f0 := hrow.free k
      have d0 : wr.cell? ⟨w.heap.size, k, none⟩ = some (cs[k]'(by have := HS.out; omega)) := by rw [hrow.cell, Array.getElem?_eq_getElem]
      have HR := Lib.hid hrow
      clear hrow
      generalize cs[k]'_ = u0 at *
      go_wp2
      go_roundw
      case rel => exact ⟨k + 1, _, by omega, by go_num, hb.setCell (Nat.le_refl _) _, HR.out.put _ _, HN.out⟩
      case measure => simp [intOf]; omega
    · obtain rfl : k = ts.length := by omega
      have hd := hf.done hrow (B := w.heap.size) (Nat.le_refl _) (by unfold maxLen; omega)
      clear hf
      go_wp2
      go_ret
      exact ⟨rfl, hb, hd⟩

end Go.Proofs.Ytbmfbnlmdjnddaa
/- Marks in a row of texts whose own texts don't matter. -/
namespace Go.Proofs.Ytbmfbnlmdjnddaa
open Go.RowKit

theorem rowOf_texts {W : World} {B g n : Nat} {ts : List ByteArray} (h : OwnTexts W B (.slice (some ⟨g, 0, none⟩) ts.length n) ts) : ∃ cs, Row W g 9 cs ∧ ts.length ≤ cs.size := by
  rcases h.2 with ⟨h0, _⟩ | ⟨g', cap', cur, e, hB, hh, h1, h2, h3, h4⟩
  · cases h0
  · injection e with e1 _ e3
    injection e1 with e1
    injection e1 with e1
    subst e1 e3
    exact ⟨cur, hh, by omega⟩
namespace St
end St

end Go.Proofs.Ytbmfbnlmdjnddaa
/- A tree and a truth as an answer: whether it stays, and its marks. -/
namespace Go.Proofs.Ytbmfbnlmdjnddaa
open Go.RowKit

/-- A tree in memory of the call's own, and whether there is one. -/
def TreeAns (w : World) (tr : List Seg) (d : Bool) (e : Ending) (w' : World) : Prop :=
  ∃ v, e = .returned (.tuple #[v, .bool d]) ∧ OwnTree w' w.heap.size v tr ∧ Below w.heap.size w w'
theorem treeFar {w w' : World} {B : Nat} {v : Value} {tr : List Seg} {may : Nat → Prop} (h : OwnTree w B v tr) (ho : Only w w' may) (hm : ∀ g, v.ownBlock = some g → ¬ may g) : OwnTree w' B v tr :=
  h.far fun g hg => ho.block g (World.ownsRow.lt h g hg).2 (hm g hg)
theorem treeBelow {w w' : World} {B : Nat} {v : Value} {tr : List Seg} (h : OwnTree w B v tr) (hb : Below w.heap.size w w') : OwnTree w' B v tr :=
  h.far fun g hg => hb.block g (World.ownsRow.lt h g hg).2
theorem treeIs {w : World} {B n cap : Nat} {A : Option Addr} {tr : List Seg} (h : OwnTree w B (.slice A n cap) tr) : Segs w w.heap.size A tr := by
  obtain ⟨A', c', e, hs⟩ := h.form
  injection e with e1 e2 e3
  subst e1
  exact hs
theorem tmark1 (B : Nat) (v : Value) (l : List Seg) (w : World) (hown : OwnTree w B v l) (hl : l.length ≤ 1000) :
    Calls Try.prog 35 #[v, .int .i64 1] w fun e w' => e = .returned (.int .i64 ((1 + 3 * l.length : Nat) : Int)) ∧ OwnTree w' B v (marked l 1 l.length) ∧ Only w w' (fun b => v.ownBlock = some b) :=
  markSegmentS_any B 1 v l w hown rfl hl
theorem theld1 (A : Option Addr) (n cap : Nat) (l : List Seg) (w : World) (hn : l.length = n) (hw : Segs w w.heap.size A (marked l 1 l.length)) (hl : l.length ≤ 1000) :
    Calls Try.prog 36 #[.slice A n cap, .int .i64 1] w fun e w' => e = .returned (.int .i64 ((1 + 3 * l.length : Nat) : Int)) ∧ Below w.heap.size w w' := by
  have h := heldSegmentS_any 1 A cap (marked l 1 l.length) w hw (fun j hj => marked_at l 1 l.length j (by rw [marked_len] at hj; exact hj) (Nat.le_refl _)) rfl (by rw [marked_len]; exact hl)
  rw [marked_len, hn] at h
  rw [hn]
  exact h

end Go.Proofs.Ytbmfbnlmdjnddaa
/- FlatTree and ChainTree on both sides. -/
namespace Go.Proofs.Ytbmfbnlmdjnddaa
open Go.RowKit

theorem root_par {l : List Seg} (h : validB l = true) (h0 : 0 < l.length) : l[0].par = -1 := by
  have h1 := (valid_all h).1 0 h0
  unfold segOk at h1
  rw [List.getElem?_eq_getElem h0] at h1
  simp only [Bool.and_eq_true] at h1
  have h2 := h1.2
  unfold parOk parAt at h2
  rw [if_pos rfl, List.getElem?_eq_getElem h0] at h2
  exact beq_iff_eq.1 h2
theorem own_snoc {w : World} {B : Nat} {v : Value} {tr : List Seg} {n : Nat} {s : Seg} (hn : n = tr.length) (h : w.ownsRow B 69 3 v (n + 1) (segCells tr ++ [.string s.name, .int .i64 s.size, .int .i64 s.par])) : OwnTree w B v (tr ++ [s]) := by
  unfold OwnTree
  rw [segCells_snoc, List.length_append, ← hn]
  exact h
/-- append of one segment, laid as a row of its own, to a tree of the call's own. -/
theorem wp_append_seg {ops : Array Oper} {rest : List Oper} {o : Oper} {a : Act} {Q : Exit → Act → World → Prop} (hgd : o.guard = none) (S X : Operand)
    (ho : o.op = Op.call { callee := Callee.builtin Builtin.append, args := #[S, X], argTypes := #[23, 23] })
    (B : Nat) (v : Value) (tr : List Seg) (nm : ByteArray) (sz p : Int) (W : World) (hs : a.eval S = v) (hown : OwnTree W B v tr) (htl : tr.length ≤ 1000) (hB : B ≤ W.heap.size)
    (g : Nat) (hx : a.eval X = .slice (some ⟨g, 0, none⟩) 1 1) (hg : g = W.heap.size)
    (h : ∀ v' w', OwnTree w' B v' (tr ++ [⟨nm, sz, p⟩]) → Below B W w' → (∀ k, k < W.heap.size → v.ownBlock ≠ some k → w'.heap[k]? = W.heap[k]?) → wpList Try.prog ops Q rest (a.put o.dst v') w') :
    wpList Try.prog ops Q (o :: rest) a (W.alloc (.cells #[.string nm, .int .i64 sz, .int .i64 p] 69)) := by
  subst hg
  obtain ⟨i0, hi0, hz0, hz1, hz2⟩ := info_parts info_seg
  refine wpList_append_own _ hgd S X 23 ho B 69 i0 zeroSeg 3 32 Try.underlying23 hi0 hz0 hz1 hz2 rfl (by decide) v tr.length (segCells tr) hs (hown.alloc (.cells #[.string nm, .int .i64 sz, .int .i64 p] 69)) ⟨W.heap.size, 0, none⟩ 1 1 [.string nm, .int .i64 sz, .int .i64 p] hx rfl
    (World.news_of_block (cs := #[.string nm, .int .i64 sz, .int .i64 p]) (t := 69) (fr := (0, 0)) (heap_alloc_new W _)) (by simp [Value.oneCell']) (by unfold maxLen; omega) (by omega) (by simp; omega) ?_
  intro v' w' hown' hgrow _
  refine h v' w' (own_snoc rfl hown') ?_ ?_
  · exact ((Below.refl B W).alloc hB _).grown hgrow (by simp; omega) (fun k e => (World.ownsRow.lt hown k e).1)
  · intro k hk hne
    exact (hgrow.block k (by simp; omega) (fun e => hne e.symm)).trans (Below.heap_alloc W _ k hk)
theorem flatRes_bad {l : List Seg} (h : validB l = false) : flatRes l = [] := if_neg (by rw [h]; decide)
theorem chainRes_bad {l : List Seg} (h : validB l = false) : chainRes l = [] := if_neg (by rw [h]; decide)
theorem flatRes_len (l : List Seg) : (flatRes l).length ≤ 200 := by
  unfold flatRes
  split
  · next h => rw [show (flatL l).length = l.length from parL_len _ _]; have := (valid_all h).2.1; omega
  · exact Nat.zero_le _
theorem chainRes_len (l : List Seg) : (chainRes l).length ≤ 200 := by
  unfold chainRes
  split
  · next h => rw [show (chainL l).length = l.length from parL_len _ _]; have := (valid_all h).2.1; omega
  · exact Nat.zero_le _
theorem flatRes_ok {l : List Seg} (h : validB l = true) : flatRes l = parL flatP l := if_pos h
theorem chainRes_ok {l : List Seg} (h : validB l = true) : chainRes l = parL chainP l := if_pos h

set_option maxRecDepth 100000 in
set_option maxHeartbeats 4000000 in
theorem specFlatTree_any (A : Option Addr) (l : List Seg) (c : Nat) (w : World) (hw : Segs w w.heap.size A l) (hl : l.length ≤ 1048576) (hn : Short l) :
    Calls Try.prog 18 #[.slice A l.length c] w (TreeAns w (flatRes l) (validB l)) := by
  have HW : Hid (Segs w w.heap.size A l) := hw
  have HB0 : Hid (Below w.heap.size w (w.alloc (.cells #[] 69))) := (Below.refl _ w).alloc (Nat.le_refl _) _
  have HTV := Lib.hid (specTreeValid_any A l c (w.alloc (.cells #[] 69)) ((hw.below HB0.out).more HB0.out.size) hl hn)
  have HT0 := Lib.hid (OwnTree.empty (B := w.heap.size) w (Nat.le_refl _))
  clear hw hn
  unfold TreeAns
  cases hv : validB l with
  | false =>
    rw [flatRes_bad hv]
    rw [hv] at HTV
    clear hv
    go_enter Try.func18, Try.ntmps18
    go_wp2_with fail
    generalize w.alloc (.cells #[] 69) = w0 at *
    refine Calls.mono HTV.out ?_
    rintro e w1 ⟨rfl, hb1⟩
    have HT1 := Lib.hid (treeBelow HT0.out hb1)
    have HB1 := Lib.hid (HB0.out.trans (hb1.mono HB0.out.size))
    clear hb1 HTV
    go_wp2
    go_ret2
    exact ⟨_, rfl, HT1.out, HB1.out⟩
  | true =>
    rw [flatRes_ok hv]
    rw [hv] at HTV
    have h8 := (valid_all hv).2.1
    have HP0 := Lib.hid (fun h0 => root_par hv h0)
    clear hv
    obtain ⟨i0, hi0, hz0, hz1, hz2⟩ := info_parts info_seg
    have I0 := Lib.hid hi0
    have Z0 := Lib.hid hz0
    have Z1 := Lib.hid hz1
    have Z2 := Lib.hid hz2
    clear hi0 hz0 hz1 hz2
    go_enter Try.func18, Try.ntmps18
    go_wp2_with fail
    generalize w.alloc (.cells #[] 69) = w0 at *
    refine Calls.mono HTV.out ?_
    rintro e w1 ⟨rfl, hb1⟩
    have HT1 := Lib.hid (treeBelow HT0.out hb1)
    have HB1 := Lib.hid (HB0.out.trans (hb1.mono HB0.out.size))
    clear hb1 HTV HT0 HB0
    obtain ⟨R, HR⟩ : ∃ R, Hid (parL flatP l = R) := ⟨_, rfl⟩
    have HF := Lib.hid (fun k (hk : k < l.length) => parL_take flatP l hk)
    have HZ : Hid ((parL flatP l).length = l.length) := parL_len _ _
    have HALL : Hid ((parL flatP l).take l.length = parL flatP l) := parL_all _ _
    rw [HR.out] at HF HZ HALL
    go_wp2
    go_loopw [4, 14] (fun ov iv wr => ∃ (k : Nat) (vo : Value), k ≤ l.length ∧ iv = .int .i64 k ∧ vo = ov ∧ Hid (OwnTree wr w.heap.size vo (R.take k)) ∧ Hid (Below w.heap.size w wr))
      (fun _ iv _ => l.length - (intOf iv).toNat)
    case atStart => exact ⟨0, _, Nat.zero_le _, rfl, rfl, HT1, HB1⟩
    case round =>
      obtain ⟨k, vo, hk, rfl, rfl, HT, HB⟩ := hrel
      clear HT1 HB1
      have hk0 : (0 : Int) ≤ (k : Int) := Int.natCast_nonneg _
      by_cases hlt : k < l.length
      · have hlt' : (k : Int) < (l.length : Int) := by omega
        obtain ⟨b, o, rfl, hB, hc⟩ := HW.out (by omega)
        obtain ⟨c0, c1, c2⟩ := hc k l[k] (List.getElem?_eq_getElem hlt)
        clear hc
        rw [← HB.out.cell hB] at c0 c1 c2
        have HST := Lib.hid (HF.out k hlt)
        have hTL : (R.take k).length = k := by rw [List.length_take, HZ.out]; omega
        have HTL := Lib.hid hTL
        have hwl := HB.out.size
        obtain ⟨vA, vC, rfl, -⟩ := HT.out.form
        have HW1 := fun p => Lib.hid (HT.out.alloc (.cells #[.string l[k].name, .int .i64 l[k].size, .int .i64 p] 69))
        have HB1 := fun p => Lib.hid (HB.out.alloc HB.out.size (.cells #[.string l[k].name, .int .i64 l[k].size, .int .i64 p] 69))
        by_cases h0 : 0 < k
        · have h0' : (0 : Int) < (k : Int) := by omega
          have hf : flatP k = 0 := if_neg (by omega)
          rw [hf] at HST
          generalize l[k].name = nm at *
          generalize l[k].size = sz at *
          generalize l[k].par = pr at *
          go_wp2_with (at_builtin; go_loud (refine wp_append_seg rfl (.tmp 22) (.tmp 24) rfl w.heap.size (.slice vA (R.take k).length vC) (R.take k) nm sz 0 _ rfl (HW1 0).out (by omega) (by have := (HB1 0).out.size; exact this) (wr.heap.size + 1) rfl (by simp) ?_); intro v3 w3 ho3 hb3 _; have HT3 := Lib.hid ho3; have HB3 := Lib.hid ((HB1 0).out.trans hb3); clear ho3 hb3)
          rw [← HST.out] at HT3
          go_roundw
          case rel => exact ⟨k + 1, v3, by omega, by go_num, rfl, HT3, HB3⟩
          case measure => simp [intOf]; omega
        · have h0' : ¬ (0 : Int) < (k : Int) := by omega
          have hf : flatP k = l[k].par := by
            obtain rfl : k = 0 := by omega
            exact (HP0.out hlt).symm
          rw [hf] at HST
          generalize l[k].name = nm at *
          generalize l[k].size = sz at *
          generalize l[k].par = pr at *
          go_wp2_with (at_builtin; go_loud (refine wp_append_seg rfl (.tmp 22) (.tmp 24) rfl w.heap.size (.slice vA (R.take k).length vC) (R.take k) nm sz pr _ rfl (HW1 pr).out (by omega) (by have := (HB1 pr).out.size; exact this) (wr.heap.size + 1) rfl (by simp) ?_); intro v3 w3 ho3 hb3 _; have HT3 := Lib.hid ho3; have HB3 := Lib.hid ((HB1 pr).out.trans hb3); clear ho3 hb3)
          rw [← HST.out] at HT3
          go_roundw
          case rel => exact ⟨k + 1, v3, by omega, by go_num, rfl, HT3, HB3⟩
          case measure => simp [intOf]; omega
      · obtain rfl : k = l.length := by omega
        rw [HALL.out] at HT
        go_wp2
        go_ret2
        exact ⟨_, rfl, by rw [HR.out]; exact HT.out, HB.out⟩

set_option maxRecDepth 100000 in
set_option maxHeartbeats 4000000 in
theorem specChainTree_any (A : Option Addr) (l : List Seg) (c : Nat) (w : World) (hw : Segs w w.heap.size A l) (hl : l.length ≤ 1048576) (hn : Short l) :
    Calls Try.prog 20 #[.slice A l.length c] w (TreeAns w (chainRes l) (validB l)) := by
  have HW : Hid (Segs w w.heap.size A l) := hw
  have HB0 : Hid (Below w.heap.size w (w.alloc (.cells #[] 69))) := (Below.refl _ w).alloc (Nat.le_refl _) _
  have HTV := Lib.hid (specTreeValid_any A l c (w.alloc (.cells #[] 69)) ((hw.below HB0.out).more HB0.out.size) hl hn)
  have HT0 := Lib.hid (OwnTree.empty (B := w.heap.size) w (Nat.le_refl _))
  clear hw hn
  unfold TreeAns
  cases hv : validB l with
  | false =>
    rw [chainRes_bad hv]
    rw [hv] at HTV
    clear hv
    go_enter Try.func20, Try.ntmps20
    go_wp2_with fail
    generalize w.alloc (.cells #[] 69) = w0 at *
    refine Calls.mono HTV.out ?_
    rintro e w1 ⟨rfl, hb1⟩
    have HT1 := Lib.hid (treeBelow HT0.out hb1)
    have HB1 := Lib.hid (HB0.out.trans (hb1.mono HB0.out.size))
    clear hb1 HTV
    go_wp2
    go_ret2
    exact ⟨_, rfl, HT1.out, HB1.out⟩
  | true =>
    rw [chainRes_ok hv]
    rw [hv] at HTV
    have h8 := (valid_all hv).2.1
    clear hv
    obtain ⟨i0, hi0, hz0, hz1, hz2⟩ := info_parts info_seg
    have I0 := Lib.hid hi0
    have Z0 := Lib.hid hz0
    have Z1 := Lib.hid hz1
    have Z2 := Lib.hid hz2
    clear hi0 hz0 hz1 hz2
    go_enter Try.func20, Try.ntmps20
    go_wp2_with fail
    generalize w.alloc (.cells #[] 69) = w0 at *
    refine Calls.mono HTV.out ?_
    rintro e w1 ⟨rfl, hb1⟩
    have HT1 := Lib.hid (treeBelow HT0.out hb1)
    have HB1 := Lib.hid (HB0.out.trans (hb1.mono HB0.out.size))
    clear hb1 HTV HT0 HB0
    obtain ⟨R, HR⟩ : ∃ R, Hid (parL chainP l = R) := ⟨_, rfl⟩
    have HF := Lib.hid (fun k (hk : k < l.length) => parL_take chainP l hk)
    have HZ : Hid ((parL chainP l).length = l.length) := parL_len _ _
    have HALL : Hid ((parL chainP l).take l.length = parL chainP l) := parL_all _ _
    rw [HR.out] at HF HZ HALL
    go_wp2
    go_loopw [4, 14] (fun ov iv wr => ∃ (k : Nat) (vo : Value), k ≤ l.length ∧ iv = .int .i64 k ∧ vo = ov ∧ Hid (OwnTree wr w.heap.size vo (R.take k)) ∧ Hid (Below w.heap.size w wr))
      (fun _ iv _ => l.length - (intOf iv).toNat)
    case atStart => exact ⟨0, _, Nat.zero_le _, rfl, rfl, HT1, HB1⟩
    case round =>
      obtain ⟨k, vo, hk, rfl, rfl, HT, HB⟩ := hrel
      clear HT1 HB1
      have hk0 : (0 : Int) ≤ (k : Int) := Int.natCast_nonneg _
      by_cases hlt : k < l.length
      · have hlt' : (k : Int) < (l.length : Int) := by omega
        obtain ⟨b, o, rfl, hB, hc⟩ := HW.out (by omega)
        obtain ⟨c0, c1, c2⟩ := hc k l[k] (List.getElem?_eq_getElem hlt)
        clear hc
        rw [← HB.out.cell hB] at c0 c1 c2
        have HST := Lib.hid (HF.out k hlt)
        have hTL : (R.take k).length = k := by rw [List.length_take, HZ.out]; omega
        have HTL := Lib.hid hTL
        have hwl := HB.out.size
        obtain ⟨vA, vC, rfl, -⟩ := HT.out.form
        have HW1 := fun p => Lib.hid (HT.out.alloc (.cells #[.string l[k].name, .int .i64 l[k].size, .int .i64 p] 69))
        have HB1 := fun p => Lib.hid (HB.out.alloc HB.out.size (.cells #[.string l[k].name, .int .i64 l[k].size, .int .i64 p] 69))
        have hf : chainP k = (k : Int) - 1 := rfl
        rw [hf] at HST
        generalize l[k].name = nm at *
        generalize l[k].size = sz at *
        generalize l[k].par = pr at *
        go_wp2_with (at_builtin; go_loud (refine wp_append_seg rfl (.tmp 22) (.tmp 24) rfl w.heap.size (.slice vA (R.take k).length vC) (R.take k) nm sz ((k : Int) - 1) _ rfl (HW1 _).out (by omega) (by have := (HB1 ((k : Int) - 1)).out.size; exact this) (wr.heap.size + 1) rfl (by simp) ?_); intro v3 w3 ho3 hb3 _; have HT3 := Lib.hid ho3; have HB3 := Lib.hid ((HB1 _).out.trans hb3); clear ho3 hb3)
        rw [← HST.out] at HT3
        go_roundw
        case rel => exact ⟨k + 1, v3, by omega, by go_num, rfl, HT3, HB3⟩
        case measure => simp [intOf]; omega
      · obtain rfl : k = l.length := by omega
        rw [HALL.out] at HT
        go_wp2
        go_ret2
        exact ⟨_, rfl, by rw [HR.out]; exact HT.out, HB.out⟩


theorem set_same {α : Type} {L : List α} {j : Nat} {x : α} (h : L[j]? = some x) : L.set j x = L := by
  apply List.ext_getElem?
  intro k
  by_cases hk : k = j
  · subst hk
    rw [List.getElem?_set_self (List.getElem?_eq_some_iff.1 h).1, h]
  · rw [List.getElem?_set_ne (fun e => hk e.symm)]
theorem treeLow {w : World} {B B' : Nat} {v : Value} {tr : List Seg} (h : OwnTree w B v tr) (hB : B' ≤ B) : OwnTree w B' v tr := by
  refine ⟨h.1, ?_⟩
  rcases h.2 with h0 | ⟨g, cap, cur, e1, hg, r⟩
  · exact .inl h0
  · exact .inr ⟨g, cap, cur, e1, Nat.le_trans hB hg, r⟩
theorem OwnTree.setPar {w : World} {B g cap : Nat} {tr : List Seg} (h : OwnTree w B (.slice (some ⟨g, 0, none⟩) tr.length cap) tr) {i : Nat} {x : Seg} (hx : tr[i]? = some x) (p : Int) :
    OwnTree (w.setCell ⟨g, i * 3 + 2, none⟩ (.int .i64 p)) B (.slice (some ⟨g, 0, none⟩) tr.length cap) (tr.set i ⟨x.name, x.size, p⟩) := by
  have hi := (List.getElem?_eq_some_iff.1 hx).1
  obtain ⟨s0, s1, -⟩ := segCells_at hx
  unfold OwnTree at h ⊢
  rw [List.length_set]
  refine ⟨by rw [segCells_len, List.length_set], ?_⟩
  rcases h.2 with ⟨h0, _⟩ | ⟨g', cap', cur, hv, hg, hh, h1, h2, h3, h4⟩
  · cases h0
  · injection hv with hv1 _ hv3
    injection hv1 with hv1
    injection hv1 with hv1
    subst hv1 hv3
    have hr : Row w g 69 cur := hh
    refine .inr ⟨g, cap, _, rfl, hg, hr.put (i * 3 + 2) _, h1, h2, by simpa using h3, ?_⟩
    rw [segCells_set tr i _ hi, set_same s0, set_same s1, ← h4]
    simp only [Array.toList_setIfInBounds, List.take_set]
theorem Segs.news {w : World} {B b o : Nat} {l : List Seg} (h : Segs w B (some ⟨b, o, none⟩) l) : ∀ j u, (segCells l)[j]? = some u → w.cell? ((⟨b, o, none⟩ : Addr).add j) = some u := fun j u hj => by
  have hlt := (List.getElem?_eq_some_iff.1 hj).1
  rw [segCells_len] at hlt
  have hi : j / 3 < l.length := by omega
  obtain ⟨b', o', e, _, hc⟩ := h (by omega)
  injection e with e
  injection e with e1 e2
  subst e1 e2
  obtain ⟨c0, c1, c2⟩ := hc (j / 3) _ (List.getElem?_eq_getElem hi)
  obtain ⟨s0, s1, s2⟩ := segCells_at (List.getElem?_eq_getElem hi)
  rw [Addr.add_lit]
  have hr : j = j / 3 * 3 ∨ j = j / 3 * 3 + 1 ∨ j = j / 3 * 3 + 2 := by omega
  rcases hr with hr | hr | hr
  · rw [hr] at hj ⊢
    rw [s0] at hj
    rw [← hj]
    exact c0
  · rw [hr] at hj ⊢
    rw [s1] at hj
    rw [← hj]
    exact c1
  · rw [hr] at hj ⊢
    rw [s2] at hj
    rw [← hj]
    exact c2
theorem segCells_one' (l : List Seg) : ∀ u ∈ segCells l, u.oneCell' = true := by
  intro u hu
  obtain ⟨s, _, hs⟩ := List.mem_flatMap.1 hu
  simp at hs
  rcases hs with rfl | rfl | rfl <;> rfl

set_option maxRecDepth 100000 in
set_option maxHeartbeats 1000000 in
theorem cloneSeg_any (b o : Nat) (l : List Seg) (c : Nat) (w : World) (hw : Segs w w.heap.size (some ⟨b, o, none⟩) l) (hl : l.length ≤ 1000) :
    Calls Try.prog 94 #[.slice (some ⟨b, o, none⟩) l.length c] w fun e w' => ∃ v, e = .returned v ∧ OwnTree w' w.heap.size v l ∧ Below w.heap.size w w' := by
  have hnil := fun (W : World) (a : Option Addr) (n c : Nat) => Lib.run_eql_slice_nil (P := Try.prog) W 23 69 a n c 0 0 Try.underlying23
  obtain ⟨i0, hi0, hz0, hz1, hz2⟩ := info_parts info_seg
  have HNEW := Lib.hid hw.news
  have HW : Hid (Segs w w.heap.size (some ⟨b, o, none⟩) l) := hw
  have hcz := segCells_len l
  have HCZ := Lib.hid hcz
  clear hw hcz
  go_enter Try.func94, Try.ntmps94
  go_wp2_with (at_builtin; go_loud (refine wpList_append_own _ rfl (.tmp 5) (.tmp 6) 23 rfl w.heap.size 69 i0 zeroSeg 3 32 Try.underlying23 hi0 hz0 hz1 hz2 rfl (by decide) (.slice (some ⟨w.heap.size, 0, none⟩) 0 0) 0 [] rfl (OwnTree.empty w (Nat.le_refl _)) ⟨b, o, none⟩ l.length c (segCells l) rfl HCZ.out ?qc2 (segCells_one' l) (by unfold maxLen; omega) (by omega) (by simp) ?_))
  case qc2 =>
    intro j u hj
    exact Lib.cell?_alloc_some _ (HNEW.out j u hj)
  intro v' w1 hown hgrow hnil'
  have HO : Hid (OwnTree w1 w.heap.size v' l) := by
    exact hown
  have HB : Hid (Below w.heap.size w w1) := ((Below.refl _ w).alloc (Nat.le_refl _) _).grown hgrow (by simp) (by intro k hk; simp [Value.ownBlock] at hk; omega)
  clear hown hgrow hnil'
  go_wp2
  go_ret
  exact ⟨v', rfl, HO.out, HB.out⟩

def mixL (f : Nat → Int) (l : List Seg) (i : Nat) : List Seg := (parL f l).take i ++ l.drop i
theorem mixL_len (f : Nat → Int) (l : List Seg) (i : Nat) : (mixL f l i).length = l.length := by
  unfold mixL
  rw [List.length_append, List.length_take, List.length_drop, parL_len]
  omega
theorem mixL_at {f : Nat → Int} {l : List Seg} {i : Nat} (h : i < l.length) : (mixL f l i)[i]? = some l[i] := by
  unfold mixL
  have h1 : ((parL f l).take i).length = i := by rw [List.length_take, parL_len]; omega
  rw [List.getElem?_append_right (by omega), h1, Nat.sub_self, List.getElem?_drop, Nat.add_zero, List.getElem?_eq_getElem h]
theorem mixL_succ {f : Nat → Int} {l : List Seg} {i : Nat} (h : i < l.length) : mixL f l (i + 1) = (mixL f l i).set i ⟨l[i].name, l[i].size, f i⟩ := by
  unfold mixL
  have h1 : ((parL f l).take i).length = i := by rw [List.length_take, parL_len]; omega
  rw [parL_take f l h, List.set_append_right _ _ (by omega), h1, Nat.sub_self, List.drop_eq_getElem_cons h, List.set_cons_zero, List.append_assoc]
  rfl
theorem mixL_one {f : Nat → Int} {l : List Seg} (hv : validB l = true) (h0 : f 0 = -1) : mixL f l 1 = l := by
  have h1 := (valid_all hv).2.2
  rw [mixL_succ (by omega : 0 < l.length)]
  have h2 : mixL f l 0 = l := by unfold mixL; simp
  rw [h2, h0, ← root_par hv (by omega)]
  exact set_same (List.getElem?_eq_getElem (by omega))
theorem mixL_all (f : Nat → Int) (l : List Seg) : mixL f l l.length = parL f l := by
  unfold mixL
  rw [parL_all, List.drop_of_length_le (Nat.le_refl _), List.append_nil]

set_option maxHeartbeats 400000 in
theorem flat1_any (i : Nat) (w : World) (hi : 0 < i) : Calls Try.prog 56 #[.int .i64 i] w fun e w' => e = .returned (.int .i64 (flatP i)) ∧ w' = w := by
  have HF : Hid (flatP i = 0) := if_neg (by omega)
  rw [HF.out]
  go_enter Try.func56, Try.ntmps56
  go_wp2
  go_ret
  exact ⟨rfl, rfl⟩
set_option maxHeartbeats 400000 in
theorem chain1_any (i : Nat) (w : World) (hi : i ≤ 8) : Calls Try.prog 58 #[.int .i64 i] w fun e w' => e = .returned (.int .i64 (chainP i)) ∧ w' = w := by
  have HF : Hid (chainP i = (i : Int) - 1) := rfl
  rw [HF.out]
  go_enter Try.func58, Try.ntmps58
  go_wp2
  go_ret
  exact ⟨rfl, rfl⟩

set_option maxRecDepth 100000 in
set_option maxHeartbeats 2000000 in
theorem withParents_flat (A : Option Addr) (l : List Seg) (c : Nat) (w : World) (hw : Segs w w.heap.size A l) (hl : l.length ≤ 1048576) (hlc : l.length ≤ c) (hcm : c ≤ 9223372036854775807) (hn : Short l) :
    Calls Try.prog 55 #[.slice A l.length c, .func (.func 56) #[] #[]] w (TreeAns w (if validB l = true then parL flatP l else []) (validB l)) := by
  have HW : Hid (Segs w w.heap.size A l) := hw
  have HTV := Lib.hid (treeValid_any A l c w hw hl hlc hcm hn)
  clear hw hn
  unfold TreeAns
  cases hv : validB l with
  | false =>
    rw [hv] at HTV
    clear hv
    go_enter Try.func55, Try.ntmps55
    go_wp2_with fail
    refine Calls.mono HTV.out ?_
    rintro e w1 ⟨rfl, hb1⟩
    have HB1 := Lib.hid hb1
    have HT1 : Hid (OwnTree w1 w.heap.size (.slice none 0 0) []) := ⟨rfl, .inl ⟨rfl, rfl⟩⟩
    clear hb1 HTV
    go_wp2
    go_ret2
    exact ⟨_, rfl, HT1.out, HB1.out⟩
  | true =>
    rw [hv] at HTV
    have h8 := (valid_all hv).2.1
    have h1 := (valid_all hv).2.2
    have HM1 := Lib.hid (mixL_one (f := flatP) hv rfl)
    clear hv
    obtain ⟨b9, o9, rfl, hB, -⟩ := HW.out (by omega)
    go_enter Try.func55, Try.ntmps55
    go_wp2_with fail
    refine Calls.mono HTV.out ?_
    rintro e w1 ⟨rfl, hb1⟩
    have HW1 : Hid (Segs w1 w1.heap.size (some ⟨b9, o9, none⟩) l) := (HW.out.below hb1).more hb1.size
    have HB1 := Lib.hid hb1
    clear hb1 HTV HW
    go_wp2_with fail
    refine (cloneSeg_any b9 o9 l c w1 HW1.out (by omega)).mono ?_
    rintro e w2 ⟨v2, rfl, ho2, hb2⟩
    obtain ⟨g, cap, rfl, -, -⟩ : ∃ g cap, v2 = .slice (some ⟨g, 0, none⟩) l.length cap ∧ w1.heap.size ≤ g ∧ g < w2.heap.size := World.ownsRow.form ho2 (by omega)
    have HB2 := Lib.hid (HB1.out.trans (hb2.mono HB1.out.size))
    have HT2 : Hid (OwnTree w2 w.heap.size (.slice (some ⟨g, 0, none⟩) l.length cap) (mixL flatP l 1)) := by
      rw [HM1.out]
      exact treeLow ho2 HB1.out.size
    clear ho2 hb2 HB1 HW1 HM1
    go_wp2
    go_loopw [7] (fun iv wr => ∃ k : Nat, 0 < k ∧ k ≤ l.length ∧ iv = .int .i64 k ∧ Hid (OwnTree wr w.heap.size (.slice (some ⟨g, 0, none⟩) l.length cap) (mixL flatP l k)) ∧ Hid (Below w.heap.size w wr))
      (fun iv _ => l.length - (intOf iv).toNat)
    case atStart => exact ⟨1, by omega, h1, rfl, HT2, HB2⟩
    case round =>
      clear HT2 HB2
      obtain ⟨k, hk1, hk, rfl, HT, HB⟩ := hrel
      have hk0 : (0 : Int) ≤ (k : Int) := Int.natCast_nonneg _
      by_cases hlt : k < l.length
      · have hlt' : (k : Int) < (l.length : Int) := by omega
        have HCF := Lib.hid (flat1_any k wr hk1)
        have hml := mixL_len flatP l k
        have hT : OwnTree wr w.heap.size (.slice (some ⟨g, 0, none⟩) (mixL flatP l k).length cap) (mixL flatP l k) := by rw [hml]; exact HT.out
        obtain ⟨⟨d0, d1, d2⟩, z⟩ := hT.cells (mixL_at (f := flatP) hlt)
        have z2 := z (k * 3 + 2)
        have hgB : w.heap.size ≤ g ∧ g < wr.heap.size := World.ownsRow.lt HT.out g rfl
        have HT2 : Hid (OwnTree (wr.setCell ⟨g, k * 3 + 2, none⟩ (.int .i64 (flatP k))) w.heap.size (.slice (some ⟨g, 0, none⟩) l.length cap) (mixL flatP l (k + 1))) := by
          have h3 := hT.setPar (mixL_at (f := flatP) hlt) (flatP k)
          rw [hml, ← mixL_succ hlt] at h3
          exact h3
        have HB2 : Hid (Below w.heap.size w (wr.setCell ⟨g, k * 3 + 2, none⟩ (.int .i64 (flatP k)))) := HB.out.setCell hgB.1 _
        clear hT z HT HB hml
        generalize flatP k = p at *
        generalize l[k].par = pr at *
        go_wp2_with fail
        refine Calls.mono HCF.out ?_
        rintro e w3 ⟨rfl, rfl⟩
        go_wp2
        go_roundw
        case rel => exact ⟨k + 1, by omega, by omega, by go_num, HT2, HB2⟩
        case measure => simp [intOf]; omega
      · obtain rfl : k = l.length := by omega
        rw [mixL_all] at HT
        go_wp2
        go_ret2
        exact ⟨_, rfl, HT.out, HB.out⟩

set_option maxRecDepth 100000 in
set_option maxHeartbeats 2000000 in
theorem withParents_chain (A : Option Addr) (l : List Seg) (c : Nat) (w : World) (hw : Segs w w.heap.size A l) (hl : l.length ≤ 1048576) (hlc : l.length ≤ c) (hcm : c ≤ 9223372036854775807) (hn : Short l) :
    Calls Try.prog 55 #[.slice A l.length c, .func (.func 58) #[] #[]] w (TreeAns w (if validB l = true then parL chainP l else []) (validB l)) := by
  have HW : Hid (Segs w w.heap.size A l) := hw
  have HTV := Lib.hid (treeValid_any A l c w hw hl hlc hcm hn)
  clear hw hn
  unfold TreeAns
  cases hv : validB l with
  | false =>
    rw [hv] at HTV
    clear hv
    go_enter Try.func55, Try.ntmps55
    go_wp2_with fail
    refine Calls.mono HTV.out ?_
    rintro e w1 ⟨rfl, hb1⟩
    have HB1 := Lib.hid hb1
    have HT1 : Hid (OwnTree w1 w.heap.size (.slice none 0 0) []) := ⟨rfl, .inl ⟨rfl, rfl⟩⟩
    clear hb1 HTV
    go_wp2
    go_ret2
    exact ⟨_, rfl, HT1.out, HB1.out⟩
  | true =>
    rw [hv] at HTV
    have h8 := (valid_all hv).2.1
    have h1 := (valid_all hv).2.2
    have HM1 := Lib.hid (mixL_one (f := chainP) hv (by decide))
    clear hv
    obtain ⟨b9, o9, rfl, hB, -⟩ := HW.out (by omega)
    go_enter Try.func55, Try.ntmps55
    go_wp2_with fail
    refine Calls.mono HTV.out ?_
    rintro e w1 ⟨rfl, hb1⟩
    have HW1 : Hid (Segs w1 w1.heap.size (some ⟨b9, o9, none⟩) l) := (HW.out.below hb1).more hb1.size
    have HB1 := Lib.hid hb1
    clear hb1 HTV HW
    go_wp2_with fail
    refine (cloneSeg_any b9 o9 l c w1 HW1.out (by omega)).mono ?_
    rintro e w2 ⟨v2, rfl, ho2, hb2⟩
    obtain ⟨g, cap, rfl, -, -⟩ : ∃ g cap, v2 = .slice (some ⟨g, 0, none⟩) l.length cap ∧ w1.heap.size ≤ g ∧ g < w2.heap.size := World.ownsRow.form ho2 (by omega)
    have HB2 := Lib.hid (HB1.out.trans (hb2.mono HB1.out.size))
    have HT2 : Hid (OwnTree w2 w.heap.size (.slice (some ⟨g, 0, none⟩) l.length cap) (mixL chainP l 1)) := by
      rw [HM1.out]
      exact treeLow ho2 HB1.out.size
    clear ho2 hb2 HB1 HW1 HM1
    go_wp2
    go_loopw [7] (fun iv wr => ∃ k : Nat, 0 < k ∧ k ≤ l.length ∧ iv = .int .i64 k ∧ Hid (OwnTree wr w.heap.size (.slice (some ⟨g, 0, none⟩) l.length cap) (mixL chainP l k)) ∧ Hid (Below w.heap.size w wr))
      (fun iv _ => l.length - (intOf iv).toNat)
    case atStart => exact ⟨1, by omega, h1, rfl, HT2, HB2⟩
    case round =>
      clear HT2 HB2
      obtain ⟨k, hk1, hk, rfl, HT, HB⟩ := hrel
      have hk0 : (0 : Int) ≤ (k : Int) := Int.natCast_nonneg _
      by_cases hlt : k < l.length
      · have hlt' : (k : Int) < (l.length : Int) := by omega
        have HCF := Lib.hid (chain1_any k wr (by omega))
        have hml := mixL_len chainP l k
        have hT : OwnTree wr w.heap.size (.slice (some ⟨g, 0, none⟩) (mixL chainP l k).length cap) (mixL chainP l k) := by rw [hml]; exact HT.out
        obtain ⟨⟨d0, d1, d2⟩, z⟩ := hT.cells (mixL_at (f := chainP) hlt)
        have z2 := z (k * 3 + 2)
        have hgB : w.heap.size ≤ g ∧ g < wr.heap.size := World.ownsRow.lt HT.out g rfl
        have HT2 : Hid (OwnTree (wr.setCell ⟨g, k * 3 + 2, none⟩ (.int .i64 (chainP k))) w.heap.size (.slice (some ⟨g, 0, none⟩) l.length cap) (mixL chainP l (k + 1))) := by
          have h3 := hT.setPar (mixL_at (f := chainP) hlt) (chainP k)
          rw [hml, ← mixL_succ hlt] at h3
          exact h3
        have HB2 : Hid (Below w.heap.size w (wr.setCell ⟨g, k * 3 + 2, none⟩ (.int .i64 (chainP k)))) := HB.out.setCell hgB.1 _
        clear hT z HT HB hml
        generalize chainP k = p at *
        generalize l[k].par = pr at *
        go_wp2_with fail
        refine Calls.mono HCF.out ?_
        rintro e w3 ⟨rfl, rfl⟩
        go_wp2
        go_roundw
        case rel => exact ⟨k + 1, by omega, by omega, by go_num, HT2, HB2⟩
        case measure => simp [intOf]; omega
      · obtain rfl : k = l.length := by omega
        rw [mixL_all] at HT
        go_wp2
        go_ret2
        exact ⟨_, rfl, HT.out, HB.out⟩

set_option maxRecDepth 100000 in
set_option maxHeartbeats 1000000 in
theorem flatTree_any (A : Option Addr) (l : List Seg) (c : Nat) (w : World) (hw : Segs w w.heap.size A l) (hl : l.length ≤ 1048576) (hlc : l.length ≤ c) (hcm : c ≤ 9223372036854775807) (hn : Short l) :
    Calls Try.prog 17 #[.slice A l.length c] w (TreeAns w (flatRes l) (validB l)) := by
  rw [show flatRes l = if validB l = true then parL flatP l else [] from rfl]
  have HW : Hid (Calls Try.prog 55 #[.slice A l.length c, .func (.func 56) #[] #[]] w (TreeAns w (if validB l = true then parL flatP l else []) (validB l))) := withParents_flat A l c w hw hl hlc hcm hn
  clear hw hn
  unfold TreeAns at HW ⊢
  generalize (if validB l = true then parL flatP l else []) = R at *
  generalize validB l = d at *
  go_enter Try.func17, Try.ntmps17
  go_wp2_with fail
  refine Calls.mono HW.out ?_
  rintro e w1 ⟨v, rfl, ho, hb⟩
  have HO := Lib.hid ho
  have HB := Lib.hid hb
  clear ho hb HW
  go_wp2
  go_ret2
  exact ⟨_, rfl, HO.out, HB.out⟩

set_option maxRecDepth 100000 in
set_option maxHeartbeats 1000000 in
theorem chainTree_any (A : Option Addr) (l : List Seg) (c : Nat) (w : World) (hw : Segs w w.heap.size A l) (hl : l.length ≤ 1048576) (hlc : l.length ≤ c) (hcm : c ≤ 9223372036854775807) (hn : Short l) :
    Calls Try.prog 19 #[.slice A l.length c] w (TreeAns w (chainRes l) (validB l)) := by
  rw [show chainRes l = if validB l = true then parL chainP l else [] from rfl]
  have HW : Hid (Calls Try.prog 55 #[.slice A l.length c, .func (.func 58) #[] #[]] w (TreeAns w (if validB l = true then parL chainP l else []) (validB l))) := withParents_chain A l c w hw hl hlc hcm hn
  clear hw hn
  unfold TreeAns at HW ⊢
  generalize (if validB l = true then parL chainP l else []) = R at *
  generalize validB l = d at *
  go_enter Try.func19, Try.ntmps19
  go_wp2_with fail
  refine Calls.mono HW.out ?_
  rintro e w1 ⟨v, rfl, ho, hb⟩
  have HO := Lib.hid ho
  have HB := Lib.hid hb
  clear ho hb HW
  go_wp2
  go_ret2
  exact ⟨_, rfl, HO.out, HB.out⟩

end Go.Proofs.Ytbmfbnlmdjnddaa
