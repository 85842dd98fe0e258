/- Joined: Kc Jb Ie Oa Od Ve Vg Vl Vm. -/
import Derived.Test.YtcpiojliakgdlaaGreatDoorU06
import Derived.Test.YtcpiojliakgdlaaGreatDoorU03
import Derived.Test.YtcpiojliakgdlaaGreatDoorU14
import Derived.Test.YtcpiojliakgdlaaGreatDoorU01
import Derived.Test.YtcpiojliakgdlaaGreatDoorU04
import Derived.Test.YtcpiojliakgdlaaGreatDoorU12
import Derived.Test.YtcpiojliakgdlaaGreatDoorU13
/- The law's marks: what is written into a result, and whether it is held. -/
namespace Go.Proofs.YtcpiojliakgdlaaGreatDoor
open Go.RowKit

theorem segCells_set : ∀ (tr : List Seg) (i : Nat) (s : Seg), i < tr.length → segCells (tr.set i s) = (((segCells tr).set (i * 3) (.string s.name)).set (i * 3 + 1) (.int .i64 s.size)).set (i * 3 + 2) (.int .i64 s.par)
  | [], _, _, h => absurd h (by simp)
  | x :: tr, 0, s, _ => rfl
  | x :: tr, i + 1, s, h => by
    have h1 := segCells_set tr i s (by simpa using h)
    have e : ∀ l : List Seg, ∀ y : Seg, segCells (y :: l) = .string y.name :: .int .i64 y.size :: .int .i64 y.par :: segCells l := fun l y => rfl
    rw [List.set_cons_succ, e, e, h1, show (i + 1) * 3 = i * 3 + 3 by omega, show i * 3 + 3 + 1 = i * 3 + 1 + 3 by omega, show i * 3 + 3 + 2 = i * 3 + 2 + 3 by omega]
    rfl

theorem OwnTree.cells {w : World} {B g cap : Nat} {tr : List Seg} (h : OwnTree w B (.slice (some ⟨g, 0, none⟩) tr.length cap) tr) {i : Nat} {s : Seg} (hi : tr[i]? = some s) :
    (w.cell? ⟨g, i * 3, none⟩ = some (.string s.name) ∧ w.cell? ⟨g, i * 3 + 1, none⟩ = some (.int .i64 s.size) ∧ w.cell? ⟨g, i * 3 + 2, none⟩ = some (.int .i64 s.par)) ∧ ∀ j, w.frozen? ⟨g, j, none⟩ = false := by
  have hlt := (List.getElem?_eq_some_iff.1 hi).1
  have hz := segCells_len tr
  obtain ⟨a, b, c⟩ := segCells_at hi
  have ha : ∀ j, j < tr.length * 3 → w.cell? ⟨g, j, none⟩ = (segCells tr)[j]? := fun j hj => World.ownsRow.cellAt h j (by omega)
  refine ⟨⟨(ha _ (by omega)).trans a, (ha _ (by omega)).trans b, (ha _ (by omega)).trans c⟩, fun j => ?_⟩
  rcases h.2 with ⟨h0, _⟩ | ⟨g', cap', cur, hv, hg, hh, _⟩
  · cases h0
  · injection hv with hv1 _ hv3
    injection hv1 with hv1
    injection hv1 with hv1
    subst hv1
    exact Row.free (hh : Row w g _ cur) j

theorem Only.put {w w' : World} {may : Nat → Prop} (h : Only w w' may) {b : Nat} (hm : may b) (i : Nat) (u : Value) : Only w (w'.setCell ⟨b, i, none⟩ u) may := by
  have hb : Below 0 w' (w'.setCell ⟨b, i, none⟩ u) := (Below.refl 0 w').setCell (Nat.zero_le _) u
  exact ⟨hb.os.trans h.os, hb.tape.trans h.tape, hb.output.trans h.output, by have := h.size; have := hb.size; omega, fun k hk hn => (Below.heap_setCell w' ⟨b, i, none⟩ u k (fun e => hn (by rw [e]; exact hm))).trans (h.block k hk hn)⟩

end Go.Proofs.YtcpiojliakgdlaaGreatDoor
/- A law's argument that is a row of texts: opened, sized, turned into the program's own. -/
namespace Go.Proofs.YtcpiojliakgdlaaGreatDoor
open Go.ChangeShapes Go.WideShapes Go.ChangeAt Go.RowKit

/-- The first 'k' of the texts lie in the cells. -/
def FilledT (ts : List ByteArray) (k : Nat) (cs : Array Value) : Prop := cs.size = ts.length ∧ ∀ (j : Nat) (s : ByteArray), j < k → ts[j]? = some s → cs[j]? = some (.string s)
theorem FilledT.next {ts : List ByteArray} {k : Nat} {cs : Array Value} (h : FilledT ts k cs) (hk : k < ts.length) : FilledT ts (k + 1) (cs.setIfInBounds k (.string ts[k])) := by
  refine ⟨by simpa using h.1, fun j s hj hs => ?_⟩
  have hz := h.1
  rcases Nat.lt_or_ge j k with hlt | hge
  · rw [Array.getElem?_setIfInBounds_ne (by omega)]
    exact h.2 j s hlt hs
  · obtain rfl : j = k := by omega
    rw [List.getElem?_eq_getElem hk] at hs
    injection hs with hs
    subst hs
    rw [Array.getElem?_setIfInBounds_self_of_lt (by omega)]
theorem FilledT.done {ts : List ByteArray} {cs : Array Value} {w : World} {g B : Nat} (h : FilledT ts ts.length cs) (hr : Row w g 9 cs) (hB : B ≤ g) (hm : ts.length ≤ maxLen) : OwnTexts w B (.slice (some ⟨g, 0, none⟩) ts.length ts.length) ts := by
  unfold OwnTexts
  have hl : cs.toList = ts.map Value.string := by
    apply List.ext_getElem?
    intro i
    rw [Array.getElem?_toList, List.getElem?_map]
    rcases Nat.lt_or_ge i ts.length with hlt | hge
    · rw [h.2 i ts[i] hlt (List.getElem?_eq_getElem hlt), List.getElem?_eq_getElem hlt]
      rfl
    · rw [List.getElem?_eq_none hge, Array.getElem?_eq_none (by rw [h.1]; exact hge)]
      rfl
  refine ⟨by simp, .inr ⟨g, ts.length, cs, rfl, hB, hr, Nat.le_refl _, hm, by rw [h.1]; simp, ?_⟩⟩
  rw [hl, Nat.mul_one]
  exact List.take_of_length_le (by simp)

end Go.Proofs.YtcpiojliakgdlaaGreatDoor
/- Marks in a row of texts whose own texts don't matter. -/
namespace Go.Proofs.YtcpiojliakgdlaaGreatDoor
open Go.RowKit

namespace St
end St

end Go.Proofs.YtcpiojliakgdlaaGreatDoor
/- A tree and a truth as an answer: whether it stays, and its marks. -/
namespace Go.Proofs.YtcpiojliakgdlaaGreatDoor
open Go.RowKit

/-- A tree in memory of the call's own, and whether there is one. -/
def TreeAns (w : World) (tr : List Seg) (d : Bool) (e : Ending) (w' : World) : Prop :=
  ∃ v, e = .returned (.tuple #[v, .bool d]) ∧ OwnTree w' w.heap.size v tr ∧ Below w.heap.size w w'
theorem treeBelow {w w' : World} {B : Nat} {v : Value} {tr : List Seg} (h : OwnTree w B v tr) (hb : Below w.heap.size w w') : OwnTree w' B v tr :=
  h.far fun g hg => hb.block g (World.ownsRow.lt h g hg).2
end Go.Proofs.YtcpiojliakgdlaaGreatDoor
/- FlatTree and ChainTree on both sides. -/
namespace Go.Proofs.YtcpiojliakgdlaaGreatDoor
open Go.RowKit

theorem own_snoc {w : World} {B : Nat} {v : Value} {tr : List Seg} {n : Nat} {s : Seg} (hn : n = tr.length) (h : w.ownsRow B 58 3 v (n + 1) (segCells tr ++ [.string s.name, .int .i64 s.size, .int .i64 s.par])) : OwnTree w B v (tr ++ [s]) := by
  unfold OwnTree
  rw [segCells_snoc, List.length_append, ← hn]
  exact h
/-- append of one segment, laid as a row of its own, to a tree of the call's own. -/
theorem wp_append_seg {ops : Array Oper} {rest : List Oper} {o : Oper} {a : Act} {Q : Exit → Act → World → Prop} (hgd : o.guard = none) (S X : Operand)
    (ho : o.op = Op.call { callee := Callee.builtin Builtin.append, args := #[S, X], argTypes := #[23, 23] })
    (B : Nat) (v : Value) (tr : List Seg) (nm : ByteArray) (sz p : Int) (W : World) (hs : a.eval S = v) (hown : OwnTree W B v tr) (htl : tr.length ≤ 1000) (hB : B ≤ W.heap.size)
    (g : Nat) (hx : a.eval X = .slice (some ⟨g, 0, none⟩) 1 1) (hg : g = W.heap.size)
    (h : ∀ v' w', OwnTree w' B v' (tr ++ [⟨nm, sz, p⟩]) → Below B W w' → (∀ k, k < W.heap.size → v.ownBlock ≠ some k → w'.heap[k]? = W.heap[k]?) → wpList Tryz.prog ops Q rest (a.put o.dst v') w') :
    wpList Tryz.prog ops Q (o :: rest) a (W.alloc (.cells #[.string nm, .int .i64 sz, .int .i64 p] 58)) := by
  subst hg
  obtain ⟨i0, hi0, hz0, hz1, hz2⟩ := info_parts info_seg
  refine wpList_append_own _ hgd S X 23 ho B 58 i0 zeroSeg 3 32 Tryz.underlying23 hi0 hz0 hz1 hz2 rfl (by decide) v tr.length (segCells tr) hs (hown.alloc (.cells #[.string nm, .int .i64 sz, .int .i64 p] 58)) ⟨W.heap.size, 0, none⟩ 1 1 [.string nm, .int .i64 sz, .int .i64 p] hx rfl
    (World.news_of_block (cs := #[.string nm, .int .i64 sz, .int .i64 p]) (t := 58) (fr := (0, 0)) (heap_alloc_new W _)) (by simp [Value.oneCell']) (by unfold maxLen; omega) (by omega) (by simp; omega) ?_
  intro v' w' hown' hgrow _
  refine h v' w' (own_snoc rfl hown') ?_ ?_
  · exact ((Below.refl B W).alloc hB _).grown hgrow (by simp; omega) (fun k e => (World.ownsRow.lt hown k e).1)
  · intro k hk hne
    exact (hgrow.block k (by simp; omega) (fun e => hne e.symm)).trans (Below.heap_alloc W _ k hk)
theorem set_same {α : Type} {L : List α} {j : Nat} {x : α} (h : L[j]? = some x) : L.set j x = L := by
  apply List.ext_getElem?
  intro k
  by_cases hk : k = j
  · subst hk
    rw [List.getElem?_set_self (List.getElem?_eq_some_iff.1 h).1, h]
  · rw [List.getElem?_set_ne (fun e => hk e.symm)]
theorem treeLow {w : World} {B B' : Nat} {v : Value} {tr : List Seg} (h : OwnTree w B v tr) (hB : B' ≤ B) : OwnTree w B' v tr := by
  refine ⟨h.1, ?_⟩
  rcases h.2 with h0 | ⟨g, cap, cur, e1, hg, r⟩
  · exact .inl h0
  · exact .inr ⟨g, cap, cur, e1, Nat.le_trans hB hg, r⟩
theorem Segs.news {w : World} {B b o : Nat} {l : List Seg} (h : Segs w B (some ⟨b, o, none⟩) l) : ∀ j u, (segCells l)[j]? = some u → w.cell? ((⟨b, o, none⟩ : Addr).add j) = some u := fun j u hj => by
  have hlt := (List.getElem?_eq_some_iff.1 hj).1
  rw [segCells_len] at hlt
  have hi : j / 3 < l.length := by omega
  obtain ⟨b', o', e, _, hc⟩ := h (by omega)
  injection e with e
  injection e with e1 e2
  subst e1 e2
  obtain ⟨c0, c1, c2⟩ := hc (j / 3) _ (List.getElem?_eq_getElem hi)
  obtain ⟨s0, s1, s2⟩ := segCells_at (List.getElem?_eq_getElem hi)
  rw [Addr.add_lit]
  have hr : j = j / 3 * 3 ∨ j = j / 3 * 3 + 1 ∨ j = j / 3 * 3 + 2 := by omega
  rcases hr with hr | hr | hr
  · rw [hr] at hj ⊢
    rw [s0] at hj
    rw [← hj]
    exact c0
  · rw [hr] at hj ⊢
    rw [s1] at hj
    rw [← hj]
    exact c1
  · rw [hr] at hj ⊢
    rw [s2] at hj
    rw [← hj]
    exact c2
theorem segCells_one' (l : List Seg) : ∀ u ∈ segCells l, u.oneCell' = true := by
  intro u hu
  obtain ⟨s, _, hs⟩ := List.mem_flatMap.1 hu
  simp at hs
  rcases hs with rfl | rfl | rfl <;> rfl

end Go.Proofs.YtcpiojliakgdlaaGreatDoor
/- Chapter 9: the reference's builder of a tree. -/
namespace Go.Proofs.YtcpiojliakgdlaaGreatDoor
open Go.RowKit

/-- Other blocks than the one of a slice are as they were. -/
structure Fr9 (w w' : World) (v : Value) : Prop where
  size : w.heap.size ≤ w'.heap.size
  block : ∀ k, k < w.heap.size → v.ownBlock ≠ some k → w'.heap[k]? = w.heap[k]?
/-- A slice of the call's own stands where it stood, or in new memory. -/
def Mv9 (w : World) (v v' : Value) : Prop := v'.ownBlock = v.ownBlock ∨ ∃ g, v'.ownBlock = some g ∧ w.heap.size ≤ g
/-- A slice of the call's own is no other one. -/
def Aw9 (v : Value) (A : Option Addr) : Prop := ∀ a, A = some a → v.ownBlock ≠ some a.block
theorem Fr9.trans {w w1 w2 : World} {v v1 : Value} (h : Fr9 w w1 v) (hm : Mv9 w v v1) (h2 : Fr9 w1 w2 v1) : Fr9 w w2 v :=
  ⟨Nat.le_trans h.size h2.size, fun k hk hne => (h2.block k (Nat.lt_of_lt_of_le hk h.size) (by
    rcases hm with e | ⟨g, e, hg⟩
    · rw [e]; exact hne
    · rw [e]; intro e'; injection e' with e'; omega)).trans (h.block k hk hne)⟩
theorem Mv9.trans {w w1 : World} {v v1 v2 : Value} (h : Mv9 w v v1) (hs : w.heap.size ≤ w1.heap.size) (h2 : Mv9 w1 v1 v2) : Mv9 w v v2 := by
  rcases h2 with e | ⟨g, e, hg⟩
  · rcases h with e1 | ⟨g, e1, hg⟩
    · exact .inl (e.trans e1)
    · exact .inr ⟨g, e.trans e1, hg⟩
  · exact .inr ⟨g, e, Nat.le_trans hs hg⟩
theorem Fr9.cell {w w' : World} {v : Value} (h : Fr9 w w' v) {b i : Nat} (hb : b < w.heap.size) (hne : v.ownBlock ≠ some b) : w'.cell? ⟨b, i, none⟩ = w.cell? ⟨b, i, none⟩ := by
  simp only [World.cell?, h.block b hb hne]
theorem Aw9.moved {w : World} {v v' : Value} {A : Option Addr} {b o : Nat} (h : Aw9 v A) (hm : Mv9 w v v') (hA : A = some ⟨b, o, none⟩) (hb : b < w.heap.size) : Aw9 v' A := fun a ha => by
  have e : a = ⟨b, o, none⟩ := by rw [hA] at ha; injection ha with ha; exact ha.symm
  rcases hm with e1 | ⟨g, e1, hg⟩
  · rw [e1]; exact h a ha
  · rw [e1, e]
    intro e2
    injection e2 with e2
    have : g = b := e2
    omega

end Go.Proofs.YtcpiojliakgdlaaGreatDoor
/- Chapter 9: the program's segments: the tree of a row of nodes. -/
namespace Go.Proofs.YtcpiojliakgdlaaGreatDoor
open Go.RowKit

def at9 (W : List Nat) (x : Int) : Int := if x < 0 then -1 else if x.toNat ∈ W then (W.idxOf x.toNat : Nat) else -1
set_option maxRecDepth 100000 in
set_option maxHeartbeats 1000000 in
theorem index9_some (g cap base : Nat) (js : List Nat) (nb : Nat → Nat) (i : Nat) (w : World) (hown : w.ownsRow base 43 1 (.slice (some ⟨g, 0, none⟩) js.length cap) js.length (ptrsOf nb js)) (hjl : js.length ≤ 1000) (hnd : js.Nodup)
    (hnode : ∀ j, j = i ∨ j ∈ js → ∃ c, Row w (nb j) 50 c) (hinj : ∀ j ∈ js, nb i = nb j → i = j) :
    Calls Tryz.prog 52 #[.slice (some ⟨g, 0, none⟩) js.length cap, .pointer (some ⟨nb i, 0, none⟩)] w fun e w' => e = .returned (.int .i64 (at9 js (i : Nat))) ∧ w' = w := by
  have HO := Lib.hid hown
  have HN := Lib.hid hnode
  have HI := Lib.hid hinj
  have HND := Lib.hid hnd
  have HAT : Hid (at9 js (i : Nat) = if i ∈ js then ((js.idxOf i : Nat) : Int) else -1) := by
    show at9 js (i : Nat) = _
    unfold at9
    rw [if_neg (by omega), Int.toNat_natCast]
  obtain ⟨i0, hi0, hsz0⟩ := Option.map_eq_some_iff.1 (show (Tryz.prog.info? 50).map (fun i => i.size) = some 4 by kernel_rfl)
  have I0 := Lib.hid hi0
  have I1 := Lib.hid hsz0
  clear hown hnode hinj hi0 hsz0 hnd
  go_enter Tryz.func52, Tryz.ntmps52
  go_wp2
  go_loop [8] (fun c => ∃ k : Nat, k ≤ js.length ∧ c = .int .i64 k ∧ Hid (∀ m, m < k → js[m]? ≠ some i)) (fun c => js.length - (intOf c).toNat)
  case atStart => exact ⟨0, Nat.zero_le _, rfl, fun m hm => absurd hm (by omega)⟩
  case round =>
    obtain ⟨k, hk, rfl, HM⟩ := hrel
    by_cases hlt : k < js.length
    · have hc : w.cell? ⟨g, k, none⟩ = some (.pointer (some ⟨nb js[k], 0, none⟩)) := by
        rw [HO.out.cellAt k (by omega)]
        simp [ptrsOf, ptrTo, hlt]
      have HK : Hid (js[k]? = some js[k]) := List.getElem?_eq_getElem hlt
      have HMem : Hid (js[k] ∈ js) := List.getElem_mem hlt
      generalize js[k] = j at *
      by_cases hij : i = j
      · subst hij
        have hq := fun W : World => run_eql_ptr_same (P := Tryz.prog) W ⟨nb i, 0, none⟩ Tryz.underlying43 I0.out
        go_wp2
        go_ret
        exact ⟨ret_int (by rw [HAT.out, if_pos HMem.out, idxOf9_get HND.out HK.out]), rfl⟩
      · obtain ⟨c1, r1⟩ := HN.out i (.inl rfl)
        obtain ⟨c2, r2⟩ := HN.out j (.inr HMem.out)
        have hne : nb i ≠ nb j := fun e => hij (HI.out j HMem.out e)
        have hq := run_eql_ptr_other (P := Tryz.prog) w (a := ⟨nb i, 0, none⟩) (b := ⟨nb j, 0, none⟩) Tryz.underlying43 I0.out (by rw [I1.out]; decide) (fun e => hne (by injection e)) r1 r2
        have HM1 : Hid (∀ m, m < k + 1 → js[m]? ≠ some i) := fun m hm => by
          rcases Nat.lt_or_ge m k with h1 | h1
          · exact HM.out m h1
          · obtain rfl : m = k := by omega
            rw [HK.out]
            intro e
            injection e with e
            exact hij e.symm
        clear r1 r2 hij hne
        go_wp2
        go_round
        case rel => exact ⟨k + 1, by omega, by go_num, HM1⟩
        case measure => simp [intOf]; omega
    · obtain rfl : k = js.length := by omega
      go_wp2
      go_ret
      have hno : i ∉ js := fun h => by
        obtain ⟨m, hm, he⟩ := List.getElem_of_mem h
        exact HM.out m hm (by rw [List.getElem?_eq_getElem hm, he])
      exact ⟨ret_int (by rw [HAT.out, if_neg hno]), rfl⟩

theorem run_eql_none9 (a : Addr) (W : World) : (binOp .eql 43 (.pointer none) (.pointer (some a))).run Tryz.prog W = .ok (.bool false) W := by kernel_rfl

set_option maxRecDepth 100000 in
set_option maxHeartbeats 1000000 in
theorem index9_none (g cap base : Nat) (js : List Nat) (nb : Nat → Nat) (w : World) (hown : w.ownsRow base 43 1 (.slice (some ⟨g, 0, none⟩) js.length cap) js.length (ptrsOf nb js)) (hjl : js.length ≤ 1000) :
    Calls Tryz.prog 52 #[.slice (some ⟨g, 0, none⟩) js.length cap, .pointer none] w fun e w' => e = .returned (.int .i64 (-1)) ∧ w' = w := by
  have HO := Lib.hid hown
  clear hown
  go_enter Tryz.func52, Tryz.ntmps52
  go_wp2
  go_loop [8] (fun c => ∃ k : Nat, k ≤ js.length ∧ c = .int .i64 k) (fun c => js.length - (intOf c).toNat)
  case atStart => exact ⟨0, Nat.zero_le _, rfl⟩
  case round =>
    obtain ⟨k, hk, rfl⟩ := hrel
    by_cases hlt : k < js.length
    · have hc : w.cell? ⟨g, k, none⟩ = some (.pointer (some ⟨nb js[k], 0, none⟩)) := by
        rw [HO.out.cellAt k (by omega)]
        simp [ptrsOf, ptrTo, hlt]
      generalize js[k] = j at *
      have hq := run_eql_none9 ⟨nb j, 0, none⟩
      go_wp2
      go_round
      case rel => exact ⟨k + 1, by omega, by go_num⟩
      case measure => simp [intOf]; omega
    · obtain rfl : k = js.length := by omega
      go_wp2
      go_ret
      exact ⟨rfl, rfl⟩

theorem index9_any (g cap base n : Nat) (js : List Nat) (nb : Nat → Nat) (x : Int) (w : World) (hown : w.ownsRow base 43 1 (.slice (some ⟨g, 0, none⟩) js.length cap) js.length (ptrsOf nb js)) (hjl : js.length ≤ 1000) (hnd : js.Nodup)
    (hnode : ∀ j, j < n → ∃ c, Row w (nb j) 50 c) (hap : ∀ i j, i < n → j < n → i ≠ j → nb i ≠ nb j) (hjs : ∀ j ∈ js, j < n) (hx : x < n) :
    Calls Tryz.prog 52 #[.slice (some ⟨g, 0, none⟩) js.length cap, .pointer (ptr9 nb x)] w fun e w' => e = .returned (.int .i64 (at9 js x)) ∧ w' = w := by
  by_cases h0 : x < 0
  · rw [ptr9_neg h0, show at9 js x = -1 from if_pos h0]
    exact index9_none g cap base js nb w hown hjl
  · obtain ⟨i, rfl⟩ := Int.eq_ofNat_of_zero_le (show 0 ≤ x by omega)
    rw [ptr9_nat]
    refine index9_some g cap base js nb i w hown hjl hnd (fun j hj => ?_) (fun j hj he => ?_)
    · rcases hj with rfl | hj
      · exact hnode _ (by omega)
      · exact hnode j (hjs j hj)
    · exact Classical.byContradiction fun hne => hap i j (by omega) (hjs j hj) hne he

/-- What the closure of segments reads. -/
structure Seg9 (w : World) (B0 n : Nat) (nm : Nat → ByteArray) (sz pp : Nat → Int) (nb : Nat → Nat) (L : List Nat) (bx gn capn : Nat) : Prop where
  node : ∀ i, i < n → ∃ c, Row w (nb i) 50 (nodeCells (nm i) (sz i) (ptr9 nb (pp i)) c)
  apart : ∀ i j, i < n → j < n → i ≠ j → nb i ≠ nb j
  row : w.ownsRow B0 43 1 (.slice (some ⟨gn, 0, none⟩) L.length capn) L.length (ptrsOf nb L)
  box : Row w bx 41 #[.slice (some ⟨gn, 0, none⟩) L.length capn]
  nodup : L.Nodup
  lt : ∀ j ∈ L, j < n
  small : ∀ i, i < n → pp i < (n : Int)
  few : n ≤ 100
theorem Seg9.below {w w' : World} {B0 n : Nat} {nm : Nat → ByteArray} {sz pp : Nat → Int} {nb : Nat → Nat} {L : List Nat} {bx gn capn : Nat} (h : Seg9 w B0 n nm sz pp nb L bx gn capn) (hb : Below w.heap.size w w') : Seg9 w' B0 n nm sz pp nb L bx gn capn :=
  ⟨fun i hi => by
    obtain ⟨c, hc⟩ := h.node i hi
    exact ⟨c, hc.below hb hc.lt⟩, h.apart, own_keep h.row fun k hk => hb.block k (h.row.lt k hk).2, h.box.below hb h.box.lt, h.nodup, h.lt, h.small, h.few⟩

set_option maxRecDepth 100000 in
set_option maxHeartbeats 2000000 in
theorem seg1_any (B0 n : Nat) (nm : Nat → ByteArray) (sz pp : Nat → Int) (nb : Nat → Nat) (L : List Nat) (bx gn capn j : Nat) (w : World) (h : Seg9 w B0 n nm sz pp nb L bx gn capn) (hj : j < n) :
    Calls Tryz.prog 51 #[.pointer (some ⟨nb j, 0, none⟩), .pointer (some ⟨bx, 0, none⟩)] w fun e w' => e = .returned (.agg #[.string (nm j), .int .i64 (sz j), .int .i64 (at9 L (pp j))]) ∧ Below w.heap.size w w' := by
  have HS := Lib.hid h
  obtain ⟨c, hc⟩ := h.node j hj
  have hnl := hc.lt
  have hbl := h.box.lt
  have hB0 : Below w.heap.size w (w.alloc (.cells #[.string ⟨#[]⟩, .int .i64 0, .int .i64 0] 58)) := (Below.refl _ w).alloc (Nat.le_refl _) _
  have hr1 := hc.alloc (.cells #[.string ⟨#[]⟩, .int .i64 0, .int .i64 0] 58)
  have hr2 := h.box.alloc (.cells #[.string ⟨#[]⟩, .int .i64 0, .int .i64 0] 58)
  have c0 := hr1.cell 0
  have c1 := hr1.cell 1
  have c2 := hr1.cell 2
  have d0 := hr2.cell 0
  have hr : Row (w.alloc (.cells #[.string ⟨#[]⟩, .int .i64 0, .int .i64 0] 58)) w.heap.size 58 #[.string ⟨#[]⟩, .int .i64 0, .int .i64 0] := Row.new w _ _
  have HR := Lib.hid hr
  have HB := Lib.hid hB0
  have hS1 := h.below hB0
  have HC := Lib.hid (index9_any gn capn B0 n L nb (pp j) (w.alloc (.cells #[.string ⟨#[]⟩, .int .i64 0, .int .i64 0] 58)).drew (own_keep hS1.row fun _ _ => rfl) (by have := nodup9_len h.nodup h.lt; have := h.few; omega) h.nodup (fun i hi => by obtain ⟨c, hc⟩ := hS1.node i hi; exact ⟨_, hc⟩) h.apart h.lt (h.small j hj))
  clear h hc hr1 hr2 hr hB0 hS1
  generalize at9 L (pp j) = q at *
  generalize nm j = nx at *
  generalize sz j = zx at *
  generalize ptr9 nb (pp j) = px at *
  simp [nodeCells] at c0 c1 c2 d0
  go_enter Tryz.func51, Tryz.ntmps51
  go_wp2_with fail
  have f0 := HR.out.free 0
  have f1 := HR.out.free 1
  have f2 := HR.out.free 2
  have r0 : (w.alloc (.cells #[.string ⟨#[]⟩, .int .i64 0, .int .i64 0] 58)).cell? ⟨w.heap.size, 0, none⟩ = some (.string ⟨#[]⟩) := HR.out.cell 0
  have r1 : (w.alloc (.cells #[.string ⟨#[]⟩, .int .i64 0, .int .i64 0] 58)).cell? ⟨w.heap.size, 1, none⟩ = some (.int .i64 0) := HR.out.cell 1
  have r2 : (w.alloc (.cells #[.string ⟨#[]⟩, .int .i64 0, .int .i64 0] 58)).cell? ⟨w.heap.size, 2, none⟩ = some (.int .i64 0) := HR.out.cell 2
  have hwl : w.heap.size < (w.alloc (.cells #[.string ⟨#[]⟩, .int .i64 0, .int .i64 0] 58)).heap.size := HR.out.lt
  generalize (w.alloc (.cells #[.string ⟨#[]⟩, .int .i64 0, .int .i64 0] 58)) = W1 at *
  refine wp_region_held_drew (S := (fun W => W.cell? ⟨nb j, 0, none⟩ = some (.string nx) ∧ W.cell? ⟨nb j, 1, none⟩ = some (.int .i64 zx) ∧ W.cell? ⟨nb j, 2, none⟩ = some (.pointer px) ∧ W.cell? ⟨bx, 0, none⟩ = some (.slice (some ⟨gn, 0, none⟩) L.length capn) ∧ Below w.heap.size w W)) (by kernel_rfl) ?_ (fun hHeld => ?_)
  · exact ⟨c0, c1, c2, d0, HB.out.drew⟩
  refine take_at (i := 0) (d := 4) (v := .pointer (some ⟨nb j, 0, none⟩)) rfl rfl (by kernel_rfl) (by kernel_rfl) (by kernel_rfl) (fun _ _ _ h => h) (by kernel_rfl) (by (intro w hSw; (try dsimp only at hSw); go_simp)) (by assumption) ?_
  simp only [List.setIfInBounds_toArray, List.set_cons_succ, List.set_cons_zero]
  refine take_at (i := 1) (d := 5) (v := .pointer (some ⟨nb j, 0, none⟩)) rfl rfl (by kernel_rfl) (by kernel_rfl) (by kernel_rfl) (fun _ _ _ h => h) (by kernel_rfl) (by (intro w hSw; (try dsimp only at hSw); go_simp)) (by assumption) ?_
  simp only [List.setIfInBounds_toArray, List.set_cons_succ, List.set_cons_zero]
  refine take_at (i := 2) (d := 6) (v := .pointer (some ⟨nb j, 0, none⟩)) rfl rfl (by kernel_rfl) (by kernel_rfl) (by kernel_rfl) (fun _ _ _ h => h) (by kernel_rfl) (by (intro w hSw; (try dsimp only at hSw); go_simp)) (by assumption) ?_
  simp only [List.setIfInBounds_toArray, List.set_cons_succ, List.set_cons_zero]
  refine take_at (i := 3) (d := 7) (v := .string nx) rfl rfl (by kernel_rfl) (by kernel_rfl) (by kernel_rfl) (fun _ _ _ h => h) (by kernel_rfl) (by (intro w hSw; (try dsimp only at hSw); go_simp)) (by assumption) ?_
  simp only [List.setIfInBounds_toArray, List.set_cons_succ, List.set_cons_zero]
  refine take_at (i := 4) (d := 8) (v := .pointer (some ⟨nb j, 0, none⟩)) rfl rfl (by kernel_rfl) (by kernel_rfl) (by kernel_rfl) (fun _ _ _ h => h) (by kernel_rfl) (by (intro w hSw; (try dsimp only at hSw); go_simp)) (by assumption) ?_
  simp only [List.setIfInBounds_toArray, List.set_cons_succ, List.set_cons_zero]
  refine take_at (i := 5) (d := 9) (v := .pointer (some ⟨nb j, 0, none⟩)) rfl rfl (by kernel_rfl) (by kernel_rfl) (by kernel_rfl) (fun _ _ _ h => h) (by kernel_rfl) (by (intro w hSw; (try dsimp only at hSw); go_simp)) (by assumption) ?_
  simp only [List.setIfInBounds_toArray, List.set_cons_succ, List.set_cons_zero]
  refine take_at (i := 6) (d := 10) (v := .pointer (some ⟨nb j, 1, none⟩)) rfl rfl (by kernel_rfl) (by kernel_rfl) (by kernel_rfl) (fun _ _ _ h => h) (by kernel_rfl) (by (intro w hSw; (try dsimp only at hSw); go_simp)) (by assumption) ?_
  simp only [List.setIfInBounds_toArray, List.set_cons_succ, List.set_cons_zero]
  refine take_at (i := 7) (d := 11) (v := .int .i64 zx) rfl rfl (by kernel_rfl) (by kernel_rfl) (by kernel_rfl) (fun _ _ _ h => h) (by kernel_rfl) (by (intro w hSw; (try dsimp only at hSw); go_simp)) (by assumption) ?_
  simp only [List.setIfInBounds_toArray, List.set_cons_succ, List.set_cons_zero]
  refine take_at (i := 8) (d := 12) (v := .slice (some ⟨gn, 0, none⟩) L.length capn) rfl rfl (by kernel_rfl) (by kernel_rfl) (by kernel_rfl) (fun _ _ _ h => h) (by kernel_rfl) (by (intro w hSw; (try dsimp only at hSw); go_simp)) (by assumption) ?_
  simp only [List.setIfInBounds_toArray, List.set_cons_succ, List.set_cons_zero]
  refine take_at (i := 9) (d := 13) (v := .pointer (some ⟨nb j, 0, none⟩)) rfl rfl (by kernel_rfl) (by kernel_rfl) (by kernel_rfl) (fun _ _ _ h => h) (by kernel_rfl) (by (intro w hSw; (try dsimp only at hSw); go_simp)) (by assumption) ?_
  simp only [List.setIfInBounds_toArray, List.set_cons_succ, List.set_cons_zero]
  refine take_at (i := 10) (d := 14) (v := .pointer (some ⟨nb j, 0, none⟩)) rfl rfl (by kernel_rfl) (by kernel_rfl) (by kernel_rfl) (fun _ _ _ h => h) (by kernel_rfl) (by (intro w hSw; (try dsimp only at hSw); go_simp)) (by assumption) ?_
  simp only [List.setIfInBounds_toArray, List.set_cons_succ, List.set_cons_zero]
  refine take_at (i := 11) (d := 15) (v := .pointer (some ⟨nb j, 2, none⟩)) rfl rfl (by kernel_rfl) (by kernel_rfl) (by kernel_rfl) (fun _ _ _ h => h) (by kernel_rfl) (by (intro w hSw; (try dsimp only at hSw); go_simp)) (by assumption) ?_
  simp only [List.setIfInBounds_toArray, List.set_cons_succ, List.set_cons_zero]
  refine take_at (i := 12) (d := 16) (v := .pointer px) rfl rfl (by kernel_rfl) (by kernel_rfl) (by kernel_rfl) (fun _ _ _ h => h) (by kernel_rfl) (by (intro w hSw; (try dsimp only at hSw); go_simp)) (by assumption) ?_
  simp only [List.setIfInBounds_toArray, List.set_cons_succ, List.set_cons_zero]
  refine wpAnyH_ready (rs := [13]) (by kernel_rfl) (by simp) ?_
  refine AllReadyH.cons rfl (fun K hK => ?_) AllReadyH.nil
  go_simp
  refine Calls.mono HC.out ?_
  rintro e w2 ⟨rfl, rfl⟩
  refine hK.out _ _ hHeld (fun hHeld => ?_)
  clear hK K
  refine take_at (i := 14) (d := 18) (v := .agg #[.string nx, .int .i64 zx, .int .i64 q]) rfl rfl (by kernel_rfl) (by kernel_rfl) (by kernel_rfl) (fun _ _ _ h => h) (by kernel_rfl) (by (intro w hSw; (try dsimp only at hSw); go_simp)) (by assumption) ?_
  simp only [List.setIfInBounds_toArray, List.set_cons_succ, List.set_cons_zero]
  refine wpAnyH_ready (rs := [15]) (by kernel_rfl) (by simp) ?_
  refine AllReadyH.cons rfl (fun K hK => ?_) AllReadyH.nil
  go_simp
  have hR3 : Row (((W1.setCell ⟨w.heap.size, 0, none⟩ (.string nx)).setCell ⟨w.heap.size, 1, none⟩ (.int .i64 zx)).setCell ⟨w.heap.size, 2, none⟩ (.int .i64 q)).drew w.heap.size 58 #[.string nx, .int .i64 zx, .int .i64 q] := ((HR.out.put 0 (.string nx)).put 1 (.int .i64 zx)).put 2 (.int .i64 q)
  have hB3 : Below w.heap.size w (((W1.setCell ⟨w.heap.size, 0, none⟩ (.string nx)).setCell ⟨w.heap.size, 1, none⟩ (.int .i64 zx)).setCell ⟨w.heap.size, 2, none⟩ (.int .i64 q)).drew := (((HB.out.setCell (Nat.le_refl _) _).setCell (Nat.le_refl _) _).setCell (Nat.le_refl _) _).drew
  have HR3 := Lib.hid hR3
  have HB3 := Lib.hid hB3
  have hs : ∀ b i, b < w.heap.size → (((W1.setCell ⟨w.heap.size, 0, none⟩ (.string nx)).setCell ⟨w.heap.size, 1, none⟩ (.int .i64 zx)).setCell ⟨w.heap.size, 2, none⟩ (.int .i64 q)).drew.cell? ⟨b, i, none⟩ = W1.cell? ⟨b, i, none⟩ := fun b i hb => (hB3.cell (p := ⟨b, i, none⟩) hb).trans (HB.out.cell (p := ⟨b, i, none⟩) hb).symm
  clear hR3 hB3
  refine hK.out _ _ ⟨(hs _ _ hnl).trans c0, (hs _ _ hnl).trans c1, (hs _ _ hnl).trans c2, (hs _ _ hbl).trans d0, HB3.out⟩ (fun hHeld2 => ?_)
  clear hK K hs hHeld hHeld2
  generalize (((W1.setCell ⟨w.heap.size, 0, none⟩ (.string nx)).setCell ⟨w.heap.size, 1, none⟩ (.int .i64 zx)).setCell ⟨w.heap.size, 2, none⟩ (.int .i64 q)).drew = W3 at *
  clear c0 c1 c2 d0 f0 f1 f2 r0 r1 r2 hwl HR HB HC
  have r0 := HR3.out.cell 0
  have r1 := HR3.out.cell 1
  have r2 := HR3.out.cell 2
  refine wpAnyH_done (by kernel_rfl) ?_ _
  go_wp2
  exact bodyPost_ret (v := .agg #[.string nx, .int .i64 zx, .int .i64 q]) (by simp [results, Tryz.results51, go_sem, r0, r1, r2]) rfl ⟨rfl, HB3.out⟩

/-- What copyNodes makes of a row of nodes. -/
theorem cuts9_take (nm : Nat → ByteArray) (sz pp : Nat → Int) {W : List Nat} {k : Nat} (h : k < W.length) : (cuts9 nm sz pp W).take (k + 1) = (cuts9 nm sz pp W).take k ++ [⟨nm W[k], sz W[k], at9 W (pp W[k])⟩] := by
  have h1 : k < (cuts9 nm sz pp W).length := by rw [cuts9_len]; exact h
  rw [List.take_succ_eq_append_getElem h1]
  congr 2
  have e : (cuts9 nm sz pp W)[k]? = some (⟨nm W[k], sz W[k], at9 W (pp W[k])⟩ : Seg) := by
    unfold cuts9
    rw [List.getElem?_map, List.getElem?_eq_getElem h]
    rfl
  rw [List.getElem?_eq_getElem h1] at e
  injection e

set_option maxRecDepth 100000 in
set_option maxHeartbeats 4000000 in
theorem copySegs_any (B0 n : Nat) (nm : Nat → ByteArray) (sz pp : Nat → Int) (nb : Nat → Nat) (L : List Nat) (bx gn capn : Nat) (w : World) (h : Seg9 w B0 n nm sz pp nb L bx gn capn) :
    Calls Tryz.prog 50 #[.slice (some ⟨gn, 0, none⟩) L.length capn, .func (.func 51) #[] #[.pointer (some ⟨bx, 0, none⟩)]] w fun e w' => ∃ v, e = .returned v ∧ OwnTree w' w.heap.size v (cuts9 nm sz pp L) ∧ Below w.heap.size w w' := by
  have HS := Lib.hid h
  have hL : L.length ≤ 100 := by have := nodup9_len h.nodup h.lt; have := h.few; omega
  have HT := Lib.hid (fun k (hk : k < L.length) => cuts9_take nm sz pp hk)
  have HZ : Hid ((cuts9 nm sz pp L).length = L.length) := cuts9_len _ _ _ _
  have HALL : Hid ((cuts9 nm sz pp L).take L.length = cuts9 nm sz pp L) := List.take_of_length_le (by rw [cuts9_len]; exact Nat.le_refl _)
  have HLT := Lib.hid h.lt
  have HROW := Lib.hid h.row
  clear h
  generalize hR : cuts9 nm sz pp L = R at *
  go_enter Tryz.func50, Tryz.ntmps50
  go_wp2
  go_loopw [5, 10] (fun ov iv wr => ∃ (k m : Nat) (A : Option Addr) (C : Nat), iv = .int .i64 k ∧ k ≤ L.length ∧ ov = .slice A m C ∧ Hid (m = (R.take k).length) ∧ Hid (OwnTree wr w.heap.size (.slice A m C) (R.take k)) ∧ Hid (Below w.heap.size w wr))
    (fun _ iv _ => L.length - (intOf iv).toNat)
  case atStart => exact ⟨0, 0, none, 0, rfl, Nat.zero_le _, rfl, rfl, ⟨rfl, .inl ⟨rfl, rfl⟩⟩, Below.refl _ _⟩
  case round =>
    obtain ⟨k, m, A, C, rfl, hk, rfl, HM, HO, HB⟩ := hrel
    have hk0 : (0 : Int) ≤ (k : Int) := Int.natCast_nonneg _
    by_cases hlt : k < L.length
    · have hlt' : (k : Int) < (L.length : Int) := by omega
      have hcell : wr.cell? ⟨gn, k, none⟩ = some (.pointer (some ⟨nb L[k], 0, none⟩)) := by
        have h1 : w.cell? ⟨gn, k, none⟩ = (ptrsOf nb L)[k]? := HROW.out.cellAt k (by omega)
        rw [HB.out.cell (p := ⟨gn, k, none⟩) (HROW.out.lt gn rfl).2, h1]
        simp [ptrsOf, ptrTo, hlt]
      have HC := Lib.hid (seg1_any B0 n nm sz pp nb L bx gn capn L[k] wr (HS.out.below HB.out) (HLT.out _ (List.getElem_mem hlt)))
      have HST := Lib.hid (HT.out k hlt)
      have hmk : m ≤ 100 := by
        have h1 := HM.out
        have h2 := List.length_take_le' k R
        have h3 := HZ.out
        omega
      have HM1 : Hid ((R.take (k + 1)).length = m + 1) := by show _ = _; rw [HST.out, List.length_append, ← HM.out]; rfl
      generalize at9 L (pp L[k]) = q at *
      generalize nm L[k] = nx at *
      generalize sz L[k] = zx at *
      generalize nb L[k] = bn at *
      go_wp2_with fail
      refine Calls.mono HC.out ?_
      rintro e w3 ⟨rfl, hb3⟩
      have HO3 : Hid (OwnTree w3 w.heap.size (.slice A m C) (R.take k)) := treeBelow HO.out hb3
      have HB3 : Hid (Below w.heap.size w w3) := HB.out.trans (hb3.mono HB.out.size)
      clear hb3 HC HO HB hcell
      go_wp2_with (at_builtin; go_loud (refine wp_append_seg rfl (.tmp 14) (.tmp 18) rfl w.heap.size (.slice A m C) (R.take k) nx zx q _ rfl HO3.out (by rw [← HM.out]; omega) HB3.out.size w3.heap.size rfl rfl ?_); intro v4 w4 ho4 hb4 _; have HT4 := Lib.hid ho4; have HB4 := Lib.hid (HB3.out.trans hb4); clear ho4 hb4)
      rw [← HST.out] at HT4
      obtain ⟨A4, C4, rfl, -⟩ := HT4.out.form
      have HT5 : Hid (OwnTree w4 w.heap.size (.slice A4 (m + 1) C4) (R.take (k + 1))) := by
        have h5 := HT4.out
        rw [HM1.out] at h5
        exact h5
      rw [HM1.out]
      clear HT4
      go_wp2
      go_roundw
      case rel => exact ⟨k + 1, m + 1, A4, C4, by go_num, by omega, rfl, HM1.out.symm, HT5, HB4⟩
      case measure => simp [intOf]; omega
    · obtain rfl : k = L.length := by omega
      rw [HALL.out] at HO
      go_wp2
      go_ret
      exact ⟨_, rfl, HO.out, HB.out⟩

/-- What segments is asked of. -/
structure Ask9 (w : World) (B n : Nat) (nm : Nat → ByteArray) (sz pp : Nat → Int) (kd : Nat → List Nat) (nb : Nat → Nat) (cv : Nat → Value) (ps : Nat → Int) (r : Nat) : Prop where
  mem : Mem9 w B n nm sz pp kd nb cv
  fall : Fall9 ps n
  few : n ≤ 100
  lt : r < n
  kids : ∀ j, j ∈ sub9 ps n r → kd j = kids9 ps n j
  small : ∀ i, i < n → pp i < (n : Int)

set_option maxRecDepth 100000 in
set_option maxHeartbeats 4000000 in
theorem segments_any (B n : Nat) (nm : Nat → ByteArray) (sz pp : Nat → Int) (kd : Nat → List Nat) (nb : Nat → Nat) (cv : Nat → Value) (ps : Nat → Int) (r : Nat) (w : World) (h : Ask9 w B n nm sz pp kd nb cv ps r) :
    Calls Tryz.prog 27 #[.pointer (some ⟨nb r, 0, none⟩)] w fun e w' => ∃ v, e = .returned v ∧ OwnTree w' w.heap.size v (cuts9 nm sz pp (sub9 ps n r)) ∧ Below w.heap.size w w' := by
  have HA := Lib.hid h
  have HC : Hid (Calls Tryz.prog 48 #[.pointer (some ⟨nb r, 0, none⟩)] w (SubPost9 w nb (sub9 ps n r))) := subtree_any B n nm sz pp kd nb cv ps h.fall h.few n r w (by omega) h.lt h.mem h.kids
  unfold SubPost9 at HC
  have HND := Lib.hid (sub9_nodup h.fall n r (by omega) h.lt)
  have HLT : Hid (∀ j ∈ sub9 ps n r, j < n) := fun j hj => ((in_sub9 h.fall h.lt).1 hj).1
  clear h
  generalize sub9 ps n r = L at *
  go_enter Tryz.func27, Tryz.ntmps27
  go_wp2_with fail
  refine Calls.mono HC.out ?_
  rintro e w1 ⟨g1, cap1, rfl, ho1, hb1⟩
  have HO1 := Lib.hid ho1
  have HB1 := Lib.hid hb1
  clear ho1 hb1 HC
  have hb2 : Below w.heap.size w (w1.alloc (.cells #[.slice (some ⟨g1, 0, none⟩) L.length cap1] 41)) := HB1.out.alloc HB1.out.size _
  have hseg : Seg9 (w1.alloc (.cells #[.slice (some ⟨g1, 0, none⟩) L.length cap1] 41)) w.heap.size n nm sz pp nb L w1.heap.size g1 cap1 :=
    ⟨fun i hi => ⟨cv i, (HA.out.mem.node i hi).below hb2 (HA.out.mem.node i hi).lt⟩, HA.out.mem.apart, HO1.out.alloc _, Row.new w1 _ _, HND.out, HLT.out, HA.out.small, HA.out.few⟩
  have HC2 := Lib.hid (copySegs_any w.heap.size n nm sz pp nb L w1.heap.size g1 cap1 _ hseg)
  have HB2 := Lib.hid hb2
  clear hb2 hseg
  go_wp2_with fail
  refine Calls.mono HC2.out ?_
  rintro e w3 ⟨v, rfl, ho3, hb3⟩
  have HO3 : Hid (OwnTree w3 w.heap.size v (cuts9 nm sz pp L)) := treeLow ho3 HB2.out.size
  have HB3 : Hid (Below w.heap.size w w3) := HB2.out.trans (hb3.mono HB2.out.size)
  clear ho3 hb3 HC2 HB2
  go_wp2
  go_ret
  exact ⟨v, rfl, HO3.out, HB3.out⟩

end Go.Proofs.YtcpiojliakgdlaaGreatDoor
/- Chapter 9: the program's replace: a child's place is taken by others. -/
namespace Go.Proofs.YtcpiojliakgdlaaGreatDoor
open Go.RowKit

end Go.Proofs.YtcpiojliakgdlaaGreatDoor
/- Chapter 9, plain: what the program makes is what is asked. -/
namespace Go.Proofs.YtcpiojliakgdlaaGreatDoor
open Go.RowKit

theorem neg9 {l : List Seg} {s : ByteArray} (h : indexB l s < 0) : subOk l s = false ∧ subL l s = [] ∧ pruneOk l s = false ∧ pruneL l s = [] ∧ mergeOk l s = false ∧ mergeL l s = [] ∧ moveOk l s = false ∧ moveL l s = [] ∧ (∀ x, resizeOk l s x = false) ∧ ∀ x, resizeL l s x = [] := by
  have h1 : subOk l s = false := decide_eq_false (by omega)
  have h2 : pruneOk l s = false := decide_eq_false (by omega)
  have h3 : mergeOk l s = false := by unfold mergeOk; rw [decide_eq_false (by omega), Bool.false_and]
  have h4 : moveOk l s = false := by unfold moveOk; rw [decide_eq_false (by omega), Bool.false_and]
  have h5 : ∀ x, resizeOk l s x = false := fun x => by unfold resizeOk; rw [decide_eq_false (by omega), Bool.false_and]
  exact ⟨h1, if_neg (by rw [h1]; decide), h2, if_neg (by rw [h2]; decide), h3, if_neg (by rw [h3]; decide), h4, if_neg (by rw [h4]; decide), h5, fun x => if_neg (by rw [h5]; decide)⟩
theorem off9 {l : List Seg} {s : ByteArray} : (pruneOk l s = false → pruneL l s = []) ∧ (mergeOk l s = false → mergeL l s = []) ∧ (moveOk l s = false → moveL l s = []) ∧ ∀ x, resizeOk l s x = false → resizeL l s x = [] :=
  ⟨fun h => if_neg (by rw [h]; decide), fun h => if_neg (by rw [h]; decide), fun h => if_neg (by rw [h]; decide), fun _ h => if_neg (by rw [h]; decide)⟩
theorem bad9 {l : List Seg} {s : ByteArray} (h : validB l = false) : indexB l s < 0 := by
  have : indexB l s = -1 := if_neg (by rw [h]; decide)
  omega

/-- What stands in memory for a tree. -/
structure At9 (w : World) (B g : Nat) (l : List Seg) (nb : Nat → Nat) (cv : Nat → Value) : Prop where
  valid : validB l = true
  mem : Mem9 w B l.length (nmAt9 l) (sizeAt l) (parAt l) (kids9 (parAt l) l.length) nb cv
  top : Top9 w B g l.length nb cv
  few : l.length ≤ 8
  pos : 0 < l.length
theorem Nodes.at9 {w : World} {B g : Nat} {l : List Seg} {nb : Nat → Nat} {cv : Nat → Value} (h : Nodes w B g l.length l.length l nb cv) (hv : validB l = true) : At9 w B g l nb cv :=
  ⟨hv, h.mem9, h.top9 (valid_all hv).2.2, (valid_all hv).2.1, (valid_all hv).2.2⟩
variable {w : World} {B g : Nat} {l : List Seg} {nb : Nat → Nat} {cv : Nat → Value}
theorem At9.fall (h : At9 w B g l nb cv) : Fall9 (parAt l) l.length := (tree9_of h.valid).fall
theorem At9.small (h : At9 w B g l nb cv) : ∀ i, i < l.length → parAt l i < (l.length : Int) := fun i hi => by have := h.fall i hi; omega

end Go.Proofs.YtcpiojliakgdlaaGreatDoor
