/- The argument of a law, opened: a slice of segments reads as a list. -/
import Derived.Test.YtdbddockmdkmeaaDoorSz
import Derived.ProofKit
import Derived.OpenShut
import Derived.ShutString
import Derived.ChangeOld
import Derived.Deep.Slices
import Derived.Deep.Fields
namespace Go.Proofs.YtdbddockmdkmeaaDoor
open Go.ChangeShapes Go.WideShapes Go.ChangeAt Go.RowKit

theorem list_of {Q : Nat → Seg → Prop} : ∀ (n : Nat), (∀ i, i < n → ∃ s, Q i s) → ∃ l : List Seg, l.length = n ∧ ∀ i s, l[i]? = some s → Q i s
  | 0, _ => ⟨[], rfl, fun i s h => by simp at h⟩
  | n + 1, h => by
    obtain ⟨l, hl, hq⟩ := list_of n fun i hi => h i (by omega)
    obtain ⟨s, hs⟩ := h n (by omega)
    refine ⟨l ++ [s], by simp [hl], fun i t ht => ?_⟩
    rcases Nat.lt_or_ge i n with hlt | hge
    · rw [List.getElem?_append_left (by omega)] at ht
      exact hq i t ht
    · rw [List.getElem?_append_right (by omega)] at ht
      have hi : i - l.length < 1 := by
        have := (List.getElem?_eq_some_iff.1 ht).1
        simpa using this
      have h0 : i - l.length = 0 := by omega
      rw [h0] at ht
      simp at ht
      obtain rfl : i = n := by omega
      exact ht ▸ hs

theorem three_of {l : List Value} (h : l.length = 3) : ∃ a b c, l = [a, b, c] := by
  match l, h with
  | [a, b, c], _ => exact ⟨a, b, c, rfl⟩
theorem cells_seg : Tryd.prog.cellsOf 117 = 3 := by kernel_rfl
theorem cells_str : Tryd.prog.cellsOf 9 = 1 := by kernel_rfl
theorem cells_int : Tryd.prog.cellsOf 3 = 1 := by kernel_rfl

theorem open_segs {H : Type} {enc : TypeId × Value → H} {w : World} {base : Nat} {spare : Nat → Bool} {held : Bool} {fuel : Nat} {a0 : Option Addr} {n c : Nat} {x : DataW H × List MemPlace}
    (h : DataW.trod enc Tryd.prog w base spare held fuel 48 [.slice a0 n c] = some x) : ∃ l : List Seg, l.length = n ∧ n ≤ maxLen ∧ Segs w w.heap.size a0 l ∧ Short l := by
  rcases Deep.open_slice Tryd.underlying48 h with ⟨hcs, _⟩ | ⟨a, len, cap, m, n', D, Pl, hcs, hb, hl, hm, hmm, hx, hi⟩
  · simp at hcs
    obtain ⟨rfl, rfl, rfl⟩ := hcs
    exact ⟨[], rfl, Nat.zero_le _, fun h0 => absurd h0 (by simp), fun s hs => by simp at hs⟩
  · simp at hcs
    obtain ⟨rfl, rfl, rfl⟩ := hcs
    have hlm : n ≤ m := by rw [hmm]; split <;> omega
    have hs : ∀ i, i < n → ∃ s : Seg, (w.cell? (a.add (i * 3)) = some (.string s.name) ∧ w.cell? (a.add (i * 3 + 1)) = some (.int .i64 s.size) ∧ w.cell? (a.add (i * 3 + 2)) = some (.int .i64 s.par)) ∧ s.name.size ≤ maxLen := by
      intro i hin
      obtain ⟨cs', hc, ht'⟩ := hi i (by omega)
      rw [cells_seg] at hc
      obtain ⟨ys, n'', hn', hy, hlen, hyl, hf⟩ := DataW.trod_struct Tryd.underlying117 ht'
      obtain ⟨_, hcl, hat⟩ := World.cells?_some hc
      obtain ⟨u0, u1, u2, rfl⟩ := three_of hcl
      have e0 := hat 0 (by omega)
      have e1 := hat 1 (by omega)
      have e2 := hat 2 (by omega)
      have f0 : DataW.trod enc Tryd.prog w base spare held n'' 9 (([u0, u1, u2].drop 0).take (Tryd.prog.cellsOf 9)) = ys[0]? := hf 0 _ rfl
      rw [cells_str] at f0
      have f1 : DataW.trod enc Tryd.prog w base spare held n'' 3 (([u0, u1, u2].drop 1).take (Tryd.prog.cellsOf 3)) = ys[1]? := hf 1 _ rfl
      rw [cells_int] at f1
      have f2 : DataW.trod enc Tryd.prog w base spare held n'' 3 (([u0, u1, u2].drop 2).take (Tryd.prog.cellsOf 3)) = ys[2]? := hf 2 _ rfl
      rw [cells_int] at f2
      obtain ⟨y0, g0⟩ : ∃ y, ys[0]? = some y := ⟨_, List.getElem?_eq_getElem (by rw [hyl]; decide)⟩
      obtain ⟨y1, g1⟩ : ∃ y, ys[1]? = some y := ⟨_, List.getElem?_eq_getElem (by rw [hyl]; decide)⟩
      obtain ⟨y2, g2⟩ : ∃ y, ys[2]? = some y := ⟨_, List.getElem?_eq_getElem (by rw [hyl]; decide)⟩
      rw [g0] at f0
      rw [g1] at f1
      rw [g2] at f2
      obtain ⟨s, hs, _, hss⟩ := DataW.trod_string Tryd.underlying9 f0
      obtain ⟨p, hp, _, _⟩ := DataW.trod_int Tryd.underlying3 f1
      obtain ⟨q, hq, _, _⟩ := DataW.trod_int Tryd.underlying3 f2
      simp at hs hp hq
      subst hs hp hq
      rw [Deep.add_add] at e0 e1 e2
      exact ⟨⟨s, p, q⟩, ⟨e0, e1, e2⟩, hss⟩
    obtain ⟨l, hll, hq⟩ := list_of n hs
    refine ⟨l, hll, by omega, fun h0 => ?_, fun s hs => ?_⟩
    · obtain ⟨b, o, spot⟩ := a
      have hc0 := (hq 0 l[0] (List.getElem?_eq_getElem h0)).1.1
      have hspot : spot = none := by simpa [Addr.add] using World.cell?_spot hc0
      subst hspot
      have hlt := World.block_lt_of_cell? w _ hc0
      rw [WideShapes.add_plain] at hlt
      refine ⟨b, o, rfl, hlt, fun k s hk => ?_⟩
      have := (hq k s hk).1
      rw [WideShapes.add_plain, WideShapes.add_plain, WideShapes.add_plain, ← Nat.add_assoc, ← Nat.add_assoc] at this
      exact this
    · obtain ⟨j, hj, rfl⟩ := List.getElem_of_mem hs
      exact (hq j _ (List.getElem?_eq_getElem hj)).2

theorem own : ownKnob Tryd.prog.godebug = none := by kernel_rfl
theorem laidOut : laidOutB Tryd.prog = true := by kernel_rfl

end Go.Proofs.YtdbddockmdkmeaaDoor
