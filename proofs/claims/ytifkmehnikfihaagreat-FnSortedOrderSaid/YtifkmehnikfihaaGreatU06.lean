/- Joined: Rs. -/
import Derived.Test.YtifkmehnikfihaaGreatU05
import Derived.Maps.AppendAt
import Derived.Deep.AppendLies
import Derived.Defers
import Derived.Recover
/- The program's reader: readSegment. -/
namespace Go.Proofs.YtifkmehnikfihaaGreat
open Go.RowKit

/-- The cells of a tree. -/
def segCells (l : List Seg) : List Value := l.flatMap fun s => [.string s.name, .int .i64 s.size, .int .i64 s.par]
theorem segCells_snoc (l : List Seg) (s : Seg) : segCells (l ++ [s]) = segCells l ++ [.string s.name, .int .i64 s.size, .int .i64 s.par] := by simp [segCells]
theorem segCells_len (l : List Seg) : (segCells l).length = l.length * 3 := by
  induction l with
  | nil => rfl
  | cons s l ih => simp only [segCells, List.flatMap_cons, List.length_append, List.length_cons, List.length_nil] at ih ⊢; omega
theorem segCells_at {l : List Seg} {k : Nat} {s : Seg} (h : l[k]? = some s) : (segCells l)[k * 3]? = some (.string s.name) ∧ (segCells l)[k * 3 + 1]? = some (.int .i64 s.size) ∧ (segCells l)[k * 3 + 2]? = some (.int .i64 s.par) := by
  induction l generalizing k with
  | nil => simp at h
  | cons x l ih =>
    cases k with
    | zero =>
      simp at h
      subst h
      exact ⟨rfl, rfl, rfl⟩
    | succ k =>
      rw [List.getElem?_cons_succ] at h
      have e : ∀ i, (segCells (x :: l))[i + 3]? = (segCells l)[i]? := fun i => by
        show ([Value.string x.name, .int .i64 x.size, .int .i64 x.par] ++ segCells l)[i + 3]? = _
        rw [List.getElem?_append_right (by simp)]
        simp
      obtain ⟨a, b, c⟩ := ih h
      rw [show (k + 1) * 3 = k * 3 + 3 by omega, show k * 3 + 3 + 1 = k * 3 + 1 + 3 by omega, show k * 3 + 3 + 2 = k * 3 + 2 + 3 by omega, e, e, e]
      exact ⟨a, b, c⟩

/-- A tree of the reader's own: the slice's value, and its cells. -/
def OwnTree (w : World) (B : Nat) (v : Value) (tr : List Seg) : Prop := w.ownsRow B 34 3 v tr.length (segCells tr)
theorem OwnTree.form {w : World} {B : Nat} {v : Value} {tr : List Seg} (h : OwnTree w B v tr) : ∃ A cap, v = .slice A tr.length cap ∧ Segs w w.heap.size A tr := by
  rcases h.2 with ⟨rfl, h0⟩ | ⟨g, cap, cur, rfl, hg, hh, r⟩
  · exact ⟨none, 0, by rw [h0], fun h => absurd h (by omega)⟩
  · refine ⟨_, cap, rfl, fun _ => ⟨g, 0, rfl, (Array.getElem?_eq_some_iff.1 hh).1, fun k s hk => ?_⟩⟩
    obtain ⟨a, b, c⟩ := segCells_at hk
    have hk' := (List.getElem?_eq_some_iff.1 hk).1
    have hz := segCells_len tr
    have ha : ∀ i, i < tr.length * 3 → w.cell? ⟨g, i, none⟩ = (segCells tr)[i]? := fun i hi => World.ownsRow.cellAt h i (by omega)
    simp only [Nat.zero_add]
    rw [ha _ (by omega), ha _ (by omega), ha _ (by omega)]
    exact ⟨a, b, c⟩

theorem OwnTree.far {w w' : World} {B : Nat} {v : Value} {tr : List Seg} (h : OwnTree w B v tr) (hk : ∀ g, v.ownBlock = some g → w'.heap[g]? = w.heap[g]?) : OwnTree w' B v tr := by
  refine ⟨h.1, ?_⟩
  rcases h.2 with h0 | ⟨g', cap, cur, rfl, hg, hh, r⟩
  · exact .inl h0
  · exact .inr ⟨g', cap, cur, rfl, hg, (hk g' rfl).trans hh, r⟩
/-- The reader's block is not the tree's. -/
theorem OwnTree.ne {w : World} {B : Nat} {v : Value} {tr : List Seg} (h : OwnTree w B v tr) {b : Nat} {t : TypeId} {cs : Array Value} (hr : Row w b t cs) (hne : 34 ≠ t) : ∀ g, v.ownBlock = some g → g ≠ b := by
  rintro g hg rfl
  rcases h.2 with ⟨rfl, _⟩ | ⟨g', cap, cur, rfl, _, hh, _⟩
  · simp [Value.ownBlock] at hg
  · have : g' = g := by simpa [Value.ownBlock] using hg
    subst this
    unfold Row at hr
    rw [hh] at hr
    injection hr with hr
    injection hr with _ ht
    exact hne ht
theorem OwnTree.only {w w' : World} {B b : Nat} {v : Value} {tr : List Seg} {t : TypeId} {cs : Array Value} (h : OwnTree w B v tr) (hr : Row w b t cs) (hne : 34 ≠ t) (ho : Only w w' (· = b)) : OwnTree w' B v tr :=
  h.far fun g hg => ho.block g (by
    rcases h.2 with ⟨rfl, _⟩ | ⟨g', cap, cur, rfl, _, hh, _⟩
    · simp [Value.ownBlock] at hg
    · have : g' = g := by simpa [Value.ownBlock] using hg
      subst this
      exact (Array.getElem?_eq_some_iff.1 hh).1) (h.ne hr hne g hg)

theorem nextB_head {t : ByteArray} {k : Nat} {c : UInt8} (hk : k ≤ t.size) (h : nextB t k c = true) : t.data.toList.drop k = c :: t.data.toList.drop (k + 1) ∧ k < t.size := by
  by_cases hlt : k < t.size
  · refine ⟨?_, hlt⟩
    rw [nextB_at c hlt, decide_eq_true_iff] at h
    rw [List.drop_eq_getElem_cons (by simpa using hlt), ← h]
    rfl
  · rw [nextB_end c (by omega)] at h
    cases h
theorem nextB_other {t : ByteArray} {k : Nat} {c : UInt8} (h : nextB t k c = false) : ∀ d r, t.data.toList.drop k = d :: r → d ≠ c := fun d r hd he => by
  unfold nextB at h
  rw [hd, List.head?_cons, he] at h
  simp at h

/-- What comes behind a name and a size. -/
def iRest (f : Nat) (r2 : List UInt8) (tr : List Seg) (own : Nat) : Option Read := match r2 with
  | [] => some ([], tr)
  | d :: r3 => if d = 40 then (match iSeg f r3 own tr with
    | none => none
    | some (r4, t4) => iKids (fun a b => iSeg f a own b) (r4.length + 1) r4 t4) else some (d :: r3, tr)
/-- What comes behind a first child. -/
def iAfter (f own : Nat) : Option Read → Option Read
  | none => none
  | some (r4, t4) => iKids (fun a b => iSeg f a own b) (r4.length + 1) r4 t4
theorem iRest_open {f : Nat} {r3 : List UInt8} {tr : List Seg} {own : Nat} : iRest f (40 :: r3) tr own = iAfter f own (iSeg f r3 own tr) := by
  unfold iRest
  simp only [if_true]
  cases iSeg f r3 own tr <;> rfl
/-- What comes behind a further one. -/
def iMore (f own g : Nat) : Option Read → Option Read
  | none => none
  | some (r4, t4) => iKids (fun a b => iSeg f a own b) g r4 t4
theorem iSeg_open {f : Nat} {c : UInt8} {r r2 : List UInt8} {p : Int} {tr : List Seg} {n : Nat} (hn : nameOk ⟨#[c]⟩ = true) (ht : takenB tr ⟨#[c]⟩ = false) (hz : iSize r 0 = some (n, r2)) :
    iSeg (f + 1) (c :: r) p tr = iRest f r2 (tr ++ [⟨⟨#[c]⟩, n, p⟩]) tr.length := by
  conv => lhs; unfold iSeg
  simp only [hn, ht, hz, Bool.not_false, Bool.and_self, if_true]
  cases r2 <;> rfl
theorem iSeg_small {f : Nat} {c : UInt8} {r : List UInt8} {p : Int} {tr : List Seg} (hz : iSize r 0 = none) : iSeg (f + 1) (c :: r) p tr = none := by
  conv => lhs; unfold iSeg
  simp only [hz]
  split <;> rfl
theorem iKids_comma {f own g : Nat} {r : List UInt8} {tr : List Seg} : iKids (fun a b => iSeg f a own b) (g + 1) (44 :: r) tr = iMore f own g (iSeg f r own tr) := by
  conv => lhs; unfold iKids
  simp only [if_true]
  cases iSeg f r own tr <;> rfl
theorem iKids_close {iS : List UInt8 → List Seg → Option Read} {g : Nat} {r : List UInt8} {tr : List Seg} : iKids iS (g + 1) (41 :: r) tr = some (r, tr) := by
  conv => lhs; unfold iKids
  simp
theorem iKids_else {iS : List UInt8 → List Seg → Option Read} {g : Nat} {r : List UInt8} {tr : List Seg} (h1 : ∀ d u, r = d :: u → d ≠ 44) (h2 : ∀ d u, r = d :: u → d ≠ 41) : iKids iS (g + 1) r tr = none := by
  unfold iKids
  cases r with
  | nil => rfl
  | cons d u =>
    simp only
    rw [if_neg (h1 d u rfl), if_neg (h2 d u rfl)]

end Go.Proofs.YtifkmehnikfihaaGreat

/- The program's ParseTree: it recovers. -/
namespace Go.Proofs.YtifkmehnikfihaaGreat
open Go.RowKit

end Go.Proofs.YtifkmehnikfihaaGreat

/- The program's ParseTree by its contract. -/
namespace Go.Proofs.YtifkmehnikfihaaGreat
open Go.RowKit

/-- What ParseTree has done: the text's tree, of the call's own. -/
def ParsePost (w : World) (t : ByteArray) (e : Ending) (w' : World) : Prop :=
  ∃ v, e = .returned (.tuple #[v, .bool (parsed t.data.toList).isSome]) ∧ OwnTree w' w.heap.size v ((parsed t.data.toList).getD []) ∧ Below w.heap.size w w'

theorem parsed_at {t : ByteArray} {k : Nat} {tr : List Seg} (hk : k ≤ t.size) (h : iSeg 10 t.data.toList (-1) [] = some (t.data.toList.drop k, tr)) : parsed t.data.toList = if k = t.size then some tr else none := by
  unfold parsed
  rw [h]
  by_cases e : k = t.size
  · rw [if_pos e, List.drop_of_length_le (by simp; omega)]
  · rw [if_neg e, List.drop_eq_getElem_cons (by simp; omega)]

theorem OwnTree.base {w : World} {B B' : Nat} {v : Value} {tr : List Seg} (h : OwnTree w B v tr) (hB : B' ≤ B) : OwnTree w B' v tr := by
  refine ⟨h.1, ?_⟩
  rcases h.2 with h0 | ⟨g', cap, cur, rfl, hg, hh, r⟩
  · exact .inl h0
  · exact .inr ⟨g', cap, cur, rfl, Nat.le_trans hB hg, hh, r⟩

end Go.Proofs.YtifkmehnikfihaaGreat
