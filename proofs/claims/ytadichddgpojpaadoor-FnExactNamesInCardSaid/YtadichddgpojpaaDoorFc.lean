/- The program's calls in memory, and how one is read: readCall. -/
import Derived.Test.YtadichddgpojpaaDoorFb
namespace Go.Proofs.YtadichddgpojpaaDoor
open Go.RowKit

theorem cell_same {w w' : World} {g : Nat} (h : w'.heap[g]? = w.heap[g]?) (i : Nat) : w'.cell? ⟨g, i, none⟩ = w.cell? ⟨g, i, none⟩ := by
  simp [World.cell?, h]

/-- The calls 'f' lie in block 'g' from place 'o' on, those within them in blocks that 'S' names. -/
def Cells (w : World) (S : Nat → Prop) : Forest → Nat → Nat → Prop
  | .nil, _, _ => True
  | .cons c k r, g, o => (∃ v, w.cell? ⟨g, o, none⟩ = some v ∧ ((k.isNil = true ∧ v = leafV c) ∨ (k.isNil = false ∧ ∃ h cap, v = branchV c h k.len cap ∧ S h ∧ Cells w S k h 0))) ∧ Cells w S r g (o + 1)
def IsCall (w : World) (S : Nat → Prop) (c : UInt8) (k : Forest) (v : Value) : Prop :=
  (k.isNil = true ∧ v = leafV c) ∨ (k.isNil = false ∧ ∃ h cap, v = branchV c h k.len cap ∧ S h ∧ Cells w S k h 0)
theorem Cells.keep {w w' : World} {S S' : Nat → Prop} (hS : ∀ q, S q → S' q ∧ w'.heap[q]? = w.heap[q]?) : ∀ (f : Forest) (g o : Nat), w'.heap[g]? = w.heap[g]? → Cells w S f g o → Cells w' S' f g o
  | .nil, _, _, _, _ => trivial
  | .cons c k r, g, o, hg, h => by
    obtain ⟨⟨v, hv, hc⟩, hr⟩ := h
    refine ⟨⟨v, (cell_same hg o).trans hv, ?_⟩, Cells.keep hS r g (o + 1) hg hr⟩
    rcases hc with hc | ⟨h1, q, cap, e, hs, hk⟩
    · exact .inl hc
    · exact .inr ⟨h1, q, cap, e, (hS q hs).1, Cells.keep hS k q 0 (hS q hs).2 hk⟩
theorem IsCall.keep {w w' : World} {S S' : Nat → Prop} (hS : ∀ q, S q → S' q ∧ w'.heap[q]? = w.heap[q]?) {c : UInt8} {k : Forest} {v : Value} (h : IsCall w S c k v) : IsCall w' S' c k v := by
  rcases h with hc | ⟨h1, q, cap, e, hs, hk⟩
  · exact .inl hc
  · exact .inr ⟨h1, q, cap, e, (hS q hs).1, Cells.keep hS k q 0 (hS q hs).2 hk⟩

/-- A list of values is the calls 'f'. -/
def Vals (w : World) (S : Nat → Prop) : Forest → List Value → Prop
  | .nil, xs => xs = []
  | .cons c k r, xs => ∃ v vs, xs = v :: vs ∧ IsCall w S c k v ∧ Vals w S r vs
theorem Vals.keep {w w' : World} {S S' : Nat → Prop} (hS : ∀ q, S q → S' q ∧ w'.heap[q]? = w.heap[q]?) : ∀ (f : Forest) (xs : List Value), Vals w S f xs → Vals w' S' f xs
  | .nil, _, h => h
  | .cons c k r, xs, h => by
    obtain ⟨v, vs, e, hc, hr⟩ := h
    exact ⟨v, vs, e, hc.keep hS, Vals.keep hS r vs hr⟩
theorem Vals.snoc {w : World} {S : Nat → Prop} {c : UInt8} {k : Forest} {v : Value} (hc : IsCall w S c k v) : ∀ (f : Forest) (xs : List Value), Vals w S f xs → Vals w S (f.app (.cons c k .nil)) (xs ++ [v])
  | .nil, xs, h => by
    have h' : xs = [] := h
    subst h'
    exact ⟨v, [], rfl, hc, rfl⟩
  | .cons c' k' r, xs, h => by
    obtain ⟨v', vs, e, hc', hr⟩ := h
    subst e
    exact ⟨v', vs ++ [v], rfl, hc', Vals.snoc hc r vs hr⟩
theorem Vals.len {w : World} {S : Nat → Prop} : ∀ (f : Forest) (xs : List Value), Vals w S f xs → xs.length = f.len
  | .nil, xs, h => by
    have h' : xs = [] := h
    subst h'; rfl
  | .cons c k r, xs, h => by
    obtain ⟨v, vs, e, _, hr⟩ := h
    subst e
    show vs.length + 1 = r.len + 1
    rw [Vals.len r vs hr]
theorem Vals.cells {w : World} {S : Nat → Prop} {g : Nat} : ∀ (f : Forest) (xs : List Value) (o : Nat), Vals w S f xs → (∀ i, i < xs.length → w.cell? ⟨g, o + i, none⟩ = xs[i]?) → Cells w S f g o
  | .nil, _, _, _, _ => trivial
  | .cons c k r, xs, o, h, hx => by
    obtain ⟨v, vs, e, hc, hr⟩ := h
    subst e
    refine ⟨⟨v, ?_, hc⟩, Vals.cells r vs (o + 1) hr fun i hi => ?_⟩
    · exact hx 0 (by simp)
    · have := hx (i + 1) (by simp; omega)
      rw [show o + 1 + i = o + (i + 1) by omega, this]
      simp

/-- A slice of calls that the reader makes, block 'B' and later being its own. -/
def OwnCalls (w : World) (B : Nat) (v : Value) (f : Forest) : Prop :=
  ∃ xs, w.ownsRow B 88 1 v f.len xs ∧ Vals w (fun q => B ≤ q ∧ q < w.heap.size ∧ v.ownBlock ≠ some q) f xs
/-- A slice of calls that is read. -/
def SliceIs (w : World) (S : Nat → Prop) (v : Value) (f : Forest) : Prop :=
  ∃ A cap, v = .slice A f.len cap ∧ (0 < f.len → ∃ g, A = some ⟨g, 0, none⟩ ∧ S g ∧ Cells w S f g 0)
theorem SliceIs.keep {w w' : World} {S S' : Nat → Prop} (hS : ∀ q, S q → S' q ∧ w'.heap[q]? = w.heap[q]?) {v : Value} {f : Forest} (h : SliceIs w S v f) : SliceIs w' S' v f := by
  obtain ⟨A, cap, e, h⟩ := h
  refine ⟨A, cap, e, fun hl => ?_⟩
  obtain ⟨g, e1, hs, hc⟩ := h hl
  exact ⟨g, e1, (hS g hs).1, Cells.keep hS f g 0 (hS g hs).2 hc⟩
theorem OwnCalls.form {w : World} {B : Nat} {v : Value} {f : Forest} (h : OwnCalls w B v f) (hf : f.isNil = false) : ∃ g cap, v = .slice (some ⟨g, 0, none⟩) f.len cap ∧ B ≤ g ∧ g < w.heap.size ∧ Cells w (fun q => B ≤ q ∧ q < w.heap.size) f g 0 := by
  obtain ⟨xs, hown, hv⟩ := h
  rw [Forest.isNil_len] at hf
  have hl : f.len ≠ 0 := of_decide_eq_false hf
  have hx := Vals.len f xs hv
  rcases hown.2 with ⟨rfl, h0⟩ | ⟨g, cap, cur, rfl, hg, hh, r⟩
  · exact absurd h0 hl
  · refine ⟨g, cap, rfl, hg, (Array.getElem?_eq_some_iff.1 hh).1, ?_⟩
    refine Vals.cells f xs 0 (Vals.keep (fun q h => ⟨⟨h.1, h.2.1⟩, rfl⟩) f xs hv) fun i hi => ?_
    rw [Nat.zero_add]
    exact World.ownsRow.cellAt hown i (by omega)
theorem OwnCalls.slice {w : World} {B : Nat} {v : Value} {f : Forest} (h : OwnCalls w B v f) : SliceIs w (fun q => B ≤ q ∧ q < w.heap.size) v f := by
  cases hf : f.isNil with
  | false =>
    obtain ⟨g, cap, e, h1, h2, h3⟩ := h.form hf
    exact ⟨_, cap, e, fun _ => ⟨g, rfl, ⟨h1, h2⟩, h3⟩⟩
  | true =>
    rw [Forest.isNil_len] at hf
    have hl : f.len = 0 := of_decide_eq_true hf
    obtain ⟨xs, hown, hv⟩ := h
    rcases hown.2 with ⟨rfl, h0⟩ | ⟨g, cap, cur, rfl, hg, hh, r⟩
    · exact ⟨none, 0, by rw [hl], fun h => by omega⟩
    · exact ⟨_, cap, rfl, fun h => by omega⟩
theorem OwnCalls.nil (w : World) (B : Nat) : OwnCalls w B (.slice none 0 0) .nil := ⟨[], World.ownsRow_nil w B _ 1, rfl⟩
/-- What is written elsewhere leaves the slice as it is. -/
theorem OwnCalls.only {w w' : World} {B b : Nat} {v : Value} {f : Forest} (h : OwnCalls w B v f) (ho : Only w w' (· = b)) (hb : b < B) : OwnCalls w' B v f := by
  obtain ⟨xs, hown, hv⟩ := h
  refine ⟨xs, own_keep hown fun g hg => ?_, Vals.keep (fun q h => ⟨⟨h.1, Nat.lt_of_lt_of_le h.2.1 ho.size, h.2.2⟩, ho.block q h.2.1 (by have := h.1; omega)⟩) f xs hv⟩
  have := hown.lt g hg
  exact ho.block g this.2 (by omega)
/-- One more call is appended. -/
theorem OwnCalls.more {w W w' : World} {B c0 : Nat} {v v' u : Value} {f k : Forest} {c : UInt8} {xs : List Value} (hv : Vals w (fun q => B ≤ q ∧ q < w.heap.size ∧ v.ownBlock ≠ some q) f xs) 
    (hu : IsCall w (fun q => c0 ≤ q ∧ q < w.heap.size) c k u) (hc0 : B ≤ c0) (hvc : ∀ q, v.ownBlock = some q → q < c0)
    (hW : Below w.heap.size w W) (hg : W.grownBy w' v.ownBlock) (hown' : w'.ownsRow B 88 1 v' (f.len + 1) (xs ++ [u])) (hat : v'.ownBlock = v.ownBlock ∨ v'.ownBlock = some W.heap.size) :
    OwnCalls w' B v' (f.app (.cons c k .nil)) := by
  have hs := hW.size
  have hs2 := hg.size
  have keep : ∀ q, q < w.heap.size → v.ownBlock ≠ some q → w'.heap[q]? = w.heap[q]? := fun q h1 h2 => (hg.block q (by omega) (fun e => h2 e.symm)).trans (hW.block q h1)
  have ne : ∀ q, q < w.heap.size → v.ownBlock ≠ some q → v'.ownBlock ≠ some q := fun q h1 h2 => by
    rcases hat with e | e
    · rw [e]; exact h2
    · rw [e]; intro he; injection he with he; omega
  refine ⟨xs ++ [u], by rw [Forest.app_len]; exact hown', Vals.snoc ?_ f xs (Vals.keep (fun q h => ⟨⟨h.1, by omega, ne q h.2.1 h.2.2⟩, keep q h.2.1 h.2.2⟩) f xs hv)⟩
  refine hu.keep fun q h => ?_
  have h2 : v.ownBlock ≠ some q := fun e => by have := hvc q e; omega
  exact ⟨⟨by omega, by omega, ne q h.2 h2⟩, keep q h.2 h2⟩

/-- What one call reads. -/
def named (c : UInt8) : Got → Option (UInt8 × Forest × List UInt8)
  | none => none
  | some (k, r) => some (c, k, r)
def readA (P : UInt8 → Bool) (d : Nat) : List UInt8 → Option (UInt8 × Forest × List UInt8)
  | [] => none
  | c :: r => named c (callA P d c r)
theorem readA_zero (P : UInt8 → Bool) (s : List UInt8) : readA P 0 s = none := by cases s <;> rfl
theorem readA_no {P : UInt8 → Bool} {d : Nat} {s : List UInt8} (h : ∀ c r, s = c :: r → P c = false) : readA P d s = none := by
  cases s with
  | nil => rfl
  | cons c r => unfold readA; dsimp only; rw [callA_no (h c r rfl)]; rfl
theorem readA_some {P : UInt8 → Bool} {d : Nat} {s r' : List UInt8} {c : UInt8} {k : Forest} (hP : P 41 = false) (h : readA P d s = some (c, k, r')) : ∃ r, s = c :: r ∧ callA P d c r = some (k, r') ∧ c ≠ 41 ∧ r'.length < s.length := by
  cases s with
  | nil => cases h
  | cons x r =>
    unfold readA named at h
    dsimp only at h
    cases hc : callA P d x r with
    | none => rw [hc] at h; cases h
    | some y =>
      rw [hc] at h
      injection h with h
      injection h with h1 h2
      injection h2 with h2 h3
      subst h1
      refine ⟨r, rfl, ?_, ?_, ?_⟩
      · rw [hc, ← h2, ← h3]
      · rintro rfl
        rw [callA_no hP] at hc
        cases hc
      · have := callA_less P d x r y.1 y.2 (by rw [hc])
        rw [← h3]
        simp
        omega
theorem closed_app {f : Forest} (h : f.isNil = false) (u : List UInt8) : closed (some (f, 41 :: u)) = some (f, u) := by
  cases f with
  | nil => cases h
  | cons c k r => rfl
theorem closed_end (f : Forest) : closed (some (f, [])) = none := by cases f <;> rfl
theorem closed_first {P : UInt8 → Bool} {d : Nat} {s : List UInt8} (h : readA P d s = none) : closed (calls P d s) = none := by
  cases s with
  | nil => rfl
  | cons c r =>
    by_cases hc : c = 41
    · subst hc; rfl
    · have h1 : callA P d c r = none := by
        unfold readA named at h
        dsimp only at h
        cases hx : callA P d c r with
        | none => rfl
        | some y => rw [hx] at h; cases h
      rw [calls_cons P d r hc, h1]; rfl
theorem closed_next {P : UInt8 → Bool} {d : Nat} {s : List UInt8} (f : Forest) (h : readA P d s = none) (hs : ∀ x u, s = x :: u → x ≠ 41) : closed (ahead f (calls P d s)) = none := by
  cases s with
  | nil => rw [calls_nil]; show closed (some (f.app .nil, [])) = none; exact closed_end _
  | cons c r =>
    have h1 : callA P d c r = none := by
      unfold readA named at h
      dsimp only at h
      cases hx : callA P d c r with
      | none => rfl
      | some y => rw [hx] at h; cases h
    rw [calls_fail f (hs c r rfl) h1]; rfl
theorem ahead_step {P : UInt8 → Bool} {d : Nat} {s r' : List UInt8} {c : UInt8} {k : Forest} (f : Forest) (hP : P 41 = false) (h : readA P d s = some (c, k, r')) : ahead f (calls P d s) = ahead (f.app (.cons c k .nil)) (calls P d r') := by
  obtain ⟨r, rfl, h1, h2, _⟩ := readA_some hP h
  exact calls_step f h2 h1
theorem ahead_shut {P : UInt8 → Bool} {d : Nat} (f : Forest) (u : List UInt8) : ahead f (calls P d (41 :: u)) = some (f, 41 :: u) := by
  rw [calls_close]; show some (f.app .nil, 41 :: u) = _; rw [Forest.app_nil]
theorem ahead_end {P : UInt8 → Bool} {d : Nat} (f : Forest) : ahead f (calls P d []) = some (f, []) := by
  rw [calls_nil]; show some (f.app .nil, []) = _; rw [Forest.app_nil]
theorem readA_leaf {P : UInt8 → Bool} {d : Nat} {c : UInt8} {r : List UInt8} (h : P c = true) (hr : ∀ x u, r = x :: u → x ≠ 40) : readA P (d + 1) (c :: r) = some (c, .nil, r) := by
  unfold readA; dsimp only; rw [callA_leaf h hr]; rfl
theorem readA_open {P : UInt8 → Bool} {d : Nat} {c : UInt8} {r : List UInt8} (h : P c = true) : readA P (d + 1) (c :: 40 :: r) = named c (closed (calls P d r)) := by
  unfold readA; dsimp only; rw [callA_open h]

/-- What readCall has done. -/
def CallPost (w : World) (b : Nat) (nv : Value) (R : Option (UInt8 × Forest × List UInt8)) (e : Ending) (w' : World) : Prop :=
  ((∃ c k r v, R = some (c, k, r) ∧ e = .returned v ∧ IsCall w' (fun q => w.heap.size ≤ q ∧ q < w'.heap.size) c k v ∧ Row w' b 68 #[nv, .string ⟨r.toArray⟩]) ∨ (R = none ∧ Died e)) ∧ Only w w' (· = b)

theorem info_call : (Tryd.prog.info? 88).map (fun i => (i.zero, i.size, i.bytes)) = some (some .nilIface, 1, 16) := by kernel_rfl
theorem oneCell_leaf (c : UInt8) : (leafV c).oneCell' = true := rfl
theorem IsCall.one {w : World} {S : Nat → Prop} {c : UInt8} {k : Forest} {v : Value} (h : IsCall w S c k v) : v.oneCell' = true := by
  rcases h with ⟨_, rfl⟩ | ⟨_, q, cap, rfl, _⟩ <;> rfl
theorem IsCall.iface {w : World} {S : Nat → Prop} {c : UInt8} {k : Forest} {v : Value} (h : IsCall w S c k v) : ∃ t x, v = .iface t x := by
  rcases h with ⟨_, rfl⟩ | ⟨_, q, cap, rfl, _⟩ <;> exact ⟨_, _, rfl⟩
/-- How much is left to read. -/
def restAt (b : Nat) (w : World) : Nat := match w.cell? ⟨b, 1, none⟩ with
  | some (.string x) => x.size
  | _ => 0
theorem restAt_of {b : Nat} {w : World} {nv : Value} {s : List UInt8} (h : Row w b 68 #[nv, .string ⟨s.toArray⟩]) : restAt b w = s.length := by
  unfold restAt
  rw [h.cell 1]
  rfl

end Go.Proofs.YtadichddgpojpaaDoor
