/- Joined: Fg Fx. -/
import Derived.Test.YtcpiojliakgdlaaGreatDoorU18
import Derived.Test.YtcpiojliakgdlaaGreatDoorU04
import Derived.Test.YtcpiojliakgdlaaGreatDoorU03
import Derived.Deep.DeepCutAuto
import Derived.BigRegion
import Derived.BigQuiet
import Derived.Maps.AppendAt
/- The reference's calls in memory. -/
namespace Go.Proofs.YtcpiojliakgdlaaGreatDoor
open Go.RowKit

/-- The reference's calls 'f' lie in block 'g' from cell 'o' on. -/
def SCells (w : World) (S : Nat → Prop) : Forest → Nat → Nat → Prop
  | .nil, _, _ => True
  | .cons c k r, g, o => w.cell? ⟨g, o, none⟩ = some (.string ⟨#[c]⟩) ∧ (∃ A cap, w.cell? ⟨g, o + 1, none⟩ = some (.slice A k.len cap) ∧ (k.isNil = false → ∃ h, A = some ⟨h, 0, none⟩ ∧ S h ∧ SCells w S k h 0)) ∧ SCells w S r g (o + 2)
def IsKids (w : World) (S : Nat → Prop) (k : Forest) (v : Value) : Prop :=
  ∃ A cap, v = .slice A k.len cap ∧ (k.isNil = false → ∃ h, A = some ⟨h, 0, none⟩ ∧ S h ∧ SCells w S k h 0)
theorem SCells.keep {w w' : World} {S S' : Nat → Prop} (hS : ∀ q, S q → S' q ∧ w'.heap[q]? = w.heap[q]?) : ∀ (f : Forest) (g o : Nat), w'.heap[g]? = w.heap[g]? → SCells w S f g o → SCells w' S' f g o
  | .nil, _, _, _, _ => trivial
  | .cons c k r, g, o, hg, h => by
    obtain ⟨hc, ⟨A, cap, hv, hk⟩, hr⟩ := h
    refine ⟨(cell_same hg o).trans hc, ⟨A, cap, (cell_same hg _).trans hv, fun hn => ?_⟩, SCells.keep hS r g (o + 2) hg hr⟩
    obtain ⟨q, e, hs, hk⟩ := hk hn
    exact ⟨q, e, (hS q hs).1, SCells.keep hS k q 0 (hS q hs).2 hk⟩
theorem IsKids.keep {w w' : World} {S S' : Nat → Prop} (hS : ∀ q, S q → S' q ∧ w'.heap[q]? = w.heap[q]?) {k : Forest} {v : Value} (h : IsKids w S k v) : IsKids w' S' k v := by
  obtain ⟨A, cap, hv, hk⟩ := h
  refine ⟨A, cap, hv, fun hn => ?_⟩
  obtain ⟨q, e, hs, hk⟩ := hk hn
  exact ⟨q, e, (hS q hs).1, SCells.keep hS k q 0 (hS q hs).2 hk⟩

def SVals (w : World) (S : Nat → Prop) : Forest → List Value → Prop
  | .nil, xs => xs = []
  | .cons c k r, xs => ∃ v vs, xs = .string ⟨#[c]⟩ :: v :: vs ∧ IsKids w S k v ∧ SVals w S r vs
theorem SVals.keep {w w' : World} {S S' : Nat → Prop} (hS : ∀ q, S q → S' q ∧ w'.heap[q]? = w.heap[q]?) : ∀ (f : Forest) (xs : List Value), SVals w S f xs → SVals w' S' f xs
  | .nil, _, h => h
  | .cons c k r, xs, h => by
    obtain ⟨v, vs, e, hc, hr⟩ := h
    exact ⟨v, vs, e, hc.keep hS, SVals.keep hS r vs hr⟩
theorem SVals.snoc {w : World} {S : Nat → Prop} {c : UInt8} {k : Forest} {v : Value} (hc : IsKids w S k v) : ∀ (f : Forest) (xs : List Value), SVals w S f xs → SVals w S (f.app (.cons c k .nil)) (xs ++ [.string ⟨#[c]⟩, v])
  | .nil, xs, h => by
    have h' : xs = [] := h
    subst h'
    exact ⟨v, [], rfl, hc, rfl⟩
  | .cons c' k' r, xs, h => by
    obtain ⟨v', vs, e, hc', hr⟩ := h
    subst e
    exact ⟨v', vs ++ [.string ⟨#[c]⟩, v], rfl, hc', SVals.snoc hc r vs hr⟩
theorem SVals.len {w : World} {S : Nat → Prop} : ∀ (f : Forest) (xs : List Value), SVals w S f xs → xs.length = f.len * 2
  | .nil, xs, h => by
    have h' : xs = [] := h
    subst h'; rfl
  | .cons c k r, xs, h => by
    obtain ⟨v, vs, e, _, hr⟩ := h
    subst e
    show vs.length + 1 + 1 = (r.len + 1) * 2
    rw [SVals.len r vs hr]; omega
theorem SVals.cells {w : World} {S : Nat → Prop} {g : Nat} : ∀ (f : Forest) (xs : List Value) (o : Nat), SVals w S f xs → (∀ i, i < xs.length → w.cell? ⟨g, o + i, none⟩ = xs[i]?) → SCells w S f g o
  | .nil, _, _, _, _ => trivial
  | .cons c k r, xs, o, h, hx => by
    obtain ⟨v, vs, e, ⟨A, cap, hv, hk⟩, hr⟩ := h
    subst e
    refine ⟨hx 0 (by simp), ⟨A, cap, ?_, hk⟩, SVals.cells r vs (o + 2) hr fun i hi => ?_⟩
    · rw [← hv]; exact hx 1 (by simp)
    · have := hx (i + 2) (by simp; omega)
      rw [show o + 2 + i = o + (i + 2) by omega, this]
      simp

/-- A slice of the reference's calls, of the reader's own. -/
def OwnS (w : World) (B : Nat) (v : Value) (f : Forest) : Prop :=
  ∃ xs, w.ownsRow B 131 2 v f.len xs ∧ SVals w (fun q => B ≤ q ∧ q < w.heap.size ∧ v.ownBlock ≠ some q) f xs
theorem OwnS.lt {w : World} {B : Nat} {v : Value} {f : Forest} (h : OwnS w B v f) : ∀ x, v.ownBlock = some x → B ≤ x ∧ x < w.heap.size := by
  obtain ⟨xs, hown, _⟩ := h
  exact fun x e => hown.lt x e
theorem OwnS.form {w : World} {B : Nat} {v : Value} {f : Forest} (h : OwnS w B v f) : ∃ A cap, v = .slice A f.len cap := by
  obtain ⟨xs, hown, _⟩ := h
  rcases hown.2 with ⟨rfl, h0⟩ | ⟨g, cap, cur, rfl, hg, hh, r⟩
  · exact ⟨none, 0, by rw [h0]⟩
  · exact ⟨_, cap, rfl⟩
theorem OwnS.kids {w : World} {B : Nat} {v : Value} {f : Forest} (h : OwnS w B v f) : IsKids w (fun q => B ≤ q ∧ q < w.heap.size) f v := by
  obtain ⟨xs, hown, hv⟩ := h
  have hx := SVals.len f xs hv
  rcases hown.2 with ⟨rfl, h0⟩ | ⟨g, cap, cur, rfl, hg, hh, r⟩
  · refine ⟨none, 0, by rw [h0], fun hn => ?_⟩
    rw [Forest.isNil_len, h0] at hn
    cases hn
  · refine ⟨_, cap, rfl, fun hn => ⟨g, rfl, ⟨hg, (Array.getElem?_eq_some_iff.1 hh).1⟩, ?_⟩⟩
    refine SVals.cells f xs 0 (SVals.keep (fun q h => ⟨⟨h.1, h.2.1⟩, rfl⟩) f xs hv) fun i hi => ?_
    rw [Nat.zero_add]
    exact World.ownsRow.cellAt hown i (by omega)
theorem OwnS.far {w w' : World} {B : Nat} {v : Value} {f : Forest} (h : OwnS w B v f) (hz : w.heap.size ≤ w'.heap.size) (hk : ∀ q, B ≤ q → q < w.heap.size → w'.heap[q]? = w.heap[q]?) : OwnS w' B v f := by
  obtain ⟨xs, hown, hv⟩ := h
  refine ⟨xs, ⟨hown.1, ?_⟩, SVals.keep (fun q h => ⟨⟨h.1, by omega, h.2.2⟩, hk q h.1 h.2.1⟩) f xs hv⟩
  rcases hown.2 with h0 | ⟨g', cap, cur, rfl, hg, hh, r⟩
  · exact .inl h0
  · exact .inr ⟨g', cap, cur, rfl, hg, (hk g' hg (Array.getElem?_eq_some_iff.1 hh).1).trans hh, r⟩
theorem OwnS.only {w w' : World} {B b : Nat} {v : Value} {f : Forest} (h : OwnS w B v f) (ho : Only w w' (· = b)) (hb : b < B) : OwnS w' B v f :=
  h.far ho.size fun q h1 h2 => ho.block q h2 (by omega)
theorem OwnS.empty (w : World) {B : Nat} (hB : B ≤ w.heap.size) : OwnS (w.alloc (.cells #[] 131)) B (.slice (some ⟨w.heap.size, 0, none⟩) 0 0) .nil :=
  ⟨[], World.ownsRow_lit (base := B) (e := 131) (size := 2) w #[] 0 hB (by simp [maxLen]) rfl, rfl⟩
theorem OwnS.more {w W w' : World} {B : Nat} {v v' u : Value} {f k : Forest} {c : UInt8} {xs : List Value} (hv : SVals w (fun q => B ≤ q ∧ q < w.heap.size ∧ v.ownBlock ≠ some q) f xs)
    (hu : IsKids w (fun q => B ≤ q ∧ q < w.heap.size ∧ v.ownBlock ≠ some q) k u)
    (hW : Below w.heap.size w W) (hg : W.grownBy w' v.ownBlock) (hown' : w'.ownsRow B 131 2 v' (f.len + 1) (xs ++ [.string ⟨#[c]⟩, u])) (hat : v'.ownBlock = v.ownBlock ∨ v'.ownBlock = some W.heap.size) :
    OwnS w' B v' (f.app (.cons c k .nil)) := by
  have hs := hW.size
  have hs2 := hg.size
  have keep : ∀ q, q < w.heap.size → v.ownBlock ≠ some q → w'.heap[q]? = w.heap[q]? := fun q h1 h2 => (hg.block q (by omega) (fun e => h2 e.symm)).trans (hW.block q h1)
  have ne : ∀ q, q < w.heap.size → v.ownBlock ≠ some q → v'.ownBlock ≠ some q := fun q h1 h2 => by
    rcases hat with e | e
    · rw [e]; exact h2
    · rw [e]; intro he; injection he with he; omega
  exact ⟨xs ++ [.string ⟨#[c]⟩, u], by rw [Forest.app_len]; exact hown', SVals.snoc (hu.keep fun q h => ⟨⟨h.1, by omega, ne q h.2.1 h.2.2⟩, keep q h.2.1 h.2.2⟩) f xs (SVals.keep (fun q h => ⟨⟨h.1, by omega, ne q h.2.1 h.2.2⟩, keep q h.2.1 h.2.2⟩) f xs hv)⟩

/-- The same, all of it below block 'N'. -/
def OwnN (w : World) (B N : Nat) (v : Value) (f : Forest) : Prop :=
  N ≤ w.heap.size ∧ (∀ x, v.ownBlock = some x → x < N) ∧ ∃ xs, w.ownsRow B 131 2 v f.len xs ∧ SVals w (fun q => B ≤ q ∧ q < N ∧ v.ownBlock ≠ some q) f xs
theorem OwnS.toN {w : World} {B : Nat} {v : Value} {f : Forest} (h : OwnS w B v f) : OwnN w B w.heap.size v f := by
  have hl := h.lt
  obtain ⟨xs, hown, hv⟩ := h
  exact ⟨Nat.le_refl _, fun x e => (hl x e).2, xs, hown, hv⟩
theorem OwnN.lt {w : World} {B N : Nat} {v : Value} {f : Forest} (h : OwnN w B N v f) : ∀ x, v.ownBlock = some x → B ≤ x ∧ x < N := by
  obtain ⟨_, hN, xs, hown, _⟩ := h
  exact fun x e => ⟨(hown.lt x e).1, hN x e⟩
theorem OwnN.far {w w' : World} {B N : Nat} {v : Value} {f : Forest} (h : OwnN w B N v f) (hz : w.heap.size ≤ w'.heap.size) (hk : ∀ q, B ≤ q → q < N → w'.heap[q]? = w.heap[q]?) : OwnN w' B N v f := by
  obtain ⟨h1, hN, xs, hown, hv⟩ := h
  refine ⟨by omega, hN, xs, ⟨hown.1, ?_⟩, SVals.keep (fun q h => ⟨h, hk q h.1 h.2.1⟩) f xs hv⟩
  rcases hown.2 with h0 | ⟨g', cap, cur, rfl, hg, hh, r⟩
  · exact .inl h0
  · exact .inr ⟨g', cap, cur, rfl, hg, (hk g' hg (hN g' rfl)).trans hh, r⟩
theorem OwnN.below {w w' : World} {B N : Nat} {v : Value} {f : Forest} (h : OwnN w B N v f) (hb : Below w.heap.size w w') : OwnN w' B N v f := h.far hb.size fun q _ h2 => hb.block q (by have := h.1; omega)
theorem OwnN.same {w w' : World} {B N : Nat} {v : Value} {f : Forest} (h : OwnN w B N v f) (hh : w'.heap = w.heap) : OwnN w' B N v f := h.far (by rw [hh]; exact Nat.le_refl _) fun q _ _ => by rw [hh]
theorem OwnN.only {w w' : World} {B N b : Nat} {v : Value} {f : Forest} (h : OwnN w B N v f) (ho : Only w w' (· = b)) (hb : b < B) : OwnN w' B N v f :=
  h.far ho.size fun q h1 h2 => ho.block q (by have := h.1; omega) (by omega)
theorem OwnN.setRow {w : World} {B N b : Nat} {v : Value} {f : Forest} (h : OwnN w B N v f) (hb : b < B) (i : Nat) (u : Value) : OwnN (w.setCell ⟨b, i, none⟩ u) B N v f :=
  h.far (by simp [World.setCell]) fun q h1 _ => Below.heap_setCell w ⟨b, i, none⟩ u q (by show q ≠ b; omega)
theorem OwnN.setAt {w : World} {B N X : Nat} {v : Value} {f : Forest} (h : OwnN w B N v f) (hX : N ≤ X) (i : Nat) (u : Value) : OwnN (w.setCell ⟨X, i, none⟩ u) B N v f :=
  h.far (by simp [World.setCell]) fun q _ h2 => Below.heap_setCell w ⟨X, i, none⟩ u q (by show q ≠ X; omega)
theorem OwnN.form {w : World} {B N : Nat} {v : Value} {f : Forest} (h : OwnN w B N v f) : ∃ xs, w.ownsRow B 131 2 v f.len xs ∧ SVals w (fun q => B ≤ q ∧ q < w.heap.size ∧ v.ownBlock ≠ some q) f xs := by
  obtain ⟨h1, _, xs, hown, hv⟩ := h
  exact ⟨xs, hown, SVals.keep (fun q h => ⟨⟨h.1, by omega, h.2.2⟩, rfl⟩) f xs hv⟩

theorem own_form2 {w : World} {base : Nat} {e : TypeId} {v : Value} {n : Nat} {xs : List Value} (h : w.ownsRow base e 2 v n xs) (hn : 0 < n) : ∃ g cap, v = .slice (some ⟨g, 0, none⟩) n cap := by
  rcases h.2 with ⟨rfl, h0⟩ | ⟨g, cap, cur, rfl, hg, hh, r⟩
  · omega
  · exact ⟨g, cap, rfl⟩

theorem info_l4 : (Tryz.prog.info? 131).map (fun i => (i.zero, i.size, i.bytes)) = some (some (.agg #[.string ByteArray.empty, .slice none 0 0]), 2, 40) := by kernel_rfl

/-- The reference's reader. -/
def rdCells (t : ByteArray) (a : Int) (bad : Bool) (tv : Value) (dp : Int) : Array Value := #[.string t, .int .i64 a, .bool bad, tv, .int .i64 dp]

/-- What is read so far. -/
def SRel (w : World) (b : Nat) (t : ByteArray) (k₀ : Nat) (tv : Value) (dp : Int) (P : UInt8 → Bool) (d : Nat) (v : Value) (wr : World) : Prop :=
  Only w wr (· = b) ∧ ((∃ (F : Forest) (k : Nat), k ≤ t.size ∧ F.len ≤ k ∧ OwnS wr w.heap.size v F ∧ Row wr b 121 (rdCells t k false tv dp) ∧ calls P d (t.data.toList.drop k₀) = ahead F (calls P d (t.data.toList.drop k))) ∨
    (∃ (a : Int) (A : Option Addr) (n cap : Nat), v = .slice A n cap ∧ 0 ≤ a ∧ a ≤ (t.size : Int) + 1 + (d : Int) ∧ Row wr b 121 (rdCells t a true tv dp) ∧ calls P d (t.data.toList.drop k₀) = none))
/-- One call is read, its cells in block 'X'. -/
def SMid (w : World) (b : Nat) (t : ByteArray) (k₀ : Nat) (tv : Value) (dp : Int) (P : UInt8 → Bool) (d kp N : Nat) (c : UInt8) (F : Forest) (v xp : Value) (wr : World) : Prop :=
  ∃ (X : Nat) (kv : Value), xp = .pointer (some ⟨X, 0, none⟩) ∧ Row wr X 131 #[.string ⟨#[c]⟩, kv] ∧ Only w wr (· = b) ∧ OwnN wr w.heap.size N v F ∧
    ((∃ (kf : Forest) (k : Nat), k ≤ t.size ∧ F.len + 1 ≤ k ∧ kp < k ∧ Row wr b 121 (rdCells t k false tv dp) ∧ IsKids wr (fun q => w.heap.size ≤ q ∧ q < wr.heap.size ∧ v.ownBlock ≠ some q) kf kv ∧ calls P d (t.data.toList.drop k₀) = ahead (F.app (.cons c kf .nil)) (calls P d (t.data.toList.drop k))) ∨
    (∃ (a : Int) (A : Option Addr) (n cap : Nat), kv = .slice A n cap ∧ 0 ≤ a ∧ a ≤ (t.size : Int) + 1 + (d : Int) ∧ Row wr b 121 (rdCells t a true tv dp) ∧ calls P d (t.data.toList.drop k₀) = none))
/-- What the reference's reader has done. -/
def SPost (w : World) (b : Nat) (t : ByteArray) (k₀ : Nat) (tv : Value) (dp : Int) (P : UInt8 → Bool) (d : Nat) (e : Ending) (w' : World) : Prop :=
  ∃ v, e = .returned v ∧ Only w w' (· = b) ∧ ((∃ (F : Forest) (k : Nat), k ≤ t.size ∧ OwnS w' w.heap.size v F ∧ Row w' b 121 (rdCells t k false tv dp) ∧ calls P d (t.data.toList.drop k₀) = some (F, t.data.toList.drop k)) ∨
    (∃ (a : Int) (A : Option Addr) (n cap : Nat), v = .slice A n cap ∧ 0 ≤ a ∧ a ≤ (t.size : Int) + 1 + (d : Int) ∧ Row w' b 121 (rdCells t a true tv dp) ∧ calls P d (t.data.toList.drop k₀) = none))

/-- How much is left. -/
def leftS (t : ByteArray) (b : Nat) (w : World) : Nat := match w.cell? ⟨b, 2, none⟩, w.cell? ⟨b, 1, none⟩ with
  | some (.bool false), some i => t.size + 1 - (intOf i).toNat
  | _, _ => 0
theorem leftS_good {t : ByteArray} {b : Nat} {w : World} {k : Nat} {tv : Value} {dp : Int} (h : Row w b 121 (rdCells t k false tv dp)) : leftS t b w = t.size + 1 - k := by
  unfold leftS
  rw [h.cell 2, h.cell 1]
  show t.size + 1 - ((k : Int)).toNat = _
  rw [Int.toNat_natCast]
theorem leftS_bad {t : ByteArray} {b : Nat} {w : World} {a : Int} {tv : Value} {dp : Int} (h : Row w b 121 (rdCells t a true tv dp)) : leftS t b w = 0 := by
  unfold leftS
  rw [h.cell 2, h.cell 1]
  rfl

end Go.Proofs.YtcpiojliakgdlaaGreatDoor
/- A region that reads before it stores: its reading steps, one by one. -/
namespace Go.Proofs.YtcpiojliakgdlaaGreatDoor
open Go.RowKit

section
variable {P : Program} {ops : Array Oper} {w : World} {Q : Act → Prop}
/-- An operation of a region that only reads yields 'v'. -/
theorem still_put {d : Nat} {v : Value} {tmps tmps' : Array Value} {o : Oper} {rest : List Oper} (hd : o.dst = some d) (hw : Region.wanted o (yielded ops tmps) = true) (hs : tmps.setIfInBounds d v = tmps')
    (hy : (execOp (Act.eval ⟨tmps, []⟩) o).run P w = .ok (.value v) w) (h : wpStill P ops w Q rest ⟨tmps', []⟩) : wpStill P ops w Q (o :: rest) ⟨tmps, []⟩ := by
  subst hs
  unfold wpStill
  rw [if_pos hw]
  unfold Oper.still
  rw [hy, Oper.stillUpon_value, hd]
  exact h
/-- An operation that its guard passes over. -/
theorem still_skip {d : Nat} {tmps tmps' : Array Value} {o : Oper} {rest : List Oper} (hd : o.dst = some d) (hw : Region.wanted o (yielded ops tmps) = false) (hs : tmps.setIfInBounds d undef = tmps')
    (h : wpStill P ops w Q rest ⟨tmps', []⟩) : wpStill P ops w Q (o :: rest) ⟨tmps, []⟩ := by
  subst hs
  unfold wpStill
  rw [if_neg (by rw [hw]; decide), hd]
  exact h
end

section
variable {ρ : Operand → Value} {o : Oper} {x y : Operand} {w : World}
theorem hy_loadB {a : Addr} {v : Value} (ho : o.op = .load 4 x) (hx : ρ x = .pointer (some a)) (hc : w.cell? a = some v) : (execOp ρ o).run Tryz.prog w = .ok (.value v) w := by
  unfold execOp
  rw [ho]
  simp [hx, go_sem, hc]
theorem hy_loadI {a : Addr} {v : Value} (ho : o.op = .load 3 x) (hx : ρ x = .pointer (some a)) (hc : w.cell? a = some v) : (execOp ρ o).run Tryz.prog w = .ok (.value v) w := by
  unfold execOp
  rw [ho]
  simp [hx, go_sem, hc]
theorem hy_loadT {a : Addr} {v : Value} (ho : o.op = .load 9 x) (hx : ρ x = .pointer (some a)) (hc : w.cell? a = some v) : (execOp ρ o).run Tryz.prog w = .ok (.value v) w := by
  unfold execOp
  rw [ho]
  simp [hx, go_sem, hc]
theorem hy_loadS {a : Addr} {v : Value} (ho : o.op = .load 89 x) (hx : ρ x = .pointer (some a)) (hc : w.cell? a = some v) : (execOp ρ o).run Tryz.prog w = .ok (.value v) w := by
  unfold execOp
  rw [ho]
  simp [hx, go_sem, hc]
theorem hy_lenS {A : Option Addr} {n c : Nat} (ho : o.op = .call { callee := .builtin .len, args := #[x], argTypes := #[89] }) (hx : ρ x = .slice A n c) : (execOp ρ o).run Tryz.prog w = .ok (.value (.int .i64 n)) w := by
  unfold execOp
  rw [ho]
  simp [resolve, invoke, builtin, hx, go_sem, run_len_slice w 89 o.type A n c (P := Tryz.prog) (by kernel_rfl)]
theorem hy_lenT {s : ByteArray} (ho : o.op = .call { callee := .builtin .len, args := #[x], argTypes := #[9] }) (hx : ρ x = .string s) : (execOp ρ o).run Tryz.prog w = .ok (.value (.int .i64 s.size)) w := by
  unfold execOp
  rw [ho]
  simp [resolve, invoke, builtin, hx, go_sem, run_len_string w 9 o.type s (P := Tryz.prog) (by kernel_rfl)]
theorem hy_eql {t u : TypeId} {A B : Int} {q : Bool} (ho : o.op = .binOp .eql t x y u) (hx : ρ x = .int .i64 A) (hy : ρ y = .int .i64 B) (hq : (A == B) = q) : (execOp ρ o).run Tryz.prog w = .ok (.value (.bool q)) w := by
  unfold execOp
  rw [ho]
  subst hq
  simp [hx, hy, go_sem]
theorem hy_geq {t u : TypeId} {A B : Int} {q : Bool} (ho : o.op = .binOp .geq t x y u) (hx : ρ x = .int .i64 A) (hy : ρ y = .int .i64 B) (hq : decide (B ≤ A) = q) : (execOp ρ o).run Tryz.prog w = .ok (.value (.bool q)) w := by
  unfold execOp
  rw [ho]
  subst hq
  simp [hx, hy, go_sem]
end

/-- The operations of a region of a function's text. -/
def regionOps (i : Nat) : Code → Option (Array Oper)
  | .region j ops _ => if j = i then some ops else none
  | .seq a b => (regionOps i a).or (regionOps i b)
  | .cond _ a b => (regionOps i a).or (regionOps i b)
  | .block _ b => regionOps i b
  | .loop b => regionOps i b
  | .scope b => regionOps i b
  | .rangeFunc _ _ a b => (regionOps i a).or (regionOps i b)
  | _ => none
theorem lexHead_step {md : Region.Mode} {ops : Array Oper} {g f k : Nat} {listed listed' : Array Bool} (h1 : (Region.ready md ops listed).contains k = true) (h2 : Region.free md ops listed k = true) (h3 : listed.setIfInBounds k true = listed')
    (h : Region.lexHead md ops g f (k + 1) listed' = true) : Region.lexHead md ops g (f + 1) k listed = true := by
  subst h3
  unfold Region.lexHead
  rw [h1, h2, h]
  rfl
theorem lexHead_eq {md : Region.Mode} {ops : Array Oper} {g f k : Nat} {listed listed' : Array Bool} (h : listed = listed') (H : Region.lexHead md ops g f k listed' = true) : Region.lexHead md ops g f k listed = true := h ▸ H
/-- The reader's last test of a round. -/
theorem readerLex : Region.lexTailB .any (((Tryz.f80).body.bind (regionOps 11)).getD #[]) 25 = true := by
  unfold Region.lexTailB
  simp only [Bool.and_eq_true]
  refine ⟨⟨⟨⟨by kernel_rfl, by kernel_rfl⟩, by kernel_rfl⟩, by kernel_rfl⟩, ?_⟩
  refine lexHead_eq (listed' := #[false, false, false, false, false, false, false, false, false, false, false, false, false, false, false, false, false, false, false, false, false, false, false, false, false, false]) (by kernel_rfl) ?_
  refine lexHead_step (listed' := #[true, false, false, false, false, false, false, false, false, false, false, false, false, false, false, false, false, false, false, false, false, false, false, false, false, false]) (by kernel_rfl) (by kernel_rfl) (by kernel_rfl) ?_
  refine lexHead_step (listed' := #[true, true, false, false, false, false, false, false, false, false, false, false, false, false, false, false, false, false, false, false, false, false, false, false, false, false]) (by kernel_rfl) (by kernel_rfl) (by kernel_rfl) ?_
  refine lexHead_step (listed' := #[true, true, true, false, false, false, false, false, false, false, false, false, false, false, false, false, false, false, false, false, false, false, false, false, false, false]) (by kernel_rfl) (by kernel_rfl) (by kernel_rfl) ?_
  refine lexHead_step (listed' := #[true, true, true, true, false, false, false, false, false, false, false, false, false, false, false, false, false, false, false, false, false, false, false, false, false, false]) (by kernel_rfl) (by kernel_rfl) (by kernel_rfl) ?_
  refine lexHead_step (listed' := #[true, true, true, true, true, false, false, false, false, false, false, false, false, false, false, false, false, false, false, false, false, false, false, false, false, false]) (by kernel_rfl) (by kernel_rfl) (by kernel_rfl) ?_
  refine lexHead_step (listed' := #[true, true, true, true, true, true, false, false, false, false, false, false, false, false, false, false, false, false, false, false, false, false, false, false, false, false]) (by kernel_rfl) (by kernel_rfl) (by kernel_rfl) ?_
  refine lexHead_step (listed' := #[true, true, true, true, true, true, true, false, false, false, false, false, false, false, false, false, false, false, false, false, false, false, false, false, false, false]) (by kernel_rfl) (by kernel_rfl) (by kernel_rfl) ?_
  refine lexHead_step (listed' := #[true, true, true, true, true, true, true, true, false, false, false, false, false, false, false, false, false, false, false, false, false, false, false, false, false, false]) (by kernel_rfl) (by kernel_rfl) (by kernel_rfl) ?_
  refine lexHead_step (listed' := #[true, true, true, true, true, true, true, true, true, false, false, false, false, false, false, false, false, false, false, false, false, false, false, false, false, false]) (by kernel_rfl) (by kernel_rfl) (by kernel_rfl) ?_
  refine lexHead_step (listed' := #[true, true, true, true, true, true, true, true, true, true, false, false, false, false, false, false, false, false, false, false, false, false, false, false, false, false]) (by kernel_rfl) (by kernel_rfl) (by kernel_rfl) ?_
  refine lexHead_step (listed' := #[true, true, true, true, true, true, true, true, true, true, true, false, false, false, false, false, false, false, false, false, false, false, false, false, false, false]) (by kernel_rfl) (by kernel_rfl) (by kernel_rfl) ?_
  refine lexHead_step (listed' := #[true, true, true, true, true, true, true, true, true, true, true, true, false, false, false, false, false, false, false, false, false, false, false, false, false, false]) (by kernel_rfl) (by kernel_rfl) (by kernel_rfl) ?_
  refine lexHead_step (listed' := #[true, true, true, true, true, true, true, true, true, true, true, true, true, false, false, false, false, false, false, false, false, false, false, false, false, false]) (by kernel_rfl) (by kernel_rfl) (by kernel_rfl) ?_
  refine lexHead_step (listed' := #[true, true, true, true, true, true, true, true, true, true, true, true, true, true, false, false, false, false, false, false, false, false, false, false, false, false]) (by kernel_rfl) (by kernel_rfl) (by kernel_rfl) ?_
  refine lexHead_step (listed' := #[true, true, true, true, true, true, true, true, true, true, true, true, true, true, true, false, false, false, false, false, false, false, false, false, false, false]) (by kernel_rfl) (by kernel_rfl) (by kernel_rfl) ?_
  refine lexHead_step (listed' := #[true, true, true, true, true, true, true, true, true, true, true, true, true, true, true, true, false, false, false, false, false, false, false, false, false, false]) (by kernel_rfl) (by kernel_rfl) (by kernel_rfl) ?_
  refine lexHead_step (listed' := #[true, true, true, true, true, true, true, true, true, true, true, true, true, true, true, true, true, false, false, false, false, false, false, false, false, false]) (by kernel_rfl) (by kernel_rfl) (by kernel_rfl) ?_
  refine lexHead_step (listed' := #[true, true, true, true, true, true, true, true, true, true, true, true, true, true, true, true, true, true, false, false, false, false, false, false, false, false]) (by kernel_rfl) (by kernel_rfl) (by kernel_rfl) ?_
  refine lexHead_step (listed' := #[true, true, true, true, true, true, true, true, true, true, true, true, true, true, true, true, true, true, true, false, false, false, false, false, false, false]) (by kernel_rfl) (by kernel_rfl) (by kernel_rfl) ?_
  refine lexHead_step (listed' := #[true, true, true, true, true, true, true, true, true, true, true, true, true, true, true, true, true, true, true, true, false, false, false, false, false, false]) (by kernel_rfl) (by kernel_rfl) (by kernel_rfl) ?_
  refine lexHead_step (listed' := #[true, true, true, true, true, true, true, true, true, true, true, true, true, true, true, true, true, true, true, true, true, false, false, false, false, false]) (by kernel_rfl) (by kernel_rfl) (by kernel_rfl) ?_
  refine lexHead_step (listed' := #[true, true, true, true, true, true, true, true, true, true, true, true, true, true, true, true, true, true, true, true, true, true, false, false, false, false]) (by kernel_rfl) (by kernel_rfl) (by kernel_rfl) ?_
  refine lexHead_step (listed' := #[true, true, true, true, true, true, true, true, true, true, true, true, true, true, true, true, true, true, true, true, true, true, true, false, false, false]) (by kernel_rfl) (by kernel_rfl) (by kernel_rfl) ?_
  refine lexHead_step (listed' := #[true, true, true, true, true, true, true, true, true, true, true, true, true, true, true, true, true, true, true, true, true, true, true, true, false, false]) (by kernel_rfl) (by kernel_rfl) (by kernel_rfl) ?_
  refine lexHead_step (listed' := #[true, true, true, true, true, true, true, true, true, true, true, true, true, true, true, true, true, true, true, true, true, true, true, true, true, false]) (by kernel_rfl) (by kernel_rfl) (by kernel_rfl) ?_
  kernel_rfl

theorem readerLex_of {ops : Array Oper} (h : ops = ((Tryz.f80).body.bind (regionOps 11)).getD #[]) : Region.lexTailB .any ops 25 = true := by
  rw [h]
  exact readerLex

end Go.Proofs.YtcpiojliakgdlaaGreatDoor
