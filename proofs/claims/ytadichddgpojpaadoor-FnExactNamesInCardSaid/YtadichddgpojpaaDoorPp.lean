/- The path of a node, yielded by an iterator that calls itself. -/
import Derived.Test.YtadichddgpojpaaDoorRf
namespace Go.Proofs.YtadichddgpojpaaDoor
open Go.RowKit Go.Shelf
attribute [local go_sem] Oper.semAt_some

theorem yield_any {m : Nat} (m' : Nat) {P : Program} {l : Nat} {args : Array Value} {W : World} {R : Ending → World → Prop} (h : YieldAt Fence.wide m P l args W R) : YieldAt Fence.wide m' P l args W R := by
  obtain ⟨fn, tmps, assign, body, hy, hR⟩ := h
  exact ⟨fn, tmps, assign, body, hy, ⟨hR.1, fun c cs _ => hR.2 c cs (fun d h => by simp [Fence.wide] at h)⟩⟩

/-- From the root down to a segment, by index. -/
def rootPath (l : List Seg) : Nat → Nat → List Nat
  | 0, _ => []
  | f + 1, i => (if parAt l i < 0 then [] else rootPath l f (parAt l i).toNat) ++ [i]
theorem rootPath_len (l : List Seg) : ∀ f i, (rootPath l f i).length ≤ f
  | 0, _ => Nat.le_refl 0
  | f + 1, i => by
    unfold rootPath
    have := rootPath_len l f (parAt l i).toNat
    split <;> simp <;> omega
theorem rootPath_lt {l : List Seg} (hd : Down l l.length) : ∀ f i, i < l.length → ∀ j ∈ rootPath l f i, j < l.length
  | 0, _, _, j, hj => by simp [rootPath] at hj
  | f + 1, i, hi, j, hj => by
    unfold rootPath at hj
    have h1 := hd i hi
    rcases List.mem_append.1 hj with h | h
    · split at h
      · simp at h
      · exact rootPath_lt hd f _ (by omega) j h
    · simp at h; omega
theorem rootPath_chain {l : List Seg} (hd : Down l l.length) : ∀ f i, i < l.length → i < f → (chain l f (i : Int)).reverse = (rootPath l f i).map (fun j : Nat => (j : Int))
  | 0, i, _, h => absurd h (by omega)
  | f + 1, i, hi, hf => by
    have h1 := hd i hi
    unfold chain rootPath
    rw [if_neg (by omega), Int.toNat_natCast, List.reverse_cons, List.map_append]
    congr 1
    by_cases hp : parAt l i < 0
    · rw [if_pos hp]
      cases f with
      | zero => rfl
      | succ f => simp [chain, hp]
    · rw [if_neg hp, ← rootPath_chain hd f _ (by omega) (by omega), Int.toNat_of_nonneg (by omega)]

/-- What an iterator reads of the nodes. -/
def Linked (w : World) (n₀ : Nat) (l : List Seg) (nb : Nat → Nat) : Prop := ∀ j, j < l.length → nb j < n₀ ∧ w.cell? ⟨nb j, 2, none⟩ = some (.pointer (parPtr l nb j))
theorem Linked.below {w w' : World} {n₀ : Nat} {l : List Seg} {nb : Nat → Nat} (h : Linked w n₀ l nb) (hb : Below n₀ w w') : Linked w' n₀ l nb := fun j hj => ⟨(h j hj).1, (hb.cell (p := ⟨nb j, 2, none⟩) (h j hj).1).trans (h j hj).2⟩
/-- A box of one cell, kept by every round that goes on. -/
def BoxAt (W : World) (n₀ D Bs : Nat) (v : Value) (t : TypeId) : Prop := (Bs < n₀ ∨ D ≤ Bs) ∧ t ≠ 5 ∧ W.heap[Bs]? = some (.cells #[v] t (0, 0))
theorem BoxAt.cell {W : World} {n₀ D Bs : Nat} {v : Value} {t : TypeId} (h : BoxAt W n₀ D Bs v t) : W.cell? ⟨Bs, 0, none⟩ = some v := Row.cell (h.2.2 : Row W Bs t #[v]) 0
theorem BoxAt.keep {W W' : World} {n₀ D Bs : Nat} {v : Value} {t : TypeId} (h : BoxAt W n₀ D Bs v t) (hb : Below n₀ W W') (hk : KeepsN D W W') : BoxAt W' n₀ D Bs v t := by
  obtain ⟨h1, h2, h3⟩ := h
  refine ⟨h1, h2, ?_⟩
  rcases h1 with h1 | h1
  · exact (hb.block Bs h1).trans h3
  · exact hk.same Bs _ h1 h3 (fun c t' fz he => by injection he with hc ht; subst hc; subst ht; exact ⟨h2, .inl (Nat.le_refl 1)⟩)
theorem BoxAt.grown {W W' : World} {n₀ D Bs : Nat} {v : Value} {t : TypeId} (h : BoxAt W n₀ D Bs v t) {row : Option Nat} (hg : W.grownBy W' row) (hr : ∀ r, row = some r → ∃ o : Obj, W.heap[r]? = some o ∧ o.isCells = false) : BoxAt W' n₀ D Bs v t :=
  ⟨h.1, h.2.1, (hg.block Bs (Array.getElem?_eq_some_iff.1 h.2.2).1 (fun he => by
    obtain ⟨o, ho, hc⟩ := hr Bs he.symm
    rw [h.2.2] at ho
    injection ho with ho
    subst ho
    cases hc)).trans h.2.2⟩

end Go.Proofs.YtadichddgpojpaaDoor
