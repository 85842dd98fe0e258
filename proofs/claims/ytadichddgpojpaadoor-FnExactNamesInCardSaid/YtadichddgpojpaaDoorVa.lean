/- slices.Values at a slice of nodes. -/
import Derived.Test.YtadichddgpojpaaDoorSb
namespace Go.Proofs.YtadichddgpojpaaDoor
open Go.RowKit Go.Shelf
attribute [local go_sem] Oper.semAt_some

/-- The slice value 'sv' holds pointers to the nodes 'ks', in a block below n₀; or it is nil and there are none. -/
def PtrsAt (n₀ : Nat) (W : World) (sv : Value) {l : List Seg} (nb : Nat → Nat) (ks : List (Ix l)) : Prop :=
  (sv = .slice none 0 0 ∧ ks = []) ∨ ∃ b off cap, sv = .slice (some ⟨b, off, none⟩) ks.length cap ∧ b < n₀ ∧ ∀ (j : Nat) (x : Ix l), ks[j]? = some x → W.cell? ⟨b, off + j, none⟩ = some (.pointer (some ⟨nb x.1, 0, none⟩))
theorem PtrsAt.below {n₀ : Nat} {A B : World} (h : Below n₀ A B) {sv : Value} {l : List Seg} {nb : Nat → Nat} {ks : List (Ix l)} : PtrsAt n₀ A sv nb ks → PtrsAt n₀ B sv nb ks
  | .inl e => .inl e
  | .inr ⟨b, off, cap, e, hb, hc⟩ => .inr ⟨b, off, cap, e, hb, fun j x hj => (h.cell (p := ⟨b, off + j, none⟩) hb).trans (hc j x hj)⟩

end Go.Proofs.YtadichddgpojpaaDoor

/- NamesOf and ChildrenOf: the program's and the model's. -/
namespace Go.Proofs.YtadichddgpojpaaDoor
open Go.RowKit Go.Shelf

theorem ret_two {a b : ByteArray} {c d : Bool} (h : a = b) (k : c = d) : Ending.returned (.tuple #[.string a, .bool c]) = .returned (.tuple #[.string b, .bool d]) := by rw [h, k]

def nmAt (l : List Seg) (j : Nat) : List UInt8 := match l[j]? with
  | some s => s.name.data.toList
  | none => []
theorem nmAt_of {l : List Seg} {j : Nat} (h : j < l.length) : nmAt l j = l[j].name.data.toList := by unfold nmAt; rw [List.getElem?_eq_getElem h]
def ixOf (l : List Seg) (js : List Nat) (h : ∀ j ∈ js, j < l.length) : List (Ix l) := js.pmap (fun j h => ⟨j, h⟩) h
theorem ixOf_len (l : List Seg) (js : List Nat) (h : ∀ j ∈ js, j < l.length) : (ixOf l js h).length = js.length := by simp [ixOf]
theorem ixOf_at {l : List Seg} {js : List Nat} {h : ∀ j ∈ js, j < l.length} {i : Nat} {x : Ix l} (hx : (ixOf l js h)[i]? = some x) : js[i]? = some x.1 := by
  unfold ixOf at hx
  rw [List.getElem?_pmap] at hx
  cases hj : js[i]? with
  | none => simp [hj] at hx
  | some j => simp [hj] at hx; rw [← hx]
theorem nameBytes_ixOf (l : List Seg) : ∀ (js : List Nat) (h : ∀ j ∈ js, j < l.length), nameBytes l (ixOf l js h) = js.flatMap (nmAt l)
  | [], _ => rfl
  | j :: js, h => by
    have h1 := nameBytes_ixOf l js (fun i hi => h i (List.mem_cons_of_mem _ hi))
    have hj : j < l.length := h j List.mem_cons_self
    show (l[j]'hj).name.data.toList ++ nameBytes l (ixOf l js _) = nmAt l j ++ js.flatMap (nmAt l)
    rw [h1, nmAt_of hj]
theorem range_names (l : List Seg) : ∀ k, k ≤ l.length → (List.range k).flatMap (nmAt l) = (seenOf l k).data.toList
  | 0, _ => rfl
  | k + 1, hk => by
    rw [List.range_succ, List.flatMap_append, range_names l k (by omega), seenOf_succ (by omega)]
    show _ = (seenOf l k ++ l[k].name).data.toList
    rw [ByteArray.data_append, Array.toList_append]
    simp [nmAt_of (show k < l.length by omega)]
theorem valid_names {l : List Seg} (h : validB l = true) : ∀ s ∈ l, s.name.size ≤ 1 := fun s hs => by
  obtain ⟨j, hj, rfl⟩ := List.getElem_of_mem hs
  obtain ⟨c, hc, _⟩ := nameOk_one ((valid_all h).1.name hj (List.getElem?_eq_getElem hj))
  rw [hc]
  exact Nat.le_refl 1

def namesStr (l : List Seg) : ByteArray := if validB l = true then seenOf l l.length else ⟨#[]⟩

end Go.Proofs.YtadichddgpojpaaDoor
