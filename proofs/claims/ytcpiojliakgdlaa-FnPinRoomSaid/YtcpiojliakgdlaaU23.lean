/- Joined: Yf. -/
import Derived.Test.YtcpiojliakgdlaaU21
import Derived.Test.YtcpiojliakgdlaaU22
/- The program's needs: an iterator that calls itself and tells calls from returns. -/
namespace Go.Proofs.Ytcpiojliakgdlaa
open Go.RowKit Go.Shelf
attribute [local go_sem] Oper.semAt_some

def encN (x : UInt8 × Bool) : Array Value := #[.string ⟨#[x.1]⟩, .bool x.2]
theorem leafName_b (c : UInt8) (w : World) : Calls Try.prog 195 #[.agg #[.string ⟨#[c]⟩]] w fun e w' => e = .returned (.string ⟨#[c]⟩) ∧ Below w.heap.size w w' :=
  (leafName_any c w).mono fun _ _ ⟨he, hw⟩ => ⟨he, by rw [hw]; exact (Below.refl _ w).alloc (Nat.le_refl _) _⟩
/-- What a yield leaves, by its answer. -/
def YB {α : Type} (J Jx : List α → World → Prop) (n₀ D B : Nat) (xs : List α) (W1 W' : World) : Bool → Prop
  | true => J xs W' ∧ Below n₀ W1 W' ∧ KeepsN D W1 W'
  | false => Jx xs W' ∧ KeepsN B W1 W'
theorem yieldYB {α : Type} {m l : Nat} {args : Array Value} {W1 : World} {J Jx : List α → World → Prop} {n₀ D B : Nat} {xs : List α} (h : YieldAt Fence.wide m Try.prog l args W1 fun e W' =>
      (e = .returned (.bool true) ∧ J xs W' ∧ Below n₀ W1 W' ∧ KeepsN D W1 W') ∨ (e = .returned (.bool false) ∧ Jx xs W' ∧ KeepsN B W1 W')) :
    YieldAt Fence.wide m Try.prog l args W1 fun e W' => ∃ b, e = .returned (.bool b) ∧ YB J Jx n₀ D B xs W1 W' b := by
  obtain ⟨fn, tmps, assign, body, hy, hR⟩ := h
  refine ⟨fn, tmps, assign, body, hy, hR.mono ?_⟩
  rintro e W3 (⟨rfl, h3, h4, h5⟩ | ⟨rfl, h3, h4⟩)
  · exact ⟨true, rfl, h3, h4, h5⟩
  · exact ⟨false, rfl, h3, h4⟩

end Go.Proofs.Ytcpiojliakgdlaa
