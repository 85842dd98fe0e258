/- A region that draws its order, walked step by step: each operation that only reads is taken in the text's order. -/
import Derived.Test.YtdbddockmdkmeaaDoorSz
import Derived.Deep.RegionHeld3
namespace Go.Proofs.YtdbddockmdkmeaaDoor
open Go.RowKit

section
variable {P : Program} {ops : Array Oper} {Q : Exit → Act → World → Prop} {md : Region.Mode} {S : World → Prop}

/-- An operation that yields 'v' in each world that meets S is taken first; its slot is 'd'. -/
theorem take_at {i d : Nat} {oi : Oper} {v : Value} {fuel : Nat} {listed : Array Bool} {tmps : Array Value} {w : World} (hi : ops[i]? = some oi) (hd : oi.dst = some d)
    (hs : Region.noSelect ops = true) (hf : Region.free md ops listed i = true) (hr : (Region.ready md ops listed).contains i = true)
    (hQ : ∀ c a w, Q (.panic c) (a.put oi.dst v) w → Q (.panic c) a w) (hw : Region.wanted oi (yielded ops tmps) = true)
    (hy : ∀ w, S w → (execOp (Act.eval ⟨tmps, []⟩) oi).run P w = .ok (.value v) w) (hS : S w)
    (h : wpAnyH P md ops Q S fuel (listed.setIfInBounds i true) ⟨tmps.setIfInBounds d v, []⟩ w) : wpAnyH P md ops Q S (fuel + 1) listed ⟨tmps, []⟩ w := by
  refine wpAnyH_take hi hs hf hr hQ (Or.inl ⟨hw, hy⟩) hS ?_
  rw [hd]
  exact h
theorem run_sub_op {ρ : Operand → Value} {o : Oper} {x y : Operand} {t u : TypeId} {A B C : Int} (ho : o.op = .binOp .sub t x y u) (hx : ρ x = .int .i64 A) (hy : ρ y = .int .i64 B) (hC : IntKind.i64.wrap (A - B) = C) (w : World) :
    (execOp ρ o).run P w = .ok (.value (.int .i64 C)) w := by
  unfold execOp
  rw [ho]
  subst hC
  simp [hx, hy, go_sem]
/-- An operation that its guard passes over. -/
theorem skip_at {i d : Nat} {oi : Oper} {fuel : Nat} {listed : Array Bool} {tmps : Array Value} {w : World} (hi : ops[i]? = some oi) (hd : oi.dst = some d)
    (hs : Region.noSelect ops = true) (hf : Region.free md ops listed i = true) (hr : (Region.ready md ops listed).contains i = true)
    (hQ : ∀ c a w, Q (.panic c) (a.put oi.dst undef) w → Q (.panic c) a w) (hw : Region.wanted oi (yielded ops tmps) = false) (hS : S w)
    (h : wpAnyH P md ops Q S fuel (listed.setIfInBounds i true) ⟨tmps.setIfInBounds d undef, []⟩ w) : wpAnyH P md ops Q S (fuel + 1) listed ⟨tmps, []⟩ w := by
  refine wpAnyH_take hi hs hf hr hQ (Or.inr ⟨hw, rfl⟩) hS ?_
  rw [hd]
  exact h
end

end Go.Proofs.YtdbddockmdkmeaaDoor
