/- Joined: Fx. -/
import Derived.Test.YtifkmehnikfihaaGreatU16
import Derived.Test.YtifkmehnikfihaaGreatU01
import Derived.Deep.DeepCutAuto
import Derived.BigRegion
import Derived.BigQuiet
import Derived.Maps.AppendAt
/- A region that reads before it stores: its reading steps, one by one. -/
namespace Go.Proofs.YtifkmehnikfihaaGreat
open Go.RowKit

section
variable {P : Program} {ops : Array Oper} {w : World} {Q : Act → Prop}
/-- An operation of a region that only reads yields 'v'. -/
theorem still_put {d : Nat} {v : Value} {tmps tmps' : Array Value} {o : Oper} {rest : List Oper} (hd : o.dst = some d) (hw : Region.wanted o (yielded ops tmps) = true) (hs : tmps.setIfInBounds d v = tmps')
    (hy : (execOp (Act.eval ⟨tmps, []⟩) o).run P w = .ok (.value v) w) (h : wpStill P ops w Q rest ⟨tmps', []⟩) : wpStill P ops w Q (o :: rest) ⟨tmps, []⟩ := by
  subst hs
  unfold wpStill
  rw [if_pos hw]
  unfold Oper.still
  rw [hy, Oper.stillUpon_value, hd]
  exact h
/-- An operation that its guard passes over. -/
theorem still_skip {d : Nat} {tmps tmps' : Array Value} {o : Oper} {rest : List Oper} (hd : o.dst = some d) (hw : Region.wanted o (yielded ops tmps) = false) (hs : tmps.setIfInBounds d undef = tmps')
    (h : wpStill P ops w Q rest ⟨tmps', []⟩) : wpStill P ops w Q (o :: rest) ⟨tmps, []⟩ := by
  subst hs
  unfold wpStill
  rw [if_neg (by rw [hw]; decide), hd]
  exact h
end

section
variable {ρ : Operand → Value} {o : Oper} {x y : Operand} {w : World}
theorem hy_loadB {a : Addr} {v : Value} (ho : o.op = .load 4 x) (hx : ρ x = .pointer (some a)) (hc : w.cell? a = some v) : (execOp ρ o).run Tryz.prog w = .ok (.value v) w := by
  unfold execOp
  rw [ho]
  simp [hx, go_sem, hc]
theorem hy_loadI {a : Addr} {v : Value} (ho : o.op = .load 3 x) (hx : ρ x = .pointer (some a)) (hc : w.cell? a = some v) : (execOp ρ o).run Tryz.prog w = .ok (.value v) w := by
  unfold execOp
  rw [ho]
  simp [hx, go_sem, hc]
theorem hy_loadT {a : Addr} {v : Value} (ho : o.op = .load 9 x) (hx : ρ x = .pointer (some a)) (hc : w.cell? a = some v) : (execOp ρ o).run Tryz.prog w = .ok (.value v) w := by
  unfold execOp
  rw [ho]
  simp [hx, go_sem, hc]
theorem hy_loadS {a : Addr} {v : Value} (ho : o.op = .load 167 x) (hx : ρ x = .pointer (some a)) (hc : w.cell? a = some v) : (execOp ρ o).run Tryz.prog w = .ok (.value v) w := by
  unfold execOp
  rw [ho]
  simp [hx, go_sem, hc]
theorem hy_lenS {A : Option Addr} {n c : Nat} (ho : o.op = .call { callee := .builtin .len, args := #[x], argTypes := #[167] }) (hx : ρ x = .slice A n c) : (execOp ρ o).run Tryz.prog w = .ok (.value (.int .i64 n)) w := by
  unfold execOp
  rw [ho]
  simp [resolve, invoke, builtin, hx, go_sem, run_len_slice w 167 o.type A n c (P := Tryz.prog) (by kernel_rfl)]
theorem hy_lenT {s : ByteArray} (ho : o.op = .call { callee := .builtin .len, args := #[x], argTypes := #[9] }) (hx : ρ x = .string s) : (execOp ρ o).run Tryz.prog w = .ok (.value (.int .i64 s.size)) w := by
  unfold execOp
  rw [ho]
  simp [resolve, invoke, builtin, hx, go_sem, run_len_string w 9 o.type s (P := Tryz.prog) (by kernel_rfl)]
theorem hy_eql {t u : TypeId} {A B : Int} {q : Bool} (ho : o.op = .binOp .eql t x y u) (hx : ρ x = .int .i64 A) (hy : ρ y = .int .i64 B) (hq : (A == B) = q) : (execOp ρ o).run Tryz.prog w = .ok (.value (.bool q)) w := by
  unfold execOp
  rw [ho]
  subst hq
  simp [hx, hy, go_sem]
theorem hy_geq {t u : TypeId} {A B : Int} {q : Bool} (ho : o.op = .binOp .geq t x y u) (hx : ρ x = .int .i64 A) (hy : ρ y = .int .i64 B) (hq : decide (B ≤ A) = q) : (execOp ρ o).run Tryz.prog w = .ok (.value (.bool q)) w := by
  unfold execOp
  rw [ho]
  subst hq
  simp [hx, hy, go_sem]
end

/-- The operations of a region of a function's text. -/
def regionOps (i : Nat) : Code → Option (Array Oper)
  | .region j ops _ => if j = i then some ops else none
  | .seq a b => (regionOps i a).or (regionOps i b)
  | .cond _ a b => (regionOps i a).or (regionOps i b)
  | .block _ b => regionOps i b
  | .loop b => regionOps i b
  | .scope b => regionOps i b
  | .rangeFunc _ _ a b => (regionOps i a).or (regionOps i b)
  | _ => none
theorem lexHead_step {md : Region.Mode} {ops : Array Oper} {g f k : Nat} {listed listed' : Array Bool} (h1 : (Region.ready md ops listed).contains k = true) (h2 : Region.free md ops listed k = true) (h3 : listed.setIfInBounds k true = listed')
    (h : Region.lexHead md ops g f (k + 1) listed' = true) : Region.lexHead md ops g (f + 1) k listed = true := by
  subst h3
  unfold Region.lexHead
  rw [h1, h2, h]
  rfl
theorem lexHead_eq {md : Region.Mode} {ops : Array Oper} {g f k : Nat} {listed listed' : Array Bool} (h : listed = listed') (H : Region.lexHead md ops g f k listed' = true) : Region.lexHead md ops g f k listed = true := h ▸ H
/-- The reader's last test of a round. -/
theorem readerLex : Region.lexTailB .any (((Tryz.f208).body.bind (regionOps 11)).getD #[]) 25 = true := by
  unfold Region.lexTailB
  simp only [Bool.and_eq_true]
  refine ⟨⟨⟨⟨by kernel_rfl, by kernel_rfl⟩, by kernel_rfl⟩, by kernel_rfl⟩, ?_⟩
  refine lexHead_eq (listed' := #[false, false, false, false, false, false, false, false, false, false, false, false, false, false, false, false, false, false, false, false, false, false, false, false, false, false]) (by kernel_rfl) ?_
  refine lexHead_step (listed' := #[true, false, false, false, false, false, false, false, false, false, false, false, false, false, false, false, false, false, false, false, false, false, false, false, false, false]) (by kernel_rfl) (by kernel_rfl) (by kernel_rfl) ?_
  refine lexHead_step (listed' := #[true, true, false, false, false, false, false, false, false, false, false, false, false, false, false, false, false, false, false, false, false, false, false, false, false, false]) (by kernel_rfl) (by kernel_rfl) (by kernel_rfl) ?_
  refine lexHead_step (listed' := #[true, true, true, false, false, false, false, false, false, false, false, false, false, false, false, false, false, false, false, false, false, false, false, false, false, false]) (by kernel_rfl) (by kernel_rfl) (by kernel_rfl) ?_
  refine lexHead_step (listed' := #[true, true, true, true, false, false, false, false, false, false, false, false, false, false, false, false, false, false, false, false, false, false, false, false, false, false]) (by kernel_rfl) (by kernel_rfl) (by kernel_rfl) ?_
  refine lexHead_step (listed' := #[true, true, true, true, true, false, false, false, false, false, false, false, false, false, false, false, false, false, false, false, false, false, false, false, false, false]) (by kernel_rfl) (by kernel_rfl) (by kernel_rfl) ?_
  refine lexHead_step (listed' := #[true, true, true, true, true, true, false, false, false, false, false, false, false, false, false, false, false, false, false, false, false, false, false, false, false, false]) (by kernel_rfl) (by kernel_rfl) (by kernel_rfl) ?_
  refine lexHead_step (listed' := #[true, true, true, true, true, true, true, false, false, false, false, false, false, false, false, false, false, false, false, false, false, false, false, false, false, false]) (by kernel_rfl) (by kernel_rfl) (by kernel_rfl) ?_
  refine lexHead_step (listed' := #[true, true, true, true, true, true, true, true, false, false, false, false, false, false, false, false, false, false, false, false, false, false, false, false, false, false]) (by kernel_rfl) (by kernel_rfl) (by kernel_rfl) ?_
  refine lexHead_step (listed' := #[true, true, true, true, true, true, true, true, true, false, false, false, false, false, false, false, false, false, false, false, false, false, false, false, false, false]) (by kernel_rfl) (by kernel_rfl) (by kernel_rfl) ?_
  refine lexHead_step (listed' := #[true, true, true, true, true, true, true, true, true, true, false, false, false, false, false, false, false, false, false, false, false, false, false, false, false, false]) (by kernel_rfl) (by kernel_rfl) (by kernel_rfl) ?_
  refine lexHead_step (listed' := #[true, true, true, true, true, true, true, true, true, true, true, false, false, false, false, false, false, false, false, false, false, false, false, false, false, false]) (by kernel_rfl) (by kernel_rfl) (by kernel_rfl) ?_
  refine lexHead_step (listed' := #[true, true, true, true, true, true, true, true, true, true, true, true, false, false, false, false, false, false, false, false, false, false, false, false, false, false]) (by kernel_rfl) (by kernel_rfl) (by kernel_rfl) ?_
  refine lexHead_step (listed' := #[true, true, true, true, true, true, true, true, true, true, true, true, true, false, false, false, false, false, false, false, false, false, false, false, false, false]) (by kernel_rfl) (by kernel_rfl) (by kernel_rfl) ?_
  refine lexHead_step (listed' := #[true, true, true, true, true, true, true, true, true, true, true, true, true, true, false, false, false, false, false, false, false, false, false, false, false, false]) (by kernel_rfl) (by kernel_rfl) (by kernel_rfl) ?_
  refine lexHead_step (listed' := #[true, true, true, true, true, true, true, true, true, true, true, true, true, true, true, false, false, false, false, false, false, false, false, false, false, false]) (by kernel_rfl) (by kernel_rfl) (by kernel_rfl) ?_
  refine lexHead_step (listed' := #[true, true, true, true, true, true, true, true, true, true, true, true, true, true, true, true, false, false, false, false, false, false, false, false, false, false]) (by kernel_rfl) (by kernel_rfl) (by kernel_rfl) ?_
  refine lexHead_step (listed' := #[true, true, true, true, true, true, true, true, true, true, true, true, true, true, true, true, true, false, false, false, false, false, false, false, false, false]) (by kernel_rfl) (by kernel_rfl) (by kernel_rfl) ?_
  refine lexHead_step (listed' := #[true, true, true, true, true, true, true, true, true, true, true, true, true, true, true, true, true, true, false, false, false, false, false, false, false, false]) (by kernel_rfl) (by kernel_rfl) (by kernel_rfl) ?_
  refine lexHead_step (listed' := #[true, true, true, true, true, true, true, true, true, true, true, true, true, true, true, true, true, true, true, false, false, false, false, false, false, false]) (by kernel_rfl) (by kernel_rfl) (by kernel_rfl) ?_
  refine lexHead_step (listed' := #[true, true, true, true, true, true, true, true, true, true, true, true, true, true, true, true, true, true, true, true, false, false, false, false, false, false]) (by kernel_rfl) (by kernel_rfl) (by kernel_rfl) ?_
  refine lexHead_step (listed' := #[true, true, true, true, true, true, true, true, true, true, true, true, true, true, true, true, true, true, true, true, true, false, false, false, false, false]) (by kernel_rfl) (by kernel_rfl) (by kernel_rfl) ?_
  refine lexHead_step (listed' := #[true, true, true, true, true, true, true, true, true, true, true, true, true, true, true, true, true, true, true, true, true, true, false, false, false, false]) (by kernel_rfl) (by kernel_rfl) (by kernel_rfl) ?_
  refine lexHead_step (listed' := #[true, true, true, true, true, true, true, true, true, true, true, true, true, true, true, true, true, true, true, true, true, true, true, false, false, false]) (by kernel_rfl) (by kernel_rfl) (by kernel_rfl) ?_
  refine lexHead_step (listed' := #[true, true, true, true, true, true, true, true, true, true, true, true, true, true, true, true, true, true, true, true, true, true, true, true, false, false]) (by kernel_rfl) (by kernel_rfl) (by kernel_rfl) ?_
  refine lexHead_step (listed' := #[true, true, true, true, true, true, true, true, true, true, true, true, true, true, true, true, true, true, true, true, true, true, true, true, true, false]) (by kernel_rfl) (by kernel_rfl) (by kernel_rfl) ?_
  kernel_rfl

theorem readerLex_of {ops : Array Oper} (h : ops = ((Tryz.f208).body.bind (regionOps 11)).getD #[]) : Region.lexTailB .any ops 25 = true := by
  rw [h]
  exact readerLex

end Go.Proofs.YtifkmehnikfihaaGreat
