/- The program's ParseTree: it recovers. -/
import Derived.Test.YtfdcmlmemcbblaaRs
import Derived.Defers
import Derived.Recover
namespace Go.Proofs.Ytfdcmlmemcbblaa
open Go.RowKit

/-- The deferred closure where nothing has panicked: it turns nothing. -/
theorem catch_idle (p q : Addr) (w : World) :
    CallsD Try.prog 97 #[.pointer (some p), .pointer (some q)] .returning w fun e u' w' => e = .returned (.tuple #[]) ∧ u' = .returning ∧ w = w' := by
  refine callsD_of_wpS Try.func97 rfl fun c₀ cs hu => ?_
  apply wpS_seq
  apply wpS_region
  simp [wpOpsS, go_sem, recoverD, hu, Try.ntmps97, Exit.thenS]
  refine wpS_cond (t := false) (by simp [Act.eval, Array.replicate]) ?_
  simp only [Bool.false_eq_true, if_false]
  refine wpS_of_wp (wp_skip ?_)
  cases c₀
  simp_all [bodyPostS, results, Try.results97]

/-- The deferred closure where the reader has given up: no tree, false. -/
theorem catch_panicking (a : Nat) (x : Value) (y : Bool) (m : ByteArray) (w : World) (hp : Row w a 23 #[x]) (hx : ∃ A n c, x = .slice A n c) (hq : Row w (a + 1) 4 #[.bool y]) :
    CallsD Try.prog 97 #[.pointer (some ⟨a, 0, none⟩), .pointer (some ⟨a + 1, 0, none⟩)] (.panicking [{ v := .iface 9 (.string m), recovered := false }]) w fun e u' w' =>
      e = .returned (.tuple #[]) ∧ u' = .panicking [{ v := .iface 9 (.string m), recovered := true }] ∧ w' = (w.setCell ⟨a, 0, none⟩ (.slice none 0 0)).setCell ⟨a + 1, 0, none⟩ (.bool false) := by
  obtain ⟨A, n, c, rfl⟩ := hx
  have p0 : w.cell? ⟨a, 0, none⟩ = some (.slice A n c) := hp.cell 0
  have pz : w.frozen? ⟨a, 0, none⟩ = false := hp.free 0
  have hq1 : Row (w.setCell ⟨a, 0, none⟩ (.slice none 0 0)) (a + 1) 4 #[.bool y] := hq.far (p := ⟨a, 0, none⟩) (show a + 1 ≠ a by omega) _
  have q0 : (w.setCell ⟨a, 0, none⟩ (.slice none 0 0)).cell? ⟨a + 1, 0, none⟩ = some (.bool y) := hq1.cell 0
  have qz : (w.setCell ⟨a, 0, none⟩ (.slice none 0 0)).frozen? ⟨a + 1, 0, none⟩ = false := hq1.free 0
  refine callsD_of_wpS Try.func97 rfl fun c₀ cs hu => ?_
  apply wpS_seq
  apply wpS_region
  simp [wpOpsS, go_sem, recoverD, hu, Try.ntmps97, Exit.thenS]
  refine wpS_cond (t := true) (by simp [Act.eval, Array.replicate]) ?_
  simp only [if_true]
  apply wpS_region
  simp [wpOpsS, go_sem, p0, pz, q0, qz, bodyPostS, results, Try.results97]

end Go.Proofs.Ytfdcmlmemcbblaa
