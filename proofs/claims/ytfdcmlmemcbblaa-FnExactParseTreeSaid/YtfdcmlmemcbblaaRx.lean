/- The program's reader: skip, expectEnd. -/
import Derived.Test.YtfdcmlmemcbblaaRw
namespace Go.Proofs.Ytfdcmlmemcbblaa
open Go.RowKit

/-- The program's reader has given up. -/
def Died (e : Ending) : Prop := ∃ m : ByteArray, e = .panicked [{ v := .iface 9 (.string m), recovered := false }]

set_option maxRecDepth 100000 in
set_option maxHeartbeats 1000000 in
theorem skip_any (b : Nat) (t : ByteArray) (k : Nat) (v : Value) (c : UInt8) (w : World) (hr : Row w b 110 #[.string t, .int .i64 k, v]) (hk : k ≤ t.size) (ht : t.size ≤ 1048576) :
    Calls Try.prog 122 #[.pointer (some ⟨b, 0, none⟩), .int .u8 c.toNat] w fun e w' => e = .returned (.bool (nextB t k c)) ∧ Only w w' (· = b) ∧
      Row w' b 110 #[.string t, .int .i64 (stepB t k c : Nat), v] := by
  have c0 : w.cell? ⟨b, 0, none⟩ = some (.string t) := hr.cell 0
  have c1 : w.cell? ⟨b, 1, none⟩ = some (.int .i64 k) := hr.cell 1
  have z1 : w.frozen? ⟨b, 1, none⟩ = false := hr.free 1
  have HR := Lib.hid hr
  clear hr
  have hk0 : (0 : Int) ≤ (k : Int) := Int.natCast_nonneg _
  by_cases hlt : k < t.size
  · have hlt' : (k : Int) < (t.size : Int) := by omega
    have hg : ((k : Int) == (t.size : Int)) = false := by rw [beq_eq_false_iff_ne]; omega
    have HX := Lib.hid (nextB_at c hlt)
    by_cases he : t[k] = c
    · have hq : ((t[k].toNat : Int) == (c.toNat : Int)) = true := by rw [he]; simp
      have HE := Lib.hid (HX.out.trans (decide_eq_true he))
      clear he
      go_enter Try.func122, Try.ntmps122
      go_wp2_with fail
      go_quiet (fail)
      go_wp2
      go_ret
      refine ⟨ret_bool HE.out.symm, ((Only.refl w _).drewN' _).set 1 _, ?_⟩
      rw [stepB_yes HE.out]
      exact Row.put (w := w.drewN nq) HR.out 1 _
    · have hq : ((t[k].toNat : Int) == (c.toNat : Int)) = false := by
        rw [beq_eq_false_iff_ne]
        exact fun e => he (UInt8.toNat_inj.1 (by omega))
      have HE := Lib.hid (HX.out.trans (decide_eq_false he))
      clear he
      go_enter Try.func122, Try.ntmps122
      go_wp2_with fail
      go_quiet (fail)
      go_wp2
      go_ret
      refine ⟨ret_bool HE.out.symm, (Only.refl w _).drewN' _, ?_⟩
      rw [stepB_no HE.out]
      exact HR.out
  · have hg : ((k : Int) == (t.size : Int)) = true := by rw [beq_iff_eq]; omega
    have HE := Lib.hid (nextB_end (k := k) c (by omega : t.size ≤ k))
    go_enter Try.func122, Try.ntmps122
    go_wp2_with fail
    go_quiet (fail)
    go_wp2
    go_ret
    refine ⟨ret_bool HE.out.symm, (Only.refl w _).drewN' _, ?_⟩
    rw [stepB_no HE.out]
    exact HR.out

set_option maxRecDepth 100000 in
set_option maxHeartbeats 1000000 in
theorem expectEnd_any (b : Nat) (t : ByteArray) (k : Nat) (v : Value) (w : World) (hr : Row w b 110 #[.string t, .int .i64 k, v]) :
    Calls Try.prog 99 #[.pointer (some ⟨b, 0, none⟩)] w fun e w' => ((k = t.size ∧ e = .returned (.tuple #[])) ∨ (k ≠ t.size ∧ Died e)) ∧ Only w w' (fun _ => False) := by
  have c0 : w.cell? ⟨b, 0, none⟩ = some (.string t) := hr.cell 0
  have c1 : w.cell? ⟨b, 1, none⟩ = some (.int .i64 k) := hr.cell 1
  clear hr
  by_cases hlt : k = t.size
  · have hg : ((k : Int) == (t.size : Int)) = true := by rw [beq_iff_eq]; omega
    go_enter Try.func99, Try.ntmps99
    go_wp2_with fail
    go_quiet (fail)
    go_wp2
    go_end0
    exact ⟨.inl ⟨hlt, rfl⟩, (Only.refl w _).drewN' _⟩
  · have hg : ((k : Int) == (t.size : Int)) = false := by rw [beq_eq_false_iff_ne]; omega
    go_enter Try.func99, Try.ntmps99
    go_wp2_with fail
    go_quiet (fail)
    go_wp2
    exact ⟨rfl, .inr ⟨hlt, _, rfl⟩, (Only.refl w _).drewN' _⟩

end Go.Proofs.Ytfdcmlmemcbblaa
