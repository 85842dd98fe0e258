/- The two readers' smallest steps: sees and skip. -/
import Derived.Test.YtfdcmlmemcbblaaRt
import Derived.Test.YtfdcmlmemcbblaaAd
import Derived.BigQuiet
namespace Go.Proofs.Ytfdcmlmemcbblaa
open Go.RowKit

theorem Only.refl (w : World) (may : Nat → Prop) : Only w w may := ⟨rfl, rfl, rfl, Nat.le_refl _, fun _ _ _ => rfl⟩
theorem Only.drew' {w w' : World} {may : Nat → Prop} (h : Only w w' may) : Only w w'.drew may := ⟨h.os, h.tape, h.output, h.size, h.block⟩
theorem Only.drewN' {w w' : World} {may : Nat → Prop} (h : Only w w' may) (n : Nat) : Only w (w'.drewN n) may := ⟨h.os, h.tape, h.output, h.size, h.block⟩
theorem Only.set {w w' : World} {b : Nat} (h : Only w w' (· = b)) (i : Nat) (u : Value) : Only w (w'.setCell ⟨b, i, none⟩ u) (· = b) := by
  have hb : Below 0 w' (w'.setCell ⟨b, i, none⟩ u) := (Below.refl 0 w').setCell (Nat.zero_le _) u
  exact ⟨hb.os.trans h.os, hb.tape.trans h.tape, hb.output.trans h.output, by have := h.size; have := hb.size; omega, fun k hk hm => (Below.heap_setCell w' ⟨b, i, none⟩ u k hm).trans (h.block k hk hm)⟩

/-- Is this byte next? -/
def nextB (t : ByteArray) (k : Nat) (c : UInt8) : Bool := (t.data.toList.drop k).head? == some c
theorem nextB_at {t : ByteArray} {k : Nat} (c : UInt8) (h : k < t.size) : nextB t k c = decide (t[k] = c) := by
  unfold nextB
  rw [List.drop_eq_getElem_cons (by simpa using h), List.head?_cons]
  by_cases e : t[k] = c
  · rw [decide_eq_true e, ← e]
    exact beq_self_eq_true _
  · rw [decide_eq_false e]
    exact beq_eq_false_iff_ne.2 (fun h => e (by injection h))
theorem nextB_end {t : ByteArray} {k : Nat} (c : UInt8) (h : t.size ≤ k) : nextB t k c = false := by
  unfold nextB
  rw [List.drop_of_length_le (by simpa using h)]
  rfl

/-- The place behind it. -/
def stepB (t : ByteArray) (k : Nat) (c : UInt8) : Nat := if nextB t k c then k + 1 else k
theorem stepB_yes {t : ByteArray} {k : Nat} {c : UInt8} (h : nextB t k c = true) : stepB t k c = k + 1 := if_pos h
theorem stepB_no {t : ByteArray} {k : Nat} {c : UInt8} (h : nextB t k c = false) : stepB t k c = k := if_neg (by rw [h]; decide)

set_option maxRecDepth 100000 in
set_option maxHeartbeats 1000000 in
theorem sees_any (b : Nat) (t : ByteArray) (k : Nat) (bad : Bool) (v : Value) (c : UInt8) (w : World) (hr : Row w b 106 #[.string t, .int .i64 k, .bool bad, v]) (hk : k ≤ t.size) (ht : t.size ≤ 1048576) :
    Calls Try.prog 119 #[.pointer (some ⟨b, 0, none⟩), .int .u8 c.toNat] w fun e w' => e = .returned (.bool (nextB t k c)) ∧ Only w w' (· = b) ∧
      Row w' b 106 #[.string t, .int .i64 (stepB t k c : Nat), .bool bad, v] := by
  have c0 : w.cell? ⟨b, 0, none⟩ = some (.string t) := hr.cell 0
  have c1 : w.cell? ⟨b, 1, none⟩ = some (.int .i64 k) := hr.cell 1
  have z1 : w.frozen? ⟨b, 1, none⟩ = false := hr.free 1
  have HR := Lib.hid hr
  clear hr
  have hk0 : (0 : Int) ≤ (k : Int) := Int.natCast_nonneg _
  by_cases hlt : k < t.size
  · have hlt' : (k : Int) < (t.size : Int) := by omega
    have hg : decide (k < t.size) = true := decide_eq_true hlt
    have HX := Lib.hid (nextB_at c hlt)
    by_cases he : t[k] = c
    · have hq : ((t[k].toNat : Int) == (c.toNat : Int)) = true := by rw [he]; simp
      have HE := Lib.hid (HX.out.trans (decide_eq_true he))
      clear he
      go_enter Try.func119, Try.ntmps119
      go_wp2_with fail
      go_quiet (fail)
      go_wp2
      go_ret
      refine ⟨ret_bool HE.out.symm, ((Only.refl w _).drewN' _).set 1 _, ?_⟩
      rw [stepB_yes HE.out]
      exact Row.put (w := w.drewN nq) HR.out 1 _
    · have hq : ((t[k].toNat : Int) == (c.toNat : Int)) = false := by
        rw [beq_eq_false_iff_ne]
        exact fun e => he (UInt8.toNat_inj.1 (by omega))
      have HE := Lib.hid (HX.out.trans (decide_eq_false he))
      clear he
      go_enter Try.func119, Try.ntmps119
      go_wp2_with fail
      go_quiet (fail)
      go_wp2
      go_ret
      refine ⟨ret_bool HE.out.symm, (Only.refl w _).drewN' _, ?_⟩
      rw [stepB_no HE.out]
      exact HR.out
  · have hg : decide (k < t.size) = false := decide_eq_false hlt
    have HE := Lib.hid (nextB_end (k := k) c (by omega : t.size ≤ k))
    go_enter Try.func119, Try.ntmps119
    go_wp2_with fail
    go_quiet (fail)
    go_wp2
    go_ret
    refine ⟨ret_bool HE.out.symm, (Only.refl w _).drewN' _, ?_⟩
    rw [stepB_no HE.out]
    exact HR.out

end Go.Proofs.Ytfdcmlmemcbblaa
