/- The two readers' smallest steps: sees and skip. -/
import Derived.Test.YtadichddgpojpaaDoorRq
import Derived.Test.YtadichddgpojpaaDoorAd
import Derived.BigQuiet
import Derived.Laws.IdiomStrings
namespace Go.Proofs.YtadichddgpojpaaDoor
open Go.RowKit

theorem Only.refl (w : World) (may : Nat → Prop) : Only w w may := ⟨rfl, rfl, rfl, Nat.le_refl _, fun _ _ _ => rfl⟩
theorem Only.trans {w w1 w2 : World} {may : Nat → Prop} (h : Only w w1 may) (h' : Only w1 w2 may) : Only w w2 may :=
  ⟨h'.os.trans h.os, h'.tape.trans h.tape, h'.output.trans h.output, Nat.le_trans h.size h'.size, fun k hk hm => (h'.block k (Nat.lt_of_lt_of_le hk h.size) hm).trans (h.block k hk hm)⟩
theorem Only.drew' {w w' : World} {may : Nat → Prop} (h : Only w w' may) : Only w w'.drew may := ⟨h.os, h.tape, h.output, h.size, h.block⟩
theorem Only.drewN' {w w' : World} {may : Nat → Prop} (h : Only w w' may) (n : Nat) : Only w (w'.drewN n) may := ⟨h.os, h.tape, h.output, h.size, h.block⟩
theorem Only.set {w w' : World} {b : Nat} (h : Only w w' (· = b)) (i : Nat) (u : Value) : Only w (w'.setCell ⟨b, i, none⟩ u) (· = b) := by
  have hb : Below 0 w' (w'.setCell ⟨b, i, none⟩ u) := (Below.refl 0 w').setCell (Nat.zero_le _) u
  exact ⟨hb.os.trans h.os, hb.tape.trans h.tape, hb.output.trans h.output, by have := h.size; have := hb.size; omega, fun k hk hm => (Below.heap_setCell w' ⟨b, i, none⟩ u k hm).trans (h.block k hk hm)⟩

/-- Is this byte next? -/
def nextB (t : ByteArray) (k : Nat) (c : UInt8) : Bool := (t.data.toList.drop k).head? == some c
theorem nextB_at {t : ByteArray} {k : Nat} (c : UInt8) (h : k < t.size) : nextB t k c = decide (t[k] = c) := by
  unfold nextB
  rw [List.drop_eq_getElem_cons (by simpa using h), List.head?_cons]
  by_cases e : t[k] = c
  · rw [decide_eq_true e, ← e]
    exact beq_self_eq_true _
  · rw [decide_eq_false e]
    exact beq_eq_false_iff_ne.2 (fun h => e (by injection h))
theorem nextB_end {t : ByteArray} {k : Nat} (c : UInt8) (h : t.size ≤ k) : nextB t k c = false := by
  unfold nextB
  rw [List.drop_of_length_le (by simpa using h)]
  rfl

/-- The place behind it. -/
def stepB (t : ByteArray) (k : Nat) (c : UInt8) : Nat := if nextB t k c then k + 1 else k
theorem stepB_yes {t : ByteArray} {k : Nat} {c : UInt8} (h : nextB t k c = true) : stepB t k c = k + 1 := if_pos h
theorem stepB_no {t : ByteArray} {k : Nat} {c : UInt8} (h : nextB t k c = false) : stepB t k c = k := if_neg (by rw [h]; decide)

end Go.Proofs.YtadichddgpojpaaDoor

/- The program's reader: skip, expectEnd. -/
namespace Go.Proofs.YtadichddgpojpaaDoor
open Go.RowKit

/-- The program's reader has given up. -/
def Died (e : Ending) : Prop := ∃ m : ByteArray, e = .panicked [{ v := .iface 9 (.string m), recovered := false }]

end Go.Proofs.YtadichddgpojpaaDoor

/- The program's reader: readSize. -/
namespace Go.Proofs.YtadichddgpojpaaDoor
open Go.RowKit

theorem iSize_end {t : ByteArray} {k n : Nat} (h : t.size ≤ k) : iSize (t.data.toList.drop k) n = if n = 0 then none else some (n, t.data.toList.drop k) := by
  rw [List.drop_of_length_le (by simpa using h)]
  rfl
theorem iSize_at {t : ByteArray} {k n : Nat} (h : k < t.size) : iSize (t.data.toList.drop k) n = if isDig t[k] then (if 1 ≤ 10 * n + (t[k].toNat - 48) ∧ 10 * n + (t[k].toNat - 48) ≤ 99 then iSize (t.data.toList.drop (k + 1)) (10 * n + (t[k].toNat - 48)) else none) else if n = 0 then none else some (n, t.data.toList.drop k) := by
  rw [List.drop_eq_getElem_cons (by simpa using h)]
  rfl

def leftAt (t : ByteArray) (b : Nat) (w : World) : Nat := t.size - (match w.cell? ⟨b, 1, none⟩ with | some i => (intOf i).toNat | none => 0)
theorem leftAt_of {t : ByteArray} {b : Nat} {w : World} {k : Nat} (h : w.cell? ⟨b, 1, none⟩ = some (.int .i64 k)) : leftAt t b w = t.size - k := by
  unfold leftAt
  rw [h]
  simp [intOf]

end Go.Proofs.YtadichddgpojpaaDoor

/- The program's reader: readName. -/
namespace Go.Proofs.YtadichddgpojpaaDoor
open Go.RowKit

theorem Only.andBelow {w w1 w2 : World} {may : Nat → Prop} (h : Only w w1 may) (hb : Below w1.heap.size w1 w2) : Only w w2 may :=
  ⟨hb.os.trans h.os, hb.tape.trans h.tape, hb.output.trans h.output, Nat.le_trans h.size hb.size, fun k hk hm => (hb.block k (Nat.lt_of_lt_of_le hk h.size)).trans (h.block k hk hm)⟩

end Go.Proofs.YtadichddgpojpaaDoor

/- The reference's number of a text of at most three digits. -/
namespace Go.Proofs.YtadichddgpojpaaDoor
open Go.RowKit

theorem valB_at {s : ByteArray} {k m : Nat} (h : k < s.size) : valB (s.data.toList.drop k) m = valB (s.data.toList.drop (k + 1)) (m * 10 + (s[k].toNat - 48)) := by
  rw [List.drop_eq_getElem_cons (by simpa using h)]
  rfl
theorem valB_end {s : ByteArray} {k m : Nat} (h : s.size ≤ k) : valB (s.data.toList.drop k) m = m := by
  rw [List.drop_of_length_le (by simpa using h)]
  rfl
theorem numOk_at {s : ByteArray} (h : 0 < s.size) : numOk s.data.toList = !(decide (s[0] = 48) && decide (1 < s.size)) := by
  have e : s.data.toList = s[0] :: s.data.toList.drop 1 := by
    have := List.drop_eq_getElem_cons (l := s.data.toList) (i := 0) (by simpa using h)
    exact (List.drop_zero (l := s.data.toList)).symm.trans this
  have hl : (s.data.toList.drop 1).length = s.size - 1 := by simp
  rw [e]
  show (!(decide (s[0] = 48) && decide (0 < (s.data.toList.drop 1).length))) = _
  rw [hl]
  congr 2
  exact decide_eq_decide.2 (by omega)

end Go.Proofs.YtadichddgpojpaaDoor
