/- The two readers' smallest steps: sees and skip. -/
import Derived.Test.YtfhdbbdehploeaaRq
import Derived.Test.YtfhdbbdehploeaaAd
import Derived.BigQuiet
import Derived.Laws.IdiomStrings
namespace Go.Proofs.Ytfhdbbdehploeaa
open Go.RowKit

theorem Only.refl (w : World) (may : Nat → Prop) : Only w w may := ⟨rfl, rfl, rfl, Nat.le_refl _, fun _ _ _ => rfl⟩
theorem Only.drew' {w w' : World} {may : Nat → Prop} (h : Only w w' may) : Only w w'.drew may := ⟨h.os, h.tape, h.output, h.size, h.block⟩
theorem Only.drewN' {w w' : World} {may : Nat → Prop} (h : Only w w' may) (n : Nat) : Only w (w'.drewN n) may := ⟨h.os, h.tape, h.output, h.size, h.block⟩
theorem Only.set {w w' : World} {b : Nat} (h : Only w w' (· = b)) (i : Nat) (u : Value) : Only w (w'.setCell ⟨b, i, none⟩ u) (· = b) := by
  have hb : Below 0 w' (w'.setCell ⟨b, i, none⟩ u) := (Below.refl 0 w').setCell (Nat.zero_le _) u
  exact ⟨hb.os.trans h.os, hb.tape.trans h.tape, hb.output.trans h.output, by have := h.size; have := hb.size; omega, fun k hk hm => (Below.heap_setCell w' ⟨b, i, none⟩ u k hm).trans (h.block k hk hm)⟩

/-- Is this byte next? -/
def nextB (t : ByteArray) (k : Nat) (c : UInt8) : Bool := (t.data.toList.drop k).head? == some c
theorem nextB_at {t : ByteArray} {k : Nat} (c : UInt8) (h : k < t.size) : nextB t k c = decide (t[k] = c) := by
  unfold nextB
  rw [List.drop_eq_getElem_cons (by simpa using h), List.head?_cons]
  by_cases e : t[k] = c
  · rw [decide_eq_true e, ← e]
    exact beq_self_eq_true _
  · rw [decide_eq_false e]
    exact beq_eq_false_iff_ne.2 (fun h => e (by injection h))
theorem nextB_end {t : ByteArray} {k : Nat} (c : UInt8) (h : t.size ≤ k) : nextB t k c = false := by
  unfold nextB
  rw [List.drop_of_length_le (by simpa using h)]
  rfl

/-- The place behind it. -/
def stepB (t : ByteArray) (k : Nat) (c : UInt8) : Nat := if nextB t k c then k + 1 else k
theorem stepB_yes {t : ByteArray} {k : Nat} {c : UInt8} (h : nextB t k c = true) : stepB t k c = k + 1 := if_pos h
theorem stepB_no {t : ByteArray} {k : Nat} {c : UInt8} (h : nextB t k c = false) : stepB t k c = k := if_neg (by rw [h]; decide)

set_option maxRecDepth 100000 in
set_option maxHeartbeats 1000000 in
theorem sees_any (b : Nat) (t : ByteArray) (k : Nat) (bad : Bool) (v : Value) (c : UInt8) (w : World) (hr : Row w b 194 #[.string t, .int .i64 k, .bool bad, v]) (hk : k ≤ t.size) (ht : t.size ≤ 1048576) :
    Calls Try.prog 189 #[.pointer (some ⟨b, 0, none⟩), .int .u8 c.toNat] w fun e w' => e = .returned (.bool (nextB t k c)) ∧ Only w w' (· = b) ∧
      Row w' b 194 #[.string t, .int .i64 (stepB t k c : Nat), .bool bad, v] := by
  have c0 : w.cell? ⟨b, 0, none⟩ = some (.string t) := hr.cell 0
  have c1 : w.cell? ⟨b, 1, none⟩ = some (.int .i64 k) := hr.cell 1
  have z1 : w.frozen? ⟨b, 1, none⟩ = false := hr.free 1
  have HR := Lib.hid hr
  clear hr
  have hk0 : (0 : Int) ≤ (k : Int) := Int.natCast_nonneg _
  by_cases hlt : k < t.size
  · have hlt' : (k : Int) < (t.size : Int) := by omega
    have hg : decide (k < t.size) = true := decide_eq_true hlt
    have HX := Lib.hid (nextB_at c hlt)
    by_cases he : t[k] = c
    · have hq : ((t[k].toNat : Int) == (c.toNat : Int)) = true := by rw [he]; simp
      have HE := Lib.hid (HX.out.trans (decide_eq_true he))
      clear he
      go_enter Try.func189, Try.ntmps189
      go_wp2_with fail
      go_quiet (fail)
      go_wp2
      go_ret
      refine ⟨ret_bool HE.out.symm, ((Only.refl w _).drewN' _).set 1 _, ?_⟩
      rw [stepB_yes HE.out]
      exact Row.put (w := w.drewN nq) HR.out 1 _
    · have hq : ((t[k].toNat : Int) == (c.toNat : Int)) = false := by
        rw [beq_eq_false_iff_ne]
        exact fun e => he (UInt8.toNat_inj.1 (by omega))
      have HE := Lib.hid (HX.out.trans (decide_eq_false he))
      clear he
      go_enter Try.func189, Try.ntmps189
      go_wp2_with fail
      go_quiet (fail)
      go_wp2
      go_ret
      refine ⟨ret_bool HE.out.symm, (Only.refl w _).drewN' _, ?_⟩
      rw [stepB_no HE.out]
      exact HR.out
  · have hg : decide (k < t.size) = false := decide_eq_false hlt
    have HE := Lib.hid (nextB_end (k := k) c (by omega : t.size ≤ k))
    go_enter Try.func189, Try.ntmps189
    go_wp2_with fail
    go_quiet (fail)
    go_wp2
    go_ret
    refine ⟨ret_bool HE.out.symm, (Only.refl w _).drewN' _, ?_⟩
    rw [stepB_no HE.out]
    exact HR.out

end Go.Proofs.Ytfhdbbdehploeaa

/- The program's reader: skip, expectEnd. -/
namespace Go.Proofs.Ytfhdbbdehploeaa
open Go.RowKit

/-- The program's reader has given up. -/
def Died (e : Ending) : Prop := ∃ m : ByteArray, e = .panicked [{ v := .iface 9 (.string m), recovered := false }]

end Go.Proofs.Ytfhdbbdehploeaa

/- The program's reader: readSize. -/
namespace Go.Proofs.Ytfhdbbdehploeaa
open Go.RowKit

theorem iSize_end {t : ByteArray} {k n : Nat} (h : t.size ≤ k) : iSize (t.data.toList.drop k) n = if n = 0 then none else some (n, t.data.toList.drop k) := by
  rw [List.drop_of_length_le (by simpa using h)]
  rfl
theorem iSize_at {t : ByteArray} {k n : Nat} (h : k < t.size) : iSize (t.data.toList.drop k) n = if isDig t[k] then (if 1 ≤ 10 * n + (t[k].toNat - 48) ∧ 10 * n + (t[k].toNat - 48) ≤ 99 then iSize (t.data.toList.drop (k + 1)) (10 * n + (t[k].toNat - 48)) else none) else if n = 0 then none else some (n, t.data.toList.drop k) := by
  rw [List.drop_eq_getElem_cons (by simpa using h)]
  rfl

def leftAt (t : ByteArray) (b : Nat) (w : World) : Nat := t.size - (match w.cell? ⟨b, 1, none⟩ with | some i => (intOf i).toNat | none => 0)
theorem leftAt_of {t : ByteArray} {b : Nat} {w : World} {k : Nat} (h : w.cell? ⟨b, 1, none⟩ = some (.int .i64 k)) : leftAt t b w = t.size - k := by
  unfold leftAt
  rw [h]
  simp [intOf]

end Go.Proofs.Ytfhdbbdehploeaa

/- The program's reader: readName. -/
namespace Go.Proofs.Ytfhdbbdehploeaa
open Go.RowKit

theorem Only.andBelow {w w1 w2 : World} {may : Nat → Prop} (h : Only w w1 may) (hb : Below w1.heap.size w1 w2) : Only w w2 may :=
  ⟨hb.os.trans h.os, hb.tape.trans h.tape, hb.output.trans h.output, Nat.le_trans h.size hb.size, fun k hk hm => (hb.block k (Nat.lt_of_lt_of_le hk h.size)).trans (h.block k hk hm)⟩

end Go.Proofs.Ytfhdbbdehploeaa

/- The reference's number of a text of at most three digits. -/
namespace Go.Proofs.Ytfhdbbdehploeaa
open Go.RowKit

theorem valB_at {s : ByteArray} {k m : Nat} (h : k < s.size) : valB (s.data.toList.drop k) m = valB (s.data.toList.drop (k + 1)) (m * 10 + (s[k].toNat - 48)) := by
  rw [List.drop_eq_getElem_cons (by simpa using h)]
  rfl
theorem valB_end {s : ByteArray} {k m : Nat} (h : s.size ≤ k) : valB (s.data.toList.drop k) m = m := by
  rw [List.drop_of_length_le (by simpa using h)]
  rfl
theorem numOk_at {s : ByteArray} (h : 0 < s.size) : numOk s.data.toList = !(decide (s[0] = 48) && decide (1 < s.size)) := by
  have e : s.data.toList = s[0] :: s.data.toList.drop 1 := by
    have := List.drop_eq_getElem_cons (l := s.data.toList) (i := 0) (by simpa using h)
    exact (List.drop_zero (l := s.data.toList)).symm.trans this
  have hl : (s.data.toList.drop 1).length = s.size - 1 := by simp
  rw [e]
  show (!(decide (s[0] = 48) && decide (0 < (s.data.toList.drop 1).length))) = _
  rw [hl]
  congr 2
  exact decide_eq_decide.2 (by omega)

set_option maxRecDepth 100000 in
set_option maxHeartbeats 1000000 in
theorem l13Num_digs (s : ByteArray) (w : World) (hd : ∀ k : Nat, ∀ h : k < s.size, isDig s[k] = true) (hz : s.size ≤ 3) :
    Calls Try.prog 188 #[.string s] w fun e w' => e = .returned (.tuple #[.int .i64 (numB s.data.toList), .bool (numOk s.data.toList)]) ∧ w = w' := by
  by_cases h0 : 0 < s.size
  · have HK := Lib.hid (numOk_at h0)
    have hd0 := isDig_iff.1 (hd 0 h0)
    have g1 : decide (0 < s.size) = true := decide_eq_true h0
    have h0' : (0 : Int) < (s.size : Int) := by omega
    have g2 : ((s[0].toNat : Int) == 45) = false := by rw [beq_eq_false_iff_ne]; omega
    have g3 : ((s.size : Int) == 0) = false := by rw [beq_eq_false_iff_ne]; omega
    have g4 : decide (17 < s.size) = false := decide_eq_false (by omega)
    have g5 : ¬ (17 : Int) < (s.size : Int) := by omega
    have HD := Lib.hid hd
    clear hd
    have loop : numOk s.data.toList = true → (((s[0].toNat : Int) == 48) = true ∧ decide (1 < s.size) = false ∧ (s.size : Int) ≤ 1 ∨ ((s[0].toNat : Int) == 48) = false) →
        Calls Try.prog 188 #[.string s] w fun e w' => e = .returned (.tuple #[.int .i64 (numB s.data.toList), .bool (numOk s.data.toList)]) ∧ w = w' := by
      intro hok hor
      have HN : Hid (numB s.data.toList = valB s.data.toList 0) := if_pos hok
      have HO := Lib.hid hok
      clear hok
      have g9 : (((s[0].toNat : Int) == 48) && decide (1 < s.size)) = false := by
        rcases hor with ⟨a, b, _⟩ | a
        · rw [b, Bool.and_false]
        · rw [a]; rfl
      rcases hor with ⟨g6, g7, g8⟩ | g6
      all_goals
        go_enter Try.func188, Try.ntmps188
        go_wp2
        go_loop [5, 6] (fun n i => ∃ k m : Nat, n = .int .i64 m ∧ i = .int .i64 k ∧ k ≤ s.size ∧ (k ≤ 0 → m ≤ 0) ∧ (k ≤ 1 → m ≤ 9) ∧ (k ≤ 2 → m ≤ 99) ∧ m ≤ 999 ∧ Hid (valB s.data.toList 0 = valB (s.data.toList.drop k) m)) (fun _ i => s.size - (intOf i).toNat)
        case atStart => exact ⟨0, 0, rfl, rfl, by omega, by omega, by omega, by omega, by omega, rfl⟩
        case round =>
          obtain ⟨k, m, rfl, rfl, hk, m0, m1, m2, m3, HV⟩ := hrel
          have hk0 : (0 : Int) ≤ (k : Int) := Int.natCast_nonneg _
          by_cases hlt : k < s.size
          · have hdk := isDig_iff.1 (HD.out k hlt)
            have HA := Lib.hid (HV.out.trans (valB_at hlt))
            have hlt' : (k : Int) < (s.size : Int) := by omega
            have e1 : decide (k < s.size) = true := decide_eq_true hlt
            have e2 : decide (s[k].toNat < 48) = false := decide_eq_false (by omega)
            have e3 : decide (57 < s[k].toNat) = false := decide_eq_false (by omega)
            have e4 : (48 : Int) ≤ (s[k].toNat : Int) := by omega
            have e5 : (s[k].toNat : Int) ≤ 57 := by omega
            go_wp2
            go_round
            case rel => exact ⟨k + 1, m * 10 + (s[k].toNat - 48), congrArg (Value.int .i64) (by omega), congrArg (Value.int .i64) (by omega), by omega, by omega, by omega, by omega, by omega, HA⟩
            case measure => simp [intOf]; omega
          · have HA := Lib.hid (HV.out.trans (valB_end (by omega : s.size ≤ k)))
            have e1 : decide (k < s.size) = false := decide_eq_false hlt
            go_wp2
            go_ret2
            exact ⟨by rw [HN.out, HA.out, HO.out]; rfl, rfl⟩
    by_cases h48 : s[0] = 48
    · have g6 : ((s[0].toNat : Int) == 48) = true := by rw [h48]; rfl
      by_cases h1 : 1 < s.size
      · have g7 : decide (1 < s.size) = true := decide_eq_true h1
        have g8 : (1 : Int) < (s.size : Int) := by omega
        have HF : Hid (numOk s.data.toList = false) := by
          show _ = _
          rw [HK.out, decide_eq_true h48, g7]
          rfl
        have HB : Hid (numB s.data.toList = 0) := if_neg (by rw [HF.out]; decide)
        clear loop
        go_enter Try.func188, Try.ntmps188
        go_wp2
        go_ret2
        exact ⟨by rw [HF.out, HB.out]; rfl, rfl⟩
      · have g7 : decide (1 < s.size) = false := decide_eq_false h1
        exact loop (by rw [HK.out, g7, Bool.and_false]; rfl) (.inl ⟨g6, g7, by omega⟩)
    · have g6 : ((s[0].toNat : Int) == 48) = false := by
        rw [beq_eq_false_iff_ne]
        exact fun e => h48 (UInt8.toNat_inj.1 (by simpa using (by omega : s[0].toNat = 48)))
      exact loop (by rw [HK.out, decide_eq_false h48]; rfl) (.inr g6)
  · have hs : s = ⟨#[]⟩ := by
      apply ByteArray.ext
      exact Array.eq_empty_of_size_eq_zero (by have : s.data.size = s.size := rfl; omega)
    subst hs
    clear hd h0 hz
    have HF : Hid (numOk ([] : List UInt8) = false ∧ numB ([] : List UInt8) = 0) := ⟨rfl, rfl⟩
    go_enter Try.func188, Try.ntmps188
    go_wp2
    go_ret2
    exact ⟨rfl, rfl⟩

end Go.Proofs.Ytfhdbbdehploeaa
