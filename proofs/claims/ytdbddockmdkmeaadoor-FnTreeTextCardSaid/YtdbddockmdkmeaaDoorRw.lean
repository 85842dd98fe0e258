/- The two readers' smallest steps: sees and skip. -/
import Derived.Test.YtdbddockmdkmeaaDoorRq
import Derived.Test.YtdbddockmdkmeaaDoorAd
import Derived.BigQuiet
import Derived.Laws.IdiomStrings
namespace Go.Proofs.YtdbddockmdkmeaaDoor
open Go.RowKit

theorem Only.refl (w : World) (may : Nat → Prop) : Only w w may := ⟨rfl, rfl, rfl, Nat.le_refl _, fun _ _ _ => rfl⟩
theorem Only.trans {w w1 w2 : World} {may : Nat → Prop} (h : Only w w1 may) (h' : Only w1 w2 may) : Only w w2 may :=
  ⟨h'.os.trans h.os, h'.tape.trans h.tape, h'.output.trans h.output, Nat.le_trans h.size h'.size, fun k hk hm => (h'.block k (Nat.lt_of_lt_of_le hk h.size) hm).trans (h.block k hk hm)⟩
theorem Only.drew' {w w' : World} {may : Nat → Prop} (h : Only w w' may) : Only w w'.drew may := ⟨h.os, h.tape, h.output, h.size, h.block⟩
theorem Only.drewN' {w w' : World} {may : Nat → Prop} (h : Only w w' may) (n : Nat) : Only w (w'.drewN n) may := ⟨h.os, h.tape, h.output, h.size, h.block⟩
theorem Only.set {w w' : World} {b : Nat} (h : Only w w' (· = b)) (i : Nat) (u : Value) : Only w (w'.setCell ⟨b, i, none⟩ u) (· = b) := by
  have hb : Below 0 w' (w'.setCell ⟨b, i, none⟩ u) := (Below.refl 0 w').setCell (Nat.zero_le _) u
  exact ⟨hb.os.trans h.os, hb.tape.trans h.tape, hb.output.trans h.output, by have := h.size; have := hb.size; omega, fun k hk hm => (Below.heap_setCell w' ⟨b, i, none⟩ u k hm).trans (h.block k hk hm)⟩

/-- Is this byte next? -/
def nextB (t : ByteArray) (k : Nat) (c : UInt8) : Bool := (t.data.toList.drop k).head? == some c
theorem nextB_at {t : ByteArray} {k : Nat} (c : UInt8) (h : k < t.size) : nextB t k c = decide (t[k] = c) := by
  unfold nextB
  rw [List.drop_eq_getElem_cons (by simpa using h), List.head?_cons]
  by_cases e : t[k] = c
  · rw [decide_eq_true e, ← e]
    exact beq_self_eq_true _
  · rw [decide_eq_false e]
    exact beq_eq_false_iff_ne.2 (fun h => e (by injection h))
theorem nextB_end {t : ByteArray} {k : Nat} (c : UInt8) (h : t.size ≤ k) : nextB t k c = false := by
  unfold nextB
  rw [List.drop_of_length_le (by simpa using h)]
  rfl

/-- The place behind it. -/
def stepB (t : ByteArray) (k : Nat) (c : UInt8) : Nat := if nextB t k c then k + 1 else k
theorem stepB_yes {t : ByteArray} {k : Nat} {c : UInt8} (h : nextB t k c = true) : stepB t k c = k + 1 := if_pos h
theorem stepB_no {t : ByteArray} {k : Nat} {c : UInt8} (h : nextB t k c = false) : stepB t k c = k := if_neg (by rw [h]; decide)

set_option maxRecDepth 100000 in
set_option maxHeartbeats 1000000 in
theorem sees_any (b : Nat) (t : ByteArray) (k : Nat) (bad : Bool) (v : Value) (c : UInt8) (w : World) (hr : Row w b 82 #[.string t, .int .i64 k, .bool bad, v]) (hk : k ≤ t.size) (ht : t.size ≤ 1048576) :
    Calls Tryd.prog 104 #[.pointer (some ⟨b, 0, none⟩), .int .u8 c.toNat] w fun e w' => e = .returned (.bool (nextB t k c)) ∧ Only w w' (· = b) ∧
      Row w' b 82 #[.string t, .int .i64 (stepB t k c : Nat), .bool bad, v] := by
  have c0 : w.cell? ⟨b, 0, none⟩ = some (.string t) := hr.cell 0
  have c1 : w.cell? ⟨b, 1, none⟩ = some (.int .i64 k) := hr.cell 1
  have z1 : w.frozen? ⟨b, 1, none⟩ = false := hr.free 1
  have HR := Lib.hid hr
  clear hr
  have hk0 : (0 : Int) ≤ (k : Int) := Int.natCast_nonneg _
  by_cases hlt : k < t.size
  · have hlt' : (k : Int) < (t.size : Int) := by omega
    have hg : decide (k < t.size) = true := decide_eq_true hlt
    have HX := Lib.hid (nextB_at c hlt)
    by_cases he : t[k] = c
    · have hq : ((t[k].toNat : Int) == (c.toNat : Int)) = true := by rw [he]; simp
      have HE := Lib.hid (HX.out.trans (decide_eq_true he))
      clear he
      go_enter Tryd.func104, Tryd.ntmps104
      go_wp2_with fail
      go_quiet (fail)
      go_wp2
      go_ret
      refine ⟨ret_bool HE.out.symm, ((Only.refl w _).drewN' _).set 1 _, ?_⟩
      rw [stepB_yes HE.out]
      exact Row.put (w := w.drewN nq) HR.out 1 _
    · have hq : ((t[k].toNat : Int) == (c.toNat : Int)) = false := by
        rw [beq_eq_false_iff_ne]
        exact fun e => he (UInt8.toNat_inj.1 (by omega))
      have HE := Lib.hid (HX.out.trans (decide_eq_false he))
      clear he
      go_enter Tryd.func104, Tryd.ntmps104
      go_wp2_with fail
      go_quiet (fail)
      go_wp2
      go_ret
      refine ⟨ret_bool HE.out.symm, (Only.refl w _).drewN' _, ?_⟩
      rw [stepB_no HE.out]
      exact HR.out
  · have hg : decide (k < t.size) = false := decide_eq_false hlt
    have HE := Lib.hid (nextB_end (k := k) c (by omega : t.size ≤ k))
    go_enter Tryd.func104, Tryd.ntmps104
    go_wp2_with fail
    go_quiet (fail)
    go_wp2
    go_ret
    refine ⟨ret_bool HE.out.symm, (Only.refl w _).drewN' _, ?_⟩
    rw [stepB_no HE.out]
    exact HR.out

end Go.Proofs.YtdbddockmdkmeaaDoor

/- The program's reader: skip, expectEnd. -/
namespace Go.Proofs.YtdbddockmdkmeaaDoor
open Go.RowKit

/-- The program's reader has given up. -/
def Died (e : Ending) : Prop := ∃ m : ByteArray, e = .panicked [{ v := .iface 9 (.string m), recovered := false }]

set_option maxRecDepth 100000 in
set_option maxHeartbeats 1000000 in
theorem skip_any (b : Nat) (t : ByteArray) (k : Nat) (v : Value) (c : UInt8) (w : World) (hr : Row w b 62 #[.string t, .int .i64 k, v]) (hk : k ≤ t.size) (ht : t.size ≤ 1048576) :
    Calls Tryd.prog 102 #[.pointer (some ⟨b, 0, none⟩), .int .u8 c.toNat] w fun e w' => e = .returned (.bool (nextB t k c)) ∧ Only w w' (· = b) ∧
      Row w' b 62 #[.string t, .int .i64 (stepB t k c : Nat), v] := by
  have c0 : w.cell? ⟨b, 0, none⟩ = some (.string t) := hr.cell 0
  have c1 : w.cell? ⟨b, 1, none⟩ = some (.int .i64 k) := hr.cell 1
  have z1 : w.frozen? ⟨b, 1, none⟩ = false := hr.free 1
  have HR := Lib.hid hr
  clear hr
  have hk0 : (0 : Int) ≤ (k : Int) := Int.natCast_nonneg _
  by_cases hlt : k < t.size
  · have hlt' : (k : Int) < (t.size : Int) := by omega
    have hg : ((k : Int) == (t.size : Int)) = false := by rw [beq_eq_false_iff_ne]; omega
    have HX := Lib.hid (nextB_at c hlt)
    by_cases he : t[k] = c
    · have hq : ((t[k].toNat : Int) == (c.toNat : Int)) = true := by rw [he]; simp
      have HE := Lib.hid (HX.out.trans (decide_eq_true he))
      clear he
      go_enter Tryd.func102, Tryd.ntmps102
      go_wp2_with fail
      go_quiet (fail)
      go_wp2
      go_ret
      refine ⟨ret_bool HE.out.symm, ((Only.refl w _).drewN' _).set 1 _, ?_⟩
      rw [stepB_yes HE.out]
      exact Row.put (w := w.drewN nq) HR.out 1 _
    · have hq : ((t[k].toNat : Int) == (c.toNat : Int)) = false := by
        rw [beq_eq_false_iff_ne]
        exact fun e => he (UInt8.toNat_inj.1 (by omega))
      have HE := Lib.hid (HX.out.trans (decide_eq_false he))
      clear he
      go_enter Tryd.func102, Tryd.ntmps102
      go_wp2_with fail
      go_quiet (fail)
      go_wp2
      go_ret
      refine ⟨ret_bool HE.out.symm, (Only.refl w _).drewN' _, ?_⟩
      rw [stepB_no HE.out]
      exact HR.out
  · have hg : ((k : Int) == (t.size : Int)) = true := by rw [beq_iff_eq]; omega
    have HE := Lib.hid (nextB_end (k := k) c (by omega : t.size ≤ k))
    go_enter Tryd.func102, Tryd.ntmps102
    go_wp2_with fail
    go_quiet (fail)
    go_wp2
    go_ret
    refine ⟨ret_bool HE.out.symm, (Only.refl w _).drewN' _, ?_⟩
    rw [stepB_no HE.out]
    exact HR.out

set_option maxRecDepth 100000 in
set_option maxHeartbeats 1000000 in
theorem expectEnd_any (b : Nat) (t : ByteArray) (k : Nat) (v : Value) (w : World) (hr : Row w b 62 #[.string t, .int .i64 k, v]) :
    Calls Tryd.prog 54 #[.pointer (some ⟨b, 0, none⟩)] w fun e w' => ((k = t.size ∧ e = .returned (.tuple #[])) ∨ (k ≠ t.size ∧ Died e)) ∧ Only w w' (fun _ => False) := by
  have c0 : w.cell? ⟨b, 0, none⟩ = some (.string t) := hr.cell 0
  have c1 : w.cell? ⟨b, 1, none⟩ = some (.int .i64 k) := hr.cell 1
  clear hr
  by_cases hlt : k = t.size
  · have hg : ((k : Int) == (t.size : Int)) = true := by rw [beq_iff_eq]; omega
    go_enter Tryd.func54, Tryd.ntmps54
    go_wp2_with fail
    go_quiet (fail)
    go_wp2
    go_end0
    exact ⟨.inl ⟨hlt, rfl⟩, (Only.refl w _).drewN' _⟩
  · have hg : ((k : Int) == (t.size : Int)) = false := by rw [beq_eq_false_iff_ne]; omega
    go_enter Tryd.func54, Tryd.ntmps54
    go_wp2_with fail
    go_quiet (fail)
    go_wp2
    exact ⟨rfl, .inr ⟨hlt, _, rfl⟩, (Only.refl w _).drewN' _⟩

end Go.Proofs.YtdbddockmdkmeaaDoor

/- The program's reader: readSize. -/
namespace Go.Proofs.YtdbddockmdkmeaaDoor
open Go.RowKit

theorem iSize_end {t : ByteArray} {k n : Nat} (h : t.size ≤ k) : iSize (t.data.toList.drop k) n = if n = 0 then none else some (n, t.data.toList.drop k) := by
  rw [List.drop_of_length_le (by simpa using h)]
  rfl
theorem iSize_at {t : ByteArray} {k n : Nat} (h : k < t.size) : iSize (t.data.toList.drop k) n = if isDig t[k] then (if 1 ≤ 10 * n + (t[k].toNat - 48) ∧ 10 * n + (t[k].toNat - 48) ≤ 99 then iSize (t.data.toList.drop (k + 1)) (10 * n + (t[k].toNat - 48)) else none) else if n = 0 then none else some (n, t.data.toList.drop k) := by
  rw [List.drop_eq_getElem_cons (by simpa using h)]
  rfl

/-- What readSize has done. -/
def SizePost (w : World) (b : Nat) (t : ByteArray) (k : Nat) (v : Value) (e : Ending) (w' : World) : Prop :=
  ((∃ n k' : Nat, iSize (t.data.toList.drop k) 0 = some (n, t.data.toList.drop k') ∧ k ≤ k' ∧ k' ≤ t.size ∧ e = .returned (.int .i64 n) ∧ Row w' b 62 #[.string t, .int .i64 k', v]) ∨ (iSize (t.data.toList.drop k) 0 = none ∧ Died e)) ∧ Only w w' (· = b)

def leftAt (t : ByteArray) (b : Nat) (w : World) : Nat := t.size - (match w.cell? ⟨b, 1, none⟩ with | some i => (intOf i).toNat | none => 0)
theorem leftAt_of {t : ByteArray} {b : Nat} {w : World} {k : Nat} (h : w.cell? ⟨b, 1, none⟩ = some (.int .i64 k)) : leftAt t b w = t.size - k := by
  unfold leftAt
  rw [h]
  simp [intOf]

set_option maxRecDepth 100000 in
set_option maxHeartbeats 2000000 in
theorem readSize_any (b : Nat) (t : ByteArray) (k₀ : Nat) (v : Value) (w : World) (hr : Row w b 62 #[.string t, .int .i64 k₀, v]) (hk₀ : k₀ ≤ t.size) (ht : t.size ≤ 1048576) :
    Calls Tryd.prog 101 #[.pointer (some ⟨b, 0, none⟩)] w (SizePost w b t k₀ v) := by
  have HR := Lib.hid hr
  clear hr
  go_enter Tryd.func101, Tryd.ntmps101
  go_wp2
  go_loopw [3] (fun i wr => ∃ n k : Nat, i = .int .i64 n ∧ n ≤ 99 ∧ k₀ ≤ k ∧ k ≤ t.size ∧ Hid (iSize (t.data.toList.drop k₀) 0 = iSize (t.data.toList.drop k) n) ∧ Hid (Row wr b 62 #[.string t, .int .i64 k, v]) ∧ Hid (Only w wr (· = b)) ∧ wr.cell? ⟨b, 1, none⟩ = some (.int .i64 k))
    (fun _ wr => leftAt t b wr)
  case atStart => exact ⟨0, k₀, rfl, by omega, Nat.le_refl _, hk₀, rfl, HR, Only.refl _ _, HR.out.cell 1⟩
  case round =>
    obtain ⟨n, k, rfl, hn, hk0, hk, HZ, HR', HO, c1⟩ := hrel
    have c0 : wr.cell? ⟨b, 0, none⟩ = some (.string t) := HR'.out.cell 0
    have z1 : wr.frozen? ⟨b, 1, none⟩ = false := HR'.out.free 1
    have hk00 : (0 : Int) ≤ (k : Int) := Int.natCast_nonneg _
    have LM := Lib.hid (leftAt_of (t := t) c1)
    by_cases hlt : k < t.size
    · have hlt' : (k : Int) < (t.size : Int) := by omega
      have hg : decide (k < t.size) = true := decide_eq_true hlt
      have HA := Lib.hid (iSize_at (n := n) hlt)
      by_cases hd : isDig t[k] = true
      · have hdd := isDig_iff.1 hd
        have g1 : decide (48 ≤ t[k].toNat) = true := decide_eq_true hdd.1
        have g2 : decide (t[k].toNat ≤ 57) = true := decide_eq_true hdd.2
        have g3 : (48 : Int) ≤ (t[k].toNat : Int) := by omega
        have g4 : (t[k].toNat : Int) ≤ 57 := by omega
        have HD := Lib.hid hd
        clear hd
        go_wp2_with fail
        go_quiet (fail)
        go_wp2_with fail
        go_quiet (fail)
        go_wp2_with fail
        by_cases hs : 1 ≤ 10 * n + (t[k].toNat - 48) ∧ 10 * n + (t[k].toNat - 48) ≤ 99
        · have hso : sizeOk (10 * (n : Int) + ((t[k].toNat : Int) - 48)) = true := by unfold sizeOk; simp; omega
          have HN := Lib.hid (HZ.out.trans (HA.out.trans ((if_pos HD.out).trans (if_pos hs))))
          refine (sizeValid_any _ _).mono ?_
          rw [hso]
          rintro e w1 ⟨rfl, rfl⟩
          go_wp2
          go_roundw
          case rel =>
            have hrow := fun q => Row.put (w := wr.drewN q) HR'.out 1 (.int .i64 ((k : Int) + 1))
            exact ⟨10 * n + (t[k].toNat - 48), k + 1, congrArg (Value.int .i64) (by omega), hs.2, by omega, by omega, HN, hrow _, (HO.out.drewN' _).set 1 _, Row.cell (hrow _) 1⟩
          case measure =>
            have hrow := fun q => Row.put (w := wr.drewN q) HR'.out 1 (.int .i64 ((k : Int) + 1))
            rw [LM.out, leftAt_of (k := k + 1) (Row.cell (hrow _) 1)]
            omega
        · have hso : sizeOk (10 * (n : Int) + ((t[k].toNat : Int) - 48)) = false := by unfold sizeOk; simp; omega
          have HN := Lib.hid (HZ.out.trans (HA.out.trans ((if_pos HD.out).trans (if_neg hs))))
          refine (sizeValid_any _ _).mono ?_
          rw [hso]
          rintro e w1 ⟨rfl, rfl⟩
          go_wp2
          exact ⟨rfl, .inr ⟨HN.out, _, rfl⟩, HO.out.drewN' _⟩
      · have HA' := Lib.hid (HA.out.trans (if_neg hd))
        clear HA
        have HA := HA'
        clear HA'
        have hdd : ¬ (48 ≤ t[k].toNat ∧ t[k].toNat ≤ 57) := fun h => hd (isDig_iff.2 h)
        clear hd
        by_cases hlo : 48 ≤ t[k].toNat
        · have g1 : decide (48 ≤ t[k].toNat) = true := decide_eq_true hlo
          have g2 : decide (t[k].toNat ≤ 57) = false := decide_eq_false (by omega)
          have g3 : (48 : Int) ≤ (t[k].toNat : Int) := by omega
          have g4 : ¬ (t[k].toNat : Int) ≤ 57 := by omega
          have g5 : decide ((48 : Int) ≤ (t[k].toNat : Int)) = true := decide_eq_true g3
          have g6 : decide ((t[k].toNat : Int) ≤ 57) = false := decide_eq_false g4
          by_cases hn0 : n = 0
          · have h0 : ((n : Int) == 0) = true := by rw [beq_iff_eq]; omega
            have HN := Lib.hid (HZ.out.trans (HA.out.trans (if_pos hn0)))
            subst hn0
            go_wp2_with fail
            go_quiet (fail)
            go_wp2
            exact ⟨rfl, .inr ⟨HN.out, _, rfl⟩, HO.out.drewN' _⟩
          · have h0 : ((n : Int) == 0) = false := by rw [beq_eq_false_iff_ne]; omega
            have HN := Lib.hid (HZ.out.trans (HA.out.trans (if_neg hn0)))
            clear hn0
            go_wp2_with fail
            go_quiet (fail)
            go_wp2
            go_ret
            exact ⟨.inl ⟨n, k, HN.out, hk0, hk, rfl, HR'.out⟩, HO.out.drewN' _⟩
        · have g1 : decide (48 ≤ t[k].toNat) = false := decide_eq_false hlo
          have g3 : ¬ (48 : Int) ≤ (t[k].toNat : Int) := by omega
          have g5 : decide ((48 : Int) ≤ (t[k].toNat : Int)) = false := decide_eq_false g3
          by_cases hn0 : n = 0
          · have h0 : ((n : Int) == 0) = true := by rw [beq_iff_eq]; omega
            have HN := Lib.hid (HZ.out.trans (HA.out.trans (if_pos hn0)))
            subst hn0
            go_wp2_with fail
            go_quiet (fail)
            go_wp2
            exact ⟨rfl, .inr ⟨HN.out, _, rfl⟩, HO.out.drewN' _⟩
          · have h0 : ((n : Int) == 0) = false := by rw [beq_eq_false_iff_ne]; omega
            have HN := Lib.hid (HZ.out.trans (HA.out.trans (if_neg hn0)))
            clear hn0
            go_wp2_with fail
            go_quiet (fail)
            go_wp2
            go_ret
            exact ⟨.inl ⟨n, k, HN.out, hk0, hk, rfl, HR'.out⟩, HO.out.drewN' _⟩
    · have hg : decide (k < t.size) = false := decide_eq_false hlt
      have HA := Lib.hid (iSize_end (n := n) (by omega : t.size ≤ k))
      by_cases hn0 : n = 0
      · have h0 : ((n : Int) == 0) = true := by rw [beq_iff_eq]; omega
        have HN := Lib.hid (HZ.out.trans (HA.out.trans (if_pos hn0)))
        subst hn0
        go_wp2_with fail
        go_quiet (fail)
        go_wp2
        exact ⟨rfl, .inr ⟨HN.out, _, rfl⟩, HO.out.drewN' _⟩
      · have h0 : ((n : Int) == 0) = false := by rw [beq_eq_false_iff_ne]; omega
        have HN := Lib.hid (HZ.out.trans (HA.out.trans (if_neg hn0)))
        clear hn0
        go_wp2_with fail
        go_quiet (fail)
        go_wp2
        go_ret
        exact ⟨.inl ⟨n, k, HN.out, hk0, hk, rfl, HR'.out⟩, HO.out.drewN' _⟩

end Go.Proofs.YtdbddockmdkmeaaDoor

/- The program's reader: readName. -/
namespace Go.Proofs.YtdbddockmdkmeaaDoor
open Go.RowKit

theorem Only.andBelow {w w1 w2 : World} {may : Nat → Prop} (h : Only w w1 may) (hb : Below w1.heap.size w1 w2) : Only w w2 may :=
  ⟨hb.os.trans h.os, hb.tape.trans h.tape, hb.output.trans h.output, Nat.le_trans h.size hb.size, fun k hk hm => (hb.block k (Nat.lt_of_lt_of_le hk h.size)).trans (h.block k hk hm)⟩

/-- What readName has done. -/
def NamePost (w : World) (b : Nat) (t : ByteArray) (k : Nat) (tr : List Seg) (v : Value) (e : Ending) (w' : World) : Prop :=
  ((∃ c : UInt8, (t.data.toList.drop k) = c :: t.data.toList.drop (k + 1) ∧ k < t.size ∧ nameOk ⟨#[c]⟩ = true ∧ takenB tr ⟨#[c]⟩ = false ∧ e = .returned (.string ⟨#[c]⟩) ∧ Row w' b 62 #[.string t, .int .i64 ((k + 1 : Nat) : Int), v]) ∨
    ((∀ c r, t.data.toList.drop k = c :: r → (nameOk ⟨#[c]⟩ && !takenB tr ⟨#[c]⟩) = false) ∧ Died e)) ∧ Only w w' (· = b)

set_option maxRecDepth 100000 in
set_option maxHeartbeats 2000000 in
theorem readName_any (b : Nat) (t : ByteArray) (k : Nat) (A : Option Addr) (tr : List Seg) (cap : Nat) (w : World) (hr : Row w b 62 #[.string t, .int .i64 k, .slice A tr.length cap]) (hw : Segs w w.heap.size A tr) (hl : tr.length ≤ 1048576) (hk : k ≤ t.size) (ht : t.size ≤ 1048576) :
    Calls Tryd.prog 100 #[.pointer (some ⟨b, 0, none⟩)] w (NamePost w b t k tr (.slice A tr.length cap)) := by
  have c0 : w.cell? ⟨b, 0, none⟩ = some (.string t) := hr.cell 0
  have c1 : w.cell? ⟨b, 1, none⟩ = some (.int .i64 k) := hr.cell 1
  have c2 : w.cell? ⟨b, 2, none⟩ = some (.slice A tr.length cap) := hr.cell 2
  have HR := Lib.hid hr
  have HW : Hid (Segs w w.heap.size A tr) := hw
  clear hr hw
  have hk0 : (0 : Int) ≤ (k : Int) := Int.natCast_nonneg _
  by_cases hlt : k < t.size
  · have hlt' : (k : Int) < (t.size : Int) := by omega
    have hg : ((k : Int) == (t.size : Int)) = false := by rw [beq_eq_false_iff_ne]; omega
    have hne : ¬ (k : Int) = (t.size : Int) := by omega
    have HD : Hid (t.data.toList.drop k = t[k] :: t.data.toList.drop (k + 1)) := List.drop_eq_getElem_cons (by simpa using hlt)
    have hcv : ∀ q, (convert 22 9 (.slice (some ⟨w.heap.size, 0, none⟩) 1 1)).run Tryd.prog ((w.drewN q).alloc (.cells #[.int .u8 (t[k].toNat : Int)] 5)) = .ok (.string ⟨#[t[k]]⟩) ((w.drewN q).alloc (.cells #[.int .u8 (t[k].toNat : Int)] 5)) := fun q =>
      run_convert_bytes_back (P := Tryd.prog) _ 22 9 5 ⟨w.heap.size, 0, none⟩ 1 [t[k]] Tryd.underlying22 Tryd.underlying5 Tryd.underlying9 (fun j hj => by
        have : j = 0 := by simp at hj; omega
        subst this
        have := (Row.new (w.drewN q) 5 #[.int .u8 (t[k].toNat : Int)]).cell 0
        exact this)
    go_enter Tryd.func100, Tryd.ntmps100
    go_wp2_with fail
    go_quiet (fail)
    go_wp2_with fail
    go_region
    all_goals go_wp2_with fail
    have hB1 : Below w.heap.size w ((w.drewN (nq + 1)).alloc (.cells #[.int .u8 (t[k].toNat : Int)] 5)) := (below_drewN (Below.refl _ w) _).alloc (Nat.le_refl _) _
    have hO1 : Only w ((w.drewN (nq + 1)).alloc (.cells #[.int .u8 (t[k].toNat : Int)] 5)) (· = b) := ⟨hB1.os, hB1.tape, hB1.output, hB1.size, fun q hq _ => hB1.block q hq⟩
    have hR1 : Row ((w.drewN (nq + 1)).alloc (.cells #[.int .u8 (t[k].toNat : Int)] 5)) b 62 #[.string t, .int .i64 k, .slice A tr.length cap] := HR.out.below hB1 HR.out.lt
    have hW1 := (HW.out.below hB1).more hB1.size
    generalize (w.drewN (nq + 1)).alloc (.cells #[.int .u8 (t[k].toNat : Int)] 5) = W1 at *
    have HW1 := Lib.hid hW1
    have HR1 := Lib.hid hR1
    have HO1 := Lib.hid hO1
    have d1 : W1.cell? ⟨b, 1, none⟩ = some (.int .i64 k) := hR1.cell 1
    have d2 : W1.cell? ⟨b, 2, none⟩ = some (.slice A tr.length cap) := hR1.cell 2
    have z1 : W1.frozen? ⟨b, 1, none⟩ = false := hR1.free 1
    clear hW1 hR1 hO1 hB1 hcv c0 c1 c2
    cases hn : nameOk ⟨#[t[k]]⟩ with
    | false =>
      have HN := Lib.hid hn
      refine (nameValid_any ⟨#[t[k]]⟩ _ (show 1 ≤ maxLen by decide)).mono ?_
      rw [hn]
      clear hn
      rintro e w2 ⟨rfl, rfl⟩
      go_wp2
      exact ⟨rfl, .inr ⟨fun c r h => (by rw [HD.out] at h; injection h with h1 _; rw [← h1, HN.out]; rfl), _, rfl⟩, HO1.out⟩
    | true =>
      have HN := Lib.hid hn
      refine (nameValid_any ⟨#[t[k]]⟩ _ (show 1 ≤ maxLen by decide)).mono ?_
      rw [hn]
      clear hn
      rintro e w2 ⟨rfl, rfl⟩
      go_wp2_with fail
      cases htk : takenB tr ⟨#[t[k]]⟩ with
      | true =>
        have HT := Lib.hid htk
        refine (nameTaken_any A tr cap ⟨#[t[k]]⟩ _ HW1.out hl).mono ?_
        rw [htk]
        clear htk
        rintro e w2 ⟨rfl, hb2⟩
        have HO2 := Lib.hid (HO1.out.andBelow hb2)
        go_wp2
        exact ⟨rfl, .inr ⟨fun c r h => (by rw [HD.out] at h; injection h with h1 _; rw [← h1, HN.out, HT.out]; rfl), _, rfl⟩, HO2.out⟩
      | false =>
        have HT := Lib.hid htk
        refine (nameTaken_any A tr cap ⟨#[t[k]]⟩ _ HW1.out hl).mono ?_
        rw [htk]
        clear htk
        rintro e w2 ⟨rfl, hb2⟩
        have HO2 := Lib.hid (HO1.out.andBelow hb2)
        have hR2 := HR1.out.below hb2 HR1.out.lt
        have HR2 := Lib.hid hR2
        have d1 : w2.cell? ⟨b, 1, none⟩ = some (.int .i64 k) := hR2.cell 1
        have z1 : w2.frozen? ⟨b, 1, none⟩ = false := hR2.free 1
        clear hR2
        go_wp2
        go_ret
        exact ⟨.inl ⟨t[k], HD.out, hlt, HN.out, HT.out, rfl, Row.put HR2.out 1 _⟩, HO2.out.set 1 _⟩
  · have hg : ((k : Int) == (t.size : Int)) = true := by rw [beq_iff_eq]; omega
    have heq : (k : Int) = (t.size : Int) := by omega
    have HD : Hid (t.data.toList.drop k = []) := List.drop_of_length_le (by simp; omega)
    go_enter Tryd.func100, Tryd.ntmps100
    go_wp2_with fail
    go_quiet (fail)
    go_wp2
    exact ⟨rfl, .inr ⟨fun c r h => (by rw [HD.out] at h; cases h), _, rfl⟩, (Only.refl w _).drewN' _⟩

end Go.Proofs.YtdbddockmdkmeaaDoor

/- The reference's number of a text of at most three digits. -/
namespace Go.Proofs.YtdbddockmdkmeaaDoor
open Go.RowKit

theorem valB_at {s : ByteArray} {k m : Nat} (h : k < s.size) : valB (s.data.toList.drop k) m = valB (s.data.toList.drop (k + 1)) (m * 10 + (s[k].toNat - 48)) := by
  rw [List.drop_eq_getElem_cons (by simpa using h)]
  rfl
theorem valB_end {s : ByteArray} {k m : Nat} (h : s.size ≤ k) : valB (s.data.toList.drop k) m = m := by
  rw [List.drop_of_length_le (by simpa using h)]
  rfl
theorem numOk_at {s : ByteArray} (h : 0 < s.size) : numOk s.data.toList = !(decide (s[0] = 48) && decide (1 < s.size)) := by
  have e : s.data.toList = s[0] :: s.data.toList.drop 1 := by
    have := List.drop_eq_getElem_cons (l := s.data.toList) (i := 0) (by simpa using h)
    exact (List.drop_zero (l := s.data.toList)).symm.trans this
  have hl : (s.data.toList.drop 1).length = s.size - 1 := by simp
  rw [e]
  show (!(decide (s[0] = 48) && decide (0 < (s.data.toList.drop 1).length))) = _
  rw [hl]
  congr 2
  exact decide_eq_decide.2 (by omega)

set_option maxRecDepth 100000 in
set_option maxHeartbeats 1000000 in
theorem l13Num_digs (s : ByteArray) (w : World) (hd : ∀ k : Nat, ∀ h : k < s.size, isDig s[k] = true) (hz : s.size ≤ 3) :
    Calls Tryd.prog 93 #[.string s] w fun e w' => e = .returned (.tuple #[.int .i64 (numB s.data.toList), .bool (numOk s.data.toList)]) ∧ w = w' := by
  by_cases h0 : 0 < s.size
  · have HK := Lib.hid (numOk_at h0)
    have hd0 := isDig_iff.1 (hd 0 h0)
    have g1 : decide (0 < s.size) = true := decide_eq_true h0
    have h0' : (0 : Int) < (s.size : Int) := by omega
    have g2 : ((s[0].toNat : Int) == 45) = false := by rw [beq_eq_false_iff_ne]; omega
    have g3 : ((s.size : Int) == 0) = false := by rw [beq_eq_false_iff_ne]; omega
    have g4 : decide (17 < s.size) = false := decide_eq_false (by omega)
    have g5 : ¬ (17 : Int) < (s.size : Int) := by omega
    have HD := Lib.hid hd
    clear hd
    have loop : numOk s.data.toList = true → (((s[0].toNat : Int) == 48) = true ∧ decide (1 < s.size) = false ∧ (s.size : Int) ≤ 1 ∨ ((s[0].toNat : Int) == 48) = false) →
        Calls Tryd.prog 93 #[.string s] w fun e w' => e = .returned (.tuple #[.int .i64 (numB s.data.toList), .bool (numOk s.data.toList)]) ∧ w = w' := by
      intro hok hor
      have HN : Hid (numB s.data.toList = valB s.data.toList 0) := if_pos hok
      have HO := Lib.hid hok
      clear hok
      have g9 : (((s[0].toNat : Int) == 48) && decide (1 < s.size)) = false := by
        rcases hor with ⟨a, b, _⟩ | a
        · rw [b, Bool.and_false]
        · rw [a]; rfl
      rcases hor with ⟨g6, g7, g8⟩ | g6
      all_goals
        go_enter Tryd.func93, Tryd.ntmps93
        go_wp2
        go_loop [5, 6] (fun n i => ∃ k m : Nat, n = .int .i64 m ∧ i = .int .i64 k ∧ k ≤ s.size ∧ (k ≤ 0 → m ≤ 0) ∧ (k ≤ 1 → m ≤ 9) ∧ (k ≤ 2 → m ≤ 99) ∧ m ≤ 999 ∧ Hid (valB s.data.toList 0 = valB (s.data.toList.drop k) m)) (fun _ i => s.size - (intOf i).toNat)
        case atStart => exact ⟨0, 0, rfl, rfl, by omega, by omega, by omega, by omega, by omega, rfl⟩
        case round =>
          obtain ⟨k, m, rfl, rfl, hk, m0, m1, m2, m3, HV⟩ := hrel
          have hk0 : (0 : Int) ≤ (k : Int) := Int.natCast_nonneg _
          by_cases hlt : k < s.size
          · have hdk := isDig_iff.1 (HD.out k hlt)
            have HA := Lib.hid (HV.out.trans (valB_at hlt))
            have hlt' : (k : Int) < (s.size : Int) := by omega
            have e1 : decide (k < s.size) = true := decide_eq_true hlt
            have e2 : decide (s[k].toNat < 48) = false := decide_eq_false (by omega)
            have e3 : decide (57 < s[k].toNat) = false := decide_eq_false (by omega)
            have e4 : (48 : Int) ≤ (s[k].toNat : Int) := by omega
            have e5 : (s[k].toNat : Int) ≤ 57 := by omega
            go_wp2
            go_round
            case rel => exact ⟨k + 1, m * 10 + (s[k].toNat - 48), congrArg (Value.int .i64) (by omega), congrArg (Value.int .i64) (by omega), by omega, by omega, by omega, by omega, by omega, HA⟩
            case measure => simp [intOf]; omega
          · have HA := Lib.hid (HV.out.trans (valB_end (by omega : s.size ≤ k)))
            have e1 : decide (k < s.size) = false := decide_eq_false hlt
            go_wp2
            go_ret2
            exact ⟨by rw [HN.out, HA.out, HO.out]; rfl, rfl⟩
    by_cases h48 : s[0] = 48
    · have g6 : ((s[0].toNat : Int) == 48) = true := by rw [h48]; rfl
      by_cases h1 : 1 < s.size
      · have g7 : decide (1 < s.size) = true := decide_eq_true h1
        have g8 : (1 : Int) < (s.size : Int) := by omega
        have HF : Hid (numOk s.data.toList = false) := by
          show _ = _
          rw [HK.out, decide_eq_true h48, g7]
          rfl
        have HB : Hid (numB s.data.toList = 0) := if_neg (by rw [HF.out]; decide)
        clear loop
        go_enter Tryd.func93, Tryd.ntmps93
        go_wp2
        go_ret2
        exact ⟨by rw [HF.out, HB.out]; rfl, rfl⟩
      · have g7 : decide (1 < s.size) = false := decide_eq_false h1
        exact loop (by rw [HK.out, g7, Bool.and_false]; rfl) (.inl ⟨g6, g7, by omega⟩)
    · have g6 : ((s[0].toNat : Int) == 48) = false := by
        rw [beq_eq_false_iff_ne]
        exact fun e => h48 (UInt8.toNat_inj.1 (by simpa using (by omega : s[0].toNat = 48)))
      exact loop (by rw [HK.out, decide_eq_false h48]; rfl) (.inr g6)
  · have hs : s = ⟨#[]⟩ := by
      apply ByteArray.ext
      exact Array.eq_empty_of_size_eq_zero (by have : s.data.size = s.size := rfl; omega)
    subst hs
    clear hd h0 hz
    have HF : Hid (numOk ([] : List UInt8) = false ∧ numB ([] : List UInt8) = 0) := ⟨rfl, rfl⟩
    go_enter Tryd.func93, Tryd.ntmps93
    go_wp2
    go_ret2
    exact ⟨rfl, rfl⟩

end Go.Proofs.YtdbddockmdkmeaaDoor
