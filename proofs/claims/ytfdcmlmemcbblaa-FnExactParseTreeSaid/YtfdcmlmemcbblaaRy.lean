/- The program's reader: readSize. -/
import Derived.Test.YtfdcmlmemcbblaaRx
namespace Go.Proofs.Ytfdcmlmemcbblaa
open Go.RowKit

theorem iSize_end {t : ByteArray} {k n : Nat} (h : t.size ≤ k) : iSize (t.data.toList.drop k) n = if n = 0 then none else some (n, t.data.toList.drop k) := by
  rw [List.drop_of_length_le (by simpa using h)]
  rfl
theorem iSize_at {t : ByteArray} {k n : Nat} (h : k < t.size) : iSize (t.data.toList.drop k) n = if isDig t[k] then (if 1 ≤ 10 * n + (t[k].toNat - 48) ∧ 10 * n + (t[k].toNat - 48) ≤ 99 then iSize (t.data.toList.drop (k + 1)) (10 * n + (t[k].toNat - 48)) else none) else if n = 0 then none else some (n, t.data.toList.drop k) := by
  rw [List.drop_eq_getElem_cons (by simpa using h)]
  rfl

/-- What readSize has done. -/
def SizePost (w : World) (b : Nat) (t : ByteArray) (k : Nat) (v : Value) (e : Ending) (w' : World) : Prop :=
  ((∃ n k' : Nat, iSize (t.data.toList.drop k) 0 = some (n, t.data.toList.drop k') ∧ k ≤ k' ∧ k' ≤ t.size ∧ e = .returned (.int .i64 n) ∧ Row w' b 110 #[.string t, .int .i64 k', v]) ∨ (iSize (t.data.toList.drop k) 0 = none ∧ Died e)) ∧ Only w w' (· = b)

def leftAt (t : ByteArray) (b : Nat) (w : World) : Nat := t.size - (match w.cell? ⟨b, 1, none⟩ with | some i => (intOf i).toNat | none => 0)
theorem leftAt_of {t : ByteArray} {b : Nat} {w : World} {k : Nat} (h : w.cell? ⟨b, 1, none⟩ = some (.int .i64 k)) : leftAt t b w = t.size - k := by
  unfold leftAt
  rw [h]
  simp [intOf]

set_option maxRecDepth 100000 in
set_option maxHeartbeats 2000000 in
theorem readSize_any (b : Nat) (t : ByteArray) (k₀ : Nat) (v : Value) (w : World) (hr : Row w b 110 #[.string t, .int .i64 k₀, v]) (hk₀ : k₀ ≤ t.size) (ht : t.size ≤ 1048576) :
    Calls Try.prog 121 #[.pointer (some ⟨b, 0, none⟩)] w (SizePost w b t k₀ v) := by
  have HR := Lib.hid hr
  clear hr
  go_enter Try.func121, Try.ntmps121
  go_wp2
  go_loopw [3] (fun i wr => ∃ n k : Nat, i = .int .i64 n ∧ n ≤ 99 ∧ k₀ ≤ k ∧ k ≤ t.size ∧ Hid (iSize (t.data.toList.drop k₀) 0 = iSize (t.data.toList.drop k) n) ∧ Hid (Row wr b 110 #[.string t, .int .i64 k, v]) ∧ Hid (Only w wr (· = b)) ∧ wr.cell? ⟨b, 1, none⟩ = some (.int .i64 k))
    (fun _ wr => leftAt t b wr)
  case atStart => exact ⟨0, k₀, rfl, by omega, Nat.le_refl _, hk₀, rfl, HR, Only.refl _ _, HR.out.cell 1⟩
  case round =>
    obtain ⟨n, k, rfl, hn, hk0, hk, HZ, HR', HO, c1⟩ := hrel
    have c0 : wr.cell? ⟨b, 0, none⟩ = some (.string t) := HR'.out.cell 0
    have z1 : wr.frozen? ⟨b, 1, none⟩ = false := HR'.out.free 1
    have hk00 : (0 : Int) ≤ (k : Int) := Int.natCast_nonneg _
    have LM := Lib.hid (leftAt_of (t := t) c1)
    by_cases hlt : k < t.size
    · have hlt' : (k : Int) < (t.size : Int) := by omega
      have hg : decide (k < t.size) = true := decide_eq_true hlt
      have HA := Lib.hid (iSize_at (n := n) hlt)
      by_cases hd : isDig t[k] = true
      · have hdd := isDig_iff.1 hd
        have g1 : decide (48 ≤ t[k].toNat) = true := decide_eq_true hdd.1
        have g2 : decide (t[k].toNat ≤ 57) = true := decide_eq_true hdd.2
        have g3 : (48 : Int) ≤ (t[k].toNat : Int) := by omega
        have g4 : (t[k].toNat : Int) ≤ 57 := by omega
        have HD := Lib.hid hd
        clear hd
        go_wp2_with fail
        go_quiet (fail)
        go_wp2_with fail
        go_quiet (fail)
        go_wp2_with fail
        by_cases hs : 1 ≤ 10 * n + (t[k].toNat - 48) ∧ 10 * n + (t[k].toNat - 48) ≤ 99
        · have hso : sizeOk (10 * (n : Int) + ((t[k].toNat : Int) - 48)) = true := by unfold sizeOk; simp; omega
          have HN := Lib.hid (HZ.out.trans (HA.out.trans ((if_pos HD.out).trans (if_pos hs))))
          refine (sizeValid_any _ _).mono ?_
          rw [hso]
          rintro e w1 ⟨rfl, rfl⟩
          go_wp2
          go_roundw
          case rel =>
            have hrow := fun q => Row.put (w := wr.drewN q) HR'.out 1 (.int .i64 ((k : Int) + 1))
            exact ⟨10 * n + (t[k].toNat - 48), k + 1, congrArg (Value.int .i64) (by omega), hs.2, by omega, by omega, HN, hrow _, (HO.out.drewN' _).set 1 _, Row.cell (hrow _) 1⟩
          case measure =>
            have hrow := fun q => Row.put (w := wr.drewN q) HR'.out 1 (.int .i64 ((k : Int) + 1))
            rw [LM.out, leftAt_of (k := k + 1) (Row.cell (hrow _) 1)]
            omega
        · have hso : sizeOk (10 * (n : Int) + ((t[k].toNat : Int) - 48)) = false := by unfold sizeOk; simp; omega
          have HN := Lib.hid (HZ.out.trans (HA.out.trans ((if_pos HD.out).trans (if_neg hs))))
          refine (sizeValid_any _ _).mono ?_
          rw [hso]
          rintro e w1 ⟨rfl, rfl⟩
          go_wp2
          exact ⟨rfl, .inr ⟨HN.out, _, rfl⟩, HO.out.drewN' _⟩
      · have HA' := Lib.hid (HA.out.trans (if_neg hd))
        clear HA
        have HA := HA'
        clear HA'
        have hdd : ¬ (48 ≤ t[k].toNat ∧ t[k].toNat ≤ 57) := fun h => hd (isDig_iff.2 h)
        clear hd
        by_cases hlo : 48 ≤ t[k].toNat
        · have g1 : decide (48 ≤ t[k].toNat) = true := decide_eq_true hlo
          have g2 : decide (t[k].toNat ≤ 57) = false := decide_eq_false (by omega)
          have g3 : (48 : Int) ≤ (t[k].toNat : Int) := by omega
          have g4 : ¬ (t[k].toNat : Int) ≤ 57 := by omega
          have g5 : decide ((48 : Int) ≤ (t[k].toNat : Int)) = true := decide_eq_true g3
          have g6 : decide ((t[k].toNat : Int) ≤ 57) = false := decide_eq_false g4
          by_cases hn0 : n = 0
          · have h0 : ((n : Int) == 0) = true := by rw [beq_iff_eq]; omega
            have HN := Lib.hid (HZ.out.trans (HA.out.trans (if_pos hn0)))
            subst hn0
            go_wp2_with fail
            go_quiet (fail)
            go_wp2
            exact ⟨rfl, .inr ⟨HN.out, _, rfl⟩, HO.out.drewN' _⟩
          · have h0 : ((n : Int) == 0) = false := by rw [beq_eq_false_iff_ne]; omega
            have HN := Lib.hid (HZ.out.trans (HA.out.trans (if_neg hn0)))
            clear hn0
            go_wp2_with fail
            go_quiet (fail)
            go_wp2
            go_ret
            exact ⟨.inl ⟨n, k, HN.out, hk0, hk, rfl, HR'.out⟩, HO.out.drewN' _⟩
        · have g1 : decide (48 ≤ t[k].toNat) = false := decide_eq_false hlo
          have g3 : ¬ (48 : Int) ≤ (t[k].toNat : Int) := by omega
          have g5 : decide ((48 : Int) ≤ (t[k].toNat : Int)) = false := decide_eq_false g3
          by_cases hn0 : n = 0
          · have h0 : ((n : Int) == 0) = true := by rw [beq_iff_eq]; omega
            have HN := Lib.hid (HZ.out.trans (HA.out.trans (if_pos hn0)))
            subst hn0
            go_wp2_with fail
            go_quiet (fail)
            go_wp2
            exact ⟨rfl, .inr ⟨HN.out, _, rfl⟩, HO.out.drewN' _⟩
          · have h0 : ((n : Int) == 0) = false := by rw [beq_eq_false_iff_ne]; omega
            have HN := Lib.hid (HZ.out.trans (HA.out.trans (if_neg hn0)))
            clear hn0
            go_wp2_with fail
            go_quiet (fail)
            go_wp2
            go_ret
            exact ⟨.inl ⟨n, k, HN.out, hk0, hk, rfl, HR'.out⟩, HO.out.drewN' _⟩
    · have hg : decide (k < t.size) = false := decide_eq_false hlt
      have HA := Lib.hid (iSize_end (n := n) (by omega : t.size ≤ k))
      by_cases hn0 : n = 0
      · have h0 : ((n : Int) == 0) = true := by rw [beq_iff_eq]; omega
        have HN := Lib.hid (HZ.out.trans (HA.out.trans (if_pos hn0)))
        subst hn0
        go_wp2_with fail
        go_quiet (fail)
        go_wp2
        exact ⟨rfl, .inr ⟨HN.out, _, rfl⟩, HO.out.drewN' _⟩
      · have h0 : ((n : Int) == 0) = false := by rw [beq_eq_false_iff_ne]; omega
        have HN := Lib.hid (HZ.out.trans (HA.out.trans (if_neg hn0)))
        clear hn0
        go_wp2_with fail
        go_quiet (fail)
        go_wp2
        go_ret
        exact ⟨.inl ⟨n, k, HN.out, hk0, hk, rfl, HR'.out⟩, HO.out.drewN' _⟩

end Go.Proofs.Ytfdcmlmemcbblaa
