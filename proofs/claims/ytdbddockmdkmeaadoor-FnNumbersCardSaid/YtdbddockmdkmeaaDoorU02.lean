/- Joined: Mn Hk. -/
import Derived.Test.YtdbddockmdkmeaaDoorU01
import Derived.Lib.AtoiAll
/- The reference reads a number. -/
namespace Go.Proofs.YtdbddockmdkmeaaDoor
open Go.RowKit

def val12 (s : List UInt8) : Nat := s.foldl (fun n c => n * 10 + (c.toNat - 48)) 0
def dig12 (c : UInt8) : Bool := decide (48 ≤ c.toNat) && decide (c.toNat ≤ 57)
/-- A numeral as it is written: at most 17 digits, no nought ahead. -/
def ok12 (s : List UInt8) : Bool := !s.isEmpty && decide (s.length ≤ 17) && s.all dig12 && !(s.headD 0 == 48 && decide (1 < s.length))
theorem dig12_iff {c : UInt8} : dig12 c = true ↔ 48 ≤ c.toNat ∧ c.toNat ≤ 57 := by
  unfold dig12
  simp [Bool.and_eq_true]
theorem val12_next {s : List UInt8} {k : Nat} (hk : k < s.length) : val12 (s.take (k + 1)) = val12 (s.take k) * 10 + (s[k].toNat - 48) := by
  unfold val12
  rw [List.take_succ_eq_append_getElem hk, List.foldl_append]
  rfl
theorem val12_lt {s : List UInt8} (hd : s.all dig12 = true) : ∀ k, k ≤ s.length → val12 (s.take k) < 10 ^ k
  | 0, _ => by simp [val12]
  | k + 1, hk => by
    have h := val12_lt hd k (by omega)
    rw [val12_next (by omega), Nat.pow_succ]
    have := dig12_iff.1 (List.all_eq_true.1 hd s[k] (List.getElem_mem _))
    omega
theorem val12_bound {s : List UInt8} (hd : s.all dig12 = true) (h17 : s.length ≤ 17) (k : Nat) (hk : k < s.length) : val12 (s.take k) ≤ 10000000000000000 := by
  have h1 := val12_lt hd k (by omega)
  have h2 : 10 ^ k ≤ 10 ^ 16 := Nat.pow_le_pow_right (by decide) (by omega)
  have h3 : 10 ^ 16 = 10000000000000000 := by decide
  omega

set_option maxRecDepth 100000 in
set_option maxHeartbeats 1000000 in
/-- Where all are digits, and so few that the number is one. -/
theorem l13Num_ok (s : ByteArray) (w : World) (h0 : 0 < s.size) (h17 : s.size ≤ 17) (hd : s.data.toList.all dig12 = true) (hor : s[0] ≠ 48 ∨ s.size = 1) :
    Calls Tryd.prog 93 #[.string s] w fun e w' => e = .returned (.tuple #[.int .i64 (val12 s.data.toList), .bool true]) ∧ w = w' := by
  have hlen : s.data.toList.length = s.size := by simp
  have HAT : Hid (∀ k (h : k < s.size), 48 ≤ s[k].toNat ∧ s[k].toNat ≤ 57 ∧ val12 (s.data.toList.take (k + 1)) = val12 (s.data.toList.take k) * 10 + (s[k].toNat - 48) ∧ val12 (s.data.toList.take k) ≤ 10000000000000000) := fun k h => by
    have hk : k < s.data.toList.length := by rw [hlen]; exact h
    have e : s.data.toList[k] = s[k] := by
      have := at12 s k h
      rw [List.getD_eq_getElem?_getD, List.getElem?_eq_getElem hk] at this
      exact this
    have h1 := dig12_iff.1 (List.all_eq_true.1 hd s.data.toList[k] (List.getElem_mem hk))
    have h2 := val12_next hk
    have h3 := val12_bound hd (by omega) k hk
    rw [e] at h1 h2
    exact ⟨h1.1, h1.2, h2, h3⟩
  have HALL : Hid (val12 s.data.toList = val12 (s.data.toList.take s.size)) := by
    show _ = _
    rw [List.take_of_length_le (by omega)]
  have HZ0 : Hid (val12 (s.data.toList.take 0) = 0) := rfl
  generalize val12 s.data.toList = V at *
  generalize hvt : (fun k => val12 (s.data.toList.take k)) = vt at *
  have HVT : Hid (∀ k, val12 (s.data.toList.take k) = vt k) := fun k => by rw [← hvt]
  have HAT2 : Hid (∀ k (h : k < s.size), 48 ≤ s[k].toNat ∧ s[k].toNat ≤ 57 ∧ vt (k + 1) = vt k * 10 + (s[k].toNat - 48) ∧ vt k ≤ 10000000000000000) := fun k h => by
    have := HAT.out k h
    rw [HVT.out, HVT.out] at this
    exact this
  have HALL2 : Hid (V = vt s.size) := by have := HALL.out; rw [HVT.out] at this; exact this
  have HZ2 : Hid (vt 0 = 0) := by have := HZ0.out; rw [HVT.out] at this; exact this
  clear HAT HALL HZ0 HVT hvt hd hlen
  have hd0 := HAT2.out 0 h0
  have g1 : decide (0 < s.size) = true := decide_eq_true h0
  have h0' : (0 : Int) < (s.size : Int) := by omega
  have g2 : ((s[0].toNat : Int) == 45) = false := by rw [beq_eq_false_iff_ne]; omega
  have g3 : ((s.size : Int) == 0) = false := by rw [beq_eq_false_iff_ne]; omega
  have g4 : decide (17 < s.size) = false := decide_eq_false (by omega)
  have g5 : ¬ (17 : Int) < (s.size : Int) := by omega
  have hor2 : ((s[0].toNat : Int) == 48) = true ∧ decide (1 < s.size) = false ∧ (s.size : Int) ≤ 1 ∨ ((s[0].toNat : Int) == 48) = false := by
    by_cases h48 : s[0] = 48
    · rcases hor with h | h
      · exact absurd h48 h
      · exact .inl ⟨by rw [h48]; rfl, decide_eq_false (by omega), by omega⟩
    · refine .inr ?_
      rw [beq_eq_false_iff_ne]
      exact fun e => h48 (UInt8.toNat_inj.1 (by simpa using (by omega : s[0].toNat = 48)))
  clear hor hd0
  have g9 : (((s[0].toNat : Int) == 48) && decide (1 < s.size)) = false := by
    rcases hor2 with ⟨a, b, _⟩ | a
    · rw [b, Bool.and_false]
    · rw [a]; rfl
  rcases hor2 with ⟨g6, g7, g8⟩ | g6
  all_goals
    go_enter Tryd.func93, Tryd.ntmps93
    go_wp2
    go_loop [5, 6] (fun n i => ∃ k m : Nat, n = .int .i64 m ∧ i = .int .i64 k ∧ k ≤ s.size ∧ Hid (m = vt k))
      (fun _ i => s.size - (intOf i).toNat)
    case atStart => exact ⟨0, 0, rfl, rfl, by omega, Lib.hid HZ2.out.symm⟩
    case round =>
      obtain ⟨k, m, rfl, rfl, hk, HM⟩ := hrel
      have hk0 : (0 : Int) ≤ (k : Int) := Int.natCast_nonneg _
      by_cases hlt : k < s.size
      · obtain ⟨hd1, hd2, hvn, hvb⟩ := HAT2.out k hlt
        have hmb : m ≤ 10000000000000000 := by rw [HM.out]; exact hvb
        have HN : Hid (m * 10 + (s[k].toNat - 48) = vt (k + 1)) := by show _ = _; rw [hvn, HM.out]
        have hlt' : (k : Int) < (s.size : Int) := by omega
        have e1 : decide (k < s.size) = true := decide_eq_true hlt
        have e2 : decide (s[k].toNat < 48) = false := decide_eq_false (by omega)
        have e3 : decide (57 < s[k].toNat) = false := decide_eq_false (by omega)
        have e4 : (48 : Int) ≤ (s[k].toNat : Int) := by omega
        have e5 : (s[k].toNat : Int) ≤ 57 := by omega
        clear hvn hvb
        go_wp2
        go_round
        case rel => exact ⟨k + 1, m * 10 + (s[k].toNat - 48), congrArg (Value.int .i64) (by omega), congrArg (Value.int .i64) (by omega), by omega, HN⟩
        case measure => simp [intOf]; omega
      · have hke : k = s.size := by omega
        have HV : Hid (V = m) := by show _ = _; rw [HALL2.out, HM.out, hke]
        have e1 : decide (k < s.size) = false := decide_eq_false hlt
        clear hke
        go_wp2
        go_ret2
        exact ⟨by rw [HV.out]; rfl, rfl⟩

set_option maxRecDepth 100000 in
set_option maxHeartbeats 1000000 in
/-- Where a sign is no digit. -/
theorem l13Num_odd (s : ByteArray) (w : World) (h0 : 0 < s.size) (h17 : s.size ≤ 17) (j : Nat) (hj : j < s.size) (hbad : dig12 s[j] = false) (hd : (s.data.toList.take j).all dig12 = true) (hneg : s[0] ≠ 45) (hor : s[0] ≠ 48 ∨ s.size = 1) :
    Calls Tryd.prog 93 #[.string s] w fun e w' => e = .returned (.tuple #[.int .i64 0, .bool false]) ∧ w = w' := by
  have hlen : s.data.toList.length = s.size := by simp
  have hlj : (s.data.toList.take j).length = j := by rw [List.length_take]; omega
  obtain ⟨vt, HVT⟩ : ∃ vt : Nat → Nat, Hid (∀ k, val12 ((s.data.toList.take j).take k) = vt k) := ⟨fun k => val12 ((s.data.toList.take j).take k), fun _ => rfl⟩
  have HAT2 : Hid (∀ k (h : k < s.size), k < j → 48 ≤ s[k].toNat ∧ s[k].toNat ≤ 57 ∧ vt (k + 1) = vt k * 10 + (s[k].toNat - 48) ∧ vt k ≤ 10000000000000000) := fun k h hkj => by
    have hk : k < s.data.toList.length := by rw [hlen]; exact h
    have hk2 : k < (s.data.toList.take j).length := by rw [hlj]; exact hkj
    have e : (s.data.toList.take j)[k] = s[k] := by
      have := at12 s k h
      rw [List.getD_eq_getElem?_getD, List.getElem?_eq_getElem hk] at this
      rw [List.getElem_take]
      exact this
    have h1 := dig12_iff.1 (List.all_eq_true.1 hd (s.data.toList.take j)[k] (List.getElem_mem hk2))
    have h2 := val12_next hk2
    have h3 := val12_bound hd (by omega) k hk2
    rw [e] at h1 h2
    rw [HVT.out, HVT.out] at h2
    rw [HVT.out] at h3
    exact ⟨h1.1, h1.2, h2, h3⟩
  have HZ2 : Hid (vt 0 = 0) := by show _ = _; rw [← HVT.out]; rfl
  have hb2 : s[j].toNat < 48 ∨ 57 < s[j].toNat := by
    by_cases h : 48 ≤ s[j].toNat ∧ s[j].toNat ≤ 57
    · rw [dig12_iff.2 h] at hbad; cases hbad
    · omega
  clear HVT hd hlen hlj hbad
  have g1 : decide (0 < s.size) = true := decide_eq_true h0
  have h0' : (0 : Int) < (s.size : Int) := by omega
  have g2 : ((s[0].toNat : Int) == 45) = false := by
    rw [beq_eq_false_iff_ne]
    exact fun e => hneg (UInt8.toNat_inj.1 (by simpa using (by omega : s[0].toNat = 45)))
  have g3 : ((s.size : Int) == 0) = false := by rw [beq_eq_false_iff_ne]; omega
  have g4 : decide (17 < s.size) = false := decide_eq_false (by omega)
  have g5 : ¬ (17 : Int) < (s.size : Int) := by omega
  have hor2 : ((s[0].toNat : Int) == 48) = true ∧ decide (1 < s.size) = false ∧ (s.size : Int) ≤ 1 ∨ ((s[0].toNat : Int) == 48) = false := by
    by_cases h48 : s[0] = 48
    · rcases hor with h | h
      · exact absurd h48 h
      · exact .inl ⟨by rw [h48]; rfl, decide_eq_false (by omega), by omega⟩
    · refine .inr ?_
      rw [beq_eq_false_iff_ne]
      exact fun e => h48 (UInt8.toNat_inj.1 (by simpa using (by omega : s[0].toNat = 48)))
  clear hor hneg
  have g9 : (((s[0].toNat : Int) == 48) && decide (1 < s.size)) = false := by
    rcases hor2 with ⟨a, b, _⟩ | a
    · rw [b, Bool.and_false]
    · rw [a]; rfl
  rcases hor2 with ⟨g6, g7, g8⟩ | g6
  all_goals
    go_enter Tryd.func93, Tryd.ntmps93
    go_wp2
    go_loop [5, 6] (fun n i => ∃ k m : Nat, n = .int .i64 m ∧ i = .int .i64 k ∧ k ≤ j ∧ Hid (m = vt k))
      (fun _ i => s.size - (intOf i).toNat)
    case atStart => exact ⟨0, 0, rfl, rfl, by omega, Lib.hid HZ2.out.symm⟩
    case round =>
      obtain ⟨k, m, rfl, rfl, hk, HM⟩ := hrel
      have hk0 : (0 : Int) ≤ (k : Int) := Int.natCast_nonneg _
      have hlt : k < s.size := by omega
      have hlt' : (k : Int) < (s.size : Int) := by omega
      have e1 : decide (k < s.size) = true := decide_eq_true hlt
      by_cases hkj : k < j
      · obtain ⟨hd1, hd2, hvn, hvb⟩ := HAT2.out k hlt hkj
        have hmb : m ≤ 10000000000000000 := by rw [HM.out]; exact hvb
        have HN : Hid (m * 10 + (s[k].toNat - 48) = vt (k + 1)) := by show _ = _; rw [hvn, HM.out]
        have e2 : decide (s[k].toNat < 48) = false := decide_eq_false (by omega)
        have e3 : decide (57 < s[k].toNat) = false := decide_eq_false (by omega)
        have e4 : (48 : Int) ≤ (s[k].toNat : Int) := by omega
        have e5 : (s[k].toNat : Int) ≤ 57 := by omega
        clear hvn hvb
        first
          | (exfalso; omega)
          | (go_wp2
             go_round
             case rel => exact ⟨k + 1, m * 10 + (s[k].toNat - 48), congrArg (Value.int .i64) (by omega), congrArg (Value.int .i64) (by omega), by omega, HN⟩
             case measure => simp [intOf]; omega)
      · obtain rfl : k = j := by omega
        clear hkj
        rcases hb2 with hb | hb
        · have e2 : decide (s[k].toNat < 48) = true := decide_eq_true hb
          have e4 : (s[k].toNat : Int) < 48 := by omega
          go_wp2
          go_ret2
          exact ⟨rfl, rfl⟩
        · have e2 : decide (s[k].toNat < 48) = false := decide_eq_false (by omega)
          have e3 : decide (57 < s[k].toNat) = true := decide_eq_true hb
          have e4 : (48 : Int) ≤ (s[k].toNat : Int) := by omega
          have e5 : (57 : Int) < (s[k].toNat : Int) := by omega
          go_wp2
          go_ret2
          exact ⟨rfl, rfl⟩

set_option maxRecDepth 100000 in
theorem l13Num_empty (w : World) : Calls Tryd.prog 93 #[.string ⟨#[]⟩] w fun e w' => e = .returned (.tuple #[.int .i64 0, .bool false]) ∧ w = w' := by
  go_enter Tryd.func93, Tryd.ntmps93
  go_wp2
  go_ret2
  exact ⟨rfl, rfl⟩
set_option maxRecDepth 100000 in
theorem l13Num_long (s : ByteArray) (w : World) (h17 : 17 < s.size) (hneg : s[0] ≠ 45) : Calls Tryd.prog 93 #[.string s] w fun e w' => e = .returned (.tuple #[.int .i64 0, .bool false]) ∧ w = w' := by
  have g1 : decide (0 < s.size) = true := decide_eq_true (by omega)
  have h0' : (0 : Int) < (s.size : Int) := by omega
  have g2 : ((s[0].toNat : Int) == 45) = false := by
    rw [beq_eq_false_iff_ne]
    exact fun e => hneg (UInt8.toNat_inj.1 (by simpa using (by omega : s[0].toNat = 45)))
  have g3 : ((s.size : Int) == 0) = false := by rw [beq_eq_false_iff_ne]; omega
  have g4 : decide (17 < s.size) = true := decide_eq_true h17
  have g5 : (17 : Int) < (s.size : Int) := by omega
  go_enter Tryd.func93, Tryd.ntmps93
  go_wp2
  go_ret2
  exact ⟨rfl, rfl⟩
set_option maxRecDepth 100000 in
theorem l13Num_lead (s : ByteArray) (w : World) (h17 : s.size ≤ 17) (h1 : 1 < s.size) (h48 : s[0] = 48) : Calls Tryd.prog 93 #[.string s] w fun e w' => e = .returned (.tuple #[.int .i64 0, .bool false]) ∧ w = w' := by
  have g1 : decide (0 < s.size) = true := decide_eq_true (by omega)
  have h0' : (0 : Int) < (s.size : Int) := by omega
  have g2 : ((s[0].toNat : Int) == 45) = false := by rw [h48]; rfl
  have g3 : ((s.size : Int) == 0) = false := by rw [beq_eq_false_iff_ne]; omega
  have g4 : decide (17 < s.size) = false := decide_eq_false (by omega)
  have g5 : ¬ (17 : Int) < (s.size : Int) := by omega
  have g6 : ((s[0].toNat : Int) == 48) = true := by rw [h48]; rfl
  have g7 : decide (1 < s.size) = true := decide_eq_true h1
  have g8 : (1 : Int) < (s.size : Int) := by omega
  go_enter Tryd.func93, Tryd.ntmps93
  go_wp2
  go_ret2
  exact ⟨rfl, rfl⟩

theorem pow16 {m k : Nat} (h : m < 10 ^ k) (hk : k ≤ 16) : m ≤ 10000000000000000 := by
  have h2 : 10 ^ k ≤ 10 ^ 16 := Nat.pow_le_pow_right (by decide) hk
  have h3 : 10 ^ 16 = 10000000000000000 := by decide
  omega
/-- What begins with a minus is no number that is wanted. -/
def NegPost (e : Ending) : Prop := ∃ (n : Int) (ok : Bool), e = .returned (.tuple #[.int .i64 n, .bool ok]) ∧ (ok = true → n < 0)
set_option maxRecDepth 100000 in
set_option maxHeartbeats 2000000 in
theorem l13Num_neg (s : ByteArray) (w : World) (h0 : 0 < s.size) (h45 : s[0] = 45) : Calls Tryd.prog 93 #[.string s] w fun e w' => NegPost e ∧ w = w' := by
  have g1 : decide (0 < s.size) = true := decide_eq_true h0
  have h0' : (0 : Int) < (s.size : Int) := by omega
  have g2 : ((s[0].toNat : Int) == 45) = true := by rw [h45]; rfl
  have h1' : (1 : Int) ≤ (s.size : Int) := by omega
  obtain ⟨r, HR⟩ : ∃ r, Hid (r = s.extract 1 s.size) := ⟨_, rfl⟩
  have hex : s.extract 1 s.size = r := HR.out.symm
  clear h45
  by_cases hr0 : r.size = 0
  · have g3 : ((r.size : Int) == 0) = true := by rw [hr0]; rfl
    clear hr0
    go_enter Tryd.func93, Tryd.ntmps93
    go_wp2
    go_ret2
    exact ⟨⟨_, _, rfl, fun h => by cases h⟩, rfl⟩
  have g3 : ((r.size : Int) == 0) = false := by rw [beq_eq_false_iff_ne]; omega
  have hrp : 0 < r.size := by omega
  clear hr0
  by_cases h17 : 17 < r.size
  · have g4 : decide (17 < r.size) = true := decide_eq_true h17
    have g5 : (17 : Int) < (r.size : Int) := by omega
    go_enter Tryd.func93, Tryd.ntmps93
    go_wp2
    go_ret2
    exact ⟨⟨_, _, rfl, fun h => by cases h⟩, rfl⟩
  have g4 : decide (17 < r.size) = false := decide_eq_false h17
  have g5 : ¬ (17 : Int) < (r.size : Int) := by omega
  by_cases h48 : r[0] = 48
  · have g6 : ((r[0].toNat : Int) == 48) = true := by rw [h48]; rfl
    clear h48
    go_enter Tryd.func93, Tryd.ntmps93
    go_wp2
    all_goals
      go_ret2
      exact ⟨⟨_, _, rfl, fun h => by cases h⟩, rfl⟩
  · have g6 : ((r[0].toNat : Int) == 48) = false := by
      rw [beq_eq_false_iff_ne]
      exact fun e => h48 (UInt8.toNat_inj.1 (by simpa using (by omega : r[0].toNat = 48)))
    have g7 : r[0].toNat ≠ 48 := fun e => h48 (UInt8.toNat_inj.1 (by simpa using e))
    clear h48
    go_enter Tryd.func93, Tryd.ntmps93
    go_wp2
    go_loop [5, 6] (fun n i => ∃ k m : Nat, n = .int .i64 m ∧ i = .int .i64 k ∧ k ≤ r.size ∧ Hid (m < 10 ^ k) ∧ Hid (1 ≤ k → 1 ≤ m))
      (fun _ i => r.size - (intOf i).toNat)
    case atStart => exact ⟨0, 0, rfl, rfl, by omega, Lib.hid (by decide), Lib.hid (fun h => absurd h (by decide))⟩
    case round =>
      obtain ⟨k, m, rfl, rfl, hk, HM, HP⟩ := hrel
      have hk0 : (0 : Int) ≤ (k : Int) := Int.natCast_nonneg _
      by_cases hlt : k < r.size
      · have hmb : m ≤ 10000000000000000 := pow16 HM.out (by omega)
        have hlt' : (k : Int) < (r.size : Int) := by omega
        have e1 : decide (k < r.size) = true := decide_eq_true hlt
        by_cases hb : r[k].toNat < 48
        · have e2 : decide (r[k].toNat < 48) = true := decide_eq_true hb
          have e4 : (r[k].toNat : Int) < 48 := by omega
          go_wp2
          go_ret2
          exact ⟨⟨_, _, rfl, fun h => by cases h⟩, rfl⟩
        by_cases hb2 : 57 < r[k].toNat
        · have e2 : decide (r[k].toNat < 48) = false := decide_eq_false hb
          have e3 : decide (57 < r[k].toNat) = true := decide_eq_true hb2
          have e4 : (48 : Int) ≤ (r[k].toNat : Int) := by omega
          have e5 : (57 : Int) < (r[k].toNat : Int) := by omega
          go_wp2
          go_ret2
          exact ⟨⟨_, _, rfl, fun h => by cases h⟩, rfl⟩
        · have e2 : decide (r[k].toNat < 48) = false := decide_eq_false hb
          have e3 : decide (57 < r[k].toNat) = false := decide_eq_false hb2
          have e4 : (48 : Int) ≤ (r[k].toNat : Int) := by omega
          have e5 : (r[k].toNat : Int) ≤ 57 := by omega
          have HM2 : Hid (m * 10 + (r[k].toNat - 48) < 10 ^ (k + 1)) := by
            show _ < _
            have := HM.out
            rw [Nat.pow_succ]; omega
          have HP2 : Hid (1 ≤ k + 1 → 1 ≤ m * 10 + (r[k].toNat - 48)) := fun _ => by
            by_cases hk1 : 1 ≤ k
            · have := HP.out hk1; omega
            · have hk2 : k = 0 := by omega
              subst hk2
              omega
          go_wp2
          go_round
          case rel => exact ⟨k + 1, m * 10 + (r[k].toNat - 48), congrArg (Value.int .i64) (by omega), congrArg (Value.int .i64) (by omega), by omega, HM2, HP2⟩
          case measure => simp [intOf]; omega
      · have hm1 : 1 ≤ m := HP.out (by omega)
        have hmb : m ≤ 100000000000000000 := by
          have h2 : 10 ^ k ≤ 10 ^ 17 := Nat.pow_le_pow_right (by decide) (by omega)
          have h3 : 10 ^ 17 = 100000000000000000 := by decide
          have := HM.out
          omega
        have e1 : decide (k < r.size) = false := decide_eq_false hlt
        go_wp2
        go_ret2
        refine ⟨⟨_, _, rfl, fun _ => ?_⟩, rfl⟩
        omega

end Go.Proofs.YtdbddockmdkmeaaDoor
/- Which texts are numbers: those that are a number's decimal digits. Plain. -/
namespace Go.Proofs.YtdbddockmdkmeaaDoor
open Go.RowKit

theorem val12_snoc (x : List UInt8) (c : UInt8) : val12 (x ++ [c]) = val12 x * 10 + (c.toNat - 48) := by unfold val12; rw [List.foldl_append]; rfl
theorem val12_nil : val12 [] = 0 := rfl
theorem digC12 {d : Nat} (h : d < 10) : (UInt8.ofNat (48 + d)).toNat = 48 + d := by rw [UInt8.toNat_ofNat']; omega
theorem dig_of12 {d : Nat} (h : d < 10) : dig12 (UInt8.ofNat (48 + d)) = true := dig12_iff.2 (by rw [digC12 h]; omega)
theorem headD_app {x : List UInt8} (h : x ≠ []) (y : List UInt8) : (x ++ y).headD 0 = x.headD 0 := by
  cases x with
  | nil => exact absurd rfl h
  | cons a r => rfl
theorem dec_ne12 (u : Nat) : Lib.decDigits u ≠ [] := by
  intro e
  have h := congrArg List.length e
  rw [Lib.decDigits_length] at h
  have := Lib.nDigits_pos u
  simp at h
  omega
/-- The digits of a number are digits, tell it, and begin with 0 only where it is 0. -/
theorem dec_said (u : Nat) : (Lib.decDigits u).all dig12 = true ∧ val12 (Lib.decDigits u) = u ∧ ((Lib.decDigits u).headD 0 = 48 → u = 0) := by
  by_cases h : u < 10
  · rw [decDigits_small h]
    refine ⟨by rw [List.all_cons, dig_of12 h]; rfl, ?_, fun e => ?_⟩
    · show val12 ([] ++ [_]) = _
      rw [val12_snoc, val12_nil, digC12 h]; omega
    · have e2 := congrArg UInt8.toNat (show UInt8.ofNat (48 + u) = 48 from e)
      rw [digC12 h] at e2
      have e3 : (48 : UInt8).toNat = 48 := rfl
      omega
  · have ih := dec_said (u / 10)
    rw [decDigits_big h]
    refine ⟨by rw [List.all_append, ih.1, List.all_cons, dig_of12 (show u % 10 < 10 by omega)]; rfl, ?_, fun e => ?_⟩
    · rw [val12_snoc, ih.2.1, digC12 (by omega)]; omega
    · rw [headD_app (dec_ne12 _)] at e
      have := ih.2.2 e
      omega
termination_by u
decreasing_by omega
theorem dec_zero : Lib.decDigits 0 = [48] := by rw [decDigits_small (by decide)]; rfl
theorem ok_dec {u : Nat} (h : (Lib.decDigits u).length ≤ 17) : ok12 (Lib.decDigits u) = true := by
  obtain ⟨h1, _, h3⟩ := dec_said u
  unfold ok12
  rw [h1, decide_eq_true h]
  have e1 : (Lib.decDigits u).isEmpty = false := by
    cases hx : Lib.decDigits u with
    | nil => exact absurd hx (dec_ne12 u)
    | cons a r => rfl
  rw [e1]
  by_cases hz : (Lib.decDigits u).headD 0 = 48
  · have hu := h3 hz
    subst hu
    rw [dec_zero]
    rfl
  · have : ((Lib.decDigits u).headD 0 == 48) = false := by rw [beq_eq_false_iff_ne]; exact hz
    rw [this]
    rfl
theorem ok12_parts {x : List UInt8} (h : ok12 x = true) : x ≠ [] ∧ x.length ≤ 17 ∧ x.all dig12 = true ∧ (x.headD 0 = 48 → x.length = 1) := by
  unfold ok12 at h
  simp only [Bool.and_eq_true] at h
  obtain ⟨⟨⟨h1, h2⟩, h3⟩, h4⟩ := h
  have hn : x ≠ [] := fun e => by rw [e] at h1; cases h1
  refine ⟨hn, of_decide_eq_true h2, h3, fun e => ?_⟩
  have e2 : (x.headD 0 == 48) = true := by rw [e]; rfl
  rw [e2, Bool.true_and] at h4
  have h5 : ¬ 1 < x.length := fun hc => by rw [decide_eq_true hc] at h4; cases h4
  have := List.length_pos_iff.2 hn
  omega
/-- Digits that don't begin with 0 are those of the number that they tell. -/
theorem dec_val : ∀ n (x : List UInt8), x.length = n → x ≠ [] → x.all dig12 = true → (x.headD 0 = 48 → x.length = 1) → Lib.decDigits (val12 x) = x ∧ (x.headD 0 ≠ 48 → 1 ≤ val12 x)
  | 0, x, hl, hn, _, _ => absurd (List.eq_nil_of_length_eq_zero hl) hn
  | n + 1, x, hl, hn, hd, hz => by
    obtain ⟨y, c, rfl⟩ : ∃ y c, x = y ++ [c] := ⟨x.dropLast, x.getLast hn, (List.dropLast_concat_getLast hn).symm⟩
    have hyl : y.length = n := by simpa using hl
    rw [List.all_append, Bool.and_eq_true] at hd
    obtain ⟨hd1, hd2⟩ := hd
    have hc : dig12 c = true := by simpa using hd2
    have hc2 := dig12_iff.1 hc
    have ec : UInt8.ofNat (48 + (c.toNat - 48)) = c := by
      apply UInt8.toNat_inj.1
      rw [digC12 (by omega)]; omega
    by_cases hy : y = []
    · subst hy
      rw [val12_snoc, val12_nil]
      refine ⟨?_, fun e => ?_⟩
      · rw [decDigits_small (by omega)]
        simp only [Nat.zero_mul, Nat.zero_add]
        rw [ec]; rfl
      · have : c ≠ 48 := e
        have h2 : c.toNat ≠ 48 := fun e2 => this (UInt8.toNat_inj.1 (by rw [e2]; rfl))
        omega
    · have hh : (y ++ [c]).headD 0 = y.headD 0 := headD_app hy _
      have hne : y.headD 0 ≠ 48 := fun e => by
        have h1 := hz (by rw [hh]; exact e)
        have h2 := List.length_pos_iff.2 hy
        simp at h1
        exact hy h1
      obtain ⟨i1, i2⟩ := dec_val n y hyl hy hd1 (fun e => absurd e hne)
      have i3 := i2 hne
      rw [val12_snoc]
      refine ⟨?_, fun _ => by omega⟩
      rw [decDigits_big (by omega), show (val12 y * 10 + (c.toNat - 48)) / 10 = val12 y by omega, show (val12 y * 10 + (c.toNat - 48)) % 10 = c.toNat - 48 by omega, i1, ec]
theorem dec_ok {x : List UInt8} (h : ok12 x = true) : Lib.decDigits (val12 x) = x := by
  obtain ⟨h1, _, h3, h4⟩ := ok12_parts h
  exact (dec_val _ x rfl h1 h3 h4).1

theorem parse_ok : ∀ (x : List UInt8) (acc k : Nat), acc < 10 ^ k → x.length + k ≤ 17 → x.all dig12 = true → Lib.parseUint10 acc x = .ok (x.foldl (fun n c => n * 10 + (c.toNat - 48)) acc)
  | [], acc, _, _, _, _ => rfl
  | c :: r, acc, k, ha, hl, hd => by
    rw [List.all_cons, Bool.and_eq_true] at hd
    have hc := dig12_iff.1 hd.1
    rw [List.length_cons] at hl
    have hp : 10 ^ k ≤ 10 ^ 16 := Nat.pow_le_pow_right (by decide) (by omega)
    have ha2 : acc * 10 + (c.toNat - 48) < 10 ^ (k + 1) := by rw [Nat.pow_succ]; omega
    have hp2 : acc < 10000000000000000 := by omega
    unfold Lib.parseUint10
    rw [if_pos hc, if_neg (by omega), if_neg (by omega)]
    exact parse_ok r _ (k + 1) ha2 (by omega) hd.2
theorem atoi_ok {x : List UInt8} (h : ok12 x = true) : Lib.atoiAll x = .ok (val12 x : Int) := by
  obtain ⟨h1, h2, h3, _⟩ := ok12_parts h
  cases x with
  | nil => exact absurd rfl h1
  | cons c r =>
    have hd := h3
    rw [List.all_cons, Bool.and_eq_true] at hd
    have hc := dig12_iff.1 hd.1
    have hm : Lib.parseMag (c :: r) = .ok (val12 (c :: r)) := by
      unfold Lib.parseMag
      rw [if_neg (by simp)]
      exact parse_ok (c :: r) 0 0 (by decide) (by omega) h3
    have hb : val12 (c :: r) < 10 ^ 17 := by
      have := val12_lt h3 (c :: r).length (Nat.le_refl _)
      rw [List.take_length] at this
      exact Nat.lt_of_lt_of_le this (Nat.pow_le_pow_right (by decide) h2)
    unfold Lib.atoiAll
    simp only []
    rw [if_neg (by omega), hm]
    simp only []
    rw [if_neg (by omega), if_neg (by omega), if_neg (by omega)]
/-- What the program asks of a text and the number that is read from it. -/
theorem num_said {x : List UInt8} {v : Int} (ha : Lib.atoiAll x = .ok v) : (0 ≤ v ∧ x.length ≤ 17 ∧ Lib.itoa v = x) ↔ ok12 x = true := by
  constructor
  · rintro ⟨h0, h1, h2⟩
    unfold Lib.itoa at h2
    rw [if_neg (by omega)] at h2
    rw [← h2] at h1 ⊢
    exact ok_dec h1
  · intro h
    have e := atoi_ok h
    rw [ha] at e
    injection e with e
    subst e
    refine ⟨by omega, (ok12_parts h).2.1, ?_⟩
    unfold Lib.itoa
    rw [if_neg (by omega), Int.toNat_natCast]
    exact dec_ok h

end Go.Proofs.YtdbddockmdkmeaaDoor
