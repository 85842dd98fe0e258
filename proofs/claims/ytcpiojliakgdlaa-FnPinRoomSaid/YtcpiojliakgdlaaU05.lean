/- Joined: Rw Rs Rj. -/
import Derived.Test.YtcpiojliakgdlaaU03
import Derived.Test.YtcpiojliakgdlaaU04
import Derived.BigQuiet
import Derived.Laws.IdiomStrings
import Derived.Maps.AppendAt
import Derived.Deep.AppendLies
import Derived.Defers
import Derived.Recover
import Derived.Lib.IndexBytes
/- The two readers' smallest steps: sees and skip. -/
namespace Go.Proofs.Ytcpiojliakgdlaa
open Go.RowKit

theorem Only.refl (w : World) (may : Nat → Prop) : Only w w may := ⟨rfl, rfl, rfl, Nat.le_refl _, fun _ _ _ => rfl⟩
theorem Only.trans {w w1 w2 : World} {may : Nat → Prop} (h : Only w w1 may) (h' : Only w1 w2 may) : Only w w2 may :=
  ⟨h'.os.trans h.os, h'.tape.trans h.tape, h'.output.trans h.output, Nat.le_trans h.size h'.size, fun k hk hm => (h'.block k (Nat.lt_of_lt_of_le hk h.size) hm).trans (h.block k hk hm)⟩
theorem Only.drew' {w w' : World} {may : Nat → Prop} (h : Only w w' may) : Only w w'.drew may := ⟨h.os, h.tape, h.output, h.size, h.block⟩
theorem Only.drewN' {w w' : World} {may : Nat → Prop} (h : Only w w' may) (n : Nat) : Only w (w'.drewN n) may := ⟨h.os, h.tape, h.output, h.size, h.block⟩
theorem Only.set {w w' : World} {b : Nat} (h : Only w w' (· = b)) (i : Nat) (u : Value) : Only w (w'.setCell ⟨b, i, none⟩ u) (· = b) := by
  have hb : Below 0 w' (w'.setCell ⟨b, i, none⟩ u) := (Below.refl 0 w').setCell (Nat.zero_le _) u
  exact ⟨hb.os.trans h.os, hb.tape.trans h.tape, hb.output.trans h.output, by have := h.size; have := hb.size; omega, fun k hk hm => (Below.heap_setCell w' ⟨b, i, none⟩ u k hm).trans (h.block k hk hm)⟩

/-- Is this byte next? -/
def nextB (t : ByteArray) (k : Nat) (c : UInt8) : Bool := (t.data.toList.drop k).head? == some c
theorem nextB_at {t : ByteArray} {k : Nat} (c : UInt8) (h : k < t.size) : nextB t k c = decide (t[k] = c) := by
  unfold nextB
  rw [List.drop_eq_getElem_cons (by simpa using h), List.head?_cons]
  by_cases e : t[k] = c
  · rw [decide_eq_true e, ← e]
    exact beq_self_eq_true _
  · rw [decide_eq_false e]
    exact beq_eq_false_iff_ne.2 (fun h => e (by injection h))
theorem nextB_end {t : ByteArray} {k : Nat} (c : UInt8) (h : t.size ≤ k) : nextB t k c = false := by
  unfold nextB
  rw [List.drop_of_length_le (by simpa using h)]
  rfl

/-- The place behind it. -/
def stepB (t : ByteArray) (k : Nat) (c : UInt8) : Nat := if nextB t k c then k + 1 else k
theorem stepB_yes {t : ByteArray} {k : Nat} {c : UInt8} (h : nextB t k c = true) : stepB t k c = k + 1 := if_pos h
theorem stepB_no {t : ByteArray} {k : Nat} {c : UInt8} (h : nextB t k c = false) : stepB t k c = k := if_neg (by rw [h]; decide)

set_option maxRecDepth 100000 in
set_option maxHeartbeats 1000000 in
theorem sees_any (b : Nat) (t : ByteArray) (k : Nat) (bad : Bool) (v : Value) (c : UInt8) (w : World) (hr : Row w b 196 #[.string t, .int .i64 k, .bool bad, v]) (hk : k ≤ t.size) (ht : t.size ≤ 1048576) :
    Calls Try.prog 167 #[.pointer (some ⟨b, 0, none⟩), .int .u8 c.toNat] w fun e w' => e = .returned (.bool (nextB t k c)) ∧ Only w w' (· = b) ∧
      Row w' b 196 #[.string t, .int .i64 (stepB t k c : Nat), .bool bad, v] := by
  have c0 : w.cell? ⟨b, 0, none⟩ = some (.string t) := hr.cell 0
  have c1 : w.cell? ⟨b, 1, none⟩ = some (.int .i64 k) := hr.cell 1
  have z1 : w.frozen? ⟨b, 1, none⟩ = false := hr.free 1
  have HR := Lib.hid hr
  clear hr
  have hk0 : (0 : Int) ≤ (k : Int) := Int.natCast_nonneg _
  by_cases hlt : k < t.size
  · have hlt' : (k : Int) < (t.size : Int) := by omega
    have hg : decide (k < t.size) = true := decide_eq_true hlt
    have HX := Lib.hid (nextB_at c hlt)
    by_cases he : t[k] = c
    · have hq : ((t[k].toNat : Int) == (c.toNat : Int)) = true := by rw [he]; simp
      have HE := Lib.hid (HX.out.trans (decide_eq_true he))
      clear he
      go_enter Try.func167, Try.ntmps167
      go_wp2_with fail
      go_quiet (fail)
      go_wp2
      go_ret
      refine ⟨ret_bool HE.out.symm, ((Only.refl w _).drewN' _).set 1 _, ?_⟩
      rw [stepB_yes HE.out]
      exact Row.put (w := w.drewN nq) HR.out 1 _
    · have hq : ((t[k].toNat : Int) == (c.toNat : Int)) = false := by
        rw [beq_eq_false_iff_ne]
        exact fun e => he (UInt8.toNat_inj.1 (by omega))
      have HE := Lib.hid (HX.out.trans (decide_eq_false he))
      clear he
      go_enter Try.func167, Try.ntmps167
      go_wp2_with fail
      go_quiet (fail)
      go_wp2
      go_ret
      refine ⟨ret_bool HE.out.symm, (Only.refl w _).drewN' _, ?_⟩
      rw [stepB_no HE.out]
      exact HR.out
  · have hg : decide (k < t.size) = false := decide_eq_false hlt
    have HE := Lib.hid (nextB_end (k := k) c (by omega : t.size ≤ k))
    go_enter Try.func167, Try.ntmps167
    go_wp2_with fail
    go_quiet (fail)
    go_wp2
    go_ret
    refine ⟨ret_bool HE.out.symm, (Only.refl w _).drewN' _, ?_⟩
    rw [stepB_no HE.out]
    exact HR.out

end Go.Proofs.Ytcpiojliakgdlaa

/- The program's reader: skip, expectEnd. -/
namespace Go.Proofs.Ytcpiojliakgdlaa
open Go.RowKit

end Go.Proofs.Ytcpiojliakgdlaa

/- The program's reader: readSize. -/
namespace Go.Proofs.Ytcpiojliakgdlaa
open Go.RowKit

def leftAt (t : ByteArray) (b : Nat) (w : World) : Nat := t.size - (match w.cell? ⟨b, 1, none⟩ with | some i => (intOf i).toNat | none => 0)
theorem leftAt_of {t : ByteArray} {b : Nat} {w : World} {k : Nat} (h : w.cell? ⟨b, 1, none⟩ = some (.int .i64 k)) : leftAt t b w = t.size - k := by
  unfold leftAt
  rw [h]
  simp [intOf]

end Go.Proofs.Ytcpiojliakgdlaa

/- The program's reader: readName. -/
namespace Go.Proofs.Ytcpiojliakgdlaa
open Go.RowKit

theorem Only.andBelow {w w1 w2 : World} {may : Nat → Prop} (h : Only w w1 may) (hb : Below w1.heap.size w1 w2) : Only w w2 may :=
  ⟨hb.os.trans h.os, hb.tape.trans h.tape, hb.output.trans h.output, Nat.le_trans h.size hb.size, fun k hk hm => (hb.block k (Nat.lt_of_lt_of_le hk h.size)).trans (h.block k hk hm)⟩

end Go.Proofs.Ytcpiojliakgdlaa

/- The reference's number of a text of at most three digits. -/
namespace Go.Proofs.Ytcpiojliakgdlaa
open Go.RowKit

theorem valB_at {s : ByteArray} {k m : Nat} (h : k < s.size) : valB (s.data.toList.drop k) m = valB (s.data.toList.drop (k + 1)) (m * 10 + (s[k].toNat - 48)) := by
  rw [List.drop_eq_getElem_cons (by simpa using h)]
  rfl
theorem valB_end {s : ByteArray} {k m : Nat} (h : s.size ≤ k) : valB (s.data.toList.drop k) m = m := by
  rw [List.drop_of_length_le (by simpa using h)]
  rfl
theorem numOk_at {s : ByteArray} (h : 0 < s.size) : numOk s.data.toList = !(decide (s[0] = 48) && decide (1 < s.size)) := by
  have e : s.data.toList = s[0] :: s.data.toList.drop 1 := by
    have := List.drop_eq_getElem_cons (l := s.data.toList) (i := 0) (by simpa using h)
    exact (List.drop_zero (l := s.data.toList)).symm.trans this
  have hl : (s.data.toList.drop 1).length = s.size - 1 := by simp
  rw [e]
  show (!(decide (s[0] = 48) && decide (0 < (s.data.toList.drop 1).length))) = _
  rw [hl]
  congr 2
  exact decide_eq_decide.2 (by omega)

set_option maxRecDepth 100000 in
set_option maxHeartbeats 1000000 in
theorem l13Num_digs (s : ByteArray) (w : World) (hd : ∀ k : Nat, ∀ h : k < s.size, isDig s[k] = true) (hz : s.size ≤ 3) :
    Calls Try.prog 166 #[.string s] w fun e w' => e = .returned (.tuple #[.int .i64 (numB s.data.toList), .bool (numOk s.data.toList)]) ∧ w = w' := by
  by_cases h0 : 0 < s.size
  · have HK := Lib.hid (numOk_at h0)
    have hd0 := isDig_iff.1 (hd 0 h0)
    have g1 : decide (0 < s.size) = true := decide_eq_true h0
    have h0' : (0 : Int) < (s.size : Int) := by omega
    have g2 : ((s[0].toNat : Int) == 45) = false := by rw [beq_eq_false_iff_ne]; omega
    have g3 : ((s.size : Int) == 0) = false := by rw [beq_eq_false_iff_ne]; omega
    have g4 : decide (17 < s.size) = false := decide_eq_false (by omega)
    have g5 : ¬ (17 : Int) < (s.size : Int) := by omega
    have HD := Lib.hid hd
    clear hd
    have loop : numOk s.data.toList = true → (((s[0].toNat : Int) == 48) = true ∧ decide (1 < s.size) = false ∧ (s.size : Int) ≤ 1 ∨ ((s[0].toNat : Int) == 48) = false) →
        Calls Try.prog 166 #[.string s] w fun e w' => e = .returned (.tuple #[.int .i64 (numB s.data.toList), .bool (numOk s.data.toList)]) ∧ w = w' := by
      intro hok hor
      have HN : Hid (numB s.data.toList = valB s.data.toList 0) := if_pos hok
      have HO := Lib.hid hok
      clear hok
      have g9 : (((s[0].toNat : Int) == 48) && decide (1 < s.size)) = false := by
        rcases hor with ⟨a, b, _⟩ | a
        · rw [b, Bool.and_false]
        · rw [a]; rfl
      rcases hor with ⟨g6, g7, g8⟩ | g6
      all_goals
        go_enter Try.func166, Try.ntmps166
        go_wp2
        go_loop [5, 6] (fun n i => ∃ k m : Nat, n = .int .i64 m ∧ i = .int .i64 k ∧ k ≤ s.size ∧ (k ≤ 0 → m ≤ 0) ∧ (k ≤ 1 → m ≤ 9) ∧ (k ≤ 2 → m ≤ 99) ∧ m ≤ 999 ∧ Hid (valB s.data.toList 0 = valB (s.data.toList.drop k) m)) (fun _ i => s.size - (intOf i).toNat)
        case atStart => exact ⟨0, 0, rfl, rfl, by omega, by omega, by omega, by omega, by omega, rfl⟩
        case round =>
          obtain ⟨k, m, rfl, rfl, hk, m0, m1, m2, m3, HV⟩ := hrel
          have hk0 : (0 : Int) ≤ (k : Int) := Int.natCast_nonneg _
          by_cases hlt : k < s.size
          · have hdk := isDig_iff.1 (HD.out k hlt)
            have HA := Lib.hid (HV.out.trans (valB_at hlt))
            have hlt' : (k : Int) < (s.size : Int) := by omega
            have e1 : decide (k < s.size) = true := decide_eq_true hlt
            have e2 : decide (s[k].toNat < 48) = false := decide_eq_false (by omega)
            have e3 : decide (57 < s[k].toNat) = false := decide_eq_false (by omega)
            have e4 : (48 : Int) ≤ (s[k].toNat : Int) := by omega
            have e5 : (s[k].toNat : Int) ≤ 57 := by omega
            go_wp2
            go_round
            case rel => exact ⟨k + 1, m * 10 + (s[k].toNat - 48), congrArg (Value.int .i64) (by omega), congrArg (Value.int .i64) (by omega), by omega, by omega, by omega, by omega, by omega, HA⟩
            case measure => simp [intOf]; omega
          · have HA := Lib.hid (HV.out.trans (valB_end (by omega : s.size ≤ k)))
            have e1 : decide (k < s.size) = false := decide_eq_false hlt
            go_wp2
            go_ret2
            exact ⟨by rw [HN.out, HA.out, HO.out]; rfl, rfl⟩
    by_cases h48 : s[0] = 48
    · have g6 : ((s[0].toNat : Int) == 48) = true := by rw [h48]; rfl
      by_cases h1 : 1 < s.size
      · have g7 : decide (1 < s.size) = true := decide_eq_true h1
        have g8 : (1 : Int) < (s.size : Int) := by omega
        have HF : Hid (numOk s.data.toList = false) := by
          show _ = _
          rw [HK.out, decide_eq_true h48, g7]
          rfl
        have HB : Hid (numB s.data.toList = 0) := if_neg (by rw [HF.out]; decide)
        clear loop
        go_enter Try.func166, Try.ntmps166
        go_wp2
        go_ret2
        exact ⟨by rw [HF.out, HB.out]; rfl, rfl⟩
      · have g7 : decide (1 < s.size) = false := decide_eq_false h1
        exact loop (by rw [HK.out, g7, Bool.and_false]; rfl) (.inl ⟨g6, g7, by omega⟩)
    · have g6 : ((s[0].toNat : Int) == 48) = false := by
        rw [beq_eq_false_iff_ne]
        exact fun e => h48 (UInt8.toNat_inj.1 (by simpa using (by omega : s[0].toNat = 48)))
      exact loop (by rw [HK.out, decide_eq_false h48]; rfl) (.inr g6)
  · have hs : s = ⟨#[]⟩ := by
      apply ByteArray.ext
      exact Array.eq_empty_of_size_eq_zero (by have : s.data.size = s.size := rfl; omega)
    subst hs
    clear hd h0 hz
    have HF : Hid (numOk ([] : List UInt8) = false ∧ numB ([] : List UInt8) = 0) := ⟨rfl, rfl⟩
    go_enter Try.func166, Try.ntmps166
    go_wp2
    go_ret2
    exact ⟨rfl, rfl⟩

end Go.Proofs.Ytcpiojliakgdlaa
/- The program's reader: readSegment. -/
namespace Go.Proofs.Ytcpiojliakgdlaa
open Go.RowKit

/-- The cells of a tree. -/
def segCells (l : List Seg) : List Value := l.flatMap fun s => [.string s.name, .int .i64 s.size, .int .i64 s.par]
theorem segCells_snoc (l : List Seg) (s : Seg) : segCells (l ++ [s]) = segCells l ++ [.string s.name, .int .i64 s.size, .int .i64 s.par] := by simp [segCells]
theorem segCells_len (l : List Seg) : (segCells l).length = l.length * 3 := by
  induction l with
  | nil => rfl
  | cons s l ih => simp only [segCells, List.flatMap_cons, List.length_append, List.length_cons, List.length_nil] at ih ⊢; omega
theorem segCells_at {l : List Seg} {k : Nat} {s : Seg} (h : l[k]? = some s) : (segCells l)[k * 3]? = some (.string s.name) ∧ (segCells l)[k * 3 + 1]? = some (.int .i64 s.size) ∧ (segCells l)[k * 3 + 2]? = some (.int .i64 s.par) := by
  induction l generalizing k with
  | nil => simp at h
  | cons x l ih =>
    cases k with
    | zero =>
      simp at h
      subst h
      exact ⟨rfl, rfl, rfl⟩
    | succ k =>
      rw [List.getElem?_cons_succ] at h
      have e : ∀ i, (segCells (x :: l))[i + 3]? = (segCells l)[i]? := fun i => by
        show ([Value.string x.name, .int .i64 x.size, .int .i64 x.par] ++ segCells l)[i + 3]? = _
        rw [List.getElem?_append_right (by simp)]
        simp
      obtain ⟨a, b, c⟩ := ih h
      rw [show (k + 1) * 3 = k * 3 + 3 by omega, show k * 3 + 3 + 1 = k * 3 + 1 + 3 by omega, show k * 3 + 3 + 2 = k * 3 + 2 + 3 by omega, e, e, e]
      exact ⟨a, b, c⟩

/-- A tree of the reader's own: the slice's value, and its cells. -/
def OwnTree (w : World) (B : Nat) (v : Value) (tr : List Seg) : Prop := w.ownsRow B 99 3 v tr.length (segCells tr)
theorem OwnTree.form {w : World} {B : Nat} {v : Value} {tr : List Seg} (h : OwnTree w B v tr) : ∃ A cap, v = .slice A tr.length cap ∧ Segs w w.heap.size A tr := by
  rcases h.2 with ⟨rfl, h0⟩ | ⟨g, cap, cur, rfl, hg, hh, r⟩
  · exact ⟨none, 0, by rw [h0], fun h => absurd h (by omega)⟩
  · refine ⟨_, cap, rfl, fun _ => ⟨g, 0, rfl, (Array.getElem?_eq_some_iff.1 hh).1, fun k s hk => ?_⟩⟩
    obtain ⟨a, b, c⟩ := segCells_at hk
    have hk' := (List.getElem?_eq_some_iff.1 hk).1
    have hz := segCells_len tr
    have ha : ∀ i, i < tr.length * 3 → w.cell? ⟨g, i, none⟩ = (segCells tr)[i]? := fun i hi => World.ownsRow.cellAt h i (by omega)
    simp only [Nat.zero_add]
    rw [ha _ (by omega), ha _ (by omega), ha _ (by omega)]
    exact ⟨a, b, c⟩

theorem OwnTree.far {w w' : World} {B : Nat} {v : Value} {tr : List Seg} (h : OwnTree w B v tr) (hk : ∀ g, v.ownBlock = some g → w'.heap[g]? = w.heap[g]?) : OwnTree w' B v tr := by
  refine ⟨h.1, ?_⟩
  rcases h.2 with h0 | ⟨g', cap, cur, rfl, hg, hh, r⟩
  · exact .inl h0
  · exact .inr ⟨g', cap, cur, rfl, hg, (hk g' rfl).trans hh, r⟩
/-- The reader's block is not the tree's. -/
theorem OwnTree.ne {w : World} {B : Nat} {v : Value} {tr : List Seg} (h : OwnTree w B v tr) {b : Nat} {t : TypeId} {cs : Array Value} (hr : Row w b t cs) (hne : 99 ≠ t) : ∀ g, v.ownBlock = some g → g ≠ b := by
  rintro g hg rfl
  rcases h.2 with ⟨rfl, _⟩ | ⟨g', cap, cur, rfl, _, hh, _⟩
  · simp [Value.ownBlock] at hg
  · have : g' = g := by simpa [Value.ownBlock] using hg
    subst this
    unfold Row at hr
    rw [hh] at hr
    injection hr with hr
    injection hr with _ ht
    exact hne ht
theorem OwnTree.only {w w' : World} {B b : Nat} {v : Value} {tr : List Seg} {t : TypeId} {cs : Array Value} (h : OwnTree w B v tr) (hr : Row w b t cs) (hne : 99 ≠ t) (ho : Only w w' (· = b)) : OwnTree w' B v tr :=
  h.far fun g hg => ho.block g (by
    rcases h.2 with ⟨rfl, _⟩ | ⟨g', cap, cur, rfl, _, hh, _⟩
    · simp [Value.ownBlock] at hg
    · have : g' = g := by simpa [Value.ownBlock] using hg
      subst this
      exact (Array.getElem?_eq_some_iff.1 hh).1) (h.ne hr hne g hg)

theorem nextB_head {t : ByteArray} {k : Nat} {c : UInt8} (hk : k ≤ t.size) (h : nextB t k c = true) : t.data.toList.drop k = c :: t.data.toList.drop (k + 1) ∧ k < t.size := by
  by_cases hlt : k < t.size
  · refine ⟨?_, hlt⟩
    rw [nextB_at c hlt, decide_eq_true_iff] at h
    rw [List.drop_eq_getElem_cons (by simpa using hlt), ← h]
    rfl
  · rw [nextB_end c (by omega)] at h
    cases h
theorem nextB_other {t : ByteArray} {k : Nat} {c : UInt8} (h : nextB t k c = false) : ∀ d r, t.data.toList.drop k = d :: r → d ≠ c := fun d r hd he => by
  unfold nextB at h
  rw [hd, List.head?_cons, he] at h
  simp at h

end Go.Proofs.Ytcpiojliakgdlaa

/- The program's ParseTree: it recovers. -/
namespace Go.Proofs.Ytcpiojliakgdlaa
open Go.RowKit

end Go.Proofs.Ytcpiojliakgdlaa

/- The program's ParseTree by its contract. -/
namespace Go.Proofs.Ytcpiojliakgdlaa
open Go.RowKit

/-- What ParseTree has done: the text's tree, of the call's own. -/
def ParsePost (w : World) (t : ByteArray) (e : Ending) (w' : World) : Prop :=
  ∃ v, e = .returned (.tuple #[v, .bool (parsed t.data.toList).isSome]) ∧ OwnTree w' w.heap.size v ((parsed t.data.toList).getD []) ∧ Below w.heap.size w w'

theorem OwnTree.base {w : World} {B B' : Nat} {v : Value} {tr : List Seg} (h : OwnTree w B v tr) (hB : B' ≤ B) : OwnTree w B' v tr := by
  refine ⟨h.1, ?_⟩
  rcases h.2 with h0 | ⟨g', cap, cur, rfl, hg, hh, r⟩
  · exact .inl h0
  · exact .inr ⟨g', cap, cur, rfl, Nat.le_trans hB hg, hh, r⟩

end Go.Proofs.Ytcpiojliakgdlaa
/- The reference's reading, plain: its steps at a place of the text. -/
namespace Go.Proofs.Ytcpiojliakgdlaa

theorem tw_take (p : UInt8 → Bool) : ∀ (n m : Nat) (r : List UInt8), m ≤ n → (∀ j, j < m → ∃ h : j < r.length, p r[j] = true) → (m = n ∨ r.length ≤ m ∨ ∃ h : m < r.length, p r[m] = false) → (r.take n).takeWhile p = r.take m
  | 0, 0, _, _, _, _ => by simp
  | 0, m + 1, _, h, _, _ => absurd h (by omega)
  | n + 1, 0, [], _, _, _ => rfl
  | n + 1, 0, c :: r, _, _, h2 => by
    rcases h2 with h | h | ⟨_, h⟩
    · omega
    · simp at h
    · rw [List.take_succ_cons, List.takeWhile_cons, if_neg (by simp at h; simp [h])]
      rfl
  | n + 1, m + 1, [], _, h1, _ => by
    obtain ⟨h, _⟩ := h1 0 (by omega)
    simp at h
  | n + 1, m + 1, c :: r, hm, h1, h2 => by
    obtain ⟨_, h0⟩ := h1 0 (by omega)
    rw [List.take_succ_cons, List.takeWhile_cons, if_pos (by simpa using h0), List.take_succ_cons]
    congr 1
    refine tw_take p n m r (by omega) (fun j hj => ?_) ?_
    · obtain ⟨h, h3⟩ := h1 (j + 1) (by omega)
      exact ⟨by simpa using h, by simpa using h3⟩
    · rcases h2 with h | h | ⟨h, h3⟩
      · exact .inl (by omega)
      · exact .inr (.inl (by simpa using h))
      · exact .inr (.inr ⟨by simpa using h, by simpa using h3⟩)

/-- The digits between two places. -/
theorem digs_at {t : ByteArray} {a j : Nat} (ha : a ≤ j) (hj : j ≤ t.size) (h3 : j ≤ a + 3) (h1 : ∀ i, a ≤ i → ∀ h : i < t.size, i < j → isDig t[i] = true) (h2 : j = a + 3 ∨ t.size ≤ j ∨ ∃ h : j < t.size, isDig t[j] = false) :
    digs (t.data.toList.drop a) = (t.data.toList.drop a).take (j - a) ∧ (digs (t.data.toList.drop a)).length = j - a := by
  have hl : (t.data.toList.drop a).length = t.size - a := by simp
  have e : digs (t.data.toList.drop a) = (t.data.toList.drop a).take (j - a) := by
    unfold digs
    refine tw_take isDig 3 (j - a) _ (by omega) (fun i hi => ?_) ?_
    · refine ⟨by omega, ?_⟩
      have hz : a + i < t.data.size := show a + i < t.size by omega
      have h5 : isDig (t.data[a + i]'hz) = true := h1 (a + i) (by omega) hz (by omega)
      simpa using h5
    · rcases h2 with h | h | ⟨h, h4⟩
      · exact .inl (by omega)
      · exact .inr (.inl (by omega))
      · refine .inr (.inr ⟨by omega, ?_⟩)
        have h6 : a + (j - a) = j := by omega
        have hz : j < t.data.size := h
        have h5 : isDig (t.data[j]'hz) = false := h4
        simp only [List.getElem_drop, Array.getElem_toList, h6]
        exact h5
  refine ⟨e, ?_⟩
  rw [e, List.length_take]
  omega

/-- The tree with a segment more. -/
def grow1 (tr : List Seg) (c : UInt8) (r : List UInt8) (p : Int) : List Seg := tr ++ [⟨⟨#[c]⟩, numB (digs r), p⟩]
/-- What follows the first child. -/
def sAfter (f own : Nat) (s2 : SSt) : SSt := sKids (fun x => sSeg f x own) (s2.rest.length + 1) s2

theorem sSeg_no {t : ByteArray} {k j f : Nat} {c : UInt8} {tr : List Seg} {p : Int} (h8 : tr.length ≤ 8) (hd : t.data.toList.drop k = c :: t.data.toList.drop (k + 1)) (hj : (digs (t.data.toList.drop (k + 1))).length = j - (k + 1)) (hkj : k + 1 ≤ j) (hn : nextB t j 40 = false) :
    sSeg (f + 1) ⟨t.data.toList.drop k, false, tr⟩ p = ⟨t.data.toList.drop j, !numOk (digs (t.data.toList.drop (k + 1))), grow1 tr c (t.data.toList.drop (k + 1)) p⟩ := by
  rw [hd, sSeg_open f c _ tr p h8, hj, List.drop_drop, show k + 1 + (j - (k + 1)) = j by omega]
  unfold nextB at hn
  cases hr : t.data.toList.drop j with
  | nil => rfl
  | cons d r3 =>
    rw [hr] at hn
    have : d ≠ 40 := fun e => by subst e; simp at hn
    simp only [if_neg this]
    rfl
theorem sSeg_yes {t : ByteArray} {k j f : Nat} {c : UInt8} {tr : List Seg} {p : Int} (h8 : tr.length ≤ 8) (hd : t.data.toList.drop k = c :: t.data.toList.drop (k + 1)) (hj : (digs (t.data.toList.drop (k + 1))).length = j - (k + 1)) (hkj : k + 1 ≤ j) (hn : t.data.toList.drop j = 40 :: t.data.toList.drop (j + 1)) :
    sSeg (f + 1) ⟨t.data.toList.drop k, false, tr⟩ p = sAfter f tr.length (sSeg f ⟨t.data.toList.drop (j + 1), !numOk (digs (t.data.toList.drop (k + 1))), grow1 tr c (t.data.toList.drop (k + 1)) p⟩ tr.length) := by
  rw [hd, sSeg_open f c _ tr p h8, hj, List.drop_drop, show k + 1 + (j - (k + 1)) = j by omega, hn]
  simp only [if_true]
  rfl
theorem sSeg_not {f : Nat} {r : List UInt8} {bad : Bool} {tr : List Seg} {p : Int} (h : bad = true ∨ 8 < tr.length ∨ r = [] ∨ f = 0) : sSeg f ⟨r, bad, tr⟩ p = ⟨r, true, tr⟩ := by
  cases f with
  | zero => rfl
  | succ f =>
    unfold sSeg
    rcases h with rfl | h | rfl | h
    · rfl
    · rw [if_pos (by simp [h])]
    · split <;> rfl
    · cases h
theorem sKids_comma {seg : SSt → SSt} {g : Nat} {r : List UInt8} {bad : Bool} {tr : List Seg} : sKids seg (g + 1) ⟨44 :: r, bad, tr⟩ = sKids seg g (seg ⟨r, bad, tr⟩) := by
  conv => lhs; unfold sKids
  simp only [if_true]
theorem sKids_bad {seg : SSt → SSt} {g : Nat} {r : List UInt8} {tr : List Seg} (h : ∀ d u, r = d :: u → d ≠ 44) : sKids seg (g + 1) ⟨r, true, tr⟩ = ⟨r, true, tr⟩ := by
  unfold sKids
  cases r with
  | nil => rfl
  | cons d u =>
    simp only [if_neg (h d u rfl)]
    rfl
theorem sKids_close {seg : SSt → SSt} {g : Nat} {r : List UInt8} {tr : List Seg} : sKids seg (g + 1) ⟨41 :: r, false, tr⟩ = ⟨r, false, tr⟩ := by
  conv => lhs; unfold sKids
  simp
theorem sKids_else {seg : SSt → SSt} {g : Nat} {r : List UInt8} {tr : List Seg} (h1 : ∀ d u, r = d :: u → d ≠ 44) (h2 : ∀ d u, r = d :: u → d ≠ 41) : sKids seg (g + 1) ⟨r, false, tr⟩ = ⟨r, true, tr⟩ := by
  unfold sKids
  cases r with
  | nil => rfl
  | cons d u =>
    simp [h1 d u rfl, h2 d u rfl]

end Go.Proofs.Ytcpiojliakgdlaa

/- The reference's reader: segment. -/
namespace Go.Proofs.Ytcpiojliakgdlaa
open Go.RowKit

/-- What segment has done. -/
def SpecPost (w : World) (B b : Nat) (t : ByteArray) (k : Nat) (s : SSt) (e : Ending) (w' : World) : Prop :=
  e = .returned (.tuple #[]) ∧ ∃ (k' : Nat) (v' : Value), s.rest = t.data.toList.drop k' ∧ k ≤ k' ∧ k' ≤ t.size ∧ Row w' b 196 #[.string t, .int .i64 k', .bool s.bad, v'] ∧ OwnTree w' B v' s.tree ∧ Below B w w'

theorem OwnTree.set {w : World} {B b : Nat} {v : Value} {tr : List Seg} {t : TypeId} {cs : Array Value} (h : OwnTree w B v tr) (hr : Row w b t cs) (hne : 99 ≠ t) (i : Nat) (u : Value) : OwnTree (w.setCell ⟨b, i, none⟩ u) B v tr :=
  h.far fun g hg => Below.heap_setCell w ⟨b, i, none⟩ u g (h.ne hr hne g hg)

set_option maxRecDepth 100000 in
set_option maxHeartbeats 2000000 in
theorem segment_not (B b : Nat) (t : ByteArray) (f k : Nat) (p : Int) (bad : Bool) (tr : List Seg) (v : Value) (w : World) (hk : k ≤ t.size) (hBb : B ≤ b) (hr : Row w b 196 #[.string t, .int .i64 k, .bool bad, v]) (hown : OwnTree w B v tr)
    (h : bad = true ∨ 8 < tr.length ∨ k = t.size) :
    Calls Try.prog 163 #[.pointer (some ⟨b, 0, none⟩), .int .i64 p] w (SpecPost w B b t k (sSeg f ⟨t.data.toList.drop k, bad, tr⟩ p)) := by
  have hS : sSeg f ⟨t.data.toList.drop k, bad, tr⟩ p = ⟨t.data.toList.drop k, true, tr⟩ := sSeg_not (by
    rcases h with h | h | h
    · exact .inl h
    · exact .inr (.inl h)
    · exact .inr (.inr (.inl (List.drop_of_length_le (by simp; omega)))))
  rw [hS]
  clear hS
  obtain ⟨A, cap, rfl, -⟩ := hown.form
  have c0 : w.cell? ⟨b, 0, none⟩ = some (.string t) := hr.cell 0
  have c1 : w.cell? ⟨b, 1, none⟩ = some (.int .i64 k) := hr.cell 1
  have c2 : w.cell? ⟨b, 2, none⟩ = some (.bool bad) := hr.cell 2
  have c3 : w.cell? ⟨b, 3, none⟩ = some (.slice A tr.length cap) := hr.cell 3
  have z2 : w.frozen? ⟨b, 2, none⟩ = false := hr.free 2
  have fin : ∀ q : Nat, SpecPost w B b t k ⟨t.data.toList.drop k, true, tr⟩ (.returned (.tuple #[])) ((w.drewN q).setCell ⟨b, 2, none⟩ (.bool true)) := fun q =>
    ⟨rfl, k, _, rfl, Nat.le_refl _, hk, Row.put (w := w.drewN q) hr 2 (.bool true), OwnTree.set (w := w.drewN q) hown hr (by decide) 2 _, (below_drewN (Below.refl B w) q).setCell hBb _⟩
  have HF := Lib.hid fin
  have hk0 : (0 : Int) ≤ (k : Int) := Int.natCast_nonneg _
  clear fin hown hr
  cases bad with
  | true =>
    go_enter Try.func163, Try.ntmps163
    go_wp2_with fail
    go_quiet (fail)
    go_wp2
    refine bodyPost_ret (results_none rfl _ _ _) rfl ?_
    exact HF.out _
  | false =>
    by_cases hlt : k < t.size
    · have h8 : 8 < tr.length := by
        rcases h with h | h | h
        · cases h
        · exact h
        · omega
      have g1 : decide (t.size ≤ k) = false := decide_eq_false (by omega)
      have g2 : decide (8 < tr.length) = true := decide_eq_true h8
      have g3 : ¬ (t.size : Int) ≤ (k : Int) := by omega
      have g4 : (8 : Int) < (tr.length : Int) := by omega
      go_enter Try.func163, Try.ntmps163
      go_wp2_with fail
      go_quiet (fail)
      go_wp2
      refine bodyPost_ret (results_none rfl _ _ _) rfl ?_
      exact HF.out _
    · have g1 : decide (t.size ≤ k) = true := decide_eq_true (by omega)
      have g3 : (t.size : Int) ≤ (k : Int) := by omega
      go_enter Try.func163, Try.ntmps163
      go_wp2_with fail
      go_quiet (fail)
      go_wp2
      refine bodyPost_ret (results_none rfl _ _ _) rfl ?_
      exact HF.out _

end Go.Proofs.Ytcpiojliakgdlaa
