/- The reference's reading, plain: its steps at a place of the text. -/
import Derived.Test.YtdbddockmdkmeaaDoorRq
import Derived.Test.YtdbddockmdkmeaaDoorRw
import Derived.Lib.IndexBytes
import Derived.Test.YtdbddockmdkmeaaDoorRs
namespace Go.Proofs.YtdbddockmdkmeaaDoor

theorem tw_take (p : UInt8 → Bool) : ∀ (n m : Nat) (r : List UInt8), m ≤ n → (∀ j, j < m → ∃ h : j < r.length, p r[j] = true) → (m = n ∨ r.length ≤ m ∨ ∃ h : m < r.length, p r[m] = false) → (r.take n).takeWhile p = r.take m
  | 0, 0, _, _, _, _ => by simp
  | 0, m + 1, _, h, _, _ => absurd h (by omega)
  | n + 1, 0, [], _, _, _ => rfl
  | n + 1, 0, c :: r, _, _, h2 => by
    rcases h2 with h | h | ⟨_, h⟩
    · omega
    · simp at h
    · rw [List.take_succ_cons, List.takeWhile_cons, if_neg (by simp at h; simp [h])]
      rfl
  | n + 1, m + 1, [], _, h1, _ => by
    obtain ⟨h, _⟩ := h1 0 (by omega)
    simp at h
  | n + 1, m + 1, c :: r, hm, h1, h2 => by
    obtain ⟨_, h0⟩ := h1 0 (by omega)
    rw [List.take_succ_cons, List.takeWhile_cons, if_pos (by simpa using h0), List.take_succ_cons]
    congr 1
    refine tw_take p n m r (by omega) (fun j hj => ?_) ?_
    · obtain ⟨h, h3⟩ := h1 (j + 1) (by omega)
      exact ⟨by simpa using h, by simpa using h3⟩
    · rcases h2 with h | h | ⟨h, h3⟩
      · exact .inl (by omega)
      · exact .inr (.inl (by simpa using h))
      · exact .inr (.inr ⟨by simpa using h, by simpa using h3⟩)

/-- The digits between two places. -/
theorem digs_at {t : ByteArray} {a j : Nat} (ha : a ≤ j) (hj : j ≤ t.size) (h3 : j ≤ a + 3) (h1 : ∀ i, a ≤ i → ∀ h : i < t.size, i < j → isDig t[i] = true) (h2 : j = a + 3 ∨ t.size ≤ j ∨ ∃ h : j < t.size, isDig t[j] = false) :
    digs (t.data.toList.drop a) = (t.data.toList.drop a).take (j - a) ∧ (digs (t.data.toList.drop a)).length = j - a := by
  have hl : (t.data.toList.drop a).length = t.size - a := by simp
  have e : digs (t.data.toList.drop a) = (t.data.toList.drop a).take (j - a) := by
    unfold digs
    refine tw_take isDig 3 (j - a) _ (by omega) (fun i hi => ?_) ?_
    · refine ⟨by omega, ?_⟩
      have hz : a + i < t.data.size := show a + i < t.size by omega
      have h5 : isDig (t.data[a + i]'hz) = true := h1 (a + i) (by omega) hz (by omega)
      simpa using h5
    · rcases h2 with h | h | ⟨h, h4⟩
      · exact .inl (by omega)
      · exact .inr (.inl (by omega))
      · refine .inr (.inr ⟨by omega, ?_⟩)
        have h6 : a + (j - a) = j := by omega
        have hz : j < t.data.size := h
        have h5 : isDig (t.data[j]'hz) = false := h4
        simp only [List.getElem_drop, Array.getElem_toList, h6]
        exact h5
  refine ⟨e, ?_⟩
  rw [e, List.length_take]
  omega

/-- The tree with a segment more. -/
def grow1 (tr : List Seg) (c : UInt8) (r : List UInt8) (p : Int) : List Seg := tr ++ [⟨⟨#[c]⟩, numB (digs r), p⟩]
theorem grow1_len (tr : List Seg) (c : UInt8) (r : List UInt8) (p : Int) : (grow1 tr c r p).length = tr.length + 1 := by simp [grow1]
/-- What follows the first child. -/
def sAfter (f own : Nat) (s2 : SSt) : SSt := sKids (fun x => sSeg f x own) (s2.rest.length + 1) s2

theorem sSeg_no {t : ByteArray} {k j f : Nat} {c : UInt8} {tr : List Seg} {p : Int} (h8 : tr.length ≤ 8) (hd : t.data.toList.drop k = c :: t.data.toList.drop (k + 1)) (hj : (digs (t.data.toList.drop (k + 1))).length = j - (k + 1)) (hkj : k + 1 ≤ j) (hn : nextB t j 40 = false) :
    sSeg (f + 1) ⟨t.data.toList.drop k, false, tr⟩ p = ⟨t.data.toList.drop j, !numOk (digs (t.data.toList.drop (k + 1))), grow1 tr c (t.data.toList.drop (k + 1)) p⟩ := by
  rw [hd, sSeg_open f c _ tr p h8, hj, List.drop_drop, show k + 1 + (j - (k + 1)) = j by omega]
  unfold nextB at hn
  cases hr : t.data.toList.drop j with
  | nil => rfl
  | cons d r3 =>
    rw [hr] at hn
    have : d ≠ 40 := fun e => by subst e; simp at hn
    simp only [if_neg this]
    rfl
theorem sSeg_yes {t : ByteArray} {k j f : Nat} {c : UInt8} {tr : List Seg} {p : Int} (h8 : tr.length ≤ 8) (hd : t.data.toList.drop k = c :: t.data.toList.drop (k + 1)) (hj : (digs (t.data.toList.drop (k + 1))).length = j - (k + 1)) (hkj : k + 1 ≤ j) (hn : t.data.toList.drop j = 40 :: t.data.toList.drop (j + 1)) :
    sSeg (f + 1) ⟨t.data.toList.drop k, false, tr⟩ p = sAfter f tr.length (sSeg f ⟨t.data.toList.drop (j + 1), !numOk (digs (t.data.toList.drop (k + 1))), grow1 tr c (t.data.toList.drop (k + 1)) p⟩ tr.length) := by
  rw [hd, sSeg_open f c _ tr p h8, hj, List.drop_drop, show k + 1 + (j - (k + 1)) = j by omega, hn]
  simp only [if_true]
  rfl
theorem sSeg_not {f : Nat} {r : List UInt8} {bad : Bool} {tr : List Seg} {p : Int} (h : bad = true ∨ 8 < tr.length ∨ r = [] ∨ f = 0) : sSeg f ⟨r, bad, tr⟩ p = ⟨r, true, tr⟩ := by
  cases f with
  | zero => rfl
  | succ f =>
    unfold sSeg
    rcases h with rfl | h | rfl | h
    · rfl
    · rw [if_pos (by simp [h])]
    · split <;> rfl
    · cases h
theorem sKids_comma {seg : SSt → SSt} {g : Nat} {r : List UInt8} {bad : Bool} {tr : List Seg} : sKids seg (g + 1) ⟨44 :: r, bad, tr⟩ = sKids seg g (seg ⟨r, bad, tr⟩) := by
  conv => lhs; unfold sKids
  simp only [if_true]
theorem sKids_bad {seg : SSt → SSt} {g : Nat} {r : List UInt8} {tr : List Seg} (h : ∀ d u, r = d :: u → d ≠ 44) : sKids seg (g + 1) ⟨r, true, tr⟩ = ⟨r, true, tr⟩ := by
  unfold sKids
  cases r with
  | nil => rfl
  | cons d u =>
    simp only [if_neg (h d u rfl)]
    rfl
theorem sKids_close {seg : SSt → SSt} {g : Nat} {r : List UInt8} {tr : List Seg} : sKids seg (g + 1) ⟨41 :: r, false, tr⟩ = ⟨r, false, tr⟩ := by
  conv => lhs; unfold sKids
  simp
theorem sKids_else {seg : SSt → SSt} {g : Nat} {r : List UInt8} {tr : List Seg} (h1 : ∀ d u, r = d :: u → d ≠ 44) (h2 : ∀ d u, r = d :: u → d ≠ 41) : sKids seg (g + 1) ⟨r, false, tr⟩ = ⟨r, true, tr⟩ := by
  unfold sKids
  cases r with
  | nil => rfl
  | cons d u =>
    simp [h1 d u rfl, h2 d u rfl]

end Go.Proofs.YtdbddockmdkmeaaDoor

/- The reference's reader: segment. -/
namespace Go.Proofs.YtdbddockmdkmeaaDoor
open Go.RowKit

/-- What segment has done. -/
def SpecPost (w : World) (B b : Nat) (t : ByteArray) (k : Nat) (s : SSt) (e : Ending) (w' : World) : Prop :=
  e = .returned (.tuple #[]) ∧ ∃ (k' : Nat) (v' : Value), s.rest = t.data.toList.drop k' ∧ k ≤ k' ∧ k' ≤ t.size ∧ Row w' b 82 #[.string t, .int .i64 k', .bool s.bad, v'] ∧ OwnTree w' B v' s.tree ∧ Below B w w'

theorem OwnTree.set {w : World} {B b : Nat} {v : Value} {tr : List Seg} {t : TypeId} {cs : Array Value} (h : OwnTree w B v tr) (hr : Row w b t cs) (hne : 66 ≠ t) (i : Nat) (u : Value) : OwnTree (w.setCell ⟨b, i, none⟩ u) B v tr :=
  h.far fun g hg => Below.heap_setCell w ⟨b, i, none⟩ u g (h.ne hr hne g hg)

set_option maxRecDepth 100000 in
set_option maxHeartbeats 2000000 in
theorem segment_not (B b : Nat) (t : ByteArray) (f k : Nat) (p : Int) (bad : Bool) (tr : List Seg) (v : Value) (w : World) (hk : k ≤ t.size) (hBb : B ≤ b) (hr : Row w b 82 #[.string t, .int .i64 k, .bool bad, v]) (hown : OwnTree w B v tr)
    (h : bad = true ∨ 8 < tr.length ∨ k = t.size) :
    Calls Tryd.prog 69 #[.pointer (some ⟨b, 0, none⟩), .int .i64 p] w (SpecPost w B b t k (sSeg f ⟨t.data.toList.drop k, bad, tr⟩ p)) := by
  have hS : sSeg f ⟨t.data.toList.drop k, bad, tr⟩ p = ⟨t.data.toList.drop k, true, tr⟩ := sSeg_not (by
    rcases h with h | h | h
    · exact .inl h
    · exact .inr (.inl h)
    · exact .inr (.inr (.inl (List.drop_of_length_le (by simp; omega)))))
  rw [hS]
  clear hS
  obtain ⟨A, cap, rfl, -⟩ := hown.form
  have c0 : w.cell? ⟨b, 0, none⟩ = some (.string t) := hr.cell 0
  have c1 : w.cell? ⟨b, 1, none⟩ = some (.int .i64 k) := hr.cell 1
  have c2 : w.cell? ⟨b, 2, none⟩ = some (.bool bad) := hr.cell 2
  have c3 : w.cell? ⟨b, 3, none⟩ = some (.slice A tr.length cap) := hr.cell 3
  have z2 : w.frozen? ⟨b, 2, none⟩ = false := hr.free 2
  have fin : ∀ q : Nat, SpecPost w B b t k ⟨t.data.toList.drop k, true, tr⟩ (.returned (.tuple #[])) ((w.drewN q).setCell ⟨b, 2, none⟩ (.bool true)) := fun q =>
    ⟨rfl, k, _, rfl, Nat.le_refl _, hk, Row.put (w := w.drewN q) hr 2 (.bool true), OwnTree.set (w := w.drewN q) hown hr (by decide) 2 _, (below_drewN (Below.refl B w) q).setCell hBb _⟩
  have HF := Lib.hid fin
  have hk0 : (0 : Int) ≤ (k : Int) := Int.natCast_nonneg _
  clear fin hown hr
  cases bad with
  | true =>
    go_enter Tryd.func69, Tryd.ntmps69
    go_wp2_with fail
    go_quiet (fail)
    go_wp2
    refine bodyPost_ret (results_none rfl _ _ _) rfl ?_
    exact HF.out _
  | false =>
    by_cases hlt : k < t.size
    · have h8 : 8 < tr.length := by
        rcases h with h | h | h
        · cases h
        · exact h
        · omega
      have g1 : decide (t.size ≤ k) = false := decide_eq_false (by omega)
      have g2 : decide (8 < tr.length) = true := decide_eq_true h8
      have g3 : ¬ (t.size : Int) ≤ (k : Int) := by omega
      have g4 : (8 : Int) < (tr.length : Int) := by omega
      go_enter Tryd.func69, Tryd.ntmps69
      go_wp2_with fail
      go_quiet (fail)
      go_wp2
      refine bodyPost_ret (results_none rfl _ _ _) rfl ?_
      exact HF.out _
    · have g1 : decide (t.size ≤ k) = true := decide_eq_true (by omega)
      have g3 : (t.size : Int) ≤ (k : Int) := by omega
      go_enter Tryd.func69, Tryd.ntmps69
      go_wp2_with fail
      go_quiet (fail)
      go_wp2
      refine bodyPost_ret (results_none rfl _ _ _) rfl ?_
      exact HF.out _

end Go.Proofs.YtdbddockmdkmeaaDoor
