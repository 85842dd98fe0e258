/- Joined: Aa Rj. -/
import Derived.Test.YtafpefjjeddmeaaU29
import Derived.Test.YtafpefjjeddmeaaU21
import Derived.Test.YtafpefjjeddmeaaU16
import Derived.Lib.IndexBytes
/- Chains, pairs, calls and depths of one trace: plain. -/
namespace Go.Proofs.Ytafpefjjeddmeaa
open Go.RowKit

/-- A chain without its last name is what the chains began with, or a chain ahead of it. -/
theorem chain_ahead : ∀ (f : Forest) (a : List UInt8) (i : Nat) (x : List UInt8), (chainsB a f)[i]? = some x → x.dropLast = a ∨ ∃ j, j < i ∧ (chainsB a f)[j]? = some x.dropLast
  | .nil, _, i, x, h => by cases h
  | .cons c k r, a, i, x, h => by
    have e : chainsB a (.cons c k r) = (a ++ [c]) :: (chainsB (a ++ [c]) k ++ chainsB a r) := rfl
    rw [e] at h ⊢
    cases i with
    | zero =>
      injection h with h
      subst h
      exact .inl (List.dropLast_concat)
    | succ i =>
      have h' : (chainsB (a ++ [c]) k ++ chainsB a r)[i]? = some x := h
      by_cases hi : i < (chainsB (a ++ [c]) k).length
      · rw [List.getElem?_append_left hi] at h'
        rcases chain_ahead k (a ++ [c]) i x h' with h1 | ⟨j, hj, h1⟩
        · exact .inr ⟨0, by omega, by rw [h1]; rfl⟩
        · exact .inr ⟨j + 1, by omega, by show (chainsB (a ++ [c]) k ++ chainsB a r)[j]? = _; rw [List.getElem?_append_left (by omega)]; exact h1⟩
      · rw [List.getElem?_append_right (by omega)] at h'
        rcases chain_ahead r a _ x h' with h1 | ⟨j, hj, h1⟩
        · exact .inl h1
        · refine .inr ⟨(chainsB (a ++ [c]) k).length + j + 1, by omega, ?_⟩
          show (chainsB (a ++ [c]) k ++ chainsB a r)[(chainsB (a ++ [c]) k).length + j]? = _
          rw [List.getElem?_append_right (by omega), Nat.add_sub_cancel_left]
          exact h1
/-- Whether a chain goes on from the root or from one of the first chains. -/
def inP (r : UInt8) (xs : List Txt) (x : Txt) (j : Nat) : Bool := decide (x.dropLast = [r]) || (List.range j).any fun i => decide (xs[i]? = some x.dropLast)
theorem inP_succ (r : UInt8) (xs : List Txt) (x : Txt) (j : Nat) : inP r xs x (j + 1) = (inP r xs x j || decide (xs[j]? = some x.dropLast)) := by
  unfold inP
  rw [List.range_succ, List.any_append, Bool.or_assoc]
  simp
theorem inP_all {l : List Seg} {f : Forest} {k : Nat} {x : Txt} (h : (chainsB [rootB l] f)[k]? = some x) : inP (rootB l) (chainsB [rootB l] f) x k = true := by
  unfold inP
  rcases chain_ahead f [rootB l] k x h with h1 | ⟨j, hj, h1⟩
  · rw [decide_eq_true h1]; rfl
  · rw [Bool.or_eq_true, List.any_eq_true]
    exact .inr ⟨j, List.mem_range.2 hj, decide_eq_true h1⟩
/-- Whether a pair is among the first of a row. -/
def prP (ps : List Txt) (q : Txt) (j : Nat) : Bool := (List.range j).any fun i => decide (ps[i]? = some q)
theorem prP_succ (ps : List Txt) (q : Txt) (j : Nat) : prP ps q (j + 1) = (prP ps q j || decide (ps[j]? = some q)) := by
  unfold prP
  rw [List.range_succ, List.any_append]
  simp
theorem prP_all {ps : List Txt} {q : Txt} (h : q ∈ ps) : prP ps q ps.length = true := by
  obtain ⟨i, hi, e⟩ := List.getElem_of_mem h
  unfold prP
  rw [List.any_eq_true]
  exact ⟨i, List.mem_range.2 hi, decide_eq_true (by rw [List.getElem?_eq_getElem hi, e])⟩
/-- The greatest number of calls within each other. -/
def mxCut (L : List Txt) : Nat := L.foldl (fun m x => max m (x.length - 1)) 0
theorem mxCut_snoc (L : List Txt) (x : Txt) : mxCut (L ++ [x]) = max (mxCut L) (x.length - 1) := by unfold mxCut; rw [List.foldl_append]; rfl
theorem mxCut_cons (r : UInt8) (L : List Txt) : mxCut (L.map fun x => r :: x) = mxLen L := by
  have key : ∀ (L : List Txt) (m : Nat), (L.map fun x => r :: x).foldl (fun m x => max m (x.length - 1)) m = L.foldl (fun m x => max m x.length) m := by
    intro L
    induction L with
    | nil => intro m; rfl
    | cons y L ih => intro m; exact ih _
  exact key L 0
theorem mxCut_le {L : List Txt} {n : Nat} (h : ∀ x ∈ L, x.length ≤ n) : mxCut L ≤ n := by
  have key : ∀ (L : List Txt) (m : Nat), m ≤ n → (∀ x ∈ L, x.length ≤ n) → L.foldl (fun m x => max m (x.length - 1)) m ≤ n := by
    intro L
    induction L with
    | nil => intro m hm _; exact hm
    | cons y L ih => intro m hm hx; exact ih _ (Nat.max_le.2 ⟨hm, by have := hx y (by simp); omega⟩) (fun x hx' => hx x (by simp [hx']))
  exact key L 0 (Nat.zero_le _) h
/-- The sum of a row's first numbers. -/
def sumF (f : Nat → Int) : Nat → Int
  | 0 => 0
  | k + 1 => sumF f k + f k
theorem sumF_add (f g : Nat → Int) : ∀ k, sumF (fun i => f i + g i) k = sumF f k + sumF g k
  | 0 => rfl
  | k + 1 => by
    show sumF (fun i => f i + g i) k + (f k + g k) = sumF f k + f k + (sumF g k + g k)
    rw [sumF_add f g k]
    omega
theorem sumF_congr {f g : Nat → Int} : ∀ {k : Nat}, (∀ i, i < k → f i = g i) → sumF f k = sumF g k
  | 0, _ => rfl
  | k + 1, h => by
    show sumF f k + f k = sumF g k + g k
    rw [sumF_congr (fun i hi => h i (by omega)), h k (by omega)]
theorem sumF_one (j : Nat) : ∀ k, sumF (fun i => if (j : Int) = (i : Int) then 1 else 0) k = if j < k then 1 else 0
  | 0 => rfl
  | k + 1 => by
    show sumF _ k + (if (j : Int) = (k : Int) then (1 : Int) else 0) = _
    rw [sumF_one j k]
    by_cases h1 : j < k
    · rw [if_pos h1, if_pos (show j < k + 1 by omega), if_neg (show ¬((j : Int) = (k : Int)) by omega)]; rfl
    · by_cases h2 : j = k
      · subst h2; rw [if_neg h1, if_pos rfl, if_pos (show j < j + 1 by omega)]; rfl
      · rw [if_neg h1, if_neg (show ¬((j : Int) = (k : Int)) by omega), if_neg (show ¬(j < k + 1) by omega)]; rfl
theorem sumF_cnt (l : List Seg) : ∀ (xs : List Txt), (∀ x ∈ xs, ∃ j : Nat, indexB l ⟨#[lastB x]⟩ = (j : Int) ∧ j < l.length) → sumF (fun i => (cntAt l xs i : Int)) l.length = xs.length
  | [], _ => by
    have : ∀ k, sumF (fun i => (cntAt l [] i : Int)) k = 0 := fun k => by
      induction k with
      | zero => rfl
      | succ k ih => show sumF _ k + _ = 0; rw [ih]; rfl
    exact this _
  | x :: xs, h => by
    obtain ⟨j, h1, h2⟩ := h x List.mem_cons_self
    have ih := sumF_cnt l xs (fun y hy => h y (List.mem_cons_of_mem _ hy))
    have e : sumF (fun i => (cntAt l (x :: xs) i : Int)) l.length = sumF (fun i => (cntAt l xs i : Int) + if (j : Int) = (i : Int) then 1 else 0) l.length := sumF_congr fun i _ => by
      unfold cntAt
      rw [List.filter_cons, h1]
      by_cases hj : (j : Int) = (i : Int)
      · simp [hj]
      · simp [hj]
    rw [e, sumF_add, ih, sumF_one, if_pos h2]
    simp
theorem sumF_bd {f : Nat → Int} {n : Int} (h : ∀ i, 0 ≤ f i ∧ f i ≤ n) (hn : 0 ≤ n) : ∀ k : Nat, 0 ≤ sumF f k ∧ sumF f k ≤ n * k
  | 0 => ⟨Int.le_refl _, by simp [sumF]⟩
  | k + 1 => by
    obtain ⟨h1, h2⟩ := sumF_bd h hn k
    obtain ⟨h3, h4⟩ := h k
    refine ⟨by show 0 ≤ sumF f k + f k; omega, ?_⟩
    show sumF f k + f k ≤ n * ((k + 1 : Nat) : Int)
    have : n * ((k + 1 : Nat) : Int) = n * k + n := by rw [Int.natCast_succ, Int.mul_add, Int.mul_one]
    omega
theorem trace_calls {l : List Seg} {t : ByteArray} {f : Forest} (h : traceB l t.data.toList = some f) :
    sumF (fun i => (cntAt l (chainsB [] f) i : Int)) l.length = f.size ∧ depthRes l t = (mxCut (chainsB [rootB l] f) : Int) ∧ callsRes l t = cntRow l (chainsB [] f) ∧ xsRes l t = chainsB [rootB l] f ∧ countRes l t = f.size := by
  have e : chainsB [rootB l] f = (chainsB [] f).map fun x => rootB l :: x := by
    rw [show [rootB l] = [rootB l] ++ [] from rfl, chainsB_pre]
    rfl
  refine ⟨?_, ?_, ?_, ?_, ?_⟩
  · rw [sumF_cnt l _ (fun x hx => ?_), chainsB_len]
    obtain ⟨y, c, rfl, hc⟩ := chainsB_last f [] (traceB_all h) x hx
    rw [lastB_snoc]
    exact callP_index hc
  · unfold depthRes
    rw [h, e, mxCut_cons]
  · unfold callsRes
    rw [h]
  · unfold xsRes
    rw [h]
  · unfold countRes
    rw [h]
theorem str_cut (x : Txt) : (strOf x).extract 0 ((strOf x).size - 1) = strOf x.dropLast := by
  rw [str_size]
  apply ByteArray.ext
  rw [ByteArray.data_extract]
  apply Array.ext'
  simp [strOf, List.dropLast_eq_take]

end Go.Proofs.Ytafpefjjeddmeaa
/- The reference's reading, plain: its steps at a place of the text. -/
namespace Go.Proofs.Ytafpefjjeddmeaa

theorem tw_take (p : UInt8 → Bool) : ∀ (n m : Nat) (r : List UInt8), m ≤ n → (∀ j, j < m → ∃ h : j < r.length, p r[j] = true) → (m = n ∨ r.length ≤ m ∨ ∃ h : m < r.length, p r[m] = false) → (r.take n).takeWhile p = r.take m
  | 0, 0, _, _, _, _ => by simp
  | 0, m + 1, _, h, _, _ => absurd h (by omega)
  | n + 1, 0, [], _, _, _ => rfl
  | n + 1, 0, c :: r, _, _, h2 => by
    rcases h2 with h | h | ⟨_, h⟩
    · omega
    · simp at h
    · rw [List.take_succ_cons, List.takeWhile_cons, if_neg (by simp at h; simp [h])]
      rfl
  | n + 1, m + 1, [], _, h1, _ => by
    obtain ⟨h, _⟩ := h1 0 (by omega)
    simp at h
  | n + 1, m + 1, c :: r, hm, h1, h2 => by
    obtain ⟨_, h0⟩ := h1 0 (by omega)
    rw [List.take_succ_cons, List.takeWhile_cons, if_pos (by simpa using h0), List.take_succ_cons]
    congr 1
    refine tw_take p n m r (by omega) (fun j hj => ?_) ?_
    · obtain ⟨h, h3⟩ := h1 (j + 1) (by omega)
      exact ⟨by simpa using h, by simpa using h3⟩
    · rcases h2 with h | h | ⟨h, h3⟩
      · exact .inl (by omega)
      · exact .inr (.inl (by simpa using h))
      · exact .inr (.inr ⟨by simpa using h, by simpa using h3⟩)

/-- The digits between two places. -/
theorem digs_at {t : ByteArray} {a j : Nat} (ha : a ≤ j) (hj : j ≤ t.size) (h3 : j ≤ a + 3) (h1 : ∀ i, a ≤ i → ∀ h : i < t.size, i < j → isDig t[i] = true) (h2 : j = a + 3 ∨ t.size ≤ j ∨ ∃ h : j < t.size, isDig t[j] = false) :
    digs (t.data.toList.drop a) = (t.data.toList.drop a).take (j - a) ∧ (digs (t.data.toList.drop a)).length = j - a := by
  have hl : (t.data.toList.drop a).length = t.size - a := by simp
  have e : digs (t.data.toList.drop a) = (t.data.toList.drop a).take (j - a) := by
    unfold digs
    refine tw_take isDig 3 (j - a) _ (by omega) (fun i hi => ?_) ?_
    · refine ⟨by omega, ?_⟩
      have hz : a + i < t.data.size := show a + i < t.size by omega
      have h5 : isDig (t.data[a + i]'hz) = true := h1 (a + i) (by omega) hz (by omega)
      simpa using h5
    · rcases h2 with h | h | ⟨h, h4⟩
      · exact .inl (by omega)
      · exact .inr (.inl (by omega))
      · refine .inr (.inr ⟨by omega, ?_⟩)
        have h6 : a + (j - a) = j := by omega
        have hz : j < t.data.size := h
        have h5 : isDig (t.data[j]'hz) = false := h4
        simp only [List.getElem_drop, Array.getElem_toList, h6]
        exact h5
  refine ⟨e, ?_⟩
  rw [e, List.length_take]
  omega

/-- The tree with a segment more. -/
def grow1 (tr : List Seg) (c : UInt8) (r : List UInt8) (p : Int) : List Seg := tr ++ [⟨⟨#[c]⟩, numB (digs r), p⟩]
theorem grow1_len (tr : List Seg) (c : UInt8) (r : List UInt8) (p : Int) : (grow1 tr c r p).length = tr.length + 1 := by simp [grow1]
/-- What follows the first child. -/
def sAfter (f own : Nat) (s2 : SSt) : SSt := sKids (fun x => sSeg f x own) (s2.rest.length + 1) s2

theorem sSeg_no {t : ByteArray} {k j f : Nat} {c : UInt8} {tr : List Seg} {p : Int} (h8 : tr.length ≤ 8) (hd : t.data.toList.drop k = c :: t.data.toList.drop (k + 1)) (hj : (digs (t.data.toList.drop (k + 1))).length = j - (k + 1)) (hkj : k + 1 ≤ j) (hn : nextB t j 40 = false) :
    sSeg (f + 1) ⟨t.data.toList.drop k, false, tr⟩ p = ⟨t.data.toList.drop j, !numOk (digs (t.data.toList.drop (k + 1))), grow1 tr c (t.data.toList.drop (k + 1)) p⟩ := by
  rw [hd, sSeg_open f c _ tr p h8, hj, List.drop_drop, show k + 1 + (j - (k + 1)) = j by omega]
  unfold nextB at hn
  cases hr : t.data.toList.drop j with
  | nil => rfl
  | cons d r3 =>
    rw [hr] at hn
    have : d ≠ 40 := fun e => by subst e; simp at hn
    simp only [if_neg this]
    rfl
theorem sSeg_yes {t : ByteArray} {k j f : Nat} {c : UInt8} {tr : List Seg} {p : Int} (h8 : tr.length ≤ 8) (hd : t.data.toList.drop k = c :: t.data.toList.drop (k + 1)) (hj : (digs (t.data.toList.drop (k + 1))).length = j - (k + 1)) (hkj : k + 1 ≤ j) (hn : t.data.toList.drop j = 40 :: t.data.toList.drop (j + 1)) :
    sSeg (f + 1) ⟨t.data.toList.drop k, false, tr⟩ p = sAfter f tr.length (sSeg f ⟨t.data.toList.drop (j + 1), !numOk (digs (t.data.toList.drop (k + 1))), grow1 tr c (t.data.toList.drop (k + 1)) p⟩ tr.length) := by
  rw [hd, sSeg_open f c _ tr p h8, hj, List.drop_drop, show k + 1 + (j - (k + 1)) = j by omega, hn]
  simp only [if_true]
  rfl
theorem sSeg_not {f : Nat} {r : List UInt8} {bad : Bool} {tr : List Seg} {p : Int} (h : bad = true ∨ 8 < tr.length ∨ r = [] ∨ f = 0) : sSeg f ⟨r, bad, tr⟩ p = ⟨r, true, tr⟩ := by
  cases f with
  | zero => rfl
  | succ f =>
    unfold sSeg
    rcases h with rfl | h | rfl | h
    · rfl
    · rw [if_pos (by simp [h])]
    · split <;> rfl
    · cases h
theorem sKids_comma {seg : SSt → SSt} {g : Nat} {r : List UInt8} {bad : Bool} {tr : List Seg} : sKids seg (g + 1) ⟨44 :: r, bad, tr⟩ = sKids seg g (seg ⟨r, bad, tr⟩) := by
  conv => lhs; unfold sKids
  simp only [if_true]
theorem sKids_bad {seg : SSt → SSt} {g : Nat} {r : List UInt8} {tr : List Seg} (h : ∀ d u, r = d :: u → d ≠ 44) : sKids seg (g + 1) ⟨r, true, tr⟩ = ⟨r, true, tr⟩ := by
  unfold sKids
  cases r with
  | nil => rfl
  | cons d u =>
    simp only [if_neg (h d u rfl)]
    rfl
theorem sKids_close {seg : SSt → SSt} {g : Nat} {r : List UInt8} {tr : List Seg} : sKids seg (g + 1) ⟨41 :: r, false, tr⟩ = ⟨r, false, tr⟩ := by
  conv => lhs; unfold sKids
  simp
theorem sKids_else {seg : SSt → SSt} {g : Nat} {r : List UInt8} {tr : List Seg} (h1 : ∀ d u, r = d :: u → d ≠ 44) (h2 : ∀ d u, r = d :: u → d ≠ 41) : sKids seg (g + 1) ⟨r, false, tr⟩ = ⟨r, true, tr⟩ := by
  unfold sKids
  cases r with
  | nil => rfl
  | cons d u =>
    simp [h1 d u rfl, h2 d u rfl]

end Go.Proofs.Ytafpefjjeddmeaa

/- The reference's reader: segment. -/
namespace Go.Proofs.Ytafpefjjeddmeaa
open Go.RowKit

/-- What segment has done. -/
def SpecPost (w : World) (B b : Nat) (t : ByteArray) (k : Nat) (s : SSt) (e : Ending) (w' : World) : Prop :=
  e = .returned (.tuple #[]) ∧ ∃ (k' : Nat) (v' : Value), s.rest = t.data.toList.drop k' ∧ k ≤ k' ∧ k' ≤ t.size ∧ Row w' b 183 #[.string t, .int .i64 k', .bool s.bad, v'] ∧ OwnTree w' B v' s.tree ∧ Below B w w'

theorem OwnTree.set {w : World} {B b : Nat} {v : Value} {tr : List Seg} {t : TypeId} {cs : Array Value} (h : OwnTree w B v tr) (hr : Row w b t cs) (hne : 36 ≠ t) (i : Nat) (u : Value) : OwnTree (w.setCell ⟨b, i, none⟩ u) B v tr :=
  h.far fun g hg => Below.heap_setCell w ⟨b, i, none⟩ u g (h.ne hr hne g hg)

set_option maxRecDepth 100000 in
set_option maxHeartbeats 2000000 in
theorem segment_not (B b : Nat) (t : ByteArray) (f k : Nat) (p : Int) (bad : Bool) (tr : List Seg) (v : Value) (w : World) (hk : k ≤ t.size) (hBb : B ≤ b) (hr : Row w b 183 #[.string t, .int .i64 k, .bool bad, v]) (hown : OwnTree w B v tr)
    (h : bad = true ∨ 8 < tr.length ∨ k = t.size) :
    Calls Try.prog 152 #[.pointer (some ⟨b, 0, none⟩), .int .i64 p] w (SpecPost w B b t k (sSeg f ⟨t.data.toList.drop k, bad, tr⟩ p)) := by
  have hS : sSeg f ⟨t.data.toList.drop k, bad, tr⟩ p = ⟨t.data.toList.drop k, true, tr⟩ := sSeg_not (by
    rcases h with h | h | h
    · exact .inl h
    · exact .inr (.inl h)
    · exact .inr (.inr (.inl (List.drop_of_length_le (by simp; omega)))))
  rw [hS]
  clear hS
  obtain ⟨A, cap, rfl, -⟩ := hown.form
  have c0 : w.cell? ⟨b, 0, none⟩ = some (.string t) := hr.cell 0
  have c1 : w.cell? ⟨b, 1, none⟩ = some (.int .i64 k) := hr.cell 1
  have c2 : w.cell? ⟨b, 2, none⟩ = some (.bool bad) := hr.cell 2
  have c3 : w.cell? ⟨b, 3, none⟩ = some (.slice A tr.length cap) := hr.cell 3
  have z2 : w.frozen? ⟨b, 2, none⟩ = false := hr.free 2
  have fin : ∀ q : Nat, SpecPost w B b t k ⟨t.data.toList.drop k, true, tr⟩ (.returned (.tuple #[])) ((w.drewN q).setCell ⟨b, 2, none⟩ (.bool true)) := fun q =>
    ⟨rfl, k, _, rfl, Nat.le_refl _, hk, Row.put (w := w.drewN q) hr 2 (.bool true), OwnTree.set (w := w.drewN q) hown hr (by decide) 2 _, (below_drewN (Below.refl B w) q).setCell hBb _⟩
  have HF := Lib.hid fin
  have hk0 : (0 : Int) ≤ (k : Int) := Int.natCast_nonneg _
  clear fin hown hr
  cases bad with
  | true =>
    go_enter Try.func152, Try.ntmps152
    go_wp2_with fail
    go_quiet (fail)
    go_wp2
    refine bodyPost_ret (results_none rfl _ _ _) rfl ?_
    exact HF.out _
  | false =>
    by_cases hlt : k < t.size
    · have h8 : 8 < tr.length := by
        rcases h with h | h | h
        · cases h
        · exact h
        · omega
      have g1 : decide (t.size ≤ k) = false := decide_eq_false (by omega)
      have g2 : decide (8 < tr.length) = true := decide_eq_true h8
      have g3 : ¬ (t.size : Int) ≤ (k : Int) := by omega
      have g4 : (8 : Int) < (tr.length : Int) := by omega
      go_enter Try.func152, Try.ntmps152
      go_wp2_with fail
      go_quiet (fail)
      go_wp2
      refine bodyPost_ret (results_none rfl _ _ _) rfl ?_
      exact HF.out _
    · have g1 : decide (t.size ≤ k) = true := decide_eq_true (by omega)
      have g3 : (t.size : Int) ≤ (k : Int) := by omega
      go_enter Try.func152, Try.ntmps152
      go_wp2_with fail
      go_quiet (fail)
      go_wp2
      refine bodyPost_ret (results_none rfl _ _ _) rfl ?_
      exact HF.out _

end Go.Proofs.Ytafpefjjeddmeaa
