/- Joined: Ja Bi Be Jc. -/
import Derived.Test.YtnknfpfpjijemaaU20
import Derived.Test.YtnknfpfpjijemaaU18
import Derived.Test.YtnknfpfpjijemaaU21
import Derived.Test.YtnknfpfpjijemaaU19
import Derived.Test.YtnknfpfpjijemaaU17
import Derived.Test.YtnknfpfpjijemaaU15
/- Who may call whom: pairs, and what can be reached: plain. -/
namespace Go.Proofs.Ytnknfpfpjijemaa
open Go.RowKit

def pairOk (l : List Seg) (x : Txt) : Bool := match x with
  | [u, v] => callP l u && callP l v
  | _ => false
theorem pairOk_two {l : List Seg} {x : Txt} (h : pairOk l x = true) : ∃ u v, x = [u, v] ∧ callP l u = true ∧ callP l v = true := by
  match x, h with
  | [u, v], h => exact ⟨u, v, rfl, (Bool.and_eq_true_iff.1 h).1, (Bool.and_eq_true_iff.1 h).2⟩
theorem pairOk_len {l : List Seg} {x : Txt} (h : x.length ≠ 2) : pairOk l x = false := by
  match x, h with
  | [], _ => rfl
  | [_], _ => rfl
  | [_, _], h => exact absurd rfl h
  | _ :: _ :: _ :: _, _ => rfl
def txAt (ts : List ByteArray) (k : Nat) : Txt := (ts.getD k ByteArray.empty).data.toList
theorem txAt_of {ts : List ByteArray} {k : Nat} (h : k < ts.length) : txAt ts k = ts[k].data.toList := by
  unfold txAt
  rw [List.getD_eq_getElem?_getD, List.getElem?_eq_getElem h]
  rfl
/-- Whether the text at an index is a pair, and behind the one ahead of it. -/
def pairAt (l : List Seg) (ts : List ByteArray) (k : Nat) : Bool := pairOk l (txAt ts k) && (decide (k = 0) || decide (txAt ts (k - 1) < txAt ts k))
def pairsTo (l : List Seg) (ts : List ByteArray) (k : Nat) : Bool := (List.range k).all (pairAt l ts)
theorem pairsTo_succ (l : List Seg) (ts : List ByteArray) (k : Nat) : pairsTo l ts (k + 1) = (pairsTo l ts k && pairAt l ts k) := by
  unfold pairsTo
  rw [List.range_succ, List.all_append]
  simp
theorem pairsTo_bad {l : List Seg} {ts : List ByteArray} {k n : Nat} (hk : k < n) (h : pairAt l ts k = false) : pairsTo l ts n = false := by
  unfold pairsTo
  rw [List.all_eq_false]
  exact ⟨k, List.mem_range.2 hk, by rw [h]; decide⟩
def graphB (l : List Seg) (ts : List ByteArray) : Bool := validB l && decide (ts.length ≤ 20) && pairsTo l ts ts.length
def psOf (ts : List ByteArray) : List Txt := ts.map fun t => t.data.toList
theorem psOf_len (ts : List ByteArray) : (psOf ts).length = ts.length := List.length_map _
theorem psOf_at {ts : List ByteArray} {k : Nat} (h : k < ts.length) : (psOf ts)[k]? = some (txAt ts k) := by
  rw [txAt_of h]
  unfold psOf
  rw [List.getElem?_map, List.getElem?_eq_getElem h]
  rfl
theorem psOf_back (ts : List ByteArray) : (psOf ts).map strOf = ts := by
  unfold psOf
  rw [List.map_map]
  conv => rhs; rw [← List.map_id ts]
  exact List.map_congr_left fun t _ => rfl
/-- Pairs in their order, each once. -/
structure IsGraph (l : List Seg) (ps : List Txt) : Prop where
  valid : validB l = true
  len : ps.length ≤ 20
  two : ∀ p ∈ ps, ∃ u v, p = [u, v] ∧ callP l u = true ∧ callP l v = true
  asc : ps.Pairwise (· < ·)
theorem graph_is {l : List Seg} {ts : List ByteArray} (h : graphB l ts = true) : IsGraph l (psOf ts) := by
  unfold graphB at h
  rw [Bool.and_eq_true, Bool.and_eq_true] at h
  obtain ⟨⟨h1, h2⟩, h3⟩ := h
  have hat : ∀ k, k < ts.length → pairAt l ts k = true := fun k hk => by
    unfold pairsTo at h3
    exact List.all_eq_true.1 h3 k (List.mem_range.2 hk)
  refine ⟨h1, by rw [psOf_len]; exact of_decide_eq_true h2, fun p hp => ?_, ?_⟩
  · obtain ⟨k, hk, e⟩ := List.getElem_of_mem hp
    have hk' : k < ts.length := by rwa [psOf_len] at hk
    have h4 := psOf_at hk'
    rw [List.getElem?_eq_getElem hk, e] at h4
    injection h4 with h4
    rw [h4]
    have h5 := hat k hk'
    unfold pairAt at h5
    exact pairOk_two (Bool.and_eq_true_iff.1 h5).1
  · have step : ∀ j, j < ts.length → ∀ i, i < j → txAt ts i < txAt ts j := by
      intro j
      induction j with
      | zero => intro _ i hi; omega
      | succ j ih =>
        intro hj i hi
        have h5 := hat (j + 1) hj
        unfold pairAt at h5
        have h6 := (Bool.and_eq_true_iff.1 h5).2
        have h7 : txAt ts j < txAt ts (j + 1) := by simpa using h6
        by_cases hij : i = j
        · rw [hij]; exact h7
        · exact txt_trans (ih (by omega) i (by omega)) h7
    rw [List.pairwise_iff_getElem]
    intro i j hi hj hij
    have hi' : i < ts.length := by rwa [psOf_len] at hi
    have hj' : j < ts.length := by rwa [psOf_len] at hj
    have e1 := psOf_at hi'
    have e2 := psOf_at hj'
    rw [List.getElem?_eq_getElem hi] at e1
    rw [List.getElem?_eq_getElem hj] at e2
    injection e1 with e1
    injection e2 with e2
    rw [e1, e2]
    exact step j hj' i hij

/-- Whom a segment may call, in the order of the pairs. -/
def fstB (p : Txt) : UInt8 := p.headD 0
def calleds (ps : List Txt) (u : UInt8) : List UInt8 := (ps.filter fun p => decide (fstB p = u)).map lastB
theorem calleds_snoc (ps : List Txt) (p : Txt) (u : UInt8) : calleds (ps ++ [p]) u = calleds ps u ++ if fstB p = u then [lastB p] else [] := by
  unfold calleds
  rw [List.filter_append, List.map_append]
  congr 1
  by_cases h : fstB p = u
  · simp [h]
  · simp [h]
theorem calleds_mem {ps : List Txt} {u v : UInt8} (h : v ∈ calleds ps u) : ∃ p ∈ ps, fstB p = u ∧ lastB p = v := by
  unfold calleds at h
  obtain ⟨p, hp, e⟩ := List.mem_map.1 h
  rw [List.mem_filter] at hp
  exact ⟨p, hp.1, of_decide_eq_true hp.2, e⟩
theorem fst_two (u v : UInt8) : fstB [u, v] = u := rfl
theorem last_two (u v : UInt8) : lastB [u, v] = v := rfl
theorem calleds_iff {l : List Seg} {ps : List Txt} (h : IsGraph l ps) (u v : UInt8) : v ∈ calleds ps u ↔ [u, v] ∈ ps := by
  constructor
  · intro hv
    obtain ⟨p, hp, e1, e2⟩ := calleds_mem hv
    obtain ⟨a, b, rfl, _, _⟩ := h.two p hp
    rw [fst_two] at e1
    rw [last_two] at e2
    subst e1
    subst e2
    exact hp
  · intro hp
    unfold calleds
    exact List.mem_map.2 ⟨_, List.mem_filter.2 ⟨hp, by rw [fst_two]; simp⟩, rfl⟩
theorem two_lt {u v w : UInt8} (h : ([u, v] : Txt) < [u, w]) : ([v] : Txt) < [w] := by
  have h1 : List.Lex (· < ·) ([u, v] : Txt) [u, w] := h
  cases h1 with
  | rel h => exact absurd h (UInt8.lt_irrefl _)
  | cons h => exact h
theorem calleds_asc {l : List Seg} {ps : List Txt} (h : IsGraph l ps) (u : UInt8) : ((calleds ps u).map fun v => ([v] : Txt)).Pairwise (· < ·) := by
  unfold calleds
  rw [List.map_map, List.pairwise_map]
  have h1 := h.asc.sublist (List.filter_sublist (p := fun p => decide (fstB p = u)))
  refine List.Pairwise.imp_of_mem ?_ h1
  intro a b ha hb hab
  rw [List.mem_filter] at ha hb
  obtain ⟨u1, v1, rfl, _, _⟩ := h.two a ha.1
  obtain ⟨u2, v2, rfl, _, _⟩ := h.two b hb.1
  have e1 : u1 = u := of_decide_eq_true ha.2
  have e2 : u2 = u := of_decide_eq_true hb.2
  subst e1
  subst e2
  exact two_lt hab

/-- The last segments of all ways but the first one. -/
def lasts (Q : List Txt) : List UInt8 := Q.tail.map lastB
/-- A way that goes on by each of those that are not reached yet. -/
def stepQ (way : Txt) : List UInt8 → List Txt → List Txt
  | [], Q => Q
  | c :: cs, Q => if c ∈ lasts Q then stepQ way cs Q else stepQ way cs (Q ++ [way ++ [c]])
theorem stepQ_app (way : Txt) : ∀ (a b : List UInt8) (Q : List Txt), stepQ way (a ++ b) Q = stepQ way b (stepQ way a Q)
  | [], _, _ => rfl
  | c :: a, b, Q => by
    show (if c ∈ lasts Q then stepQ way (a ++ b) Q else stepQ way (a ++ b) (Q ++ [way ++ [c]])) = stepQ way b (if c ∈ lasts Q then _ else _)
    by_cases h : c ∈ lasts Q
    · rw [if_pos h, if_pos h, stepQ_app way a b Q]
    · rw [if_neg h, if_neg h, stepQ_app way a b _]
theorem stepQ_one (way : Txt) (c : UInt8) (Q : List Txt) : stepQ way [c] Q = if c ∈ lasts Q then Q else Q ++ [way ++ [c]] := rfl
theorem stepQ_pre (way : Txt) : ∀ (cs : List UInt8) (Q : List Txt), Q <+: stepQ way cs Q
  | [], Q => List.prefix_refl Q
  | c :: cs, Q => by
    show Q <+: if c ∈ lasts Q then _ else _
    by_cases h : c ∈ lasts Q
    · rw [if_pos h]; exact stepQ_pre way cs Q
    · rw [if_neg h]; exact (List.prefix_append Q _).trans (stepQ_pre way cs _)
theorem lasts_snoc {Q : List Txt} (hQ : Q ≠ []) (way : Txt) (c : UInt8) : lasts (Q ++ [way ++ [c]]) = lasts Q ++ [c] := by
  cases Q with
  | nil => exact absurd rfl hQ
  | cons q Q =>
    unfold lasts
    show (Q ++ [way ++ [c]]).map lastB = Q.map lastB ++ [c]
    rw [List.map_append, List.map_singleton, lastB_snoc]
/-- The ways when the first 'k' have been gone on. -/
def qAt (ps : List Txt) (u : UInt8) : Nat → List Txt
  | 0 => [[u]]
  | k + 1 => match (qAt ps u k)[k]? with
    | none => qAt ps u k
    | some way => stepQ way (calleds ps (lastB way)) (qAt ps u k)
theorem qAt_succ {ps : List Txt} {u : UInt8} {k : Nat} {way : Txt} (h : (qAt ps u k)[k]? = some way) : qAt ps u (k + 1) = stepQ way (calleds ps (lastB way)) (qAt ps u k) := by
  show (match (qAt ps u k)[k]? with | none => _ | some way => _) = _
  rw [h]
theorem qAt_none {ps : List Txt} {u : UInt8} {k : Nat} (h : (qAt ps u k).length ≤ k) : qAt ps u (k + 1) = qAt ps u k := by
  show (match (qAt ps u k)[k]? with | none => _ | some way => _) = _
  rw [List.getElem?_eq_none h]
theorem qAt_stop {ps : List Txt} {u : UInt8} {k : Nat} (h : (qAt ps u k).length ≤ k) : ∀ m, qAt ps u (k + m) = qAt ps u k
  | 0 => rfl
  | m + 1 => by
    have ih := qAt_stop h m
    rw [show k + (m + 1) = (k + m) + 1 by omega, qAt_none (by rw [ih]; omega), ih]
def wayOk (ps : List Txt) (Q : List Txt) : Prop := Q ≠ [] ∧ (lasts Q).Nodup ∧ (∀ c ∈ lasts Q, c ∈ ps.map lastB) ∧ (∀ x ∈ Q, x ≠ [])
theorem stepQ_ok {ps : List Txt} (way : Txt) : ∀ (cs : List UInt8) (Q : List Txt), wayOk ps Q → (∀ c ∈ cs, c ∈ ps.map lastB) → wayOk ps (stepQ way cs Q)
  | [], Q, h, _ => h
  | c :: cs, Q, h, hc => by
    show wayOk ps (if c ∈ lasts Q then _ else _)
    by_cases hm : c ∈ lasts Q
    · rw [if_pos hm]; exact stepQ_ok way cs Q h (fun x hx => hc x (List.mem_cons_of_mem _ hx))
    · rw [if_neg hm]
      refine stepQ_ok way cs _ ⟨by simp, ?_, ?_, ?_⟩ (fun x hx => hc x (List.mem_cons_of_mem _ hx))
      · rw [lasts_snoc h.1, List.nodup_append]
        refine ⟨h.2.1, by simp, ?_⟩
        intro a ha b hb e
        rw [List.mem_singleton] at hb
        subst hb
        subst e
        exact hm ha
      · intro x hx
        rw [lasts_snoc h.1] at hx
        rcases List.mem_append.1 hx with hx | hx
        · exact h.2.2.1 x hx
        · rw [List.mem_singleton] at hx
          rw [hx]
          exact hc c List.mem_cons_self
      · intro x hx
        rcases List.mem_append.1 hx with hx | hx
        · exact h.2.2.2 x hx
        · rw [List.mem_singleton] at hx
          rw [hx]
          simp
theorem calleds_sub (ps : List Txt) (u : UInt8) : ∀ c ∈ calleds ps u, c ∈ ps.map lastB := fun c hc => by
  obtain ⟨p, hp, _, e⟩ := calleds_mem hc
  exact List.mem_map.2 ⟨p, hp, e⟩
theorem qAt_ok (ps : List Txt) (u : UInt8) : ∀ k, wayOk ps (qAt ps u k)
  | 0 => ⟨by simp [qAt], by simp [qAt, lasts], by simp [qAt, lasts], by simp [qAt]⟩
  | k + 1 => by
    have ih := qAt_ok ps u k
    cases h : (qAt ps u k)[k]? with
    | none =>
      rw [qAt_none (by rw [List.getElem?_eq_none_iff] at h; exact h)]
      exact ih
    | some way =>
      rw [qAt_succ h]
      exact stepQ_ok way _ _ ih (calleds_sub ps _)
theorem nodup_le : ∀ {a b : List UInt8}, a.Nodup → (∀ x ∈ a, x ∈ b) → a.length ≤ b.length
  | [], b, _, _ => Nat.zero_le _
  | x :: a, b, hn, hs => by
    have hx := hs x List.mem_cons_self
    obtain ⟨h1, h2⟩ := List.nodup_cons.1 hn
    have h3 := nodup_le (b := b.erase x) h2 (fun y hy => (List.mem_erase_of_ne (fun e => h1 (by rw [← e]; exact hy))).2 (hs y (List.mem_cons_of_mem _ hy)))
    rw [List.length_erase_of_mem hx] at h3
    have h4 := List.length_pos_of_mem hx
    rw [List.length_cons]
    omega
theorem wayOk.len {ps Q : List Txt} (h : wayOk ps Q) : Q.length ≤ ps.length + 1 := by
  have h1 := nodup_le h.2.1 h.2.2.1
  unfold lasts at h1
  rw [List.length_map, List.length_map, List.length_tail] at h1
  omega
theorem wayOk.pos {ps Q : List Txt} (h : wayOk ps Q) : 0 < Q.length := List.length_pos_iff.2 h.1
/-- All ways, and all that is reached. -/
def waysB (ps : List Txt) (u : UInt8) : List Txt := qAt ps u 32
def reachL (ps : List Txt) (u : UInt8) : List UInt8 := lasts (waysB ps u)
theorem waysB_stop {ps : List Txt} {u : UInt8} {k : Nat} (hp : ps.length ≤ 20) (hk : k ≤ (qAt ps u k).length) (h : (qAt ps u k).length ≤ k) : waysB ps u = qAt ps u k := by
  have h1 := (qAt_ok ps u k).len
  have h2 := qAt_stop h (32 - k)
  rw [show k + (32 - k) = 32 by omega] at h2
  exact h2
theorem waysB_len {ps : List Txt} {u : UInt8} (hp : ps.length ≤ 20) : (waysB ps u).length ≤ 21 := by
  have := (qAt_ok ps u 32).len
  unfold waysB
  omega
theorem qAt_pre (ps : List Txt) (u : UInt8) (k : Nat) : qAt ps u k <+: qAt ps u (k + 1) := by
  cases h : (qAt ps u k)[k]? with
  | none =>
    rw [qAt_none (by rw [List.getElem?_eq_none_iff] at h; exact h)]
    exact List.prefix_refl _
  | some way =>
    rw [qAt_succ h]
    exact stepQ_pre way _ _
/-- All ways begin with the segment that they start from. -/
theorem stepQ_all {P : Txt → Prop} (way : Txt) (hw : P way) (hs : ∀ x c, P x → P (x ++ [c])) : ∀ (cs : List UInt8) (Q : List Txt), (∀ x ∈ Q, P x) → ∀ x ∈ stepQ way cs Q, P x
  | [], Q, h => h
  | c :: cs, Q, h => by
    show ∀ x ∈ (if c ∈ lasts Q then _ else _), P x
    by_cases hm : c ∈ lasts Q
    · rw [if_pos hm]; exact stepQ_all way hw hs cs Q h
    · rw [if_neg hm]
      refine stepQ_all way hw hs cs _ fun x hx => ?_
      rcases List.mem_append.1 hx with hx | hx
      · exact h x hx
      · rw [List.mem_singleton] at hx
        rw [hx]
        exact hs _ _ hw

end Go.Proofs.Ytnknfpfpjijemaa
/- What is lost in a trace: plain. -/
namespace Go.Proofs.Ytnknfpfpjijemaa
open Go.RowKit

def byteAt (x : List UInt8) (k : Nat) : UInt8 := x.getD k 0
/-- What the reference writes down for one chain. -/
def lostOne (l : List Seg) (x : List UInt8) (m : Nat) : List UInt8 := ((List.range m).filter fun k => !lieB l ⟨#[byteAt x k]⟩ ⟨#[lastB x]⟩).map (byteAt x)
def lostAll (l : List Seg) (xs : List (List UInt8)) : List UInt8 := xs.flatMap fun x => lostOne l x x.length
theorem lostOne_succ (l : List Seg) (x : List UInt8) (m : Nat) : lostOne l x (m + 1) = lostOne l x m ++ if lieB l ⟨#[byteAt x m]⟩ ⟨#[lastB x]⟩ = true then [] else [byteAt x m] := by
  unfold lostOne
  rw [List.range_succ, List.filter_append, List.map_append]
  congr 1
  cases h : lieB l ⟨#[byteAt x m]⟩ ⟨#[lastB x]⟩ <;> simp [h]
theorem lostOne_len (l : List Seg) (x : List UInt8) (m : Nat) : (lostOne l x m).length ≤ m := by
  unfold lostOne
  rw [List.length_map]
  have := List.length_filter_le (fun k => !lieB l ⟨#[byteAt x k]⟩ ⟨#[lastB x]⟩) (List.range m)
  simpa using this
theorem lostAll_snoc (l : List Seg) (xs : List (List UInt8)) (x : List UInt8) : lostAll l (xs ++ [x]) = lostAll l xs ++ lostOne l x x.length := by
  unfold lostAll
  rw [List.flatMap_append]
  simp
theorem lostAll_len (l : List Seg) : ∀ (xs : List (List UInt8)), (∀ x ∈ xs, x.length ≤ 9) → (lostAll l xs).length ≤ 9 * xs.length
  | [], _ => Nat.le_refl _
  | x :: xs, h => by
    have h1 := lostAll_len l xs (fun y hy => h y (List.mem_cons_of_mem _ hy))
    have h2 := lostOne_len l x x.length
    have h3 := h x List.mem_cons_self
    have e : lostAll l (x :: xs) = lostOne l x x.length ++ lostAll l xs := List.flatMap_cons
    rw [e, List.length_append, List.length_cons]
    omega
/-- Which segments the program says are lost at the last call of a chain, and in all of them. -/
def lostX (l : List Seg) (x : List UInt8) (i : Nat) : Bool := decide (byteOf l i ∈ x) && decide (kindIx l i (bSeek l (lastB x)).toNat = 2)
def lostF (l : List Seg) (xs : List (List UInt8)) (i : Nat) : Bool := decide (i < l.length) && xs.any fun x => lostX l x i
theorem lostF_nil (l : List Seg) (i : Nat) : lostF l [] i = false := by unfold lostF; simp
theorem lostF_snoc (l : List Seg) (xs : List (List UInt8)) (x : List UInt8) (i : Nat) : lostF l (xs ++ [x]) i = (lostF l xs i || (decide (i < l.length) && lostX l x i)) := by
  unfold lostF
  rw [List.any_append]
  cases decide (i < l.length) <;> simp
theorem mem_bytes {x : List UInt8} {c : UInt8} : c ∈ x ↔ ∃ k, k < x.length ∧ byteAt x k = c := by
  constructor
  · intro h
    obtain ⟨k, hk, e⟩ := List.getElem_of_mem h
    exact ⟨k, hk, by unfold byteAt; rw [List.getD_eq_getElem?_getD, List.getElem?_eq_getElem hk]; exact e⟩
  · rintro ⟨k, hk, e⟩
    unfold byteAt at e
    rw [List.getD_eq_getElem?_getD, List.getElem?_eq_getElem hk] at e
    rw [← e]
    exact List.getElem_mem hk
theorem lost_same {l : List Seg} (hv : validB l = true) {xs : List (List UInt8)} (hx : ∀ x ∈ xs, callP l (lastB x) = true) {i : Nat} (hi : i < l.length) : decide (byteOf l i ∈ lostAll l xs) = lostF l xs i := by
  have hb := bSeek_byte hv hi
  have one : ∀ x ∈ xs, (byteOf l i ∈ lostOne l x x.length ↔ lostX l x i = true) := by
    intro x hxm
    have hc : 0 ≤ bSeek l (lastB x) := by
      have h1 := of_decide_eq_true (hx x hxm)
      rwa [show indexB l ⟨#[lastB x]⟩ = bSeek l (lastB x) from if_pos hv] at h1
    have hl : lieB l ⟨#[byteOf l i]⟩ ⟨#[lastB x]⟩ = lieIx l i (bSeek l (lastB x)).toNat := by
      rw [lieB_bytes hv, hb, decide_eq_true hc, decide_eq_true (Int.natCast_nonneg i), Int.toNat_natCast]
      rfl
    unfold lostX
    rw [Bool.and_eq_true, decide_eq_true_eq, kindIx_side, ← hl]
    unfold lostOne
    rw [List.mem_map]
    constructor
    · rintro ⟨k, hk, e⟩
      rw [List.mem_filter, List.mem_range] at hk
      rw [e] at hk
      exact ⟨mem_bytes.2 ⟨k, hk.1, e⟩, hk.2⟩
    · rintro ⟨h1, h2⟩
      obtain ⟨k, hk, e⟩ := mem_bytes.1 h1
      refine ⟨k, ?_, e⟩
      rw [List.mem_filter, List.mem_range, e]
      exact ⟨hk, h2⟩
  unfold lostF
  rw [decide_eq_true hi, Bool.true_and, Bool.eq_iff_iff, decide_eq_true_eq, List.any_eq_true]
  unfold lostAll
  rw [List.mem_flatMap]
  constructor
  · rintro ⟨x, hxm, h⟩
    exact ⟨x, hxm, (one x hxm).1 h⟩
  · rintro ⟨x, hxm, h⟩
    exact ⟨x, hxm, (one x hxm).2 h⟩
/-- The segments that are lost in a trace. -/
def lostRes (l : List Seg) (t : ByteArray) : ByteArray := match traceB l t.data.toList with
  | none => ⟨#[]⟩
  | some f => namesAt l (selIx (lostF l (chainsB [rootB l] f)) l.length)
theorem selIx_congr {f g : Nat → Bool} {n : Nat} (h : ∀ i, i < n → f i = g i) : selIx f n = selIx g n := by
  unfold selIx
  apply List.filter_congr
  intro i hi
  exact h i (List.mem_range.1 hi)

end Go.Proofs.Ytnknfpfpjijemaa
/- LostIn on both sides. -/
namespace Go.Proofs.Ytnknfpfpjijemaa
open Go.RowKit Go.Shelf

theorem strOf_byte {x : List UInt8} {k : Nat} (hk : k < x.length) : (strOf x).extract k (k + 1) = ⟨#[byteAt x k]⟩ := by
  have hk' : k < (strOf x).size := by rw [str_size]; exact hk
  rw [one_byte _ hk']
  have : (strOf x)[k] = byteAt x k := by
    unfold byteAt
    rw [List.getD_eq_getElem?_getD, List.getElem?_eq_getElem hk]
    simp [strOf, ByteArray.getElem_eq_getElem_data]
  rw [this]
theorem strOf_last {x : List UInt8} (hx : x ≠ []) : (strOf x).extract ((strOf x).size - 1) (strOf x).size = ⟨#[lastB x]⟩ := by
  obtain ⟨y, c, rfl⟩ : ∃ y c, x = y ++ [c] := ⟨x.dropLast, x.getLast hx, (List.dropLast_concat_getLast hx).symm⟩
  rw [lastB_snoc]
  exact str_last y c
theorem strOf_snoc (a : List UInt8) (c : UInt8) : strOf a ++ ⟨#[c]⟩ = strOf (a ++ [c]) := bytes_cat a [c]

theorem contains_said (s : ByteArray) (b : UInt8) : decide (0 ≤ Lib.indexByte s.data.toList b) = decide (b ∈ s.data.toList) := by
  rw [← Lib.contains_iff_indexByte]
  simp

end Go.Proofs.Ytnknfpfpjijemaa
/- The reference: which pairs are valid, and what is reached. -/
namespace Go.Proofs.Ytnknfpfpjijemaa
open Go.RowKit

theorem two_bytes {z : ByteArray} (h : z.size = 2) : ∃ u v, z = strOf [u, v] := by
  obtain ⟨⟨l⟩⟩ := z
  match l, h with
  | [u, v], _ => exact ⟨u, v, rfl⟩
theorem two_cut (u v : UInt8) : (strOf [u, v]).size = 2 ∧ (strOf [u, v]).extract 0 1 = ⟨#[u]⟩ ∧ (strOf [u, v]).extract 1 2 = ⟨#[v]⟩ := ⟨rfl, rfl, rfl⟩
theorem txAt_str {ts : List ByteArray} {k : Nat} (h : k < ts.length) {x : Txt} (hx : ts[k] = strOf x) : txAt ts k = x := by
  rw [txAt_of h, hx]
  rfl
theorem str_of (z : ByteArray) : z = strOf z.data.toList := rfl

set_option maxRecDepth 100000 in
set_option maxHeartbeats 4000000 in
theorem specGraph_any (A : Option Addr) (l : List Seg) (c : Nat) (A2 : Option Addr) (ts : List ByteArray) (c2 : Nat) (w : World) (hw : Segs w w.heap.size A l) (ht : St.Strs w w.heap.size A2 ts) (hl : l.length ≤ 1048576) (hn : Short l) (htl : ts.length ≤ 1048576) (hts : ∀ s ∈ ts, s.size ≤ 1048576) :
    Calls Try.prog 19 #[.slice A l.length c, .slice A2 ts.length c2] w fun e w' => e = .returned (.bool (graphB l ts)) ∧ Below w.heap.size w w' := by
  have HW : Hid (Segs w w.heap.size A l) := hw
  have HT : Hid (St.Strs w w.heap.size A2 ts) := ht
  have HV := Lib.hid (fun W h => specTreeValid_any A l c W h hl hn)
  have HI := Lib.hid (fun s W h => l1Index_any A l c s W h hl hn)
  have HTS := Lib.hid hts
  have HF : Hid (pairsTo l ts ts.length = false → graphB l ts = false) := fun h => by
    show graphB l ts = false
    unfold graphB
    rw [h, Bool.and_false]
  clear hw ht hn hts
  go_enter Try.func19, Try.ntmps19
  go_wp2
  go_loopw [9] (fun i wr => ∃ k : Nat, k ≤ ts.length ∧ i = .int .i64 k ∧ Hid (pairsTo l ts k = true) ∧ Hid (Below w.heap.size w wr))
    (fun i _ => ts.length - (intOf i).toNat)
  case atStart => exact ⟨0, Nat.zero_le _, rfl, rfl, Below.refl _ _⟩
  case round =>
    obtain ⟨k, hk, rfl, HP, HB⟩ := hrel
    have hk0 : (0 : Int) ≤ (k : Int) := Int.natCast_nonneg _
    by_cases hlt : k < ts.length
    · have hlt' : (k : Int) < (ts.length : Int) := by omega
      obtain ⟨b, o, rfl, hB, hc⟩ := HT.out (by omega)
      have c0 := hc k ts[k] (List.getElem?_eq_getElem hlt)
      rw [← HB.out.cell (p := ⟨b, o + k, none⟩) hB] at c0
      have hsz := HTS.out ts[k] (List.getElem_mem hlt)
      have HBAD := Lib.hid (fun h => HF.out (pairsTo_bad (l := l) (ts := ts) hlt h))
      have HSU := Lib.hid (pairsTo_succ l ts k)
      by_cases hz : ts[k].size = 2
      · obtain ⟨u, v, hp⟩ := two_bytes hz
        have HX := Lib.hid (txAt_str hlt hp)
        obtain ⟨hz2, hx1, hx2⟩ := two_cut u v
        have HPA : Hid (pairAt l ts k = (callP l u && callP l v && (decide (k = 0) || decide (txAt ts (k - 1) < [u, v])))) := by
          show pairAt l ts k = _
          unfold pairAt
          rw [HX.out]
          rfl
        have HI1 := Lib.hid (fun W h => HI.out ⟨#[u]⟩ W h)
        have HI2 := Lib.hid (fun W h => HI.out ⟨#[v]⟩ W h)
        have hsw := HW.out
        rw [hp] at c0
        generalize hq1 : (⟨#[u]⟩ : ByteArray) = bu at *
        generalize hq2 : (⟨#[v]⟩ : ByteArray) = bv at *
        have HQ1 := Lib.hid hq1
        have HQ2 := Lib.hid hq2
        by_cases hu : callP l u = true
        · have hiu : ¬ indexB l bu < 0 := by
            have := of_decide_eq_true hu
            rw [hq1] at this
            omega
          by_cases hv : callP l v = true
          · have hiv : ¬ indexB l bv < 0 := by
              have := of_decide_eq_true hv
              rw [hq2] at this
              omega
            by_cases hk1 : k = 0
            · have HP1 : Hid (pairsTo l ts (k + 1) = true) := by
                show _ = _
                rw [HSU.out, HP.out, HPA.out, hu, hv, decide_eq_true hk1]
                rfl
              have h5 : ¬ (0 : Int) < (k : Int) := by omega
              clear hp hz HPA HBAD HSU hq1 hq2 hu hv hc hk1
              generalize strOf [u, v] = z at *
              go_wp2_with fail
              refine (HI1.out _ ((HW.out.below HB.out).more HB.out.size)).mono ?_
              rintro e w1 ⟨rfl, hb1⟩
              have HB1 : Hid (Below w.heap.size w w1) := HB.out.trans (hb1.mono HB.out.size)
              clear hb1
              go_wp2_with fail
              refine (HI2.out _ ((HW.out.below HB1.out).more HB1.out.size)).mono ?_
              rintro e w2 ⟨rfl, hb2⟩
              have HB2 : Hid (Below w.heap.size w w2) := HB1.out.trans (hb2.mono HB1.out.size)
              clear hb2
              go_wp2
              go_roundw
              case rel => exact ⟨k + 1, by omega, by go_num, HP1, HB2⟩
              case measure => simp [intOf]; omega
            · have hkp : k - 1 < ts.length := by omega
              have c1 := hc (k - 1) ts[k - 1] (List.getElem?_eq_getElem hkp)
              have h3 : (k : Int) - 1 = ((k - 1 : Nat) : Int) := by omega
              have h4 : ((k - 1 : Nat) : Int) < (ts.length : Int) := by omega
              have h5 : (0 : Int) < (k : Int) := by omega
              have HY := Lib.hid (txAt_of hkp)
              have hless : Op.bytesLess ts[k - 1].toList (strOf [u, v]).toList = decide (txAt ts (k - 1) < [u, v]) := by
                rw [str_of ts[k - 1], txt_less, HY.out]
              have HPA2 : Hid (pairAt l ts k = decide (txAt ts (k - 1) < [u, v])) := by
                show _ = _
                rw [HPA.out, hu, hv, decide_eq_false hk1]
                rfl
              have hsq := HTS.out ts[k - 1] (List.getElem_mem hkp)
              by_cases hlx : txAt ts (k - 1) < [u, v]
              · have HP1 : Hid (pairsTo l ts (k + 1) = true) := by
                  show _ = _
                  rw [HSU.out, HP.out, HPA2.out, decide_eq_true hlx]
                  rfl
                rw [decide_eq_true hlx] at hless
                clear hp hz HPA HPA2 HBAD HSU hq1 hq2 hu hv hc hlx hk1
                generalize strOf [u, v] = z at *
                generalize ts[k - 1] = q at *
                go_wp2_with fail
                refine (HI1.out _ ((HW.out.below HB.out).more HB.out.size)).mono ?_
                rintro e w1 ⟨rfl, hb1⟩
                have HB1 : Hid (Below w.heap.size w w1) := HB.out.trans (hb1.mono HB.out.size)
                clear hb1
                go_wp2_with fail
                refine (HI2.out _ ((HW.out.below HB1.out).more HB1.out.size)).mono ?_
                rintro e w2 ⟨rfl, hb2⟩
                have HB2 : Hid (Below w.heap.size w w2) := HB1.out.trans (hb2.mono HB1.out.size)
                rw [← HB2.out.cell (p := ⟨b, o + (k - 1), none⟩) hB] at c1
                clear hb2
                go_wp2
                go_roundw
                case rel => exact ⟨k + 1, by omega, by go_num, HP1, HB2⟩
                case measure => simp [intOf]; omega
              · have HE := Lib.hid (HBAD.out (by rw [HPA2.out, decide_eq_false hlx]))
                rw [decide_eq_false hlx] at hless
                clear hp hz HPA HPA2 HBAD HSU hq1 hq2 hu hv hc hlx hk1
                generalize strOf [u, v] = z at *
                generalize ts[k - 1] = q at *
                go_wp2_with fail
                refine (HI1.out _ ((HW.out.below HB.out).more HB.out.size)).mono ?_
                rintro e w1 ⟨rfl, hb1⟩
                have HB1 : Hid (Below w.heap.size w w1) := HB.out.trans (hb1.mono HB.out.size)
                clear hb1
                go_wp2_with fail
                refine (HI2.out _ ((HW.out.below HB1.out).more HB1.out.size)).mono ?_
                rintro e w2 ⟨rfl, hb2⟩
                have HB2 : Hid (Below w.heap.size w w2) := HB1.out.trans (hb2.mono HB1.out.size)
                rw [← HB2.out.cell (p := ⟨b, o + (k - 1), none⟩) hB] at c1
                clear hb2
                go_wp2
                go_ret
                exact ⟨ret_bool HE.out.symm, HB2.out⟩
          · have HE := Lib.hid (HBAD.out (by rw [HPA.out, show callP l v = false by simpa using hv]; simp))
            have hiv : indexB l bv < 0 := by
              have h6 : ¬ 0 ≤ indexB l ⟨#[v]⟩ := fun h => hv (decide_eq_true h)
              rw [hq2] at h6
              omega
            clear hp hz HPA HBAD HSU hq1 hq2 hu hv hc
            generalize strOf [u, v] = z at *
            go_wp2_with fail
            refine (HI1.out _ ((HW.out.below HB.out).more HB.out.size)).mono ?_
            rintro e w1 ⟨rfl, hb1⟩
            have HB1 : Hid (Below w.heap.size w w1) := HB.out.trans (hb1.mono HB.out.size)
            clear hb1
            go_wp2_with fail
            refine (HI2.out _ ((HW.out.below HB1.out).more HB1.out.size)).mono ?_
            rintro e w2 ⟨rfl, hb2⟩
            have HB2 : Hid (Below w.heap.size w w2) := HB1.out.trans (hb2.mono HB1.out.size)
            clear hb2
            go_wp2
            go_ret
            exact ⟨ret_bool HE.out.symm, HB2.out⟩
        · have HE := Lib.hid (HBAD.out (by rw [HPA.out, show callP l u = false by simpa using hu]; simp))
          have hiu : indexB l bu < 0 := by
            have h6 : ¬ 0 ≤ indexB l ⟨#[u]⟩ := fun h => hu (decide_eq_true h)
            rw [hq1] at h6
            omega
          clear hp hz HPA HBAD HSU hq1 hq2 hu hc
          generalize strOf [u, v] = z at *
          go_wp2_with fail
          refine (HI1.out _ ((HW.out.below HB.out).more HB.out.size)).mono ?_
          rintro e w1 ⟨rfl, hb1⟩
          have HB1 : Hid (Below w.heap.size w w1) := HB.out.trans (hb1.mono HB.out.size)
          clear hb1
          go_wp2
          go_ret
          exact ⟨ret_bool HE.out.symm, HB1.out⟩
      · have HE := Lib.hid (HBAD.out (by
          unfold pairAt
          rw [pairOk_len (by rw [txAt_of hlt]; simpa using hz)]
          rfl))
        have hzz : ((ts[k].size : Int) != 2) = true := by rw [bne_iff_ne]; omega
        clear hc HBAD hz
        generalize ts[k] = z at *
        go_wp2
        go_ret
        exact ⟨ret_bool HE.out.symm, HB.out⟩
    · obtain rfl : k = ts.length := by omega
      have HG : Hid (graphB l ts = (validB l && decide (ts.length ≤ 20))) := by
        show graphB l ts = _
        unfold graphB
        rw [HP.out, Bool.and_true]
      cases hv : validB l with
      | false =>
        rw [hv] at HG
        go_wp2_with fail
        refine (HV.out _ ((HW.out.below HB.out).more HB.out.size)).mono ?_
        rw [hv]
        rintro e w1 ⟨rfl, hb1⟩
        have HB1 : Hid (Below w.heap.size w w1) := HB.out.trans (hb1.mono HB.out.size)
        go_wp2
        go_ret
        exact ⟨ret_bool HG.out.symm, HB1.out⟩
      | true =>
        rw [hv] at HG
        go_wp2_with fail
        refine (HV.out _ ((HW.out.below HB.out).more HB.out.size)).mono ?_
        rw [hv]
        rintro e w1 ⟨rfl, hb1⟩
        have HB1 : Hid (Below w.heap.size w w1) := HB.out.trans (hb1.mono HB.out.size)
        go_wp2
        go_ret
        exact ⟨ret_bool (by rw [HG.out, Bool.true_and]; exact decide_eq_decide.2 (by omega)), HB1.out⟩

end Go.Proofs.Ytnknfpfpjijemaa
