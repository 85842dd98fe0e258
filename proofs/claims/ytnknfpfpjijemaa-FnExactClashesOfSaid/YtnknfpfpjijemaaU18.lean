/- Joined: Bb Ga Gc Bh. -/
import Derived.Test.YtnknfpfpjijemaaU07
import Derived.Test.YtnknfpfpjijemaaU17
import Derived.Test.YtnknfpfpjijemaaU06
import Derived.BigQuiet
/- Chains and the kinds of their last calls: plain. -/
namespace Go.Proofs.Ytnknfpfpjijemaa
open Go.RowKit

/-- Each chain ends with two names. -/
theorem chainsB_two {P : UInt8 → Bool} : ∀ (f : Forest) (p : List UInt8) (a : UInt8), P a = true → f.all P → ∀ x ∈ chainsB (p ++ [a]) f, ∃ y u v, x = y ++ [u, v] ∧ P u = true ∧ P v = true
  | .nil, _, _, _, _, x, h => by cases h
  | .cons c k r, p, a, ha, hp, x, h => by
    obtain ⟨h1, h2, h3⟩ := hp
    have h' : x ∈ ((p ++ [a]) ++ [c]) :: (chainsB ((p ++ [a]) ++ [c]) k ++ chainsB (p ++ [a]) r) := h
    rcases List.mem_cons.1 h' with rfl | h'
    · exact ⟨p, a, c, by simp, ha, h1⟩
    · rcases List.mem_append.1 h' with h' | h'
      · exact chainsB_two k (p ++ [a]) c h1 h2 x h'
      · exact chainsB_two r p a ha h3 x h'
theorem root_callP {l : List Seg} (hv : validB l = true) : callP l (rootB l) = true := by
  obtain ⟨s, h1, h2⟩ := root_name hv
  obtain ⟨h0, h3⟩ := List.getElem?_eq_some_iff.1 h1
  have h4 := name_index hv h0
  rw [h3, h2] at h4
  unfold callP
  rw [h4]
  rfl
/-- The name ahead of the last one. -/
def penB (x : List UInt8) : UInt8 := lastB x.dropLast
theorem ends_of (y : List UInt8) (u v : UInt8) : lastB (y ++ [u, v]) = v ∧ penB (y ++ [u, v]) = u := by
  have e : y ++ [u, v] = (y ++ [u]) ++ [v] := by simp
  refine ⟨by rw [e, lastB_snoc], ?_⟩
  unfold penB
  rw [e, List.dropLast_concat, lastB_snoc]
theorem trace_two {l : List Seg} {t : ByteArray} {f : Forest} (h : traceB l t.data.toList = some f) : ∀ x ∈ chainsB [rootB l] f, (∃ y u v, x = y ++ [u, v] ∧ callP l u = true ∧ callP l v = true) ∧ x.length ≤ 9 := fun x hx => by
  have hv := (traceB_some h).1
  refine ⟨chainsB_two f [] (rootB l) (root_callP hv) (traceB_all h) x hx, ?_⟩
  have h1 := (chainsB_bound f [rootB l] x hx).1
  have h2 := (traceB_size h).2
  simp at h1
  omega
def kNat (l : List Seg) (x : List UInt8) : Nat := (kindB l ⟨#[penB x]⟩ ⟨#[lastB x]⟩).toNat
theorem kNat_is {l : List Seg} (y : List UInt8) {u v : UInt8} (hu : callP l u = true) (hv : callP l v = true) : kindB l ⟨#[u]⟩ ⟨#[v]⟩ = (kNat l (y ++ [u, v]) : Int) ∧ kNat l (y ++ [u, v]) < 3 := by
  unfold kNat
  rw [(ends_of y u v).1, (ends_of y u v).2]
  have h : 0 ≤ kindB l ⟨#[u]⟩ ⟨#[v]⟩ ∧ kindB l ⟨#[u]⟩ ⟨#[v]⟩ ≤ 2 := by
    unfold kindB
    rw [if_pos (by unfold comOk hasSeg; unfold callP at hu hv; rw [hu, hv]; rfl)]
    exact kindIx_bd _ _ _
  omega
def kCnt (l : List Seg) (xs : List (List UInt8)) (i : Nat) : Nat := (xs.filter fun x => decide (kNat l x = i)).length
theorem kCnt_snoc (l : List Seg) (xs : List (List UInt8)) (x : List UInt8) (i : Nat) : kCnt l (xs ++ [x]) i = kCnt l xs i + if kNat l x = i then 1 else 0 := by
  unfold kCnt
  rw [List.filter_append, List.length_append]
  congr 1
  by_cases h : kNat l x = i
  · simp [h]
  · simp [h]
theorem kCnt_le (l : List Seg) (xs : List (List UInt8)) (i : Nat) : kCnt l xs i ≤ xs.length := List.length_filter_le _ _
def kRow (l : List Seg) (xs : List (List UInt8)) : List Int := (List.range 3).map fun i => (kCnt l xs i : Int)
theorem kRow_len (l : List Seg) (xs : List (List UInt8)) : (kRow l xs).length = 3 := by simp [kRow]
theorem kRow_nil (l : List Seg) : kRow l [] = [0, 0, 0] := rfl
theorem kRow_at (l : List Seg) (xs : List (List UInt8)) {i : Nat} (hi : i < 3) : (kRow l xs)[i]? = some (kCnt l xs i : Int) := by simp [kRow, hi]
theorem kRow_snoc (l : List Seg) (xs : List (List UInt8)) (x : List UInt8) {j : Nat} (hj : kNat l x = j) (hj3 : j < 3) : kRow l (xs ++ [x]) = (kRow l xs).set j ((kCnt l xs j : Int) + 1) := by
  apply List.ext_getElem?
  intro i
  by_cases hi : i < 3
  · rw [kRow_at l _ hi, kCnt_snoc, hj]
    by_cases hij : i = j
    · subst hij
      rw [List.getElem?_set_self (by rw [kRow_len]; exact hi), if_pos rfl]
      rfl
    · rw [List.getElem?_set_ne (fun e => hij e.symm), kRow_at l _ hi, if_neg (by omega)]
      rfl
  · rw [List.getElem?_eq_none (by rw [kRow_len]; omega), List.getElem?_eq_none (by rw [List.length_set, kRow_len]; omega)]
/-- How many calls of a trace are of each kind. -/
def countsRes (l : List Seg) (t : ByteArray) : List Int := match traceB l t.data.toList with
  | none => []
  | some f => kRow l (chainsB [rootB l] f)
def CountsPost (w : World) (l : List Seg) (t : ByteArray) (e : Ending) (w' : World) : Prop :=
  ∃ v, e = .returned (.tuple #[v, .bool (traceB l t.data.toList).isSome]) ∧ Si.OwnInts w' w.heap.size v (countsRes l t) ∧ Below w.heap.size w w'
theorem str_pen (p : List UInt8) (u v : UInt8) : (strOf (p ++ [u, v])).extract ((strOf (p ++ [u, v])).size - 2) ((strOf (p ++ [u, v])).size - 1) = ⟨#[u]⟩ := by
  have hs : (strOf (p ++ [u, v])).size = p.length + 2 := by rw [str_size]; simp
  rw [hs]
  apply ByteArray.ext
  rw [ByteArray.data_extract]
  apply Array.ext'
  simp [strOf]
theorem str_end (p : List UInt8) (u v : UInt8) : (strOf (p ++ [u, v])).extract ((strOf (p ++ [u, v])).size - 1) (strOf (p ++ [u, v])).size = ⟨#[v]⟩ := by
  have := str_last (p ++ [u]) v
  rwa [List.append_assoc] at this

end Go.Proofs.Ytnknfpfpjijemaa
/- States, needs and what they load: no program. -/
namespace Go.Proofs.Ytnknfpfpjijemaa
open Go.RowKit

/-- All states of a tree: none is loaded, or a path. -/
def statesIx (l : List Seg) : List (List Nat) := [] :: (List.range l.length).map (rp l)
def IsState (l : List Seg) (T : List Nat) : Prop := T = [] ∨ ∃ j, j < l.length ∧ T = rp l j
theorem mem_states {l : List Seg} {T : List Nat} : T ∈ statesIx l ↔ IsState l T := by
  unfold statesIx IsState
  rw [List.mem_cons, List.mem_map]
  constructor
  · rintro (h | ⟨j, hj, h⟩)
    · exact .inl h
    · exact .inr ⟨j, List.mem_range.1 hj, h.symm⟩
  · rintro (h | ⟨j, hj, h⟩)
    · exact .inl h
    · exact .inr ⟨j, List.mem_range.2 hj, h.symm⟩
theorem IsState.lt {l : List Seg} (hd : Down l l.length) {T : List Nat} (h : IsState l T) : ∀ j ∈ T, j < l.length := by
  rcases h with rfl | ⟨i, hi, rfl⟩
  · intro j hj; cases hj
  · intro j hj
    have := rp_le hd i hi j hj
    omega
theorem IsState.asc {l : List Seg} (hd : Down l l.length) {T : List Nat} (h : IsState l T) : T.Pairwise (· < ·) := by
  rcases h with rfl | ⟨i, hi, rfl⟩
  · exact List.Pairwise.nil
  · exact rp_asc hd i hi
theorem names_inj {l : List Seg} (hv : validB l = true) {T U : List Nat} (hT : ∀ j ∈ T, j < l.length) (hU : ∀ j ∈ U, j < l.length) (h : namesAt l T = namesAt l U) : T = U := by
  have h1 := namesAt_map hv T hT
  have h2 := namesAt_map hv U hU
  rw [h, h2] at h1
  clear h h2
  induction T generalizing U with
  | nil =>
    cases U with
    | nil => rfl
    | cons u U => cases h1
  | cons t T ih =>
    cases U with
    | nil => cases h1
    | cons u U =>
      simp only [List.map_cons, List.cons.injEq] at h1
      have e1 := byteOf_inj hv (hU u List.mem_cons_self) (hT t List.mem_cons_self) h1.1
      rw [e1, ih (fun j hj => hT j (List.mem_cons_of_mem _ hj)) (fun j hj => hU j (List.mem_cons_of_mem _ hj)) h1.2]

/-- The state that a text tells. -/
def stIx (l : List Seg) (s : ByteArray) : Option (List Nat) := if validB l = true then (statesIx l).find? (fun T => sameB (namesAt l T) s) else none
theorem stIx_some {l : List Seg} {s : ByteArray} {T : List Nat} (h : stIx l s = some T) : validB l = true ∧ IsState l T ∧ namesAt l T = s := by
  unfold stIx at h
  by_cases hv : validB l = true
  · rw [if_pos hv] at h
    exact ⟨hv, mem_states.1 (List.mem_of_find?_eq_some h), sameB_iff.1 (List.find?_some (p := fun T => sameB (namesAt l T) s) h)⟩
  · rw [if_neg hv] at h; cases h
theorem stIx_of {l : List Seg} {T : List Nat} (hv : validB l = true) (hT : IsState l T) : stIx l (namesAt l T) = some T := by
  have hd := (valid_all hv).1.down
  cases h : stIx l (namesAt l T) with
  | none =>
    unfold stIx at h
    rw [if_pos hv] at h
    exact absurd (sameB_iff.2 rfl) (List.find?_eq_none.1 h T (mem_states.2 hT))
  | some U =>
    obtain ⟨_, h2, h3⟩ := stIx_some h
    rw [names_inj hv (h2.lt hd) (hT.lt hd) h3]
theorem stIx_bad {l : List Seg} (s : ByteArray) (h : validB l = false) : stIx l s = none := if_neg (by rw [h]; decide)
def stOk (l : List Seg) (s : ByteArray) : Bool := (stIx l s).isSome
theorem stOk_bad {l : List Seg} (s : ByteArray) (h : validB l = false) : stOk l s = false := by unfold stOk; rw [stIx_bad s h]; rfl
theorem stOk_empty {l : List Seg} {s : ByteArray} (hs : s.size = 0) : stOk l s = validB l := by
  obtain rfl : s = ⟨#[]⟩ := by
    apply ByteArray.ext
    apply Array.eq_empty_of_size_eq_zero
    exact hs
  cases hv : validB l with
  | false => exact stOk_bad _ hv
  | true =>
    have h := stIx_of hv (.inl rfl : IsState l [])
    unfold stOk
    rw [show (⟨#[]⟩ : ByteArray) = namesAt l [] from rfl, h]
    rfl
theorem seek_nm {l : List Seg} (hv : validB l = true) {i : Nat} (hi : i < l.length) : indexB l (namesAt l [i]) = (i : Int) := by
  have h1 : indexB l (namesAt l [i]) = seek l (namesAt l [i]) := if_pos hv
  have h2 : 0 ≤ indexB l (namesAt l [i]) := by
    rw [h1]
    have key : ∀ (k : Nat), k ≤ i → seek l (namesAt l [i]) = seekFrom (namesAt l [i]) (l.drop k) k ∨ 0 ≤ seek l (namesAt l [i]) := by
      intro k
      induction k with
      | zero => intro _; exact .inl rfl
      | succ k ih =>
        intro hk
        rcases ih (by omega) with h | h
        · rw [seekFrom_drop l _ k (by omega)] at h
          by_cases hs : sameB (l[k]'(by omega)).name (namesAt l [i]) = true
          · rw [if_pos hs] at h; right; omega
          · rw [if_neg hs] at h; exact .inl h
        · exact .inr h
    rcases key i (Nat.le_refl _) with h | h
    · rw [seekFrom_drop l _ i hi, if_pos (sameB_iff.2 ?_)] at h
      · omega
      · rw [(nmAt_one hv hi).2]
        show _ = (⟨([i].flatMap (nmAt l)).toArray⟩ : ByteArray)
        rw [List.flatMap_cons, (nmAt_one hv hi).1]
        rfl
    · exact h
  have h3 := index_nm h2
  have h4 := namesAt_one_inj hv (index_lt h2) hi h3
  omega

/-- A state of a text of one byte or more is the path of its last segment. -/
theorem stIx_last {l : List Seg} {s : ByteArray} {T : List Nat} (h : stIx l s = some T) (hs : 0 < s.size) : 0 ≤ indexB l (s.extract (s.size - 1) s.size) ∧ T = pathIx l (s.extract (s.size - 1) s.size) := by
  obtain ⟨hv, hT, hn⟩ := stIx_some h
  have hd := (valid_all hv).1.down
  rcases hT with rfl | ⟨i, hi, rfl⟩
  · rw [← hn] at hs
    exact (Nat.lt_irrefl 0 hs).elim
  · obtain ⟨A, hA⟩ := rp_last hd i hi
    have hlt : ∀ j ∈ rp l i, j < l.length := fun j hj => by have := rp_le hd i hi j hj; omega
    have e : s.extract (s.size - 1) s.size = namesAt l [i] := by
      apply ByteArray.ext
      apply Array.ext'
      have h1 := namesAt_map hv _ hlt
      have h2 := namesAt_map hv [i] (fun j hj => by rw [List.mem_singleton.1 hj]; exact hi)
      rw [h2, ← hn]
      have e4 : ∀ (x : ByteArray), (x.extract (x.size - 1) x.size).data.toList = x.data.toList.drop (x.size - 1) := fun x => by
        simp [ByteArray.data_extract]
        exact List.take_of_length_le (by simp)
      rw [e4, h1, hA]
      have e5 : (namesAt l (A ++ [i])).size = A.length + 1 := by
        have : (namesAt l (A ++ [i])).size = (namesAt l (A ++ [i])).data.toList.length := by simp
        rw [this, ← hA, h1, hA]
        simp
      rw [e5]
      simp
    rw [e, seek_nm hv hi]
    refine ⟨by omega, ?_⟩
    unfold pathIx
    rw [seek_nm hv hi, Int.toNat_natCast]
theorem stOk_last {l : List Seg} {s : ByteArray} (hs : 0 < s.size) : stOk l s = (hasSeg l (s.extract (s.size - 1) s.size) && sameB (pathStr l (s.extract (s.size - 1) s.size)) s) := by
  cases h : stIx l s with
  | some T =>
    obtain ⟨h1, h2⟩ := stIx_last h hs
    obtain ⟨hv, _, hn⟩ := stIx_some h
    have e1 : stOk l s = true := by unfold stOk; rw [h]; rfl
    have e2 : hasSeg l (s.extract (s.size - 1) s.size) = true := decide_eq_true h1
    have e3 : sameB (pathStr l (s.extract (s.size - 1) s.size)) s = true := by
      apply sameB_iff.2
      rw [pathStr_ix h1, ← h2]
      exact hn
    rw [e1, e2, e3]
    rfl
  | none =>
    have e1 : stOk l s = false := by unfold stOk; rw [h]; rfl
    rw [e1]
    symm
    rw [Bool.and_eq_false_iff]
    by_cases h0 : 0 ≤ indexB l (s.extract (s.size - 1) s.size)
    · right
      cases h3 : sameB (pathStr l (s.extract (s.size - 1) s.size)) s with
      | false => rfl
      | true =>
        have h4 := sameB_iff.1 h3
        have h5 := stIx_of (index_valid h0) (.inr ⟨_, index_lt h0, rfl⟩ : IsState l (pathIx l (s.extract (s.size - 1) s.size)))
        rw [← pathStr_ix h0, h4, h] at h5
        cases h5
    · exact .inl (decide_eq_false h0)

/-- The state behind a need for all of 'P'. -/
def needT (T P : List Nat) : List Nat := if (∀ x ∈ P, x ∈ T) then T else P
def lessT (T U : List Nat) : List Nat := T.filter (fun x => decide (x ∉ U))
def loadT (T P : List Nat) : List Nat := lessT (needT T P) T
def dropT (T P : List Nat) : List Nat := lessT T (needT T P)

theorem comLen_comm {α : Type} [DecidableEq α] : ∀ xs ys : List α, comLen xs ys = comLen ys xs
  | [], [] => rfl
  | [], _ :: _ => by simp [comLen]
  | _ :: _, [] => by simp [comLen]
  | a :: xs, b :: ys => by
    simp only [comLen]
    by_cases h : a = b
    · rw [if_pos h, if_pos h.symm, comLen_comm xs ys]
    · rw [if_neg h, if_neg (fun e => h e.symm)]
theorem com_mem {l : List Seg} (hd : Down l l.length) {T U : List Nat} (hT : IsState l T) (hU : IsState l U) {k : Nat} (hk : k < T.length) : T[k] ∈ U ↔ k < comLen T U := by
  constructor
  · intro hm
    rcases hT with rfl | ⟨i, hi, rfl⟩
    · exact absurd hk (by simp)
    · rcases hU with rfl | ⟨j, hj, rfl⟩
      · cases hm
      · have hmi : (rp l i)[k] ∈ rp l i := List.getElem_mem hk
        have hx : (rp l i)[k] < l.length := by have := rp_le hd i hi _ hmi; omega
        have h1 := rp_prefix hd i hi _ hmi
        have h2 := rp_prefix hd j hj _ hm
        obtain ⟨A, hA⟩ := rp_last hd _ hx
        have h3 := comLen_prefix _ _ _ h1 h2
        rw [hA] at h1 h3
        have h4 : (rp l i).take k ++ [(rp l i)[k]] <+: rp l i := by
          rw [← List.take_succ_eq_append_getElem hk]
          exact List.take_prefix _ _
        have h5 := snoc_unique (rp_asc hd i hi) h1 h4
        rw [List.length_take] at h5
        rw [List.length_append, List.length_singleton] at h3
        omega
  · intro h
    obtain ⟨x, h1, h2⟩ := comLen_get T U k h
    rw [List.getElem?_eq_getElem hk] at h1
    injection h1 with h1
    rw [h1]
    exact List.mem_of_getElem? h2
theorem less_drop {l : List Seg} (hd : Down l l.length) {T U : List Nat} (hT : IsState l T) (hU : IsState l U) : lessT T U = T.drop (comLen T U) := by
  unfold lessT
  conv => lhs; rw [← List.take_append_drop (comLen T U) T]
  rw [List.filter_append]
  have h1 : (T.take (comLen T U)).filter (fun x => decide (x ∉ U)) = [] := by
    apply List.filter_eq_nil_iff.2
    intro x hx
    obtain ⟨k, hk, rfl⟩ := List.mem_iff_getElem.1 hx
    have hk2 : k < T.length := by rw [List.length_take] at hk; omega
    have hk3 : k < comLen T U := by rw [List.length_take] at hk; omega
    have := (com_mem hd hT hU hk2).2 hk3
    rw [List.getElem_take]
    simpa using this
  have h2 : (T.drop (comLen T U)).filter (fun x => decide (x ∉ U)) = T.drop (comLen T U) := by
    apply List.filter_eq_self.2
    intro x hx
    obtain ⟨k, hk, rfl⟩ := List.mem_iff_getElem.1 hx
    rw [List.length_drop] at hk
    have hk2 : comLen T U + k < T.length := by omega
    rw [List.getElem_drop]
    have : ¬ T[comLen T U + k] ∈ U := fun h => by have := (com_mem hd hT hU hk2).1 h; omega
    simpa using this
  rw [h1, h2, List.nil_append]
theorem sub_iff {l : List Seg} (hd : Down l l.length) {T P : List Nat} (hT : IsState l T) (hP : IsState l P) : (∀ x ∈ P, x ∈ T) ↔ comLen T P = P.length := by
  rw [comLen_comm]
  have hle := (comLen_le P T).1
  constructor
  · intro h
    apply Nat.le_antisymm hle
    apply Nat.le_of_not_lt
    intro hlt
    have := (com_mem hd hP hT hlt).1 (h _ (List.getElem_mem hlt))
    omega
  · intro h x hx
    obtain ⟨k, hk, rfl⟩ := List.mem_iff_getElem.1 hx
    exact (com_mem hd hP hT hk).2 (by omega)
theorem less_nil {T U : List Nat} : lessT T U = [] ↔ ∀ x ∈ T, x ∈ U := by
  unfold lessT
  rw [List.filter_eq_nil_iff]
  simp
theorem needT_state {l : List Seg} {T P : List Nat} (hT : IsState l T) (hP : IsState l P) : IsState l (needT T P) := by
  unfold needT
  split
  · exact hT
  · exact hP
theorem less_self (T : List Nat) : lessT T T = [] := less_nil.2 fun _ h => h

end Go.Proofs.Ytnknfpfpjijemaa

/- Costs, needs one after the other, the cheapest need: no program. -/
namespace Go.Proofs.Ytnknfpfpjijemaa
open Go.RowKit

/-- Where the segment that a byte names stands. -/
def bSeek (l : List Seg) (b : UInt8) : Int := seek l ⟨#[b]⟩
def namedOk (l : List Seg) (bs : List UInt8) : Bool := bs.all (fun b => decide (0 ≤ bSeek l b))
def namedJs (l : List Seg) (bs : List UInt8) : List Nat := bs.map (fun b => (bSeek l b).toNat)
theorem namedOk_snoc (l : List Seg) (bs : List UInt8) (b : UInt8) : namedOk l (bs ++ [b]) = (namedOk l bs && decide (0 ≤ bSeek l b)) := by
  unfold namedOk
  rw [List.all_append]
  simp
theorem namedJs_snoc (l : List Seg) (bs : List UInt8) (b : UInt8) : namedJs l (bs ++ [b]) = namedJs l bs ++ [(bSeek l b).toNat] := by
  unfold namedJs
  rw [List.map_append]
  rfl
theorem namedOk_bad {l : List Seg} {bs : List UInt8} {b : UInt8} (h : b ∈ bs) (hb : bSeek l b < 0) : namedOk l bs = false := by
  unfold namedOk
  rw [List.all_eq_false]
  exact ⟨b, h, by simp; omega⟩
theorem namedJs_lt {l : List Seg} {bs : List UInt8} (h : namedOk l bs = true) : ∀ j ∈ namedJs l bs, j < l.length := by
  intro j hj
  obtain ⟨b, hb, rfl⟩ := List.mem_map.1 hj
  have h1 := List.all_eq_true.1 h b hb
  have h2 : 0 ≤ bSeek l b := by simpa using h1
  rcases seek_bd l ⟨#[b]⟩ with h3 | ⟨_, h3⟩
  · unfold bSeek at h2; omega
  · unfold bSeek at *; omega
theorem bSeek_byte {l : List Seg} (hv : validB l = true) {i : Nat} (hi : i < l.length) : bSeek l (byteOf l i) = (i : Int) := by
  have h := seek_nm hv hi
  have h1 : namesAt l [i] = ⟨#[byteOf l i]⟩ := by
    show (⟨([i].flatMap (nmAt l)).toArray⟩ : ByteArray) = _
    rw [List.flatMap_cons, (nmAt_one hv hi).1]
    rfl
  rw [h1] at h
  have h2 : indexB l ⟨#[byteOf l i]⟩ = seek l ⟨#[byteOf l i]⟩ := if_pos hv
  unfold bSeek
  omega
theorem named_names {l : List Seg} (hv : validB l = true) : ∀ js : List Nat, (∀ j ∈ js, j < l.length) → namedOk l (namesAt l js).data.toList = true ∧ namedJs l (namesAt l js).data.toList = js := by
  intro js hj
  rw [namesAt_map hv js hj]
  induction js with
  | nil => exact ⟨rfl, rfl⟩
  | cons j js ih =>
    obtain ⟨h1, h2⟩ := ih (fun x hx => hj x (List.mem_cons_of_mem _ hx))
    have h3 := bSeek_byte hv (hj j List.mem_cons_self)
    unfold namedOk at h1 ⊢
    unfold namedJs at h2 ⊢
    rw [List.map_cons, List.all_cons, List.map_cons, h1, h2, h3]
    simp

theorem szs_append (l : List Seg) : ∀ js ks, szs l (js ++ ks) = szs l js + szs l ks := by
  intro js ks
  unfold szs
  rw [List.map_append, List.sum_append]
theorem szs_bd {l : List Seg} (h : validB l = true) : ∀ js : List Nat, (∀ j ∈ js, j < l.length) → (js.length : Int) ≤ szs l js ∧ szs l js ≤ 99 * (js.length : Int)
  | [], _ => by simp [szs]
  | j :: js, hj => by
    have h1 := szs_bd h js (fun x hx => hj x (List.mem_cons_of_mem _ hx))
    have h2 := sizeAt_bd h (hj j List.mem_cons_self)
    have h3 : szs l (j :: js) = sizeAt l j + szs l js := rfl
    rw [h3, List.length_cons]
    omega

def costB (l : List Seg) (s : ByteArray) : Int := if validB l = true ∧ namedOk l s.data.toList = true then szs l (namedJs l s.data.toList) else -1
theorem costB_names {l : List Seg} (hv : validB l = true) {js : List Nat} (hj : ∀ j ∈ js, j < l.length) : costB l (namesAt l js) = szs l js := by
  obtain ⟨h1, h2⟩ := named_names hv js hj
  unfold costB
  rw [if_pos ⟨hv, h1⟩, h2]

def stT (l : List Seg) (s : ByteArray) : List Nat := (stIx l s).getD []
theorem stT_of {l : List Seg} {s : ByteArray} (h : stOk l s = true) : stIx l s = some (stT l s) := by
  unfold stOk at h
  unfold stT
  cases hx : stIx l s with
  | none => rw [hx] at h; cases h
  | some T => rfl
theorem stT_state {l : List Seg} {s : ByteArray} (h : stOk l s = true) : validB l = true ∧ IsState l (stT l s) ∧ namesAt l (stT l s) = s := stIx_some (stT_of h)
theorem stT_names {l : List Seg} {T : List Nat} (hv : validB l = true) (hT : IsState l T) : stOk l (namesAt l T) = true ∧ stT l (namesAt l T) = T := by
  have h := stIx_of hv hT
  unfold stOk stT
  rw [h]
  exact ⟨rfl, rfl⟩

def needOk (l : List Seg) (s t : ByteArray) : Bool := stOk l s && hasSeg l t
def afterIx (l : List Seg) (s t : ByteArray) : List Nat := if needOk l s t = true then needT (stT l s) (pathIx l t) else []
def loadIx (l : List Seg) (s t : ByteArray) : List Nat := if needOk l s t = true then loadT (stT l s) (pathIx l t) else []
def dropIx (l : List Seg) (s t : ByteArray) : List Nat := if needOk l s t = true then dropT (stT l s) (pathIx l t) else []
def loadCostB (l : List Seg) (s t : ByteArray) : Int := if needOk l s t = true then szs l (loadIx l s t) else -1
theorem needOk_parts {l : List Seg} {s t : ByteArray} (h : needOk l s t = true) : stOk l s = true ∧ 0 ≤ indexB l t := by
  unfold needOk at h
  rw [Bool.and_eq_true] at h
  exact ⟨h.1, of_decide_eq_true h.2⟩
theorem path_state {l : List Seg} {t : ByteArray} (h : 0 ≤ indexB l t) : IsState l (pathIx l t) := .inr ⟨_, index_lt h, rfl⟩
theorem less_lt {l : List Seg} {T U : List Nat} (h : ∀ j ∈ T, j < l.length) : ∀ j ∈ lessT T U, j < l.length := fun j hj => h j (List.mem_filter.1 hj).1
theorem state_len {l : List Seg} {T : List Nat} (h : IsState l T) : T.length ≤ l.length := by
  rcases h with rfl | ⟨i, hi, rfl⟩
  · exact Nat.zero_le _
  · have := rootPath_len l (i + 1) i
    unfold rp
    omega
theorem less_len (T U : List Nat) : (lessT T U).length ≤ T.length := List.length_filter_le _ _
theorem load_lt {l : List Seg} (hd : Down l l.length) {T P : List Nat} (hT : IsState l T) (hP : IsState l P) : ∀ j ∈ loadT T P, j < l.length := less_lt ((needT_state hT hP).lt hd)
theorem load_len {l : List Seg} {T P : List Nat} (hT : IsState l T) (hP : IsState l P) : (loadT T P).length ≤ l.length := Nat.le_trans (less_len _ _) (state_len (needT_state hT hP))

/-- Needs one after the other: the state behind them, and what is loaded. -/
def runT (l : List Seg) : List Nat → List Nat → List Nat
  | T, [] => T
  | T, j :: js => runT l (needT T (rp l j)) js
def runL (l : List Seg) : List Nat → List Nat → List Nat
  | _, [] => []
  | T, j :: js => loadT T (rp l j) ++ runL l (needT T (rp l j)) js
theorem runT_snoc (l : List Seg) : ∀ (js : List Nat) (T : List Nat) (j : Nat), runT l T (js ++ [j]) = needT (runT l T js) (rp l j)
  | [], _, _ => rfl
  | k :: js, T, j => runT_snoc l js (needT T (rp l k)) j
theorem runL_snoc (l : List Seg) : ∀ (js : List Nat) (T : List Nat) (j : Nat), runL l T (js ++ [j]) = runL l T js ++ loadT (runT l T js) (rp l j)
  | [], T, j => by simp [runL, runT]
  | k :: js, T, j => by
    show loadT T (rp l k) ++ runL l (needT T (rp l k)) (js ++ [j]) = loadT T (rp l k) ++ runL l (needT T (rp l k)) js ++ loadT (runT l (needT T (rp l k)) js) (rp l j)
    rw [runL_snoc l js _ j, List.append_assoc]
theorem runT_state {l : List Seg} : ∀ (js : List Nat) {T : List Nat}, IsState l T → (∀ j ∈ js, j < l.length) → IsState l (runT l T js)
  | [], _, h, _ => h
  | j :: js, _, h, hj => runT_state js (needT_state h (.inr ⟨j, hj j List.mem_cons_self, rfl⟩)) (fun x hx => hj x (List.mem_cons_of_mem _ hx))
theorem runL_lt {l : List Seg} (hd : Down l l.length) : ∀ (js : List Nat) {T : List Nat}, IsState l T → (∀ j ∈ js, j < l.length) → (∀ x ∈ runL l T js, x < l.length) ∧ (runL l T js).length ≤ l.length * js.length
  | [], _, _, _ => ⟨(fun x hx => by cases hx), Nat.zero_le _⟩
  | j :: js, T, h, hj => by
    have hP : IsState l (rp l j) := .inr ⟨j, hj j List.mem_cons_self, rfl⟩
    have h1 := runL_lt hd js (needT_state h hP) (fun x hx => hj x (List.mem_cons_of_mem _ hx))
    have h2 := load_lt hd h hP
    have h3 := load_len h hP
    have e : runL l T (j :: js) = loadT T (rp l j) ++ runL l (needT T (rp l j)) js := rfl
    rw [e]
    refine ⟨fun x hx => ?_, ?_⟩
    · rcases List.mem_append.1 hx with h4 | h4
      · exact h2 x h4
      · exact h1.1 x h4
    · rw [List.length_append, List.length_cons, Nat.mul_succ]
      omega
def allOkB (l : List Seg) (s u : ByteArray) : Bool := stOk l s && decide (u.size ≤ 60) && namedOk l u.data.toList
def allState (l : List Seg) (s u : ByteArray) : ByteArray := if allOkB l s u = true then namesAt l (runT l (stT l s) (namedJs l u.data.toList)) else ⟨#[]⟩
def allLoad (l : List Seg) (s u : ByteArray) : ByteArray := if allOkB l s u = true then namesAt l (runL l (stT l s) (namedJs l u.data.toList)) else ⟨#[]⟩

/-- The cheapest need among the first 'k'. -/
def nCost (l : List Seg) (T : List Nat) (i : Nat) : Int := szs l (loadT T (rp l i))
def cheapIx (l : List Seg) (T : List Nat) : Nat → Option Nat
  | 0 => none
  | k + 1 => if k ∈ T then cheapIx l T k else match cheapIx l T k with
    | none => some k
    | some j => if nCost l T k < nCost l T j then some k else some j
theorem cheapIx_lt (l : List Seg) (T : List Nat) : ∀ (k j : Nat), cheapIx l T k = some j → j < k
  | 0, _, h => by cases h
  | k + 1, j, h => by
    unfold cheapIx at h
    split at h
    · have := cheapIx_lt l T k j h; omega
    · split at h
      · injection h with h; omega
      · rename_i j' hj'
        have := cheapIx_lt l T k j' hj'
        split at h
        · injection h with h; omega
        · injection h with h; omega
theorem nCost_in {l : List Seg} (hd : Down l l.length) {T : List Nat} (hT : IsState l T) {i : Nat} (h : i ∈ T) : nCost l T i = 0 := by
  rcases hT with rfl | ⟨j, hj, rfl⟩
  · cases h
  · have hp := rp_prefix hd j hj i h
    have hsub : ∀ x ∈ rp l i, x ∈ rp l j := fun x hx => hp.subset hx
    unfold nCost loadT needT
    rw [if_pos hsub, less_self]
    rfl
theorem nCost_out {l : List Seg} (hv : validB l = true) {T : List Nat} (hT : IsState l T) {i : Nat} (hi : i < l.length) (h : i ∉ T) : 1 ≤ nCost l T i ∧ nCost l T i ≤ 792 := by
  have hd := (valid_all hv).1.down
  have hP : IsState l (rp l i) := .inr ⟨i, hi, rfl⟩
  obtain ⟨A, hA⟩ := rp_last hd i hi
  have hi' : i ∈ rp l i := by rw [hA]; simp
  have h1 := szs_bd hv _ (load_lt hd hT hP)
  have h2 := load_len hT hP
  have h3 := (valid_all hv).2.1
  have h4 : 0 < (loadT T (rp l i)).length := by
    apply List.length_pos_iff.2
    intro he
    have h5 := less_nil.1 he
    have h6 : needT T (rp l i) = rp l i := if_neg (fun hall => h (hall i hi'))
    rw [h6] at h5
    exact h (h5 i hi')
  unfold nCost
  omega
def cheapStr (l : List Seg) (s : ByteArray) : ByteArray := match (if stOk l s = true then cheapIx l (stT l s) l.length else none) with
  | none => ⟨#[]⟩
  | some j => namesAt l [j]
def cheapOk (l : List Seg) (s : ByteArray) : Bool := match (if stOk l s = true then cheapIx l (stT l s) l.length else none) with
  | none => false
  | some _ => true
theorem loadCost_at {l : List Seg} {s : ByteArray} (h : stOk l s = true) {i : Nat} (hi : i < l.length) : loadCostB l s (namesAt l [i]) = nCost l (stT l s) i := by
  obtain ⟨hv, _, _⟩ := stT_state h
  have h1 := seek_nm hv hi
  have h2 : hasSeg l (namesAt l [i]) = true := decide_eq_true (by omega)
  have h3 : needOk l s (namesAt l [i]) = true := by unfold needOk; rw [h, h2]; rfl
  unfold loadCostB loadIx
  rw [if_pos h3, if_pos h3]
  unfold pathIx
  rw [h1, Int.toNat_natCast]
  rfl

end Go.Proofs.Ytnknfpfpjijemaa
/- The model's side of loading: states and needs. -/
namespace Go.Proofs.Ytnknfpfpjijemaa
open Go.RowKit

theorem ret_three {a b c d : ByteArray} {x y : Bool} (h : a = c) (k : b = d) (e : x = y) : Ending.returned (.tuple #[.string a, .string b, .bool x]) = .returned (.tuple #[.string c, .string d, .bool y]) := by rw [h, k, e]
theorem ret_pair {a b c d : ByteArray} (h : a = c) (k : b = d) : Ending.returned (.tuple #[.string a, .string b]) = .returned (.tuple #[.string c, .string d]) := by rw [h, k]
theorem str_empty {s : ByteArray} (h : s.size = 0) : s = ⟨#[]⟩ := by
  apply ByteArray.ext
  apply Array.eq_empty_of_size_eq_zero
  exact h
theorem toList_ne {s : ByteArray} (h : 0 < s.size) : s.toList ≠ [] := by
  rw [ByteArray.toList_eq]
  intro e
  have h2 : s.data.toList.length = s.size := by simp
  rw [e, List.length_nil] at h2
  omega

/-- The path of a segment, and whether all is valid. -/
theorem needOk_comm (l : List Seg) (s t : ByteArray) : needOk l s t = (hasSeg l t && stOk l s) := by
  unfold needOk
  rw [Bool.and_comm]

theorem drop_names {l : List Seg} (hv : validB l = true) {P : List Nat} (hP : ∀ j ∈ P, j < l.length) (n : Nat) : (namesAt l P).extract n (namesAt l P).size = namesAt l (P.drop n) := by
  apply ByteArray.ext
  apply Array.ext'
  have h1 := namesAt_map hv P hP
  have h2 := namesAt_map hv (P.drop n) (fun j hj => hP j (List.mem_of_mem_drop hj))
  rw [h2, List.map_drop, ← h1]
  simp [ByteArray.data_extract]
  exact List.take_of_length_le (by simp)
theorem names_size {l : List Seg} (hv : validB l = true) {P : List Nat} (hP : ∀ j ∈ P, j < l.length) : (namesAt l P).size = P.length := by
  have h1 := congrArg List.length (namesAt_map hv P hP)
  simpa using h1
theorem com_names {l : List Seg} (hv : validB l = true) {T P : List Nat} (hT : ∀ j ∈ T, j < l.length) (hP : ∀ j ∈ P, j < l.length) : comBytes (namesAt l T) (namesAt l P) = comLen T P := by
  unfold comBytes
  rw [namesAt_map hv T hT, namesAt_map hv P hP]
  exact comLen_map _ _ _ (fun a ha b hb he => byteOf_inj hv (hT a ha) (hP b hb) he)

end Go.Proofs.Ytnknfpfpjijemaa

/- The model's NeedOf, DropsOf, CostOf, LoadCost. -/
namespace Go.Proofs.Ytnknfpfpjijemaa
open Go.RowKit

theorem need_states {l : List Seg} {s t : ByteArray} (h : needOk l s t = true) : validB l = true ∧ IsState l (stT l s) ∧ namesAt l (stT l s) = s ∧ IsState l (pathIx l t) ∧ namesAt l (pathIx l t) = pathStr l t := by
  obtain ⟨h1, h2⟩ := needOk_parts h
  obtain ⟨a, b, c⟩ := stT_state h1
  exact ⟨a, b, c, path_state h2, (pathStr_ix h2).symm⟩

def afterStr (l : List Seg) (s t : ByteArray) : ByteArray := namesAt l (afterIx l s t)
def loadStr (l : List Seg) (s t : ByteArray) : ByteArray := namesAt l (loadIx l s t)
def dropStr (l : List Seg) (s t : ByteArray) : ByteArray := namesAt l (dropIx l s t)

theorem named_take {l : List Seg} (s : ByteArray) {k : Nat} (h : k < s.size) : namedOk l (s.data.toList.take (k + 1)) = (namedOk l (s.data.toList.take k) && decide (0 ≤ bSeek l s[k])) ∧ namedJs l (s.data.toList.take (k + 1)) = namedJs l (s.data.toList.take k) ++ [(bSeek l s[k]).toNat] := by
  have e : s.data.toList.take (k + 1) = s.data.toList.take k ++ [s[k]] := by
    rw [List.take_succ_eq_append_getElem (by simpa using h)]
    rfl
  rw [e, namedOk_snoc, namedJs_snoc]
  exact ⟨rfl, rfl⟩
theorem one_byte (s : ByteArray) {k : Nat} (h : k < s.size) : s.extract k (k + 1) = ⟨#[s[k]]⟩ := by
  apply ByteArray.ext
  apply Array.ext'
  have : s.data.toList.drop k = s[k] :: s.data.toList.drop (k + 1) := List.drop_eq_getElem_cons (by simpa using h)
  simp [ByteArray.data_extract, this]
theorem bSeek_bd (l : List Seg) (b : UInt8) : bSeek l b = -1 ∨ (0 ≤ bSeek l b ∧ bSeek l b < l.length) := seek_bd l _

theorem loadStr_lt {l : List Seg} {s t : ByteArray} (h : needOk l s t = true) : ∀ j ∈ loadIx l s t, j < l.length := by
  obtain ⟨hv, hT, _, hP, _⟩ := need_states h
  unfold loadIx
  rw [if_pos h]
  exact load_lt (valid_all hv).1.down hT hP
theorem loadStr_len {l : List Seg} {s t : ByteArray} : (loadStr l s t).size ≤ 8 := by
  unfold loadStr
  by_cases h : needOk l s t = true
  · obtain ⟨hv, hT, _, hP, _⟩ := need_states h
    rw [names_size hv (loadStr_lt h)]
    have h1 := (valid_all hv).2.1
    unfold loadIx
    rw [if_pos h]
    have := load_len hT hP
    omega
  · unfold loadIx
    rw [if_neg h]
    exact Nat.zero_le _
theorem loadCost_eq {l : List Seg} {s t : ByteArray} (h : needOk l s t = true) : costB l (loadStr l s t) = loadCostB l s t := by
  obtain ⟨hv, _⟩ := need_states h
  unfold loadCostB loadStr
  rw [if_pos h, costB_names hv (loadStr_lt h)]

end Go.Proofs.Ytnknfpfpjijemaa
/- Sets of segments as bits, and chains that lie together: plain. -/
namespace Go.Proofs.Ytnknfpfpjijemaa
open Go.RowKit

/-- A set of eight as bits. -/
def setF (f : Nat → Bool) : Nat := (f 0).toNat + 2 * (f 1).toNat + 4 * (f 2).toNat + 8 * (f 3).toNat + 16 * (f 4).toNat + 32 * (f 5).toNat + 64 * (f 6).toNat + 128 * (f 7).toNat
theorem setF_lt (f : Nat → Bool) : setF f < 256 := by
  unfold setF
  have h : ∀ b : Bool, b.toNat ≤ 1 := fun b => by cases b <;> decide
  have := h (f 0); have := h (f 1); have := h (f 2); have := h (f 3); have := h (f 4); have := h (f 5); have := h (f 6); have := h (f 7)
  omega
theorem set_brute : ∀ b0 b1 b2 b3 b4 b5 b6 b7 : Bool,
    (b0.toNat + 2 * b1.toNat + 4 * b2.toNat + 8 * b3.toNat + 16 * b4.toNat + 32 * b5.toNat + 64 * b6.toNat + 128 * b7.toNat).testBit 0 = b0 ∧
    (b0.toNat + 2 * b1.toNat + 4 * b2.toNat + 8 * b3.toNat + 16 * b4.toNat + 32 * b5.toNat + 64 * b6.toNat + 128 * b7.toNat).testBit 1 = b1 ∧
    (b0.toNat + 2 * b1.toNat + 4 * b2.toNat + 8 * b3.toNat + 16 * b4.toNat + 32 * b5.toNat + 64 * b6.toNat + 128 * b7.toNat).testBit 2 = b2 ∧
    (b0.toNat + 2 * b1.toNat + 4 * b2.toNat + 8 * b3.toNat + 16 * b4.toNat + 32 * b5.toNat + 64 * b6.toNat + 128 * b7.toNat).testBit 3 = b3 ∧
    (b0.toNat + 2 * b1.toNat + 4 * b2.toNat + 8 * b3.toNat + 16 * b4.toNat + 32 * b5.toNat + 64 * b6.toNat + 128 * b7.toNat).testBit 4 = b4 ∧
    (b0.toNat + 2 * b1.toNat + 4 * b2.toNat + 8 * b3.toNat + 16 * b4.toNat + 32 * b5.toNat + 64 * b6.toNat + 128 * b7.toNat).testBit 5 = b5 ∧
    (b0.toNat + 2 * b1.toNat + 4 * b2.toNat + 8 * b3.toNat + 16 * b4.toNat + 32 * b5.toNat + 64 * b6.toNat + 128 * b7.toNat).testBit 6 = b6 ∧
    (b0.toNat + 2 * b1.toNat + 4 * b2.toNat + 8 * b3.toNat + 16 * b4.toNat + 32 * b5.toNat + 64 * b6.toNat + 128 * b7.toNat).testBit 7 = b7 := by
  decide +kernel
theorem setF_bit (f : Nat → Bool) (i : Nat) : (setF f).testBit i = (decide (i < 8) && f i) := by
  by_cases hi : i < 8
  · rw [decide_eq_true hi, Bool.true_and]
    obtain ⟨h0, h1, h2, h3, h4, h5, h6, h7⟩ := set_brute (f 0) (f 1) (f 2) (f 3) (f 4) (f 5) (f 6) (f 7)
    unfold setF
    have : i = 0 ∨ i = 1 ∨ i = 2 ∨ i = 3 ∨ i = 4 ∨ i = 5 ∨ i = 6 ∨ i = 7 := by omega
    rcases this with rfl | rfl | rfl | rfl | rfl | rfl | rfl | rfl <;> assumption
  · rw [decide_eq_false hi, Bool.false_and]
    exact Nat.testBit_lt_two_pow (Nat.lt_of_lt_of_le (setF_lt f) (Nat.pow_le_pow_right (n := 2) (by decide) (by omega : 8 ≤ i)))
theorem setF_none : setF (fun _ => false) = 0 := rfl
theorem setF_congr {f g : Nat → Bool} (h : ∀ i, i < 8 → f i = g i) : setF f = setF g := by
  unfold setF
  rw [h 0 (by decide), h 1 (by decide), h 2 (by decide), h 3 (by decide), h 4 (by decide), h 5 (by decide), h 6 (by decide), h 7 (by decide)]
theorem setF_with (f : Nat → Bool) {i : Nat} (hi : i < 8) : setF f ||| 2 ^ i = setF (fun j => f j || decide (j = i)) := by
  apply Nat.eq_of_testBit_eq
  intro j
  rw [Nat.testBit_or, setF_bit, setF_bit, Nat.testBit_two_pow]
  by_cases hj : j < 8
  · rw [decide_eq_true hj, Bool.true_and, Bool.true_and]
    congr 1
    exact decide_eq_decide.2 ⟨fun h => h.symm, fun h => h.symm⟩
  · rw [decide_eq_false hj, Bool.false_and, Bool.false_and, Bool.false_or]
    exact decide_eq_false (by omega)
theorem setF_joined (f g : Nat → Bool) : setF f ||| setF g = setF (fun j => f j || g j) := by
  apply Nat.eq_of_testBit_eq
  intro j
  rw [Nat.testBit_or, setF_bit, setF_bit, setF_bit]
  cases decide (j < 8) <;> simp
theorem setF_and (f : Nat → Bool) {i : Nat} (hi : i < 8) : setF f &&& 2 ^ i = if f i = true then 2 ^ i else 0 := by
  apply Nat.eq_of_testBit_eq
  intro j
  rw [Nat.testBit_and, setF_bit, Nat.testBit_two_pow]
  by_cases hj : i = j
  · subst hj
    rw [decide_eq_true hi, decide_eq_true rfl, Bool.true_and, Bool.and_true]
    cases f i with
    | false => simp
    | true => rw [if_pos rfl, Nat.testBit_two_pow, decide_eq_true rfl]
  · rw [decide_eq_false hj, Bool.and_false]
    cases f i with
    | false => simp
    | true => rw [if_pos rfl, Nat.testBit_two_pow, decide_eq_false hj]
theorem setF_has (f : Nat → Bool) {i : Nat} (hi : i < 8) : (setF f &&& 2 ^ i != 0) = f i := by
  rw [setF_and f hi]
  have hp : 0 < 2 ^ i := Nat.pow_pos (by decide)
  cases f i with
  | false => simp
  | true =>
    rw [if_pos rfl, bne_iff_ne]
    omega

/-- Whether two segments lie together, by their indices. -/
def lieIx (l : List Seg) (a b : Nat) : Bool := decide (a ∈ rp l b) || decide (b ∈ rp l a)
theorem lieIx_comm (l : List Seg) (a b : Nat) : lieIx l a b = lieIx l b a := Bool.or_comm _ _
theorem lieIx_self (l : List Seg) (a : Nat) : lieIx l a a = true := by
  have : a ∈ rp l a := List.mem_append.2 (.inr (List.mem_singleton.2 rfl))
  unfold lieIx
  rw [decide_eq_true this]
  rfl
theorem kindIx_side (l : List Seg) (a b : Nat) : decide (kindIx l a b = 2) = !lieIx l a b := by
  unfold kindIx lieIx
  by_cases h1 : b ∈ rp l a
  · rw [if_pos h1]; simp [h1]
  · rw [if_neg h1]
    by_cases h2 : a ∈ rp l b
    · rw [if_pos h2]; simp [h2]
    · rw [if_neg h2]; simp [h1, h2]
theorem lieB_bytes {l : List Seg} (hv : validB l = true) {u v : UInt8} : lieB l ⟨#[u]⟩ ⟨#[v]⟩ = (decide (0 ≤ bSeek l u) && decide (0 ≤ bSeek l v) && lieIx l (bSeek l u).toNat (bSeek l v).toNat) := by
  have h1 : indexB l ⟨#[u]⟩ = bSeek l u := if_pos hv
  have h2 : indexB l ⟨#[v]⟩ = bSeek l v := if_pos hv
  unfold lieB comOk hasSeg pathIx lieIx
  rw [h1, h2]
theorem lieB_bad {l : List Seg} (hv : validB l = false) (s t : ByteArray) : lieB l s t = false := by
  have h1 : indexB l s = -1 := if_neg (by rw [hv]; decide)
  unfold lieB comOk hasSeg
  rw [h1]
  rfl
/-- Whether the segments that a text names lie together, as the reference asks. -/
def liesTo (l : List Seg) (s : ByteArray) (i n : Nat) : Bool := (List.range n).all fun k => lieB l (s.extract k (k + 1)) (s.extract i (i + 1))
def liesUp (l : List Seg) (s : ByteArray) (n : Nat) : Bool := (List.range n).all fun i => liesTo l s i (i + 1)
def liesB (l : List Seg) (s : ByteArray) : Bool := liesUp l s s.size && validB l
theorem liesTo_succ (l : List Seg) (s : ByteArray) (i n : Nat) : liesTo l s i (n + 1) = (liesTo l s i n && lieB l (s.extract n (n + 1)) (s.extract i (i + 1))) := by
  unfold liesTo
  rw [List.range_succ, List.all_append]
  simp
theorem liesUp_succ (l : List Seg) (s : ByteArray) (n : Nat) : liesUp l s (n + 1) = (liesUp l s n && liesTo l s n (n + 1)) := by
  unfold liesUp
  rw [List.range_succ, List.all_append]
  simp
theorem all_range {n : Nat} {p : Nat → Bool} : (List.range n).all p = true ↔ ∀ i, i < n → p i = true := by
  rw [List.all_eq_true]
  exact ⟨fun h i hi => h i (List.mem_range.2 hi), fun h i hi => h i (List.mem_range.1 hi)⟩
theorem liesTo_false {l : List Seg} {s : ByteArray} {i n k : Nat} (hk : k < n) (h : lieB l (s.extract k (k + 1)) (s.extract i (i + 1)) = false) : liesTo l s i n = false := by
  rw [Bool.eq_false_iff]
  intro h'
  rw [all_range.1 h' k hk] at h
  cases h
theorem liesB_false {l : List Seg} {s : ByteArray} {i : Nat} (hi : i < s.size) (h : liesTo l s i (i + 1) = false) : liesB l s = false := by
  rw [Bool.eq_false_iff]
  intro h'
  unfold liesB at h'
  rw [Bool.and_eq_true] at h'
  rw [all_range.1 h'.1 i hi] at h
  cases h
/-- Whether the segments of a set lie together. -/
def togeB (l : List Seg) (f : Nat → Bool) : Bool := (List.range l.length).all fun i => (List.range i).all fun j => !(f i && f j && decide (kindIx l i j = 2))
theorem liesB_bad {l : List Seg} (hv : validB l = false) (s : ByteArray) : liesB l s = false := by
  unfold liesB
  rw [hv, Bool.and_false]
theorem liesB_unnamed {l : List Seg} (hv : validB l = true) {s : ByteArray} (h : namedOk l s.data.toList = false) : liesB l s = false := by
  unfold namedOk at h
  rw [List.all_eq_false] at h
  obtain ⟨b, hb, hn⟩ := h
  obtain ⟨i, hi, he⟩ := List.getElem_of_mem hb
  have hi' : i < s.size := by simpa using hi
  refine liesB_false hi' (liesTo_false (Nat.lt_succ_self i) ?_)
  rw [one_byte s hi', show s[i] = b from he, lieB_bytes hv, Bool.eq_false_iff.2 hn]
  rfl
theorem liesB_named {l : List Seg} (hv : validB l = true) {s : ByteArray} (h : namedOk l s.data.toList = true) : liesB l s = togeB l (fun i => decide (i ∈ namedJs l s.data.toList)) := by
  have hnm : ∀ k (hk : k < s.size), 0 ≤ bSeek l s[k] := fun k hk => by
    have := List.all_eq_true.1 h s[k] (List.getElem_mem (l := s.data.toList) (by simpa using hk))
    exact of_decide_eq_true this
  have hlie : ∀ i k (hi : i < s.size) (hk : k < s.size), lieB l (s.extract k (k + 1)) (s.extract i (i + 1)) = lieIx l (bSeek l s[k]).toNat (bSeek l s[i]).toNat := fun i k hi hk => by
    rw [one_byte s hi, one_byte s hk, lieB_bytes hv, decide_eq_true (hnm k hk), decide_eq_true (hnm i hi)]
    rfl
  rw [Bool.eq_iff_iff]
  unfold liesB
  rw [hv, Bool.and_true]
  unfold liesUp togeB
  rw [all_range, all_range]
  constructor
  · intro H i hi
    rw [all_range]
    intro j hj
    show (!(decide (i ∈ namedJs l s.data.toList) && decide (j ∈ namedJs l s.data.toList) && decide (kindIx l i j = 2))) = true
    cases h1 : decide (i ∈ namedJs l s.data.toList) with
    | false => rfl
    | true =>
      cases h2 : decide (j ∈ namedJs l s.data.toList) with
      | false => rfl
      | true =>
        obtain ⟨u, hu, he⟩ := List.mem_map.1 (of_decide_eq_true h1)
        obtain ⟨v, hv', he'⟩ := List.mem_map.1 (of_decide_eq_true h2)
        obtain ⟨p, hp, hpe⟩ := List.getElem_of_mem hu
        obtain ⟨q, hq, hqe⟩ := List.getElem_of_mem hv'
        have hp' : p < s.size := by simpa using hp
        have hq' : q < s.size := by simpa using hq
        have key : lieIx l i j = true := by
          rcases Nat.le_total q p with hle | hle
          · have := all_range.1 (H p hp') q (by omega)
            rw [hlie p q hp' hq', show s[q] = v from hqe, show s[p] = u from hpe, he, he'] at this
            rw [lieIx_comm]; exact this
          · have := all_range.1 (H q hq') p (by omega)
            rw [hlie q p hq' hp', show s[q] = v from hqe, show s[p] = u from hpe, he, he'] at this
            exact this
        rw [kindIx_side, key]
        rfl
  · intro H i hi
    unfold liesTo
    rw [all_range]
    intro k hk
    have hk' : k < s.size := by omega
    rw [hlie i k hi hk']
    have m1 : (bSeek l s[i]).toNat ∈ namedJs l s.data.toList := List.mem_map.2 ⟨s[i], List.getElem_mem (l := s.data.toList) (by simpa using hi), rfl⟩
    have m2 : (bSeek l s[k]).toNat ∈ namedJs l s.data.toList := List.mem_map.2 ⟨s[k], List.getElem_mem (l := s.data.toList) (by simpa using hk'), rfl⟩
    have l1 := namedJs_lt h _ m1
    have l2 := namedJs_lt h _ m2
    generalize (bSeek l s[i]).toNat = a at *
    generalize (bSeek l s[k]).toNat = b at *
    rcases Nat.lt_trichotomy a b with hab | hab | hab
    · have := all_range.1 (H b l2) a hab
      dsimp only at this
      rw [decide_eq_true m1, decide_eq_true m2, kindIx_side] at this
      simpa using this
    · rw [hab]; exact lieIx_self l b
    · have := all_range.1 (H a l1) b hab
      dsimp only at this
      rw [decide_eq_true m1, decide_eq_true m2, kindIx_side] at this
      rw [lieIx_comm]
      simpa using this

end Go.Proofs.Ytnknfpfpjijemaa
