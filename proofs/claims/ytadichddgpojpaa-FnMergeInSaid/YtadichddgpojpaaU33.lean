/- Joined: Ga Cq Kl. -/
import Derived.Test.YtadichddgpojpaaU14
import Derived.Test.YtadichddgpojpaaU30
import Derived.Test.YtadichddgpojpaaU32
/- States, needs and what they load: no program. -/
namespace Go.Proofs.Ytadichddgpojpaa
open Go.RowKit

/-- All states of a tree: none is loaded, or a path. -/
def statesIx (l : List Seg) : List (List Nat) := [] :: (List.range l.length).map (rp l)
def IsState (l : List Seg) (T : List Nat) : Prop := T = [] ∨ ∃ j, j < l.length ∧ T = rp l j
theorem mem_states {l : List Seg} {T : List Nat} : T ∈ statesIx l ↔ IsState l T := by
  unfold statesIx IsState
  rw [List.mem_cons, List.mem_map]
  constructor
  · rintro (h | ⟨j, hj, h⟩)
    · exact .inl h
    · exact .inr ⟨j, List.mem_range.1 hj, h.symm⟩
  · rintro (h | ⟨j, hj, h⟩)
    · exact .inl h
    · exact .inr ⟨j, List.mem_range.2 hj, h.symm⟩
theorem IsState.lt {l : List Seg} (hd : Down l l.length) {T : List Nat} (h : IsState l T) : ∀ j ∈ T, j < l.length := by
  rcases h with rfl | ⟨i, hi, rfl⟩
  · intro j hj; cases hj
  · intro j hj
    have := rp_le hd i hi j hj
    omega
theorem IsState.asc {l : List Seg} (hd : Down l l.length) {T : List Nat} (h : IsState l T) : T.Pairwise (· < ·) := by
  rcases h with rfl | ⟨i, hi, rfl⟩
  · exact List.Pairwise.nil
  · exact rp_asc hd i hi
theorem names_inj {l : List Seg} (hv : validB l = true) {T U : List Nat} (hT : ∀ j ∈ T, j < l.length) (hU : ∀ j ∈ U, j < l.length) (h : namesAt l T = namesAt l U) : T = U := by
  have h1 := namesAt_map hv T hT
  have h2 := namesAt_map hv U hU
  rw [h, h2] at h1
  clear h h2
  induction T generalizing U with
  | nil =>
    cases U with
    | nil => rfl
    | cons u U => cases h1
  | cons t T ih =>
    cases U with
    | nil => cases h1
    | cons u U =>
      simp only [List.map_cons, List.cons.injEq] at h1
      have e1 := byteOf_inj hv (hU u List.mem_cons_self) (hT t List.mem_cons_self) h1.1
      rw [e1, ih (fun j hj => hT j (List.mem_cons_of_mem _ hj)) (fun j hj => hU j (List.mem_cons_of_mem _ hj)) h1.2]

/-- The state that a text tells. -/
def stIx (l : List Seg) (s : ByteArray) : Option (List Nat) := if validB l = true then (statesIx l).find? (fun T => sameB (namesAt l T) s) else none
theorem stIx_some {l : List Seg} {s : ByteArray} {T : List Nat} (h : stIx l s = some T) : validB l = true ∧ IsState l T ∧ namesAt l T = s := by
  unfold stIx at h
  by_cases hv : validB l = true
  · rw [if_pos hv] at h
    exact ⟨hv, mem_states.1 (List.mem_of_find?_eq_some h), sameB_iff.1 (List.find?_some (p := fun T => sameB (namesAt l T) s) h)⟩
  · rw [if_neg hv] at h; cases h
theorem stIx_of {l : List Seg} {T : List Nat} (hv : validB l = true) (hT : IsState l T) : stIx l (namesAt l T) = some T := by
  have hd := (valid_all hv).1.down
  cases h : stIx l (namesAt l T) with
  | none =>
    unfold stIx at h
    rw [if_pos hv] at h
    exact absurd (sameB_iff.2 rfl) (List.find?_eq_none.1 h T (mem_states.2 hT))
  | some U =>
    obtain ⟨_, h2, h3⟩ := stIx_some h
    rw [names_inj hv (h2.lt hd) (hT.lt hd) h3]
theorem stIx_bad {l : List Seg} (s : ByteArray) (h : validB l = false) : stIx l s = none := if_neg (by rw [h]; decide)
def stOk (l : List Seg) (s : ByteArray) : Bool := (stIx l s).isSome
theorem stOk_bad {l : List Seg} (s : ByteArray) (h : validB l = false) : stOk l s = false := by unfold stOk; rw [stIx_bad s h]; rfl
theorem stOk_empty {l : List Seg} {s : ByteArray} (hs : s.size = 0) : stOk l s = validB l := by
  obtain rfl : s = ⟨#[]⟩ := by
    apply ByteArray.ext
    apply Array.eq_empty_of_size_eq_zero
    exact hs
  cases hv : validB l with
  | false => exact stOk_bad _ hv
  | true =>
    have h := stIx_of hv (.inl rfl : IsState l [])
    unfold stOk
    rw [show (⟨#[]⟩ : ByteArray) = namesAt l [] from rfl, h]
    rfl
theorem seek_nm {l : List Seg} (hv : validB l = true) {i : Nat} (hi : i < l.length) : indexB l (namesAt l [i]) = (i : Int) := by
  have h1 : indexB l (namesAt l [i]) = seek l (namesAt l [i]) := if_pos hv
  have h2 : 0 ≤ indexB l (namesAt l [i]) := by
    rw [h1]
    have key : ∀ (k : Nat), k ≤ i → seek l (namesAt l [i]) = seekFrom (namesAt l [i]) (l.drop k) k ∨ 0 ≤ seek l (namesAt l [i]) := by
      intro k
      induction k with
      | zero => intro _; exact .inl rfl
      | succ k ih =>
        intro hk
        rcases ih (by omega) with h | h
        · rw [seekFrom_drop l _ k (by omega)] at h
          by_cases hs : sameB (l[k]'(by omega)).name (namesAt l [i]) = true
          · rw [if_pos hs] at h; right; omega
          · rw [if_neg hs] at h; exact .inl h
        · exact .inr h
    rcases key i (Nat.le_refl _) with h | h
    · rw [seekFrom_drop l _ i hi, if_pos (sameB_iff.2 ?_)] at h
      · omega
      · rw [(nmAt_one hv hi).2]
        show _ = (⟨([i].flatMap (nmAt l)).toArray⟩ : ByteArray)
        rw [List.flatMap_cons, (nmAt_one hv hi).1]
        rfl
    · exact h
  have h3 := index_nm h2
  have h4 := namesAt_one_inj hv (index_lt h2) hi h3
  omega

/-- A state of a text of one byte or more is the path of its last segment. -/
theorem stIx_last {l : List Seg} {s : ByteArray} {T : List Nat} (h : stIx l s = some T) (hs : 0 < s.size) : 0 ≤ indexB l (s.extract (s.size - 1) s.size) ∧ T = pathIx l (s.extract (s.size - 1) s.size) := by
  obtain ⟨hv, hT, hn⟩ := stIx_some h
  have hd := (valid_all hv).1.down
  rcases hT with rfl | ⟨i, hi, rfl⟩
  · rw [← hn] at hs
    exact (Nat.lt_irrefl 0 hs).elim
  · obtain ⟨A, hA⟩ := rp_last hd i hi
    have hlt : ∀ j ∈ rp l i, j < l.length := fun j hj => by have := rp_le hd i hi j hj; omega
    have e : s.extract (s.size - 1) s.size = namesAt l [i] := by
      apply ByteArray.ext
      apply Array.ext'
      have h1 := namesAt_map hv _ hlt
      have h2 := namesAt_map hv [i] (fun j hj => by rw [List.mem_singleton.1 hj]; exact hi)
      rw [h2, ← hn]
      have e4 : ∀ (x : ByteArray), (x.extract (x.size - 1) x.size).data.toList = x.data.toList.drop (x.size - 1) := fun x => by
        simp [ByteArray.data_extract]
        exact List.take_of_length_le (by simp)
      rw [e4, h1, hA]
      have e5 : (namesAt l (A ++ [i])).size = A.length + 1 := by
        have : (namesAt l (A ++ [i])).size = (namesAt l (A ++ [i])).data.toList.length := by simp
        rw [this, ← hA, h1, hA]
        simp
      rw [e5]
      simp
    rw [e, seek_nm hv hi]
    refine ⟨by omega, ?_⟩
    unfold pathIx
    rw [seek_nm hv hi, Int.toNat_natCast]
theorem stOk_last {l : List Seg} {s : ByteArray} (hs : 0 < s.size) : stOk l s = (hasSeg l (s.extract (s.size - 1) s.size) && sameB (pathStr l (s.extract (s.size - 1) s.size)) s) := by
  cases h : stIx l s with
  | some T =>
    obtain ⟨h1, h2⟩ := stIx_last h hs
    obtain ⟨hv, _, hn⟩ := stIx_some h
    have e1 : stOk l s = true := by unfold stOk; rw [h]; rfl
    have e2 : hasSeg l (s.extract (s.size - 1) s.size) = true := decide_eq_true h1
    have e3 : sameB (pathStr l (s.extract (s.size - 1) s.size)) s = true := by
      apply sameB_iff.2
      rw [pathStr_ix h1, ← h2]
      exact hn
    rw [e1, e2, e3]
    rfl
  | none =>
    have e1 : stOk l s = false := by unfold stOk; rw [h]; rfl
    rw [e1]
    symm
    rw [Bool.and_eq_false_iff]
    by_cases h0 : 0 ≤ indexB l (s.extract (s.size - 1) s.size)
    · right
      cases h3 : sameB (pathStr l (s.extract (s.size - 1) s.size)) s with
      | false => rfl
      | true =>
        have h4 := sameB_iff.1 h3
        have h5 := stIx_of (index_valid h0) (.inr ⟨_, index_lt h0, rfl⟩ : IsState l (pathIx l (s.extract (s.size - 1) s.size)))
        rw [← pathStr_ix h0, h4, h] at h5
        cases h5
    · exact .inl (decide_eq_false h0)

/-- The state behind a need for all of 'P'. -/
def needT (T P : List Nat) : List Nat := if (∀ x ∈ P, x ∈ T) then T else P
def lessT (T U : List Nat) : List Nat := T.filter (fun x => decide (x ∉ U))
def loadT (T P : List Nat) : List Nat := lessT (needT T P) T
def dropT (T P : List Nat) : List Nat := lessT T (needT T P)

theorem comLen_comm {α : Type} [DecidableEq α] : ∀ xs ys : List α, comLen xs ys = comLen ys xs
  | [], [] => rfl
  | [], _ :: _ => by simp [comLen]
  | _ :: _, [] => by simp [comLen]
  | a :: xs, b :: ys => by
    simp only [comLen]
    by_cases h : a = b
    · rw [if_pos h, if_pos h.symm, comLen_comm xs ys]
    · rw [if_neg h, if_neg (fun e => h e.symm)]
theorem com_mem {l : List Seg} (hd : Down l l.length) {T U : List Nat} (hT : IsState l T) (hU : IsState l U) {k : Nat} (hk : k < T.length) : T[k] ∈ U ↔ k < comLen T U := by
  constructor
  · intro hm
    rcases hT with rfl | ⟨i, hi, rfl⟩
    · exact absurd hk (by simp)
    · rcases hU with rfl | ⟨j, hj, rfl⟩
      · cases hm
      · have hmi : (rp l i)[k] ∈ rp l i := List.getElem_mem hk
        have hx : (rp l i)[k] < l.length := by have := rp_le hd i hi _ hmi; omega
        have h1 := rp_prefix hd i hi _ hmi
        have h2 := rp_prefix hd j hj _ hm
        obtain ⟨A, hA⟩ := rp_last hd _ hx
        have h3 := comLen_prefix _ _ _ h1 h2
        rw [hA] at h1 h3
        have h4 : (rp l i).take k ++ [(rp l i)[k]] <+: rp l i := by
          rw [← List.take_succ_eq_append_getElem hk]
          exact List.take_prefix _ _
        have h5 := snoc_unique (rp_asc hd i hi) h1 h4
        rw [List.length_take] at h5
        rw [List.length_append, List.length_singleton] at h3
        omega
  · intro h
    obtain ⟨x, h1, h2⟩ := comLen_get T U k h
    rw [List.getElem?_eq_getElem hk] at h1
    injection h1 with h1
    rw [h1]
    exact List.mem_of_getElem? h2
theorem less_drop {l : List Seg} (hd : Down l l.length) {T U : List Nat} (hT : IsState l T) (hU : IsState l U) : lessT T U = T.drop (comLen T U) := by
  unfold lessT
  conv => lhs; rw [← List.take_append_drop (comLen T U) T]
  rw [List.filter_append]
  have h1 : (T.take (comLen T U)).filter (fun x => decide (x ∉ U)) = [] := by
    apply List.filter_eq_nil_iff.2
    intro x hx
    obtain ⟨k, hk, rfl⟩ := List.mem_iff_getElem.1 hx
    have hk2 : k < T.length := by rw [List.length_take] at hk; omega
    have hk3 : k < comLen T U := by rw [List.length_take] at hk; omega
    have := (com_mem hd hT hU hk2).2 hk3
    rw [List.getElem_take]
    simpa using this
  have h2 : (T.drop (comLen T U)).filter (fun x => decide (x ∉ U)) = T.drop (comLen T U) := by
    apply List.filter_eq_self.2
    intro x hx
    obtain ⟨k, hk, rfl⟩ := List.mem_iff_getElem.1 hx
    rw [List.length_drop] at hk
    have hk2 : comLen T U + k < T.length := by omega
    rw [List.getElem_drop]
    have : ¬ T[comLen T U + k] ∈ U := fun h => by have := (com_mem hd hT hU hk2).1 h; omega
    simpa using this
  rw [h1, h2, List.nil_append]
theorem sub_iff {l : List Seg} (hd : Down l l.length) {T P : List Nat} (hT : IsState l T) (hP : IsState l P) : (∀ x ∈ P, x ∈ T) ↔ comLen T P = P.length := by
  rw [comLen_comm]
  have hle := (comLen_le P T).1
  constructor
  · intro h
    apply Nat.le_antisymm hle
    apply Nat.le_of_not_lt
    intro hlt
    have := (com_mem hd hP hT hlt).1 (h _ (List.getElem_mem hlt))
    omega
  · intro h x hx
    obtain ⟨k, hk, rfl⟩ := List.mem_iff_getElem.1 hx
    exact (com_mem hd hP hT hk).2 (by omega)
theorem less_nil {T U : List Nat} : lessT T U = [] ↔ ∀ x ∈ T, x ∈ U := by
  unfold lessT
  rw [List.filter_eq_nil_iff]
  simp
theorem needT_state {l : List Seg} {T P : List Nat} (hT : IsState l T) (hP : IsState l P) : IsState l (needT T P) := by
  unfold needT
  split
  · exact hT
  · exact hP
theorem less_self (T : List Nat) : lessT T T = [] := less_nil.2 fun _ h => h

end Go.Proofs.Ytadichddgpojpaa

/- Costs, needs one after the other, the cheapest need: no program. -/
namespace Go.Proofs.Ytadichddgpojpaa
open Go.RowKit

/-- Where the segment that a byte names stands. -/
def bSeek (l : List Seg) (b : UInt8) : Int := seek l ⟨#[b]⟩
def namedOk (l : List Seg) (bs : List UInt8) : Bool := bs.all (fun b => decide (0 ≤ bSeek l b))
def namedJs (l : List Seg) (bs : List UInt8) : List Nat := bs.map (fun b => (bSeek l b).toNat)
theorem namedOk_snoc (l : List Seg) (bs : List UInt8) (b : UInt8) : namedOk l (bs ++ [b]) = (namedOk l bs && decide (0 ≤ bSeek l b)) := by
  unfold namedOk
  rw [List.all_append]
  simp
theorem namedJs_snoc (l : List Seg) (bs : List UInt8) (b : UInt8) : namedJs l (bs ++ [b]) = namedJs l bs ++ [(bSeek l b).toNat] := by
  unfold namedJs
  rw [List.map_append]
  rfl
theorem namedOk_bad {l : List Seg} {bs : List UInt8} {b : UInt8} (h : b ∈ bs) (hb : bSeek l b < 0) : namedOk l bs = false := by
  unfold namedOk
  rw [List.all_eq_false]
  exact ⟨b, h, by simp; omega⟩
theorem namedJs_lt {l : List Seg} {bs : List UInt8} (h : namedOk l bs = true) : ∀ j ∈ namedJs l bs, j < l.length := by
  intro j hj
  obtain ⟨b, hb, rfl⟩ := List.mem_map.1 hj
  have h1 := List.all_eq_true.1 h b hb
  have h2 : 0 ≤ bSeek l b := by simpa using h1
  rcases seek_bd l ⟨#[b]⟩ with h3 | ⟨_, h3⟩
  · unfold bSeek at h2; omega
  · unfold bSeek at *; omega
theorem bSeek_byte {l : List Seg} (hv : validB l = true) {i : Nat} (hi : i < l.length) : bSeek l (byteOf l i) = (i : Int) := by
  have h := seek_nm hv hi
  have h1 : namesAt l [i] = ⟨#[byteOf l i]⟩ := by
    show (⟨([i].flatMap (nmAt l)).toArray⟩ : ByteArray) = _
    rw [List.flatMap_cons, (nmAt_one hv hi).1]
    rfl
  rw [h1] at h
  have h2 : indexB l ⟨#[byteOf l i]⟩ = seek l ⟨#[byteOf l i]⟩ := if_pos hv
  unfold bSeek
  omega
theorem named_names {l : List Seg} (hv : validB l = true) : ∀ js : List Nat, (∀ j ∈ js, j < l.length) → namedOk l (namesAt l js).data.toList = true ∧ namedJs l (namesAt l js).data.toList = js := by
  intro js hj
  rw [namesAt_map hv js hj]
  induction js with
  | nil => exact ⟨rfl, rfl⟩
  | cons j js ih =>
    obtain ⟨h1, h2⟩ := ih (fun x hx => hj x (List.mem_cons_of_mem _ hx))
    have h3 := bSeek_byte hv (hj j List.mem_cons_self)
    unfold namedOk at h1 ⊢
    unfold namedJs at h2 ⊢
    rw [List.map_cons, List.all_cons, List.map_cons, h1, h2, h3]
    simp

theorem szs_append (l : List Seg) : ∀ js ks, szs l (js ++ ks) = szs l js + szs l ks := by
  intro js ks
  unfold szs
  rw [List.map_append, List.sum_append]
theorem szs_bd {l : List Seg} (h : validB l = true) : ∀ js : List Nat, (∀ j ∈ js, j < l.length) → (js.length : Int) ≤ szs l js ∧ szs l js ≤ 99 * (js.length : Int)
  | [], _ => by simp [szs]
  | j :: js, hj => by
    have h1 := szs_bd h js (fun x hx => hj x (List.mem_cons_of_mem _ hx))
    have h2 := sizeAt_bd h (hj j List.mem_cons_self)
    have h3 : szs l (j :: js) = sizeAt l j + szs l js := rfl
    rw [h3, List.length_cons]
    omega

def costB (l : List Seg) (s : ByteArray) : Int := if validB l = true ∧ namedOk l s.data.toList = true then szs l (namedJs l s.data.toList) else -1
theorem costB_names {l : List Seg} (hv : validB l = true) {js : List Nat} (hj : ∀ j ∈ js, j < l.length) : costB l (namesAt l js) = szs l js := by
  obtain ⟨h1, h2⟩ := named_names hv js hj
  unfold costB
  rw [if_pos ⟨hv, h1⟩, h2]

def stT (l : List Seg) (s : ByteArray) : List Nat := (stIx l s).getD []
theorem stT_of {l : List Seg} {s : ByteArray} (h : stOk l s = true) : stIx l s = some (stT l s) := by
  unfold stOk at h
  unfold stT
  cases hx : stIx l s with
  | none => rw [hx] at h; cases h
  | some T => rfl
theorem stT_state {l : List Seg} {s : ByteArray} (h : stOk l s = true) : validB l = true ∧ IsState l (stT l s) ∧ namesAt l (stT l s) = s := stIx_some (stT_of h)
theorem stT_names {l : List Seg} {T : List Nat} (hv : validB l = true) (hT : IsState l T) : stOk l (namesAt l T) = true ∧ stT l (namesAt l T) = T := by
  have h := stIx_of hv hT
  unfold stOk stT
  rw [h]
  exact ⟨rfl, rfl⟩

def needOk (l : List Seg) (s t : ByteArray) : Bool := stOk l s && hasSeg l t
def afterIx (l : List Seg) (s t : ByteArray) : List Nat := if needOk l s t = true then needT (stT l s) (pathIx l t) else []
def loadIx (l : List Seg) (s t : ByteArray) : List Nat := if needOk l s t = true then loadT (stT l s) (pathIx l t) else []
def dropIx (l : List Seg) (s t : ByteArray) : List Nat := if needOk l s t = true then dropT (stT l s) (pathIx l t) else []
def loadCostB (l : List Seg) (s t : ByteArray) : Int := if needOk l s t = true then szs l (loadIx l s t) else -1
theorem needOk_parts {l : List Seg} {s t : ByteArray} (h : needOk l s t = true) : stOk l s = true ∧ 0 ≤ indexB l t := by
  unfold needOk at h
  rw [Bool.and_eq_true] at h
  exact ⟨h.1, of_decide_eq_true h.2⟩
theorem path_state {l : List Seg} {t : ByteArray} (h : 0 ≤ indexB l t) : IsState l (pathIx l t) := .inr ⟨_, index_lt h, rfl⟩
theorem less_lt {l : List Seg} {T U : List Nat} (h : ∀ j ∈ T, j < l.length) : ∀ j ∈ lessT T U, j < l.length := fun j hj => h j (List.mem_filter.1 hj).1
theorem state_len {l : List Seg} {T : List Nat} (h : IsState l T) : T.length ≤ l.length := by
  rcases h with rfl | ⟨i, hi, rfl⟩
  · exact Nat.zero_le _
  · have := rootPath_len l (i + 1) i
    unfold rp
    omega
theorem less_len (T U : List Nat) : (lessT T U).length ≤ T.length := List.length_filter_le _ _
theorem load_lt {l : List Seg} (hd : Down l l.length) {T P : List Nat} (hT : IsState l T) (hP : IsState l P) : ∀ j ∈ loadT T P, j < l.length := less_lt ((needT_state hT hP).lt hd)
theorem load_len {l : List Seg} {T P : List Nat} (hT : IsState l T) (hP : IsState l P) : (loadT T P).length ≤ l.length := Nat.le_trans (less_len _ _) (state_len (needT_state hT hP))

/-- Needs one after the other: the state behind them, and what is loaded. -/
def runT (l : List Seg) : List Nat → List Nat → List Nat
  | T, [] => T
  | T, j :: js => runT l (needT T (rp l j)) js
def runL (l : List Seg) : List Nat → List Nat → List Nat
  | _, [] => []
  | T, j :: js => loadT T (rp l j) ++ runL l (needT T (rp l j)) js
theorem runT_snoc (l : List Seg) : ∀ (js : List Nat) (T : List Nat) (j : Nat), runT l T (js ++ [j]) = needT (runT l T js) (rp l j)
  | [], _, _ => rfl
  | k :: js, T, j => runT_snoc l js (needT T (rp l k)) j
theorem runL_snoc (l : List Seg) : ∀ (js : List Nat) (T : List Nat) (j : Nat), runL l T (js ++ [j]) = runL l T js ++ loadT (runT l T js) (rp l j)
  | [], T, j => by simp [runL, runT]
  | k :: js, T, j => by
    show loadT T (rp l k) ++ runL l (needT T (rp l k)) (js ++ [j]) = loadT T (rp l k) ++ runL l (needT T (rp l k)) js ++ loadT (runT l (needT T (rp l k)) js) (rp l j)
    rw [runL_snoc l js _ j, List.append_assoc]
theorem runT_state {l : List Seg} : ∀ (js : List Nat) {T : List Nat}, IsState l T → (∀ j ∈ js, j < l.length) → IsState l (runT l T js)
  | [], _, h, _ => h
  | j :: js, _, h, hj => runT_state js (needT_state h (.inr ⟨j, hj j List.mem_cons_self, rfl⟩)) (fun x hx => hj x (List.mem_cons_of_mem _ hx))
theorem runL_lt {l : List Seg} (hd : Down l l.length) : ∀ (js : List Nat) {T : List Nat}, IsState l T → (∀ j ∈ js, j < l.length) → (∀ x ∈ runL l T js, x < l.length) ∧ (runL l T js).length ≤ l.length * js.length
  | [], _, _, _ => ⟨(fun x hx => by cases hx), Nat.zero_le _⟩
  | j :: js, T, h, hj => by
    have hP : IsState l (rp l j) := .inr ⟨j, hj j List.mem_cons_self, rfl⟩
    have h1 := runL_lt hd js (needT_state h hP) (fun x hx => hj x (List.mem_cons_of_mem _ hx))
    have h2 := load_lt hd h hP
    have h3 := load_len h hP
    have e : runL l T (j :: js) = loadT T (rp l j) ++ runL l (needT T (rp l j)) js := rfl
    rw [e]
    refine ⟨fun x hx => ?_, ?_⟩
    · rcases List.mem_append.1 hx with h4 | h4
      · exact h2 x h4
      · exact h1.1 x h4
    · rw [List.length_append, List.length_cons, Nat.mul_succ]
      omega
def allOkB (l : List Seg) (s u : ByteArray) : Bool := stOk l s && decide (u.size ≤ 60) && namedOk l u.data.toList
def allState (l : List Seg) (s u : ByteArray) : ByteArray := if allOkB l s u = true then namesAt l (runT l (stT l s) (namedJs l u.data.toList)) else ⟨#[]⟩
def allLoad (l : List Seg) (s u : ByteArray) : ByteArray := if allOkB l s u = true then namesAt l (runL l (stT l s) (namedJs l u.data.toList)) else ⟨#[]⟩

/-- The cheapest need among the first 'k'. -/
def nCost (l : List Seg) (T : List Nat) (i : Nat) : Int := szs l (loadT T (rp l i))
def cheapIx (l : List Seg) (T : List Nat) : Nat → Option Nat
  | 0 => none
  | k + 1 => if k ∈ T then cheapIx l T k else match cheapIx l T k with
    | none => some k
    | some j => if nCost l T k < nCost l T j then some k else some j
theorem cheapIx_lt (l : List Seg) (T : List Nat) : ∀ (k j : Nat), cheapIx l T k = some j → j < k
  | 0, _, h => by cases h
  | k + 1, j, h => by
    unfold cheapIx at h
    split at h
    · have := cheapIx_lt l T k j h; omega
    · split at h
      · injection h with h; omega
      · rename_i j' hj'
        have := cheapIx_lt l T k j' hj'
        split at h
        · injection h with h; omega
        · injection h with h; omega
theorem nCost_in {l : List Seg} (hd : Down l l.length) {T : List Nat} (hT : IsState l T) {i : Nat} (h : i ∈ T) : nCost l T i = 0 := by
  rcases hT with rfl | ⟨j, hj, rfl⟩
  · cases h
  · have hp := rp_prefix hd j hj i h
    have hsub : ∀ x ∈ rp l i, x ∈ rp l j := fun x hx => hp.subset hx
    unfold nCost loadT needT
    rw [if_pos hsub, less_self]
    rfl
theorem nCost_out {l : List Seg} (hv : validB l = true) {T : List Nat} (hT : IsState l T) {i : Nat} (hi : i < l.length) (h : i ∉ T) : 1 ≤ nCost l T i ∧ nCost l T i ≤ 792 := by
  have hd := (valid_all hv).1.down
  have hP : IsState l (rp l i) := .inr ⟨i, hi, rfl⟩
  obtain ⟨A, hA⟩ := rp_last hd i hi
  have hi' : i ∈ rp l i := by rw [hA]; simp
  have h1 := szs_bd hv _ (load_lt hd hT hP)
  have h2 := load_len hT hP
  have h3 := (valid_all hv).2.1
  have h4 : 0 < (loadT T (rp l i)).length := by
    apply List.length_pos_iff.2
    intro he
    have h5 := less_nil.1 he
    have h6 : needT T (rp l i) = rp l i := if_neg (fun hall => h (hall i hi'))
    rw [h6] at h5
    exact h (h5 i hi')
  unfold nCost
  omega
def cheapStr (l : List Seg) (s : ByteArray) : ByteArray := match (if stOk l s = true then cheapIx l (stT l s) l.length else none) with
  | none => ⟨#[]⟩
  | some j => namesAt l [j]
def cheapOk (l : List Seg) (s : ByteArray) : Bool := match (if stOk l s = true then cheapIx l (stT l s) l.length else none) with
  | none => false
  | some _ => true
theorem loadCost_at {l : List Seg} {s : ByteArray} (h : stOk l s = true) {i : Nat} (hi : i < l.length) : loadCostB l s (namesAt l [i]) = nCost l (stT l s) i := by
  obtain ⟨hv, _, _⟩ := stT_state h
  have h1 := seek_nm hv hi
  have h2 : hasSeg l (namesAt l [i]) = true := decide_eq_true (by omega)
  have h3 : needOk l s (namesAt l [i]) = true := by unfold needOk; rw [h, h2]; rfl
  unfold loadCostB loadIx
  rw [if_pos h3, if_pos h3]
  unfold pathIx
  rw [h1, Int.toNat_natCast]
  rfl

end Go.Proofs.Ytadichddgpojpaa
/- Two paths begin alike, as far as what they have in common: no program. -/
namespace Go.Proofs.Ytadichddgpojpaa
open Go.RowKit

theorem comLen_sym {α : Type} [DecidableEq α] : ∀ (xs ys : List α), comLen xs ys = comLen ys xs
  | [], [] => rfl
  | [], _ :: _ => rfl
  | _ :: _, [] => rfl
  | a :: xs, b :: ys => by
    simp only [comLen]
    by_cases h : a = b
    · rw [if_pos h, if_pos h.symm, comLen_sym xs ys]
    · rw [if_neg h, if_neg (fun e => h e.symm)]
theorem comLen_take {α : Type} [DecidableEq α] : ∀ (xs ys : List α), xs.take (comLen xs ys) = ys.take (comLen xs ys)
  | [], [] => rfl
  | [], _ :: _ => by simp [comLen]
  | _ :: _, [] => by simp [comLen]
  | a :: xs, b :: ys => by
    simp only [comLen]
    by_cases h : a = b
    · rw [if_pos h, h, List.take_succ_cons, List.take_succ_cons, comLen_take xs ys]
    · rw [if_neg h]; rfl
theorem comLen_next {α : Type} [DecidableEq α] : ∀ (xs ys : List α) (h1 : comLen xs ys < xs.length) (h2 : comLen xs ys < ys.length), xs[comLen xs ys]'h1 ≠ ys[comLen xs ys]'h2
  | [], _, h, _ => absurd h (by simp)
  | _ :: _, [], _, h => absurd h (by simp)
  | a :: xs, b :: ys, h1, h2 => by
    by_cases h : a = b
    · have e : comLen (a :: xs) (b :: ys) = comLen xs ys + 1 := by simp only [comLen]; rw [if_pos h]
      have h3 : comLen xs ys < xs.length := by rw [e] at h1; simpa using h1
      have h4 : comLen xs ys < ys.length := by rw [e] at h2; simpa using h2
      have := comLen_next xs ys h3 h4
      simp only [e, List.getElem_cons_succ]
      exact this
    · have e : comLen (a :: xs) (b :: ys) = 0 := by simp only [comLen]; rw [if_neg h]
      simp only [e, List.getElem_cons_zero]
      exact h

/-- What the laws ask of two paths and of what they have in common. -/
structure Alike (l : List Seg) (s t : ByteArray) : Prop where
  x : (pathStr l s).size = (pathIx l s).length
  y : (pathStr l t).size = (pathIx l t).length
  p : (pathStr l (comStr l s t)).size = comCount l s t
  px : (pathStr l s).data.toList.take (comCount l s t) = (pathStr l (comStr l s t)).data.toList
  py : (pathStr l t).data.toList.take (comCount l s t) = (pathStr l (comStr l s t)).data.toList
  next : ∀ (h1 : comCount l s t < (pathStr l s).size) (h2 : comCount l s t < (pathStr l t).size), (pathStr l s)[comCount l s t]'h1 ≠ (pathStr l t)[comCount l s t]'h2
  le : comCount l s t ≤ (pathStr l s).size ∧ comCount l s t ≤ (pathStr l t).size

theorem ix_lt {l : List Seg} {s : ByteArray} (h : 0 ≤ indexB l s) : ∀ j ∈ pathIx l s, j < l.length := fun j hj => by
  have ok := (valid_all (index_valid h)).1
  rcases indexB_bd l s with a1 | ⟨_, a1⟩
  · omega
  have := rp_le ok.down _ (show (indexB l s).toNat < l.length by omega) j hj
  omega
theorem com_at {l : List Seg} {s t : ByteArray} (hs : 0 ≤ indexB l s) (ht : 0 ≤ indexB l t) : ∃ v, v < l.length ∧ comStr l s t = namesAt l [v] ∧ rp l v = (pathIx l s).take (comCount l s t) := by
  have hv := index_valid hs
  have ok := (valid_all hv).1
  have hpos := comCount_pos hs ht
  have hle := (comLen_le (pathIx l s) (pathIx l t)).1
  obtain ⟨n, hn⟩ : ∃ n, comCount l s t = n + 1 := ⟨comCount l s t - 1, by omega⟩
  have hnl : n < (pathIx l s).length := by unfold comCount at hn; omega
  have hvl := ix_lt hs _ (List.getElem_mem hnl)
  refine ⟨(pathIx l s)[n], hvl, ?_, ?_⟩
  · unfold comStr
    rw [if_neg (by omega), hn]
    simp [List.getD, List.getElem?_eq_getElem hnl]
  · rcases indexB_bd l s with a1 | ⟨_, a1⟩
    · omega
    have hi : (indexB l s).toNat < l.length := by omega
    have h1 := rp_prefix ok.down _ hi _ (List.getElem_mem hnl : (pathIx l s)[n] ∈ rp l (indexB l s).toNat)
    obtain ⟨B, hB⟩ := rp_last ok.down _ hvl
    have h2 : (pathIx l s).take n ++ [(pathIx l s)[n]] = (pathIx l s).take (n + 1) := (List.take_append_getElem hnl)
    have h3 : (pathIx l s).take n ++ [(pathIx l s)[n]] <+: rp l (indexB l s).toNat := by
      rw [h2]
      exact List.take_prefix _ _
    have h4 : B ++ [(pathIx l s)[n]] <+: rp l (indexB l s).toNat := by rw [← hB]; exact h1
    have hlen := snoc_unique (rp_asc ok.down _ hi) h3 h4
    rw [hn, ← h2]
    have e : (pathIx l s).take n ++ [(pathIx l s)[n]] = B ++ [(pathIx l s)[n]] := by
      have g1 := List.prefix_iff_eq_take.1 h3
      have g2 := List.prefix_iff_eq_take.1 h4
      rw [g1, g2]
      congr 1
      simp only [List.length_append, hlen]
    rw [hB, e]

theorem alike {l : List Seg} {s t : ByteArray} (hs : 0 ≤ indexB l s) (ht : 0 ≤ indexB l t) : Alike l s t := by
  have hv := index_valid hs
  obtain ⟨v, hvl, hc, hrp⟩ := com_at hs ht
  have hix : indexB l (comStr l s t) = (v : Int) := by rw [hc]; exact seek_nm hv hvl
  have h0 : 0 ≤ indexB l (comStr l s t) := by omega
  have hp : pathIx l (comStr l s t) = (pathIx l s).take (comCount l s t) := by
    show rp l (indexB l (comStr l s t)).toNat = _
    rw [hix, Int.toNat_natCast, hrp]
  have bx := namesAt_map hv _ (ix_lt hs)
  have bt := namesAt_map hv _ (ix_lt ht)
  have bp := namesAt_map hv _ (ix_lt h0)
  rw [← pathStr_ix hs] at bx
  rw [← pathStr_ix ht] at bt
  rw [← pathStr_ix h0, hp] at bp
  have hl := comLen_le (pathIx l s) (pathIx l t)
  have zx := (pathStr_size hs).1
  have zt := (pathStr_size ht).1
  have zp := (pathStr_size h0).1
  refine ⟨zx, zt, ?_, ?_, ?_, fun h1 h2 he => ?_, by unfold comCount; omega⟩
  · rw [zp, hp, List.length_take]
    unfold comCount
    omega
  · rw [bx, bp, ← List.map_take]
  · rw [bt, bp, ← List.map_take]
    unfold comCount
    rw [comLen_take]
  · have g1 : comLen (pathIx l s) (pathIx l t) < (pathIx l s).length := by rw [← zx]; exact h1
    have g2 : comLen (pathIx l s) (pathIx l t) < (pathIx l t).length := by rw [← zt]; exact h2
    have e1 : (pathStr l s)[comCount l s t]'h1 = byteOf l ((pathIx l s)[comLen (pathIx l s) (pathIx l t)]'g1) := by
      have : (pathStr l s).data.toList[comCount l s t]? = some ((pathStr l s)[comCount l s t]'h1) := List.getElem?_eq_getElem (by simpa using h1)
      rw [bx, List.getElem?_map] at this
      unfold comCount at this ⊢
      rw [List.getElem?_eq_getElem g1] at this
      injection this with this
      exact this.symm
    have e2 : (pathStr l t)[comCount l s t]'h2 = byteOf l ((pathIx l t)[comLen (pathIx l s) (pathIx l t)]'g2) := by
      have : (pathStr l t).data.toList[comCount l s t]? = some ((pathStr l t)[comCount l s t]'h2) := List.getElem?_eq_getElem (by simpa using h2)
      rw [bt, List.getElem?_map] at this
      unfold comCount at this ⊢
      rw [List.getElem?_eq_getElem g2] at this
      injection this with this
      exact this.symm
    rw [e1, e2] at he
    exact comLen_next _ _ g1 g2 (byteOf_inj hv (ix_lt hs _ (List.getElem_mem g1)) (ix_lt ht _ (List.getElem_mem g2)) he)

theorem comOk_sym (l : List Seg) (s t : ByteArray) : comOk l t s = comOk l s t := Bool.and_comm _ _
theorem comStr_sym (l : List Seg) (s t : ByteArray) : comStr l t s = comStr l s t := by
  by_cases hs : indexB l s < 0
  · unfold comStr
    rw [if_pos (.inr hs), if_pos (.inl hs)]
  by_cases ht : indexB l t < 0
  · unfold comStr
    rw [if_pos (.inl ht), if_pos (.inr ht)]
  have hp := comCount_pos (show 0 ≤ indexB l s by omega) (show 0 ≤ indexB l t by omega)
  obtain ⟨x, h1, h2⟩ := comLen_get (pathIx l s) (pathIx l t) (comCount l s t - 1) (by unfold comCount at *; omega)
  have e : comCount l t s = comCount l s t := comLen_sym _ _
  unfold comStr
  rw [if_neg (by omega), if_neg (by omega), e]
  simp only [List.getD, h1, h2]
theorem comStr_bad {l : List Seg} {s t : ByteArray} (h : comOk l s t = false) : comStr l s t = ⟨#[]⟩ := by
  unfold comStr
  refine if_pos ?_
  unfold comOk hasSeg at h
  simp at h
  by_cases hs : 0 ≤ indexB l s
  · exact .inr (h hs)
  · exact .inl (by omega)

end Go.Proofs.Ytadichddgpojpaa

/- A path, its children's paths, its ends; a name's size: no program. (For the law FnPathOf.) -/
namespace Go.Proofs.Ytadichddgpojpaa
open Go.RowKit

theorem namesAt_append (l : List Seg) (xs ys : List Nat) : namesAt l (xs ++ ys) = namesAt l xs ++ namesAt l ys := by
  apply WideShapes.bytes_inj
  show _ = (namesAt l xs ++ namesAt l ys).data.toList
  rw [ByteArray.data_append, Array.toList_append]
  show (xs ++ ys).flatMap (nmAt l) = xs.flatMap (nmAt l) ++ ys.flatMap (nmAt l)
  rw [List.flatMap_append]
theorem namesAt_size {l : List Seg} (hv : validB l = true) (js : List Nat) (hj : ∀ j ∈ js, j < l.length) : (namesAt l js).size = js.length := by
  have e2 : (namesAt l js).size = (namesAt l js).data.toList.length := by simp
  rw [e2, namesAt_map hv _ hj, List.length_map]
theorem cut_at {l : List Seg} (hv : validB l = true) {js : List Nat} (hj : ∀ j ∈ js, j < l.length) {i : Nat} (hi : i < js.length) : (namesAt l js).extract i (i + 1) = namesAt l [js[i]] := by
  have hm : ∀ j ∈ [js[i]], j < l.length := fun j h => by
    rw [List.mem_singleton.1 h]
    exact hj _ (List.getElem_mem hi)
  apply ByteArray.ext
  apply Array.ext'
  rw [namesAt_map hv _ hm]
  have e4 : ((namesAt l js).extract i (i + 1)).data.toList = (((namesAt l js).data.toList).drop i).take 1 := by
    simp [ByteArray.data_extract]
  rw [e4, namesAt_map hv _ hj, ← List.map_drop, List.drop_eq_getElem_cons hi]
  rfl
theorem namesStr_at {l : List Seg} (hv : validB l = true) : namesStr l = namesAt l (List.range l.length) := by
  apply WideShapes.bytes_inj
  have h1 : namesStr l = seenOf l l.length := if_pos hv
  rw [h1, ← range_names l l.length (Nat.le_refl _)]
  rfl
theorem kidsStr_at {l : List Seg} {s : ByteArray} (h : 0 ≤ indexB l s) : kidsStr l s = namesAt l (kidsOf l (indexB l s).toNat l.length) := if_neg (by omega)
theorem one_name {l : List Seg} (hv : validB l = true) {i : Nat} (hi : i < l.length) : namesAt l [i] = l[i].name := by
  rw [(nmAt_one hv hi).2]
  show (⟨([i].flatMap (nmAt l)).toArray⟩ : ByteArray) = _
  rw [List.flatMap_cons, (nmAt_one hv hi).1]
  rfl
theorem path_child {l : List Seg} {s : ByteArray} (hs : 0 ≤ indexB l s) {j : Nat} (hj : j ∈ kidsOf l (indexB l s).toNat l.length) : pathStr l (namesAt l [j]) = pathStr l s ++ namesAt l [j] := by
  have hv := index_valid hs
  have ok := (valid_all hv).1
  have hjl := kidsOf_lt hj
  have hp := kidsOf_par hj
  have hx := seek_nm hv hjl
  rw [pathStr_ix (by omega : 0 ≤ indexB l (namesAt l [j])), pathStr_ix hs]
  unfold pathIx
  rw [hx, Int.toNat_natCast, rp_step ok.down hjl hp, namesAt_append]
theorem path_head {l : List Seg} {s : ByteArray} (hs : 0 ≤ indexB l s) : (pathStr l s).extract 0 1 = (namesStr l).extract 0 1 ∧ 0 < (pathStr l s).size := by
  have hv := index_valid hs
  have ok := (valid_all hv).1
  have h1 := (valid_all hv).2.2
  rcases indexB_bd l s with a1 | ⟨_, a1⟩
  · omega
  obtain ⟨A, hA⟩ := rp_head ok _ (show (indexB l s).toNat < l.length by omega)
  have hb := ix_lt hs
  have e : pathIx l s = 0 :: A := hA
  have hz := (pathStr_size hs).1
  rw [e] at hz
  refine ⟨?_, by rw [hz]; simp⟩
  rw [pathStr_ix hs, namesStr_at hv]
  have c1 := cut_at hv hb (i := 0) (by rw [e]; simp)
  have c2 := cut_at hv (js := List.range l.length) (fun j hj => List.mem_range.1 hj) (i := 0) (by simp; omega)
  rw [show (0 : Nat) + 1 = 1 from rfl] at c1 c2
  rw [c1, c2]
  simp [e]
theorem path_tail {l : List Seg} {s : ByteArray} (hs : 0 ≤ indexB l s) : (pathStr l s).extract ((pathStr l s).size - 1) (pathStr l s).size = s := by
  have hv := index_valid hs
  have ok := (valid_all hv).1
  rcases indexB_bd l s with a1 | ⟨_, a1⟩
  · omega
  have hi : (indexB l s).toNat < l.length := by omega
  obtain ⟨A, hA⟩ := rp_last ok.down _ hi
  have e : pathIx l s = A ++ [(indexB l s).toNat] := hA
  have hz := (pathStr_size hs).1
  rw [e, List.length_append] at hz
  have hz' : (pathStr l s).size = A.length + 1 := hz
  rw [hz', Nat.add_sub_cancel, pathStr_ix hs, cut_at hv (ix_lt hs) (by rw [e]; simp)]
  have hl : (pathIx l s)[A.length]'(by rw [e]; simp) = (indexB l s).toNat := by simp [e]
  rw [hl, one_name hv hi]
  have h2 : seek l s = ((indexB l s).toNat : Int) := by
    have : indexB l s = seek l s := if_pos hv
    omega
  obtain ⟨x, hx, hn⟩ := seek_name h2
  rw [List.getElem?_eq_getElem hi] at hx
  injection hx with hx
  rw [hx, hn]
theorem size_of_name {l : List Seg} (hv : validB l = true) {k : Nat} (hk : k < l.length) : sizeB l ((namesStr l).extract k (k + 1)) = l[k].size := by
  rw [namesStr_at hv, cut_at hv (fun j hj => List.mem_range.1 hj) (by simpa using hk)]
  have e : (List.range l.length)[k]'(by simpa using hk) = k := by simp
  rw [e]
  have hx := seek_nm hv hk
  unfold sizeB
  rw [if_neg (by omega), hx, Int.toNat_natCast, sizeAt_of hk]
theorem names_size {l : List Seg} (hv : validB l = true) : (namesStr l).size = l.length := by
  rw [namesStr_at hv, namesAt_size hv _ (fun j hj => List.mem_range.1 hj), List.length_range]

/-- A call that gives 'v' over a tree and lets all be that is there. -/
def Gives (f : FuncId) (A : Option Addr) (l : List Seg) (args : Array Value) (v : Value) : Prop := ∀ w, Segs w w.heap.size A l → Calls Try.prog f args w fun e w' => e = .returned v ∧ Below w.heap.size w w'

end Go.Proofs.Ytadichddgpojpaa
/- Chapter 9: what the law of MergeIn says of trees: plain. -/
namespace Go.Proofs.Ytadichddgpojpaa
open Go.RowKit

theorem cutName9 {l : List Seg} (hv : validB l = true) {k : Nat} (hk : k < l.length) : (namesStr l).extract k (k + 1) = nmAt9 l k := by
  rw [namesStr_at hv, cut_at hv (fun j hj => List.mem_range.1 hj) (by simpa using hk)]
  have e : (List.range l.length)[k]'(by simpa using hk) = k := by simp
  rw [e]
  have h1 := seek_nm hv hk
  have h2 : indexB l (namesAt l [k]) = seek l (namesAt l [k]) := if_pos hv
  obtain ⟨x, hx, hn⟩ := seek_name (l := l) (s := namesAt l [k]) (j := k) (by omega)
  rw [nmAt9_of hk]
  rw [List.getElem?_eq_getElem hk] at hx
  injection hx with hx
  rw [hx, hn]

/-- What the law of MergeIn says of a merged tree. -/
structure MergeSays (l : List Seg) (s : ByteArray) : Prop where
  valid : validB (mergeL l s) = true
  short : ∀ x ∈ mergeL l s, x.name.size ≤ 8
  len : (mergeL l s).length + 1 = l.length
  total : totalB (mergeL l s) = totalB l
  room : roomB l ≤ roomB (mergeL l s)
  size : (namesStr (mergeL l s)).size = (mergeL l s).length
  ends : ∀ k, k < (mergeL l s).length → endB l ((namesStr (mergeL l s)).extract k (k + 1)) ≤ endB (mergeL l s) ((namesStr (mergeL l s)).extract k (k + 1))
theorem endB9_name {l : List Seg} (hv : validB l = true) {k : Nat} (hk : k < l.length) : endB l (nmAt9 l k) = endAt l k := by
  unfold endB
  rw [index9_name hv hk, if_neg (by omega), Int.toNat_natCast]
theorem merge9_says {l : List Seg} {s : ByteArray} (hn : ∀ x ∈ l, x.name.size ≤ 8) (h : mergeOk l s = true) : MergeSays l s := by
  have h2 : mergeOk l s = (decide (0 < indexB l s) && decide (sizeAt l (ix9 l s) + sizeAt l (up9 l s) ≤ 99)) := rfl
  rw [h2, Bool.and_eq_true] at h
  obtain ⟨h0, h9⟩ := h
  have h0 := of_decide_eq_true h0
  have h9 := of_decide_eq_true h9
  obtain ⟨p, hm, hup⟩ := merge9_at h0
  have hL : mergeL l s = made9 l (mergeZ9 (sizeAt l) (up9 l s) (ix9 l s)) (mergeP (parAt l) (ix9 l s) (up9 l s)) 0 := if_pos (by rw [h2, decide_eq_true h0, decide_eq_true h9]; rfl)
  rw [hup] at hL h9
  have hv := hm.valid
  have hc := hm.cut
  have hmv := hm.made h9
  refine ⟨?_, ?_, ?_, ?_, ?_, ?_, ?_⟩
  · rw [hL]; exact hmv
  · rw [hL]; exact hc.short hn
  · rw [hL]; exact hm.len
  · rw [hL]
    have e1 : totalB (made9 l (mergeZ9 (sizeAt l) p (ix9 l s)) (mergeP (parAt l) (ix9 l s) p) 0) = sumTo _ _ := if_pos hmv
    have e2 : totalB l = sumTo l l.length := if_pos hv
    rw [e1, e2]
    exact hm.total
  · rw [hL]
    have e1 : roomB (made9 l (mergeZ9 (sizeAt l) p (ix9 l s)) (mergeP (parAt l) (ix9 l s) p) 0) = roomTo _ _ := if_pos hmv
    have e2 : roomB l = roomTo l l.length := if_pos hv
    rw [e1, e2]
    exact hm.room
  · rw [hL]; exact names_size hmv
  · rw [hL]
    intro k hk
    rw [cutName9 hmv hk, endB9_name hmv hk]
    have hk2 := hk
    rw [hc.len] at hk2
    have hk' := List.getElem?_eq_getElem hk2
    have ha := (hm.mem.1 (List.getElem_mem hk2)).1
    rw [hc.name hk', endB9_name hv ha]
    exact (hm.ends _ _ k (Nat.le_refl _) hk').2.2

/-- What the law of MergeIn says of a segment moved up. -/
structure MoveSays (l : List Seg) (s : ByteArray) : Prop where
  short : ∀ x ∈ moveL l s, x.name.size ≤ 8
  len : (moveL l s).length = l.length
  room : roomB (moveL l s) ≤ roomB l
  same : sameSegs l (moveL l s) = true
theorem Cut9.nm0_is {l l' : List Seg} {sz ps : Nat → Int} {W : List Nat} (h : Cut9 l' (nmAt9 l) sz ps l.length 0 W) (h0 : 0 < l.length) : nm0 l = nm0 l' := by
  have h1 : 0 < l'.length := by rw [h.len]; exact (List.getElem?_eq_some_iff.1 h.root).1
  rw [nm0_of h0, nm0_of h1, ← nmAt9_of h0, ← nmAt9_of h1, h.name h.root]
theorem move9_says {l : List Seg} {s : ByteArray} (hn : ∀ x ∈ l, x.name.size ≤ 8) (h : moveOk l s = true) : MoveSays l s := by
  have hL : moveL l s = made9 l (sizeAt l) (moveP (parAt l) (ix9 l s) (parAt l (up9 l s))) 0 := if_pos h
  obtain ⟨p, q, hm, hup, hq⟩ := move9_at h
  rw [hq] at hL
  have hv := hm.valid
  have hc := hm.cut
  have hmv := hm.made
  have hl0 : 0 < l.length := by have := hm.lt; omega
  refine ⟨?_, ?_, ?_, ?_⟩
  · rw [hL]; exact hc.short hn
  · rw [hL]; exact hm.len
  · rw [hL]
    have e1 : roomB (made9 l (sizeAt l) (moveP (parAt l) (ix9 l s) q) 0) = roomTo _ _ := if_pos hmv
    have e2 : roomB l = roomTo l l.length := if_pos hv
    rw [e1, e2]
    exact hm.room
  · rw [hL]
    have h5 : sameUp l (made9 l (sizeAt l) (moveP (parAt l) (ix9 l s) q) 0) l.length = true := by
      unfold sameUp
      rw [List.take_length, List.all_eq_true]
      intro x hx
      obtain ⟨i, hi, rfl⟩ := List.getElem_of_mem hx
      have hk := get9_idxOf (hm.mem.2 hi)
      have hkl := (List.getElem?_eq_some_iff.1 hk).1
      rw [← hc.len] at hkl
      have e1 := size9_name hmv hkl
      rw [hc.name hk, hc.size hk, nmAt9_of hi, sizeAt_of hi] at e1
      exact decide_eq_true e1
    unfold sameSegs
    rw [hv, hmv, decide_eq_true (hm.len).symm, sameB_iff.2 (hc.nm0_is hl0), h5]
    rfl

end Go.Proofs.Ytadichddgpojpaa
