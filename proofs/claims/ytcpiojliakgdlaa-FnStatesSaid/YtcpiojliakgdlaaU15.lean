/- Joined: Ga Gc. -/
import Derived.Test.YtcpiojliakgdlaaU14
import Derived.BigQuiet
/- States, needs and what they load: no program. -/
namespace Go.Proofs.Ytcpiojliakgdlaa
open Go.RowKit

/-- All states of a tree: none is loaded, or a path. -/
def statesIx (l : List Seg) : List (List Nat) := [] :: (List.range l.length).map (rp l)
def IsState (l : List Seg) (T : List Nat) : Prop := T = [] ∨ ∃ j, j < l.length ∧ T = rp l j
theorem mem_states {l : List Seg} {T : List Nat} : T ∈ statesIx l ↔ IsState l T := by
  unfold statesIx IsState
  rw [List.mem_cons, List.mem_map]
  constructor
  · rintro (h | ⟨j, hj, h⟩)
    · exact .inl h
    · exact .inr ⟨j, List.mem_range.1 hj, h.symm⟩
  · rintro (h | ⟨j, hj, h⟩)
    · exact .inl h
    · exact .inr ⟨j, List.mem_range.2 hj, h.symm⟩
theorem IsState.lt {l : List Seg} (hd : Down l l.length) {T : List Nat} (h : IsState l T) : ∀ j ∈ T, j < l.length := by
  rcases h with rfl | ⟨i, hi, rfl⟩
  · intro j hj; cases hj
  · intro j hj
    have := rp_le hd i hi j hj
    omega
theorem IsState.asc {l : List Seg} (hd : Down l l.length) {T : List Nat} (h : IsState l T) : T.Pairwise (· < ·) := by
  rcases h with rfl | ⟨i, hi, rfl⟩
  · exact List.Pairwise.nil
  · exact rp_asc hd i hi
theorem names_inj {l : List Seg} (hv : validB l = true) {T U : List Nat} (hT : ∀ j ∈ T, j < l.length) (hU : ∀ j ∈ U, j < l.length) (h : namesAt l T = namesAt l U) : T = U := by
  have h1 := namesAt_map hv T hT
  have h2 := namesAt_map hv U hU
  rw [h, h2] at h1
  clear h h2
  induction T generalizing U with
  | nil =>
    cases U with
    | nil => rfl
    | cons u U => cases h1
  | cons t T ih =>
    cases U with
    | nil => cases h1
    | cons u U =>
      simp only [List.map_cons, List.cons.injEq] at h1
      have e1 := byteOf_inj hv (hU u List.mem_cons_self) (hT t List.mem_cons_self) h1.1
      rw [e1, ih (fun j hj => hT j (List.mem_cons_of_mem _ hj)) (fun j hj => hU j (List.mem_cons_of_mem _ hj)) h1.2]

/-- The state that a text tells. -/
def stIx (l : List Seg) (s : ByteArray) : Option (List Nat) := if validB l = true then (statesIx l).find? (fun T => sameB (namesAt l T) s) else none
theorem stIx_some {l : List Seg} {s : ByteArray} {T : List Nat} (h : stIx l s = some T) : validB l = true ∧ IsState l T ∧ namesAt l T = s := by
  unfold stIx at h
  by_cases hv : validB l = true
  · rw [if_pos hv] at h
    exact ⟨hv, mem_states.1 (List.mem_of_find?_eq_some h), sameB_iff.1 (List.find?_some (p := fun T => sameB (namesAt l T) s) h)⟩
  · rw [if_neg hv] at h; cases h
theorem stIx_of {l : List Seg} {T : List Nat} (hv : validB l = true) (hT : IsState l T) : stIx l (namesAt l T) = some T := by
  have hd := (valid_all hv).1.down
  cases h : stIx l (namesAt l T) with
  | none =>
    unfold stIx at h
    rw [if_pos hv] at h
    exact absurd (sameB_iff.2 rfl) (List.find?_eq_none.1 h T (mem_states.2 hT))
  | some U =>
    obtain ⟨_, h2, h3⟩ := stIx_some h
    rw [names_inj hv (h2.lt hd) (hT.lt hd) h3]
theorem stIx_bad {l : List Seg} (s : ByteArray) (h : validB l = false) : stIx l s = none := if_neg (by rw [h]; decide)
def stOk (l : List Seg) (s : ByteArray) : Bool := (stIx l s).isSome
theorem stOk_bad {l : List Seg} (s : ByteArray) (h : validB l = false) : stOk l s = false := by unfold stOk; rw [stIx_bad s h]; rfl
theorem stOk_empty {l : List Seg} {s : ByteArray} (hs : s.size = 0) : stOk l s = validB l := by
  obtain rfl : s = ⟨#[]⟩ := by
    apply ByteArray.ext
    apply Array.eq_empty_of_size_eq_zero
    exact hs
  cases hv : validB l with
  | false => exact stOk_bad _ hv
  | true =>
    have h := stIx_of hv (.inl rfl : IsState l [])
    unfold stOk
    rw [show (⟨#[]⟩ : ByteArray) = namesAt l [] from rfl, h]
    rfl
theorem seek_nm {l : List Seg} (hv : validB l = true) {i : Nat} (hi : i < l.length) : indexB l (namesAt l [i]) = (i : Int) := by
  have h1 : indexB l (namesAt l [i]) = seek l (namesAt l [i]) := if_pos hv
  have h2 : 0 ≤ indexB l (namesAt l [i]) := by
    rw [h1]
    have key : ∀ (k : Nat), k ≤ i → seek l (namesAt l [i]) = seekFrom (namesAt l [i]) (l.drop k) k ∨ 0 ≤ seek l (namesAt l [i]) := by
      intro k
      induction k with
      | zero => intro _; exact .inl rfl
      | succ k ih =>
        intro hk
        rcases ih (by omega) with h | h
        · rw [seekFrom_drop l _ k (by omega)] at h
          by_cases hs : sameB (l[k]'(by omega)).name (namesAt l [i]) = true
          · rw [if_pos hs] at h; right; omega
          · rw [if_neg hs] at h; exact .inl h
        · exact .inr h
    rcases key i (Nat.le_refl _) with h | h
    · rw [seekFrom_drop l _ i hi, if_pos (sameB_iff.2 ?_)] at h
      · omega
      · rw [(nmAt_one hv hi).2]
        show _ = (⟨([i].flatMap (nmAt l)).toArray⟩ : ByteArray)
        rw [List.flatMap_cons, (nmAt_one hv hi).1]
        rfl
    · exact h
  have h3 := index_nm h2
  have h4 := namesAt_one_inj hv (index_lt h2) hi h3
  omega

/-- A state of a text of one byte or more is the path of its last segment. -/
theorem stIx_last {l : List Seg} {s : ByteArray} {T : List Nat} (h : stIx l s = some T) (hs : 0 < s.size) : 0 ≤ indexB l (s.extract (s.size - 1) s.size) ∧ T = pathIx l (s.extract (s.size - 1) s.size) := by
  obtain ⟨hv, hT, hn⟩ := stIx_some h
  have hd := (valid_all hv).1.down
  rcases hT with rfl | ⟨i, hi, rfl⟩
  · rw [← hn] at hs
    exact (Nat.lt_irrefl 0 hs).elim
  · obtain ⟨A, hA⟩ := rp_last hd i hi
    have hlt : ∀ j ∈ rp l i, j < l.length := fun j hj => by have := rp_le hd i hi j hj; omega
    have e : s.extract (s.size - 1) s.size = namesAt l [i] := by
      apply ByteArray.ext
      apply Array.ext'
      have h1 := namesAt_map hv _ hlt
      have h2 := namesAt_map hv [i] (fun j hj => by rw [List.mem_singleton.1 hj]; exact hi)
      rw [h2, ← hn]
      have e4 : ∀ (x : ByteArray), (x.extract (x.size - 1) x.size).data.toList = x.data.toList.drop (x.size - 1) := fun x => by
        simp [ByteArray.data_extract]
        exact List.take_of_length_le (by simp)
      rw [e4, h1, hA]
      have e5 : (namesAt l (A ++ [i])).size = A.length + 1 := by
        have : (namesAt l (A ++ [i])).size = (namesAt l (A ++ [i])).data.toList.length := by simp
        rw [this, ← hA, h1, hA]
        simp
      rw [e5]
      simp
    rw [e, seek_nm hv hi]
    refine ⟨by omega, ?_⟩
    unfold pathIx
    rw [seek_nm hv hi, Int.toNat_natCast]
theorem stOk_last {l : List Seg} {s : ByteArray} (hs : 0 < s.size) : stOk l s = (hasSeg l (s.extract (s.size - 1) s.size) && sameB (pathStr l (s.extract (s.size - 1) s.size)) s) := by
  cases h : stIx l s with
  | some T =>
    obtain ⟨h1, h2⟩ := stIx_last h hs
    obtain ⟨hv, _, hn⟩ := stIx_some h
    have e1 : stOk l s = true := by unfold stOk; rw [h]; rfl
    have e2 : hasSeg l (s.extract (s.size - 1) s.size) = true := decide_eq_true h1
    have e3 : sameB (pathStr l (s.extract (s.size - 1) s.size)) s = true := by
      apply sameB_iff.2
      rw [pathStr_ix h1, ← h2]
      exact hn
    rw [e1, e2, e3]
    rfl
  | none =>
    have e1 : stOk l s = false := by unfold stOk; rw [h]; rfl
    rw [e1]
    symm
    rw [Bool.and_eq_false_iff]
    by_cases h0 : 0 ≤ indexB l (s.extract (s.size - 1) s.size)
    · right
      cases h3 : sameB (pathStr l (s.extract (s.size - 1) s.size)) s with
      | false => rfl
      | true =>
        have h4 := sameB_iff.1 h3
        have h5 := stIx_of (index_valid h0) (.inr ⟨_, index_lt h0, rfl⟩ : IsState l (pathIx l (s.extract (s.size - 1) s.size)))
        rw [← pathStr_ix h0, h4, h] at h5
        cases h5
    · exact .inl (decide_eq_false h0)

/-- The state behind a need for all of 'P'. -/
def needT (T P : List Nat) : List Nat := if (∀ x ∈ P, x ∈ T) then T else P
def lessT (T U : List Nat) : List Nat := T.filter (fun x => decide (x ∉ U))
def loadT (T P : List Nat) : List Nat := lessT (needT T P) T
def dropT (T P : List Nat) : List Nat := lessT T (needT T P)

theorem comLen_comm {α : Type} [DecidableEq α] : ∀ xs ys : List α, comLen xs ys = comLen ys xs
  | [], [] => rfl
  | [], _ :: _ => by simp [comLen]
  | _ :: _, [] => by simp [comLen]
  | a :: xs, b :: ys => by
    simp only [comLen]
    by_cases h : a = b
    · rw [if_pos h, if_pos h.symm, comLen_comm xs ys]
    · rw [if_neg h, if_neg (fun e => h e.symm)]
theorem com_mem {l : List Seg} (hd : Down l l.length) {T U : List Nat} (hT : IsState l T) (hU : IsState l U) {k : Nat} (hk : k < T.length) : T[k] ∈ U ↔ k < comLen T U := by
  constructor
  · intro hm
    rcases hT with rfl | ⟨i, hi, rfl⟩
    · exact absurd hk (by simp)
    · rcases hU with rfl | ⟨j, hj, rfl⟩
      · cases hm
      · have hmi : (rp l i)[k] ∈ rp l i := List.getElem_mem hk
        have hx : (rp l i)[k] < l.length := by have := rp_le hd i hi _ hmi; omega
        have h1 := rp_prefix hd i hi _ hmi
        have h2 := rp_prefix hd j hj _ hm
        obtain ⟨A, hA⟩ := rp_last hd _ hx
        have h3 := comLen_prefix _ _ _ h1 h2
        rw [hA] at h1 h3
        have h4 : (rp l i).take k ++ [(rp l i)[k]] <+: rp l i := by
          rw [← List.take_succ_eq_append_getElem hk]
          exact List.take_prefix _ _
        have h5 := snoc_unique (rp_asc hd i hi) h1 h4
        rw [List.length_take] at h5
        rw [List.length_append, List.length_singleton] at h3
        omega
  · intro h
    obtain ⟨x, h1, h2⟩ := comLen_get T U k h
    rw [List.getElem?_eq_getElem hk] at h1
    injection h1 with h1
    rw [h1]
    exact List.mem_of_getElem? h2
theorem less_drop {l : List Seg} (hd : Down l l.length) {T U : List Nat} (hT : IsState l T) (hU : IsState l U) : lessT T U = T.drop (comLen T U) := by
  unfold lessT
  conv => lhs; rw [← List.take_append_drop (comLen T U) T]
  rw [List.filter_append]
  have h1 : (T.take (comLen T U)).filter (fun x => decide (x ∉ U)) = [] := by
    apply List.filter_eq_nil_iff.2
    intro x hx
    obtain ⟨k, hk, rfl⟩ := List.mem_iff_getElem.1 hx
    have hk2 : k < T.length := by rw [List.length_take] at hk; omega
    have hk3 : k < comLen T U := by rw [List.length_take] at hk; omega
    have := (com_mem hd hT hU hk2).2 hk3
    rw [List.getElem_take]
    simpa using this
  have h2 : (T.drop (comLen T U)).filter (fun x => decide (x ∉ U)) = T.drop (comLen T U) := by
    apply List.filter_eq_self.2
    intro x hx
    obtain ⟨k, hk, rfl⟩ := List.mem_iff_getElem.1 hx
    rw [List.length_drop] at hk
    have hk2 : comLen T U + k < T.length := by omega
    rw [List.getElem_drop]
    have : ¬ T[comLen T U + k] ∈ U := fun h => by have := (com_mem hd hT hU hk2).1 h; omega
    simpa using this
  rw [h1, h2, List.nil_append]
theorem sub_iff {l : List Seg} (hd : Down l l.length) {T P : List Nat} (hT : IsState l T) (hP : IsState l P) : (∀ x ∈ P, x ∈ T) ↔ comLen T P = P.length := by
  rw [comLen_comm]
  have hle := (comLen_le P T).1
  constructor
  · intro h
    apply Nat.le_antisymm hle
    apply Nat.le_of_not_lt
    intro hlt
    have := (com_mem hd hP hT hlt).1 (h _ (List.getElem_mem hlt))
    omega
  · intro h x hx
    obtain ⟨k, hk, rfl⟩ := List.mem_iff_getElem.1 hx
    exact (com_mem hd hP hT hk).2 (by omega)
theorem less_nil {T U : List Nat} : lessT T U = [] ↔ ∀ x ∈ T, x ∈ U := by
  unfold lessT
  rw [List.filter_eq_nil_iff]
  simp
theorem needT_state {l : List Seg} {T P : List Nat} (hT : IsState l T) (hP : IsState l P) : IsState l (needT T P) := by
  unfold needT
  split
  · exact hT
  · exact hP
theorem less_self (T : List Nat) : lessT T T = [] := less_nil.2 fun _ h => h

end Go.Proofs.Ytcpiojliakgdlaa

/- Costs, needs one after the other, the cheapest need: no program. -/
namespace Go.Proofs.Ytcpiojliakgdlaa
open Go.RowKit

/-- Where the segment that a byte names stands. -/
def bSeek (l : List Seg) (b : UInt8) : Int := seek l ⟨#[b]⟩
def namedOk (l : List Seg) (bs : List UInt8) : Bool := bs.all (fun b => decide (0 ≤ bSeek l b))
def namedJs (l : List Seg) (bs : List UInt8) : List Nat := bs.map (fun b => (bSeek l b).toNat)
theorem namedOk_snoc (l : List Seg) (bs : List UInt8) (b : UInt8) : namedOk l (bs ++ [b]) = (namedOk l bs && decide (0 ≤ bSeek l b)) := by
  unfold namedOk
  rw [List.all_append]
  simp
theorem namedJs_snoc (l : List Seg) (bs : List UInt8) (b : UInt8) : namedJs l (bs ++ [b]) = namedJs l bs ++ [(bSeek l b).toNat] := by
  unfold namedJs
  rw [List.map_append]
  rfl
theorem namedOk_bad {l : List Seg} {bs : List UInt8} {b : UInt8} (h : b ∈ bs) (hb : bSeek l b < 0) : namedOk l bs = false := by
  unfold namedOk
  rw [List.all_eq_false]
  exact ⟨b, h, by simp; omega⟩
theorem namedJs_lt {l : List Seg} {bs : List UInt8} (h : namedOk l bs = true) : ∀ j ∈ namedJs l bs, j < l.length := by
  intro j hj
  obtain ⟨b, hb, rfl⟩ := List.mem_map.1 hj
  have h1 := List.all_eq_true.1 h b hb
  have h2 : 0 ≤ bSeek l b := by simpa using h1
  rcases seek_bd l ⟨#[b]⟩ with h3 | ⟨_, h3⟩
  · unfold bSeek at h2; omega
  · unfold bSeek at *; omega
theorem bSeek_byte {l : List Seg} (hv : validB l = true) {i : Nat} (hi : i < l.length) : bSeek l (byteOf l i) = (i : Int) := by
  have h := seek_nm hv hi
  have h1 : namesAt l [i] = ⟨#[byteOf l i]⟩ := by
    show (⟨([i].flatMap (nmAt l)).toArray⟩ : ByteArray) = _
    rw [List.flatMap_cons, (nmAt_one hv hi).1]
    rfl
  rw [h1] at h
  have h2 : indexB l ⟨#[byteOf l i]⟩ = seek l ⟨#[byteOf l i]⟩ := if_pos hv
  unfold bSeek
  omega
theorem named_names {l : List Seg} (hv : validB l = true) : ∀ js : List Nat, (∀ j ∈ js, j < l.length) → namedOk l (namesAt l js).data.toList = true ∧ namedJs l (namesAt l js).data.toList = js := by
  intro js hj
  rw [namesAt_map hv js hj]
  induction js with
  | nil => exact ⟨rfl, rfl⟩
  | cons j js ih =>
    obtain ⟨h1, h2⟩ := ih (fun x hx => hj x (List.mem_cons_of_mem _ hx))
    have h3 := bSeek_byte hv (hj j List.mem_cons_self)
    unfold namedOk at h1 ⊢
    unfold namedJs at h2 ⊢
    rw [List.map_cons, List.all_cons, List.map_cons, h1, h2, h3]
    simp

theorem szs_append (l : List Seg) : ∀ js ks, szs l (js ++ ks) = szs l js + szs l ks := by
  intro js ks
  unfold szs
  rw [List.map_append, List.sum_append]
theorem szs_bd {l : List Seg} (h : validB l = true) : ∀ js : List Nat, (∀ j ∈ js, j < l.length) → (js.length : Int) ≤ szs l js ∧ szs l js ≤ 99 * (js.length : Int)
  | [], _ => by simp [szs]
  | j :: js, hj => by
    have h1 := szs_bd h js (fun x hx => hj x (List.mem_cons_of_mem _ hx))
    have h2 := sizeAt_bd h (hj j List.mem_cons_self)
    have h3 : szs l (j :: js) = sizeAt l j + szs l js := rfl
    rw [h3, List.length_cons]
    omega

def costB (l : List Seg) (s : ByteArray) : Int := if validB l = true ∧ namedOk l s.data.toList = true then szs l (namedJs l s.data.toList) else -1
theorem costB_names {l : List Seg} (hv : validB l = true) {js : List Nat} (hj : ∀ j ∈ js, j < l.length) : costB l (namesAt l js) = szs l js := by
  obtain ⟨h1, h2⟩ := named_names hv js hj
  unfold costB
  rw [if_pos ⟨hv, h1⟩, h2]

def stT (l : List Seg) (s : ByteArray) : List Nat := (stIx l s).getD []
theorem stT_of {l : List Seg} {s : ByteArray} (h : stOk l s = true) : stIx l s = some (stT l s) := by
  unfold stOk at h
  unfold stT
  cases hx : stIx l s with
  | none => rw [hx] at h; cases h
  | some T => rfl
theorem stT_state {l : List Seg} {s : ByteArray} (h : stOk l s = true) : validB l = true ∧ IsState l (stT l s) ∧ namesAt l (stT l s) = s := stIx_some (stT_of h)
theorem stT_names {l : List Seg} {T : List Nat} (hv : validB l = true) (hT : IsState l T) : stOk l (namesAt l T) = true ∧ stT l (namesAt l T) = T := by
  have h := stIx_of hv hT
  unfold stOk stT
  rw [h]
  exact ⟨rfl, rfl⟩

def needOk (l : List Seg) (s t : ByteArray) : Bool := stOk l s && hasSeg l t
def afterIx (l : List Seg) (s t : ByteArray) : List Nat := if needOk l s t = true then needT (stT l s) (pathIx l t) else []
def loadIx (l : List Seg) (s t : ByteArray) : List Nat := if needOk l s t = true then loadT (stT l s) (pathIx l t) else []
def dropIx (l : List Seg) (s t : ByteArray) : List Nat := if needOk l s t = true then dropT (stT l s) (pathIx l t) else []
def loadCostB (l : List Seg) (s t : ByteArray) : Int := if needOk l s t = true then szs l (loadIx l s t) else -1
theorem needOk_parts {l : List Seg} {s t : ByteArray} (h : needOk l s t = true) : stOk l s = true ∧ 0 ≤ indexB l t := by
  unfold needOk at h
  rw [Bool.and_eq_true] at h
  exact ⟨h.1, of_decide_eq_true h.2⟩
theorem path_state {l : List Seg} {t : ByteArray} (h : 0 ≤ indexB l t) : IsState l (pathIx l t) := .inr ⟨_, index_lt h, rfl⟩
theorem less_lt {l : List Seg} {T U : List Nat} (h : ∀ j ∈ T, j < l.length) : ∀ j ∈ lessT T U, j < l.length := fun j hj => h j (List.mem_filter.1 hj).1
theorem state_len {l : List Seg} {T : List Nat} (h : IsState l T) : T.length ≤ l.length := by
  rcases h with rfl | ⟨i, hi, rfl⟩
  · exact Nat.zero_le _
  · have := rootPath_len l (i + 1) i
    unfold rp
    omega
theorem less_len (T U : List Nat) : (lessT T U).length ≤ T.length := List.length_filter_le _ _
theorem load_lt {l : List Seg} (hd : Down l l.length) {T P : List Nat} (hT : IsState l T) (hP : IsState l P) : ∀ j ∈ loadT T P, j < l.length := less_lt ((needT_state hT hP).lt hd)
theorem load_len {l : List Seg} {T P : List Nat} (hT : IsState l T) (hP : IsState l P) : (loadT T P).length ≤ l.length := Nat.le_trans (less_len _ _) (state_len (needT_state hT hP))

/-- Needs one after the other: the state behind them, and what is loaded. -/
def runT (l : List Seg) : List Nat → List Nat → List Nat
  | T, [] => T
  | T, j :: js => runT l (needT T (rp l j)) js
def runL (l : List Seg) : List Nat → List Nat → List Nat
  | _, [] => []
  | T, j :: js => loadT T (rp l j) ++ runL l (needT T (rp l j)) js
theorem runT_snoc (l : List Seg) : ∀ (js : List Nat) (T : List Nat) (j : Nat), runT l T (js ++ [j]) = needT (runT l T js) (rp l j)
  | [], _, _ => rfl
  | k :: js, T, j => runT_snoc l js (needT T (rp l k)) j
theorem runL_snoc (l : List Seg) : ∀ (js : List Nat) (T : List Nat) (j : Nat), runL l T (js ++ [j]) = runL l T js ++ loadT (runT l T js) (rp l j)
  | [], T, j => by simp [runL, runT]
  | k :: js, T, j => by
    show loadT T (rp l k) ++ runL l (needT T (rp l k)) (js ++ [j]) = loadT T (rp l k) ++ runL l (needT T (rp l k)) js ++ loadT (runT l (needT T (rp l k)) js) (rp l j)
    rw [runL_snoc l js _ j, List.append_assoc]
theorem runT_state {l : List Seg} : ∀ (js : List Nat) {T : List Nat}, IsState l T → (∀ j ∈ js, j < l.length) → IsState l (runT l T js)
  | [], _, h, _ => h
  | j :: js, _, h, hj => runT_state js (needT_state h (.inr ⟨j, hj j List.mem_cons_self, rfl⟩)) (fun x hx => hj x (List.mem_cons_of_mem _ hx))
theorem runL_lt {l : List Seg} (hd : Down l l.length) : ∀ (js : List Nat) {T : List Nat}, IsState l T → (∀ j ∈ js, j < l.length) → (∀ x ∈ runL l T js, x < l.length) ∧ (runL l T js).length ≤ l.length * js.length
  | [], _, _, _ => ⟨(fun x hx => by cases hx), Nat.zero_le _⟩
  | j :: js, T, h, hj => by
    have hP : IsState l (rp l j) := .inr ⟨j, hj j List.mem_cons_self, rfl⟩
    have h1 := runL_lt hd js (needT_state h hP) (fun x hx => hj x (List.mem_cons_of_mem _ hx))
    have h2 := load_lt hd h hP
    have h3 := load_len h hP
    have e : runL l T (j :: js) = loadT T (rp l j) ++ runL l (needT T (rp l j)) js := rfl
    rw [e]
    refine ⟨fun x hx => ?_, ?_⟩
    · rcases List.mem_append.1 hx with h4 | h4
      · exact h2 x h4
      · exact h1.1 x h4
    · rw [List.length_append, List.length_cons, Nat.mul_succ]
      omega
def allOkB (l : List Seg) (s u : ByteArray) : Bool := stOk l s && decide (u.size ≤ 60) && namedOk l u.data.toList
def allState (l : List Seg) (s u : ByteArray) : ByteArray := if allOkB l s u = true then namesAt l (runT l (stT l s) (namedJs l u.data.toList)) else ⟨#[]⟩
def allLoad (l : List Seg) (s u : ByteArray) : ByteArray := if allOkB l s u = true then namesAt l (runL l (stT l s) (namedJs l u.data.toList)) else ⟨#[]⟩

/-- The cheapest need among the first 'k'. -/
def nCost (l : List Seg) (T : List Nat) (i : Nat) : Int := szs l (loadT T (rp l i))
def cheapIx (l : List Seg) (T : List Nat) : Nat → Option Nat
  | 0 => none
  | k + 1 => if k ∈ T then cheapIx l T k else match cheapIx l T k with
    | none => some k
    | some j => if nCost l T k < nCost l T j then some k else some j
theorem cheapIx_lt (l : List Seg) (T : List Nat) : ∀ (k j : Nat), cheapIx l T k = some j → j < k
  | 0, _, h => by cases h
  | k + 1, j, h => by
    unfold cheapIx at h
    split at h
    · have := cheapIx_lt l T k j h; omega
    · split at h
      · injection h with h; omega
      · rename_i j' hj'
        have := cheapIx_lt l T k j' hj'
        split at h
        · injection h with h; omega
        · injection h with h; omega
theorem nCost_in {l : List Seg} (hd : Down l l.length) {T : List Nat} (hT : IsState l T) {i : Nat} (h : i ∈ T) : nCost l T i = 0 := by
  rcases hT with rfl | ⟨j, hj, rfl⟩
  · cases h
  · have hp := rp_prefix hd j hj i h
    have hsub : ∀ x ∈ rp l i, x ∈ rp l j := fun x hx => hp.subset hx
    unfold nCost loadT needT
    rw [if_pos hsub, less_self]
    rfl
theorem nCost_out {l : List Seg} (hv : validB l = true) {T : List Nat} (hT : IsState l T) {i : Nat} (hi : i < l.length) (h : i ∉ T) : 1 ≤ nCost l T i ∧ nCost l T i ≤ 792 := by
  have hd := (valid_all hv).1.down
  have hP : IsState l (rp l i) := .inr ⟨i, hi, rfl⟩
  obtain ⟨A, hA⟩ := rp_last hd i hi
  have hi' : i ∈ rp l i := by rw [hA]; simp
  have h1 := szs_bd hv _ (load_lt hd hT hP)
  have h2 := load_len hT hP
  have h3 := (valid_all hv).2.1
  have h4 : 0 < (loadT T (rp l i)).length := by
    apply List.length_pos_iff.2
    intro he
    have h5 := less_nil.1 he
    have h6 : needT T (rp l i) = rp l i := if_neg (fun hall => h (hall i hi'))
    rw [h6] at h5
    exact h (h5 i hi')
  unfold nCost
  omega
def cheapStr (l : List Seg) (s : ByteArray) : ByteArray := match (if stOk l s = true then cheapIx l (stT l s) l.length else none) with
  | none => ⟨#[]⟩
  | some j => namesAt l [j]
def cheapOk (l : List Seg) (s : ByteArray) : Bool := match (if stOk l s = true then cheapIx l (stT l s) l.length else none) with
  | none => false
  | some _ => true
theorem loadCost_at {l : List Seg} {s : ByteArray} (h : stOk l s = true) {i : Nat} (hi : i < l.length) : loadCostB l s (namesAt l [i]) = nCost l (stT l s) i := by
  obtain ⟨hv, _, _⟩ := stT_state h
  have h1 := seek_nm hv hi
  have h2 : hasSeg l (namesAt l [i]) = true := decide_eq_true (by omega)
  have h3 : needOk l s (namesAt l [i]) = true := by unfold needOk; rw [h, h2]; rfl
  unfold loadCostB loadIx
  rw [if_pos h3, if_pos h3]
  unfold pathIx
  rw [h1, Int.toNat_natCast]
  rfl

end Go.Proofs.Ytcpiojliakgdlaa
/- The model's side of loading: states and needs. -/
namespace Go.Proofs.Ytcpiojliakgdlaa
open Go.RowKit

theorem ret_three {a b c d : ByteArray} {x y : Bool} (h : a = c) (k : b = d) (e : x = y) : Ending.returned (.tuple #[.string a, .string b, .bool x]) = .returned (.tuple #[.string c, .string d, .bool y]) := by rw [h, k, e]
theorem ret_pair {a b c d : ByteArray} (h : a = c) (k : b = d) : Ending.returned (.tuple #[.string a, .string b]) = .returned (.tuple #[.string c, .string d]) := by rw [h, k]
theorem str_empty {s : ByteArray} (h : s.size = 0) : s = ⟨#[]⟩ := by
  apply ByteArray.ext
  apply Array.eq_empty_of_size_eq_zero
  exact h
theorem toList_ne {s : ByteArray} (h : 0 < s.size) : s.toList ≠ [] := by
  rw [ByteArray.toList_eq]
  intro e
  have h2 : s.data.toList.length = s.size := by simp
  rw [e, List.length_nil] at h2
  omega

set_option maxRecDepth 100000 in
set_option maxHeartbeats 400000 in
theorem specState_any (A : Option Addr) (l : List Seg) (c : Nat) (s : ByteArray) (w : World) (hw : Segs w w.heap.size A l) (hl : l.length ≤ 1048576) (hn : Short l) (hs : s.size ≤ 1048576) :
    Calls Try.prog 36 #[.slice A l.length c, .string s] w fun e w' => e = .returned (.bool (stOk l s)) ∧ Below w.heap.size w w' := by
  have HW : Hid (Segs w w.heap.size A l) := hw
  clear hw
  by_cases h0 : s.size = 0
  · have HF := Lib.hid (stOk_empty (l := l) h0)
    obtain rfl := str_empty h0
    clear h0
    go_enter Try.func36, Try.ntmps36
    go_wp2_with fail
    refine (specTreeValid_any _ _ _ _ HW.out hl hn).mono ?_
    rintro e w1 ⟨rfl, hb1⟩
    go_wp2
    go_ret
    exact ⟨ret_bool HF.out.symm, hb1⟩
  · have hp : 0 < s.size := by omega
    have HF := Lib.hid (stOk_last (l := l) hp)
    have h1 : s.toList ≠ [] := toList_ne hp
    have h2 : (s.toList == []) = false := by simp [h1]
    have h3 : (s.size : Int) - 1 = ((s.size - 1 : Nat) : Int) := by omega
    go_enter Try.func36, Try.ntmps36
    go_wp2_with fail
    refine (specPath_any _ _ _ _ _ HW.out hl hn).mono ?_
    generalize pathStr l (s.extract (s.size - 1) s.size) = p at *
    generalize hasSeg l (s.extract (s.size - 1) s.size) = q at *
    rintro e w1 ⟨rfl, hb1⟩
    clear h1 h2 h3
    cases q with
    | false =>
      go_wp2
      go_ret
      exact ⟨ret_bool (by rw [HF.out]; rfl), hb1⟩
    | true =>
      have HB : Hid (sameB p s = (p.toList == s.toList)) := rfl
      generalize hx : (p.toList == s.toList) = x at *
      go_wp2
      go_ret
      exact ⟨ret_bool (by rw [HF.out, HB.out]; rfl), hb1⟩

/-- The path of a segment, and whether all is valid. -/
theorem needOk_comm (l : List Seg) (s t : ByteArray) : needOk l s t = (hasSeg l t && stOk l s) := by
  unfold needOk
  rw [Bool.and_comm]

set_option maxRecDepth 100000 in
set_option maxHeartbeats 400000 in
theorem l3Path_any (A : Option Addr) (l : List Seg) (c : Nat) (s t : ByteArray) (w : World) (hw : Segs w w.heap.size A l) (hl : l.length ≤ 1048576) (hn : Short l) (hs : s.size ≤ 1048576) :
    Calls Try.prog 65 #[.slice A l.length c, .string s, .string t] w fun e w' => e = .returned (.tuple #[.string (pathStr l t), .bool (needOk l s t)]) ∧ Below w.heap.size w w' := by
  have HW : Hid (Segs w w.heap.size A l) := hw
  have HF := Lib.hid (needOk_comm l s t)
  clear hw
  cases hq : hasSeg l t with
  | false =>
    go_enter Try.func65, Try.ntmps65
    go_wp2_with fail
    refine (specPath_any _ _ _ _ _ HW.out hl hn).mono ?_
    rw [hq]
    rintro e w1 ⟨rfl, hb1⟩
    have HQ := Lib.hid hq
    clear hq
    go_wp2
    go_ret2
    exact ⟨ret_two rfl (by rw [HF.out, HQ.out]; rfl), hb1⟩
  | true =>
    go_enter Try.func65, Try.ntmps65
    go_wp2_with fail
    refine (specPath_any _ _ _ _ _ HW.out hl hn).mono ?_
    rw [hq]
    rintro e w1 ⟨rfl, hb1⟩
    have HQ := Lib.hid hq
    clear hq
    go_wp2_with fail
    refine (specState_any _ _ _ _ _ ((HW.out.below hb1).more hb1.size) hl hn hs).mono ?_
    rintro e w2 ⟨rfl, hb2⟩
    have B2 := hb1.trans (hb2.mono hb1.size)
    clear hb1 hb2
    go_wp2
    go_ret2
    exact ⟨ret_two rfl (by rw [HF.out, HQ.out]; rfl), B2⟩

theorem drop_names {l : List Seg} (hv : validB l = true) {P : List Nat} (hP : ∀ j ∈ P, j < l.length) (n : Nat) : (namesAt l P).extract n (namesAt l P).size = namesAt l (P.drop n) := by
  apply ByteArray.ext
  apply Array.ext'
  have h1 := namesAt_map hv P hP
  have h2 := namesAt_map hv (P.drop n) (fun j hj => hP j (List.mem_of_mem_drop hj))
  rw [h2, List.map_drop, ← h1]
  simp [ByteArray.data_extract]
  exact List.take_of_length_le (by simp)
theorem names_size {l : List Seg} (hv : validB l = true) {P : List Nat} (hP : ∀ j ∈ P, j < l.length) : (namesAt l P).size = P.length := by
  have h1 := congrArg List.length (namesAt_map hv P hP)
  simpa using h1
theorem com_names {l : List Seg} (hv : validB l = true) {T P : List Nat} (hT : ∀ j ∈ T, j < l.length) (hP : ∀ j ∈ P, j < l.length) : comBytes (namesAt l T) (namesAt l P) = comLen T P := by
  unfold comBytes
  rw [namesAt_map hv T hT, namesAt_map hv P hP]
  exact comLen_map _ _ _ (fun a ha b hb he => byteOf_inj hv (hT a ha) (hP b hb) he)

set_option maxRecDepth 100000 in
set_option maxHeartbeats 1000000 in
theorem l3Need_any (l : List Seg) (T P : List Nat) (w : World) (hv : validB l = true) (hT : IsState l T) (hP : IsState l P) :
    Calls Try.prog 66 #[.string (namesAt l T), .string (namesAt l P)] w fun e w' => e = .returned (.tuple #[.string (namesAt l (needT T P)), .string (namesAt l (loadT T P))]) ∧ Below w.heap.size w w' := by
  have hd := (valid_all hv).1.down
  have hlT := hT.lt hd
  have hlP := hP.lt hd
  have h8 := (valid_all hv).2.1
  have hsT := names_size hv hlT
  have hsP := names_size hv hlP
  have hzT := state_len hT
  have hzP := state_len hP
  have HC : Hid (comBytes (namesAt l T) (namesAt l P) = comLen T P) := com_names hv hlT hlP
  have HCM := Lib.hid (fun W => l1Common_any (namesAt l T) (namesAt l P) W (by omega) (by omega))
  have hle := (comLen_le T P).2
  by_cases he : comLen T P = P.length
  · have hsub := (sub_iff hd hT hP).2 he
    have HE : Hid (namesAt l (needT T P) = namesAt l T ∧ namesAt l (loadT T P) = ⟨#[]⟩) := by
      have h1 : needT T P = T := if_pos hsub
      refine ⟨by rw [h1], ?_⟩
      unfold loadT
      rw [h1, less_self]
      rfl
    have ht : ((comLen T P : Int) == ((namesAt l P).size : Int)) = true := by rw [beq_iff_eq]; omega
    generalize namesAt l T = sT at *
    generalize namesAt l P = sP at *
    generalize comLen T P = n at *
    clear hd hlT hlP h8 hsT hzT hzP hle he hsub hsP
    go_enter Try.func66, Try.ntmps66
    go_wp2_with fail
    refine (HCM.out _).mono ?_
    rw [HC.out]
    rintro e w1 ⟨rfl, hb1⟩
    go_wp2
    go_ret2
    exact ⟨ret_pair HE.out.1.symm HE.out.2.symm, hb1⟩
  · have hsub : ¬ ∀ x ∈ P, x ∈ T := fun h => he ((sub_iff hd hT hP).1 h)
    have HE : Hid (namesAt l (needT T P) = namesAt l P ∧ namesAt l (loadT T P) = (namesAt l P).extract (comLen T P) (namesAt l P).size) := by
      have h1 : needT T P = P := if_neg hsub
      refine ⟨by rw [h1], ?_⟩
      unfold loadT
      rw [h1, less_drop hd hP hT, comLen_comm P T, drop_names hv hlP]
    have ht : ((comLen T P : Int) == ((namesAt l P).size : Int)) = false := by rw [beq_eq_false_iff_ne]; omega
    have hb0 : (0 : Int) ≤ (comLen T P : Int) := Int.natCast_nonneg _
    have hb1 : (comLen T P : Int) ≤ ((namesAt l P).size : Int) := by omega
    have hb2 : ((namesAt l P).size : Int) ≤ 8 := by omega
    generalize namesAt l T = sT at *
    generalize namesAt l P = sP at *
    generalize comLen T P = n at *
    clear hd hlT hlP h8 hsT hzT hzP hle he hsub hsP
    go_enter Try.func66, Try.ntmps66
    go_wp2_with fail
    refine (HCM.out _).mono ?_
    rw [HC.out]
    rintro e w1 ⟨rfl, hb1⟩
    go_wp2
    go_quiet (fail)
    go_wp2
    go_ret2
    exact ⟨ret_pair HE.out.1.symm HE.out.2.symm, below_drewN hb1 _⟩

end Go.Proofs.Ytcpiojliakgdlaa

/- The model's NeedOf, DropsOf, CostOf, LoadCost. -/
namespace Go.Proofs.Ytcpiojliakgdlaa
open Go.RowKit

theorem need_states {l : List Seg} {s t : ByteArray} (h : needOk l s t = true) : validB l = true ∧ IsState l (stT l s) ∧ namesAt l (stT l s) = s ∧ IsState l (pathIx l t) ∧ namesAt l (pathIx l t) = pathStr l t := by
  obtain ⟨h1, h2⟩ := needOk_parts h
  obtain ⟨a, b, c⟩ := stT_state h1
  exact ⟨a, b, c, path_state h2, (pathStr_ix h2).symm⟩

def afterStr (l : List Seg) (s t : ByteArray) : ByteArray := namesAt l (afterIx l s t)
def loadStr (l : List Seg) (s t : ByteArray) : ByteArray := namesAt l (loadIx l s t)
def dropStr (l : List Seg) (s t : ByteArray) : ByteArray := namesAt l (dropIx l s t)

set_option maxRecDepth 100000 in
set_option maxHeartbeats 400000 in
theorem specNeed_any (A : Option Addr) (l : List Seg) (c : Nat) (s t : ByteArray) (w : World) (hw : Segs w w.heap.size A l) (hl : l.length ≤ 1048576) (hn : Short l) (hs : s.size ≤ 1048576) :
    Calls Try.prog 14 #[.slice A l.length c, .string s, .string t] w fun e w' => e = .returned (.tuple #[.string (afterStr l s t), .string (loadStr l s t), .bool (needOk l s t)]) ∧ Below w.heap.size w w' := by
  have HW : Hid (Segs w w.heap.size A l) := hw
  clear hw
  cases hq : needOk l s t with
  | false =>
    have HE : Hid (afterStr l s t = ⟨#[]⟩ ∧ loadStr l s t = ⟨#[]⟩) := by
      unfold afterStr loadStr afterIx loadIx
      rw [if_neg (by rw [hq]; decide), if_neg (by rw [hq]; decide)]
      exact ⟨rfl, rfl⟩
    go_enter Try.func14, Try.ntmps14
    go_wp2_with fail
    refine (l3Path_any _ _ _ _ _ _ HW.out hl hn hs).mono ?_
    rw [hq]
    rintro e w1 ⟨rfl, hb1⟩
    clear hq
    go_wp2
    go_ret3
    exact ⟨ret_three HE.out.1.symm HE.out.2.symm rfl, hb1⟩
  | true =>
    obtain ⟨hv, hT, hTn, hP, hPn⟩ := need_states hq
    have HE : Hid (afterStr l s t = namesAt l (needT (stT l s) (pathIx l t)) ∧ loadStr l s t = namesAt l (loadT (stT l s) (pathIx l t))) := by
      unfold afterStr loadStr afterIx loadIx
      rw [if_pos hq, if_pos hq]
      exact ⟨rfl, rfl⟩
    have HC := Lib.hid (fun W => l3Need_any l (stT l s) (pathIx l t) W hv hT hP)
    rw [hTn, hPn] at HC
    clear hTn hPn hT hP hv
    go_enter Try.func14, Try.ntmps14
    go_wp2_with fail
    refine (l3Path_any _ _ _ _ _ _ HW.out hl hn hs).mono ?_
    rw [hq]
    rintro e w1 ⟨rfl, hb1⟩
    clear hq
    go_wp2_with fail
    refine (HC.out _).mono ?_
    rintro e w2 ⟨rfl, hb2⟩
    have B2 := hb1.trans (hb2.mono hb1.size)
    clear hb1 hb2
    go_wp2
    go_ret3
    exact ⟨ret_three HE.out.1.symm HE.out.2.symm rfl, B2⟩

theorem named_take {l : List Seg} (s : ByteArray) {k : Nat} (h : k < s.size) : namedOk l (s.data.toList.take (k + 1)) = (namedOk l (s.data.toList.take k) && decide (0 ≤ bSeek l s[k])) ∧ namedJs l (s.data.toList.take (k + 1)) = namedJs l (s.data.toList.take k) ++ [(bSeek l s[k]).toNat] := by
  have e : s.data.toList.take (k + 1) = s.data.toList.take k ++ [s[k]] := by
    rw [List.take_succ_eq_append_getElem (by simpa using h)]
    rfl
  rw [e, namedOk_snoc, namedJs_snoc]
  exact ⟨rfl, rfl⟩
theorem one_byte (s : ByteArray) {k : Nat} (h : k < s.size) : s.extract k (k + 1) = ⟨#[s[k]]⟩ := by
  apply ByteArray.ext
  apply Array.ext'
  have : s.data.toList.drop k = s[k] :: s.data.toList.drop (k + 1) := List.drop_eq_getElem_cons (by simpa using h)
  simp [ByteArray.data_extract, this]
theorem bSeek_bd (l : List Seg) (b : UInt8) : bSeek l b = -1 ∨ (0 ≤ bSeek l b ∧ bSeek l b < l.length) := seek_bd l _

set_option maxRecDepth 100000 in
set_option maxHeartbeats 1000000 in
theorem specCost_any (A : Option Addr) (l : List Seg) (c : Nat) (s : ByteArray) (w : World) (hw : Segs w w.heap.size A l) (hl : l.length ≤ 1048576) (hn : Short l) (hs : s.size ≤ 1048576) :
    Calls Try.prog 28 #[.slice A l.length c, .string s] w fun e w' => e = .returned (.int .i64 (costB l s)) ∧ Below w.heap.size w w' := by
  have HW : Hid (Segs w w.heap.size A l) := hw
  clear hw
  cases hv : validB l with
  | false =>
    have HF : Hid (costB l s = -1) := if_neg (by rw [hv]; simp)
    have HI : Hid (∀ t, indexB l t = -1) := fun t => if_neg (by rw [hv]; decide)
    by_cases h0 : s.size = 0
    · go_enter Try.func28, Try.ntmps28
      go_wp2
      go_loopw [5, 10] (fun o i wr => o = .int .i64 0 ∧ i = .int .i64 0 ∧ Below w.heap.size w wr) (fun _ _ _ => 0)
      case atStart => exact ⟨rfl, rfl, Below.refl _ _⟩
      case round =>
        obtain ⟨rfl, rfl, hb⟩ := hrel
        go_wp2_with fail
        refine (specTreeValid_any _ _ _ _ ((HW.out.below hb).more hb.size) hl hn).mono ?_
        rw [hv]
        rintro e w1 ⟨rfl, hb1⟩
        have B1 := hb.trans (hb1.mono hb.size)
        clear hb hb1 hv
        go_wp2
        go_ret
        exact ⟨ret_int HF.out.symm, B1⟩
    · have hp : 0 < s.size := by omega
      clear h0
      go_enter Try.func28, Try.ntmps28
      go_wp2
      go_loopw [5, 10] (fun o i wr => o = .int .i64 0 ∧ i = .int .i64 0 ∧ Below w.heap.size w wr) (fun _ _ _ => 0)
      case atStart => exact ⟨rfl, rfl, Below.refl _ _⟩
      case round =>
        obtain ⟨rfl, rfl, hb⟩ := hrel
        go_wp2_with fail
        refine (l1Index_any _ _ _ _ _ ((HW.out.below hb).more hb.size) hl hn).mono ?_
        rw [HI.out]
        rintro e w1 ⟨rfl, hb1⟩
        have B1 := hb.trans (hb1.mono hb.size)
        clear hb hb1 hv
        go_wp2
        go_ret
        exact ⟨ret_int HF.out.symm, B1⟩
  | true =>
    have HV := Lib.hid hv
    have HI : Hid (∀ b, indexB l ⟨#[b]⟩ = bSeek l b) := fun b => if_pos hv
    clear hv
    go_enter Try.func28, Try.ntmps28
    go_wp2
    go_loopw [5, 10] (fun o i wr => ∃ k : Nat, k ≤ s.size ∧ i = .int .i64 k ∧ o = .int .i64 (szs l (namedJs l (s.data.toList.take k))) ∧ Hid (namedOk l (s.data.toList.take k) = true) ∧ Below w.heap.size w wr)
      (fun _ i _ => s.size - (intOf i).toNat)
    case atStart => exact ⟨0, Nat.zero_le _, rfl, rfl, rfl, Below.refl _ _⟩
    case round =>
      obtain ⟨k, hk, rfl, rfl, HK, hb⟩ := hrel
      have hk0 : (0 : Int) ≤ (k : Int) := Int.natCast_nonneg _
      by_cases hlt : k < s.size
      · have hlt' : (k : Int) < (s.size : Int) := by omega
        have h1 : (k : Int) + 1 ≤ (s.size : Int) := by omega
        obtain ⟨t1, t2⟩ := named_take (l := l) s hlt
        have HM : Hid (s[k] ∈ s.data.toList) := by
          show s.data.toList[k]'(by simpa using hlt) ∈ _
          exact List.getElem_mem _
        have HX := Lib.hid (one_byte s hlt)
        have HT1 := Lib.hid t1
        have HT2 := Lib.hid t2
        have hbd := bSeek_bd l s[k]
        clear t1 t2
        generalize s[k] = b at *
        go_wp2_with fail
        refine (l1Index_any _ _ _ _ _ ((HW.out.below hb).more hb.size) hl hn).mono ?_
        rw [HX.out, HI.out]
        rcases hbd with hbd | ⟨hb0, hb1⟩
        · have HF : Hid (costB l s = -1) := if_neg (fun h => by rw [namedOk_bad HM.out (by omega)] at h; cases h.2)
          rw [hbd]
          rintro e w1 ⟨rfl, hb1⟩
          have B1 := hb.trans (hb1.mono hb.size)
          clear hb hb1 hbd
          go_wp2
          go_ret
          exact ⟨ret_int HF.out.symm, B1⟩
        · obtain ⟨j, hj⟩ := Int.eq_ofNat_of_zero_le hb0
          have hjl : j < l.length := by omega
          have HK1 : Hid (namedOk l (s.data.toList.take (k + 1)) = true) := by
            show _ = _
            rw [HT1.out, HK.out, decide_eq_true hb0]
            rfl
          have HS : Hid (szs l (namedJs l (s.data.toList.take (k + 1))) = szs l (namedJs l (s.data.toList.take k)) + sizeAt l j) := by
            show _ = _
            rw [HT2.out, szs_snoc, hj, Int.toNat_natCast]
          have hsb := szs_bd HV.out _ (namedJs_lt HK.out)
          have hln : (namedJs l (s.data.toList.take k)).length ≤ k := by
            unfold namedJs
            rw [List.length_map, List.length_take]
            omega
          have hs0 : 0 ≤ szs l (namedJs l (s.data.toList.take k)) := by omega
          have hs1 : szs l (namedJs l (s.data.toList.take k)) ≤ 103809024 := by omega
          have hz := sizeAt_bd HV.out hjl
          obtain ⟨b', o', rfl, hB, hc⟩ := HW.out (by omega)
          obtain ⟨c0, c1, c2⟩ := hc j l[j] (List.getElem?_eq_getElem hjl)
          clear hc c0 c2 hsb hln
          rw [← hb.cell hB] at c1
          rw [← sizeAt_of hjl] at c1
          rw [hj]
          generalize szs l (namedJs l (s.data.toList.take k)) = S0 at *
          generalize sizeAt l j = z at *
          rintro e w1 ⟨rfl, hb1'⟩
          have B1 := hb.trans (hb1'.mono hb.size)
          have c1' : w1.cell? ⟨b', o' + j * 3 + 1, none⟩ = some (.int .i64 z) := (hb1'.cell (p := ⟨b', o' + j * 3 + 1, none⟩) (Nat.lt_of_lt_of_le hB hb.size)).trans c1
          have hj0 : (0 : Int) ≤ (j : Int) := Int.natCast_nonneg _
          have hj1 : (j : Int) < (l.length : Int) := by omega
          clear hb hb1' c1 hj HX hb0 hb1
          go_wp2
          go_roundw
          case rel => exact ⟨k + 1, by omega, by go_num, by rw [HS.out], HK1, B1⟩
          case measure => simp [intOf]; omega
      · obtain rfl : k = s.size := by omega
        have HF : Hid (costB l s = szs l (namedJs l (s.data.toList.take s.size))) := by
          have e : s.data.toList.take s.size = s.data.toList := List.take_of_length_le (by simp)
          have hk := HK.out
          show _ = _
          rw [e] at hk ⊢
          exact if_pos ⟨HV.out, hk⟩
        have HT : Hid (validB l = true) := HV.out
        go_wp2_with fail
        refine (specTreeValid_any _ _ _ _ ((HW.out.below hb).more hb.size) hl hn).mono ?_
        rw [HT.out]
        rintro e w1 ⟨rfl, hb1⟩
        have B1 := hb.trans (hb1.mono hb.size)
        clear hb hb1
        go_wp2
        go_ret
        exact ⟨ret_int HF.out.symm, B1⟩

theorem loadStr_lt {l : List Seg} {s t : ByteArray} (h : needOk l s t = true) : ∀ j ∈ loadIx l s t, j < l.length := by
  obtain ⟨hv, hT, _, hP, _⟩ := need_states h
  unfold loadIx
  rw [if_pos h]
  exact load_lt (valid_all hv).1.down hT hP
theorem loadStr_len {l : List Seg} {s t : ByteArray} : (loadStr l s t).size ≤ 8 := by
  unfold loadStr
  by_cases h : needOk l s t = true
  · obtain ⟨hv, hT, _, hP, _⟩ := need_states h
    rw [names_size hv (loadStr_lt h)]
    have h1 := (valid_all hv).2.1
    unfold loadIx
    rw [if_pos h]
    have := load_len hT hP
    omega
  · unfold loadIx
    rw [if_neg h]
    exact Nat.zero_le _
theorem loadCost_eq {l : List Seg} {s t : ByteArray} (h : needOk l s t = true) : costB l (loadStr l s t) = loadCostB l s t := by
  obtain ⟨hv, _⟩ := need_states h
  unfold loadCostB loadStr
  rw [if_pos h, costB_names hv (loadStr_lt h)]

set_option maxRecDepth 100000 in
set_option maxHeartbeats 400000 in
theorem specLoadCost_any (A : Option Addr) (l : List Seg) (c : Nat) (s t : ByteArray) (w : World) (hw : Segs w w.heap.size A l) (hl : l.length ≤ 1048576) (hn : Short l) (hs : s.size ≤ 1048576) :
    Calls Try.prog 18 #[.slice A l.length c, .string s, .string t] w fun e w' => e = .returned (.int .i64 (loadCostB l s t)) ∧ Below w.heap.size w w' := by
  have HW : Hid (Segs w w.heap.size A l) := hw
  clear hw
  cases hq : needOk l s t with
  | false =>
    have HE : Hid (loadCostB l s t = -1) := if_neg (by rw [hq]; decide)
    go_enter Try.func18, Try.ntmps18
    go_wp2_with fail
    refine (specNeed_any _ _ _ _ _ _ HW.out hl hn hs).mono ?_
    rw [hq]
    rintro e w1 ⟨rfl, hb1⟩
    clear hq
    go_wp2
    go_ret
    exact ⟨ret_int HE.out.symm, hb1⟩
  | true =>
    have HE := Lib.hid (loadCost_eq hq)
    have hz : (loadStr l s t).size ≤ 1048576 := Nat.le_trans loadStr_len (by decide)
    go_enter Try.func18, Try.ntmps18
    go_wp2_with fail
    refine (specNeed_any _ _ _ _ _ _ HW.out hl hn hs).mono ?_
    rw [hq]
    rintro e w1 ⟨rfl, hb1⟩
    clear hq
    go_wp2_with fail
    refine (specCost_any _ _ _ _ _ ((HW.out.below hb1).more hb1.size) hl hn hz).mono ?_
    rw [HE.out]
    rintro e w2 ⟨rfl, hb2⟩
    have B2 := hb1.trans (hb2.mono hb1.size)
    clear hb1 hb2
    go_wp2
    go_ret
    exact ⟨rfl, B2⟩

end Go.Proofs.Ytcpiojliakgdlaa
