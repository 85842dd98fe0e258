/- Segments that lie together, and over an address. No program. -/
import Derived.Test.YtdbddockmdkmeaaDoorEp
import Derived.Test.YtdbddockmdkmeaaDoorCs
namespace Go.Proofs.YtdbddockmdkmeaaDoor
open Go.RowKit

theorem com_common {l : List Seg} {s t : ByteArray} (hs : 0 ≤ indexB l s) (ht : 0 ≤ indexB l t) : ∃ v, comStr l s t = namesAt l [v] ∧ v ∈ pathIx l s ∧ v ∈ pathIx l t := by
  have h0 := comCount_pos hs ht
  obtain ⟨v, h1, h2⟩ := comLen_get (pathIx l s) (pathIx l t) (comCount l s t - 1) (by unfold comCount at h0 ⊢; omega)
  refine ⟨v, ?_, List.mem_of_getElem? h1, List.mem_of_getElem? h2⟩
  unfold comStr
  rw [if_neg (by omega)]
  simp [List.getD, h1]
theorem index_lt {l : List Seg} {s : ByteArray} (h : 0 ≤ indexB l s) : (indexB l s).toNat < l.length := by
  rcases indexB_bd l s with a | ⟨_, a⟩ <;> omega
theorem index_nm {l : List Seg} {s : ByteArray} (h : 0 ≤ indexB l s) : namesAt l [(indexB l s).toNat] = s := by
  have hv := index_valid h
  have h1 : indexB l s = seek l s := if_pos hv
  obtain ⟨x, hx, hn⟩ := seek_name (l := l) (s := s) (j := (indexB l s).toNat) (by omega)
  have hlt := index_lt h
  rw [← List.nil_append [(indexB l s).toNat], namesAt_snoc [] hlt]
  rw [List.getElem?_eq_getElem hlt] at hx
  injection hx with hx
  rw [hx, hn]
  apply ByteArray.ext
  simp [namesAt]
theorem namesAt_one_inj {l : List Seg} (hv : validB l = true) {u v : Nat} (hu : u < l.length) (hv' : v < l.length) (h : namesAt l [u] = namesAt l [v]) : u = v := by
  have h1 := namesAt_map hv [u] (fun j hj => by rw [List.mem_singleton.1 hj]; exact hu)
  have h2 := namesAt_map hv [v] (fun j hj => by rw [List.mem_singleton.1 hj]; exact hv')
  rw [h, h2] at h1
  exact (byteOf_inj hv hv' hu (by simpa using h1)).symm
/-- The common name is the first one's: it lies on the other one's path. -/
theorem lie_left {l : List Seg} {s t : ByteArray} (hs : 0 ≤ indexB l s) (ht : 0 ≤ indexB l t) : comStr l s t = s ↔ (indexB l s).toNat ∈ pathIx l t := by
  have hv := index_valid hs
  have hd := (valid_all hv).1.down
  have hi := index_lt hs
  have hj := index_lt ht
  constructor
  · intro h
    obtain ⟨v, h1, h2, h3⟩ := com_common hs ht
    have hvl : v < l.length := Nat.lt_of_le_of_lt (rp_le hd _ hi v h2) hi
    have he := namesAt_one_inj hv hvl hi (by rw [← h1, h, index_nm hs])
    rw [← he]; exact h3
  · intro h
    have hp := rp_prefix hd _ hj _ h
    have hc := com_of hd hi hj (T := pathIx l s) (List.prefix_refl _) (fun v hv => hp.subset hv) (.inl rfl)
    have := com_last hs ht (T := pathIx l s) (List.prefix_refl _) hc
    rw [this]
    obtain ⟨A, hA⟩ := rp_last hd _ hi
    have e : pathIx l s = A ++ [(indexB l s).toNat] := hA
    rw [e]
    unfold lastNm
    rw [List.getLast?_concat]
    exact index_nm hs
theorem lie_right {l : List Seg} {s t : ByteArray} (hs : 0 ≤ indexB l s) (ht : 0 ≤ indexB l t) : comStr l s t = t ↔ (indexB l t).toNat ∈ pathIx l s := by
  have hv := index_valid hs
  have hd := (valid_all hv).1.down
  have hi := index_lt hs
  have hj := index_lt ht
  constructor
  · intro h
    obtain ⟨v, h1, h2, h3⟩ := com_common hs ht
    have hvl : v < l.length := Nat.lt_of_le_of_lt (rp_le hd _ hi v h2) hi
    have he := namesAt_one_inj hv hvl hj (by rw [← h1, h, index_nm ht])
    rw [← he]; exact h2
  · intro h
    have hp := rp_prefix hd _ hi _ h
    have hp' : pathIx l t <+: pathIx l s := hp
    have hend : pathIx l t = rp l (indexB l s).toNat ∨ ∃ x, pathIx l t ++ [x] <+: rp l (indexB l s).toNat ∧ x ∉ rp l (indexB l t).toNat := by
      obtain ⟨r, hr⟩ := hp'
      cases r with
      | nil => left; rw [List.append_nil] at hr; exact hr
      | cons x r =>
        right
        refine ⟨x, ⟨r, by rw [List.append_assoc]; exact hr⟩, fun hx => ?_⟩
        have ha := rp_asc hd _ hi
        have hr' : rp l (indexB l s).toNat = pathIx l t ++ x :: r := hr.symm
        rw [hr', List.pairwise_append] at ha
        have := ha.2.2 x hx x List.mem_cons_self
        omega
    have hc := com_of hd hi hj (T := pathIx l t) hp' (fun v hv => hv) hend
    have := com_last hs ht (T := pathIx l t) hp' hc
    rw [this]
    obtain ⟨A, hA⟩ := rp_last hd _ hj
    have e : pathIx l t = A ++ [(indexB l t).toNat] := hA
    rw [e]
    unfold lastNm
    rw [List.getLast?_concat]
    exact index_nm ht

/-- Two segments of which one is on the other one's path. -/
def lieB (l : List Seg) (s t : ByteArray) : Bool := comOk l s t && (decide ((indexB l s).toNat ∈ pathIx l t) || decide ((indexB l t).toNat ∈ pathIx l s))

/-- Whether a segment has an address. -/
def holdsB (l : List Seg) (a : Int) (i : Nat) : Bool := decide (begAt l i ≤ a) && decide (a < endAt l i)
def overIx (l : List Seg) (a : Int) (k : Nat) : List Nat := (List.range k).filter (holdsB l a)
theorem overIx_succ (l : List Seg) (a : Int) (k : Nat) : overIx l a (k + 1) = overIx l a k ++ if holdsB l a k = true then [k] else [] := by
  unfold overIx
  rw [List.range_succ, List.filter_append]
  by_cases h : holdsB l a k = true <;> simp [h]
theorem overIx_lt {l : List Seg} {a : Int} {k j : Nat} (h : j ∈ overIx l a k) : j < k := List.mem_range.1 (List.mem_filter.1 h).1
theorem overIx_len (l : List Seg) (a : Int) (k : Nat) : (overIx l a k).length ≤ k := by
  have := List.length_filter_le (holdsB l a) (List.range k)
  simpa [overIx] using this
theorem over_some {l : List Seg} (h : validB l = true) {a : Int} (ha : 0 ≤ a) : ∀ i, i < l.length → a < endAt l i → ∃ j, j < l.length ∧ holdsB l a j = true :=
  rp_ind (valid_all h).1.down (fun i hi hp he => ⟨i, hi, by unfold holdsB; rw [begAt_root hp, decide_eq_true ha, decide_eq_true he]; rfl⟩) (fun i p hi hpi hp ih he => by
    by_cases hb : begAt l i ≤ a
    · exact ⟨i, hi, by unfold holdsB; rw [decide_eq_true hb, decide_eq_true he]; rfl⟩
    · rw [begAt_step (valid_all h).1.down hi hp] at hb
      exact ih (by omega))
theorem over_iff {l : List Seg} (h : validB l = true) (a : Int) : overIx l a l.length ≠ [] ↔ (0 ≤ a ∧ a < roomTo l l.length) := by
  constructor
  · intro hne
    obtain ⟨j, hj⟩ := List.exists_mem_of_ne_nil _ hne
    have hl := overIx_lt hj
    have h2 := (List.mem_filter.1 hj).2
    unfold holdsB at h2
    simp only [Bool.and_eq_true, decide_eq_true_eq] at h2
    have h3 := place_small h hl
    have h4 := roomTo_le l l.length j hl
    omega
  · rintro ⟨h1, h2⟩
    have h0 := (valid_all h).2.2
    have h3 := lastIx_room h (l.length - 1) (by omega)
    have h4 := lastIx_le l (l.length - 1)
    rw [show l.length - 1 + 1 = l.length by omega] at h3
    obtain ⟨j, hj, hh⟩ := over_some h h1 (lastIx l (l.length - 1)) (by omega) (by omega)
    exact List.ne_nil_of_mem (List.mem_filter.2 ⟨List.mem_range.2 hj, hh⟩)
def overStr (l : List Seg) (a : Int) : ByteArray := if validB l = true then namesAt l (overIx l a l.length) else ⟨#[]⟩
def overOk (l : List Seg) (a : Int) : Bool := validB l && decide (0 ≤ a) && decide (a < roomTo l l.length)
theorem overStr_no {l : List Seg} {a : Int} (h : overOk l a = false) : overStr l a = ⟨#[]⟩ := by
  unfold overStr
  by_cases hv : validB l = true
  · rw [if_pos hv]
    have : overIx l a l.length = [] := by
      apply Classical.byContradiction
      intro hne
      have := (over_iff hv a).1 hne
      unfold overOk at h
      rw [hv, decide_eq_true this.1, decide_eq_true this.2] at h
      cases h
    rw [this]
    rfl
  · rw [if_neg hv]
theorem overStr_size {l : List Seg} (hv : validB l = true) (a : Int) : decide (0 < (overStr l a).size) = overOk l a := by
  have h1 : (overStr l a).size = (overIx l a l.length).length := by
    unfold overStr
    rw [if_pos hv]
    have := namesAt_map hv (overIx l a l.length) (fun j hj => overIx_lt hj)
    have e : (namesAt l (overIx l a l.length)).size = (namesAt l (overIx l a l.length)).data.toList.length := by simp
    rw [e, this, List.length_map]
  have h2 := over_iff hv a
  rw [h1]
  unfold overOk
  rw [hv, Bool.true_and]
  by_cases hn : overIx l a l.length = []
  · rw [hn]
    have : ¬ (0 ≤ a ∧ a < roomTo l l.length) := fun h => (h2.2 h) hn
    by_cases h3 : 0 ≤ a
    · rw [decide_eq_true h3, decide_eq_false (p := a < _) (fun h => this ⟨h3, h⟩)]; rfl
    · rw [decide_eq_false h3]; rfl
  · have h3 := h2.1 hn
    rw [decide_eq_true h3.1, decide_eq_true h3.2, decide_eq_true (List.length_pos_iff.2 hn)]
    rfl

/-- The path of the first segment that ends last. -/
def longStr (l : List Seg) : ByteArray := if validB l = true then namesAt l (rp l (lastIx l (l.length - 1))) else ⟨#[]⟩

end Go.Proofs.YtdbddockmdkmeaaDoor
