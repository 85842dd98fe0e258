/- Joined: Ep Oc. -/
import Derived.Test.YtbmfbnlmdjnddaaU05
/- Where segments lie. No program. -/
namespace Go.Proofs.Ytbmfbnlmdjnddaa
open Go.RowKit

def szs (l : List Seg) (js : List Nat) : Int := (js.map (sizeAt l)).sum
theorem szs_snoc (l : List Seg) (js : List Nat) (j : Nat) : szs l (js ++ [j]) = szs l js + sizeAt l j := by
  unfold szs
  rw [List.map_append, List.sum_append_int]
  simp
def endAt (l : List Seg) (i : Nat) : Int := szs l (rp l i)
def begAt (l : List Seg) (i : Nat) : Int := endAt l i - sizeAt l i
theorem endAt_beg (l : List Seg) (i : Nat) : endAt l i = begAt l i + sizeAt l i := by unfold begAt; omega
theorem begAt_root {l : List Seg} {i : Nat} (hp : parAt l i < 0) : begAt l i = 0 := by
  unfold begAt endAt
  rw [rp_root hp]
  simp [szs]
theorem begAt_step {l : List Seg} (hd : Down l l.length) {i p : Nat} (hi : i < l.length) (hp : parAt l i = (p : Int)) : begAt l i = endAt l p := by
  unfold begAt endAt
  rw [rp_step hd hi hp, szs_snoc]
  omega
theorem sizeAt_bd {l : List Seg} (h : validB l = true) {i : Nat} (hi : i < l.length) : 1 ≤ sizeAt l i ∧ sizeAt l i ≤ 99 := by
  rw [sizeAt_of hi]
  exact valid_size h hi
theorem place_bd {l : List Seg} (h : validB l = true) : ∀ i, i < l.length → 0 ≤ begAt l i ∧ begAt l i < endAt l i ∧ endAt l i ≤ 99 * ((i : Int) + 1) :=
  rp_ind (valid_all h).1.down (fun i hi hp => by
    have h1 := sizeAt_bd h hi
    have h2 := endAt_beg l i
    rw [begAt_root hp] at *
    omega) (fun i p hi hpi hp ih => by
    have h1 := sizeAt_bd h hi
    have h2 := endAt_beg l i
    rw [begAt_step (valid_all h).1.down hi hp] at *
    omega)
/-- Bounds that fit a machine's number. -/
theorem place_small {l : List Seg} (h : validB l = true) {i : Nat} (hi : i < l.length) : 0 ≤ begAt l i ∧ begAt l i < endAt l i ∧ endAt l i ≤ 792 := by
  have h1 := place_bd h i hi
  have h2 := (valid_all h).2.1
  omega

/-- The sizes of all of a list but one. -/
def szsNot (l : List Seg) (i : Nat) : List Nat → Int
  | [] => 0
  | j :: js => (if j = i then 0 else sizeAt l j) + szsNot l i js
theorem szsNot_append (l : List Seg) (i : Nat) : ∀ js ks, szsNot l i (js ++ ks) = szsNot l i js + szsNot l i ks
  | [], ks => by simp [szsNot]
  | j :: js, ks => by
    show (if j = i then 0 else sizeAt l j) + szsNot l i (js ++ ks) = (if j = i then 0 else sizeAt l j) + szsNot l i js + szsNot l i ks
    rw [szsNot_append l i js ks]
    omega
theorem szsNot_bd {l : List Seg} (h : validB l = true) (i : Nat) : ∀ js : List Nat, (∀ j ∈ js, j < l.length) → 0 ≤ szsNot l i js ∧ szsNot l i js ≤ 99 * (js.length : Int)
  | [], _ => by simp [szsNot]
  | j :: js, hj => by
    have h1 := szsNot_bd h i js (fun k hk => hj k (List.mem_cons_of_mem _ hk))
    have h2 := sizeAt_bd h (hj j List.mem_cons_self)
    unfold szsNot
    rw [List.length_cons]
    split <;> omega
theorem szsNot_far (l : List Seg) (i : Nat) : ∀ js : List Nat, (∀ j ∈ js, j ≠ i) → szsNot l i js = szs l js
  | [], _ => rfl
  | j :: js, hj => by
    have h1 := szsNot_far l i js (fun k hk => hj k (List.mem_cons_of_mem _ hk))
    unfold szsNot
    rw [if_neg (hj j List.mem_cons_self), h1]
    simp [szs]
theorem szsNot_rp {l : List Seg} (hd : Down l l.length) {i : Nat} (hi : i < l.length) : szsNot l i (rp l i) = begAt l i := by
  obtain ⟨A, hA⟩ := rp_last hd i hi
  have hlt : ∀ j ∈ A, j ≠ i := fun j hj => by
    have h1 := rp_asc hd i hi
    rw [hA, List.pairwise_append] at h1
    have := h1.2.2 j hj i (by simp)
    omega
  unfold begAt endAt
  rw [hA, szsNot_append, szsNot_far l i A hlt, szs_snoc]
  simp [szsNot]

/-- The greatest end of the first k. -/
def roomTo (l : List Seg) : Nat → Int
  | 0 => 0
  | k + 1 => max (roomTo l k) (endAt l k)
theorem roomTo_bd {l : List Seg} (h : validB l = true) : ∀ k, k ≤ l.length → 0 ≤ roomTo l k ∧ roomTo l k ≤ 792
  | 0, _ => by simp [roomTo]
  | k + 1, hk => by
    have h1 := roomTo_bd h k (by omega)
    have h2 := place_small h (show k < l.length by omega)
    unfold roomTo
    omega
theorem roomTo_le (l : List Seg) : ∀ k j, j < k → endAt l j ≤ roomTo l k
  | 0, _, h => absurd h (by omega)
  | k + 1, j, h => by
    unfold roomTo
    rcases Nat.lt_or_ge j k with h1 | h1
    · have := roomTo_le l k j h1; omega
    · obtain rfl : j = k := by omega
      omega
def roomB (l : List Seg) : Int := if validB l = true then roomTo l l.length else -1
def savedB (l : List Seg) : Int := if validB l = true then sumTo l l.length - roomTo l l.length else -1

/-- The first of the first k + 1 that ends last. -/
def lastIx (l : List Seg) : Nat → Nat
  | 0 => 0
  | k + 1 => if endAt l (lastIx l k) < endAt l (k + 1) then k + 1 else lastIx l k
theorem lastIx_le (l : List Seg) : ∀ k, lastIx l k ≤ k
  | 0 => Nat.le_refl 0
  | k + 1 => by
    have := lastIx_le l k
    unfold lastIx
    split <;> omega
theorem lastIx_room {l : List Seg} (h : validB l = true) : ∀ k, k < l.length → endAt l (lastIx l k) = roomTo l (k + 1)
  | 0, hk => by
    have h1 := place_small h hk
    show endAt l 0 = max 0 (endAt l 0)
    omega
  | k + 1, hk => by
    have h1 := lastIx_room h k (by omega)
    unfold lastIx
    rw [roomTo]
    split <;> omega
theorem lastIx_first {l : List Seg} : ∀ k j, j < lastIx l k → endAt l j < endAt l (lastIx l k)
  | 0, j, hj => absurd hj (by simp [lastIx])
  | k + 1, j, hj => by
    unfold lastIx at hj ⊢
    by_cases hc : endAt l (lastIx l k) < endAt l (k + 1)
    · rw [if_pos hc] at hj ⊢
      rcases Nat.lt_trichotomy j (lastIx l k) with h1 | h1 | h1
      · have := lastIx_first k j h1; omega
      · rw [h1]; exact hc
      · have : endAt l j ≤ endAt l (lastIx l k) := lastIx_max k j (by omega)
        omega
    · rw [if_neg hc] at hj ⊢
      exact lastIx_first k j hj
where lastIx_max : ∀ k j, j ≤ k → endAt l j ≤ endAt l (lastIx l k)
  | 0, j, hj => by
    obtain rfl : j = 0 := by omega
    exact Int.le_refl _
  | k + 1, j, hj => by
    unfold lastIx
    by_cases hc : endAt l (lastIx l k) < endAt l (k + 1)
    · rw [if_pos hc]
      rcases Nat.lt_or_ge j (k + 1) with h1 | h1
      · have := lastIx_max k j (by omega); omega
      · obtain rfl : j = k + 1 := by omega
        exact Int.le_refl _
    · rw [if_neg hc]
      rcases Nat.lt_or_ge j (k + 1) with h1 | h1
      · exact lastIx_max k j (by omega)
      · obtain rfl : j = k + 1 := by omega
        omega

def addrB (l : List Seg) (s : ByteArray) : Int := if indexB l s < 0 then -1 else begAt l (indexB l s).toNat
def endB (l : List Seg) (s : ByteArray) : Int := if indexB l s < 0 then -1 else endAt l (indexB l s).toNat
def lapB (l : List Seg) (s t : ByteArray) : Int :=
  if indexB l s < 0 ∨ indexB l t < 0 then -1
  else max (min (endAt l (indexB l s).toNat) (endAt l (indexB l t).toNat) - max (begAt l (indexB l s).toNat) (begAt l (indexB l t).toNat)) 0

end Go.Proofs.Ytbmfbnlmdjnddaa
/- FlatTree and ChainTree: other parents. Plain. -/
namespace Go.Proofs.Ytbmfbnlmdjnddaa
open Go.RowKit

/-- The same segments with other parents. -/
def parL (f : Nat → Int) (l : List Seg) : List Seg := l.mapIdx fun i s => ⟨s.name, s.size, f i⟩
theorem parL_len (f : Nat → Int) (l : List Seg) : (parL f l).length = l.length := List.length_mapIdx
theorem parL_get (f : Nat → Int) (l : List Seg) {k : Nat} (h : k < l.length) : (parL f l)[k]? = some ⟨l[k].name, l[k].size, f k⟩ := by
  unfold parL
  rw [List.getElem?_mapIdx, List.getElem?_eq_getElem h]
  rfl
theorem parL_take (f : Nat → Int) (l : List Seg) {k : Nat} (h : k < l.length) : (parL f l).take (k + 1) = (parL f l).take k ++ [⟨l[k].name, l[k].size, f k⟩] := by
  have h1 : k < (parL f l).length := by rw [parL_len]; exact h
  rw [List.take_succ_eq_append_getElem h1]
  congr 2
  have h2 := parL_get f l h
  rw [List.getElem?_eq_getElem h1] at h2
  injection h2
theorem parL_all (f : Nat → Int) (l : List Seg) : (parL f l).take l.length = parL f l := List.take_of_length_le (by rw [parL_len]; exact Nat.le_refl _)
def flatP (i : Nat) : Int := if i = 0 then -1 else 0
def chainP (i : Nat) : Int := (i : Int) - 1
def flatL (l : List Seg) : List Seg := parL flatP l
def chainL (l : List Seg) : List Seg := parL chainP l
def flatRes (l : List Seg) : List Seg := if validB l = true then flatL l else []
def chainRes (l : List Seg) : List Seg := if validB l = true then chainL l else []
theorem parL_par {f : Nat → Int} {l : List Seg} {i : Nat} (h : i < l.length) : parAt (parL f l) i = f i := by
  unfold parAt
  rw [parL_get f l h]
theorem parL_size {f : Nat → Int} {l : List Seg} (i : Nat) : sizeAt (parL f l) i = sizeAt l i := by
  by_cases h : i < l.length
  · have h' : i < (parL f l).length := by rw [parL_len]; exact h
    rw [sizeAt_of h, sizeAt_of h']
    have h2 := parL_get f l h
    rw [List.getElem?_eq_getElem h'] at h2
    injection h2 with h2
    rw [h2]
  · have h' : ¬ i < (parL f l).length := by rw [parL_len]; exact h
    unfold sizeAt
    rw [List.getElem?_eq_none (by omega), List.getElem?_eq_none (by omega)]
theorem parL_names (f : Nat → Int) (l : List Seg) : (parL f l).map Seg.name = l.map Seg.name := by
  apply List.ext_getElem?
  intro i
  by_cases h : i < l.length
  · rw [List.getElem?_map, List.getElem?_map, parL_get f l h, List.getElem?_eq_getElem h]
    rfl
  · rw [List.getElem?_eq_none (by rw [List.length_map, parL_len]; omega), List.getElem?_eq_none (by rw [List.length_map]; omega)]
theorem taken_names (l : List Seg) (s : ByteArray) : takenB l s = (l.map Seg.name).any (fun x => sameB x s) := by
  unfold takenB
  rw [List.any_map]
  rfl
theorem parL_valid {f : Nat → Int} {l : List Seg} (h : validB l = true) (h0 : f 0 = -1) (hp : ∀ i : Nat, 0 < i → i < l.length → f i ∈ chain (parL f l) i ((i : Int) - 1)) : validB (parL f l) = true := by
  obtain ⟨ha, h8, h1⟩ := valid_all h
  have hall : AllOk (parL f l) (parL f l).length := by
    intro j hj
    rw [parL_len] at hj
    have hs := ha j hj
    unfold segOk at hs ⊢
    rw [parL_get f l hj]
    rw [List.getElem?_eq_getElem hj] at hs
    dsimp only at hs ⊢
    simp only [Bool.and_eq_true] at hs ⊢
    refine ⟨⟨⟨hs.1.1.1, ?_⟩, hs.1.2⟩, ?_⟩
    · have h3 := hs.1.1.2
      rw [taken_names, List.map_take] at h3 ⊢
      rw [parL_names]
      exact h3
    · unfold parOk
      by_cases hj0 : j = 0
      · rw [if_pos hj0, parL_par (by omega), h0]
        rfl
      · rw [if_neg hj0, parL_par hj]
        exact List.contains_iff_mem.2 (hp j (by omega) hj)
  rw [validB_all hall, parL_len, decide_eq_true h1, decide_eq_true h8]
  rfl
theorem chain_head (l : List Seg) (f : Nat) {i : Int} (h : 0 ≤ i) : chain l (f + 1) i = i :: chain l f (parAt l i.toNat) := by
  show (if i < 0 then [] else i :: chain l f (parAt l i.toNat)) = _
  rw [if_neg (by omega)]
theorem flat_valid {l : List Seg} (h : validB l = true) : validB (flatL l) = true := by
  refine parL_valid h rfl fun i hi hl => ?_
  have hf : flatP i = 0 := if_neg (by omega)
  rw [hf]
  obtain ⟨j, rfl⟩ : ∃ j, i = j + 1 := ⟨i - 1, by omega⟩
  rw [chain_head _ _ (by omega)]
  by_cases hj : j = 0
  · subst hj
    exact List.mem_cons.2 (.inl (by simp))
  · obtain ⟨k, rfl⟩ : ∃ k, j = k + 1 := ⟨j - 1, by omega⟩
    refine List.mem_cons.2 (.inr ?_)
    have e : (((k + 1 + 1 : Nat) : Int) - 1).toNat = k + 1 := by omega
    rw [e, parL_par (by omega), show flatP (k + 1) = 0 from if_neg (by omega), chain_head _ _ (by omega)]
    exact List.mem_cons_self
theorem chain_valid {l : List Seg} (h : validB l = true) : validB (chainL l) = true := by
  refine parL_valid h (by decide) fun i hi hl => ?_
  obtain ⟨j, rfl⟩ : ∃ j, i = j + 1 := ⟨i - 1, by omega⟩
  rw [chain_head _ _ (by omega)]
  exact List.mem_cons.2 (.inl rfl)

/-- What the same segments with other parents take. -/
theorem flat_end {l : List Seg} (h : validB l = true) {i : Nat} (hi : i < l.length) : endAt (flatL l) i ≤ endAt l i := by
  have hv := flat_valid h
  have hd' := (valid_all hv).1.down
  have hd := (valid_all h).1.down
  have hi' : i < (flatL l).length := by unfold flatL; rw [parL_len]; exact hi
  have hs : sizeAt (flatL l) i = sizeAt l i := parL_size i
  have hr : ∀ k, k < l.length → endAt (flatL l) 0 ≤ endAt l k := by
    intro k hk
    have h00 : parAt (flatL l) 0 = -1 := by unfold flatL; rw [parL_par (by omega)]; rfl
    have hb0 : begAt (flatL l) 0 = 0 := begAt_root (by omega)
    have e0 := endAt_beg (flatL l) 0
    have hs0 : sizeAt (flatL l) 0 = sizeAt l 0 := parL_size 0
    rw [hb0, hs0] at e0
    rw [e0]
    revert k
    refine rp_ind hd (fun k hk hp => ?_) (fun k p hk hpk hp ih => ?_)
    · have h2 := endAt_beg l k
      have h3 : k = 0 := by
        have hs := (valid_all h).1 k hk
        unfold segOk at hs
        rw [List.getElem?_eq_getElem hk] at hs
        simp only [Bool.and_eq_true] at hs
        have h4 := hs.2
        unfold parOk at h4
        by_cases hk0 : k = 0
        · exact hk0
        · rw [if_neg hk0] at h4
          have h5 := chain_mem hd k _ (by omega) _ (List.contains_iff_mem.1 h4)
          omega
      subst h3
      rw [begAt_root hp] at h2
      omega
    · have h2 := endAt_beg l k
      have h3 := sizeAt_bd h hk
      rw [begAt_step hd hk hp] at h2
      omega
  by_cases h0 : i = 0
  · subst h0
    exact hr 0 hi
  · have hp : parAt (flatL l) i = ((0 : Nat) : Int) := by
      unfold flatL
      rw [parL_par hi]
      exact if_neg h0
    have e1 := endAt_beg (flatL l) i
    rw [begAt_step hd' hi' hp, hs] at e1
    have e2 := endAt_beg l i
    obtain ⟨p, hpe⟩ := Int.eq_ofNat_of_zero_le (par_nonneg (valid_all h).1 hi (by omega))
    have hpl : p < l.length := by have := hd i hi; omega
    rw [begAt_step hd hi hpe] at e2
    have := hr p hpl
    omega
theorem sum_step {l : List Seg} {k : Nat} (hk : k < l.length) : sumTo l (k + 1) = sumTo l k + sizeAt l k := by rw [sumTo_succ hk, sizeAt_of hk]
theorem sum_zero (l : List Seg) : sumTo l 0 = 0 := by simp [sumTo]
theorem chain_end {l : List Seg} (h : validB l = true) : ∀ i, i < l.length → endAt (chainL l) i = sumTo l (i + 1)
  | 0, hi => by
    have h00 : parAt (chainL l) 0 = -1 := by unfold chainL; rw [parL_par (by omega)]; rfl
    have e0 := endAt_beg (chainL l) 0
    have hs0 : sizeAt (chainL l) 0 = sizeAt l 0 := parL_size 0
    rw [begAt_root (by omega), hs0] at e0
    rw [e0, sum_step hi, sum_zero]
  | i + 1, hi => by
    have ih := chain_end h i (by omega)
    have hv := chain_valid h
    have hd' := (valid_all hv).1.down
    have hi' : i + 1 < (chainL l).length := by unfold chainL; rw [parL_len]; exact hi
    have hp : parAt (chainL l) (i + 1) = (i : Int) := by
      unfold chainL
      rw [parL_par hi]
      show ((i + 1 : Nat) : Int) - 1 = _
      omega
    have e1 := endAt_beg (chainL l) (i + 1)
    have hs0 : sizeAt (chainL l) (i + 1) = sizeAt l (i + 1) := parL_size _
    rw [begAt_step hd' hi' hp, ih, hs0] at e1
    rw [e1, sum_step hi]
theorem sumTo_mono {l : List Seg} (h : validB l = true) : ∀ k m, k ≤ m → m ≤ l.length → sumTo l k ≤ sumTo l m
  | k, 0, hk, _ => by rw [show k = 0 by omega]; exact Int.le_refl _
  | k, m + 1, hk, hm => by
    by_cases he : k = m + 1
    · rw [he]; exact Int.le_refl _
    · have h1 := sumTo_mono h k m (by omega) (by omega)
      have h2 := sizeAt_bd h (show m < l.length by omega)
      rw [sum_step (show m < l.length by omega)]
      omega
theorem tree_end {l : List Seg} (h : validB l = true) : ∀ i, i < l.length → endAt l i ≤ sumTo l (i + 1) := by
  have hd := (valid_all h).1.down
  refine rp_ind hd (fun k hk hp => ?_) (fun k p hk hpk hp ih => ?_)
  · have h2 := endAt_beg l k
    rw [begAt_root hp] at h2
    have h3 := sumTo_mono h 0 k (by omega) (by omega)
    have h4 := sum_zero l
    rw [sum_step hk]
    omega
  · have h2 := endAt_beg l k
    rw [begAt_step hd hk hp] at h2
    have h3 := sumTo_mono h (p + 1) k (by omega) (by omega)
    rw [sum_step hk]
    omega
theorem roomTo_mono {l l' : List Seg} : ∀ k, (∀ i, i < k → endAt l i ≤ endAt l' i) → roomTo l k ≤ roomTo l' k
  | 0, _ => Int.le_refl _
  | k + 1, h => by
    have h1 := roomTo_mono k fun i hi => h i (by omega)
    have h2 := h k (by omega)
    unfold roomTo
    omega
theorem flat_room {l : List Seg} (h : validB l = true) : roomB (flatL l) ≤ roomB l := by
  unfold roomB
  rw [if_pos h, if_pos (flat_valid h), show (flatL l).length = l.length from parL_len _ _]
  exact roomTo_mono _ fun i hi => flat_end h hi
theorem chain_room {l : List Seg} (h : validB l = true) : roomB l ≤ roomB (chainL l) := by
  unfold roomB
  rw [if_pos h, if_pos (chain_valid h), show (chainL l).length = l.length from parL_len _ _]
  exact roomTo_mono _ fun i hi => by rw [chain_end h i hi]; exact tree_end h i hi
theorem chain_to {l : List Seg} (h : validB l = true) : ∀ k, k ≤ l.length → roomTo (chainL l) k = sumTo l k
  | 0, _ => (sum_zero l).symm
  | k + 1, hk => by
    have h1 := chain_to h k (by omega)
    have h2 := chain_end h k (by omega)
    have h3 := sumTo_mono h k (k + 1) (by omega) hk
    unfold roomTo
    omega
theorem sumTo_par (f : Nat → Int) (l : List Seg) : ∀ k, k ≤ l.length → sumTo (parL f l) k = sumTo l k
  | 0, _ => by rw [sum_zero, sum_zero]
  | k + 1, hk => by
    rw [sum_step (by rw [parL_len]; omega), sum_step (by omega), sumTo_par f l k (by omega), parL_size]
theorem chain_saved {l : List Seg} (h : validB l = true) : savedB (chainL l) = 0 := by
  unfold savedB
  rw [if_pos (chain_valid h), show (chainL l).length = l.length from parL_len _ _, chain_to h _ (Nat.le_refl _)]
  unfold chainL
  rw [sumTo_par _ _ _ (Nat.le_refl _)]
  omega

end Go.Proofs.Ytbmfbnlmdjnddaa
