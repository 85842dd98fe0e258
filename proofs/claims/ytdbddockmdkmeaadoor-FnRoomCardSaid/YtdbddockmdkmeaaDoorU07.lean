/- Joined: Hg. -/
import Derived.Test.YtdbddockmdkmeaaDoorU06
/- What the law FnRoom asks, plain: the path that takes the most, children behind their parent. -/
namespace Go.Proofs.YtdbddockmdkmeaaDoor
open Go.RowKit

def longIx (l : List Seg) : Nat := lastIx l (l.length - 1)
theorem longIx_lt {l : List Seg} (hv : validB l = true) : longIx l < l.length := by
  have h1 := lastIx_le l (l.length - 1)
  have h2 := (valid_all hv).2.2
  unfold longIx
  omega
theorem long_lt {l : List Seg} (hv : validB l = true) : ∀ j ∈ rp l (longIx l), j < l.length := fun j hj => by
  have h1 := rp_le (AllOk.down (valid_all hv).1) _ (longIx_lt hv) j hj
  have h2 := longIx_lt hv
  omega
theorem long_at {l : List Seg} (hv : validB l = true) : longStr l = namesAt l (rp l (longIx l)) := if_pos hv
theorem long_size {l : List Seg} (hv : validB l = true) : (longStr l).size = (rp l (longIx l)).length := by
  rw [long_at hv, namesAt_size hv _ (long_lt hv)]
/-- How much the first segments of that path take. -/
def sumP (l : List Seg) (k : Nat) : Int := szs l ((rp l (longIx l)).take k)
theorem long_step {l : List Seg} (hv : validB l = true) {k : Nat} (hk : k < (longStr l).size) : ∃ z, sumP l (k + 1) = sumP l k + z ∧ (0 ≤ z ∧ z ≤ 99) ∧ sizeB l ((longStr l).extract k (k + 1)) = z := by
  have hk' : k < (rp l (longIx l)).length := by rw [← long_size hv]; exact hk
  have hj := long_lt hv _ (List.getElem_mem hk')
  have h1 := sizeAt_bd hv hj
  refine ⟨sizeAt l (rp l (longIx l))[k], ?_, by omega, ?_⟩
  · unfold sumP
    rw [List.take_succ_eq_append_getElem hk', szs_snoc]
  · rw [long_at hv, cut_at hv (long_lt hv) hk']
    unfold sizeB
    rw [if_neg (by rw [seek_nm hv hj]; omega), seek_nm hv hj, Int.toNat_natCast]
theorem long_all {l : List Seg} (hv : validB l = true) : sumP l (longStr l).size = roomB l := by
  have h1 := lastIx_room hv (l.length - 1) (by have := (valid_all hv).2.2; omega)
  have h2 : l.length - 1 + 1 = l.length := by have := (valid_all hv).2.2; omega
  rw [h2] at h1
  unfold sumP roomB
  rw [long_size hv, List.take_length, if_pos hv]
  exact h1
theorem sumP_zero (l : List Seg) : sumP l 0 = 0 := by unfold sumP szs; simp
theorem sumP_bd {l : List Seg} (hv : validB l = true) : ∀ k, k ≤ (longStr l).size → 0 ≤ sumP l k ∧ sumP l k ≤ 99 * (k : Int)
  | 0, _ => by rw [sumP_zero]; omega
  | k + 1, h => by
    obtain ⟨z, h1, h2, _⟩ := long_step hv (k := k) (by omega)
    have := sumP_bd hv k (by omega)
    omega
theorem asc_len2 : ∀ (L : List Nat) (a n : Nat), a ≤ n → (∀ j ∈ L, a ≤ j ∧ j < n) → L.Pairwise (· < ·) → L.length ≤ n - a
  | [], _, _, _, _, _ => Nat.zero_le _
  | x :: r, a, n, ha, hb, hp => by
    have hx := hb x (by simp)
    have hp2 := List.pairwise_cons.1 hp
    have ih := asc_len2 r (x + 1) n (by omega) (fun j hj => ⟨hp2.1 j hj, (hb j (List.mem_cons_of_mem _ hj)).2⟩) hp2.2
    rw [List.length_cons]
    omega
theorem long_eight {l : List Seg} (hv : validB l = true) : (longStr l).size ≤ 8 := by
  have h1 := rp_asc (AllOk.down (valid_all hv).1) _ (longIx_lt hv)
  have h2 := long_lt hv
  have h8 := (valid_all hv).2.1
  rw [long_size hv]
  have := asc_len2 _ 0 l.length (Nat.zero_le _) (fun j hj => ⟨Nat.zero_le _, h2 j hj⟩) h1
  omega
/-- What is told of the segment number 'i', by its name. -/
theorem name_said {l : List Seg} (hv : validB l = true) {i : Nat} (hi : i < (namesStr l).size) :
    (kidsStr l ((namesStr l).extract i (i + 1))).size ≤ 8 ∧ hasSeg l ((namesStr l).extract i (i + 1)) = true ∧ addrB l ((namesStr l).extract i (i + 1)) = begAt l i ∧ endB l ((namesStr l).extract i (i + 1)) = endAt l i ∧ sizeB l ((namesStr l).extract i (i + 1)) = sizeAt l i ∧
      (∀ k, k < (kidsStr l ((namesStr l).extract i (i + 1))).size → addrB l ((kidsStr l ((namesStr l).extract i (i + 1))).extract k (k + 1)) = endAt l i) ∧ 0 ≤ begAt l i ∧ begAt l i < endAt l i ∧ endAt l i ≤ 792 ∧ endAt l i = begAt l i + sizeAt l i ∧ endAt l i ≤ roomB l := by
  have hi' : i < l.length := by rw [← names_size hv]; exact hi
  have hx := seek_nm hv hi'
  have e : (namesStr l).extract i (i + 1) = namesAt l [i] := by
    rw [namesStr_at hv, cut_at hv (fun j hj => List.mem_range.1 hj) (by simpa using hi')]
    have e : (List.range l.length)[i]'(by simpa using hi') = i := by simp
    rw [e]
  rw [e]
  have h0 : 0 ≤ indexB l (namesAt l [i]) := by omega
  have hk : kidsStr l (namesAt l [i]) = namesAt l (kidsOf l i l.length) := by rw [kidsStr_at h0, hx, Int.toNat_natCast]
  have hkl := kidsOf_len l i l.length
  have h8 := (valid_all hv).2.1
  have hkz : (kidsStr l (namesAt l [i])).size = (kidsOf l i l.length).length := by rw [hk]; exact namesAt_size hv _ (fun j hj => kidsOf_lt hj)
  obtain ⟨n1, n2, n3⟩ := place_small hv hi'
  have hr := roomTo_le l l.length i hi'
  refine ⟨by omega, decide_eq_true h0, ?_, ?_, ?_, ?_, n1, n2, n3, endAt_beg l i, ?_⟩
  · unfold addrB; rw [if_neg (by omega), hx, Int.toNat_natCast]
  · unfold endB; rw [if_neg (by omega), hx, Int.toNat_natCast]
  · unfold sizeB; rw [if_neg (by omega), hx, Int.toNat_natCast]
  · intro k hk2
    have hk' : k < (kidsOf l i l.length).length := by omega
    have hj : (kidsOf l i l.length)[k] < l.length := kidsOf_lt (List.getElem_mem hk')
    rw [hk, cut_at hv (js := kidsOf l i l.length) (fun j hj => kidsOf_lt hj) hk']
    have hx2 := seek_nm hv hj
    unfold addrB
    rw [if_neg (by omega), hx2, Int.toNat_natCast]
    exact begAt_step (AllOk.down (valid_all hv).1) hj (kidsOf_par (List.getElem_mem hk'))
  · unfold roomB
    rw [if_pos hv]
    exact hr
theorem sum_mono2 {l : List Seg} (h : validB l = true) : ∀ k m, k ≤ m → m ≤ l.length → sumTo l k ≤ sumTo l m
  | k, 0, hk, _ => by rw [show k = 0 by omega]; exact Int.le_refl _
  | k, m + 1, hk, hm => by
    by_cases he : k = m + 1
    · rw [he]; exact Int.le_refl _
    · have h1 := sum_mono2 h k m (by omega) (by omega)
      have h2 := valid_size h (show m < l.length by omega)
      rw [sumTo_succ (show m < l.length by omega)]
      omega
theorem end_sum2 {l : List Seg} (h : validB l = true) : ∀ i, i < l.length → endAt l i ≤ sumTo l (i + 1) := by
  have hd := (valid_all h).1.down
  refine rp_ind hd (fun k hk hp => ?_) (fun k p hk hpk hp ih => ?_)
  · have h2 := endAt_beg l k
    rw [begAt_root hp, sizeAt_of hk] at h2
    have h3 := sum_mono2 h 0 k (by omega) (by omega)
    have h4 : sumTo l 0 = 0 := rfl
    rw [sumTo_succ hk]
    omega
  · have h2 := endAt_beg l k
    rw [begAt_step hd hk hp, sizeAt_of hk] at h2
    have h3 := sum_mono2 h (p + 1) k (by omega) (by omega)
    rw [sumTo_succ hk]
    omega
theorem room_le_sum {l : List Seg} (hv : validB l = true) : roomTo l l.length ≤ sumTo l l.length := by
  have h1 := lastIx_room hv (l.length - 1) (by have := (valid_all hv).2.2; omega)
  have h2 : l.length - 1 + 1 = l.length := by have := (valid_all hv).2.2; omega
  rw [h2] at h1
  have h3 := end_sum2 hv (longIx l) (longIx_lt hv)
  have h4 := sum_mono2 hv (longIx l + 1) l.length (longIx_lt hv) (Nat.le_refl _)
  unfold longIx at h3 h4
  omega
theorem saved_said {l : List Seg} (hv : validB l = true) : 0 ≤ savedB l ∧ roomB l + savedB l = totalB l ∧ 0 ≤ roomB l ∧ roomB l ≤ 792 ∧ totalB l ≤ 1000 := by
  have h1 := roomTo_bd hv l.length (Nat.le_refl _)
  have h2 := sumTo_le hv l.length (Nat.le_refl _)
  have h8 := (valid_all hv).2.1
  have h3 : roomTo l l.length ≤ sumTo l l.length := room_le_sum hv
  unfold savedB roomB totalB
  rw [if_pos hv, if_pos hv, if_pos hv]
  omega

end Go.Proofs.YtdbddockmdkmeaaDoor
