/- Where segments lie. No program. -/
import Derived.Test.YtdbddockmdkmeaaDoorCp
namespace Go.Proofs.YtdbddockmdkmeaaDoor
open Go.RowKit

def szs (l : List Seg) (js : List Nat) : Int := (js.map (sizeAt l)).sum
theorem szs_snoc (l : List Seg) (js : List Nat) (j : Nat) : szs l (js ++ [j]) = szs l js + sizeAt l j := by
  unfold szs
  rw [List.map_append, List.sum_append_int]
  simp
def endAt (l : List Seg) (i : Nat) : Int := szs l (rp l i)
def begAt (l : List Seg) (i : Nat) : Int := endAt l i - sizeAt l i
theorem endAt_beg (l : List Seg) (i : Nat) : endAt l i = begAt l i + sizeAt l i := by unfold begAt; omega
theorem begAt_root {l : List Seg} {i : Nat} (hp : parAt l i < 0) : begAt l i = 0 := by
  unfold begAt endAt
  rw [rp_root hp]
  simp [szs]
theorem begAt_step {l : List Seg} (hd : Down l l.length) {i p : Nat} (hi : i < l.length) (hp : parAt l i = (p : Int)) : begAt l i = endAt l p := by
  unfold begAt endAt
  rw [rp_step hd hi hp, szs_snoc]
  omega
theorem sizeAt_bd {l : List Seg} (h : validB l = true) {i : Nat} (hi : i < l.length) : 1 ≤ sizeAt l i ∧ sizeAt l i ≤ 99 := by
  rw [sizeAt_of hi]
  exact valid_size h hi
theorem place_bd {l : List Seg} (h : validB l = true) : ∀ i, i < l.length → 0 ≤ begAt l i ∧ begAt l i < endAt l i ∧ endAt l i ≤ 99 * ((i : Int) + 1) :=
  rp_ind (valid_all h).1.down (fun i hi hp => by
    have h1 := sizeAt_bd h hi
    have h2 := endAt_beg l i
    rw [begAt_root hp] at *
    omega) (fun i p hi hpi hp ih => by
    have h1 := sizeAt_bd h hi
    have h2 := endAt_beg l i
    rw [begAt_step (valid_all h).1.down hi hp] at *
    omega)
/-- Bounds that fit a machine's number. -/
theorem place_small {l : List Seg} (h : validB l = true) {i : Nat} (hi : i < l.length) : 0 ≤ begAt l i ∧ begAt l i < endAt l i ∧ endAt l i ≤ 792 := by
  have h1 := place_bd h i hi
  have h2 := (valid_all h).2.1
  omega

/-- The sizes of all of a list but one. -/
def szsNot (l : List Seg) (i : Nat) : List Nat → Int
  | [] => 0
  | j :: js => (if j = i then 0 else sizeAt l j) + szsNot l i js
theorem szsNot_append (l : List Seg) (i : Nat) : ∀ js ks, szsNot l i (js ++ ks) = szsNot l i js + szsNot l i ks
  | [], ks => by simp [szsNot]
  | j :: js, ks => by
    show (if j = i then 0 else sizeAt l j) + szsNot l i (js ++ ks) = (if j = i then 0 else sizeAt l j) + szsNot l i js + szsNot l i ks
    rw [szsNot_append l i js ks]
    omega
theorem szsNot_bd {l : List Seg} (h : validB l = true) (i : Nat) : ∀ js : List Nat, (∀ j ∈ js, j < l.length) → 0 ≤ szsNot l i js ∧ szsNot l i js ≤ 99 * (js.length : Int)
  | [], _ => by simp [szsNot]
  | j :: js, hj => by
    have h1 := szsNot_bd h i js (fun k hk => hj k (List.mem_cons_of_mem _ hk))
    have h2 := sizeAt_bd h (hj j List.mem_cons_self)
    unfold szsNot
    rw [List.length_cons]
    split <;> omega
theorem szsNot_far (l : List Seg) (i : Nat) : ∀ js : List Nat, (∀ j ∈ js, j ≠ i) → szsNot l i js = szs l js
  | [], _ => rfl
  | j :: js, hj => by
    have h1 := szsNot_far l i js (fun k hk => hj k (List.mem_cons_of_mem _ hk))
    unfold szsNot
    rw [if_neg (hj j List.mem_cons_self), h1]
    simp [szs]
theorem szsNot_rp {l : List Seg} (hd : Down l l.length) {i : Nat} (hi : i < l.length) : szsNot l i (rp l i) = begAt l i := by
  obtain ⟨A, hA⟩ := rp_last hd i hi
  have hlt : ∀ j ∈ A, j ≠ i := fun j hj => by
    have h1 := rp_asc hd i hi
    rw [hA, List.pairwise_append] at h1
    have := h1.2.2 j hj i (by simp)
    omega
  unfold begAt endAt
  rw [hA, szsNot_append, szsNot_far l i A hlt, szs_snoc]
  simp [szsNot]

/-- The greatest end of the first k. -/
def roomTo (l : List Seg) : Nat → Int
  | 0 => 0
  | k + 1 => max (roomTo l k) (endAt l k)
theorem roomTo_bd {l : List Seg} (h : validB l = true) : ∀ k, k ≤ l.length → 0 ≤ roomTo l k ∧ roomTo l k ≤ 792
  | 0, _ => by simp [roomTo]
  | k + 1, hk => by
    have h1 := roomTo_bd h k (by omega)
    have h2 := place_small h (show k < l.length by omega)
    unfold roomTo
    omega
theorem roomTo_le (l : List Seg) : ∀ k j, j < k → endAt l j ≤ roomTo l k
  | 0, _, h => absurd h (by omega)
  | k + 1, j, h => by
    unfold roomTo
    rcases Nat.lt_or_ge j k with h1 | h1
    · have := roomTo_le l k j h1; omega
    · obtain rfl : j = k := by omega
      omega
def roomB (l : List Seg) : Int := if validB l = true then roomTo l l.length else -1
def savedB (l : List Seg) : Int := if validB l = true then sumTo l l.length - roomTo l l.length else -1

/-- The first of the first k + 1 that ends last. -/
def lastIx (l : List Seg) : Nat → Nat
  | 0 => 0
  | k + 1 => if endAt l (lastIx l k) < endAt l (k + 1) then k + 1 else lastIx l k
theorem lastIx_le (l : List Seg) : ∀ k, lastIx l k ≤ k
  | 0 => Nat.le_refl 0
  | k + 1 => by
    have := lastIx_le l k
    unfold lastIx
    split <;> omega
theorem lastIx_room {l : List Seg} (h : validB l = true) : ∀ k, k < l.length → endAt l (lastIx l k) = roomTo l (k + 1)
  | 0, hk => by
    have h1 := place_small h hk
    show endAt l 0 = max 0 (endAt l 0)
    omega
  | k + 1, hk => by
    have h1 := lastIx_room h k (by omega)
    unfold lastIx
    rw [roomTo]
    split <;> omega
theorem lastIx_first {l : List Seg} : ∀ k j, j < lastIx l k → endAt l j < endAt l (lastIx l k)
  | 0, j, hj => absurd hj (by simp [lastIx])
  | k + 1, j, hj => by
    unfold lastIx at hj ⊢
    by_cases hc : endAt l (lastIx l k) < endAt l (k + 1)
    · rw [if_pos hc] at hj ⊢
      rcases Nat.lt_trichotomy j (lastIx l k) with h1 | h1 | h1
      · have := lastIx_first k j h1; omega
      · rw [h1]; exact hc
      · have : endAt l j ≤ endAt l (lastIx l k) := lastIx_max k j (by omega)
        omega
    · rw [if_neg hc] at hj ⊢
      exact lastIx_first k j hj
where lastIx_max : ∀ k j, j ≤ k → endAt l j ≤ endAt l (lastIx l k)
  | 0, j, hj => by
    obtain rfl : j = 0 := by omega
    exact Int.le_refl _
  | k + 1, j, hj => by
    unfold lastIx
    by_cases hc : endAt l (lastIx l k) < endAt l (k + 1)
    · rw [if_pos hc]
      rcases Nat.lt_or_ge j (k + 1) with h1 | h1
      · have := lastIx_max k j (by omega); omega
      · obtain rfl : j = k + 1 := by omega
        exact Int.le_refl _
    · rw [if_neg hc]
      rcases Nat.lt_or_ge j (k + 1) with h1 | h1
      · exact lastIx_max k j (by omega)
      · obtain rfl : j = k + 1 := by omega
        omega

def addrB (l : List Seg) (s : ByteArray) : Int := if indexB l s < 0 then -1 else begAt l (indexB l s).toNat
def endB (l : List Seg) (s : ByteArray) : Int := if indexB l s < 0 then -1 else endAt l (indexB l s).toNat
def lapB (l : List Seg) (s t : ByteArray) : Int :=
  if indexB l s < 0 ∨ indexB l t < 0 then -1
  else max (min (endAt l (indexB l s).toNat) (endAt l (indexB l t).toNat) - max (begAt l (indexB l s).toNat) (begAt l (indexB l t).toNat)) 0

end Go.Proofs.YtdbddockmdkmeaaDoor
