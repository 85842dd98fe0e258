/- The names that were seen. -/
import Derived.Test.YtdbddockmdkmeaaDoorTv
namespace Go.Proofs.YtdbddockmdkmeaaDoor
open Go.RowKit

/-- The names of the first 'k' segments, one behind the other. -/
def seenOf (l : List Seg) (k : Nat) : ByteArray := ⟨((l.take k).flatMap (fun s => s.name.data.toList)).toArray⟩
theorem seenOf_zero (l : List Seg) : seenOf l 0 = ⟨#[]⟩ := rfl
theorem seenOf_succ {l : List Seg} {k : Nat} (hk : k < l.length) : seenOf l (k + 1) = seenOf l k ++ l[k].name := by
  apply WideShapes.bytes_inj
  show _ = (seenOf l k ++ l[k].name).data.toList
  rw [ByteArray.data_append, Array.toList_append]
  show ((l.take (k + 1)).flatMap (fun s => s.name.data.toList)) = ((l.take k).flatMap (fun s => s.name.data.toList)) ++ _
  rw [List.take_succ_eq_append_getElem hk, List.flatMap_append, List.flatMap_cons, List.flatMap_nil, List.append_nil]
theorem AllOk.name {l : List Seg} {k j : Nat} (h : AllOk l k) (hj : j < k) {s : Seg} (hs : l[j]? = some s) : nameOk s.name = true := by
  have := h j hj
  unfold segOk at this
  rw [hs] at this
  simp only [Bool.and_eq_true] at this
  exact this.1.1.1
theorem mem_take_name {l : List Seg} {k : Nat} (h : AllOk l k) {s : Seg} (hs : s ∈ l.take k) : nameOk s.name = true := by
  obtain ⟨j, hj, rfl⟩ := List.getElem_of_mem hs
  have hjk : j < k := by rw [List.length_take] at hj; omega
  refine h.name hjk ?_
  rw [List.getElem_take]
  exact List.getElem?_eq_getElem _
theorem seenOf_len {l : List Seg} {k : Nat} (h : AllOk l k) : (seenOf l k).size ≤ l.length := by
  show ((l.take k).flatMap (fun s => s.name.data.toList)).toArray.size ≤ _
  rw [List.size_toArray, List.length_flatMap]
  have h1 : ∀ s ∈ l.take k, (s.name.data.toList).length = 1 := fun s hs => by
    obtain ⟨c, hc, _⟩ := nameOk_one (mem_take_name h hs)
    rw [hc]; rfl
  have h2 : ((l.take k).map fun s => s.name.data.toList.length) = (l.take k).map fun _ => 1 := List.map_congr_left h1
  rw [h2, List.map_const', List.sum_replicate_nat, Nat.mul_one]
  exact List.length_take_le' k l
theorem seenOf_mem {l : List Seg} {k : Nat} (h : AllOk l k) (c : UInt8) : c ∈ (seenOf l k).data.toList ↔ takenB (l.take k) ⟨#[c]⟩ = true := by
  unfold takenB seenOf
  rw [List.any_eq_true]
  show c ∈ ((l.take k).flatMap (fun s => s.name.data.toList)) ↔ _
  rw [List.mem_flatMap]
  constructor
  · rintro ⟨s, hs, hc⟩
    refine ⟨s, hs, sameB_iff.2 ?_⟩
    obtain ⟨d, hd, _⟩ := nameOk_one (mem_take_name h hs)
    rw [hd] at hc ⊢
    have : c = d := by simpa using hc
    rw [this]
  · rintro ⟨s, hs, hc⟩
    exact ⟨s, hs, by rw [sameB_iff.1 hc]; simp⟩
theorem find_seen {l : List Seg} {k : Nat} (h : AllOk l k) (c : UInt8) : decide (0 ≤ findB (seenOf l k) c) = takenB (l.take k) ⟨#[c]⟩ := by
  rw [Bool.eq_iff_iff, decide_eq_true_iff, findB_lo, seenOf_mem h]

end Go.Proofs.YtdbddockmdkmeaaDoor
