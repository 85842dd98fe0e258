/- A path, its children's paths, its ends; a name's size: no program. (For the law FnPathOf.) -/
import Derived.Test.YtbmfjfhmdpmlbaaCq
namespace Go.Proofs.Ytbmfjfhmdpmlbaa
open Go.RowKit

theorem namesAt_append (l : List Seg) (xs ys : List Nat) : namesAt l (xs ++ ys) = namesAt l xs ++ namesAt l ys := by
  apply WideShapes.bytes_inj
  show _ = (namesAt l xs ++ namesAt l ys).data.toList
  rw [ByteArray.data_append, Array.toList_append]
  show (xs ++ ys).flatMap (nmAt l) = xs.flatMap (nmAt l) ++ ys.flatMap (nmAt l)
  rw [List.flatMap_append]
theorem namesAt_size {l : List Seg} (hv : validB l = true) (js : List Nat) (hj : ∀ j ∈ js, j < l.length) : (namesAt l js).size = js.length := by
  have e2 : (namesAt l js).size = (namesAt l js).data.toList.length := by simp
  rw [e2, namesAt_map hv _ hj, List.length_map]
theorem cut_at {l : List Seg} (hv : validB l = true) {js : List Nat} (hj : ∀ j ∈ js, j < l.length) {i : Nat} (hi : i < js.length) : (namesAt l js).extract i (i + 1) = namesAt l [js[i]] := by
  have hm : ∀ j ∈ [js[i]], j < l.length := fun j h => by
    rw [List.mem_singleton.1 h]
    exact hj _ (List.getElem_mem hi)
  apply ByteArray.ext
  apply Array.ext'
  rw [namesAt_map hv _ hm]
  have e4 : ((namesAt l js).extract i (i + 1)).data.toList = (((namesAt l js).data.toList).drop i).take 1 := by
    simp [ByteArray.data_extract]
  rw [e4, namesAt_map hv _ hj, ← List.map_drop, List.drop_eq_getElem_cons hi]
  rfl
theorem namesStr_at {l : List Seg} (hv : validB l = true) : namesStr l = namesAt l (List.range l.length) := by
  apply WideShapes.bytes_inj
  have h1 : namesStr l = seenOf l l.length := if_pos hv
  rw [h1, ← range_names l l.length (Nat.le_refl _)]
  rfl
theorem kidsStr_at {l : List Seg} {s : ByteArray} (h : 0 ≤ indexB l s) : kidsStr l s = namesAt l (kidsOf l (indexB l s).toNat l.length) := if_neg (by omega)
theorem one_name {l : List Seg} (hv : validB l = true) {i : Nat} (hi : i < l.length) : namesAt l [i] = l[i].name := by
  rw [(nmAt_one hv hi).2]
  show (⟨([i].flatMap (nmAt l)).toArray⟩ : ByteArray) = _
  rw [List.flatMap_cons, (nmAt_one hv hi).1]
  rfl
theorem path_child {l : List Seg} {s : ByteArray} (hs : 0 ≤ indexB l s) {j : Nat} (hj : j ∈ kidsOf l (indexB l s).toNat l.length) : pathStr l (namesAt l [j]) = pathStr l s ++ namesAt l [j] := by
  have hv := index_valid hs
  have ok := (valid_all hv).1
  have hjl := kidsOf_lt hj
  have hp := kidsOf_par hj
  have hx := seek_nm hv hjl
  rw [pathStr_ix (by omega : 0 ≤ indexB l (namesAt l [j])), pathStr_ix hs]
  unfold pathIx
  rw [hx, Int.toNat_natCast, rp_step ok.down hjl hp, namesAt_append]
theorem path_head {l : List Seg} {s : ByteArray} (hs : 0 ≤ indexB l s) : (pathStr l s).extract 0 1 = (namesStr l).extract 0 1 ∧ 0 < (pathStr l s).size := by
  have hv := index_valid hs
  have ok := (valid_all hv).1
  have h1 := (valid_all hv).2.2
  rcases indexB_bd l s with a1 | ⟨_, a1⟩
  · omega
  obtain ⟨A, hA⟩ := rp_head ok _ (show (indexB l s).toNat < l.length by omega)
  have hb := ix_lt hs
  have e : pathIx l s = 0 :: A := hA
  have hz := (pathStr_size hs).1
  rw [e] at hz
  refine ⟨?_, by rw [hz]; simp⟩
  rw [pathStr_ix hs, namesStr_at hv]
  have c1 := cut_at hv hb (i := 0) (by rw [e]; simp)
  have c2 := cut_at hv (js := List.range l.length) (fun j hj => List.mem_range.1 hj) (i := 0) (by simp; omega)
  rw [show (0 : Nat) + 1 = 1 from rfl] at c1 c2
  rw [c1, c2]
  simp [e]
theorem path_tail {l : List Seg} {s : ByteArray} (hs : 0 ≤ indexB l s) : (pathStr l s).extract ((pathStr l s).size - 1) (pathStr l s).size = s := by
  have hv := index_valid hs
  have ok := (valid_all hv).1
  rcases indexB_bd l s with a1 | ⟨_, a1⟩
  · omega
  have hi : (indexB l s).toNat < l.length := by omega
  obtain ⟨A, hA⟩ := rp_last ok.down _ hi
  have e : pathIx l s = A ++ [(indexB l s).toNat] := hA
  have hz := (pathStr_size hs).1
  rw [e, List.length_append] at hz
  have hz' : (pathStr l s).size = A.length + 1 := hz
  rw [hz', Nat.add_sub_cancel, pathStr_ix hs, cut_at hv (ix_lt hs) (by rw [e]; simp)]
  have hl : (pathIx l s)[A.length]'(by rw [e]; simp) = (indexB l s).toNat := by simp [e]
  rw [hl, one_name hv hi]
  have h2 : seek l s = ((indexB l s).toNat : Int) := by
    have : indexB l s = seek l s := if_pos hv
    omega
  obtain ⟨x, hx, hn⟩ := seek_name h2
  rw [List.getElem?_eq_getElem hi] at hx
  injection hx with hx
  rw [hx, hn]
theorem size_of_name {l : List Seg} (hv : validB l = true) {k : Nat} (hk : k < l.length) : sizeB l ((namesStr l).extract k (k + 1)) = l[k].size := by
  rw [namesStr_at hv, cut_at hv (fun j hj => List.mem_range.1 hj) (by simpa using hk)]
  have e : (List.range l.length)[k]'(by simpa using hk) = k := by simp
  rw [e]
  have hx := seek_nm hv hk
  unfold sizeB
  rw [if_neg (by omega), hx, Int.toNat_natCast, sizeAt_of hk]
theorem names_size {l : List Seg} (hv : validB l = true) : (namesStr l).size = l.length := by
  rw [namesStr_at hv, namesAt_size hv _ (fun j hj => List.mem_range.1 hj), List.length_range]

end Go.Proofs.Ytbmfjfhmdpmlbaa
