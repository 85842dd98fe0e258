/- Two paths begin alike, as far as what they have in common: no program. -/
import Derived.Test.YtbmfjfhmdpmlbaaGa
import Derived.Test.YtbmfjfhmdpmlbaaCm
namespace Go.Proofs.Ytbmfjfhmdpmlbaa
open Go.RowKit

theorem comLen_sym {α : Type} [DecidableEq α] : ∀ (xs ys : List α), comLen xs ys = comLen ys xs
  | [], [] => rfl
  | [], _ :: _ => rfl
  | _ :: _, [] => rfl
  | a :: xs, b :: ys => by
    simp only [comLen]
    by_cases h : a = b
    · rw [if_pos h, if_pos h.symm, comLen_sym xs ys]
    · rw [if_neg h, if_neg (fun e => h e.symm)]
theorem comLen_take {α : Type} [DecidableEq α] : ∀ (xs ys : List α), xs.take (comLen xs ys) = ys.take (comLen xs ys)
  | [], [] => rfl
  | [], _ :: _ => by simp [comLen]
  | _ :: _, [] => by simp [comLen]
  | a :: xs, b :: ys => by
    simp only [comLen]
    by_cases h : a = b
    · rw [if_pos h, h, List.take_succ_cons, List.take_succ_cons, comLen_take xs ys]
    · rw [if_neg h]; rfl
theorem comLen_next {α : Type} [DecidableEq α] : ∀ (xs ys : List α) (h1 : comLen xs ys < xs.length) (h2 : comLen xs ys < ys.length), xs[comLen xs ys]'h1 ≠ ys[comLen xs ys]'h2
  | [], _, h, _ => absurd h (by simp)
  | _ :: _, [], _, h => absurd h (by simp)
  | a :: xs, b :: ys, h1, h2 => by
    by_cases h : a = b
    · have e : comLen (a :: xs) (b :: ys) = comLen xs ys + 1 := by simp only [comLen]; rw [if_pos h]
      have h3 : comLen xs ys < xs.length := by rw [e] at h1; simpa using h1
      have h4 : comLen xs ys < ys.length := by rw [e] at h2; simpa using h2
      have := comLen_next xs ys h3 h4
      simp only [e, List.getElem_cons_succ]
      exact this
    · have e : comLen (a :: xs) (b :: ys) = 0 := by simp only [comLen]; rw [if_neg h]
      simp only [e, List.getElem_cons_zero]
      exact h

/-- What the laws ask of two paths and of what they have in common. -/
structure Alike (l : List Seg) (s t : ByteArray) : Prop where
  x : (pathStr l s).size = (pathIx l s).length
  y : (pathStr l t).size = (pathIx l t).length
  p : (pathStr l (comStr l s t)).size = comCount l s t
  px : (pathStr l s).data.toList.take (comCount l s t) = (pathStr l (comStr l s t)).data.toList
  py : (pathStr l t).data.toList.take (comCount l s t) = (pathStr l (comStr l s t)).data.toList
  next : ∀ (h1 : comCount l s t < (pathStr l s).size) (h2 : comCount l s t < (pathStr l t).size), (pathStr l s)[comCount l s t]'h1 ≠ (pathStr l t)[comCount l s t]'h2
  le : comCount l s t ≤ (pathStr l s).size ∧ comCount l s t ≤ (pathStr l t).size

theorem ix_lt {l : List Seg} {s : ByteArray} (h : 0 ≤ indexB l s) : ∀ j ∈ pathIx l s, j < l.length := fun j hj => by
  have ok := (valid_all (index_valid h)).1
  rcases indexB_bd l s with a1 | ⟨_, a1⟩
  · omega
  have := rp_le ok.down _ (show (indexB l s).toNat < l.length by omega) j hj
  omega
theorem com_at {l : List Seg} {s t : ByteArray} (hs : 0 ≤ indexB l s) (ht : 0 ≤ indexB l t) : ∃ v, v < l.length ∧ comStr l s t = namesAt l [v] ∧ rp l v = (pathIx l s).take (comCount l s t) := by
  have hv := index_valid hs
  have ok := (valid_all hv).1
  have hpos := comCount_pos hs ht
  have hle := (comLen_le (pathIx l s) (pathIx l t)).1
  obtain ⟨n, hn⟩ : ∃ n, comCount l s t = n + 1 := ⟨comCount l s t - 1, by omega⟩
  have hnl : n < (pathIx l s).length := by unfold comCount at hn; omega
  have hvl := ix_lt hs _ (List.getElem_mem hnl)
  refine ⟨(pathIx l s)[n], hvl, ?_, ?_⟩
  · unfold comStr
    rw [if_neg (by omega), hn]
    simp [List.getD, List.getElem?_eq_getElem hnl]
  · rcases indexB_bd l s with a1 | ⟨_, a1⟩
    · omega
    have hi : (indexB l s).toNat < l.length := by omega
    have h1 := rp_prefix ok.down _ hi _ (List.getElem_mem hnl : (pathIx l s)[n] ∈ rp l (indexB l s).toNat)
    obtain ⟨B, hB⟩ := rp_last ok.down _ hvl
    have h2 : (pathIx l s).take n ++ [(pathIx l s)[n]] = (pathIx l s).take (n + 1) := (List.take_append_getElem hnl)
    have h3 : (pathIx l s).take n ++ [(pathIx l s)[n]] <+: rp l (indexB l s).toNat := by
      rw [h2]
      exact List.take_prefix _ _
    have h4 : B ++ [(pathIx l s)[n]] <+: rp l (indexB l s).toNat := by rw [← hB]; exact h1
    have hlen := snoc_unique (rp_asc ok.down _ hi) h3 h4
    rw [hn, ← h2]
    have e : (pathIx l s).take n ++ [(pathIx l s)[n]] = B ++ [(pathIx l s)[n]] := by
      have g1 := List.prefix_iff_eq_take.1 h3
      have g2 := List.prefix_iff_eq_take.1 h4
      rw [g1, g2]
      congr 1
      simp only [List.length_append, hlen]
    rw [hB, e]

theorem alike {l : List Seg} {s t : ByteArray} (hs : 0 ≤ indexB l s) (ht : 0 ≤ indexB l t) : Alike l s t := by
  have hv := index_valid hs
  obtain ⟨v, hvl, hc, hrp⟩ := com_at hs ht
  have hix : indexB l (comStr l s t) = (v : Int) := by rw [hc]; exact seek_nm hv hvl
  have h0 : 0 ≤ indexB l (comStr l s t) := by omega
  have hp : pathIx l (comStr l s t) = (pathIx l s).take (comCount l s t) := by
    show rp l (indexB l (comStr l s t)).toNat = _
    rw [hix, Int.toNat_natCast, hrp]
  have bx := namesAt_map hv _ (ix_lt hs)
  have bt := namesAt_map hv _ (ix_lt ht)
  have bp := namesAt_map hv _ (ix_lt h0)
  rw [← pathStr_ix hs] at bx
  rw [← pathStr_ix ht] at bt
  rw [← pathStr_ix h0, hp] at bp
  have hl := comLen_le (pathIx l s) (pathIx l t)
  have zx := (pathStr_size hs).1
  have zt := (pathStr_size ht).1
  have zp := (pathStr_size h0).1
  refine ⟨zx, zt, ?_, ?_, ?_, fun h1 h2 he => ?_, by unfold comCount; omega⟩
  · rw [zp, hp, List.length_take]
    unfold comCount
    omega
  · rw [bx, bp, ← List.map_take]
  · rw [bt, bp, ← List.map_take]
    unfold comCount
    rw [comLen_take]
  · have g1 : comLen (pathIx l s) (pathIx l t) < (pathIx l s).length := by rw [← zx]; exact h1
    have g2 : comLen (pathIx l s) (pathIx l t) < (pathIx l t).length := by rw [← zt]; exact h2
    have e1 : (pathStr l s)[comCount l s t]'h1 = byteOf l ((pathIx l s)[comLen (pathIx l s) (pathIx l t)]'g1) := by
      have : (pathStr l s).data.toList[comCount l s t]? = some ((pathStr l s)[comCount l s t]'h1) := List.getElem?_eq_getElem (by simpa using h1)
      rw [bx, List.getElem?_map] at this
      unfold comCount at this ⊢
      rw [List.getElem?_eq_getElem g1] at this
      injection this with this
      exact this.symm
    have e2 : (pathStr l t)[comCount l s t]'h2 = byteOf l ((pathIx l t)[comLen (pathIx l s) (pathIx l t)]'g2) := by
      have : (pathStr l t).data.toList[comCount l s t]? = some ((pathStr l t)[comCount l s t]'h2) := List.getElem?_eq_getElem (by simpa using h2)
      rw [bt, List.getElem?_map] at this
      unfold comCount at this ⊢
      rw [List.getElem?_eq_getElem g2] at this
      injection this with this
      exact this.symm
    rw [e1, e2] at he
    exact comLen_next _ _ g1 g2 (byteOf_inj hv (ix_lt hs _ (List.getElem_mem g1)) (ix_lt ht _ (List.getElem_mem g2)) he)

theorem comOk_sym (l : List Seg) (s t : ByteArray) : comOk l t s = comOk l s t := Bool.and_comm _ _
theorem comStr_sym (l : List Seg) (s t : ByteArray) : comStr l t s = comStr l s t := by
  by_cases hs : indexB l s < 0
  · unfold comStr
    rw [if_pos (.inr hs), if_pos (.inl hs)]
  by_cases ht : indexB l t < 0
  · unfold comStr
    rw [if_pos (.inl ht), if_pos (.inr ht)]
  have hp := comCount_pos (show 0 ≤ indexB l s by omega) (show 0 ≤ indexB l t by omega)
  obtain ⟨x, h1, h2⟩ := comLen_get (pathIx l s) (pathIx l t) (comCount l s t - 1) (by unfold comCount at *; omega)
  have e : comCount l t s = comCount l s t := comLen_sym _ _
  unfold comStr
  rw [if_neg (by omega), if_neg (by omega), e]
  simp only [List.getD, h1, h2]
theorem comStr_bad {l : List Seg} {s t : ByteArray} (h : comOk l s t = false) : comStr l s t = ⟨#[]⟩ := by
  unfold comStr
  refine if_pos ?_
  unfold comOk hasSeg at h
  simp at h
  by_cases hs : 0 ≤ indexB l s
  · exact .inr (h hs)
  · exact .inl (by omega)

end Go.Proofs.Ytbmfjfhmdpmlbaa

/- A path, its children's paths, its ends; a name's size: no program. (For the law FnPathOf.) -/
namespace Go.Proofs.Ytbmfjfhmdpmlbaa
open Go.RowKit

theorem namesAt_append (l : List Seg) (xs ys : List Nat) : namesAt l (xs ++ ys) = namesAt l xs ++ namesAt l ys := by
  apply WideShapes.bytes_inj
  show _ = (namesAt l xs ++ namesAt l ys).data.toList
  rw [ByteArray.data_append, Array.toList_append]
  show (xs ++ ys).flatMap (nmAt l) = xs.flatMap (nmAt l) ++ ys.flatMap (nmAt l)
  rw [List.flatMap_append]
theorem namesAt_size {l : List Seg} (hv : validB l = true) (js : List Nat) (hj : ∀ j ∈ js, j < l.length) : (namesAt l js).size = js.length := by
  have e2 : (namesAt l js).size = (namesAt l js).data.toList.length := by simp
  rw [e2, namesAt_map hv _ hj, List.length_map]
theorem cut_at {l : List Seg} (hv : validB l = true) {js : List Nat} (hj : ∀ j ∈ js, j < l.length) {i : Nat} (hi : i < js.length) : (namesAt l js).extract i (i + 1) = namesAt l [js[i]] := by
  have hm : ∀ j ∈ [js[i]], j < l.length := fun j h => by
    rw [List.mem_singleton.1 h]
    exact hj _ (List.getElem_mem hi)
  apply ByteArray.ext
  apply Array.ext'
  rw [namesAt_map hv _ hm]
  have e4 : ((namesAt l js).extract i (i + 1)).data.toList = (((namesAt l js).data.toList).drop i).take 1 := by
    simp [ByteArray.data_extract]
  rw [e4, namesAt_map hv _ hj, ← List.map_drop, List.drop_eq_getElem_cons hi]
  rfl
theorem namesStr_at {l : List Seg} (hv : validB l = true) : namesStr l = namesAt l (List.range l.length) := by
  apply WideShapes.bytes_inj
  have h1 : namesStr l = seenOf l l.length := if_pos hv
  rw [h1, ← range_names l l.length (Nat.le_refl _)]
  rfl
theorem kidsStr_at {l : List Seg} {s : ByteArray} (h : 0 ≤ indexB l s) : kidsStr l s = namesAt l (kidsOf l (indexB l s).toNat l.length) := if_neg (by omega)
theorem one_name {l : List Seg} (hv : validB l = true) {i : Nat} (hi : i < l.length) : namesAt l [i] = l[i].name := by
  rw [(nmAt_one hv hi).2]
  show (⟨([i].flatMap (nmAt l)).toArray⟩ : ByteArray) = _
  rw [List.flatMap_cons, (nmAt_one hv hi).1]
  rfl
theorem path_child {l : List Seg} {s : ByteArray} (hs : 0 ≤ indexB l s) {j : Nat} (hj : j ∈ kidsOf l (indexB l s).toNat l.length) : pathStr l (namesAt l [j]) = pathStr l s ++ namesAt l [j] := by
  have hv := index_valid hs
  have ok := (valid_all hv).1
  have hjl := kidsOf_lt hj
  have hp := kidsOf_par hj
  have hx := seek_nm hv hjl
  rw [pathStr_ix (by omega : 0 ≤ indexB l (namesAt l [j])), pathStr_ix hs]
  unfold pathIx
  rw [hx, Int.toNat_natCast, rp_step ok.down hjl hp, namesAt_append]
theorem path_head {l : List Seg} {s : ByteArray} (hs : 0 ≤ indexB l s) : (pathStr l s).extract 0 1 = (namesStr l).extract 0 1 ∧ 0 < (pathStr l s).size := by
  have hv := index_valid hs
  have ok := (valid_all hv).1
  have h1 := (valid_all hv).2.2
  rcases indexB_bd l s with a1 | ⟨_, a1⟩
  · omega
  obtain ⟨A, hA⟩ := rp_head ok _ (show (indexB l s).toNat < l.length by omega)
  have hb := ix_lt hs
  have e : pathIx l s = 0 :: A := hA
  have hz := (pathStr_size hs).1
  rw [e] at hz
  refine ⟨?_, by rw [hz]; simp⟩
  rw [pathStr_ix hs, namesStr_at hv]
  have c1 := cut_at hv hb (i := 0) (by rw [e]; simp)
  have c2 := cut_at hv (js := List.range l.length) (fun j hj => List.mem_range.1 hj) (i := 0) (by simp; omega)
  rw [show (0 : Nat) + 1 = 1 from rfl] at c1 c2
  rw [c1, c2]
  simp [e]
theorem path_tail {l : List Seg} {s : ByteArray} (hs : 0 ≤ indexB l s) : (pathStr l s).extract ((pathStr l s).size - 1) (pathStr l s).size = s := by
  have hv := index_valid hs
  have ok := (valid_all hv).1
  rcases indexB_bd l s with a1 | ⟨_, a1⟩
  · omega
  have hi : (indexB l s).toNat < l.length := by omega
  obtain ⟨A, hA⟩ := rp_last ok.down _ hi
  have e : pathIx l s = A ++ [(indexB l s).toNat] := hA
  have hz := (pathStr_size hs).1
  rw [e, List.length_append] at hz
  have hz' : (pathStr l s).size = A.length + 1 := hz
  rw [hz', Nat.add_sub_cancel, pathStr_ix hs, cut_at hv (ix_lt hs) (by rw [e]; simp)]
  have hl : (pathIx l s)[A.length]'(by rw [e]; simp) = (indexB l s).toNat := by simp [e]
  rw [hl, one_name hv hi]
  have h2 : seek l s = ((indexB l s).toNat : Int) := by
    have : indexB l s = seek l s := if_pos hv
    omega
  obtain ⟨x, hx, hn⟩ := seek_name h2
  rw [List.getElem?_eq_getElem hi] at hx
  injection hx with hx
  rw [hx, hn]
theorem size_of_name {l : List Seg} (hv : validB l = true) {k : Nat} (hk : k < l.length) : sizeB l ((namesStr l).extract k (k + 1)) = l[k].size := by
  rw [namesStr_at hv, cut_at hv (fun j hj => List.mem_range.1 hj) (by simpa using hk)]
  have e : (List.range l.length)[k]'(by simpa using hk) = k := by simp
  rw [e]
  have hx := seek_nm hv hk
  unfold sizeB
  rw [if_neg (by omega), hx, Int.toNat_natCast, sizeAt_of hk]
theorem names_size {l : List Seg} (hv : validB l = true) : (namesStr l).size = l.length := by
  rw [namesStr_at hv, namesAt_size hv _ (fun j hj => List.mem_range.1 hj), List.length_range]

/-- A call that gives 'v' over a tree and lets all be that is there. -/
def Gives (f : FuncId) (A : Option Addr) (l : List Seg) (args : Array Value) (v : Value) : Prop := ∀ w, Segs w w.heap.size A l → Calls Try.prog f args w fun e w' => e = .returned v ∧ Below w.heap.size w w'

end Go.Proofs.Ytbmfjfhmdpmlbaa
