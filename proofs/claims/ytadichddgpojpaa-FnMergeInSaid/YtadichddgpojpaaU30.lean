/- Joined: Vx Vy. -/
import Derived.Test.YtadichddgpojpaaU19
import Derived.Test.YtadichddgpojpaaU29
import Derived.Test.YtadichddgpojpaaU25
import Derived.Test.YtadichddgpojpaaU24
import Derived.Test.YtadichddgpojpaaU14
import Derived.Test.YtadichddgpojpaaU13
import Derived.Test.YtadichddgpojpaaU05
/- Chapter 9: what is cut off and what is left: where they end, their rooms and totals (plain). -/
namespace Go.Proofs.Ytadichddgpojpaa
open Go.RowKit

theorem subCut9 {l : List Seg} (hv : validB l = true) {i : Nat} (hi : i < l.length) : Cut9 (made9 l (sizeAt l) (parAt l) i) (nmAt9 l) (sizeAt l) (parAt l) l.length i (sub9 (parAt l) l.length i) :=
  made9_cut (tree9_of hv).fall hi
theorem pruneCut9 {l : List Seg} (hv : validB l = true) {i : Nat} (hi : i < l.length) : Cut9 (made9 l (sizeAt l) (pruneP (parAt l) i) 0) (nmAt9 l) (sizeAt l) (pruneP (parAt l) i) l.length 0 (sub9 (pruneP (parAt l) i) l.length 0) :=
  made9_cut (pruneP_fall (tree9_of hv).fall) (by omega)
theorem subMade9 {l : List Seg} (hv : validB l = true) {i : Nat} (hi : i < l.length) : validB (made9 l (sizeAt l) (parAt l) i) = true :=
  (subCut9 hv hi).valid hv (tree9_of hv).fall hi fun a ha => (seg9_ok hv (((subCut9 hv hi).mem a).1 ha).1).2
theorem pruneMade9 {l : List Seg} (hv : validB l = true) {i : Nat} (hi : i < l.length) : validB (made9 l (sizeAt l) (pruneP (parAt l) i) 0) = true :=
  (pruneCut9 hv hi).valid hv (pruneP_fall (tree9_of hv).fall) (by omega) fun a ha => (seg9_ok hv (((pruneCut9 hv hi).mem a).1 ha).1).2

theorem subEnds9 {l : List Seg} (hv : validB l = true) {i : Nat} (hi : i < l.length) : ∀ m a k, a ≤ m → (sub9 (parAt l) l.length i)[k]? = some a →
    endAt (made9 l (sizeAt l) (parAt l) i) k + begAt l i = endAt l a := by
  have hc := subCut9 hv hi
  have hroot := (tree9_of hv).root
  have hb := endAt_beg l i
  have key : ∀ a k, (sub9 (parAt l) l.length i)[k]? = some a → a = i → endAt (made9 l (sizeAt l) (parAt l) i) k + begAt l i = endAt l a := by
    intro a k hk hai
    subst hai
    have hk0 : k = 0 := nodup9_at hc.nodup hk hc.root
    subst hk0
    rw [hc.end0]
    omega
  intro m
  induction m with
  | zero =>
    intro a k ha hk
    by_cases hai : a = i
    · exact key a k hk hai
    · obtain ⟨x, k2, h1, _⟩ := hc.endS hk hai
      have : a = 0 := by omega
      subst this
      omega
  | succ m ih =>
    intro a k ham hk
    by_cases hai : a = i
    · exact key a k hk hai
    · obtain ⟨x, k2, h1, h2, h3, h4⟩ := hc.endS hk hai
      have haw := ((hc.mem a).1 (List.mem_of_getElem? hk)).1
      have ha0 : a ≠ 0 := by
        intro e
        subst e
        omega
      obtain ⟨q0, g1, g2, g3⟩ := endS9 hv haw ha0
      have hxq : x = q0 := by omega
      subst hxq
      have j := ih x k2 (by omega) h2
      omega
theorem pruneEnds9 {l : List Seg} (hv : validB l = true) {i : Nat} (hi : i < l.length) : ∀ m a k, a ≤ m → (sub9 (pruneP (parAt l) i) l.length 0)[k]? = some a →
    endAt (made9 l (sizeAt l) (pruneP (parAt l) i) 0) k = endAt l a := by
  have hc := pruneCut9 hv hi
  intro m
  induction m with
  | zero =>
    intro a k ha hk
    have ha0 : a = 0 := by omega
    subst ha0
    have hk0 : k = 0 := nodup9_at hc.nodup hk hc.root
    subst hk0
    rw [hc.end0, end09 hv]
  | succ m ih =>
    intro a k ham hk
    by_cases ha0 : a = 0
    · exact ih a k (by omega) hk
    · obtain ⟨x, k2, h1, h2, h3, h4⟩ := hc.endS hk ha0
      have haw := ((hc.mem a).1 (List.mem_of_getElem? hk)).1
      obtain ⟨q0, g1, g2, g3⟩ := endS9 hv haw ha0
      have hxq : x = q0 := by
        unfold pruneP at h1
        split at h1 <;> omega
      subst hxq
      have j := ih x k2 (by omega) h2
      omega

theorem roomTo9_pos {l : List Seg} : ∀ k, 0 ≤ roomTo l k
  | 0 => Int.le_refl _
  | k + 1 => by
    have := roomTo9_pos (l := l) k
    unfold roomTo
    omega
theorem begAt9_pos {l : List Seg} (hv : validB l = true) {i : Nat} (hi : i < l.length) : 0 ≤ begAt l i := by
  have := place_small hv hi
  omega
theorem subRoom9 {l : List Seg} (hv : validB l = true) {i : Nat} (hi : i < l.length) :
    roomTo (made9 l (sizeAt l) (parAt l) i) (made9 l (sizeAt l) (parAt l) i).length + begAt l i ≤ roomTo l l.length := by
  have hc := subCut9 hv hi
  have h1 := roomTo_le (l := l) l.length i hi
  have h2 := endAt_beg l i
  have h3 := sizeAt_bd hv hi
  have h4 := roomTo9_le (l := made9 l (sizeAt l) (parAt l) i) (X := roomTo l l.length - begAt l i) (made9 l (sizeAt l) (parAt l) i).length (by omega) fun k hk => by
    rw [hc.len] at hk
    have hk' : (sub9 (parAt l) l.length i)[k]? = some (sub9 (parAt l) l.length i)[k] := List.getElem?_eq_getElem hk
    have ha := ((hc.mem _).1 (List.getElem_mem hk)).1
    generalize (sub9 (parAt l) l.length i)[k] = a at hk' ha
    have h5 := subEnds9 hv hi a a k (Nat.le_refl _) hk'
    have h6 := roomTo_le (l := l) l.length a ha
    omega
  omega
theorem pruneRoom9 {l : List Seg} (hv : validB l = true) {i : Nat} (hi : i < l.length) (h0 : 0 < i) :
    roomTo l l.length = max (roomTo (made9 l (sizeAt l) (pruneP (parAt l) i) 0) (made9 l (sizeAt l) (pruneP (parAt l) i) 0).length) (roomTo (made9 l (sizeAt l) (parAt l) i) (made9 l (sizeAt l) (parAt l) i).length + begAt l i) := by
  have hs := subCut9 hv hi
  have hc := pruneCut9 hv hi
  have hf := (tree9_of hv).fall
  have hsub := subRoom9 hv hi
  have hrest : roomTo (made9 l (sizeAt l) (pruneP (parAt l) i) 0) (made9 l (sizeAt l) (pruneP (parAt l) i) 0).length ≤ roomTo l l.length := by
    refine roomTo9_le _ (roomTo9_pos _) fun k hk => ?_
    rw [hc.len] at hk
    have hk' : (sub9 (pruneP (parAt l) i) l.length 0)[k]? = some (sub9 (pruneP (parAt l) i) l.length 0)[k] := List.getElem?_eq_getElem hk
    have ha := ((hc.mem _).1 (List.getElem_mem hk)).1
    generalize (sub9 (pruneP (parAt l) i) l.length 0)[k] = a at hk' ha
    rw [pruneEnds9 hv hi a a k (Nat.le_refl _) hk']
    exact roomTo_le _ _ _ ha
  have hall := roomTo9_le (l := l) (X := max (roomTo (made9 l (sizeAt l) (pruneP (parAt l) i) 0) (made9 l (sizeAt l) (pruneP (parAt l) i) 0).length) (roomTo (made9 l (sizeAt l) (parAt l) i) (made9 l (sizeAt l) (parAt l) i).length + begAt l i)) l.length
    (by have := roomTo9_pos (l := made9 l (sizeAt l) (pruneP (parAt l) i) 0) (made9 l (sizeAt l) (pruneP (parAt l) i) 0).length; omega) fun j hj => by
    by_cases h : Anc9 (parAt l) i j
    · obtain ⟨k, hk⟩ := List.mem_iff_getElem?.1 ((hs.mem j).2 ⟨hj, h⟩)
      have h5 := subEnds9 hv hi j j k (Nat.le_refl _) hk
      have h6 := roomTo_le (l := made9 l (sizeAt l) (parAt l) i) (made9 l (sizeAt l) (parAt l) i).length k (by rw [hs.len]; exact (List.getElem?_eq_some_iff.1 hk).1)
      omega
    · obtain ⟨k, hk⟩ := List.mem_iff_getElem?.1 ((hc.mem j).2 ⟨hj, (anc9_prune hf h0 hj).2 ⟨(tree9_of hv).all j j (Nat.le_refl _) hj, h⟩⟩)
      have h5 := pruneEnds9 hv hi j j k (Nat.le_refl _) hk
      have h6 := roomTo_le (l := made9 l (sizeAt l) (pruneP (parAt l) i) 0) (made9 l (sizeAt l) (pruneP (parAt l) i) 0).length k (by rw [hc.len]; exact (List.getElem?_eq_some_iff.1 hk).1)
      omega
  omega

/-- The names of what is built are the tree's. -/
theorem Cut9.short {l l' : List Seg} {sz ps : Nat → Int} {r : Nat} {W : List Nat} (h : Cut9 l' (nmAt9 l) sz ps l.length r W) (hn : ∀ s ∈ l, s.name.size ≤ 8) : ∀ s ∈ l', s.name.size ≤ 8 := fun s hs => by
  obtain ⟨k, hk⟩ := List.mem_iff_getElem?.1 hs
  have hkl : k < W.length := by rw [← h.len]; exact (List.getElem?_eq_some_iff.1 hk).1
  have hg := h.get k W[k] (List.getElem?_eq_getElem hkl)
  have ha := ((h.mem _).1 (List.getElem_mem hkl)).1
  rw [hk] at hg
  injection hg with hg
  rw [hg]
  show (nmAt9 l W[k]).size ≤ 8
  rw [nmAt9_of ha]
  exact hn _ (List.getElem_mem ha)

/-- What the law of Prune says of a segment cut off. -/
structure SubSays (l : List Seg) (s : ByteArray) : Prop where
  short : ∀ x ∈ subL l s, x.name.size ≤ 8
  len : (subL l s).length ≤ l.length
  room : roomB (subL l s) + addrB l s ≤ roomB l
  rb : -1 ≤ roomB (subL l s) ∧ roomB (subL l s) ≤ 792
  ab : -1 ≤ addrB l s ∧ addrB l s ≤ 792
  first : ∃ z, (subL l s)[0]? = some (⟨s, z, -1⟩ : Seg)
theorem roomB9_bd (l : List Seg) : -1 ≤ roomB l ∧ roomB l ≤ 792 := by
  unfold roomB
  split
  · have := roomTo_bd (by assumption) l.length (Nat.le_refl _)
    omega
  · omega
theorem addrB9_bd (l : List Seg) (s : ByteArray) : -1 ≤ addrB l s ∧ addrB l s ≤ 792 := by
  unfold addrB
  by_cases h : indexB l s < 0
  · rw [if_pos h]; omega
  · rw [if_neg h]
    obtain ⟨hv, hi⟩ := index9_valid (l := l) (s := s) (by omega)
    have h1 := place_small hv hi
    have h2 := endAt_beg l (ix9 l s)
    have h3 := sizeAt_bd hv hi
    unfold ix9 at h1 h2 h3
    omega
theorem nameIx9 {l : List Seg} {s : ByteArray} (h : 0 ≤ indexB l s) : nmAt9 l (ix9 l s) = s := by
  obtain ⟨hv, hi⟩ := index9_valid h
  have h1 : indexB l s = seek l s := if_pos hv
  have h2 : seek l s = ((ix9 l s : Nat) : Int) := by unfold ix9; omega
  obtain ⟨x, hx, hn⟩ := seek_name h2
  rw [nmAt9_of hi]
  rw [List.getElem?_eq_getElem hi] at hx
  injection hx with hx
  rw [hx]
  exact hn
theorem sub9_says {l : List Seg} {s : ByteArray} (hn : ∀ x ∈ l, x.name.size ≤ 8) (h : subOk l s = true) : SubSays l s := by
  have h0 : 0 ≤ indexB l s := of_decide_eq_true h
  obtain ⟨hv, hi⟩ := index9_valid h0
  have hL : subL l s = made9 l (sizeAt l) (parAt l) (ix9 l s) := if_pos h
  have hc := subCut9 hv hi
  have hA : addrB l s = begAt l (ix9 l s) := if_neg (by omega)
  refine ⟨?_, ?_, ?_, roomB9_bd _, addrB9_bd _ _, ?_⟩
  · rw [hL]; exact hc.short hn
  · rw [hL]; exact made9_len (tree9_of hv).fall hi
  · rw [hL, hA]
    have h1 : roomB (made9 l (sizeAt l) (parAt l) (ix9 l s)) = roomTo _ _ := if_pos (subMade9 hv hi)
    have h2 : roomB l = roomTo l l.length := if_pos hv
    rw [h1, h2]
    exact subRoom9 hv hi
  · have h1 := hc.get 0 _ hc.root
    rw [hc.rootP, nameIx9 h0] at h1
    rw [hL]
    exact ⟨_, h1⟩

/-- What the law of Prune says of what is left. -/
structure PruneSays (l : List Seg) (s : ByteArray) : Prop where
  sub : subOk l s = true
  short : ∀ x ∈ pruneL l s, x.name.size ≤ 8
  len : (pruneL l s).length + (subL l s).length = l.length
  total : totalB (pruneL l s) + totalB (subL l s) = totalB l
  t1 : -1 ≤ totalB (pruneL l s) ∧ totalB (pruneL l s) ≤ 792
  t2 : -1 ≤ totalB (subL l s) ∧ totalB (subL l s) ≤ 792
  room : roomB l = max (roomB (pruneL l s)) (roomB (subL l s) + addrB l s)
theorem sumTo9_bd {l : List Seg} (hv : validB l = true) : ∀ k, k ≤ l.length → 0 ≤ sumTo l k ∧ sumTo l k ≤ 99 * k
  | 0, _ => by simp [sumTo]
  | k + 1, hk => by
    have h1 := sumTo9_bd hv k (by omega)
    have h2 := sizeAt_bd hv (show k < l.length by omega)
    rw [sumTo_succ (by omega), ← sizeAt_of (show k < l.length by omega)]
    omega
theorem totalB9_bd (l : List Seg) : -1 ≤ totalB l ∧ totalB l ≤ 792 := by
  unfold totalB
  split
  · have := sumTo9_bd (by assumption) l.length (Nat.le_refl _)
    have := (valid_all (by assumption : validB l = true)).2.1
    omega
  · omega
theorem prune9_says {l : List Seg} {s : ByteArray} (hn : ∀ x ∈ l, x.name.size ≤ 8) (h : pruneOk l s = true) : PruneSays l s := by
  have h0 : 0 < indexB l s := of_decide_eq_true h
  have hso : subOk l s = true := decide_eq_true (by omega)
  obtain ⟨hv, hi⟩ := index9_valid (l := l) (s := s) (by omega)
  have hL : subL l s = made9 l (sizeAt l) (parAt l) (ix9 l s) := if_pos hso
  have hP : pruneL l s = made9 l (sizeAt l) (pruneP (parAt l) (ix9 l s)) 0 := if_pos h
  have hs := subCut9 hv hi
  have hc := pruneCut9 hv hi
  have hip : 0 < ix9 l s := by unfold ix9; omega
  have hA : addrB l s = begAt l (ix9 l s) := if_neg (by omega)
  refine ⟨hso, ?_, ?_, ?_, totalB9_bd _, totalB9_bd _, ?_⟩
  · rw [hP]; exact hc.short hn
  · rw [hP, hL, hc.len, hs.len]
    exact (prune9_sum hv hi hip (f := sizeAt l)).2
  · rw [hP, hL]
    have h1 : totalB (made9 l (sizeAt l) (pruneP (parAt l) (ix9 l s)) 0) = sumTo _ _ := if_pos (pruneMade9 hv hi)
    have h2 : totalB (made9 l (sizeAt l) (parAt l) (ix9 l s)) = sumTo _ _ := if_pos (subMade9 hv hi)
    have h3 : totalB l = sumTo l l.length := if_pos hv
    rw [h1, h2, h3, hc.sum, hs.sum, ← range9_sum l.length (Nat.le_refl _)]
    exact (prune9_sum hv hi hip (f := sizeAt l)).1
  · rw [hP, hL, hA]
    have h1 : roomB (made9 l (sizeAt l) (pruneP (parAt l) (ix9 l s)) 0) = roomTo _ _ := if_pos (pruneMade9 hv hi)
    have h2 : roomB (made9 l (sizeAt l) (parAt l) (ix9 l s)) = roomTo _ _ := if_pos (subMade9 hv hi)
    have h3 : roomB l = roomTo l l.length := if_pos hv
    rw [h1, h2, h3]
    exact pruneRoom9 hv hi hip

end Go.Proofs.Ytadichddgpojpaa
/- The draw and the walk of the law FnPrune. -/
namespace Go.Proofs.Ytadichddgpojpaa
open Go.RowKit

set_option maxRecDepth 100000 in
set_option maxHeartbeats 1000000 in
theorem drawPrune9 (hgood : GoodSaid) (A0 : Option Addr) (n c0 : Nat) (w : World) (hn : n ≤ c0) (hx : ∀ b, w.heap.size ≤ b → Bytes w b A0 n) :
    Calls Try.prog 25 #[.slice A0 n c0] w fun e w' => ∃ A l c x, e = .returned (.tuple #[.slice A (List.length l) c, .string x]) ∧ TreeHas w' A l c ∧ x.size ≤ 2 ∧ Below w.heap.size w w' := by
  have HO := Lib.hid (l13Open_any A0 n c0 w hn hx)
  have HP := Lib.hid (fun b w h => l1Place_plain hgood b 0 w h (Nat.zero_le _))
  clear hx hgood
  go_enter Try.func25, Try.ntmps25
  go_wp2_with fail
  refine Calls.mono HO.out ?_
  rintro e w1 ⟨b, rfl, hbb, hr, hb1⟩
  have HB1 := Lib.hid hb1
  have HPP := Lib.hid (HP.out b w1 hr)
  clear hr hb1 HP HO
  go_wp2_with fail
  refine Calls.mono HPP.out ?_
  rintro e w2 ⟨A, l, c, x, rfl, ⟨hs, hs'⟩, hl, hsh, hxx, ho, hr2⟩
  have HT : Hid (TreeHas w2 A l c) := ⟨hs, hl, hsh⟩
  have HB2 := Lib.hid (only_below HB1.out hbb ho)
  have HX := Lib.hid hxx
  clear hs hs' hl hsh hxx ho hr2 HPP
  go_wp2
  refine bodyPost_ret (v := .tuple #[.slice A l.length c, .string x]) (by simp [results, Try.results25, go_sem]) rfl ?_
  exact ⟨A, l, c, x, rfl, HT.out, HX.out, HB2.out⟩

theorem short9_of {l : List Seg} (h : ∀ s ∈ l, s.name.size ≤ 8) : Short l := fun x hx => by
  have := h x hx
  unfold maxLen
  omega
theorem off9_prune {l : List Seg} {s : ByteArray} (h : pruneOk l s = false) : pruneL l s = [] := if_neg (by rw [h]; decide)
theorem off9_sub {l : List Seg} {s : ByteArray} (h : subOk l s = false) : subL l s = [] := if_neg (by rw [h]; decide)

set_option maxRecDepth 100000 in
set_option maxHeartbeats 16000000 in
theorem pruneLaw_any (hgood : GoodSaid) (A0 : Option Addr) (n c0 : Nat) (w : World) (hn : n ≤ c0) (hm : n ≤ maxLen) (hx : ∀ b, w.heap.size ≤ b → Bytes w b A0 n) :
    Calls Try.prog 4 #[.slice A0 n c0] w fun e w' => e = .returned (.bool true) ∧ Below w.heap.size w w' := by
  unfold maxLen at hm
  by_cases hbig : 1048576 < n
  · clear hx hgood
    go_enter Try.func4, Try.ntmps4
    go_wp2
    go_ret
    exact ⟨rfl, Below.refl _ _⟩
  have HD := Lib.hid (drawPrune9 hgood A0 n c0 w hn hx)
  clear hx hgood
  go_enter Try.func4, Try.ntmps4
  go_wp2_with fail
  refine Calls.mono HD.out ?_
  rintro e w1 ⟨A, l, c, s, rfl, ⟨hs1, ⟨hl9, hlc, hcm⟩, hnm⟩, hsz, hb1⟩
  have hsh : Short l := short9_of hnm
  have hs' : s.size ≤ 1048576 := by omega
  have HPI := Lib.hid (fun W h => prune_any A l c s W h (by omega) hlc hcm hsh hs')
  have HPS := Lib.hid (fun W h => specPrune_any A l c s W h (by omega) hsh hs')
  have HSI := Lib.hid (fun W h => subTree_any A l c s W h (by omega) hlc hcm hsh hs')
  have HSS := Lib.hid (fun W h => specSubTree_any A l c s W h (by omega) hsh hs')
  have HRT := Lib.hid (fun W h => roomOf_any A l c W h (by omega) hlc hcm hsh)
  have HAT := Lib.hid (fun W h => addressOf_any A l c s W h (by omega) hlc hcm hsh)
  have HTT := Lib.hid (fun W h => totalSize_any A l c W h (by omega) hlc hcm hsh)
  have HRX : Hid (∀ X (t : List Seg) k W, Segs W W.heap.size X t → t.length ≤ 9 → t.length ≤ k → k ≤ 9223372036854775807 → (∀ x ∈ t, x.name.size ≤ 8) → Calls Try.prog 20 #[.slice X t.length k] W fun e w' => e = .returned (.int .i64 (roomB t)) ∧ Below W.heap.size W w') := fun X t k W h h1 h2 h3 h4 => roomOf_any X t k W h (by omega) h2 h3 (short9_of h4)
  have HTX : Hid (∀ X (t : List Seg) k W, Segs W W.heap.size X t → t.length ≤ 9 → t.length ≤ k → k ≤ 9223372036854775807 → (∀ x ∈ t, x.name.size ≤ 8) → Calls Try.prog 24 #[.slice X t.length k] W fun e w' => e = .returned (.int .i64 (totalB t)) ∧ Below W.heap.size W w') := fun X t k W h h1 h2 h3 h4 => totalSize_any X t k W h (by omega) h2 h3 (short9_of h4)
  unfold TreeAns at HPI HPS HSI HSS
  have HSA := Lib.hid (fun h => sub9_says (s := s) hnm h)
  have HPA := Lib.hid (fun h => prune9_says (s := s) hnm h)
  have HB1 := Lib.hid hb1
  have HW := Lib.hid hs1
  clear hs1 hnm hb1 hsh HD
  cases hso : subOk l s with
  | false =>
    have hpo : pruneOk l s = false := by
      cases h : pruneOk l s with
      | false => rfl
      | true => have h1 := (HPA.out h).sub; rw [hso] at h1; cases h1
    rw [hpo, off9_prune hpo] at HPI HPS
    rw [hso, off9_sub hso] at HSI HSS
    clear hso hpo HSA HPA
    go_wp2_with fail
    refine Calls.mono (HPI.out w1 HW.out) ?_
    rintro e w2 ⟨v2, rfl, ho2, hb2⟩
    have HB2 : Hid (Below w.heap.size w w2) := HB1.out.trans (hb2.mono HB1.out.size)
    have HW := Lib.hid ((HW.out.below hb2).more hb2.size)
    have O2 := Lib.hid ho2
    clear hb2 HB1 ho2 HPI
    go_wp2_with fail
    refine Calls.mono (HPS.out w2 HW.out) ?_
    rintro e w3 ⟨v3, rfl, ho3, hb3⟩
    have HB3 : Hid (Below w.heap.size w w3) := HB2.out.trans (hb3.mono HB2.out.size)
    have HW := Lib.hid ((HW.out.below hb3).more hb3.size)
    have O2 := Lib.hid (treeBelow O2.out hb3)
    have O3 := Lib.hid ho3
    clear hb3 HB2 ho3 HPS
    go_wp2_with fail
    refine Calls.mono (HSI.out w3 HW.out) ?_
    rintro e w4 ⟨v4, rfl, ho4, hb4⟩
    have HB4 : Hid (Below w.heap.size w w4) := HB3.out.trans (hb4.mono HB3.out.size)
    have HW := Lib.hid ((HW.out.below hb4).more hb4.size)
    have O2 := Lib.hid (treeBelow O2.out hb4)
    have O3 := Lib.hid (treeBelow O3.out hb4)
    have O4 := Lib.hid ho4
    clear hb4 HB3 ho4 HSI
    go_wp2_with fail
    refine Calls.mono (HSS.out w4 HW.out) ?_
    rintro e w5 ⟨v5, rfl, ho5, hb5⟩
    have HB5 : Hid (Below w.heap.size w w5) := HB4.out.trans (hb5.mono HB4.out.size)
    have HW := Lib.hid ((HW.out.below hb5).more hb5.size)
    have O2 := Lib.hid (treeBelow O2.out hb5)
    have O3 := Lib.hid (treeBelow O3.out hb5)
    have O4 := Lib.hid (treeBelow O4.out hb5)
    have O5 := Lib.hid ho5
    obtain ⟨A2v, cap2, rfl, hc2l, hc2m, -⟩ := treeCap O2.out
    obtain ⟨A3v, cap3, rfl, -, -, -⟩ := treeCap O3.out
    obtain ⟨A4v, cap4, rfl, hc4l, hc4m, -⟩ := treeCap O4.out
    obtain ⟨A5v, cap5, rfl, -, -, -⟩ := treeCap O5.out
    clear hb5 HB4 ho5 HSS
    go_wp2_with fail
    refine Calls.mono (soTree_any A2v A3v [] cap2 cap3 w5 (treeIs O2.out) (treeIs O3.out) (by simp)) ?_
    rintro e w6 ⟨rfl, hb6⟩
    have HB6 : Hid (Below w.heap.size w w6) := HB5.out.trans (hb6.mono HB5.out.size)
    have HW := Lib.hid ((HW.out.below hb6).more hb6.size)
    have O2 := Lib.hid (treeBelow O2.out hb6)
    have O3 := Lib.hid (treeBelow O3.out hb6)
    have O4 := Lib.hid (treeBelow O4.out hb6)
    have O5 := Lib.hid (treeBelow O5.out hb6)
    clear hb6 HB5
    go_wp2_with fail
    refine Calls.mono (soTree_any A4v A5v [] cap4 cap5 w6 (treeIs O4.out) (treeIs O5.out) (by simp)) ?_
    rintro e w7 ⟨rfl, hb7⟩
    have HB7 : Hid (Below w.heap.size w w7) := HB6.out.trans (hb7.mono HB6.out.size)
    have HW := Lib.hid ((HW.out.below hb7).more hb7.size)
    have O2 := Lib.hid (treeBelow O2.out hb7)
    have O3 := Lib.hid (treeBelow O3.out hb7)
    have O4 := Lib.hid (treeBelow O4.out hb7)
    have O5 := Lib.hid (treeBelow O5.out hb7)
    clear hb7 HB6
    go_wp2
    go_ret
    exact ⟨rfl, HB7.out⟩
  | true =>
    obtain ⟨hT8, hTl, hroom, hrb, hab, z, hfirst⟩ := HSA.out hso
    have hT0 : 0 < (subL l s).length := (List.getElem?_eq_some_iff.1 hfirst).1
    have hrl := roomB9_bd l
    have HF := Lib.hid hfirst
    have HT8 := Lib.hid hT8
    rw [hso] at HSI HSS
    clear hfirst hT8 HSA
    cases hpo : pruneOk l s with
    | false =>
      rw [hpo, off9_prune hpo] at HPI HPS
      clear hso hpo HPA
      generalize subL l s = T at *
      have hw1 : IntKind.i64.wrap (roomB T + addrB l s) = roomB T + addrB l s := IntWalk.i64_in _ (by omega)
      generalize addrB l s = ad at *
      generalize hRM : roomB l = rl at *
      have hT0' : (0 : Int) < (T.length : Int) := by omega
      go_wp2_with fail
      refine Calls.mono (HPI.out w1 HW.out) ?_
      rintro e w2 ⟨v2, rfl, ho2, hb2⟩
      have HB2 : Hid (Below w.heap.size w w2) := HB1.out.trans (hb2.mono HB1.out.size)
      have HW := Lib.hid ((HW.out.below hb2).more hb2.size)
      have O2 := Lib.hid ho2
      clear hb2 HB1 ho2 HPI
      go_wp2_with fail
      refine Calls.mono (HPS.out w2 HW.out) ?_
      rintro e w3 ⟨v3, rfl, ho3, hb3⟩
      have HB3 : Hid (Below w.heap.size w w3) := HB2.out.trans (hb3.mono HB2.out.size)
      have HW := Lib.hid ((HW.out.below hb3).more hb3.size)
      have O2 := Lib.hid (treeBelow O2.out hb3)
      have O3 := Lib.hid ho3
      clear hb3 HB2 ho3 HPS
      go_wp2_with fail
      refine Calls.mono (HSI.out w3 HW.out) ?_
      rintro e w4 ⟨v4, rfl, ho4, hb4⟩
      have HB4 : Hid (Below w.heap.size w w4) := HB3.out.trans (hb4.mono HB3.out.size)
      have HW := Lib.hid ((HW.out.below hb4).more hb4.size)
      have O2 := Lib.hid (treeBelow O2.out hb4)
      have O3 := Lib.hid (treeBelow O3.out hb4)
      have O4 := Lib.hid ho4
      clear hb4 HB3 ho4 HSI
      go_wp2_with fail
      refine Calls.mono (HSS.out w4 HW.out) ?_
      rintro e w5 ⟨v5, rfl, ho5, hb5⟩
      have HB5 : Hid (Below w.heap.size w w5) := HB4.out.trans (hb5.mono HB4.out.size)
      have HW := Lib.hid ((HW.out.below hb5).more hb5.size)
      have O2 := Lib.hid (treeBelow O2.out hb5)
      have O3 := Lib.hid (treeBelow O3.out hb5)
      have O4 := Lib.hid (treeBelow O4.out hb5)
      have O5 := Lib.hid ho5
      obtain ⟨A2v, cap2, rfl, hc2l, hc2m, -⟩ := treeCap O2.out
      obtain ⟨A3v, cap3, rfl, -, -, -⟩ := treeCap O3.out
      obtain ⟨A4v, cap4, rfl, hc4l, hc4m, -⟩ := treeCap O4.out
      obtain ⟨A5v, cap5, rfl, -, -, -⟩ := treeCap O5.out
      clear hb5 HB4 ho5 HSS
      go_wp2_with fail
      refine Calls.mono (soTree_any A2v A3v [] cap2 cap3 w5 (treeIs O2.out) (treeIs O3.out) (by simp)) ?_
      rintro e w6 ⟨rfl, hb6⟩
      have HB6 : Hid (Below w.heap.size w w6) := HB5.out.trans (hb6.mono HB5.out.size)
      have HW := Lib.hid ((HW.out.below hb6).more hb6.size)
      have O2 := Lib.hid (treeBelow O2.out hb6)
      have O3 := Lib.hid (treeBelow O3.out hb6)
      have O4 := Lib.hid (treeBelow O4.out hb6)
      have O5 := Lib.hid (treeBelow O5.out hb6)
      clear hb6 HB5
      go_wp2_with fail
      refine Calls.mono (soTree_any A4v A5v T cap4 cap5 w6 (treeIs O4.out) (treeIs O5.out) (by omega)) ?_
      rintro e w7 ⟨rfl, hb7⟩
      have HB7 : Hid (Below w.heap.size w w7) := HB6.out.trans (hb7.mono HB6.out.size)
      have HW := Lib.hid ((HW.out.below hb7).more hb7.size)
      have O2 := Lib.hid (treeBelow O2.out hb7)
      have O3 := Lib.hid (treeBelow O3.out hb7)
      have O4 := Lib.hid (treeBelow O4.out hb7)
      have O5 := Lib.hid (treeBelow O5.out hb7)
      clear hb7 HB6
      go_wp2_with fail
      refine Calls.mono (HRX.out A4v T cap4 w7 (treeIs O4.out) (by omega) hc4l hc4m HT8.out) ?_
      rintro e w8 ⟨rfl, hb8⟩
      have HB8 : Hid (Below w.heap.size w w8) := HB7.out.trans (hb8.mono HB7.out.size)
      have HW := Lib.hid ((HW.out.below hb8).more hb8.size)
      have O2 := Lib.hid (treeBelow O2.out hb8)
      have O3 := Lib.hid (treeBelow O3.out hb8)
      have O4 := Lib.hid (treeBelow O4.out hb8)
      have O5 := Lib.hid (treeBelow O5.out hb8)
      clear hb8 HB7
      go_wp2_with fail
      refine Calls.mono (HAT.out w8 HW.out) ?_
      rintro e w9 ⟨rfl, hb9⟩
      have HB9 : Hid (Below w.heap.size w w9) := HB8.out.trans (hb9.mono HB8.out.size)
      have HW := Lib.hid ((HW.out.below hb9).more hb9.size)
      have O2 := Lib.hid (treeBelow O2.out hb9)
      have O3 := Lib.hid (treeBelow O3.out hb9)
      have O4 := Lib.hid (treeBelow O4.out hb9)
      have O5 := Lib.hid (treeBelow O5.out hb9)
      clear hb9 HB8
      go_wp2_with fail
      refine Calls.mono (HRT.out w9 HW.out) ?_
      rintro e w10 ⟨rfl, hb10⟩
      have HB10 : Hid (Below w.heap.size w w10) := HB9.out.trans (hb10.mono HB9.out.size)
      have HW := Lib.hid ((HW.out.below hb10).more hb10.size)
      have O2 := Lib.hid (treeBelow O2.out hb10)
      have O3 := Lib.hid (treeBelow O3.out hb10)
      have O4 := Lib.hid (treeBelow O4.out hb10)
      have O5 := Lib.hid (treeBelow O5.out hb10)
      clear hb10 HB9
      obtain ⟨g4, o4, hA4, hg4, hcs4⟩ := treeIs O4.out hT0
      subst hA4
      obtain ⟨q0, -, q2⟩ := hcs4 0 _ HF.out
      simp only [Nat.zero_mul, Nat.add_zero] at q0 q2
      clear hcs4
      go_wp2
      go_ret
      exact ⟨rfl, HB10.out⟩
    | true =>
      obtain ⟨-, hR8, hlen, htot, ht1, ht2, hmax⟩ := HPA.out hpo
      have HR8 := Lib.hid hR8
      rw [hpo] at HPI HPS
      clear hso hpo HPA hR8
      generalize subL l s = T at *
      generalize pruneL l s = R at *
      have hw1 : IntKind.i64.wrap (roomB T + addrB l s) = roomB T + addrB l s := IntWalk.i64_in _ (by omega)
      have hw2 : IntKind.i64.wrap (totalB R + totalB T) = totalB R + totalB T := IntWalk.i64_in _ (by omega)
      have hw3 : IntKind.i64.wrap ((R.length : Int) + (T.length : Int)) = (R.length : Int) + (T.length : Int) := IntWalk.i64_in _ (by omega)
      have hlen' : (R.length : Int) + (T.length : Int) = (l.length : Int) := by omega
      have hR9 : R.length ≤ 9 := by omega
      have hmax' := hmax.symm
      clear hlen hmax
      obtain ⟨ad, HAD⟩ : ∃ x, Hid (addrB l s = x) := ⟨_, rfl⟩
      obtain ⟨rl, HRL⟩ : ∃ x, Hid (roomB l = x) := ⟨_, rfl⟩
      obtain ⟨tl, HTL⟩ : ∃ x, Hid (totalB l = x) := ⟨_, rfl⟩
      rw [HAD.out] at hw1 hmax' hroom hab HAT
      rw [HRL.out] at hmax' hroom hrl HRT
      rw [HTL.out] at htot HTT
      have hT0' : (0 : Int) < (T.length : Int) := by omega
      go_wp2_with fail
      refine Calls.mono (HPI.out w1 HW.out) ?_
      rintro e w2 ⟨v2, rfl, ho2, hb2⟩
      have HB2 : Hid (Below w.heap.size w w2) := HB1.out.trans (hb2.mono HB1.out.size)
      have HW := Lib.hid ((HW.out.below hb2).more hb2.size)
      have O2 := Lib.hid ho2
      clear hb2 HB1 ho2 HPI
      go_wp2_with fail
      refine Calls.mono (HPS.out w2 HW.out) ?_
      rintro e w3 ⟨v3, rfl, ho3, hb3⟩
      have HB3 : Hid (Below w.heap.size w w3) := HB2.out.trans (hb3.mono HB2.out.size)
      have HW := Lib.hid ((HW.out.below hb3).more hb3.size)
      have O2 := Lib.hid (treeBelow O2.out hb3)
      have O3 := Lib.hid ho3
      clear hb3 HB2 ho3 HPS
      go_wp2_with fail
      refine Calls.mono (HSI.out w3 HW.out) ?_
      rintro e w4 ⟨v4, rfl, ho4, hb4⟩
      have HB4 : Hid (Below w.heap.size w w4) := HB3.out.trans (hb4.mono HB3.out.size)
      have HW := Lib.hid ((HW.out.below hb4).more hb4.size)
      have O2 := Lib.hid (treeBelow O2.out hb4)
      have O3 := Lib.hid (treeBelow O3.out hb4)
      have O4 := Lib.hid ho4
      clear hb4 HB3 ho4 HSI
      go_wp2_with fail
      refine Calls.mono (HSS.out w4 HW.out) ?_
      rintro e w5 ⟨v5, rfl, ho5, hb5⟩
      have HB5 : Hid (Below w.heap.size w w5) := HB4.out.trans (hb5.mono HB4.out.size)
      have HW := Lib.hid ((HW.out.below hb5).more hb5.size)
      have O2 := Lib.hid (treeBelow O2.out hb5)
      have O3 := Lib.hid (treeBelow O3.out hb5)
      have O4 := Lib.hid (treeBelow O4.out hb5)
      have O5 := Lib.hid ho5
      obtain ⟨A2v, cap2, rfl, hc2l, hc2m, -⟩ := treeCap O2.out
      obtain ⟨A3v, cap3, rfl, -, -, -⟩ := treeCap O3.out
      obtain ⟨A4v, cap4, rfl, hc4l, hc4m, -⟩ := treeCap O4.out
      obtain ⟨A5v, cap5, rfl, -, -, -⟩ := treeCap O5.out
      clear hb5 HB4 ho5 HSS
      go_wp2_with fail
      refine Calls.mono (soTree_any A2v A3v R cap2 cap3 w5 (treeIs O2.out) (treeIs O3.out) (by omega)) ?_
      rintro e w6 ⟨rfl, hb6⟩
      have HB6 : Hid (Below w.heap.size w w6) := HB5.out.trans (hb6.mono HB5.out.size)
      have HW := Lib.hid ((HW.out.below hb6).more hb6.size)
      have O2 := Lib.hid (treeBelow O2.out hb6)
      have O3 := Lib.hid (treeBelow O3.out hb6)
      have O4 := Lib.hid (treeBelow O4.out hb6)
      have O5 := Lib.hid (treeBelow O5.out hb6)
      clear hb6 HB5
      go_wp2_with fail
      refine Calls.mono (soTree_any A4v A5v T cap4 cap5 w6 (treeIs O4.out) (treeIs O5.out) (by omega)) ?_
      rintro e w7 ⟨rfl, hb7⟩
      have HB7 : Hid (Below w.heap.size w w7) := HB6.out.trans (hb7.mono HB6.out.size)
      have HW := Lib.hid ((HW.out.below hb7).more hb7.size)
      have O2 := Lib.hid (treeBelow O2.out hb7)
      have O3 := Lib.hid (treeBelow O3.out hb7)
      have O4 := Lib.hid (treeBelow O4.out hb7)
      have O5 := Lib.hid (treeBelow O5.out hb7)
      clear hb7 HB6
      go_wp2_with fail
      refine Calls.mono (HRX.out A4v T cap4 w7 (treeIs O4.out) (by omega) hc4l hc4m HT8.out) ?_
      rintro e w8 ⟨rfl, hb8⟩
      have HB8 : Hid (Below w.heap.size w w8) := HB7.out.trans (hb8.mono HB7.out.size)
      have HW := Lib.hid ((HW.out.below hb8).more hb8.size)
      have O2 := Lib.hid (treeBelow O2.out hb8)
      have O3 := Lib.hid (treeBelow O3.out hb8)
      have O4 := Lib.hid (treeBelow O4.out hb8)
      have O5 := Lib.hid (treeBelow O5.out hb8)
      clear hb8 HB7
      go_wp2_with fail
      refine Calls.mono (HAT.out w8 HW.out) ?_
      rintro e w9 ⟨rfl, hb9⟩
      have HB9 : Hid (Below w.heap.size w w9) := HB8.out.trans (hb9.mono HB8.out.size)
      have HW := Lib.hid ((HW.out.below hb9).more hb9.size)
      have O2 := Lib.hid (treeBelow O2.out hb9)
      have O3 := Lib.hid (treeBelow O3.out hb9)
      have O4 := Lib.hid (treeBelow O4.out hb9)
      have O5 := Lib.hid (treeBelow O5.out hb9)
      clear hb9 HB8
      go_wp2_with fail
      refine Calls.mono (HRT.out w9 HW.out) ?_
      rintro e w10 ⟨rfl, hb10⟩
      have HB10 : Hid (Below w.heap.size w w10) := HB9.out.trans (hb10.mono HB9.out.size)
      have HW := Lib.hid ((HW.out.below hb10).more hb10.size)
      have O2 := Lib.hid (treeBelow O2.out hb10)
      have O3 := Lib.hid (treeBelow O3.out hb10)
      have O4 := Lib.hid (treeBelow O4.out hb10)
      have O5 := Lib.hid (treeBelow O5.out hb10)
      clear hb10 HB9
      obtain ⟨g4, o4, hA4, hg4, hcs4⟩ := treeIs O4.out hT0
      subst hA4
      obtain ⟨q0, -, q2⟩ := hcs4 0 _ HF.out
      simp only [Nat.zero_mul, Nat.add_zero] at q0 q2
      clear hcs4
      go_wp2_with fail
      refine Calls.mono (HTX.out A2v R cap2 w10 (treeIs O2.out) (by omega) hc2l hc2m HR8.out) ?_
      rintro e w11 ⟨rfl, hb11⟩
      have HB11 : Hid (Below w.heap.size w w11) := HB10.out.trans (hb11.mono HB10.out.size)
      have HW := Lib.hid ((HW.out.below hb11).more hb11.size)
      have O2 := Lib.hid (treeBelow O2.out hb11)
      have O3 := Lib.hid (treeBelow O3.out hb11)
      have O4 := Lib.hid (treeBelow O4.out hb11)
      have O5 := Lib.hid (treeBelow O5.out hb11)
      clear hb11 HB10
      go_wp2_with fail
      refine Calls.mono (HTX.out (some ⟨g4, o4, none⟩) T cap4 w11 (treeIs O4.out) (by omega) hc4l hc4m HT8.out) ?_
      rintro e w12 ⟨rfl, hb12⟩
      have HB12 : Hid (Below w.heap.size w w12) := HB11.out.trans (hb12.mono HB11.out.size)
      have HW := Lib.hid ((HW.out.below hb12).more hb12.size)
      have O2 := Lib.hid (treeBelow O2.out hb12)
      have O3 := Lib.hid (treeBelow O3.out hb12)
      have O4 := Lib.hid (treeBelow O4.out hb12)
      have O5 := Lib.hid (treeBelow O5.out hb12)
      clear hb12 HB11
      go_wp2_with fail
      refine Calls.mono (HTT.out w12 HW.out) ?_
      rintro e w13 ⟨rfl, hb13⟩
      have HB13 : Hid (Below w.heap.size w w13) := HB12.out.trans (hb13.mono HB12.out.size)
      have HW := Lib.hid ((HW.out.below hb13).more hb13.size)
      have O2 := Lib.hid (treeBelow O2.out hb13)
      have O3 := Lib.hid (treeBelow O3.out hb13)
      have O4 := Lib.hid (treeBelow O4.out hb13)
      have O5 := Lib.hid (treeBelow O5.out hb13)
      clear hb13 HB12
      go_wp2_with fail
      refine Calls.mono (HRT.out w13 HW.out) ?_
      rintro e w14 ⟨rfl, hb14⟩
      have HB14 : Hid (Below w.heap.size w w14) := HB13.out.trans (hb14.mono HB13.out.size)
      have HW := Lib.hid ((HW.out.below hb14).more hb14.size)
      have O2 := Lib.hid (treeBelow O2.out hb14)
      have O3 := Lib.hid (treeBelow O3.out hb14)
      have O4 := Lib.hid (treeBelow O4.out hb14)
      have O5 := Lib.hid (treeBelow O5.out hb14)
      clear hb14 HB13
      go_wp2_with fail
      refine Calls.mono (HRX.out A2v R cap2 w14 (treeIs O2.out) (by omega) hc2l hc2m HR8.out) ?_
      rintro e w15 ⟨rfl, hb15⟩
      have HB15 : Hid (Below w.heap.size w w15) := HB14.out.trans (hb15.mono HB14.out.size)
      have HW := Lib.hid ((HW.out.below hb15).more hb15.size)
      have O2 := Lib.hid (treeBelow O2.out hb15)
      have O3 := Lib.hid (treeBelow O3.out hb15)
      have O4 := Lib.hid (treeBelow O4.out hb15)
      have O5 := Lib.hid (treeBelow O5.out hb15)
      clear hb15 HB14
      go_wp2_with fail
      refine Calls.mono (HRX.out (some ⟨g4, o4, none⟩) T cap4 w15 (treeIs O4.out) (by omega) hc4l hc4m HT8.out) ?_
      rintro e w16 ⟨rfl, hb16⟩
      have HB16 : Hid (Below w.heap.size w w16) := HB15.out.trans (hb16.mono HB15.out.size)
      have HW := Lib.hid ((HW.out.below hb16).more hb16.size)
      have O2 := Lib.hid (treeBelow O2.out hb16)
      have O3 := Lib.hid (treeBelow O3.out hb16)
      have O4 := Lib.hid (treeBelow O4.out hb16)
      have O5 := Lib.hid (treeBelow O5.out hb16)
      clear hb16 HB15
      go_wp2_with fail
      refine Calls.mono (HAT.out w16 HW.out) ?_
      rintro e w17 ⟨rfl, hb17⟩
      have HB17 : Hid (Below w.heap.size w w17) := HB16.out.trans (hb17.mono HB16.out.size)
      have HW := Lib.hid ((HW.out.below hb17).more hb17.size)
      have O2 := Lib.hid (treeBelow O2.out hb17)
      have O3 := Lib.hid (treeBelow O3.out hb17)
      have O4 := Lib.hid (treeBelow O4.out hb17)
      have O5 := Lib.hid (treeBelow O5.out hb17)
      clear hb17 HB16
      go_wp2
      go_ret
      exact ⟨rfl, HB17.out⟩

end Go.Proofs.Ytadichddgpojpaa
