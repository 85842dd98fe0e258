/- Joined: Vn Vr Vv. -/
import Derived.Test.YtcpiojliakgdlaaGreatDoorU15
import Derived.Test.YtcpiojliakgdlaaGreatDoorU13
import Derived.Lib.Slices
/- Chapter 9: the program's functions that change a tree. -/
namespace Go.Proofs.YtcpiojliakgdlaaGreatDoor
open Go.RowKit

theorem found9 {l : List Seg} {s : ByteArray} {k : Nat} (hv : validB l = true) (h : seek l s = (k : Int)) : indexB l s = (k : Int) ∧ ix9 l s = k := by
  have h1 : indexB l s = (k : Int) := (if_pos hv).trans h
  exact ⟨h1, by unfold ix9; rw [h1]; rfl⟩
theorem gone9 {l : List Seg} {s : ByteArray} (hv : validB l = true) (h : seek l s = -1) : indexB l s < 0 := by
  have h1 : indexB l s = -1 := (if_pos hv).trans h
  omega
theorem foundPtr9 {l : List Seg} {nb : Nat → Nat} {s : ByteArray} {k : Nat} (h : seek l s = (k : Int)) : foundPtr l nb s = some ⟨nb k, 0, none⟩ := by
  unfold foundPtr
  rw [h, if_neg (by omega), Int.toNat_natCast]
theorem goneP9 {l : List Seg} {nb : Nat → Nat} {s : ByteArray} (h : seek l s = -1) : foundPtr l nb s = none := if_pos (by omega)

theorem sizeValid9 (x : Int) (w : World) : Calls Tryz.prog 26 #[.int .i64 x] w fun e w' => e = .returned (.bool (sizeOk x)) ∧ w' = w := (sizeValid_any x w).mono fun _ _ h => ⟨h.1, h.2.symm⟩

set_option maxRecDepth 100000 in
set_option maxHeartbeats 4000000 in
theorem resize_any (A : Option Addr) (l : List Seg) (c : Nat) (s : ByteArray) (x : Int) (w : World) (hw : Segs w w.heap.size A l) (hl : l.length ≤ 1048576) (hlc : l.length ≤ c) (hcm : c ≤ 9223372036854775807) (hn : Short l) (_hs : s.size ≤ 1048576) :
    Calls Tryz.prog 7 #[.slice A l.length c, .string s, .int .i64 x] w (TreeAns w (resizeL l s x) (resizeOk l s x)) := by
  have HW : Hid (Segs w w.heap.size A l) := hw
  clear hw
  unfold TreeAns
  have HNEG : Hid (indexB l s < 0 → resizeL l s x = [] ∧ resizeOk l s x = false) := fun h => ⟨(neg9 h).2.2.2.2.2.2.2.2.2 x, (neg9 h).2.2.2.2.2.2.2.2.1 x⟩
  cases hv : validB l with
  | false =>
    have HF := Lib.hid (HNEG.out (bad9 hv))
    rw [HF.out.1, HF.out.2]
    go_enter Tryz.func7, Tryz.ntmps7
    go_wp2_with fail
    refine (nodesOf_bad _ _ _ _ HW.out hl hlc hcm hn hv).mono ?_
    rintro e w1 ⟨rfl, hb1⟩
    have HB1 := Lib.hid hb1
    clear hb1
    go_wp2_with fail
    refine (findNode_nil _ _).mono ?_
    rintro e w2 ⟨rfl, rfl⟩
    go_wp2
    go_ret2
    exact ⟨_, rfl, ⟨rfl, .inl ⟨rfl, rfl⟩⟩, HB1.out⟩
  | true =>
    rcases seek_bd l s with hi | ⟨h0, hi⟩
    · have HF := Lib.hid (HNEG.out (gone9 hv hi))
      rw [HF.out.1, HF.out.2]
      have HP : Hid (∀ nb, foundPtr l nb s = none) := fun nb => goneP9 hi
      clear hi
      go_enter Tryz.func7, Tryz.ntmps7
      go_wp2_with fail
      refine (nodesOf_any _ _ _ _ HW.out hl hlc hcm hn hv).mono ?_
      rintro e w1 ⟨g, nb, cv, rfl, hN, hb1⟩
      have HB1 := Lib.hid hb1
      have HN := Lib.hid hN
      clear hN hb1
      go_wp2_with fail
      refine (findNode_any _ _ _ _ _ _ _ HN.out hl).mono ?_
      rw [HP.out nb]
      rintro e w2 ⟨rfl, rfl⟩
      go_wp2
      go_ret2
      exact ⟨_, rfl, ⟨rfl, .inl ⟨rfl, rfl⟩⟩, HB1.out⟩
    · obtain ⟨k, hk⟩ := Int.eq_ofNat_of_zero_le h0
      have hkl : k < l.length := by omega
      have HX := Lib.hid (found9 hv hk)
      have HP : Hid (∀ nb, foundPtr l nb s = some ⟨nb k, 0, none⟩) := fun nb => foundPtr9 hk
      have hl8 := (valid_all hv).2.1
      clear hk hi h0
      have HM := Lib.hid (resize9_eq hv hkl x)
      have HFL : Hid (resizeOk l s x = sizeOk x) := by show _ = _; unfold resizeOk; rw [decide_eq_true (show 0 ≤ indexB l s by rw [HX.out.1]; omega), Bool.true_and]
      cases hz : sizeOk x with
      | false =>
        have HF : Hid (resizeOk l s x = false) := HFL.out.trans hz
        have HR : Hid (resizeL l s x = []) := off9.2.2.2 x HF.out
        rw [HR.out, HF.out]
        go_enter Tryz.func7, Tryz.ntmps7
        go_wp2_with fail
        refine (nodesOf_any _ _ _ _ HW.out hl hlc hcm hn hv).mono ?_
        rintro e w1 ⟨g, nb, cv, rfl, hN, hb1⟩
        have HB1 := Lib.hid hb1
        have HA := Lib.hid (hN.at9 hv)
        have HN := Lib.hid hN
        clear hN hb1
        go_wp2_with fail
        refine (findNode_any _ _ _ _ _ _ _ HN.out hl).mono ?_
        rw [HP.out nb]
        rintro e w2 ⟨rfl, rfl⟩
        go_wp2_with fail
        refine (sizeValid9 x _).mono ?_
        rw [hz]
        rintro e w3 ⟨rfl, rfl⟩
        go_wp2
        go_ret2
        exact ⟨_, rfl, ⟨rfl, .inl ⟨rfl, rfl⟩⟩, HB1.out⟩
      | true =>
      have HF : Hid (resizeOk l s x = true) := HFL.out.trans hz
      have HR : Hid (resizeL l s x = l.set k ⟨nmAt9 l k, x, parAt l k⟩) := by show _ = _; unfold resizeL; rw [if_pos HF.out, HX.out.2]
      rw [HR.out, HF.out]
      go_enter Tryz.func7, Tryz.ntmps7
      go_wp2_with fail
      refine (nodesOf_any _ _ _ _ HW.out hl hlc hcm hn hv).mono ?_
      rintro e w1 ⟨g, nb, cv, rfl, hN, hb1⟩
      have HB1 := Lib.hid hb1
      have HA := Lib.hid (hN.at9 hv)
      have HN := Lib.hid hN
      clear hN hb1
      go_wp2_with fail
      refine (findNode_any _ _ _ _ _ _ _ HN.out hl).mono ?_
      rw [HP.out nb]
      rintro e w2 ⟨rfl, rfl⟩
      go_wp2_with fail
      refine (sizeValid9 x _).mono ?_
      rw [hz]
      rintro e w0 ⟨rfl, hw0⟩
      have hw0 := hw0.symm
      subst hw0
      have hnk := HA.out.mem.node k hkl
      have e1 := hnk.cell 1
      have f1 := hnk.free 1
      have HM2 := Lib.hid (HA.out.mem.size hkl x)
      have HT2 := Lib.hid (HA.out.top.set hnk (by decide) 1 (.int .i64 x))
      have HB2 := Lib.hid (HB1.out.setCell (HA.out.mem.low k hkl) (p := ⟨nb k, 1, none⟩) (.int .i64 x))
      simp [nodeCells] at e1
      clear hnk hz
      obtain ⟨cs, hrow, hcs⟩ := HT2.out.row
      have c0 : (w1.setCell ⟨nb k, 1, none⟩ (.int .i64 x)).cell? ⟨g, 0, none⟩ = some (.pointer (some ⟨nb 0, 0, none⟩)) := by rw [hrow.cell]; exact hcs
      have hl0 : (0 : Int) < (l.length : Int) := by omega
      clear hrow hcs
      go_wp2_with fail
      clear c0 e1 f1
      generalize w1.setCell ⟨nb k, 1, none⟩ (.int .i64 x) = w2 at *
      have hask : Ask9 w2 w.heap.size l.length (nmAt9 l) (resizeZ9 (sizeAt l) k x) (parAt l) (kids9 (parAt l) l.length) nb cv (parAt l) 0 := ⟨HM2.out, HA.out.fall, by omega, by omega, fun _ _ => rfl, HA.out.small⟩
      have HC := Lib.hid (segments_any _ _ _ _ _ _ _ _ _ _ _ hask)
      rw [HM.out] at HC
      clear hask
      refine Calls.mono HC.out ?_
      rintro e w3 ⟨v, rfl, ho3, hb3⟩
      have HO3 := Lib.hid (treeLow ho3 HB2.out.size)
      have HB3 : Hid (Below w.heap.size w w3) := HB2.out.trans (hb3.mono HB2.out.size)
      clear ho3 hb3
      go_wp2
      go_ret2
      exact ⟨_, rfl, HO3.out, HB3.out⟩

end Go.Proofs.YtcpiojliakgdlaaGreatDoor
/- Chapter 9: the reference's functions that change a tree: parents, SubTree, Prune. -/
namespace Go.Proofs.YtcpiojliakgdlaaGreatDoor
open Go.RowKit

/-- append of one number to numbers of the call's own. -/
theorem wp_append_int9 {ops : Array Oper} {rest : List Oper} {o : Oper} {a : Act} {Q : Exit → Act → World → Prop} (hgd : o.guard = none) (S X : Operand)
    (ho : o.op = Op.call { callee := Callee.builtin Builtin.append, args := #[S, X], argTypes := #[53, 53] })
    (B : Nat) (v : Value) (ts : List Int) (p : Int) (W : World) (hs : a.eval S = v) (hown : Si.OwnInts W B v ts) (htl : ts.length ≤ 1000) (hB : B ≤ W.heap.size)
    (g : Nat) (hx : a.eval X = .slice (some ⟨g, 0, none⟩) 1 1) (hg : g = W.heap.size)
    (h : ∀ v' w', Si.OwnInts w' B v' (ts ++ [p]) → Below B W w' → (∀ k, k < W.heap.size → v.ownBlock ≠ some k → w'.heap[k]? = W.heap[k]?) → wpList Tryz.prog ops Q rest (a.put o.dst v') w') :
    wpList Tryz.prog ops Q (o :: rest) a (W.alloc (.cells #[.int .i64 p] 3)) := by
  subst hg
  obtain ⟨i0, hi, hz0, hz1, hz2⟩ := info_parts info_int
  refine wpList_append_own _ hgd S X 53 ho B 3 i0 (.int .i64 0) 1 8 Tryz.underlying53 hi hz0 hz1 hz2 rfl (by decide) v ts.length (ts.map (Value.int .i64)) hs (hown.alloc (.cells #[.int .i64 p] 3)) ⟨W.heap.size, 0, none⟩ 1 1 [.int .i64 p] hx rfl
    (World.news_of_block (cs := #[.int .i64 p]) (t := 3) (fr := (0, 0)) (heap_alloc_new W _)) (by simp [Value.oneCell']) (by unfold maxLen; omega) (by omega) (by simp; omega) ?_
  intro v' w' hown' hgrow _
  refine h v' w' ?_ ?_ ?_
  · show w'.ownsRow B _ 1 v' (ts ++ [p]).length ((ts ++ [p]).map (Value.int .i64))
    rw [List.length_append, List.map_append]
    exact hown'
  · exact ((Below.refl B W).alloc hB _).grown hgrow (by simp; omega) (fun k e => (World.ownsRow.lt hown k e).1)
  · intro k hk hne
    exact (hgrow.block k (by simp; omega) (fun e => hne e.symm)).trans (Below.heap_alloc W _ k hk)

end Go.Proofs.YtcpiojliakgdlaaGreatDoor
/- Chapter 9: how much a segment can grow: plain, and the program's RoomLeft. -/
namespace Go.Proofs.YtcpiojliakgdlaaGreatDoor
open Go.RowKit

theorem maxOf9 : ∀ (zs : List Int) (a : Int), (a ≤ zs.foldl max a ∧ ∀ z ∈ zs, z ≤ zs.foldl max a) ∧ (zs.foldl max a = a ∨ zs.foldl max a ∈ zs)
  | [], a => ⟨⟨Int.le_refl _, by simp⟩, .inl rfl⟩
  | x :: zs, a => by
    obtain ⟨⟨h1, h2⟩, h3⟩ := maxOf9 zs (max a x)
    rw [List.foldl_cons]
    refine ⟨⟨by omega, fun z hz => ?_⟩, ?_⟩
    · rcases List.mem_cons.1 hz with rfl | hz
      · omega
      · exact h2 z hz
    · rcases h3 with h3 | h3
      · by_cases hax : a ≤ x
        · right
          rw [h3]
          have : max a x = x := by omega
          rw [this]
          exact List.mem_cons_self
        · left
          omega
      · exact .inr (List.mem_cons_of_mem _ h3)
theorem maxOf9_is {zs : List Int} {x : Int} (h0 : x ∈ zs) (h : ∀ z ∈ zs, z ≤ x) : Lib.maxOf zs = x := by
  unfold Lib.maxOf
  obtain ⟨⟨h1, h2⟩, h3⟩ := maxOf9 zs (zs.headD 0)
  have h4 := h2 x h0
  rcases h3 with h3 | h3
  · cases zs with
    | nil => simp at h0
    | cons a zs =>
      have h5 := h a List.mem_cons_self
      rw [show (a :: zs).headD 0 = a from rfl] at h3 h4 ⊢
      omega
  · have := h _ h3
    omega

/-- The greatest end of what is a segment or below it, of the first 'k'. -/
def deepTo (l : List Seg) (i : Nat) : Nat → Int
  | 0 => 0
  | k + 1 => if i ∈ rp l k then max (deepTo l i k) (endAt l k) else deepTo l i k
theorem deepTo_ge {l : List Seg} {i : Nat} : ∀ k j, j < k → i ∈ rp l j → endAt l j ≤ deepTo l i k
  | k + 1, j, h, hi => by
    unfold deepTo
    by_cases hj : j = k
    · subst hj
      rw [if_pos hi]
      omega
    · have := deepTo_ge (l := l) (i := i) k j (by omega) hi
      split <;> omega
theorem deepTo_at {l : List Seg} {i : Nat} : ∀ k, deepTo l i k = 0 ∨ ∃ j, j < k ∧ i ∈ rp l j ∧ endAt l j = deepTo l i k
  | 0 => .inl rfl
  | k + 1 => by
    have ih := deepTo_at (l := l) (i := i) k
    unfold deepTo
    by_cases hi : i ∈ rp l k
    · rw [if_pos hi]
      by_cases hm : deepTo l i k ≤ endAt l k
      · exact .inr ⟨k, by omega, hi, by omega⟩
      · rcases ih with h | ⟨j, h1, h2, h3⟩
        · left; omega
        · exact .inr ⟨j, by omega, h2, by omega⟩
    · rw [if_neg hi]
      rcases ih with h | ⟨j, h1, h2, h3⟩
      · exact .inl h
      · exact .inr ⟨j, by omega, h2, h3⟩
theorem deepTo_bd {l : List Seg} (h : validB l = true) (i : Nat) : ∀ k, k ≤ l.length → 0 ≤ deepTo l i k ∧ deepTo l i k ≤ 792
  | 0, _ => by unfold deepTo; omega
  | k + 1, hk => by
    have ih := deepTo_bd h i k (by omega)
    obtain ⟨a, b, c⟩ := place_small h (show k < l.length by omega)
    unfold deepTo
    split <;> omega
theorem deep_max {l : List Seg} (hv : validB l = true) {i : Nat} (hi : i < l.length) : Lib.maxOf ((sub9 (parAt l) l.length i).map (endAt l)) = deepTo l i l.length := by
  have ht := tree9_of hv
  have hd := (valid_all hv).1.down
  have hmem : ∀ j, j ∈ sub9 (parAt l) l.length i ↔ j < l.length ∧ i ∈ rp l j := fun j => by
    rw [in_sub9 ht.fall hi]
    constructor
    · rintro ⟨h1, h2⟩; exact ⟨h1, (rp_anc9 hd j h1).2 h2⟩
    · rintro ⟨h1, h2⟩; exact ⟨h1, (rp_anc9 hd j h1).1 h2⟩
  have hself : i ∈ rp l i := (rp_anc9 hd i hi).2 .refl
  have hpos := place_small hv hi
  have hge := deepTo_ge (l := l) (i := i) l.length i hi hself
  refine maxOf9_is ?_ fun z hz => ?_
  · rcases deepTo_at (l := l) (i := i) l.length with h | ⟨j, h1, h2, h3⟩
    · omega
    · rw [← h3]
      exact List.mem_map.2 ⟨j, (hmem j).2 ⟨h1, h2⟩, rfl⟩
  · obtain ⟨j, hj, rfl⟩ := List.mem_map.1 hz
    obtain ⟨h1, h2⟩ := (hmem j).1 hj
    exact deepTo_ge _ _ h1 h2
theorem deep_root {l : List Seg} (hv : validB l = true) : ∀ k, k ≤ l.length → deepTo l 0 k = roomTo l k
  | 0, _ => rfl
  | k + 1, hk => by
    have ih := deep_root hv k (by omega)
    have hd := (valid_all hv).1.down
    have h0 : 0 ∈ rp l k := (rp_anc9 hd k (by omega)).2 ((tree9_of hv).all k k (Nat.le_refl _) (by omega))
    unfold deepTo roomTo
    rw [if_pos h0, ih]
theorem deep_le {l : List Seg} (hv : validB l = true) {i : Nat} : deepTo l i l.length ≤ roomTo l l.length := by
  rcases deepTo_at (l := l) (i := i) l.length with h | ⟨j, h1, h2, h3⟩
  · have := (roomTo_bd hv l.length (Nat.le_refl _)).1
    omega
  · rw [← h3]
    exact roomTo_le _ _ _ h1
def leftB (l : List Seg) (s : ByteArray) : Int := if indexB l s < 0 then -1 else min (roomTo l l.length - deepTo l (ix9 l s) l.length) (99 - sizeAt l (ix9 l s))

set_option maxRecDepth 100000 in
set_option maxHeartbeats 1000000 in
theorem endBelow1_any (l : List Seg) (nb : Nat → Nat) (hv : validB l = true) (j : Nat) (hj : j < l.length) (w : World) (hw : Placed w l nb) :
    Calls Tryz.prog 49 #[.pointer (some ⟨nb j, 0, none⟩)] w fun e w' => e = .returned (.int .i64 (endAt l j)) ∧ Below w.heap.size w w' := by
  have HC := Lib.hid (place_any l nb hv j hj w hw)
  have hf := run_end
  clear hw
  go_enter Tryz.func49, Tryz.ntmps49
  go_wp2_with fail
  refine Calls.mono HC.out ?_
  rintro e w1 ⟨rfl, hb1⟩
  have HB1 := Lib.hid hb1
  clear hb1
  go_wp2
  go_ret
  exact ⟨rfl, HB1.out⟩

set_option maxRecDepth 100000 in
set_option maxHeartbeats 4000000 in
theorem copyInts_any (l : List Seg) (nb : Nat → Nat) (hv : validB l = true) (L : List Nat) (gn capn B0 : Nat) (w : World) (hw : Placed w l nb) (hrow : w.ownsRow B0 43 1 (.slice (some ⟨gn, 0, none⟩) L.length capn) L.length (ptrsOf nb L)) (hL : ∀ j ∈ L, j < l.length) (hLl : L.length ≤ 100) :
    Calls Tryz.prog 47 #[.slice (some ⟨gn, 0, none⟩) L.length capn, .func (.func 49) #[] #[]] w fun e w' => ∃ A c, e = .returned (.slice A L.length c) ∧ Si.OwnInts w' w.heap.size (.slice A L.length c) (L.map (endAt l)) ∧ Below w.heap.size w w' := by
  have HW := Lib.hid hw
  have HROW := Lib.hid hrow
  have HLT := Lib.hid hL
  have HT : Hid (∀ k (h : k < L.length), (L.map (endAt l)).take (k + 1) = (L.map (endAt l)).take k ++ [endAt l L[k]]) := fun k h => by
    rw [← List.map_take, ← List.map_take, List.take_succ_eq_append_getElem h, List.map_append]
    rfl
  have HZ : Hid (∀ k, k ≤ L.length → ((L.map (endAt l)).take k).length = k) := fun k h => by rw [List.length_take, List.length_map]; omega
  have HALL : Hid ((L.map (endAt l)).take L.length = L.map (endAt l)) := List.take_of_length_le (by rw [List.length_map]; exact Nat.le_refl _)
  clear hw hrow hL
  generalize hR : L.map (endAt l) = R at *
  clear hR
  go_enter Tryz.func47, Tryz.ntmps47
  go_wp2
  go_loopw [5, 10] (fun ov iv wr => ∃ (k : Nat) (A : Option Addr) (C : Nat), iv = .int .i64 k ∧ k ≤ L.length ∧ ov = .slice A k C ∧ Hid (Si.OwnInts wr w.heap.size (.slice A k C) (R.take k)) ∧ Hid (Below w.heap.size w wr))
    (fun _ iv _ => L.length - (intOf iv).toNat)
  case atStart => exact ⟨0, none, 0, rfl, Nat.zero_le _, rfl, ⟨rfl, .inl ⟨rfl, rfl⟩⟩, Below.refl _ _⟩
  case round =>
    obtain ⟨k, A, C, rfl, hk, rfl, HO, HB⟩ := hrel
    have hk0 : (0 : Int) ≤ (k : Int) := Int.natCast_nonneg _
    by_cases hlt : k < L.length
    · have hlt' : (k : Int) < (L.length : Int) := by omega
      have hcell : wr.cell? ⟨gn, k, none⟩ = some (.pointer (some ⟨nb L[k], 0, none⟩)) := by
        have h1 : w.cell? ⟨gn, k, none⟩ = (ptrsOf nb L)[k]? := HROW.out.cellAt k (by omega)
        rw [HB.out.cell (p := ⟨gn, k, none⟩) (HROW.out.lt gn rfl).2, h1]
        simp [ptrsOf, ptrTo, hlt]
      have HC := Lib.hid (endBelow1_any l nb hv L[k] (HLT.out _ (List.getElem_mem hlt)) wr (HW.out.below HB.out))
      have HST := Lib.hid (HT.out k hlt)
      have HZK := Lib.hid (HZ.out k hk)
      have HZK1 := Lib.hid (HZ.out (k + 1) hlt)
      generalize endAt l L[k] = x at *
      generalize nb L[k] = bn at *
      go_wp2_with fail
      refine Calls.mono HC.out ?_
      rintro e w3 ⟨rfl, hb3⟩
      have HO3 : Hid (Si.OwnInts w3 w.heap.size (.slice A k C) (R.take k)) := HO.out.below hb3
      have HB3 : Hid (Below w.heap.size w w3) := HB.out.trans (hb3.mono HB.out.size)
      clear hb3 HC HO HB hcell
      go_wp2_with (at_builtin; go_loud (refine wp_append_int9 rfl (.tmp 14) (.tmp 18) rfl w.heap.size (.slice A k C) (R.take k) x _ rfl HO3.out (by rw [HZK.out]; omega) HB3.out.size w3.heap.size rfl rfl ?_); intro v4 w4 ho4 hb4 _; have HT4 := Lib.hid ho4; have HB4 := Lib.hid (HB3.out.trans hb4); clear ho4 hb4)
      rw [← HST.out] at HT4
      obtain ⟨A4, C4, rfl, -⟩ := Si.intsForm HT4.out
      rw [HZK1.out] at HT4 ⊢
      go_wp2
      go_roundw
      case rel => exact ⟨k + 1, A4, C4, by go_num, by omega, rfl, HT4, HB4⟩
      case measure => simp [intOf]; omega
    · obtain rfl : k = L.length := by omega
      rw [HALL.out] at HO
      go_wp2
      go_ret
      exact ⟨_, _, rfl, HO.out, HB.out⟩

/-- A tree's nodes in memory: what places and subtrees read. -/
theorem Mem9.placed9 {w : World} {B : Nat} {l : List Seg} {pp : Nat → Int} {kd : Nat → List Nat} {nb : Nat → Nat} {cv : Nat → Value} (h : Mem9 w B l.length (nmAt9 l) (sizeAt l) (parAt l) kd nb cv) (_ : pp = pp) : Placed w l nb := fun j hj => by
  have h1 := h.node j hj
  exact ⟨h1.lt, h1.cell 1, h1.cell 2⟩

set_option maxRecDepth 100000 in
set_option maxHeartbeats 4000000 in
theorem endBelow_any (B i : Nat) (l : List Seg) (nb : Nat → Nat) (cv : Nat → Value) (hv : validB l = true) (hi : i < l.length) (w : World) (hM : Mem9 w B l.length (nmAt9 l) (sizeAt l) (parAt l) (kids9 (parAt l) l.length) nb cv) :
    Calls Tryz.prog 21 #[.pointer (some ⟨nb i, 0, none⟩)] w fun e w' => e = .returned (.int .i64 (deepTo l i l.length)) ∧ Below w.heap.size w w' := by
  have hf := (tree9_of hv).fall
  have hl8 := (valid_all hv).2.1
  have HM := Lib.hid hM
  have HC : Hid (Calls Tryz.prog 48 #[.pointer (some ⟨nb i, 0, none⟩)] w (SubPost9 w nb (sub9 (parAt l) l.length i))) := subtree_any B l.length (nmAt9 l) (sizeAt l) (parAt l) (kids9 (parAt l) l.length) nb cv (parAt l) hf (by omega) l.length i w (by omega) hi hM (fun _ _ => rfl)
  unfold SubPost9 at HC
  have HMX := Lib.hid (deep_max hv hi)
  have HLT : Hid (∀ j ∈ sub9 (parAt l) l.length i, j < l.length) := fun j hj => ((in_sub9 hf hi).1 hj).1
  have hLl : (sub9 (parAt l) l.length i).length ≤ 100 := by have := sub9_len hf hi; omega
  have hL0 : 0 < (sub9 (parAt l) l.length i).length := by rw [sub9_eq hf hi]; simp
  clear hM hf
  generalize sub9 (parAt l) l.length i = L at *
  generalize deepTo l i l.length = dp at *
  go_enter Tryz.func21, Tryz.ntmps21
  go_wp2_with fail
  refine Calls.mono HC.out ?_
  rintro e w1 ⟨g1, cap1, rfl, ho1, hb1⟩
  have HC2 := Lib.hid (copyInts_any l nb hv L g1 cap1 w.heap.size w1 ((HM.out.below hb1).placed9 (pp := parAt l) rfl) ho1 HLT.out hLl)
  have HB1 := Lib.hid hb1
  clear ho1 hb1 HC
  go_wp2_with fail
  refine Calls.mono HC2.out ?_
  rintro e w2 ⟨A2, c2, rfl, ho2, hb2⟩
  have HB2 : Hid (Below w.heap.size w w2) := HB1.out.trans (hb2.mono HB1.out.size)
  have ho2' : Si.OwnInts w2 w1.heap.size (.slice A2 (L.map (endAt l)).length c2) (L.map (endAt l)) := by rw [List.length_map]; exact ho2
  obtain ⟨g2, rfl⟩ : ∃ g, A2 = some ⟨g, 0, none⟩ := by
    obtain ⟨A', c', e, hA⟩ := kids9_form ho2
    rw [List.length_map] at e
    injection e with e1 e2 e3
    obtain ⟨g, hg⟩ := hA (by rw [List.length_map]; exact hL0)
    exact ⟨g, e1.trans hg⟩
  have hcells : ∀ j, j < (L.map (endAt l)).length → w2.cell? ⟨g2, 0 + j, none⟩ = some (.int .i64 ((L.map (endAt l)).getD j 0)) := fun j hj => by
    have hj' : j < L.length := by rw [List.length_map] at hj; exact hj
    have hgd : (L.map (endAt l)).getD j 0 = (L.map (endAt l))[j] := by simp [List.getD, hj']
    rw [Nat.zero_add, hgd]
    exact Si.intsCell ho2' (List.getElem?_eq_getElem hj)
  have hmax := Tryz.slices_Max_int g2 0 L.length c2 (L.map (endAt l)) w2 hL0 (by rw [List.length_map]; exact Nat.le_refl _) (by omega) hcells
  rw [List.take_of_length_le (by rw [List.length_map]; exact Nat.le_refl _), HMX.out] at hmax
  have HX := Lib.hid hmax
  clear ho2 ho2' hcells hmax hb2
  go_wp2_with fail
  refine Calls.mono HX.out ?_
  rintro e w3 ⟨rfl, rfl⟩
  go_wp2
  go_ret
  exact ⟨rfl, HB2.out⟩

set_option maxRecDepth 100000 in
set_option maxHeartbeats 1000000 in
theorem spanFirst_any (a b x : Int) (w : World) (ha : 0 ≤ a) (ha' : a ≤ 792) (hx : -100 ≤ x) (hx' : x ≤ 100) :
    Calls Tryz.prog 22 #[.agg #[.int .i64 a, .int .i64 b], .int .i64 x] w fun e w' => e = .returned (.agg #[.int .i64 a, .int .i64 (min b (a + x))]) ∧ Below w.heap.size w w' := by
  have hwz : IntKind.i64.wrap (a + x) = a + x := IntWalk.i64_in _ (by omega)
  go_enter Tryz.func22, Tryz.ntmps22
  go_wp2
  refine bodyPost_ret (v := .agg #[.int .i64 a, .int .i64 (min b (a + x))]) ?_ rfl ⟨rfl, ((Below.refl _ w).alloc (Nat.le_refl _) _).alloc (by simp) _⟩
  have hr : Row ((w.alloc (.cells #[.int .i64 a, .int .i64 b] 47)).alloc (.cells #[.int .i64 a, .int .i64 (min b (a + x))] 47)) (w.heap.size + 1) 47 #[.int .i64 a, .int .i64 (min b (a + x))] := by
    have h1 := Row.new (w.alloc (.cells #[.int .i64 a, .int .i64 b] 47)) 47 #[.int .i64 a, .int .i64 (min b (a + x))]
    rw [World.size_alloc] at h1
    exact h1
  have r0 := hr.cell 0
  have r1 := hr.cell 1
  simp [results, Tryz.results22, go_sem, r0, r1]

set_option maxRecDepth 100000 in
set_option maxHeartbeats 1000000 in
theorem spanLength_any (a b : Int) (w : World) (ha : 0 ≤ a) (ha' : a ≤ 792) (hb : -1000 ≤ b) (hb' : b ≤ 1000) :
    Calls Tryz.prog 23 #[.agg #[.int .i64 a, .int .i64 b]] w fun e w' => e = .returned (.int .i64 (b - a)) ∧ Below w.heap.size w w' := by
  have hwz : IntKind.i64.wrap (b - a) = b - a := IntWalk.i64_in _ (by omega)
  go_enter Tryz.func23, Tryz.ntmps23
  go_wp2
  go_ret
  exact ⟨rfl, (Below.refl _ w).alloc (Nat.le_refl _) _⟩

theorem left_neg {l : List Seg} {s : ByteArray} (h : indexB l s < 0) : leftB l s = -1 := if_pos h

set_option maxRecDepth 100000 in
set_option maxHeartbeats 4000000 in
theorem roomLeft_any (A : Option Addr) (l : List Seg) (c : Nat) (s : ByteArray) (w : World) (hw : Segs w w.heap.size A l) (hl : l.length ≤ 1048576) (hlc : l.length ≤ c) (hcm : c ≤ 9223372036854775807) (hn : Short l) :
    Calls Tryz.prog 5 #[.slice A l.length c, .string s] w fun e w' => e = .returned (.int .i64 (leftB l s)) ∧ Below w.heap.size w w' := by
  have HW : Hid (Segs w w.heap.size A l) := hw
  clear hw
  cases hv : validB l with
  | false =>
    have HF := Lib.hid (left_neg (bad9 (s := s) hv))
    rw [HF.out]
    go_enter Tryz.func5, Tryz.ntmps5
    go_wp2_with fail
    refine (nodesOf_bad _ _ _ _ HW.out hl hlc hcm hn hv).mono ?_
    rintro e w1 ⟨rfl, hb1⟩
    have HB1 := Lib.hid hb1
    clear hb1
    go_wp2_with fail
    refine (findNode_nil _ _).mono ?_
    rintro e w2 ⟨rfl, rfl⟩
    go_wp2
    go_ret
    exact ⟨rfl, HB1.out⟩
  | true =>
    rcases seek_bd l s with hi | ⟨h0, hi⟩
    · have HF := Lib.hid (left_neg (gone9 hv hi))
      rw [HF.out]
      have HP : Hid (∀ nb, foundPtr l nb s = none) := fun nb => goneP9 hi
      clear hi
      go_enter Tryz.func5, Tryz.ntmps5
      go_wp2_with fail
      refine (nodesOf_any _ _ _ _ HW.out hl hlc hcm hn hv).mono ?_
      rintro e w1 ⟨g, nb, cv, rfl, hN, hb1⟩
      have HB1 := Lib.hid hb1
      have HN := Lib.hid hN
      clear hN hb1
      go_wp2_with fail
      refine (findNode_any _ _ _ _ _ _ _ HN.out hl).mono ?_
      rw [HP.out nb]
      rintro e w2 ⟨rfl, rfl⟩
      go_wp2
      go_ret
      exact ⟨rfl, HB1.out⟩
    · obtain ⟨k, hk⟩ := Int.eq_ofNat_of_zero_le h0
      have hkl : k < l.length := by omega
      have HX := Lib.hid (found9 hv hk)
      have HP : Hid (∀ nb, foundPtr l nb s = some ⟨nb k, 0, none⟩) := fun nb => foundPtr9 hk
      have hl8 := (valid_all hv).2.1
      have hl0 : 0 < l.length := by omega
      have HDR := Lib.hid (deep_root hv l.length (Nat.le_refl _))
      have hdb := deepTo_bd hv k l.length (Nat.le_refl _)
      have hrb := roomTo_bd hv l.length (Nat.le_refl _)
      have hzk := sizeAt_bd hv hkl
      have HF : Hid (leftB l s = min (roomTo l l.length) (deepTo l k l.length + (99 - sizeAt l k)) - deepTo l k l.length) := by
        show _ = _
        unfold leftB
        rw [if_neg (by rw [HX.out.1]; omega), HX.out.2]
        omega
      rw [HF.out]
      obtain ⟨dp, HDP⟩ : ∃ d, Hid (deepTo l k l.length = d) := ⟨_, rfl⟩
      obtain ⟨rm, HRM⟩ : ∃ d, Hid (roomTo l l.length = d) := ⟨_, rfl⟩
      obtain ⟨zk, HZK⟩ : ∃ d, Hid (sizeAt l k = d) := ⟨_, rfl⟩
      rw [HDP.out, HRM.out, HZK.out]
      rw [HDP.out] at hdb
      rw [HRM.out] at hrb
      rw [HZK.out] at hzk
      clear hk hi h0 HF
      go_enter Tryz.func5, Tryz.ntmps5
      go_wp2_with fail
      refine (nodesOf_any _ _ _ _ HW.out hl hlc hcm hn hv).mono ?_
      rintro e w1 ⟨g, nb, cv, rfl, hN, hb1⟩
      have HB1 := Lib.hid hb1
      have HA := Lib.hid (hN.at9 hv)
      have HN := Lib.hid hN
      clear hN hb1
      go_wp2_with fail
      refine (findNode_any _ _ _ _ _ _ _ HN.out hl).mono ?_
      rw [HP.out nb]
      rintro e w2 ⟨rfl, rfl⟩
      have HE1 : Hid (∀ W, Below w1.heap.size w1 W → Calls Tryz.prog 21 #[.pointer (some ⟨nb k, 0, none⟩)] W fun e w' => e = .returned (.int .i64 dp) ∧ Below W.heap.size W w') := fun W hb => by
        have h := endBelow_any w.heap.size k l nb cv hv hkl W (HA.out.mem.below hb)
        rw [HDP.out] at h
        exact h
      have HE0 : Hid (∀ W, Below w1.heap.size w1 W → Calls Tryz.prog 21 #[.pointer (some ⟨nb 0, 0, none⟩)] W fun e w' => e = .returned (.int .i64 rm) ∧ Below W.heap.size W w') := fun W hb => by
        have h := endBelow_any w.heap.size 0 l nb cv hv hl0 W (HA.out.mem.below hb)
        rw [HDR.out, HRM.out] at h
        exact h
      obtain ⟨cs, hrow, hcs⟩ := HA.out.top.row
      have c0 : w1.cell? ⟨g, 0, none⟩ = some (.pointer (some ⟨nb 0, 0, none⟩)) := by rw [hrow.cell]; exact hcs
      have hgl := hrow.lt
      have hl0' : (0 : Int) < (l.length : Int) := by omega
      have e1 := (HA.out.mem.node k hkl).cell 1
      have hkn := (HA.out.mem.node k hkl).lt
      simp [nodeCells] at e1
      have HK1 : Hid (w1.cell? ⟨nb k, 1, none⟩ = some (.int .i64 zk)) := by show _ = _; rw [← HZK.out]; exact e1
      clear hrow hcs e1
      have hwz : IntKind.i64.wrap (99 - zk) = 99 - zk := IntWalk.i64_in _ (by omega)
      go_wp2_with fail
      refine wp_region_held_drew (S := (fun W => W.cell? ⟨g, 0, none⟩ = some (.pointer (some ⟨nb 0, 0, none⟩)) ∧ Below w1.heap.size w1 W)) (by kernel_rfl) ?_ (fun hHeld => ?_)
      · exact ⟨c0, (Below.refl _ w1).drew⟩
      refine take_at (i := 0) (d := 15) (v := .pointer (some ⟨nb k, 0, none⟩)) rfl rfl (by kernel_rfl) (by kernel_rfl) (by kernel_rfl) (fun _ _ _ h => h) (by kernel_rfl) (by (intro w hSw; (try dsimp only at hSw); go_simp)) (by assumption) ?_
      simp only [List.setIfInBounds_toArray, List.set_cons_succ, List.set_cons_zero]
      refine take_at (i := 2) (d := 17) (v := .slice (some ⟨g, 0, none⟩) l.length l.length) rfl rfl (by kernel_rfl) (by kernel_rfl) (by kernel_rfl) (fun _ _ _ h => h) (by kernel_rfl) (by (intro w hSw; (try dsimp only at hSw); go_simp)) (by assumption) ?_
      simp only [List.setIfInBounds_toArray, List.set_cons_succ, List.set_cons_zero]
      refine take_at (i := 3) (d := 18) (v := .pointer (some ⟨g, 0, none⟩)) rfl rfl (by kernel_rfl) (by kernel_rfl) (by kernel_rfl) (fun _ _ _ h => h) (by kernel_rfl) (by (intro w hSw; (try dsimp only at hSw); go_simp)) (by assumption) ?_
      simp only [List.setIfInBounds_toArray, List.set_cons_succ, List.set_cons_zero]
      refine take_at (i := 4) (d := 19) (v := .pointer (some ⟨nb 0, 0, none⟩)) rfl rfl (by kernel_rfl) (by kernel_rfl) (by kernel_rfl) (fun _ _ _ h => h) (by kernel_rfl) (by (intro w hSw; (try dsimp only at hSw); go_simp)) (by assumption) ?_
      simp only [List.setIfInBounds_toArray, List.set_cons_succ, List.set_cons_zero]
      refine wpAnyH_ready (rs := [1, 7]) (by kernel_rfl) (by simp) ?_
      refine AllReadyH.cons rfl (fun K hK => ?_) (AllReadyH.cons rfl (fun K hK => ?_) AllReadyH.nil)
      · go_simp
        refine Calls.mono (HE1.out _ hHeld.2) ?_
        rintro e wA ⟨rfl, hbA⟩
        have hsA : wA.cell? ⟨g, 0, none⟩ = some (.pointer (some ⟨nb 0, 0, none⟩)) ∧ Below w1.heap.size w1 wA := by
          have hB := hHeld.2.trans (hbA.mono hHeld.2.size)
          exact ⟨(hB.cell (p := ⟨g, 0, none⟩) hgl).trans c0, hB⟩
        refine hK.out _ _ hsA (fun hHeld => ?_)
        clear hK K
        refine wpAnyH_ready (rs := [5, 7]) (by kernel_rfl) (by simp) ?_
        refine AllReadyH.cons rfl (fun K hK => ?_) (AllReadyH.cons rfl (fun K hK => ?_) AllReadyH.nil)
        · go_simp
          refine Calls.mono (HE0.out _ hHeld.2) ?_
          rintro e wB ⟨rfl, hbB⟩
          have hsB : wB.cell? ⟨g, 0, none⟩ = some (.pointer (some ⟨nb 0, 0, none⟩)) ∧ Below w1.heap.size w1 wB := by
            have hB := hHeld.2.trans (hbB.mono hHeld.2.size)
            exact ⟨(hB.cell (p := ⟨g, 0, none⟩) hgl).trans c0, hB⟩
          refine hK.out _ _ hsB (fun hHeld => ?_)
          clear hK K
          refine take_at (i := 6) (d := 21) (v := .agg #[.int .i64 dp, .int .i64 rm]) rfl rfl (by kernel_rfl) (by kernel_rfl) (by kernel_rfl) (fun _ _ _ h => h) (by kernel_rfl) (by (intro w hSw; (try dsimp only at hSw); go_simp)) (by assumption) ?_
          simp only [List.setIfInBounds_toArray, List.set_cons_succ, List.set_cons_zero]
          refine wpAnyH_ready (rs := [7]) (by kernel_rfl) (by simp) ?_
          refine AllReadyH.cons rfl (fun K hK => ?_) AllReadyH.nil
          have hbC : Below w1.heap.size w1 (wB.alloc (.cells #[.int .i64 0, .int .i64 0] 47)) := hHeld.2.alloc hHeld.2.size _
          have hsC : (wB.alloc (.cells #[.int .i64 0, .int .i64 0] 47)).cell? ⟨g, 0, none⟩ = some (.pointer (some ⟨nb 0, 0, none⟩)) ∧ Below w1.heap.size w1 (wB.alloc (.cells #[.int .i64 0, .int .i64 0] 47)) := ⟨(hbC.cell (p := ⟨g, 0, none⟩) hgl).trans c0, hbC⟩
          have hRZ : Row (wB.alloc (.cells #[.int .i64 0, .int .i64 0] 47)) wB.heap.size 47 #[.int .i64 0, .int .i64 0] := Row.new wB _ _
          have haL : w1.heap.size ≤ wB.heap.size := hHeld.2.size
          go_simp
          refine hK.out _ _ hsC (fun hHeld => ?_)
          clear hK K
          have z0 := hRZ.cell 0
          have z1 := hRZ.cell 1
          have y0 := hRZ.free 0
          have y1 := hRZ.free 1
          (try simp at z0 z1 y0 y1)
          refine wpAnyH_ready (rs := [8]) (by kernel_rfl) (by simp) ?_
          refine AllReadyH.cons rfl (fun K hK => ?_) AllReadyH.nil
          go_simp
          have hbD : Below w1.heap.size w1 (wB.alloc (.cells #[.int .i64 dp, .int .i64 rm] 47)) := hsB.2.alloc hsB.2.size _
          have hRD : Row (wB.alloc (.cells #[.int .i64 dp, .int .i64 rm] 47)) wB.heap.size 47 #[.int .i64 dp, .int .i64 rm] := Row.new wB _ _
          generalize wB.alloc (.cells #[.int .i64 dp, .int .i64 rm] 47) = wD at *
          generalize wB.heap.size = aD at hRD ⊢
          refine hK.out _ _ ⟨(hbD.cell (p := ⟨g, 0, none⟩) hgl).trans c0, hbD⟩ (fun hHeld => ?_)
          refine wpAnyH_done (by kernel_rfl) ?_ _
          have d0 := hRD.cell 0
          have d1 := hRD.cell 1
          have n1 := (hbD.cell (p := ⟨nb k, 1, none⟩) hkn).trans HK1.out
          simp at d0 d1
          have HBD : Hid (Below w.heap.size w wD) := HB1.out.trans (hbD.mono HB1.out.size)
          clear hHeld hK K hbD hRD
          go_wp2_with fail
          go_still_tail 6, (by kernel_rfl)
          change wpList _ _ _ _ _ wD.drew
          have HBE := Lib.hid HBD.out.drew
          clear d0 d1 n1
          generalize wD.drew = wE at *
          go_wp2_with fail
          refine Calls.mono (spanFirst_any dp rm (99 - zk) wE (by omega) (by omega) (by omega) (by omega)) ?_
          rintro e w6 ⟨rfl, hb6⟩
          have HB6 : Hid (Below w.heap.size w w6) := HBE.out.trans (hb6.mono HBE.out.size)
          go_wp2_with fail
          refine Calls.mono (spanLength_any dp (min rm (dp + (99 - zk))) w6 (by omega) (by omega) (by omega) (by omega)) ?_
          rintro e w7 ⟨rfl, hb7⟩
          have HB7 : Hid (Below w.heap.size w w7) := HB6.out.trans (hb7.mono HB6.out.size)
          go_wp2
          go_ret
          exact ⟨rfl, HB7.out⟩
        · have hbC : Below w1.heap.size w1 (wA.alloc (.cells #[.int .i64 0, .int .i64 0] 47)) := hHeld.2.alloc hHeld.2.size _
          have hsC : (wA.alloc (.cells #[.int .i64 0, .int .i64 0] 47)).cell? ⟨g, 0, none⟩ = some (.pointer (some ⟨nb 0, 0, none⟩)) ∧ Below w1.heap.size w1 (wA.alloc (.cells #[.int .i64 0, .int .i64 0] 47)) := ⟨(hbC.cell (p := ⟨g, 0, none⟩) hgl).trans c0, hbC⟩
          have hRA : Row (wA.alloc (.cells #[.int .i64 0, .int .i64 0] 47)) wA.heap.size 47 #[.int .i64 0, .int .i64 0] := Row.new wA _ _
          have haL : w1.heap.size ≤ wA.heap.size := hHeld.2.size
          go_simp
          refine hK.out _ _ hsC (fun hHeld => ?_)
          clear hK K
          refine wpAnyH_ready (rs := [5]) (by kernel_rfl) (by simp) ?_
          refine AllReadyH.cons rfl (fun K hK => ?_) AllReadyH.nil
          go_simp
          refine Calls.mono (HE0.out _ hHeld.2) ?_
          rintro e wB ⟨rfl, hbB⟩
          have hsB : wB.cell? ⟨g, 0, none⟩ = some (.pointer (some ⟨nb 0, 0, none⟩)) ∧ Below w1.heap.size w1 wB := by
            have hB := hHeld.2.trans (hbB.mono hHeld.2.size)
            exact ⟨(hB.cell (p := ⟨g, 0, none⟩) hgl).trans c0, hB⟩
          have hRZ := hRA.below hbB (by have h := hRA.lt; simp at h ⊢ <;> omega)
          refine hK.out _ _ hsB (fun hHeld => ?_)
          clear hK K
          have z0 := hRZ.cell 0
          have z1 := hRZ.cell 1
          have y0 := hRZ.free 0
          have y1 := hRZ.free 1
          (try simp at z0 z1 y0 y1)
          refine take_at (i := 6) (d := 21) (v := .agg #[.int .i64 dp, .int .i64 rm]) rfl rfl (by kernel_rfl) (by kernel_rfl) (by kernel_rfl) (fun _ _ _ h => h) (by kernel_rfl) (by (intro w hSw; (try dsimp only at hSw); go_simp)) (by assumption) ?_
          simp only [List.setIfInBounds_toArray, List.set_cons_succ, List.set_cons_zero]
          refine wpAnyH_ready (rs := [8]) (by kernel_rfl) (by simp) ?_
          refine AllReadyH.cons rfl (fun K hK => ?_) AllReadyH.nil
          go_simp
          have haD : w1.heap.size ≤ wA.heap.size := (by first | exact haL | exact Nat.le_refl _ | (simp only [World.size_drew] at haL; exact haL))
          have hbD : Below w1.heap.size w1 ((wB.setCell ⟨wA.heap.size, 0, none⟩ (.int .i64 dp)).setCell ⟨wA.heap.size, 1, none⟩ (.int .i64 rm)) := (hHeld.2.setCell haD _).setCell haD _
          have hRD : Row ((wB.setCell ⟨wA.heap.size, 0, none⟩ (.int .i64 dp)).setCell ⟨wA.heap.size, 1, none⟩ (.int .i64 rm)) wA.heap.size 47 #[.int .i64 dp, .int .i64 rm] := (hRZ.put 0 (.int .i64 dp)).put 1 (.int .i64 rm)
          generalize (wB.setCell ⟨wA.heap.size, 0, none⟩ (.int .i64 dp)).setCell ⟨wA.heap.size, 1, none⟩ (.int .i64 rm) = wD at *
          generalize wA.heap.size = aD at hRD ⊢
          refine hK.out _ _ ⟨(hbD.cell (p := ⟨g, 0, none⟩) hgl).trans c0, hbD⟩ (fun hHeld => ?_)
          refine wpAnyH_done (by kernel_rfl) ?_ _
          have d0 := hRD.cell 0
          have d1 := hRD.cell 1
          have n1 := (hbD.cell (p := ⟨nb k, 1, none⟩) hkn).trans HK1.out
          simp at d0 d1
          have HBD : Hid (Below w.heap.size w wD) := HB1.out.trans (hbD.mono HB1.out.size)
          clear hHeld hK K hbD hRD
          go_wp2_with fail
          go_still_tail 6, (by kernel_rfl)
          change wpList _ _ _ _ _ wD.drew
          have HBE := Lib.hid HBD.out.drew
          clear d0 d1 n1
          generalize wD.drew = wE at *
          go_wp2_with fail
          refine Calls.mono (spanFirst_any dp rm (99 - zk) wE (by omega) (by omega) (by omega) (by omega)) ?_
          rintro e w6 ⟨rfl, hb6⟩
          have HB6 : Hid (Below w.heap.size w w6) := HBE.out.trans (hb6.mono HBE.out.size)
          go_wp2_with fail
          refine Calls.mono (spanLength_any dp (min rm (dp + (99 - zk))) w6 (by omega) (by omega) (by omega) (by omega)) ?_
          rintro e w7 ⟨rfl, hb7⟩
          have HB7 : Hid (Below w.heap.size w w7) := HB6.out.trans (hb7.mono HB6.out.size)
          go_wp2
          go_ret
          exact ⟨rfl, HB7.out⟩
      · have hbC : Below w1.heap.size w1 (w1.drew.alloc (.cells #[.int .i64 0, .int .i64 0] 47)) := hHeld.2.alloc hHeld.2.size _
        have hsC : (w1.drew.alloc (.cells #[.int .i64 0, .int .i64 0] 47)).cell? ⟨g, 0, none⟩ = some (.pointer (some ⟨nb 0, 0, none⟩)) ∧ Below w1.heap.size w1 (w1.drew.alloc (.cells #[.int .i64 0, .int .i64 0] 47)) := ⟨(hbC.cell (p := ⟨g, 0, none⟩) hgl).trans c0, hbC⟩
        have hRA : Row (w1.drew.alloc (.cells #[.int .i64 0, .int .i64 0] 47)) w1.drew.heap.size 47 #[.int .i64 0, .int .i64 0] := Row.new w1.drew _ _
        have haL : w1.heap.size ≤ w1.drew.heap.size := hHeld.2.size
        go_simp
        refine hK.out _ _ hsC (fun hHeld => ?_)
        clear hK K
        refine wpAnyH_ready (rs := [1]) (by kernel_rfl) (by simp) ?_
        refine AllReadyH.cons rfl (fun K hK => ?_) AllReadyH.nil
        go_simp
        refine Calls.mono (HE1.out _ hHeld.2) ?_
        rintro e wA ⟨rfl, hbA⟩
        have hsA : wA.cell? ⟨g, 0, none⟩ = some (.pointer (some ⟨nb 0, 0, none⟩)) ∧ Below w1.heap.size w1 wA := by
          have hB := hHeld.2.trans (hbA.mono hHeld.2.size)
          exact ⟨(hB.cell (p := ⟨g, 0, none⟩) hgl).trans c0, hB⟩
        have hRZ' := hRA.below hbA (by have h := hRA.lt; simp at h ⊢ <;> omega)
        refine hK.out _ _ hsA (fun hHeld => ?_)
        clear hK K
        refine wpAnyH_ready (rs := [5]) (by kernel_rfl) (by simp) ?_
        refine AllReadyH.cons rfl (fun K hK => ?_) AllReadyH.nil
        go_simp
        refine Calls.mono (HE0.out _ hHeld.2) ?_
        rintro e wB ⟨rfl, hbB⟩
        have hsB : wB.cell? ⟨g, 0, none⟩ = some (.pointer (some ⟨nb 0, 0, none⟩)) ∧ Below w1.heap.size w1 wB := by
          have hB := hHeld.2.trans (hbB.mono hHeld.2.size)
          exact ⟨(hB.cell (p := ⟨g, 0, none⟩) hgl).trans c0, hB⟩
        have hRZ := hRZ'.below hbB (by have h := hRZ'.lt; simp at h ⊢ <;> omega)
        refine hK.out _ _ hsB (fun hHeld => ?_)
        clear hK K
        have z0 := hRZ.cell 0
        have z1 := hRZ.cell 1
        have y0 := hRZ.free 0
        have y1 := hRZ.free 1
        (try simp at z0 z1 y0 y1)
        refine take_at (i := 6) (d := 21) (v := .agg #[.int .i64 dp, .int .i64 rm]) rfl rfl (by kernel_rfl) (by kernel_rfl) (by kernel_rfl) (fun _ _ _ h => h) (by kernel_rfl) (by (intro w hSw; (try dsimp only at hSw); go_simp)) (by assumption) ?_
        simp only [List.setIfInBounds_toArray, List.set_cons_succ, List.set_cons_zero]
        refine wpAnyH_ready (rs := [8]) (by kernel_rfl) (by simp) ?_
        refine AllReadyH.cons rfl (fun K hK => ?_) AllReadyH.nil
        go_simp
        have haD : w1.heap.size ≤ w1.heap.size := (by first | exact haL | exact Nat.le_refl _ | (simp only [World.size_drew] at haL; exact haL))
        have hbD : Below w1.heap.size w1 ((wB.setCell ⟨w1.heap.size, 0, none⟩ (.int .i64 dp)).setCell ⟨w1.heap.size, 1, none⟩ (.int .i64 rm)) := (hHeld.2.setCell haD _).setCell haD _
        have hRD : Row ((wB.setCell ⟨w1.heap.size, 0, none⟩ (.int .i64 dp)).setCell ⟨w1.heap.size, 1, none⟩ (.int .i64 rm)) w1.heap.size 47 #[.int .i64 dp, .int .i64 rm] := (hRZ.put 0 (.int .i64 dp)).put 1 (.int .i64 rm)
        generalize (wB.setCell ⟨w1.heap.size, 0, none⟩ (.int .i64 dp)).setCell ⟨w1.heap.size, 1, none⟩ (.int .i64 rm) = wD at *
        generalize w1.heap.size = aD at hRD ⊢
        refine hK.out _ _ ⟨(hbD.cell (p := ⟨g, 0, none⟩) hgl).trans c0, hbD⟩ (fun hHeld => ?_)
        refine wpAnyH_done (by kernel_rfl) ?_ _
        have d0 := hRD.cell 0
        have d1 := hRD.cell 1
        have n1 := (hbD.cell (p := ⟨nb k, 1, none⟩) hkn).trans HK1.out
        simp at d0 d1
        have HBD : Hid (Below w.heap.size w wD) := HB1.out.trans (hbD.mono HB1.out.size)
        clear hHeld hK K hbD hRD
        go_wp2_with fail
        go_still_tail 6, (by kernel_rfl)
        change wpList _ _ _ _ _ wD.drew
        have HBE := Lib.hid HBD.out.drew
        clear d0 d1 n1
        generalize wD.drew = wE at *
        go_wp2_with fail
        refine Calls.mono (spanFirst_any dp rm (99 - zk) wE (by omega) (by omega) (by omega) (by omega)) ?_
        rintro e w6 ⟨rfl, hb6⟩
        have HB6 : Hid (Below w.heap.size w w6) := HBE.out.trans (hb6.mono HBE.out.size)
        go_wp2_with fail
        refine Calls.mono (spanLength_any dp (min rm (dp + (99 - zk))) w6 (by omega) (by omega) (by omega) (by omega)) ?_
        rintro e w7 ⟨rfl, hb7⟩
        have HB7 : Hid (Below w.heap.size w w7) := HB6.out.trans (hb7.mono HB6.out.size)
        go_wp2
        go_ret
        exact ⟨rfl, HB7.out⟩

end Go.Proofs.YtcpiojliakgdlaaGreatDoor
