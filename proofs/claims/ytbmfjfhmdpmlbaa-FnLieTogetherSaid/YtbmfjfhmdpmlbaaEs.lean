/- Who lies together and who shares room: no program. (For the law FnLieTogether.) -/
import Derived.Test.YtbmfjfhmdpmlbaaLq
import Derived.Test.YtbmfjfhmdpmlbaaDm
import Derived.Test.YtbmfjfhmdpmlbaaQe
import Derived.Test.YtbmfjfhmdpmlbaaPe
namespace Go.Proofs.Ytbmfjfhmdpmlbaa
open Go.RowKit

theorem ix_str {l : List Seg} {s : ByteArray} (h : 0 ≤ indexB l s) : namesAt l [(indexB l s).toNat] = s := by
  have hv := index_valid h
  rcases indexB_bd l s with a1 | ⟨_, a1⟩
  · omega
  have hi : (indexB l s).toNat < l.length := by omega
  rw [one_name hv hi]
  have h2 : seek l s = ((indexB l s).toNat : Int) := by
    have : indexB l s = seek l s := if_pos hv
    omega
  obtain ⟨x, hx, hn⟩ := seek_name h2
  rw [List.getElem?_eq_getElem hi] at hx
  injection hx with hx
  rw [hx, hn]
/-- What lies on a segment's path before it ends before it begins. -/
theorem end_before {l : List Seg} (hv : validB l = true) : ∀ i, i < l.length → ∀ v ∈ rp l i, v ≠ i → endAt l v ≤ begAt l i :=
  rp_ind (valid_all hv).1.down (fun i _ hp v hm hne => by
    rw [rp_root hp] at hm
    simp at hm
    exact absurd hm hne) (fun i p hi hpi hp ih v hm hne => by
    have hd := (valid_all hv).1.down
    rw [rp_step hd hi hp] at hm
    rw [begAt_step hd hi hp]
    rcases List.mem_append.1 hm with h | h
    · by_cases he : v = p
      · subst he; exact Int.le_refl _
      · have h1 := ih v h he
        have h2 := place_small hv (show p < l.length by omega)
        omega
    · simp at h
      exact absurd h hne)
theorem lap_neg {l : List Seg} {s t : ByteArray} (h : lapB l s t < 0) : lieB l s t = false := by
  unfold lapB at h
  by_cases hn : indexB l s < 0 ∨ indexB l t < 0
  · unfold lieB comOk hasSeg
    rcases hn with h1 | h1
    · rw [decide_eq_false (p := 0 ≤ indexB l s) (by omega)]; rfl
    · rw [decide_eq_false (p := 0 ≤ indexB l t) (by omega), Bool.and_false]; rfl
  · rw [if_neg hn] at h
    have := Int.le_max_right (min (endAt l (indexB l s).toNat) (endAt l (indexB l t).toNat) - max (begAt l (indexB l s).toNat) (begAt l (indexB l t).toNat)) 0
    omega
theorem lap_found {l : List Seg} {s t : ByteArray} (h : ¬ lapB l s t < 0) : 0 ≤ indexB l s ∧ 0 ≤ indexB l t := by
  unfold lapB at h
  by_cases hn : indexB l s < 0 ∨ indexB l t < 0
  · rw [if_pos hn] at h; omega
  · omega
theorem lie_same {l : List Seg} {s : ByteArray} (hs : 0 ≤ indexB l s) : lieB l s s = true ∧ lapB l s s = sizeB l s := by
  have hv := index_valid hs
  rcases indexB_bd l s with a1 | ⟨_, a1⟩
  · omega
  have hi : (indexB l s).toNat < l.length := by omega
  obtain ⟨A, hA⟩ := rp_last (valid_all hv).1.down _ hi
  have hm : (indexB l s).toNat ∈ pathIx l s := by
    show _ ∈ rp l _
    rw [hA]
    simp
  refine ⟨?_, ?_⟩
  · unfold lieB comOk hasSeg
    rw [decide_eq_true hs, decide_eq_true hm]
    rfl
  · have h1 := place_small hv hi
    have h2 := endAt_beg l (indexB l s).toNat
    unfold lapB sizeB
    rw [if_neg (by omega), if_neg (by omega)]
    have e1 : min (endAt l (indexB l s).toNat) (endAt l (indexB l s).toNat) = endAt l (indexB l s).toNat := Int.min_self _
    have e2 : max (begAt l (indexB l s).toNat) (begAt l (indexB l s).toNat) = begAt l (indexB l s).toNat := Int.max_self _
    rw [e1, e2]
    omega
theorem lie_apart {l : List Seg} {s t : ByteArray} (hs : 0 ≤ indexB l s) (ht : 0 ≤ indexB l t) (hne : s ≠ t) (hl : lieB l s t = true) : lapB l s t = 0 ∧ addrB l s ≠ addrB l t := by
  have hv := index_valid hs
  rcases indexB_bd l s with a1 | ⟨_, a1⟩
  · omega
  rcases indexB_bd l t with a2 | ⟨_, a2⟩
  · omega
  have hi : (indexB l s).toNat < l.length := by omega
  have hj : (indexB l t).toNat < l.length := by omega
  have hij : (indexB l s).toNat ≠ (indexB l t).toNat := fun e => hne (by rw [← ix_str hs, ← ix_str ht, e])
  have p1 := place_small hv hi
  have p2 := place_small hv hj
  unfold lieB at hl
  simp only [Bool.and_eq_true, Bool.or_eq_true, decide_eq_true_eq] at hl
  unfold lapB addrB
  rw [if_neg (by omega), if_neg (by omega), if_neg (by omega)]
  rcases hl.2 with h | h
  · have h1 := end_before hv _ hj _ h hij
    omega
  · have h1 := end_before hv _ hi _ h (fun e => hij e.symm)
    omega

theorem lie_sym (l : List Seg) (s t : ByteArray) : lieB l t s = lieB l s t := by
  unfold lieB
  rw [comOk_sym l s t, Bool.or_comm]
theorem lap_sym (l : List Seg) (s t : ByteArray) : lapB l t s = lapB l s t := by
  unfold lapB
  by_cases h : indexB l s < 0 ∨ indexB l t < 0
  · rw [if_pos h, if_pos h.symm]
  · rw [if_neg h, if_neg (fun e => h e.symm), Int.min_comm, Int.max_comm (begAt l (indexB l t).toNat)]
/-- Behind a segment of a path the next one begins where it ends. -/
theorem next_begins {l : List Seg} (hv : validB l = true) {i : Nat} (hi : i < l.length) {n : Nat} (hn : n + 1 < (rp l i).length) : begAt l ((rp l i)[n + 1]) = endAt l ((rp l i)[n]) := by
  have hd := (valid_all hv).1.down
  have hm := List.getElem_mem hn
  have hx : (rp l i)[n + 1] < l.length := by
    have := rp_le hd i hi _ hm
    omega
  obtain ⟨B, hB⟩ := rp_last hd _ hx
  have h3 : (rp l i).take (n + 1) ++ [(rp l i)[n + 1]] <+: rp l i := by
    rw [List.take_append_getElem hn]
    exact List.take_prefix _ _
  have h4 := rp_prefix hd i hi _ hm
  rw [hB] at h4
  have hlen := snoc_unique (rp_asc hd i hi) h3 h4
  have hBt : B = (rp l i).take (n + 1) := by
    have g := List.prefix_iff_eq_take.1 ((List.prefix_append B [(rp l i)[n + 1]]).trans h4)
    have hz : B.length = n + 1 := by rw [← hlen, List.length_take]; omega
    rw [hz] at g
    exact g
  rcases par_cases hd hx with hp | ⟨p, hp, hpi⟩
  · have h5 := rp_root hp
    rw [hB, hBt] at h5
    have := congrArg List.length h5
    simp at this
    omega
  · have h5 := rp_step hd hx hp
    rw [hB, hBt] at h5
    have h6 : (rp l i).take (n + 1) = rp l p := List.append_cancel_right h5
    obtain ⟨C, hC⟩ := rp_last hd p (by omega)
    have h7 : (rp l i)[n]? = some p := by
      have e1 : ((rp l i).take (n + 1))[n]? = (rp l i)[n]? := by rw [List.getElem?_take]; simp
      have hz : C.length = n := by
        have := congrArg List.length (h6.trans hC)
        simp at this
        omega
      rw [← e1, h6, hC, ← hz]
      simp
    rw [List.getElem?_eq_getElem (by omega)] at h7
    injection h7 with h7
    rw [begAt_step hd hx hp, h7]

/-- What the law asks of two that share room. -/
structure Share (l : List Seg) (s t : ByteArray) (n : Nat) (c ov : ByteArray) : Prop where
  p : n + 2 ≤ (pathStr l s).size ∧ (pathStr l s).size ≤ 100
  q : n + 2 ≤ (pathStr l t).size ∧ (pathStr l t).size ≤ 100
  before : ∀ k, k < n → (pathStr l s).extract k (k + 1) ≠ c
  here : (pathStr l s).extract n (n + 1) = c
  ps : hasT ov ((pathStr l s).extract (n + 1) (n + 2)) = true
  qs : hasT ov ((pathStr l t).extract (n + 1) (n + 2)) = true
  small : ov.size ≤ 100

theorem share {l : List Seg} {s t : ByteArray} (hs : 0 ≤ indexB l s) (ht : 0 ≤ indexB l t) (hl : lieB l s t = false) : ∃ n, Share l s t n (comStr l s t) (overStr l (endB l (comStr l s t))) := by
  have hv := index_valid hs
  have hd := (valid_all hv).1.down
  rcases indexB_bd l s with a1 | ⟨_, a1⟩
  · omega
  rcases indexB_bd l t with a2 | ⟨_, a2⟩
  · omega
  have hi : (indexB l s).toNat < l.length := by omega
  have hj : (indexB l t).toNat < l.length := by omega
  have hpos := comCount_pos hs ht
  obtain ⟨n, hn⟩ : ∃ n, comCount l s t = n + 1 := ⟨comCount l s t - 1, by omega⟩
  have hcl : comLen (pathIx l s) (pathIx l t) = n + 1 := hn
  have hle := comLen_le (pathIx l s) (pathIx l t)
  have htk := comLen_take (pathIx l s) (pathIx l t)
  rw [hcl] at hle htk
  have hok : comOk l s t = true := by
    unfold comOk hasSeg
    rw [decide_eq_true hs, decide_eq_true ht]
    rfl
  unfold lieB at hl
  rw [hok, Bool.true_and, Bool.or_eq_false_iff] at hl
  have l1 : (indexB l s).toNat ∉ pathIx l t := of_decide_eq_false hl.1
  have l2 : (indexB l t).toNat ∉ pathIx l s := of_decide_eq_false hl.2
  obtain ⟨A, hA⟩ := rp_last hd _ hi
  obtain ⟨B, hB⟩ := rp_last hd _ hj
  have hx : n + 1 < (pathIx l s).length := by
    apply Classical.byContradiction
    intro h
    have h1 : (pathIx l s).take (n + 1) = pathIx l s := List.take_of_length_le (by omega)
    rw [h1] at htk
    apply l1
    have : (indexB l s).toNat ∈ pathIx l s := by show _ ∈ rp l _; rw [hA]; simp
    rw [htk] at this
    exact List.mem_of_mem_take this
  have hy : n + 1 < (pathIx l t).length := by
    apply Classical.byContradiction
    intro h
    have h1 : (pathIx l t).take (n + 1) = pathIx l t := List.take_of_length_le (by omega)
    rw [h1] at htk
    apply l2
    have : (indexB l t).toNat ∈ pathIx l t := by show _ ∈ rp l _; rw [hB]; simp
    rw [← htk] at this
    exact List.mem_of_mem_take this
  have bx := ix_lt hs
  have bt := ix_lt ht
  have zx := pathStr_size hs
  have zt := pathStr_size ht
  have h8 := (valid_all hv).2.1
  have vx : (pathIx l s)[n] < l.length := bx _ (List.getElem_mem (by omega))
  have hc : comStr l s t = namesAt l [(pathIx l s)[n]] := by
    have h1 := comStr_cut hs ht n hn
    rw [← h1, pathStr_ix hs]
    exact cut_at hv bx (by omega)
  have hat : endB l (comStr l s t) = endAt l ((pathIx l s)[n]) := by
    unfold endB
    rw [hc, seek_nm hv vx, if_neg (by omega), Int.toNat_natCast]
  have hxy : (pathIx l t)[n] = (pathIx l s)[n] := by
    have h1 : ((pathIx l s).take (n + 1))[n]? = ((pathIx l t).take (n + 1))[n]? := by rw [htk]
    rw [List.getElem?_take, List.getElem?_take] at h1
    simp at h1
    rw [List.getElem?_eq_getElem (by omega), List.getElem?_eq_getElem (by omega)] at h1
    injection h1 with h1
    exact h1.symm
  have hone : ∀ u v, u < l.length → v < l.length → namesAt l [u] = namesAt l [v] → u = v := fun u v hu hv' e => by
    rw [one_name hv hu, one_name hv hv', (nmAt_one hv hu).2, (nmAt_one hv hv').2] at e
    have h1 := congrArg (fun b : ByteArray => b.data.toList) e
    simp at h1
    exact byteOf_inj hv hu hv' h1
  have hold : ∀ u (hu : u < l.length), begAt l u = endAt l ((pathIx l s)[n]) → hasT (overStr l (endB l (comStr l s t))) (namesAt l [u]) = true := fun u hu hb => by
    have h1 := place_small hv hu
    rw [has_over hv _ hu, hat]
    unfold holdsB
    rw [decide_eq_true (by omega : begAt l u ≤ _), decide_eq_true (by omega : _ < endAt l u)]
    rfl
  refine ⟨n, ⟨by omega, by omega⟩, ⟨by omega, by omega⟩, fun k hk => ?_, ?_, ?_, ?_, ?_⟩
  · rw [pathStr_ix hs, cut_at hv bx (by omega), hc]
    intro e
    have h1 := hone _ _ (bx _ (List.getElem_mem (by omega))) vx e
    have h2 := List.pairwise_iff_getElem.1 (rp_asc hd _ hi) k n (show k < (rp l (indexB l s).toNat).length by show k < (pathIx l s).length; omega) (show n < (rp l (indexB l s).toNat).length by show n < (pathIx l s).length; omega) hk
    have h3 : (pathIx l s)[k] < (pathIx l s)[n] := h2
    omega
  · rw [pathStr_ix hs, cut_at hv bx (by omega), hc]
  · rw [pathStr_ix hs, cut_at hv bx hx]
    exact hold _ (bx _ (List.getElem_mem hx)) (next_begins hv hi hx)
  · rw [pathStr_ix ht, cut_at hv bt hy]
    refine hold _ (bt _ (List.getElem_mem hy)) ?_
    rw [← hxy]
    exact next_begins hv hj hy
  · have hso : overStr l (endB l (comStr l s t)) = namesAt l (overIx l (endB l (comStr l s t)) l.length) := if_pos hv
    have h1 := namesAt_size hv (overIx l (endB l (comStr l s t)) l.length) (fun j h => overIx_lt h)
    have h2 := overIx_len l (endB l (comStr l s t)) l.length
    rw [hso]
    omega

end Go.Proofs.Ytbmfjfhmdpmlbaa

/- The law FnLieTogether: its walk. -/
namespace Go.Proofs.Ytbmfjfhmdpmlbaa
open Go.RowKit

set_option maxRecDepth 100000 in
set_option maxHeartbeats 4000000 in
theorem togetherLaw_any (hgood : GoodSaid) (A0 : Option Addr) (n c0 : Nat) (w : World) (hn : n ≤ c0) (hm : n ≤ maxLen) (hx : ∀ b, w.heap.size ≤ b → Bytes w b A0 n) :
    Calls Try.prog 5 #[.slice A0 n c0] w fun e w' => e = .returned (.bool true) ∧ Below w.heap.size w w' := by
  unfold maxLen at hm
  by_cases hbig : 1048576 < n
  · clear hx hgood
    go_enter Try.func5, Try.ntmps5
    go_wp2
    go_ret
    exact ⟨rfl, Below.refl _ _⟩
  have HD := Lib.hid (drawLieTogether_plain hgood A0 n c0 w hn hx)
  clear hx hgood
  go_enter Try.func5, Try.ntmps5
  go_wp2_with fail
  refine Calls.mono HD.out ?_
  rintro e w1 ⟨A, l, c, x, y, rfl, ⟨hS, ⟨hl9, hlc, hcm⟩, hsh⟩, hx2, hy2, hb1⟩
  have hl : l.length ≤ 1048576 := by omega
  have HSH := Lib.hid (fun s hs => Nat.le_trans (hsh s hs) (by decide) : Short l)
  have HS1 : Hid (Segs w1 w1.heap.size A l) := hS
  have HB1 : Hid (Below w.heap.size w w1) := hb1
  have C1 : Hid (Gives 35 A l #[.slice A l.length c, .string x, .string y] (.bool (lieB l x y))) := fun w h => lieTogether_any A l c x y w h hl hlc hcm HSH.out
  have C2 : Hid (Gives 36 A l #[.slice A l.length c, .string x, .string y] (.int .i64 (lapB l x y))) := fun w h => overlap_any A l c x y w h hl hlc hcm HSH.out
  have C3 : Hid (Gives 37 A l #[.slice A l.length c, .string x, .string y] (.bool (lieB l x y))) := fun w h => specLie_any A l c x y w h hl HSH.out
  have C4 : Hid (Gives 38 A l #[.slice A l.length c, .string x, .string y] (.int .i64 (lapB l x y))) := fun w h => specOverlap_any A l c x y w h hl HSH.out
  have C5 : Hid (Gives 35 A l #[.slice A l.length c, .string y, .string x] (.bool (lieB l x y))) := fun w h => by
    rw [← lie_sym l x y]
    exact lieTogether_any A l c y x w h hl hlc hcm HSH.out
  have C6 : Hid (Gives 36 A l #[.slice A l.length c, .string y, .string x] (.int .i64 (lapB l x y))) := fun w h => by
    rw [← lap_sym l x y]
    exact overlap_any A l c y x w h hl hlc hcm HSH.out
  have CA : Hid (∀ s, Gives 39 A l #[.slice A l.length c, .string s] (.int .i64 (addrB l s))) := fun s w h => addressOf_any A l c s w h hl hlc hcm HSH.out
  have CE : Hid (∀ s, Gives 40 A l #[.slice A l.length c, .string s] (.int .i64 (endB l s))) := fun s w h => endOf_any A l c s w h hl hlc hcm HSH.out
  have CZ : Hid (Gives 26 A l #[.slice A l.length c, .string x] (.int .i64 (sizeB l x))) := fun w h => sizeOf_any A l c x w h hl hlc hcm HSH.out
  have CP : Hid (∀ s, Gives 19 A l #[.slice A l.length c, .string s] (.tuple #[.string (pathStr l s), .bool (hasSeg l s)])) := fun s w h => pathOf_any A l c s w h hl hlc hcm HSH.out
  have CC : Hid (Gives 31 A l #[.slice A l.length c, .string x, .string y] (.tuple #[.string (comStr l x y), .bool (comOk l x y)])) := fun w h => commonOf_any A l c x y w h hl hlc hcm HSH.out
  have CL : Hid (∀ a, Gives 41 A l #[.slice A l.length c, .int .i64 a] (.tuple #[.string (overStr l a), .bool (overOk l a)])) := fun a w h => liesAt_any A l c a w h hl hlc hcm HSH.out
  clear hS hb1 HD hsh
  by_cases hneg : lapB l x y < 0
  · have hlie := lap_neg hneg
    rw [hlie] at C1 C3 C5
    clear CA CE CZ CP CC CL hlie
    generalize lapB l x y = lp at *
    go_wp2_with fail
    refine (C1.out _ HS1.out).mono ?_
    rintro e w2 ⟨rfl, hb⟩
    have HS2 : Hid (Segs w2 w2.heap.size A l) := (HS1.out.below hb).more hb.size
    have HB2 : Hid (Below w.heap.size w w2) := HB1.out.trans (hb.mono HB1.out.size)
    clear hb HS1 HB1
    go_wp2_with fail
    refine (C2.out _ HS2.out).mono ?_
    rintro e w3 ⟨rfl, hb⟩
    have HS3 : Hid (Segs w3 w3.heap.size A l) := (HS2.out.below hb).more hb.size
    have HB3 : Hid (Below w.heap.size w w3) := HB2.out.trans (hb.mono HB2.out.size)
    clear hb HS2 HB2
    go_wp2_with fail
    refine (C3.out _ HS3.out).mono ?_
    rintro e w4 ⟨rfl, hb⟩
    have HS4 : Hid (Segs w4 w4.heap.size A l) := (HS3.out.below hb).more hb.size
    have HB4 : Hid (Below w.heap.size w w4) := HB3.out.trans (hb.mono HB3.out.size)
    clear hb HS3 HB3
    go_wp2_with fail
    refine (C4.out _ HS4.out).mono ?_
    rintro e w5 ⟨rfl, hb⟩
    have HS5 : Hid (Segs w5 w5.heap.size A l) := (HS4.out.below hb).more hb.size
    have HB5 : Hid (Below w.heap.size w w5) := HB4.out.trans (hb.mono HB4.out.size)
    clear hb HS4 HB4
    go_wp2_with fail
    refine (C5.out _ HS5.out).mono ?_
    rintro e w6 ⟨rfl, hb⟩
    have HS6 : Hid (Segs w6 w6.heap.size A l) := (HS5.out.below hb).more hb.size
    have HB6 : Hid (Below w.heap.size w w6) := HB5.out.trans (hb.mono HB5.out.size)
    clear hb HS5 HB5
    go_wp2_with fail
    refine (C6.out _ HS6.out).mono ?_
    rintro e w7 ⟨rfl, hb⟩
    have HS7 : Hid (Segs w7 w7.heap.size A l) := (HS6.out.below hb).more hb.size
    have HB7 : Hid (Below w.heap.size w w7) := HB6.out.trans (hb.mono HB6.out.size)
    clear hb HS6 HB6
    go_wp2
    go_ret
    exact ⟨rfl, HB7.out⟩
  obtain ⟨hs, ht⟩ := lap_found hneg
  have CX := Lib.hid (CA.out x)
  have CY := Lib.hid (CA.out y)
  by_cases hxy : x = y
  · subst hxy
    obtain ⟨h1, h2⟩ := lie_same hs
    rw [h1] at C1 C3 C5
    rw [← h2] at CZ
    have hnn : ¬ lapB l x x < 0 := hneg
    have hnn' : (0 : Int) ≤ lapB l x x := by omega
    clear CA CE CP CC CL h1 h2 hneg hs ht
    generalize lapB l x x = lp at *
    generalize addrB l x = ax at *
    go_wp2_with fail
    refine (C1.out _ HS1.out).mono ?_
    rintro e w2 ⟨rfl, hb⟩
    have HS2 : Hid (Segs w2 w2.heap.size A l) := (HS1.out.below hb).more hb.size
    have HB2 : Hid (Below w.heap.size w w2) := HB1.out.trans (hb.mono HB1.out.size)
    clear hb HS1 HB1
    go_wp2_with fail
    refine (C2.out _ HS2.out).mono ?_
    rintro e w3 ⟨rfl, hb⟩
    have HS3 : Hid (Segs w3 w3.heap.size A l) := (HS2.out.below hb).more hb.size
    have HB3 : Hid (Below w.heap.size w w3) := HB2.out.trans (hb.mono HB2.out.size)
    clear hb HS2 HB2
    go_wp2_with fail
    refine (C3.out _ HS3.out).mono ?_
    rintro e w4 ⟨rfl, hb⟩
    have HS4 : Hid (Segs w4 w4.heap.size A l) := (HS3.out.below hb).more hb.size
    have HB4 : Hid (Below w.heap.size w w4) := HB3.out.trans (hb.mono HB3.out.size)
    clear hb HS3 HB3
    go_wp2_with fail
    refine (C4.out _ HS4.out).mono ?_
    rintro e w5 ⟨rfl, hb⟩
    have HS5 : Hid (Segs w5 w5.heap.size A l) := (HS4.out.below hb).more hb.size
    have HB5 : Hid (Below w.heap.size w w5) := HB4.out.trans (hb.mono HB4.out.size)
    clear hb HS4 HB4
    go_wp2_with fail
    refine (C5.out _ HS5.out).mono ?_
    rintro e w6 ⟨rfl, hb⟩
    have HS6 : Hid (Segs w6 w6.heap.size A l) := (HS5.out.below hb).more hb.size
    have HB6 : Hid (Below w.heap.size w w6) := HB5.out.trans (hb.mono HB5.out.size)
    clear hb HS5 HB5
    go_wp2_with fail
    refine (C6.out _ HS6.out).mono ?_
    rintro e w7 ⟨rfl, hb⟩
    have HS7 : Hid (Segs w7 w7.heap.size A l) := (HS6.out.below hb).more hb.size
    have HB7 : Hid (Below w.heap.size w w7) := HB6.out.trans (hb.mono HB6.out.size)
    clear hb HS6 HB6
    go_wp2_with fail
    refine (CX.out _ HS7.out).mono ?_
    rintro e w8 ⟨rfl, hb⟩
    have HS8 : Hid (Segs w8 w8.heap.size A l) := (HS7.out.below hb).more hb.size
    have HB8 : Hid (Below w.heap.size w w8) := HB7.out.trans (hb.mono HB7.out.size)
    clear hb HS7 HB7
    go_wp2_with fail
    refine (CY.out _ HS8.out).mono ?_
    rintro e w9 ⟨rfl, hb⟩
    have HS9 : Hid (Segs w9 w9.heap.size A l) := (HS8.out.below hb).more hb.size
    have HB9 : Hid (Below w.heap.size w w9) := HB8.out.trans (hb.mono HB8.out.size)
    clear hb HS8 HB8
    go_wp2_with fail
    refine (CZ.out _ HS9.out).mono ?_
    rintro e w10 ⟨rfl, hb⟩
    have HS10 : Hid (Segs w10 w10.heap.size A l) := (HS9.out.below hb).more hb.size
    have HB10 : Hid (Below w.heap.size w w10) := HB9.out.trans (hb.mono HB9.out.size)
    clear hb HS9 HB9
    go_wp2
    go_ret
    exact ⟨rfl, HB10.out⟩
  have hxe : (x.toList == y.toList) = false := by
    have := (sameB_iff (a := x) (b := y))
    unfold sameB at this
    cases hq2 : (x.toList == y.toList) with
    | false => rfl
    | true => exact absurd (this.1 hq2) hxy
  cases hlie : lieB l x y with
  | true =>
    obtain ⟨h1, h2⟩ := lie_apart hs ht hxy hlie
    rw [hlie] at C1 C3 C5
    rw [h1] at C2 C4 C6
    have hab : (addrB l x == addrB l y) = false := by rw [beq_eq_false_iff_ne]; exact h2
    clear CA CE CP CC CL CZ h1 hneg hs ht hlie hxy
    generalize addrB l x = ax at *
    generalize addrB l y = ay at *
    go_wp2_with fail
    refine (C1.out _ HS1.out).mono ?_
    rintro e w2 ⟨rfl, hb⟩
    have HS2 : Hid (Segs w2 w2.heap.size A l) := (HS1.out.below hb).more hb.size
    have HB2 : Hid (Below w.heap.size w w2) := HB1.out.trans (hb.mono HB1.out.size)
    clear hb HS1 HB1
    go_wp2_with fail
    refine (C2.out _ HS2.out).mono ?_
    rintro e w3 ⟨rfl, hb⟩
    have HS3 : Hid (Segs w3 w3.heap.size A l) := (HS2.out.below hb).more hb.size
    have HB3 : Hid (Below w.heap.size w w3) := HB2.out.trans (hb.mono HB2.out.size)
    clear hb HS2 HB2
    go_wp2_with fail
    refine (C3.out _ HS3.out).mono ?_
    rintro e w4 ⟨rfl, hb⟩
    have HS4 : Hid (Segs w4 w4.heap.size A l) := (HS3.out.below hb).more hb.size
    have HB4 : Hid (Below w.heap.size w w4) := HB3.out.trans (hb.mono HB3.out.size)
    clear hb HS3 HB3
    go_wp2_with fail
    refine (C4.out _ HS4.out).mono ?_
    rintro e w5 ⟨rfl, hb⟩
    have HS5 : Hid (Segs w5 w5.heap.size A l) := (HS4.out.below hb).more hb.size
    have HB5 : Hid (Below w.heap.size w w5) := HB4.out.trans (hb.mono HB4.out.size)
    clear hb HS4 HB4
    go_wp2_with fail
    refine (C5.out _ HS5.out).mono ?_
    rintro e w6 ⟨rfl, hb⟩
    have HS6 : Hid (Segs w6 w6.heap.size A l) := (HS5.out.below hb).more hb.size
    have HB6 : Hid (Below w.heap.size w w6) := HB5.out.trans (hb.mono HB5.out.size)
    clear hb HS5 HB5
    go_wp2_with fail
    refine (C6.out _ HS6.out).mono ?_
    rintro e w7 ⟨rfl, hb⟩
    have HS7 : Hid (Segs w7 w7.heap.size A l) := (HS6.out.below hb).more hb.size
    have HB7 : Hid (Below w.heap.size w w7) := HB6.out.trans (hb.mono HB6.out.size)
    clear hb HS6 HB6
    go_wp2_with fail
    refine (CX.out _ HS7.out).mono ?_
    rintro e w8 ⟨rfl, hb⟩
    have HS8 : Hid (Segs w8 w8.heap.size A l) := (HS7.out.below hb).more hb.size
    have HB8 : Hid (Below w.heap.size w w8) := HB7.out.trans (hb.mono HB7.out.size)
    clear hb HS7 HB7
    go_wp2_with fail
    refine (CY.out _ HS8.out).mono ?_
    rintro e w9 ⟨rfl, hb⟩
    have HS9 : Hid (Segs w9 w9.heap.size A l) := (HS8.out.below hb).more hb.size
    have HB9 : Hid (Below w.heap.size w w9) := HB8.out.trans (hb.mono HB8.out.size)
    clear hb HS8 HB8
    go_wp2
    go_ret
    exact ⟨ret_bool (by simp [h2]), HB9.out⟩
  | false =>
    obtain ⟨k0, hsh⟩ := share hs ht hlie
    rw [hlie] at C1 C3 C5
    have P1 := Lib.hid (CP.out x)
    have P2 := Lib.hid (CP.out y)
    have E1 := Lib.hid (CE.out (comStr l x y))
    have L1 := Lib.hid (CL.out (endB l (comStr l x y)))
    have hnn' : (0 : Int) ≤ lapB l x y := by omega
    clear CA CE CP CL CZ hs ht hlie hxy hneg
    obtain ⟨⟨p1, p2⟩, ⟨q1, q2⟩, hbf, hhere, hps, hqs, hsm⟩ := hsh
    generalize addrB l x = ax at *
    generalize addrB l y = ay at *
    generalize lapB l x y = lp at *
    generalize overStr l (endB l (comStr l x y)) = ov at *
    generalize overOk l (endB l (comStr l x y)) = ook at *
    generalize endB l (comStr l x y) = en at *
    generalize comStr l x y = cc at *
    generalize comOk l x y = cok at *
    generalize pathStr l x = pp at *
    generalize pathStr l y = qq at *
    generalize hasSeg l x = hx1 at *
    generalize hasSeg l y = hy1 at *
    have HBF := Lib.hid hbf
    have HHR := Lib.hid hhere
    have HPS := Lib.hid hps
    have HQS := Lib.hid hqs
    clear hbf hhere hps hqs
    go_wp2_with fail
    refine (C1.out _ HS1.out).mono ?_
    rintro e w2 ⟨rfl, hb⟩
    have HS2 : Hid (Segs w2 w2.heap.size A l) := (HS1.out.below hb).more hb.size
    have HB2 : Hid (Below w.heap.size w w2) := HB1.out.trans (hb.mono HB1.out.size)
    clear hb HS1 HB1
    go_wp2_with fail
    refine (C2.out _ HS2.out).mono ?_
    rintro e w3 ⟨rfl, hb⟩
    have HS3 : Hid (Segs w3 w3.heap.size A l) := (HS2.out.below hb).more hb.size
    have HB3 : Hid (Below w.heap.size w w3) := HB2.out.trans (hb.mono HB2.out.size)
    clear hb HS2 HB2
    go_wp2_with fail
    refine (C3.out _ HS3.out).mono ?_
    rintro e w4 ⟨rfl, hb⟩
    have HS4 : Hid (Segs w4 w4.heap.size A l) := (HS3.out.below hb).more hb.size
    have HB4 : Hid (Below w.heap.size w w4) := HB3.out.trans (hb.mono HB3.out.size)
    clear hb HS3 HB3
    go_wp2_with fail
    refine (C4.out _ HS4.out).mono ?_
    rintro e w5 ⟨rfl, hb⟩
    have HS5 : Hid (Segs w5 w5.heap.size A l) := (HS4.out.below hb).more hb.size
    have HB5 : Hid (Below w.heap.size w w5) := HB4.out.trans (hb.mono HB4.out.size)
    clear hb HS4 HB4
    go_wp2_with fail
    refine (C5.out _ HS5.out).mono ?_
    rintro e w6 ⟨rfl, hb⟩
    have HS6 : Hid (Segs w6 w6.heap.size A l) := (HS5.out.below hb).more hb.size
    have HB6 : Hid (Below w.heap.size w w6) := HB5.out.trans (hb.mono HB5.out.size)
    clear hb HS5 HB5
    go_wp2_with fail
    refine (C6.out _ HS6.out).mono ?_
    rintro e w7 ⟨rfl, hb⟩
    have HS7 : Hid (Segs w7 w7.heap.size A l) := (HS6.out.below hb).more hb.size
    have HB7 : Hid (Below w.heap.size w w7) := HB6.out.trans (hb.mono HB6.out.size)
    clear hb HS6 HB6
    go_wp2_with fail
    refine (CX.out _ HS7.out).mono ?_
    rintro e w8 ⟨rfl, hb⟩
    have HS8 : Hid (Segs w8 w8.heap.size A l) := (HS7.out.below hb).more hb.size
    have HB8 : Hid (Below w.heap.size w w8) := HB7.out.trans (hb.mono HB7.out.size)
    clear hb HS7 HB7
    go_wp2_with fail
    refine (CY.out _ HS8.out).mono ?_
    rintro e w9 ⟨rfl, hb⟩
    have HS9 : Hid (Segs w9 w9.heap.size A l) := (HS8.out.below hb).more hb.size
    have HB9 : Hid (Below w.heap.size w w9) := HB8.out.trans (hb.mono HB8.out.size)
    clear hb HS8 HB8
    go_wp2_with fail
    refine (P1.out _ HS9.out).mono ?_
    rintro e w10 ⟨rfl, hb⟩
    have HS10 : Hid (Segs w10 w10.heap.size A l) := (HS9.out.below hb).more hb.size
    have HB10 : Hid (Below w.heap.size w w10) := HB9.out.trans (hb.mono HB9.out.size)
    clear hb HS9 HB9
    go_wp2_with fail
    refine (P2.out _ HS10.out).mono ?_
    rintro e w11 ⟨rfl, hb⟩
    have HS11 : Hid (Segs w11 w11.heap.size A l) := (HS10.out.below hb).more hb.size
    have HB11 : Hid (Below w.heap.size w w11) := HB10.out.trans (hb.mono HB10.out.size)
    clear hb HS10 HB10
    go_wp2_with fail
    refine (CC.out _ HS11.out).mono ?_
    rintro e w12 ⟨rfl, hb⟩
    have HS12 : Hid (Segs w12 w12.heap.size A l) := (HS11.out.below hb).more hb.size
    have HB12 : Hid (Below w.heap.size w w12) := HB11.out.trans (hb.mono HB11.out.size)
    clear hb HS11 HB11
    go_wp2_with fail
    refine (E1.out _ HS12.out).mono ?_
    rintro e w13 ⟨rfl, hb⟩
    have HS13 : Hid (Segs w13 w13.heap.size A l) := (HS12.out.below hb).more hb.size
    have HB13 : Hid (Below w.heap.size w w13) := HB12.out.trans (hb.mono HB12.out.size)
    clear hb HS12 HB12
    go_wp2_with fail
    refine (L1.out _ HS13.out).mono ?_
    rintro e w14 ⟨rfl, hb⟩
    have HS14 : Hid (Segs w14 w14.heap.size A l) := (HS13.out.below hb).more hb.size
    have HB14 : Hid (Below w.heap.size w w14) := HB13.out.trans (hb.mono HB13.out.size)
    clear hb HS13 HB13
    clear C1 C2 C3 C4 C5 C6 CX CY P1 P2 CC E1 L1
    go_wp2
    go_loopw [19] (fun i wr => ∃ k : Nat, k ≤ k0 ∧ i = .int .i64 k ∧ Hid (Below w.heap.size w wr))
      (fun i _ => k0 - (intOf i).toNat)
    case atStart => exact ⟨0, Nat.zero_le _, rfl, HB14⟩
    case round =>
      obtain ⟨k, hk, rfl, HBr⟩ := hrel
      clear HB14 HS14
      have hz0 : (0 : Int) ≤ (k : Int) := Int.natCast_nonneg _
      have hz1 : ((k : Int) + 1).toNat = k + 1 := by omega
      have hz3 : (k : Int) + 1 ≤ (pp.size : Int) := by omega
      by_cases hlt : k < k0
      · have ht : ((pp.extract k (k + 1)).toList == cc.toList) = false := by
          have := (sameB_iff (a := pp.extract k (k + 1)) (b := cc))
          unfold sameB at this
          cases hq2 : ((pp.extract k (k + 1)).toList == cc.toList) with
          | false => rfl
          | true => exact absurd (this.1 hq2) (HBF.out k hlt)
        clear HBF HHR HPS HQS
        go_wp2
        go_roundw
        case rel => exact ⟨k + 1, by omega, by go_num, HBr⟩
        case measure => simp [intOf]; omega
      · obtain rfl : k = k0 := by omega
        have ht : ((pp.extract k (k + 1)).toList == cc.toList) = true := by rw [HHR.out]; simp
        have hz2 : ((k : Int) + 2).toNat = k + 2 := by omega
        have hz4 : (k : Int) + 2 ≤ (pp.size : Int) := by omega
        have hz5 : (k : Int) + 2 ≤ (qq.size : Int) := by omega
        clear HBF HHR
        go_wp2_with fail
        refine (soHas_any ov (pp.extract (k + 1) (k + 2)) wr (by omega)).mono ?_
        rintro e wa ⟨rfl, hb⟩
        rw [HPS.out]
        have HBa : Hid (Below w.heap.size w wa) := HBr.out.trans (hb.mono HBr.out.size)
        clear hb HBr HPS
        go_wp2_with fail
        refine (soHas_any ov (qq.extract (k + 1) (k + 2)) wa (by omega)).mono ?_
        rintro e wb ⟨rfl, hb⟩
        rw [HQS.out]
        have HBb : Hid (Below w.heap.size w wb) := HBa.out.trans (hb.mono HBa.out.size)
        clear hb HBa HQS
        go_wp2
        go_ret
        exact ⟨rfl, HBb.out⟩

end Go.Proofs.Ytbmfjfhmdpmlbaa
