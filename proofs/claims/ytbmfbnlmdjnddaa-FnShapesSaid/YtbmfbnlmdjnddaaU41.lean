/- Joined: Ok Ol Om. -/
import Derived.Test.YtbmfbnlmdjnddaaU11
import Derived.Test.YtbmfbnlmdjnddaaU19
import Derived.Test.YtbmfbnlmdjnddaaU17
import Derived.Test.YtbmfbnlmdjnddaaU06
import Derived.Test.YtbmfbnlmdjnddaaU38
import Derived.Test.YtbmfbnlmdjnddaaU25
/- soTree; the draws of trees for FnShapes. -/
namespace Go.Proofs.Ytbmfbnlmdjnddaa
open Go.RowKit

theorem treeCap {w : World} {B : Nat} {v : Value} {tr : List Seg} (h : OwnTree w B v tr) : ∃ A c, v = .slice A tr.length c ∧ tr.length ≤ c ∧ c ≤ 9223372036854775807 ∧ Segs w w.heap.size A tr := by
  obtain ⟨A, cap, e, hs⟩ := h.form
  refine ⟨A, cap, e, ?_, ?_, hs⟩
  all_goals
    rcases h.2 with ⟨h1, h0⟩ | ⟨g, c, cur, hv, hb, _, hn, hc, _⟩
    · rw [e] at h1
      injection h1 with _ h2 h3
      omega
    · rw [e] at hv
      injection hv with _ h2 h3
      unfold maxLen at hc
      omega

set_option maxRecDepth 100000 in
set_option maxHeartbeats 1000000 in
theorem soTree_any (A A' : Option Addr) (l : List Seg) (c c' : Nat) (w : World) (hw : Segs w w.heap.size A l) (hw' : Segs w w.heap.size A' l) (hl : l.length ≤ 1000) :
    Calls Try.prog 23 #[.slice A l.length c, .slice A' l.length c'] w fun e w' => e = .returned (.bool true) ∧ Below w.heap.size w w' := by
  have HW : Hid (Segs w w.heap.size A l) := hw
  have HW' : Hid (Segs w w.heap.size A' l) := hw'
  clear hw hw'
  go_enter Try.func23, Try.ntmps23
  go_wp2
  go_loopw [11] (fun i wr => ∃ (k : Nat), k ≤ l.length ∧ i = .int .i64 k ∧ Hid (Below w.heap.size w wr))
    (fun i _ => l.length - (intOf i).toNat)
  case atStart => exact ⟨0, Nat.zero_le _, rfl, Below.refl _ _⟩
  case round =>
    obtain ⟨k, hk, rfl, HB⟩ := hrel
    by_cases hlt : k < l.length
    · have hlt' : (k : Int) < (l.length : Int) := by omega
      have hk0 : (0 : Int) ≤ (k : Int) := Int.natCast_nonneg _
      obtain ⟨b, o, rfl, hB, hc⟩ := HW.out (by omega)
      obtain ⟨b', o', rfl, hB', hc'⟩ := HW'.out (by omega)
      obtain ⟨c0, c1, c2⟩ := hc k l[k] (List.getElem?_eq_getElem hlt)
      obtain ⟨d0, d1, d2⟩ := hc' k l[k] (List.getElem?_eq_getElem hlt)
      clear hc hc'
      rw [← HB.out.cell hB] at c0 c1 c2
      rw [← HB.out.cell hB'] at d0 d1 d2
      generalize l[k].name = s0 at *
      generalize l[k].size = s1 at *
      generalize l[k].par = s2 at *
      go_wp2
      go_quiet (fail)
      go_wp2
      go_roundw
      case rel => exact ⟨k + 1, by omega, by go_num, below_drewN HB.out _⟩
      case measure => simp [intOf]; omega
    · go_wp2
      go_ret
      exact ⟨rfl, HB.out⟩

/-- A tree that is drawn. -/
def TreeHad (w : World) (e : Ending) (w' : World) : Prop := ∃ (A : Option Addr) (l : List Seg) (c : Nat), e = .returned (.slice A (List.length l) c) ∧ TreeHas w' A l c ∧ Below w.heap.size w w'
def TwoHad (w : World) (e : Ending) (w' : World) : Prop := ∃ (A : Option Addr) (l : List Seg) (c : Nat) (A2 : Option Addr) (l2 : List Seg) (c2 : Nat), e = .returned (.tuple #[.slice A (List.length l) c, .slice A2 (List.length l2) c2]) ∧ TreeHas w' A l c ∧ TreeHas w' A2 l2 c2 ∧ Below w.heap.size w w'

set_option maxRecDepth 100000 in
set_option maxHeartbeats 1000000 in
theorem drawFlat_any (hgood : GoodSaid) (A0 : Option Addr) (n c0 : Nat) (w : World) (hn : n ≤ c0) (hx : ∀ b, w.heap.size ≤ b → Bytes w b A0 n) :
    Calls Try.prog 16 #[.slice A0 n c0] w (TreeHad w) := by
  have HO := Lib.hid (l13Open_any A0 n c0 w hn hx)
  have HP := Lib.hid (fun b w h => l1Some_plain b 0 w h (by omega) (fun w h => hgood b 0 w (by omega) h))
  clear hx hgood
  unfold TreeHad
  go_enter Try.func16, Try.ntmps16
  go_wp2_with fail
  refine Calls.mono HO.out ?_
  rintro e w1 ⟨b, rfl, hbb, hr, hb1⟩
  have HB1 := Lib.hid hb1
  have HPP := Lib.hid (HP.out b w1 hr)
  unfold SomePost at HPP
  clear hr hb1 HP HO
  go_wp2_with fail
  refine Calls.mono HPP.out ?_
  rintro e w2 ⟨A, l, c, rfl, ⟨hs, -⟩, hl, hsh, ho, -⟩
  have HT : Hid (TreeHas w2 A l c) := ⟨hs, hl, hsh⟩
  have HB2 := Lib.hid (only_below HB1.out hbb ho)
  clear hs hl hsh ho HPP
  go_wp2
  go_ret
  exact ⟨A, l, c, rfl, HT.out, HB2.out⟩

theorem flat_names {f : Nat → Int} {l : List Seg} (h : ∀ s ∈ l, s.name.size ≤ 8) : ∀ s ∈ parL f l, s.name.size ≤ 8 := fun s hs => by
  obtain ⟨i, hi, rfl⟩ := List.getElem_of_mem hs
  have hi' : i < l.length := by rw [parL_len] at hi; exact hi
  have h2 := parL_get f l hi'
  rw [List.getElem?_eq_getElem hi] at h2
  injection h2 with h2
  rw [h2]
  exact h l[i] (List.getElem_mem hi')
theorem res_has {w : World} {B : Nat} {v : Value} {l : List Seg} {f : Nat → Int} (h : OwnTree w B v (if validB l = true then parL f l else [])) (h9 : l.length ≤ 9) (hn : ∀ s ∈ l, s.name.size ≤ 8) : ∃ A c, v = .slice A (if validB l = true then parL f l else []).length c ∧ TreeHas w A (if validB l = true then parL f l else []) c := by
  obtain ⟨A, c, e, h1, h2, hs⟩ := treeCap h
  refine ⟨A, c, e, hs, ⟨?_, h1, h2⟩, ?_⟩
  · split
    · rw [parL_len]; exact h9
    · exact Nat.zero_le _
  · split
    · exact flat_names hn
    · intro s hs; cases hs

set_option maxRecDepth 100000 in
set_option maxHeartbeats 2000000 in
theorem drawSame_any (hgood : GoodSaid) (A0 : Option Addr) (n c0 : Nat) (w : World) (hn : n ≤ c0) (hx : ∀ b, w.heap.size ≤ b → Bytes w b A0 n) :
    Calls Try.prog 21 #[.slice A0 n c0] w (TwoHad w) := by
  have HO := Lib.hid (l13Open_any A0 n c0 w hn hx)
  have HP := Lib.hid (fun b P w (hP : P ≤ 100) h => l1Some_plain b P w h (by omega) (fun w h => hgood b P w (by omega) h))
  clear hx hgood
  unfold TwoHad
  go_enter Try.func21, Try.ntmps21
  go_wp2_with fail
  refine Calls.mono HO.out ?_
  rintro e w1 ⟨b, rfl, hbb, hr, hb1⟩
  have HB1 := Lib.hid hb1
  have HPP := Lib.hid (HP.out b 0 w1 (by omega) hr)
  unfold SomePost at HPP
  clear hr hb1 HO
  go_wp2_with fail
  refine Calls.mono HPP.out ?_
  rintro e w2 ⟨A, l, c, rfl, ⟨hs, hA⟩, hl, hsh, ho, hr2⟩
  have HS2 := Lib.hid hs
  have HA := Lib.hid hA
  have HL := Lib.hid hl
  have HSH := Lib.hid hsh
  have HB2 := Lib.hid (only_below HB1.out hbb ho)
  have HR2 := Lib.hid hr2
  clear hs hA hl hsh ho hr2 HPP
  go_wp2_with fail
  refine (draw_any b (0 + 50) 4 w2 HR2.out (by omega) (by omega) (by omega)).mono ?_
  rintro e w3 ⟨x, rfl, ⟨hx0, -⟩, ho3, hr3⟩
  have HS3 : Hid (Segs w3 w3.heap.size A l) := HS2.out.farO ho3 HA.out
  have HB3 := Lib.hid (only_below HB2.out hbb ho3)
  have HR3 := Lib.hid hr3
  clear ho3 hr3 HS2 HR2 HB2
  by_cases h0 : x = 0
  · subst h0
    have HPQ := Lib.hid (HP.out b (0 + 50 + 1) w3 (by omega) HR3.out)
    unfold SomePost at HPQ
    go_wp2_with fail
    refine Calls.mono HPQ.out ?_
    rintro e w4 ⟨A4, l4, c4, rfl, ⟨hs4, -⟩, hl4, hsh4, ho4, -⟩
    have HT : Hid (TreeHas w4 A l c) := ⟨HS3.out.farO ho4 HA.out, HL.out, HSH.out⟩
    have HT4 : Hid (TreeHas w4 A4 l4 c4) := ⟨hs4, hl4, hsh4⟩
    have HB4 := Lib.hid (only_below HB3.out hbb ho4)
    clear hs4 hl4 hsh4 ho4 HPQ HP
    go_wp2
    go_ret2
    exact ⟨A, l, c, A4, l4, c4, rfl, HT.out, HT4.out, HB4.out⟩
  · have h0' : (x == 0) = false := beq_eq_false_iff_ne.2 h0
    have hl1 : l.length ≤ 1048576 := by have := HL.out.1; omega
    have hshort : Short l := fun s hs => by have := HSH.out s hs; unfold maxLen; omega
    by_cases h1 : x = 1
    · subst h1
      have HF := Lib.hid (specFlatTree_any A l c w3 HS3.out hl1 hshort)
      unfold TreeAns at HF
      clear HP hshort
      go_wp2_with fail
      refine Calls.mono HF.out ?_
      rintro e w4 ⟨v4, rfl, ho4, hb4⟩
      obtain ⟨A4, c4, rfl, ht4⟩ := res_has ho4 HL.out.1 HSH.out
      have HT4 := Lib.hid ht4
      have HT : Hid (TreeHas w4 A l c) := ⟨(HS3.out.below hb4).more hb4.size, HL.out, HSH.out⟩
      have HB4 := Lib.hid (HB3.out.trans (hb4.mono HB3.out.size))
      clear ho4 hb4 ht4 HF
      generalize (if validB l = true then parL flatP l else []) = l4 at *
      go_wp2
      go_ret2
      exact ⟨A, l, c, A4, l4, c4, rfl, HT.out, HT4.out, HB4.out⟩
    · have h1' : (x == 1) = false := beq_eq_false_iff_ne.2 h1
      by_cases h2 : x = 2
      · subst h2
        have HF := Lib.hid (specChainTree_any A l c w3 HS3.out hl1 hshort)
        unfold TreeAns at HF
        clear HP hshort
        go_wp2_with fail
        refine Calls.mono HF.out ?_
        rintro e w4 ⟨v4, rfl, ho4, hb4⟩
        obtain ⟨A4, c4, rfl, ht4⟩ := res_has ho4 HL.out.1 HSH.out
        have HT4 := Lib.hid ht4
        have HT : Hid (TreeHas w4 A l c) := ⟨(HS3.out.below hb4).more hb4.size, HL.out, HSH.out⟩
        have HB4 := Lib.hid (HB3.out.trans (hb4.mono HB3.out.size))
        clear ho4 hb4 ht4 HF
        generalize (if validB l = true then parL chainP l else []) = l4 at *
        go_wp2
        go_ret2
        exact ⟨A, l, c, A4, l4, c4, rfl, HT.out, HT4.out, HB4.out⟩
      · have h2' : (x == 2) = false := beq_eq_false_iff_ne.2 h2
        have HT : Hid (TreeHas w3 A l c) := ⟨HS3.out, HL.out, HSH.out⟩
        clear HP hshort
        go_wp2
        go_ret2
        exact ⟨A, l, c, A, l, c, rfl, HT.out, HT.out, HB3.out⟩

end Go.Proofs.Ytbmfbnlmdjnddaa
/- What FnShapes asks: trees of the same segments. Plain. -/
namespace Go.Proofs.Ytbmfbnlmdjnddaa
open Go.RowKit

theorem index_at {l : List Seg} (hv : validB l = true) {i : Nat} (hi : i < l.length) : indexB l ⟨#[byteOf l i]⟩ = (i : Int) := (if_pos hv).trans (bSeek_byte hv hi)
theorem size_at {l : List Seg} (hv : validB l = true) {i : Nat} (hi : i < l.length) : sizeB l ⟨#[byteOf l i]⟩ = sizeAt l i := by
  unfold sizeB
  rw [index_at hv hi, if_neg (by omega), Int.toNat_natCast]
theorem size_in {l : List Seg} (hv : validB l = true) {u : UInt8} (h : 1 ≤ sizeB l ⟨#[u]⟩) : ∃ j, j < l.length ∧ byteOf l j = u := by
  unfold sizeB at h
  by_cases h0 : indexB l ⟨#[u]⟩ < 0
  · rw [if_pos h0] at h; omega
  · exact callP_byte hv (decide_eq_true (by omega))
theorem byte_inj {l : List Seg} (hv : validB l = true) {i j : Nat} (hi : i < l.length) (hj : j < l.length) (h : byteOf l i = byteOf l j) : i = j := by
  have h1 := bSeek_byte hv hi
  rw [h, bSeek_byte hv hj] at h1
  omega
theorem same_iff {a b : List Seg} (ha : validB a = true) : sameUp a b a.length = true ↔ ∀ i, i < a.length → sizeB b ⟨#[byteOf a i]⟩ = sizeAt a i := by
  unfold sameUp
  rw [List.take_length, List.all_eq_true]
  constructor
  · intro h i hi
    have h1 := of_decide_eq_true (h a[i] (List.getElem_mem hi))
    rw [(nmAt_one ha hi).2] at h1
    rw [h1, sizeAt_of hi]
  · intro h s hs
    obtain ⟨i, hi, rfl⟩ := List.getElem_of_mem hs
    rw [decide_eq_true_eq, (nmAt_one ha hi).2, h i hi, sizeAt_of hi]
def bytesOf (l : List Seg) : List UInt8 := (List.range l.length).map (byteOf l)
theorem bytesOf_len (l : List Seg) : (bytesOf l).length = l.length := by unfold bytesOf; rw [List.length_map, List.length_range]
theorem bytesOf_mem {l : List Seg} {u : UInt8} : u ∈ bytesOf l ↔ ∃ i, i < l.length ∧ byteOf l i = u := by
  unfold bytesOf
  rw [List.mem_map]
  exact ⟨fun ⟨i, hi, e⟩ => ⟨i, List.mem_range.1 hi, e⟩, fun ⟨i, hi, e⟩ => ⟨i, List.mem_range.2 hi, e⟩⟩
theorem bytesOf_nodup {l : List Seg} (hv : validB l = true) : (bytesOf l).Nodup := by
  unfold bytesOf List.Nodup
  rw [List.pairwise_map, List.pairwise_iff_getElem]
  intro i j hi hj hij
  rw [List.length_range] at hi hj
  rw [List.getElem_range, List.getElem_range]
  intro e
  have := byte_inj hv hi hj e
  omega
theorem all_of_some {a b : List UInt8} (ha : a.Nodup) (hs : ∀ x ∈ a, x ∈ b) (hl : a.length = b.length) : ∀ y ∈ b, y ∈ a := fun y hy => by
  rcases Classical.em (y ∈ a) with h | h
  · exact h
  · have h1 := nodup_le (b := b.erase y) ha (fun x hx => (List.mem_erase_of_ne (fun e => h (by rw [← e]; exact hx))).2 (hs x hx))
    rw [List.length_erase_of_mem hy] at h1
    have h2 := List.length_pos_of_mem hy
    omega
theorem same_back {a b : List Seg} (ha : validB a = true) (hb : validB b = true) (hl : a.length = b.length) (h : ∀ i, i < a.length → sizeB b ⟨#[byteOf a i]⟩ = sizeAt a i) : ∀ j, j < b.length → sizeB a ⟨#[byteOf b j]⟩ = sizeAt b j := fun j hj => by
  have h1 : ∀ x ∈ bytesOf a, x ∈ bytesOf b := fun x hx => by
    obtain ⟨i, hi, rfl⟩ := bytesOf_mem.1 hx
    have h2 := (sizeAt_bd ha hi).1
    rw [← h i hi] at h2
    exact bytesOf_mem.2 (size_in hb h2)
  obtain ⟨i, hi, e⟩ := bytesOf_mem.1 (all_of_some (bytesOf_nodup ha) h1 (by rw [bytesOf_len, bytesOf_len]; exact hl) _ (bytesOf_mem.2 ⟨j, hj, rfl⟩))
  rw [← e, size_at ha hi, ← h i hi, e, size_at hb hj]
theorem same_parts {a b : List Seg} (h : sameSegs a b = true) : validB a = true ∧ validB b = true ∧ a.length = b.length ∧ sameB (nm0 a) (nm0 b) = true ∧ sameUp a b a.length = true := by
  unfold sameSegs at h
  simp only [Bool.and_eq_true] at h
  exact ⟨h.1.1.1.1, h.1.1.1.2, of_decide_eq_true h.1.1.2, h.1.2, h.2⟩
theorem same_make {a b : List Seg} (h1 : validB a = true) (h2 : validB b = true) (h3 : a.length = b.length) (h4 : sameB (nm0 a) (nm0 b) = true) (h5 : sameUp a b a.length = true) : sameSegs a b = true := by
  unfold sameSegs
  rw [h1, h2, decide_eq_true h3, h4, h5]
  rfl
theorem same_sym {a b : List Seg} (h : sameSegs a b = true) : sameSegs b a = true := by
  obtain ⟨h1, h2, h3, h4, h5⟩ := same_parts h
  exact same_make h2 h1 h3.symm (sameB_iff.2 (sameB_iff.1 h4).symm) ((same_iff h2).2 (same_back h1 h2 h3 ((same_iff h1).1 h5)))
theorem same_comm (a b : List Seg) : sameSegs a b = sameSegs b a := by
  rw [Bool.eq_iff_iff]
  exact ⟨same_sym, same_sym⟩
theorem par_byte (f : Nat → Int) {l : List Seg} {i : Nat} (hi : i < l.length) : (parL f l)[i]'(by rw [parL_len]; exact hi) = ⟨l[i].name, l[i].size, f i⟩ := by
  have h := parL_get f l hi
  rw [List.getElem?_eq_getElem (by rw [parL_len]; exact hi)] at h
  injection h
theorem same_par {f : Nat → Int} {l : List Seg} (hv : validB l = true) (hp : validB (parL f l) = true) : sameSegs l (parL f l) = true := by
  have h1 := (valid_all hv).2.2
  have hb : ∀ i, i < l.length → byteOf (parL f l) i = byteOf l i := fun i hi => by
    have e1 := (nmAt_one hp (v := i) (by rw [parL_len]; exact hi)).2
    have e2 := (nmAt_one hv hi).2
    rw [par_byte f hi] at e1
    dsimp only at e1
    rw [e2] at e1
    injection e1 with e1
    injection e1 with e1
    injection e1 with e1
    exact e1.symm
  refine same_make hv hp (parL_len f l).symm ?_ ((same_iff hv).2 fun i hi => ?_)
  · rw [sameB_iff, nm0_of (by omega), nm0_of (by rw [parL_len]; omega), par_byte f (by omega)]
  · rw [← hb i hi, size_at hp (by rw [parL_len]; exact hi), parL_size]
theorem same_flat {l : List Seg} (hv : validB l = true) : sameSegs l (flatL l) = true := same_par hv (flat_valid hv)
theorem same_chain {l : List Seg} (hv : validB l = true) : sameSegs l (chainL l) = true := same_par hv (chain_valid hv)

end Go.Proofs.Ytbmfbnlmdjnddaa
/- The walk of the law FnShapes. -/
namespace Go.Proofs.Ytbmfbnlmdjnddaa
open Go.RowKit

theorem bytes_laterS {w w' : World} {A : Option Addr} {m : Nat} (h : ∀ b, w.heap.size ≤ b → Bytes w b A m) (hb : Below w.heap.size w w') : ∀ b, w'.heap.size ≤ b → Bytes w' b A m := fun b hbb h0 => by
  have hz := hb.size
  obtain ⟨g, o, rfl, hne, hlt, hx⟩ := h b (by omega) h0
  refine ⟨g, o, rfl, hne, by omega, fun i hi => ?_⟩
  obtain ⟨x, hc, hx2⟩ := hx i hi
  exact ⟨x, (hb.cell (p := ⟨g, o + i, none⟩) hlt).trans hc, hx2⟩
theorem short_par {f : Nat → Int} {l : List Seg} (h : ∀ s ∈ l, s.name.size ≤ 8) : Short (parL f l) := fun s hs => by
  have := flat_names (f := f) h s hs
  unfold maxLen
  omega

set_option maxRecDepth 100000 in
set_option maxHeartbeats 16000000 in
theorem shapesLaw_any (hgood : GoodSaid) (A0 : Option Addr) (n c0 : Nat) (A2 : Option Addr) (n2 c2 : Nat) (w : World) (hn : n ≤ c0) (hm : n ≤ maxLen) (hx : ∀ b, w.heap.size ≤ b → Bytes w b A0 n) (hn2 : n2 ≤ c2) (hm2 : n2 ≤ maxLen) (hx2 : ∀ b, w.heap.size ≤ b → Bytes w b A2 n2) :
    Calls Try.prog 4 #[.slice A0 n c0, .slice A2 n2 c2] w fun e w' => e = .returned (.bool true) ∧ Below w.heap.size w w' := by
  unfold maxLen at hm hm2
  by_cases hbig : 1048576 < n
  · clear hx hx2 hgood
    go_enter Try.func4, Try.ntmps4
    go_wp2
    go_ret
    exact ⟨rfl, Below.refl _ _⟩
  by_cases hbig2 : 1048576 < n2
  · clear hx hx2 hgood
    go_enter Try.func4, Try.ntmps4
    go_wp2
    go_ret
    exact ⟨rfl, Below.refl _ _⟩
  have HD := Lib.hid (drawFlat_any hgood A0 n c0 w hn hx)
  have HD2 := Lib.hid (fun w' (hb : Below w.heap.size w w') => drawSame_any hgood A2 n2 c2 w' hn2 (bytes_laterS hx2 hb))
  unfold TreeHad at HD
  unfold TwoHad at HD2
  clear hx hx2 hgood
  go_enter Try.func4, Try.ntmps4
  go_wp2_with fail
  refine Calls.mono HD.out ?_
  rintro e w1 ⟨A, l, c, rfl, ⟨hs1, ⟨hl9, hlc, hcm⟩, hnm⟩, hb1⟩
  have hsh : Short l := fun x hx => by have := hnm x hx; unfold maxLen; omega
  have HFI := Lib.hid (fun W h => flatTree_any A l c W h (by omega) hlc hcm hsh)
  have HFS := Lib.hid (fun W h => specFlatTree_any A l c W h (by omega) hsh)
  have HCI := Lib.hid (fun W h => chainTree_any A l c W h (by omega) hlc hcm hsh)
  have HCS := Lib.hid (fun W h => specChainTree_any A l c W h (by omega) hsh)
  unfold TreeAns flatRes at HFI HFS
  unfold TreeAns chainRes at HCI HCS
  have HSH := Lib.hid hsh
  have HNM := Lib.hid hnm
  have HB1 := Lib.hid hb1
  have HW := Lib.hid hs1
  clear hs1 hnm hb1 hsh HD
  have HFR := Lib.hid (flatRes_len l)
  have HCR := Lib.hid (chainRes_len l)
  unfold flatRes at HFR
  unfold chainRes at HCR
  obtain ⟨F, HF⟩ : ∃ F, Hid ((if validB l = true then flatL l else []) = F) := ⟨_, rfl⟩
  obtain ⟨C, HC⟩ : ∃ C, Hid ((if validB l = true then chainL l else []) = C) := ⟨_, rfl⟩
  rw [HF.out] at HFI HFS HFR
  rw [HC.out] at HCI HCS HCR
  have hF200 : F.length ≤ 200 := HFR.out
  have hC200 : C.length ≤ 200 := HCR.out
  go_wp2_with fail
  refine Calls.mono (HFI.out w1 HW.out) ?_
  rintro e w2 ⟨v2, rfl, ho2, hb2⟩
  have HB2 : Hid (Below w.heap.size w w2) := HB1.out.trans (hb2.mono HB1.out.size)
  have HW := Lib.hid ((HW.out.below hb2).more hb2.size)
  have O2 := Lib.hid ho2
  clear hb2 HB1 ho2 HFI
  go_wp2_with fail
  refine Calls.mono (HFS.out w2 HW.out) ?_
  rintro e w3 ⟨v3, rfl, ho3, hb3⟩
  have HB3 : Hid (Below w.heap.size w w3) := HB2.out.trans (hb3.mono HB2.out.size)
  have HW := Lib.hid ((HW.out.below hb3).more hb3.size)
  have O2 := Lib.hid (treeBelow O2.out hb3)
  have O3 := Lib.hid ho3
  clear hb3 HB2 ho3 HFS
  go_wp2_with fail
  refine Calls.mono (HCI.out w3 HW.out) ?_
  rintro e w4 ⟨v4, rfl, ho4, hb4⟩
  have HB4 : Hid (Below w.heap.size w w4) := HB3.out.trans (hb4.mono HB3.out.size)
  have HW := Lib.hid ((HW.out.below hb4).more hb4.size)
  have O2 := Lib.hid (treeBelow O2.out hb4)
  have O3 := Lib.hid (treeBelow O3.out hb4)
  have O4 := Lib.hid ho4
  clear hb4 HB3 ho4 HCI
  go_wp2_with fail
  refine Calls.mono (HCS.out w4 HW.out) ?_
  rintro e w5 ⟨v5, rfl, ho5, hb5⟩
  have HB5 : Hid (Below w.heap.size w w5) := HB4.out.trans (hb5.mono HB4.out.size)
  have HW := Lib.hid ((HW.out.below hb5).more hb5.size)
  have O2 := Lib.hid (treeBelow O2.out hb5)
  have O3 := Lib.hid (treeBelow O3.out hb5)
  have O4 := Lib.hid (treeBelow O4.out hb5)
  have O5 := Lib.hid ho5
  clear hb5 HB4 ho5 HCS
  go_wp2_with fail
  refine Calls.mono (HD2.out w5 HB5.out) ?_
  rintro e w6 ⟨X, a, ca, Y, b, cb, rfl, ⟨hsa, ⟨ha9, hac, ham⟩, hna⟩, ⟨hsb, ⟨hb9, hbc, hbm⟩, hnb⟩, hb6⟩
  have HB6 : Hid (Below w.heap.size w w6) := HB5.out.trans (hb6.mono HB5.out.size)
  have HW := Lib.hid ((HW.out.below hb6).more hb6.size)
  have O2 := Lib.hid (treeBelow O2.out hb6)
  have O3 := Lib.hid (treeBelow O3.out hb6)
  have O4 := Lib.hid (treeBelow O4.out hb6)
  have O5 := Lib.hid (treeBelow O5.out hb6)
  have HX := Lib.hid hsa
  have HY := Lib.hid hsb
  have hsha : Short a := fun x hx => by have := hna x hx; unfold maxLen; omega
  have hshb : Short b := fun x hx => by have := hnb x hx; unfold maxLen; omega
  have HAB := Lib.hid (fun W h1 h2 => implSame_any X a ca Y b cb W h1 h2 (by omega) hac ham hsha (by omega) hbc hbm hshb)
  have HBA := Lib.hid (fun W h1 h2 => implSame_any Y b cb X a ca W h1 h2 (by omega) hbc hbm hshb (by omega) hac ham hsha)
  have HSS := Lib.hid (fun W h1 h2 => specSame_any X a ca Y b cb W h1 h2 (by omega) hsha (by omega) hshb)
  rw [same_comm b a] at HBA
  generalize sameSegs a b = sm at *
  obtain ⟨A2v, cap2, rfl, hc2l, hc2m, -⟩ := treeCap O2.out
  obtain ⟨A3v, cap3, rfl, -, -, -⟩ := treeCap O3.out
  obtain ⟨A4v, cap4, rfl, hc4l, hc4m, -⟩ := treeCap O4.out
  obtain ⟨A5v, cap5, rfl, -, -, -⟩ := treeCap O5.out
  clear hb6 HB5 hsa hsb hsha hshb hna hnb HD2
  go_wp2_with fail
  refine Calls.mono (HAB.out w6 HX.out HY.out) ?_
  rintro e w7 ⟨rfl, hb7⟩
  have HB7 : Hid (Below w.heap.size w w7) := HB6.out.trans (hb7.mono HB6.out.size)
  have HW := Lib.hid ((HW.out.below hb7).more hb7.size)
  have O2 := Lib.hid (treeBelow O2.out hb7)
  have O3 := Lib.hid (treeBelow O3.out hb7)
  have O4 := Lib.hid (treeBelow O4.out hb7)
  have O5 := Lib.hid (treeBelow O5.out hb7)
  have HX := Lib.hid ((HX.out.below hb7).more hb7.size)
  have HY := Lib.hid ((HY.out.below hb7).more hb7.size)
  clear hb7 HB6
  go_wp2_with fail
  refine Calls.mono (soTree_any A2v A3v F cap2 cap3 w7 (treeIs O2.out) (treeIs O3.out) (by omega)) ?_
  rintro e w8 ⟨rfl, hb8⟩
  have HB8 : Hid (Below w.heap.size w w8) := HB7.out.trans (hb8.mono HB7.out.size)
  have HW := Lib.hid ((HW.out.below hb8).more hb8.size)
  have O2 := Lib.hid (treeBelow O2.out hb8)
  have O3 := Lib.hid (treeBelow O3.out hb8)
  have O4 := Lib.hid (treeBelow O4.out hb8)
  have O5 := Lib.hid (treeBelow O5.out hb8)
  have HX := Lib.hid ((HX.out.below hb8).more hb8.size)
  have HY := Lib.hid ((HY.out.below hb8).more hb8.size)
  clear hb8 HB7
  cases hv : validB l with
  | false =>
    clear hv
    go_wp2_with fail
    refine Calls.mono (soTree_any A4v A5v C cap4 cap5 w8 (treeIs O4.out) (treeIs O5.out) (by omega)) ?_
    rintro e w9 ⟨rfl, hb9⟩
    have HB9 : Hid (Below w.heap.size w w9) := HB8.out.trans (hb9.mono HB8.out.size)
    have HW := Lib.hid ((HW.out.below hb9).more hb9.size)
    have O2 := Lib.hid (treeBelow O2.out hb9)
    have O3 := Lib.hid (treeBelow O3.out hb9)
    have O4 := Lib.hid (treeBelow O4.out hb9)
    have O5 := Lib.hid (treeBelow O5.out hb9)
    have HX := Lib.hid ((HX.out.below hb9).more hb9.size)
    have HY := Lib.hid ((HY.out.below hb9).more hb9.size)
    clear hb9 HB8
    go_wp2_with fail
    refine Calls.mono (HSS.out w9 HX.out HY.out) ?_
    rintro e w10 ⟨rfl, hb10⟩
    have HB10 : Hid (Below w.heap.size w w10) := HB9.out.trans (hb10.mono HB9.out.size)
    have HW := Lib.hid ((HW.out.below hb10).more hb10.size)
    have O2 := Lib.hid (treeBelow O2.out hb10)
    have O3 := Lib.hid (treeBelow O3.out hb10)
    have O4 := Lib.hid (treeBelow O4.out hb10)
    have O5 := Lib.hid (treeBelow O5.out hb10)
    have HX := Lib.hid ((HX.out.below hb10).more hb10.size)
    have HY := Lib.hid ((HY.out.below hb10).more hb10.size)
    clear hb10 HB9
    go_wp2_with fail
    refine Calls.mono (HBA.out w10 HY.out HX.out) ?_
    rintro e w11 ⟨rfl, hb11⟩
    have HB11 : Hid (Below w.heap.size w w11) := HB10.out.trans (hb11.mono HB10.out.size)
    have HW := Lib.hid ((HW.out.below hb11).more hb11.size)
    have O2 := Lib.hid (treeBelow O2.out hb11)
    have O3 := Lib.hid (treeBelow O3.out hb11)
    have O4 := Lib.hid (treeBelow O4.out hb11)
    have O5 := Lib.hid (treeBelow O5.out hb11)
    have HX := Lib.hid ((HX.out.below hb11).more hb11.size)
    have HY := Lib.hid ((HY.out.below hb11).more hb11.size)
    clear hb11 HB10
    go_wp2_with fail
    refine Calls.mono (soTree_any A2v A3v F cap2 cap3 w11 (treeIs O2.out) (treeIs O3.out) (by omega)) ?_
    rintro e w12 ⟨rfl, hb12⟩
    have HB12 : Hid (Below w.heap.size w w12) := HB11.out.trans (hb12.mono HB11.out.size)
    have HW := Lib.hid ((HW.out.below hb12).more hb12.size)
    have O2 := Lib.hid (treeBelow O2.out hb12)
    have O3 := Lib.hid (treeBelow O3.out hb12)
    have O4 := Lib.hid (treeBelow O4.out hb12)
    have O5 := Lib.hid (treeBelow O5.out hb12)
    have HX := Lib.hid ((HX.out.below hb12).more hb12.size)
    have HY := Lib.hid ((HY.out.below hb12).more hb12.size)
    clear hb12 HB11
    go_wp2_with fail
    refine Calls.mono (soTree_any A4v A5v C cap4 cap5 w12 (treeIs O4.out) (treeIs O5.out) (by omega)) ?_
    rintro e w13 ⟨rfl, hb13⟩
    have HB13 : Hid (Below w.heap.size w w13) := HB12.out.trans (hb13.mono HB12.out.size)
    have HW := Lib.hid ((HW.out.below hb13).more hb13.size)
    have O2 := Lib.hid (treeBelow O2.out hb13)
    have O3 := Lib.hid (treeBelow O3.out hb13)
    have O4 := Lib.hid (treeBelow O4.out hb13)
    have O5 := Lib.hid (treeBelow O5.out hb13)
    have HX := Lib.hid ((HX.out.below hb13).more hb13.size)
    have HY := Lib.hid ((HY.out.below hb13).more hb13.size)
    clear hb13 HB12
    go_wp2_with fail
    refine Calls.mono (HSS.out w13 HX.out HY.out) ?_
    rintro e w14 ⟨rfl, hb14⟩
    have HB14 : Hid (Below w.heap.size w w14) := HB13.out.trans (hb14.mono HB13.out.size)
    have HW := Lib.hid ((HW.out.below hb14).more hb14.size)
    have O2 := Lib.hid (treeBelow O2.out hb14)
    have O3 := Lib.hid (treeBelow O3.out hb14)
    have O4 := Lib.hid (treeBelow O4.out hb14)
    have O5 := Lib.hid (treeBelow O5.out hb14)
    have HX := Lib.hid ((HX.out.below hb14).more hb14.size)
    have HY := Lib.hid ((HY.out.below hb14).more hb14.size)
    clear hb14 HB13
    go_wp2_with fail
    refine Calls.mono (HBA.out w14 HY.out HX.out) ?_
    rintro e w15 ⟨rfl, hb15⟩
    have HB15 : Hid (Below w.heap.size w w15) := HB14.out.trans (hb15.mono HB14.out.size)
    have HW := Lib.hid ((HW.out.below hb15).more hb15.size)
    have O2 := Lib.hid (treeBelow O2.out hb15)
    have O3 := Lib.hid (treeBelow O3.out hb15)
    have O4 := Lib.hid (treeBelow O4.out hb15)
    have O5 := Lib.hid (treeBelow O5.out hb15)
    have HX := Lib.hid ((HX.out.below hb15).more hb15.size)
    have HY := Lib.hid ((HY.out.below hb15).more hb15.size)
    clear hb15 HB14
    go_wp2
    go_ret
    exact ⟨rfl, HB15.out⟩
  | true =>
    go_wp2_with fail
    refine Calls.mono (soTree_any A4v A5v C cap4 cap5 w8 (treeIs O4.out) (treeIs O5.out) (by omega)) ?_
    rintro e w9 ⟨rfl, hb9⟩
    have HB9 : Hid (Below w.heap.size w w9) := HB8.out.trans (hb9.mono HB8.out.size)
    have HW := Lib.hid ((HW.out.below hb9).more hb9.size)
    have O2 := Lib.hid (treeBelow O2.out hb9)
    have O3 := Lib.hid (treeBelow O3.out hb9)
    have O4 := Lib.hid (treeBelow O4.out hb9)
    have O5 := Lib.hid (treeBelow O5.out hb9)
    have HX := Lib.hid ((HX.out.below hb9).more hb9.size)
    have HY := Lib.hid ((HY.out.below hb9).more hb9.size)
    clear hb9 HB8
    go_wp2_with fail
    refine Calls.mono (HSS.out w9 HX.out HY.out) ?_
    rintro e w10 ⟨rfl, hb10⟩
    have HB10 : Hid (Below w.heap.size w w10) := HB9.out.trans (hb10.mono HB9.out.size)
    have HW := Lib.hid ((HW.out.below hb10).more hb10.size)
    have O2 := Lib.hid (treeBelow O2.out hb10)
    have O3 := Lib.hid (treeBelow O3.out hb10)
    have O4 := Lib.hid (treeBelow O4.out hb10)
    have O5 := Lib.hid (treeBelow O5.out hb10)
    have HX := Lib.hid ((HX.out.below hb10).more hb10.size)
    have HY := Lib.hid ((HY.out.below hb10).more hb10.size)
    clear hb10 HB9
    go_wp2_with fail
    refine Calls.mono (HBA.out w10 HY.out HX.out) ?_
    rintro e w11 ⟨rfl, hb11⟩
    have HB11 : Hid (Below w.heap.size w w11) := HB10.out.trans (hb11.mono HB10.out.size)
    have HW := Lib.hid ((HW.out.below hb11).more hb11.size)
    have O2 := Lib.hid (treeBelow O2.out hb11)
    have O3 := Lib.hid (treeBelow O3.out hb11)
    have O4 := Lib.hid (treeBelow O4.out hb11)
    have O5 := Lib.hid (treeBelow O5.out hb11)
    have HX := Lib.hid ((HX.out.below hb11).more hb11.size)
    have HY := Lib.hid ((HY.out.below hb11).more hb11.size)
    clear hb11 HB10
    have hFe : flatL l = F := by have := HF.out; rw [if_pos hv] at this; exact this
    have hCe : chainL l = C := by have := HC.out; rw [if_pos hv] at this; exact this
    have hsF : Short F := by rw [← hFe]; exact short_par HNM.out
    have hsC : Short C := by rw [← hCe]; exact short_par HNM.out
    have HSF := Lib.hid (fun W h1 h2 => implSame_any A l c A2v F cap2 W h1 h2 (by omega) hlc hcm HSH.out (by omega) hc2l hc2m hsF)
    have HSC := Lib.hid (fun W h1 h2 => implSame_any A l c A4v C cap4 W h1 h2 (by omega) hlc hcm HSH.out (by omega) hc4l hc4m hsC)
    have HRF := Lib.hid (fun W h1 => roomOf_any A2v F cap2 W h1 (by omega) hc2l hc2m hsF)
    have HRT := Lib.hid (fun W h1 => roomOf_any A l c W h1 (by omega) hlc hcm HSH.out)
    have HRC := Lib.hid (fun W h1 => roomOf_any A4v C cap4 W h1 (by omega) hc4l hc4m hsC)
    have HVC := Lib.hid (fun W h1 => savedRoom_any A4v C cap4 W h1 (by omega) hc4l hc4m hsC)
    have eF : sameSegs l F = true := by rw [← hFe]; exact same_flat hv
    have eC : sameSegs l C = true := by rw [← hCe]; exact same_chain hv
    have r1 : roomB F ≤ roomB l := by rw [← hFe]; exact flat_room hv
    have r2 : roomB l ≤ roomB C := by rw [← hCe]; exact chain_room hv
    have r3 : savedB C = 0 := by rw [← hCe]; exact chain_saved hv
    rw [eF] at HSF
    rw [eC] at HSC
    rw [r3] at HVC
    clear hFe hCe hsF hsC eF eC r3 hv HF HC HFR HCR HNM HAB HBA HSS HX HY O3 O5
    generalize roomB F = rF at *
    generalize roomB l = rl at *
    generalize roomB C = rC at *
    go_wp2_with fail
    refine Calls.mono (HSF.out w11 HW.out (treeIs O2.out)) ?_
    rintro e w12 ⟨rfl, hb12⟩
    have HB12 : Hid (Below w.heap.size w w12) := HB11.out.trans (hb12.mono HB11.out.size)
    have HW := Lib.hid ((HW.out.below hb12).more hb12.size)
    have O2 := Lib.hid (treeBelow O2.out hb12)
    have O4 := Lib.hid (treeBelow O4.out hb12)
    clear hb12 HB11 HSF
    go_wp2_with fail
    refine Calls.mono (HSC.out w12 HW.out (treeIs O4.out)) ?_
    rintro e w13 ⟨rfl, hb13⟩
    have HB13 : Hid (Below w.heap.size w w13) := HB12.out.trans (hb13.mono HB12.out.size)
    have HW := Lib.hid ((HW.out.below hb13).more hb13.size)
    have O2 := Lib.hid (treeBelow O2.out hb13)
    have O4 := Lib.hid (treeBelow O4.out hb13)
    clear hb13 HB12 HSC
    go_wp2_with fail
    refine Calls.mono (HRF.out w13 (treeIs O2.out)) ?_
    rintro e w14 ⟨rfl, hb14⟩
    have HB14 : Hid (Below w.heap.size w w14) := HB13.out.trans (hb14.mono HB13.out.size)
    have HW := Lib.hid ((HW.out.below hb14).more hb14.size)
    have O2 := Lib.hid (treeBelow O2.out hb14)
    have O4 := Lib.hid (treeBelow O4.out hb14)
    clear hb14 HB13 HRF
    go_wp2_with fail
    refine Calls.mono (HRT.out w14 HW.out) ?_
    rintro e w15 ⟨rfl, hb15⟩
    have HB15 : Hid (Below w.heap.size w w15) := HB14.out.trans (hb15.mono HB14.out.size)
    have HW := Lib.hid ((HW.out.below hb15).more hb15.size)
    have O2 := Lib.hid (treeBelow O2.out hb15)
    have O4 := Lib.hid (treeBelow O4.out hb15)
    clear hb15 HB14
    go_wp2_with fail
    refine Calls.mono (HRT.out w15 HW.out) ?_
    rintro e w16 ⟨rfl, hb16⟩
    have HB16 : Hid (Below w.heap.size w w16) := HB15.out.trans (hb16.mono HB15.out.size)
    have HW := Lib.hid ((HW.out.below hb16).more hb16.size)
    have O2 := Lib.hid (treeBelow O2.out hb16)
    have O4 := Lib.hid (treeBelow O4.out hb16)
    clear hb16 HB15
    go_wp2_with fail
    refine Calls.mono (HRC.out w16 (treeIs O4.out)) ?_
    rintro e w17 ⟨rfl, hb17⟩
    have HB17 : Hid (Below w.heap.size w w17) := HB16.out.trans (hb17.mono HB16.out.size)
    have HW := Lib.hid ((HW.out.below hb17).more hb17.size)
    have O2 := Lib.hid (treeBelow O2.out hb17)
    have O4 := Lib.hid (treeBelow O4.out hb17)
    clear hb17 HB16 HRC
    go_wp2_with fail
    refine Calls.mono (HVC.out w17 (treeIs O4.out)) ?_
    rintro e w18 ⟨rfl, hb18⟩
    have HB18 : Hid (Below w.heap.size w w18) := HB17.out.trans (hb18.mono HB17.out.size)
    have HW := Lib.hid ((HW.out.below hb18).more hb18.size)
    have O2 := Lib.hid (treeBelow O2.out hb18)
    have O4 := Lib.hid (treeBelow O4.out hb18)
    clear hb18 HB17 HVC
    go_wp2
    go_ret
    exact ⟨rfl, HB18.out⟩

end Go.Proofs.Ytbmfbnlmdjnddaa
