/- ChildrenOf: the program's and the model's. -/
import Derived.Test.YtdbddockmdkmeaaDoorVa
namespace Go.Proofs.YtdbddockmdkmeaaDoor
open Go.RowKit Go.Shelf

def kidNames (l : List Seg) (i k : Nat) : ByteArray := ⟨((kidsOf l i k).flatMap (nmAt l)).toArray⟩
theorem kidNames_zero (l : List Seg) (i : Nat) : kidNames l i 0 = ⟨#[]⟩ := rfl
theorem kidNames_yes {l : List Seg} {i k : Nat} (hk : k < l.length) (h : parAt l k = (i : Int)) : kidNames l i (k + 1) = kidNames l i k ++ l[k].name := by
  apply WideShapes.bytes_inj
  show _ = (kidNames l i k ++ l[k].name).data.toList
  rw [ByteArray.data_append, Array.toList_append]
  show (kidsOf l i (k + 1)).flatMap (nmAt l) = (kidsOf l i k).flatMap (nmAt l) ++ _
  rw [kidsOf_succ, if_pos h, List.flatMap_append, List.flatMap_cons, List.flatMap_nil, List.append_nil, nmAt_of hk]
theorem kidNames_no {l : List Seg} {i k : Nat} (h : parAt l k ≠ (i : Int)) : kidNames l i (k + 1) = kidNames l i k := by
  unfold kidNames
  rw [kidsOf_succ, if_neg h, List.append_nil]
theorem kidNames_len {l : List Seg} (h : ∀ s ∈ l, s.name.size ≤ 1) (i : Nat) : ∀ k, k ≤ l.length → (kidNames l i k).size ≤ k
  | 0, _ => Nat.zero_le _
  | k + 1, hk => by
    have h1 := kidNames_len h i k (by omega)
    by_cases hp : parAt l k = (i : Int)
    · rw [kidNames_yes (by omega) hp, ByteArray.size_append]
      have := h _ (List.getElem_mem (show k < l.length by omega))
      omega
    · rw [kidNames_no hp]; omega

def kidsStr (l : List Seg) (s : ByteArray) : ByteArray := if indexB l s < 0 then ⟨#[]⟩ else kidNames l (indexB l s).toNat l.length
def hasSeg (l : List Seg) (s : ByteArray) : Bool := decide (0 ≤ indexB l s)
theorem index_valid {l : List Seg} {s : ByteArray} (h : 0 ≤ indexB l s) : validB l = true := by
  unfold indexB at h
  by_cases hv : validB l = true
  · exact hv
  · rw [if_neg hv] at h; omega

set_option maxRecDepth 100000 in
set_option maxHeartbeats 400000 in
theorem childrenOf_any (A : Option Addr) (l : List Seg) (c : Nat) (s : ByteArray) (w : World) (hw : Segs w w.heap.size A l) (hl : l.length ≤ 1048576) (hlc : l.length ≤ c) (hcm : c ≤ 9223372036854775807) (hn : Short l) :
    Calls Tryd.prog 30 #[.slice A l.length c, .string s] w fun e w' => e = .returned (.tuple #[.string (kidsStr l s), .bool (hasSeg l s)]) ∧ Below w.heap.size w w' := by
  have HW : Hid (Segs w w.heap.size A l) := hw
  clear hw
  cases hv : validB l with
  | false =>
    have HF : Hid (kidsStr l s = ⟨#[]⟩ ∧ hasSeg l s = false) := by
      have h1 : indexB l s = -1 := if_neg (by rw [hv]; decide)
      exact ⟨if_pos (by omega), decide_eq_false (by omega)⟩
    go_enter Tryd.func30, Tryd.ntmps30
    go_wp2_with fail
    refine (nodesOf_bad _ _ _ _ HW.out hl hlc hcm hn hv).mono ?_
    rintro e w1 ⟨rfl, hb1⟩
    go_wp2_with fail
    refine (findNode_nil _ _).mono ?_
    rintro e w2 ⟨rfl, rfl⟩
    go_wp2
    go_ret2
    exact ⟨ret_two HF.out.1.symm HF.out.2.symm, hb1⟩
  | true =>
    have HI : Hid (indexB l s = seek l s) := if_pos hv
    have HO : Hid _ := valid_names hv
    have HL : Hid _ := valid_all hv
    rcases seek_bd l s with hi | ⟨h0, hi⟩
    · have HF : Hid (kidsStr l s = ⟨#[]⟩ ∧ hasSeg l s = false) := ⟨if_pos (by have := HI.out; omega), decide_eq_false (by have := HI.out; omega)⟩
      have HP : Hid (∀ nb, foundPtr l nb s = none) := fun nb => if_pos (by omega)
      clear hi
      go_enter Tryd.func30, Tryd.ntmps30
      go_wp2_with fail
      refine (nodesOf_any _ _ _ _ HW.out hl hlc hcm hn hv).mono ?_
      rintro e w1 ⟨g, nb, cv, rfl, hN, hb1⟩
      have HN := Lib.hid hN
      clear hN
      go_wp2_with fail
      refine (findNode_any _ _ _ _ _ _ _ HN.out hl).mono ?_
      rw [HP.out nb]
      rintro e w2 ⟨rfl, rfl⟩
      go_wp2
      go_ret2
      exact ⟨ret_two HF.out.1.symm HF.out.2.symm, hb1⟩
    · obtain ⟨i, hk⟩ := Int.eq_ofNat_of_zero_le h0
      have hkl : i < l.length := by omega
      have HF : Hid (kidsStr l s = kidNames l i l.length ∧ hasSeg l s = true) := by
        refine ⟨?_, decide_eq_true (by have := HI.out; omega)⟩
        unfold kidsStr
        rw [HI.out, if_neg (by omega), hk, Int.toNat_natCast]
      have HP : Hid (∀ nb, foundPtr l nb s = some ⟨nb i, 0, none⟩) := fun nb => by
        unfold foundPtr
        rw [if_neg (by omega), hk, Int.toNat_natCast]
      have HL2 : Hid (l[i]? = some l[i]) := List.getElem?_eq_getElem hkl
      have hr : ∀ j ∈ kidsOf l i l.length, j < l.length := fun j hj => kidsOf_lt hj
      have HR := Lib.hid hr
      clear hk hi h0 hr
      generalize l[i] = x at *
      go_enter Tryd.func30, Tryd.ntmps30
      go_wp2_with fail
      refine (nodesOf_any _ _ _ _ HW.out hl hlc hcm hn hv).mono ?_
      rintro e w1 ⟨g, nb, cv, rfl, hN, hb1⟩
      have HN := Lib.hid hN
      clear hN
      go_wp2_with fail
      refine (findNode_any _ _ _ _ _ _ _ HN.out hl).mono ?_
      rw [HP.out nb]
      rintro e w2 ⟨rfl, rfl⟩
      have n3 : w1.cell? ⟨nb i, 3, none⟩ = some (cv i) := (HN.out.node i _ hkl HL2.out).cell 3
      have hkid := HN.out.kids i hkl
      have HK := Lib.hid hkid
      have hshape : ∃ A' n' c', cv i = .slice A' n' c' := by
        rcases hkid.2 with ⟨h, _⟩ | ⟨g', cap, _, h, _⟩
        · exact ⟨_, _, _, h⟩
        · exact ⟨_, _, _, h⟩
      obtain ⟨A', n', c', hcv⟩ := hshape
      have HCV := Lib.hid hcv
      clear hkid hcv
      rw [HCV.out] at n3
      go_wp2_with fail
      refine (values_any _ _ _ _).mono ?_
      rintro e w2 ⟨rfl, rfl⟩
      go_wp2_with fail
      have hlen8 : (kidsOf l i l.length).length ≤ 1000 := by have := kidsOf_len l i l.length; have := HL.out.2.1; omega
      have hseq := values_stops (l := l) 5 (by omega) w1.heap.size (w1.heap.size + 1) (.slice A' n' c') nb (ixOf l (kidsOf l i l.length) HR.out) (by rw [ixOf_len]; exact hlen8)
        (w1.alloc (.cells #[.slice A' n' c'] 52)) (by simp) (by simp) (by simp) (by
          rcases HK.out.2 with ⟨h1, h2⟩ | ⟨g', cap, cur, h1, h2, h3, h4, h5, h6, h7⟩
          · refine .inl ⟨HCV.out.symm.trans h1, ?_⟩
            apply List.eq_nil_of_length_eq_zero
            rw [ixOf_len]; exact h2
          · refine .inr ⟨g', 0, cap, by rw [ixOf_len]; exact HCV.out.symm.trans h1, Nat.lt_succ_of_lt (Array.getElem?_eq_some_iff.1 h3).1, fun j x hj => ?_⟩
            have e1 := ixOf_at hj
            have hrow : Row w1 g' 57 cur := h3
            rw [Nat.zero_add, (hrow.alloc _).cell, ← Array.getElem?_toList]
            have hjl : j < (kidsOf l i l.length).length := (List.getElem?_eq_some_iff.1 e1).1
            have e2 : (ptrsOf nb (kidsOf l i l.length))[j]? = some (ptrTo (nb x.1)) := by
              unfold ptrsOf
              rw [List.getElem?_map, e1]
              rfl
            rw [← h7, List.getElem?_take, if_pos (by omega)] at e2
            exact e2)
      have HSQ := Lib.hid hseq
      clear hseq
      refine (joinNames_any _ l nb (fun x => ?_) HO.out _ _ _ ?_ (enters_of Tryd.func109 (by kernel_rfl) rfl) (by rw [World.size_alloc]; exact HSQ.out)).mono ?_
      · exact ((HN.out.node x.1 _ x.2 (List.getElem?_eq_getElem x.2)).alloc _).cell 0
      · rw [ixOf_len]; exact hlen8
      · rintro e w3 ⟨⟨xs, rfl, rfl⟩, hb3⟩
        have hb4 : Below w.heap.size w w3 := (hb1.alloc hb1.size _).trans (hb3.mono (by rw [World.size_alloc]; have := hb1.size; omega))
        have HE : Hid (kidsStr l s = ⟨(nameBytes l (ixOf l (kidsOf l i l.length) HR.out)).toArray⟩) := by
          show _ = _
          rw [HF.out.1, nameBytes_ixOf]
          rfl
        clear hb3
        go_wp2
        go_ret2
        exact ⟨ret_two HE.out.symm HF.out.2.symm, hb4⟩

end Go.Proofs.YtdbddockmdkmeaaDoor
