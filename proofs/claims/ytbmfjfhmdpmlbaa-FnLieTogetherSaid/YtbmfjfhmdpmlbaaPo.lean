/- PathOf: the program's and the model's. -/
import Derived.Test.YtbmfjfhmdpmlbaaJr
import Derived.Test.YtbmfjfhmdpmlbaaCh
namespace Go.Proofs.Ytbmfjfhmdpmlbaa
open Go.RowKit Go.Shelf

def namesAt (l : List Seg) (js : List Nat) : ByteArray := ⟨(js.flatMap (nmAt l)).toArray⟩
theorem namesAt_snoc {l : List Seg} (js : List Nat) {j : Nat} (hj : j < l.length) : namesAt l (js ++ [j]) = namesAt l js ++ l[j].name := by
  apply WideShapes.bytes_inj
  show _ = (namesAt l js ++ l[j].name).data.toList
  rw [ByteArray.data_append, Array.toList_append]
  show (js ++ [j]).flatMap (nmAt l) = js.flatMap (nmAt l) ++ _
  rw [List.flatMap_append, List.flatMap_cons, List.flatMap_nil, List.append_nil, nmAt_of hj]
theorem nmAt_len {l : List Seg} (h : ∀ s ∈ l, s.name.size ≤ 1) (j : Nat) : (nmAt l j).length ≤ 1 := by
  unfold nmAt
  cases hj : l[j]? with
  | none => exact Nat.zero_le _
  | some s =>
    have := h s (List.mem_of_getElem? hj)
    simpa using this
theorem namesAt_len {l : List Seg} (h : ∀ s ∈ l, s.name.size ≤ 1) : ∀ js : List Nat, (namesAt l js).size ≤ js.length
  | [] => Nat.le_refl 0
  | j :: js => by
    have h1 := namesAt_len h js
    have h2 := nmAt_len h j
    have e1 : ∀ is : List Nat, (namesAt l is).size = (is.flatMap (nmAt l)).length := fun is => by simp [namesAt, ByteArray.size]
    rw [e1] at h1 ⊢
    rw [List.flatMap_cons, List.length_append, List.length_cons]
    omega

set_option maxRecDepth 100000 in
set_option maxHeartbeats 400000 in
theorem l1Names_any (A : Option Addr) (l : List Seg) (c g cap base : Nat) (js : List Nat) (w : World) (hw : Segs w w.heap.size A l) (hl : l.length ≤ 1048576) (hone : ∀ s ∈ l, s.name.size ≤ 1) (hjs : ∀ j ∈ js, j < l.length) (hjl : js.length ≤ 1048577)
    (hown : w.ownsRow base 3 1 (.slice (some ⟨g, 0, none⟩) js.length cap) js.length ((js.map fun j : Nat => (j : Int)).map (Value.int .i64))) :
    Calls Try.prog 85 #[.slice A l.length c, .slice (some ⟨g, 0, none⟩) js.length cap] w fun e w' => e = .returned (.string (namesAt l js)) ∧ w = w' := by
  have HW : Hid (Segs w w.heap.size A l) := hw
  have HO := Lib.hid hown
  have HJ := Lib.hid hjs
  have H1 := Lib.hid hone
  clear hw hown hjs hone
  go_enter Try.func85, Try.ntmps85
  go_wp2
  go_loop [5, 10] (fun s i => ∃ (k : Nat), k ≤ js.length ∧ i = .int .i64 k ∧ s = .string (namesAt l (js.take k)))
    (fun _ i => js.length - (intOf i).toNat)
  case atStart => exact ⟨0, Nat.zero_le _, rfl, rfl⟩
  case round =>
    obtain ⟨k, hk, rfl, rfl⟩ := hrel
    by_cases hlt : k < js.length
    · have hj := HJ.out js[k] (List.getElem_mem hlt)
      have hc : w.cell? ⟨g, k, none⟩ = some (.int .i64 (js[k] : Int)) := by
        rw [HO.out.cellAt k (by omega)]
        simp [hlt]
      obtain ⟨b, o, rfl, hB, hc'⟩ := HW.out (by omega)
      obtain ⟨c0, c1, c2⟩ := hc' js[k] l[js[k]] (List.getElem?_eq_getElem hj)
      clear hc' c1 c2
      have HQ : Hid (namesAt l (js.take (k + 1)) = namesAt l (js.take k) ++ l[js[k]].name) := by
        show _ = _
        rw [List.take_succ_eq_append_getElem hlt, namesAt_snoc _ hj]
      have hlen : (namesAt l (js.take k)).size ≤ 1048577 := by
        have h1 := namesAt_len H1.out (js.take k)
        rw [List.length_take] at h1
        omega
      have hx1 := H1.out l[js[k]] (List.getElem_mem hj)
      have hj0 : (0 : Int) ≤ (js[k] : Int) := Int.natCast_nonneg _
      have hj1 : (js[k] : Int) < (l.length : Int) := by omega
      generalize l[js[k]] = x at *
      generalize js[k] = j at *
      go_wp2
      go_round
      case rel => exact ⟨k + 1, by omega, by go_num, by rw [HQ.out]⟩
      case measure => simp [intOf]; omega
    · obtain rfl : k = js.length := by omega
      have HE : Hid (namesAt l (js.take js.length) = namesAt l js) := by
        show _ = _
        rw [List.take_length]
      go_wp2
      go_ret
      exact ⟨by rw [← HE.out]; rfl, rfl⟩

def pathStr (l : List Seg) (s : ByteArray) : ByteArray := if indexB l s < 0 then ⟨#[]⟩ else namesAt l (rootPath l ((indexB l s).toNat + 1) (indexB l s).toNat)

set_option maxRecDepth 100000 in
set_option maxHeartbeats 400000 in
theorem specPath_any (A : Option Addr) (l : List Seg) (c : Nat) (s : ByteArray) (w : World) (hw : Segs w w.heap.size A l) (hl : l.length ≤ 1048576) (hn : Short l) :
    Calls Try.prog 20 #[.slice A l.length c, .string s] w fun e w' => e = .returned (.tuple #[.string (pathStr l s), .bool (hasSeg l s)]) ∧ Below w.heap.size w w' := by
  have HW : Hid (Segs w w.heap.size A l) := hw
  clear hw
  rcases indexB_bd l s with hi | ⟨h0, hi⟩
  · have HF : Hid (pathStr l s = ⟨#[]⟩ ∧ hasSeg l s = false) := ⟨if_pos (by omega), decide_eq_false (by omega)⟩
    have HI := Lib.hid hi
    clear hi
    go_enter Try.func20, Try.ntmps20
    go_wp2_with fail
    refine (l1Index_any _ _ _ _ _ HW.out hl hn).mono ?_
    rw [HI.out]
    rintro e w1 ⟨rfl, hb1⟩
    go_wp2
    go_ret2
    exact ⟨ret_two HF.out.1.symm HF.out.2.symm, hb1⟩
  · have HO : Hid _ := valid_names (index_valid h0)
    have HD : Hid (Down l l.length) := (valid_all (index_valid h0)).1.down
    obtain ⟨i, hk⟩ := Int.eq_ofNat_of_zero_le h0
    have HI := Lib.hid hk
    have hil : i < l.length := by omega
    have HF : Hid (pathStr l s = namesAt l (rootPath l (i + 1) i) ∧ hasSeg l s = true) := by
      refine ⟨?_, decide_eq_true h0⟩
      unfold pathStr
      rw [if_neg (by omega), hk, Int.toNat_natCast]
    have HP : Hid (pathOf l i = (rootPath l (i + 1) i).map fun j : Nat => (j : Int)) := rootPath_chain HD.out (i + 1) i hil (by omega)
    have HL : Hid (∀ j ∈ rootPath l (i + 1) i, j < l.length) := rootPath_lt HD.out (i + 1) i hil
    have HZ : Hid ((rootPath l (i + 1) i).length ≤ 1048577) := Nat.le_trans (rootPath_len l (i + 1) i) (by omega)
    clear hk hi h0
    go_enter Try.func20, Try.ntmps20
    go_wp2_with fail
    refine (l1Index_any _ _ _ _ _ HW.out hl hn).mono ?_
    rw [HI.out]
    rintro e w1 ⟨rfl, hb1⟩
    go_wp2_with fail
    refine (l1Path_any _ _ _ _ _ ((HW.out.below hb1).more hb1.size) hl hil (HD.out.mono (by omega))).mono ?_
    rw [HP.out]
    rintro e w2 ⟨g, cap, rfl, hown, hb2⟩
    rw [List.length_map] at hown ⊢
    have HO2 := Lib.hid hown
    have B2 := hb1.trans (hb2.mono hb1.size)
    clear hown hb1 hb2
    go_wp2_with fail
    refine (l1Names_any _ _ _ _ _ _ _ _ ((HW.out.below B2).more B2.size) hl HO.out HL.out HZ.out HO2.out).mono ?_
    rintro e w3 ⟨rfl, rfl⟩
    go_wp2
    go_ret2
    exact ⟨ret_two HF.out.1.symm HF.out.2.symm, B2⟩

set_option maxRecDepth 100000 in
set_option maxHeartbeats 400000 in
theorem pathOf_any (A : Option Addr) (l : List Seg) (c : Nat) (s : ByteArray) (w : World) (hw : Segs w w.heap.size A l) (hl : l.length ≤ 1048576) (hlc : l.length ≤ c) (hcm : c ≤ 9223372036854775807) (hn : Short l) :
    Calls Try.prog 19 #[.slice A l.length c, .string s] w fun e w' => e = .returned (.tuple #[.string (pathStr l s), .bool (hasSeg l s)]) ∧ Below w.heap.size w w' := by
  have HW : Hid (Segs w w.heap.size A l) := hw
  clear hw
  cases hv : validB l with
  | false =>
    have HF : Hid (pathStr l s = ⟨#[]⟩ ∧ hasSeg l s = false) := by
      have h1 : indexB l s = -1 := if_neg (by rw [hv]; decide)
      exact ⟨if_pos (by omega), decide_eq_false (by omega)⟩
    go_enter Try.func19, Try.ntmps19
    go_wp2_with fail
    refine (nodesOf_bad _ _ _ _ HW.out hl hlc hcm hn hv).mono ?_
    rintro e w1 ⟨rfl, hb1⟩
    go_wp2_with fail
    refine (findNode_nil _ _).mono ?_
    rintro e w2 ⟨rfl, rfl⟩
    go_wp2
    go_ret2
    exact ⟨ret_two HF.out.1.symm HF.out.2.symm, hb1⟩
  | true =>
    have HI : Hid (indexB l s = seek l s) := if_pos hv
    have HO : Hid _ := valid_names hv
    have HL : Hid _ := valid_all hv
    rcases seek_bd l s with hi | ⟨h0, hi⟩
    · have HF : Hid (pathStr l s = ⟨#[]⟩ ∧ hasSeg l s = false) := ⟨if_pos (by have := HI.out; omega), decide_eq_false (by have := HI.out; omega)⟩
      have HP : Hid (∀ nb, foundPtr l nb s = none) := fun nb => if_pos (by omega)
      clear hi
      go_enter Try.func19, Try.ntmps19
      go_wp2_with fail
      refine (nodesOf_any _ _ _ _ HW.out hl hlc hcm hn hv).mono ?_
      rintro e w1 ⟨g, nb, cv, rfl, hN, hb1⟩
      have HN := Lib.hid hN
      clear hN
      go_wp2_with fail
      refine (findNode_any _ _ _ _ _ _ _ HN.out hl).mono ?_
      rw [HP.out nb]
      rintro e w2 ⟨rfl, rfl⟩
      go_wp2
      go_ret2
      exact ⟨ret_two HF.out.1.symm HF.out.2.symm, hb1⟩
    · obtain ⟨i, hk⟩ := Int.eq_ofNat_of_zero_le h0
      have hkl : i < l.length := by omega
      have HF : Hid (pathStr l s = namesAt l (rootPath l (i + 1) i) ∧ hasSeg l s = true) := by
        refine ⟨?_, decide_eq_true (by have := HI.out; omega)⟩
        unfold pathStr
        rw [HI.out, if_neg (by omega), hk, Int.toNat_natCast]
      have HP : Hid (∀ nb, foundPtr l nb s = some ⟨nb i, 0, none⟩) := fun nb => by
        unfold foundPtr
        rw [if_neg (by omega), hk, Int.toNat_natCast]
      have HR : Hid ((rootPath l (i + 1) i).length ≤ i + 1) := rootPath_len l (i + 1) i
      clear hk hi h0
      go_enter Try.func19, Try.ntmps19
      go_wp2_with fail
      refine (nodesOf_any _ _ _ _ HW.out hl hlc hcm hn hv).mono ?_
      rintro e w1 ⟨g, nb, cv, rfl, hN, hb1⟩
      have HN := Lib.hid hN
      clear hN
      go_wp2_with fail
      refine (findNode_any _ _ _ _ _ _ _ HN.out hl).mono ?_
      rw [HP.out nb]
      rintro e w2 ⟨rfl, rfl⟩
      go_wp2_with fail
      refine (path_any _ _).mono ?_
      rintro e w2 ⟨rfl, rfl⟩
      go_wp2_with fail
      have hrow : Row (w1.alloc (.cells #[.pointer (some ⟨nb i, 0, none⟩)] 63)) w1.heap.size 63 #[.pointer (some ⟨nb i, 0, none⟩)] := Row.new _ _ _
      have hlk : Linked (w1.alloc (.cells #[.pointer (some ⟨nb i, 0, none⟩)] 63)) (w1.alloc (.cells #[.pointer (some ⟨nb i, 0, none⟩)] 63)).heap.size l nb := fun j hj => by
        have h1 := (HN.out.node j _ hj (List.getElem?_eq_getElem hj)).alloc (.cells #[.pointer (some ⟨nb i, 0, none⟩)] 63)
        exact ⟨h1.lt, h1.cell 2⟩
      have hseq := path1_seq l nb (w1.alloc (.cells #[.pointer (some ⟨nb i, 0, none⟩)] 63)).heap.size ((w1.alloc (.cells #[.pointer (some ⟨nb i, 0, none⟩)] 63)).heap.size + 3) 1000 HL.out.1.down (i + 1) i (by omega) hkl 19 w1.heap.size _
        ⟨.inl (by simp), by decide, hrow⟩ hlk (Nat.le_refl _) (by have := HR.out; have := HL.out.2.1; omega) (by have := HL.out.2.1; omega)
      have HSQ := Lib.hid hseq
      clear hseq hlk hrow
      refine (joinNamesR_any _ l nb (fun x => ?_) HO.out _ _ 1000 (Nat.le_refl _) (enters_of Try.func135 (by kernel_rfl) rfl) HSQ.out).mono ?_
      · exact ((HN.out.node x.1 _ x.2 (List.getElem?_eq_getElem x.2)).alloc _).cell 0
      · rintro e w3 ⟨⟨xs, hxs, rfl⟩, hb3⟩
        have hb4 : Below w.heap.size w w3 := (hb1.alloc hb1.size _).trans (hb3.mono (by rw [World.size_alloc]; have := hb1.size; omega))
        have HE : Hid (pathStr l s = ⟨(nameBytes l xs).toArray⟩) := by
          show _ = _
          rw [HF.out.1]
          unfold namesAt
          rw [← hxs]
          have hm : ∀ ys : List (Ix l), nameBytes l ys = (ys.map (·.1)).flatMap (nmAt l) := fun ys => by
            induction ys with
            | nil => rfl
            | cons y ys ih =>
              show (l[y.1]'y.2).name.data.toList ++ nameBytes l ys = nmAt l y.1 ++ (ys.map (·.1)).flatMap (nmAt l)
              rw [ih, nmAt_of y.2]
          rw [hm]
        clear hb3 hxs
        go_wp2
        go_ret2
        exact ⟨ret_two HE.out.symm HF.out.2.symm, hb4⟩

end Go.Proofs.Ytbmfjfhmdpmlbaa
