/- The program's LongestPath. -/
import Derived.Test.YtdbddockmdkmeaaDoorPe
import Derived.Test.YtdbddockmdkmeaaDoorPo
namespace Go.Proofs.YtdbddockmdkmeaaDoor
open Go.RowKit Go.Shelf

theorem Nodes.below {w w' : World} {B g m k : Nat} {l : List Seg} {nb : Nat → Nat} {cv : Nat → Value} (h : Nodes w B g m k l nb cv) (hb : Below w.heap.size w w') : Nodes w' B g m k l nb cv := by
  obtain ⟨cs, hg, hcs, hci⟩ := h.row
  refine ⟨⟨cs, hg.below hb hg.lt, hcs, hci⟩, fun i t hi ht => ?_, fun i t hi hi2 ht => ?_, fun i hi => ?_, h.apart, h.apartC, h.notg, h.low⟩
  · have h1 := h.node i t hi ht
    exact h1.below hb h1.lt
  · have h1 := h.fresh i t hi hi2 ht
    exact h1.below hb h1.lt
  · exact own_keep (h.kids i hi) fun b hb' => hb.block b ((h.kids i hi).lt b hb').2

theorem nameBytes_map (l : List Seg) : ∀ ys : List (Ix l), nameBytes l ys = (ys.map (·.1)).flatMap (nmAt l)
  | [] => rfl
  | y :: ys => by
    show (l[y.1]'y.2).name.data.toList ++ nameBytes l ys = nmAt l y.1 ++ (ys.map (·.1)).flatMap (nmAt l)
    rw [nameBytes_map l ys, nmAt_of y.2]

/-- The names along the path of a node. -/
theorem joinPath_any (B g i : Nat) (l : List Seg) (nb : Nat → Nat) (cv : Nat → Value) (w1 : World) (hN : Nodes w1 B g l.length l.length l nb cv) (hv : validB l = true) (hi : i < l.length) :
    Calls Tryd.prog 74 #[.func (.func 106) #[] #[.pointer (some ⟨w1.heap.size, 0, none⟩)]] (w1.alloc (.cells #[.pointer (some ⟨nb i, 0, none⟩)] 57)) fun e w' =>
      e = .returned (.string (namesAt l (rp l i))) ∧ Below w1.heap.size w1 w' := by
  have hL := valid_all hv
  have hO := valid_names hv
  have hR : (rootPath l (i + 1) i).length ≤ i + 1 := rootPath_len l (i + 1) i
  have hrow : Row (w1.alloc (.cells #[.pointer (some ⟨nb i, 0, none⟩)] 57)) w1.heap.size 57 #[.pointer (some ⟨nb i, 0, none⟩)] := Row.new _ _ _
  have hlk : Linked (w1.alloc (.cells #[.pointer (some ⟨nb i, 0, none⟩)] 57)) (w1.alloc (.cells #[.pointer (some ⟨nb i, 0, none⟩)] 57)).heap.size l nb := fun j hj => by
    have h1 := (hN.node j _ hj (List.getElem?_eq_getElem hj)).alloc (.cells #[.pointer (some ⟨nb i, 0, none⟩)] 57)
    exact ⟨h1.lt, h1.cell 2⟩
  have hseq := path1_seq l nb (w1.alloc (.cells #[.pointer (some ⟨nb i, 0, none⟩)] 57)).heap.size ((w1.alloc (.cells #[.pointer (some ⟨nb i, 0, none⟩)] 57)).heap.size + 3) 1000 hL.1.down (i + 1) i (by omega) hi 19 w1.heap.size _
    ⟨.inl (by simp), by decide, hrow⟩ hlk (Nat.le_refl _) (by have := hL.2.1; omega) (by have := hL.2.1; omega)
  refine (joinNamesR_any _ l nb (fun x => ?_) hO _ _ 1000 (Nat.le_refl _) (enters_of Tryd.func106 (by kernel_rfl) rfl) hseq).mono ?_
  · exact ((hN.node x.1 _ x.2 (List.getElem?_eq_getElem x.2)).alloc _).cell 0
  · rintro e w3 ⟨⟨xs, hxs, rfl⟩, hb3⟩
    refine ⟨?_, ((Below.refl _ w1).alloc (Nat.le_refl _) _).trans (hb3.mono (by simp))⟩
    rw [nameBytes_map, hxs]
    rfl

set_option maxRecDepth 100000 in
set_option maxHeartbeats 400000 in
theorem longestPath_any (A : Option Addr) (l : List Seg) (c : Nat) (w : World) (hw : Segs w w.heap.size A l) (hl : l.length ≤ 1048576) (hlc : l.length ≤ c) (hcm : c ≤ 9223372036854775807) (hn : Short l) :
    Calls Tryd.prog 22 #[.slice A l.length c] w fun e w' => e = .returned (.tuple #[.string (longStr l), .bool (validB l)]) ∧ Below w.heap.size w w' := by
  have HW : Hid (Segs w w.heap.size A l) := hw
  clear hw
  have hnil := fun (W : World) (a : Option Addr) (n c : Nat) => Lib.run_eql_slice_nil (P := Tryd.prog) W 52 57 a n c 0 0 Tryd.underlying52
  cases hv : validB l with
  | false =>
    have HF : Hid (longStr l = ⟨#[]⟩) := if_neg (by rw [hv]; decide)
    go_enter Tryd.func22, Tryd.ntmps22
    go_wp2_with fail
    refine (nodesOf_bad _ _ _ _ HW.out hl hlc hcm hn hv).mono ?_
    rintro e w1 ⟨rfl, hb1⟩
    go_wp2
    go_ret2
    exact ⟨ret_two HF.out.symm rfl, hb1⟩
  | true =>
    have h0 := (valid_all hv).2.2
    have hle := lastIx_le l (l.length - 1)
    have HL : Hid (lastIx l (l.length - 1) < l.length) := show _ < _ by omega
    have HF : Hid (longStr l = namesAt l (rp l (lastIx l (l.length - 1)))) := if_pos hv
    have HV := Lib.hid hv
    clear hv hle
    go_enter Tryd.func22, Tryd.ntmps22
    go_wp2_with fail
    refine (nodesOf_any _ _ _ _ HW.out hl hlc hcm hn HV.out).mono ?_
    rintro e w1 ⟨g, nb, cv, rfl, hN, hb1⟩
    have HN := Lib.hid hN
    clear hN
    go_wp2_with fail
    refine (fold_any _ _ _ _ _ _ HN.out HV.out).mono ?_
    rintro e w2 ⟨rfl, hb2⟩
    have HN2 : Hid (Nodes w2 w.heap.size g l.length l.length l nb cv) := HN.out.below hb2
    have B2 := hb1.trans (hb2.mono hb1.size)
    clear hb1 hb2
    go_wp2_with fail
    refine (path_any _ _).mono ?_
    rintro e w3 ⟨rfl, rfl⟩
    go_wp2_with fail
    refine (joinPath_any _ _ _ _ _ _ _ HN2.out HV.out HL.out).mono ?_
    rintro e w4 ⟨rfl, hb4⟩
    have B4 := B2.trans (hb4.mono B2.size)
    clear B2 hb4
    go_wp2
    go_ret2
    exact ⟨ret_two HF.out.symm rfl, B4⟩

end Go.Proofs.YtdbddockmdkmeaaDoor
