/- The program's LongestPath. -/
import Derived.Test.YtbmfjfhmdpmlbaaPe
import Derived.Test.YtbmfjfhmdpmlbaaPo
namespace Go.Proofs.Ytbmfjfhmdpmlbaa
open Go.RowKit Go.Shelf

theorem Nodes.below {w w' : World} {B g m k : Nat} {l : List Seg} {nb : Nat → Nat} {cv : Nat → Value} (h : Nodes w B g m k l nb cv) (hb : Below w.heap.size w w') : Nodes w' B g m k l nb cv := by
  obtain ⟨cs, hg, hcs, hci⟩ := h.row
  refine ⟨⟨cs, hg.below hb hg.lt, hcs, hci⟩, fun i t hi ht => ?_, fun i t hi hi2 ht => ?_, fun i hi => ?_, h.apart, h.apartC, h.notg, h.low⟩
  · have h1 := h.node i t hi ht
    exact h1.below hb h1.lt
  · have h1 := h.fresh i t hi hi2 ht
    exact h1.below hb h1.lt
  · exact own_keep (h.kids i hi) fun b hb' => hb.block b ((h.kids i hi).lt b hb').2

theorem nameBytes_map (l : List Seg) : ∀ ys : List (Ix l), nameBytes l ys = (ys.map (·.1)).flatMap (nmAt l)
  | [] => rfl
  | y :: ys => by
    show (l[y.1]'y.2).name.data.toList ++ nameBytes l ys = nmAt l y.1 ++ (ys.map (·.1)).flatMap (nmAt l)
    rw [nameBytes_map l ys, nmAt_of y.2]

/-- The names along the path of a node. -/
theorem joinPath_any (B g i : Nat) (l : List Seg) (nb : Nat → Nat) (cv : Nat → Value) (w1 : World) (hN : Nodes w1 B g l.length l.length l nb cv) (hv : validB l = true) (hi : i < l.length) :
    Calls Try.prog 82 #[.func (.func 135) #[] #[.pointer (some ⟨w1.heap.size, 0, none⟩)]] (w1.alloc (.cells #[.pointer (some ⟨nb i, 0, none⟩)] 63)) fun e w' =>
      e = .returned (.string (namesAt l (rp l i))) ∧ Below w1.heap.size w1 w' := by
  have hL := valid_all hv
  have hO := valid_names hv
  have hR : (rootPath l (i + 1) i).length ≤ i + 1 := rootPath_len l (i + 1) i
  have hrow : Row (w1.alloc (.cells #[.pointer (some ⟨nb i, 0, none⟩)] 63)) w1.heap.size 63 #[.pointer (some ⟨nb i, 0, none⟩)] := Row.new _ _ _
  have hlk : Linked (w1.alloc (.cells #[.pointer (some ⟨nb i, 0, none⟩)] 63)) (w1.alloc (.cells #[.pointer (some ⟨nb i, 0, none⟩)] 63)).heap.size l nb := fun j hj => by
    have h1 := (hN.node j _ hj (List.getElem?_eq_getElem hj)).alloc (.cells #[.pointer (some ⟨nb i, 0, none⟩)] 63)
    exact ⟨h1.lt, h1.cell 2⟩
  have hseq := path1_seq l nb (w1.alloc (.cells #[.pointer (some ⟨nb i, 0, none⟩)] 63)).heap.size ((w1.alloc (.cells #[.pointer (some ⟨nb i, 0, none⟩)] 63)).heap.size + 3) 1000 hL.1.down (i + 1) i (by omega) hi 19 w1.heap.size _
    ⟨.inl (by simp), by decide, hrow⟩ hlk (Nat.le_refl _) (by have := hL.2.1; omega) (by have := hL.2.1; omega)
  refine (joinNamesR_any _ l nb (fun x => ?_) hO _ _ 1000 (Nat.le_refl _) (enters_of Try.func135 (by kernel_rfl) rfl) hseq).mono ?_
  · exact ((hN.node x.1 _ x.2 (List.getElem?_eq_getElem x.2)).alloc _).cell 0
  · rintro e w3 ⟨⟨xs, hxs, rfl⟩, hb3⟩
    refine ⟨?_, ((Below.refl _ w1).alloc (Nat.le_refl _) _).trans (hb3.mono (by simp))⟩
    rw [nameBytes_map, hxs]
    rfl

end Go.Proofs.Ytbmfjfhmdpmlbaa
