/- The program's LiesAt. -/
import Derived.Test.YtdbddockmdkmeaaDoorQd
import Derived.Test.YtdbddockmdkmeaaDoorQg
import Derived.Test.YtdbddockmdkmeaaDoorEr
import Derived.Test.YtdbddockmdkmeaaDoorJr
import Derived.Test.YtdbddockmdkmeaaDoorCm
namespace Go.Proofs.YtdbddockmdkmeaaDoor
open Go.RowKit Go.Shelf
attribute [local go_sem] Oper.semAt_some

/-- How many segments the program goes over. -/
def shown (l : List Seg) : Nat := if validB l = true then l.length else 0

/-- What is behind nodesOf, valid or not: the iterator over what it hands back. -/
def NodesEither (w : World) (l : List Seg) (e : Ending) (w' : World) : Prop :=
  ∃ a n cp, e = .returned (.slice a n cp) ∧ Below w.heap.size w w' ∧ ∀ (W : World) (Bs bb : Nat), Below w'.heap.size w' W → Row W Bs 52 #[.slice a n cp] → bb < w.heap.size →
    SeqStopsK Fence.wide 19 Tryd.prog 107 #[.pointer (some ⟨Bs, 0, none⟩)] (placeArgs l) (Kept W.heap.size bb) (fun ys => ys.map (·.1) = List.range (shown l)) (fun _ => True) (shown l) W

theorem Nodes.lain {w' W : World} {B g bb : Nat} {l : List Seg} {nb : Nat → Nat} {cv : Nat → Value} (h : Nodes w' B g l.length l.length l nb cv) (hb : Below w'.heap.size w' W) (hbb : bb < B) : Lain W W.heap.size bb g l nb := by
  have h2 := h.below hb
  obtain ⟨cs, hr, _, hc⟩ := h2.row
  refine ⟨⟨cs, hr, hc⟩, ⟨hr.lt, by have := h.low.1; omega⟩, fun i hi => ⟨cv i, h2.node i _ hi (List.getElem?_eq_getElem hi)⟩, fun i hi => ⟨(h2.node i _ hi (List.getElem?_eq_getElem hi)).lt, by have := h.low.2 i hi; omega⟩⟩

set_option maxRecDepth 100000 in
set_option maxHeartbeats 1000000 in
theorem places1_nil_in (n : Nat) (l' Bs : Nat) {l : List Seg} (J : List (Ix l) → World → Prop) (W : World) (hBs : W.cell? ⟨Bs, 0, none⟩ = some (.slice none 0 0)) (h0 : J [] W) :
    CallsIn Fence.wide n Tryd.prog 107 #[.func (.yield l') #[] #[], .pointer (some ⟨Bs, 0, none⟩)] W fun e W' => (∃ v, e = .returned v) ∧ J [] W' := by
  refine callsIn_of_wp Tryd.func107 rfl trivial ?_ rfl
  simp only [Tryd.ntmps107, List.size_toArray, List.length_cons, List.length_nil, Nat.reduceAdd, Nat.reduceSub, Array.replicate_succ, Array.replicate_zero, List.push_toArray, List.append_toArray, List.nil_append, List.cons_append]
  gi_wp2
  gi_loopw [7] (fun i wr => i = .int .i64 0 ∧ J [] wr) (fun _ _ => 0)
  case atStart => exact ⟨rfl, h0⟩
  case round =>
    obtain ⟨rfl, hJs⟩ := hrel
    gi_wp2
    go_end0
    exact ⟨⟨_, rfl⟩, hJs⟩

theorem nodesOf_either (A : Option Addr) (l : List Seg) (c : Nat) (w : World) (hw : Segs w w.heap.size A l) (hl : l.length ≤ 1048576) (hlc : l.length ≤ c) (hcm : c ≤ 9223372036854775807) (hn : Short l) :
    Calls Tryd.prog 49 #[.slice A l.length c] w (NodesEither w l) := by
  cases hv : validB l with
  | false =>
    refine (nodesOf_bad A l c w hw hl hlc hcm hn hv).mono ?_
    rintro e w' ⟨rfl, hb⟩
    refine ⟨none, 0, 0, rfl, hb, fun W Bs bb hW hBs _ l' J Jx W2 hW2 _ _ _ h0 => ?_⟩
    refine (places1_nil_in 19 l' Bs J W2 ((hBs.below hW2 hBs.lt).cell 0) h0).mono ?_
    rintro e W' ⟨h1, h2⟩
    refine ⟨h1, .inl ⟨[], ?_, h2⟩⟩
    unfold shown
    rw [if_neg (by rw [hv]; decide)]
    rfl
  | true =>
    refine (nodesOf_any A l c w hw hl hlc hcm hn hv).mono ?_
    rintro e w' ⟨g, nb, cv, rfl, hN, hb⟩
    refine ⟨_, _, _, rfl, hb, fun W Bs bb hW hBs hbb => ?_⟩
    have h1 := places_stops 19 (by omega) Bs W.heap.size bb g l nb hv W hBs (hN.lain hW hbb)
    have h2 : shown l = l.length := if_pos hv
    rw [h2]
    exact h1

/-- The bytes of the names that were told. -/
def toldB (l : List Seg) (a : Int) (ys : List (Ix l)) : List UInt8 := nameBytes l (ys.filter fun x => holdsB l a x.1)
theorem told_snoc (l : List Seg) (a : Int) (ys : List (Ix l)) (x : Ix l) : toldB l a (ys ++ [x]) = if holdsB l a x.1 = true then toldB l a ys ++ (l[x.1]'x.2).name.data.toList else toldB l a ys := by
  unfold toldB
  rw [List.filter_append]
  by_cases h : holdsB l a x.1 = true
  · rw [if_pos h, List.filter_cons, if_pos h]
    exact nameBytes_snoc l _ x
  · rw [if_neg h, List.filter_cons, if_neg h]
    simp
theorem told_all {l : List Seg} {a : Int} {ys : List (Ix l)} (h : ys.map (·.1) = List.range (shown l)) : (⟨(toldB l a ys).toArray⟩ : ByteArray) = overStr l a ∧ decide (0 < (toldB l a ys).length) = overOk l a := by
  have h1 : (toldB l a ys) = ((List.range (shown l)).filter (holdsB l a)).flatMap (nmAt l) := by
    unfold toldB
    rw [nameBytes_map, ← h, List.filter_map]
    rfl
  by_cases hv : validB l = true
  · have hs : shown l = l.length := if_pos hv
    rw [hs] at h1
    have h2 : (⟨(toldB l a ys).toArray⟩ : ByteArray) = overStr l a := by
      unfold overStr
      rw [if_pos hv, h1]
      rfl
    refine ⟨h2, ?_⟩
    rw [← overStr_size hv a, ← h2]
    rfl
  · have hs : shown l = 0 := if_neg hv
    rw [hs] at h1
    have h3 : toldB l a ys = [] := h1
    rw [h3]
    refine ⟨(if_neg hv).symm, ?_⟩
    unfold overOk
    rw [show validB l = false by simpa using hv]
    rfl
theorem shown_valid {l : List Seg} {n : Nat} (h : n < shown l) : validB l = true := Classical.byContradiction fun hv => by
  have : shown l = 0 := if_neg hv
  omega
theorem told_len {l : List Seg} (a : Int) (ys : List (Ix l)) (hv : validB l = true) : (toldB l a ys).length ≤ ys.length :=
  Nat.le_trans (nameBytes_len (valid_names hv) _) (List.length_filter_le _ _)
theorem shown_le {l : List Seg} : shown l ≤ 8 := by
  by_cases hv : validB l = true
  · have : shown l = l.length := if_pos hv
    have := (valid_all hv).2.1
    omega
  · have : shown l = 0 := if_neg hv
    omega


/-- What the loop keeps. -/
structure Telling (w : World) (l : List Seg) (a : Int) (pre : List (Ix l)) (W : World) : Prop where
  text : Lib.IsBuilderF 56 5 (w.heap.size + 1) (w.heap.size + 1) (Lib.byteCells (toldB l a pre)) W
  box : Row W w.heap.size 3 #[.int .i64 a]
  below : Below w.heap.size w W
theorem Telling.grown {w W W' : World} {l : List Seg} {a : Int} {pre : List (Ix l)} {B : Nat} {row : Option Nat} (h : Telling w l a pre W) (hg : W.grownBy W' row) (hB : w.heap.size ≤ B) (hr : ∀ r, row = some r → B ≤ r ∧ ∃ o : Obj, W.heap[r]? = some o ∧ o.isCells = false) : Telling w l a pre W' :=
  ⟨isB_own _ _ _ _ B (fun _ : List Unit => Lib.byteCells (toldB l a pre)) [] W W' row h.text hg hr, row_grown h.box hg hr, h.below.grown hg h.below.size (fun k e => by have := (hr k e).1; omega)⟩
theorem Telling.below' {w W W' : World} {l : List Seg} {a : Int} {pre : List (Ix l)} (h : Telling w l a pre W) (hb : Below W.heap.size W W') : Telling w l a pre W' := h.grown (B := w.heap.size) (grownBy_of_below hb) (Nat.le_refl _) (fun r e => by cases e)

end Go.Proofs.YtdbddockmdkmeaaDoor
