/- The program's LiesAt. -/
import Derived.Test.YtbmfjfhmdpmlbaaQd
import Derived.Test.YtbmfjfhmdpmlbaaEr
import Derived.Test.YtbmfjfhmdpmlbaaJr
import Derived.Test.YtbmfjfhmdpmlbaaCm
namespace Go.Proofs.Ytbmfjfhmdpmlbaa
open Go.RowKit Go.Shelf
attribute [local go_sem] Oper.semAt_some

/-- How many segments the program goes over. -/
def shown (l : List Seg) : Nat := if validB l = true then l.length else 0

/-- What is behind nodesOf, valid or not: the iterator over what it hands back. -/
def NodesEither (w : World) (l : List Seg) (e : Ending) (w' : World) : Prop :=
  ∃ a n cp, e = .returned (.slice a n cp) ∧ Below w.heap.size w w' ∧ ∀ (W : World) (Bs bb : Nat), Below w'.heap.size w' W → Row W Bs 65 #[.slice a n cp] → bb < w.heap.size →
    SeqStopsK Fence.wide 19 Try.prog 144 #[.pointer (some ⟨Bs, 0, none⟩)] (placeArgs l) (Kept W.heap.size bb) (fun ys => ys.map (·.1) = List.range (shown l)) (fun _ => True) (shown l) W

theorem Nodes.lain {w' W : World} {B g bb : Nat} {l : List Seg} {nb : Nat → Nat} {cv : Nat → Value} (h : Nodes w' B g l.length l.length l nb cv) (hb : Below w'.heap.size w' W) (hbb : bb < B) : Lain W W.heap.size bb g l nb := by
  have h2 := h.below hb
  obtain ⟨cs, hr, _, hc⟩ := h2.row
  refine ⟨⟨cs, hr, hc⟩, ⟨hr.lt, by have := h.low.1; omega⟩, fun i hi => ⟨cv i, h2.node i _ hi (List.getElem?_eq_getElem hi)⟩, fun i hi => ⟨(h2.node i _ hi (List.getElem?_eq_getElem hi)).lt, by have := h.low.2 i hi; omega⟩⟩

set_option maxRecDepth 100000 in
set_option maxHeartbeats 1000000 in
theorem places1_nil_in (n : Nat) (l' Bs : Nat) {l : List Seg} (J : List (Ix l) → World → Prop) (W : World) (hBs : W.cell? ⟨Bs, 0, none⟩ = some (.slice none 0 0)) (h0 : J [] W) :
    CallsIn Fence.wide n Try.prog 144 #[.func (.yield l') #[] #[], .pointer (some ⟨Bs, 0, none⟩)] W fun e W' => (∃ v, e = .returned v) ∧ J [] W' := by
  refine callsIn_of_wp Try.func144 rfl trivial ?_ rfl
  simp only [Try.ntmps144, List.size_toArray, List.length_cons, List.length_nil, Nat.reduceAdd, Nat.reduceSub, Array.replicate_succ, Array.replicate_zero, List.push_toArray, List.append_toArray, List.nil_append, List.cons_append]
  gi_wp2
  gi_loopw [7] (fun i wr => i = .int .i64 0 ∧ J [] wr) (fun _ _ => 0)
  case atStart => exact ⟨rfl, h0⟩
  case round =>
    obtain ⟨rfl, hJs⟩ := hrel
    gi_wp2
    go_end0
    exact ⟨⟨_, rfl⟩, hJs⟩

theorem nodesOf_either (A : Option Addr) (l : List Seg) (c : Nat) (w : World) (hw : Segs w w.heap.size A l) (hl : l.length ≤ 1048576) (hlc : l.length ≤ c) (hcm : c ≤ 9223372036854775807) (hn : Short l) :
    Calls Try.prog 81 #[.slice A l.length c] w (NodesEither w l) := by
  cases hv : validB l with
  | false =>
    refine (nodesOf_bad A l c w hw hl hlc hcm hn hv).mono ?_
    rintro e w' ⟨rfl, hb⟩
    refine ⟨none, 0, 0, rfl, hb, fun W Bs bb hW hBs _ l' J Jx W2 hW2 _ _ _ h0 => ?_⟩
    refine (places1_nil_in 19 l' Bs J W2 ((hBs.below hW2 hBs.lt).cell 0) h0).mono ?_
    rintro e W' ⟨h1, h2⟩
    refine ⟨h1, .inl ⟨[], ?_, h2⟩⟩
    unfold shown
    rw [if_neg (by rw [hv]; decide)]
    rfl
  | true =>
    refine (nodesOf_any A l c w hw hl hlc hcm hn hv).mono ?_
    rintro e w' ⟨g, nb, cv, rfl, hN, hb⟩
    refine ⟨_, _, _, rfl, hb, fun W Bs bb hW hBs hbb => ?_⟩
    have h1 := places_stops 19 (by omega) Bs W.heap.size bb g l nb hv W hBs (hN.lain hW hbb)
    have h2 : shown l = l.length := if_pos hv
    rw [h2]
    exact h1

/-- The bytes of the names that were told. -/
def toldB (l : List Seg) (a : Int) (ys : List (Ix l)) : List UInt8 := nameBytes l (ys.filter fun x => holdsB l a x.1)
theorem told_snoc (l : List Seg) (a : Int) (ys : List (Ix l)) (x : Ix l) : toldB l a (ys ++ [x]) = if holdsB l a x.1 = true then toldB l a ys ++ (l[x.1]'x.2).name.data.toList else toldB l a ys := by
  unfold toldB
  rw [List.filter_append]
  by_cases h : holdsB l a x.1 = true
  · rw [if_pos h, List.filter_cons, if_pos h]
    exact nameBytes_snoc l _ x
  · rw [if_neg h, List.filter_cons, if_neg h]
    simp
theorem told_all {l : List Seg} {a : Int} {ys : List (Ix l)} (h : ys.map (·.1) = List.range (shown l)) : (⟨(toldB l a ys).toArray⟩ : ByteArray) = overStr l a ∧ decide (0 < (toldB l a ys).length) = overOk l a := by
  have h1 : (toldB l a ys) = ((List.range (shown l)).filter (holdsB l a)).flatMap (nmAt l) := by
    unfold toldB
    rw [nameBytes_map, ← h, List.filter_map]
    rfl
  by_cases hv : validB l = true
  · have hs : shown l = l.length := if_pos hv
    rw [hs] at h1
    have h2 : (⟨(toldB l a ys).toArray⟩ : ByteArray) = overStr l a := by
      unfold overStr
      rw [if_pos hv, h1]
      rfl
    refine ⟨h2, ?_⟩
    rw [← overStr_size hv a, ← h2]
    rfl
  · have hs : shown l = 0 := if_neg hv
    rw [hs] at h1
    have h3 : toldB l a ys = [] := h1
    rw [h3]
    refine ⟨(if_neg hv).symm, ?_⟩
    unfold overOk
    rw [show validB l = false by simpa using hv]
    rfl
theorem shown_valid {l : List Seg} {n : Nat} (h : n < shown l) : validB l = true := Classical.byContradiction fun hv => by
  have : shown l = 0 := if_neg hv
  omega
theorem told_len {l : List Seg} (a : Int) (ys : List (Ix l)) (hv : validB l = true) : (toldB l a ys).length ≤ ys.length :=
  Nat.le_trans (nameBytes_len (valid_names hv) _) (List.length_filter_le _ _)
theorem shown_le {l : List Seg} : shown l ≤ 8 := by
  by_cases hv : validB l = true
  · have : shown l = l.length := if_pos hv
    have := (valid_all hv).2.1
    omega
  · have : shown l = 0 := if_neg hv
    omega

theorem kept_others {n₀ bb : Nat} {W W' : World} (h : Lib.OthersKept 5 (some bb) W W') : Kept n₀ bb W W' := fun k o _ h2 h3 h4 => h k o h3 (fun e => h2 (by cases e; rfl)) h4
theorem from_below {B : Nat} {W W' : World} (h : Below W.heap.size W W') : KeepsFrom B W W' := KeepsFrom.of_grownBy (grownBy_of_below h) (fun j e => by cases e)

theorem builder_cells {T e : TypeId} {B b : Nat} {bs : List Value} {w : World} (h : Lib.IsBuilderF T e B b bs w) : ∃ c, w.heap[b]? = some (.cells c T (0, 0)) := by
  rcases h with ⟨_, v, h2, _⟩ | ⟨_, v, h2, _⟩
  · exact ⟨_, h2⟩
  · exact ⟨_, h2⟩

/-- What the loop keeps. -/
structure Telling (w : World) (l : List Seg) (a : Int) (pre : List (Ix l)) (W : World) : Prop where
  text : Lib.IsBuilderF 93 5 (w.heap.size + 1) (w.heap.size + 1) (Lib.byteCells (toldB l a pre)) W
  box : Row W w.heap.size 3 #[.int .i64 a]
  below : Below w.heap.size w W
theorem Telling.grown {w W W' : World} {l : List Seg} {a : Int} {pre : List (Ix l)} {B : Nat} {row : Option Nat} (h : Telling w l a pre W) (hg : W.grownBy W' row) (hB : w.heap.size ≤ B) (hr : ∀ r, row = some r → B ≤ r ∧ ∃ o : Obj, W.heap[r]? = some o ∧ o.isCells = false) : Telling w l a pre W' :=
  ⟨isB_own _ _ _ _ B (fun _ : List Unit => Lib.byteCells (toldB l a pre)) [] W W' row h.text hg hr, row_grown h.box hg hr, h.below.grown hg h.below.size (fun k e => by have := (hr k e).1; omega)⟩
theorem Telling.below' {w W W' : World} {l : List Seg} {a : Int} {pre : List (Ix l)} (h : Telling w l a pre W) (hb : Below W.heap.size W W') : Telling w l a pre W' := h.grown (B := w.heap.size) (grownBy_of_below hb) (Nat.le_refl _) (fun r e => by cases e)

set_option maxRecDepth 100000 in
set_option maxHeartbeats 4000000 in
theorem liesAt_any (A : Option Addr) (l : List Seg) (c : Nat) (a : Int) (w : World) (hw : Segs w w.heap.size A l) (hl : l.length ≤ 1048576) (hlc : l.length ≤ c) (hcm : c ≤ 9223372036854775807) (hn : Short l) :
    Calls Try.prog 41 #[.slice A l.length c, .int .i64 a] w fun e w' => e = .returned (.tuple #[.string (overStr l a), .bool (overOk l a)]) ∧ Below w.heap.size w w' := by
  have HW : Hid (Segs w w.heap.size A l) := hw
  clear hw
  refine (callsIn_wide (n := 20)).1 ?_
  refine callsIn_of_wp_marks Try.func41 rfl trivial ?_ rfl
  simp only [Try.ntmps41, List.size_toArray, List.length_cons, List.length_nil, Nat.reduceAdd, Nat.reduceSub, Array.replicate_succ, Array.replicate_zero, List.push_toArray, List.append_toArray, List.nil_append, List.cons_append]
  gi_wp2_with fail
  have hB0 : Below w.heap.size w ((w.alloc (.cells #[.int .i64 a] 3)).alloc (.cells #[.pointer none, .slice none 0 0] 93)) := ((Below.refl _ w).alloc (Nat.le_refl _) _).alloc (by simp) _
  have hT0 : Telling w l a [] ((w.alloc (.cells #[.int .i64 a] 3)).alloc (.cells #[.pointer none, .slice none 0 0] 93)) := by
    refine ⟨?_, (Row.new _ _ _).alloc _, hB0⟩
    have := Lib.IsBuilderF.of (Lib.fresh_isBuilder 93 5 (w.alloc (.cells #[.int .i64 a] 3)))
    rw [World.size_alloc] at this
    exact this
  have hz0 : ((w.alloc (.cells #[.int .i64 a] 3)).alloc (.cells #[.pointer none, .slice none 0 0] 93)).heap.size = w.heap.size + 2 := by simp
  generalize (w.alloc (.cells #[.int .i64 a] 3)).alloc (.cells #[.pointer none, .slice none 0 0] 93) = W0 at *
  refine ⟨trivial, ?_⟩
  gi_at_call 81
  refine (callsIn_wide.2 (nodesOf_either _ _ _ _ ((HW.out.below hB0).more hB0.size) hl hlc hcm hn)).mono ?_
  rintro e w1 ⟨a1, n1, c1, rfl, hb1, hit⟩
  have HIT := Lib.hid hit
  clear hit
  gi_wp2_with fail
  refine ⟨trivial, ?_⟩
  gi_at_call 103
  refine (callsIn_wide.2 (placesOf_any _ _ _ _)).mono ?_
  rintro e w2 ⟨rfl, rfl⟩
  have hseq := HIT.out (w1.alloc (.cells #[.slice a1 n1 c1] 65)) w1.heap.size (w.heap.size + 1) ((Below.refl _ w1).alloc (Nat.le_refl _) _) (Row.new _ _ _) (by omega)
  have hz1 := hb1.size
  have hT1 := (hT0.below' hb1).below' ((Below.refl _ w1).alloc (Nat.le_refl _) (.cells #[.slice a1 n1 c1] 65))
  have hz2 : (w1.alloc (.cells #[.slice a1 n1 c1] 65)).heap.size = w1.heap.size + 1 := by simp
  clear HIT hb1 hT0 hB0
  gi_wp2
  generalize w1.alloc (.cells #[.slice a1 n1 c1] 65) = W2 at *
  refine wpIn_rangeFunc_ownH rfl (by omega) (gf := 144) (lb := #[.pointer (some ⟨w1.heap.size, 0, none⟩)]) rfl trivial (enters_of Try.func144 (by kernel_rfl) rfl) hseq
    (fun h k => h.trans k) (fun W l o o' hl _ _ _ => Kept.put W o' hl) (Below.refl _ _) (fun _ => rfl)
    (fun pre W => Telling w l a pre W) (fun _ _ _ => False)
    (fun _ _ _ _ h hg hr => h.grown hg (by omega) hr) (fun _ _ _ _ _ hs _ _ => hs) hT1
    (fun x a' W => ∃ p, Row W p 88 #[.int .i64 (begAt l x.1), .int .i64 (endAt l x.1)] ∧ p ≠ w.heap.size + 1 ∧ a' = { tmps := #[.slice A l.length c, .int .i64 a, undef, .pointer (some ⟨w.heap.size, 0, none⟩), .string ⟨#[]⟩, .bool false, .pointer (some ⟨w.heap.size + 1, 0, none⟩), .string (l[x.1]'x.2).name, .pointer (some ⟨p, 0, none⟩), .slice A l.length c, .slice a1 n1 c1, .func (.func 144) #[] #[.pointer (some ⟨w1.heap.size, 0, none⟩)], .string (l[x.1]'x.2).name, .agg #[.int .i64 (begAt l x.1), .int .i64 (endAt l x.1)], undef, undef, undef, undef, undef, undef, undef, undef], defers := [] })
    (fun x a' _ _ _ _ ⟨p, h1, h2, h3⟩ hg hr => ⟨p, row_grown h1 hg hr, h2, h3⟩) ?assign ?body ?done ?stop
  case assign =>
    intro l2 pre x W K hI hK
    unfold placeArgs
    have hW := hI.below.size
    have hI2 := hI.below' ((Below.refl _ W).alloc (Nat.le_refl _) (.cells #[.int .i64 (begAt l x.1), .int .i64 (endAt l x.1)] 88))
    obtain ⟨cb, hcb⟩ := builder_cells hI.text
    have hbw := (Array.getElem?_eq_some_iff.1 hcb).1
    clear hcb
    gi_wp2
    exact hK _ _ (from_below ((Below.refl _ W).alloc (Nat.le_refl _) _)) (Kept.of_below ((Below.refl _ W).alloc (Nat.le_refl _) _)) hI2 ⟨W.heap.size, Row.new _ _ _, by omega, rfl⟩
  case body =>
    rintro l2 pre x a' W hl2 - hI ⟨p, hp, hpne, rfl⟩ hlen
    have hv := shown_valid hlen
    have c0 : W.cell? ⟨p, 0, none⟩ = some (.int .i64 (begAt l x.1)) := hp.cell 0
    have c1 : W.cell? ⟨p, 1, none⟩ = some (.int .i64 (endAt l x.1)) := hp.cell 1
    have ca : W.cell? ⟨w.heap.size, 0, none⟩ = some (.int .i64 a) := hI.box.cell 0
    have HI := Lib.hid hI
    have HT := Lib.hid (told_snoc l a pre x)
    have hlt : (toldB l a pre).length + (l[x.1]'x.2).name.size ≤ 9 := by
      have h1 := told_len a pre hv
      have h2 := valid_names hv _ (List.getElem_mem x.2)
      have h3 := shown_le (l := l)
      omega
    have HD : Hid (holdsB l a x.1 = (decide (begAt l x.1 ≤ a) && decide (a < endAt l x.1))) := rfl
    clear hI hp hv
    gi_wp2_with fail
    refine ⟨trivial, ?_⟩
    gi_at_call 104
    refine (CallsIn.inRound l2 (callsIn_wide.2 (holds_any _ _ _ _))).mono ?_
    rw [← HD.out]
    cases hd : holdsB l a x.1 with
    | false =>
      rintro e W1 ⟨rfl, hb1⟩
      have HT1 : Hid (toldB l a (pre ++ [x]) = toldB l a pre) := by
        show _ = _
        rw [HT.out, if_neg (by rw [hd]; decide)]
      have HB := Lib.hid hb1
      clear hd hb1
      gi_wp2
      refine ⟨from_below HB.out, Kept.of_below HB.out, ?_⟩
      have h1 := HI.out.below' HB.out
      exact ⟨by rw [HT1.out]; exact h1.text, h1.box, h1.below⟩
    | true =>
      rintro e W1 ⟨rfl, hb1⟩
      have HT1 : Hid (toldB l a (pre ++ [x]) = toldB l a pre ++ (l[x.1]'x.2).name.data.toList) := by
        show _ = _
        rw [HT.out, if_pos hd]
      have HB := Lib.hid hb1
      have HI1 := Lib.hid (HI.out.below' hb1)
      clear hd hb1
      generalize (l[x.1]'x.2).name = nm at *
      have hl1 : (Lib.byteCells (toldB l a pre)).length + nm.size ≤ 140737488355328 := by
        have h3 : (Lib.byteCells (toldB l a pre)).length = (toldB l a pre).length := by simp [Lib.byteCells]
        omega
      obtain ⟨cb, hcb⟩ := builder_cells HI1.out.text
      have hbw := (Array.getElem?_eq_some_iff.1 hcb).1
      have HC := Lib.hid hcb
      clear hcb
      gi_wp2_with fail
      refine ⟨trivial, ?_⟩
      gi_at_call 105
      refine (CallsIn.inRound l2 (callsIn_wide.2 (writeString_any (w.heap.size + 1) (w.heap.size + 1) _ nm _ HI1.out.text hl1 (by omega)))).mono ?_
      rintro e W2' ⟨rfl, hIB, hbB, hkO⟩
      have HR := Lib.hid (And.intro hIB (And.intro hbB hkO))
      clear hIB hbB hkO
      gi_wp2
      refine ⟨(from_below HB.out).trans (kept_from HR.out.2.2 HR.out.2.1 HC.out), (Kept.of_below HB.out).trans (kept_others HR.out.2.2), ?_⟩
      refine ⟨?_, HI1.out.box.below HR.out.2.1 (by omega), HI1.out.below.trans (HR.out.2.1.mono (by omega))⟩
      rw [HT1.out]
      have : Lib.byteCells (toldB l a pre ++ nm.data.toList) = Lib.byteCells (toldB l a pre) ++ Lib.strCells nm := by simp [Lib.byteCells, Lib.strCells]
      rw [this]
      exact HR.out.1
  case done =>
    rintro D ys W hD hS hI hK
    have HA := Lib.hid (told_all (a := a) hS)
    obtain ⟨cb, hcb⟩ := builder_cells hI.text
    have hbw := (Array.getElem?_eq_some_iff.1 hcb).1
    have HI := Lib.hid hI
    have HK : Hid (W.heap[D]? = some (.deferred (some []))) := hK
    clear hcb hI hK
    gi_wp2_with fail
    refine ⟨trivial, ?_⟩
    gi_at_call 106
    refine (callsIn_wide.2 (Try.Builder_String_any_k (w.heap.size + 1) (w.heap.size + 1) _ _ HI.out.text (by omega))).mono ?_
    rintro e W1 ⟨rfl, hI1, hb1, hk1⟩
    have hK1 : W1.heap[D]? = some (.deferred (some [])) := hk1 D _ HK.out (fun he => by cases he; omega) (fun c fz he => by cases he)
    have hlen : (Lib.byteCells (toldB l a ys)).length = (toldB l a ys).length := by simp [Lib.byteCells]
    have hLen := Try.Builder_Len_f _ _ _ _ hI1
    rw [hlen] at hLen
    have HL := Lib.hid hLen
    have HB1 := Lib.hid hb1
    have HK1 : Hid (W1.heap[D]? = some (.deferred (some []))) := hK1
    clear hLen hlen hI1 hk1 hb1 hK1
    gi_wp2_with fail
    refine ⟨trivial, ?_⟩
    gi_at_call 107
    refine (callsIn_wide.2 HL.out).mono ?_
    rintro e W3 ⟨rfl, rfl⟩
    gi_wp2
    refine ⟨by simp, .inl ⟨_, _, rfl, run_takeDeferred HK1.out, ?_⟩⟩
    refine ⟨_, results_tmp2 (t := 4) (u := 5) rfl _ _ _, ret_two HA.out.1 ?_, (HI.out.below.trans (HB1.out.mono (by omega))).trans (belowK_b (w := w) (Nat.le_refl _) W3 D _ _ (by omega) HK1.out rfl rfl)⟩
    rw [← HA.out.2]
  case stop =>
    rintro D c pre W _ _ h _
    exact h.elim

end Go.Proofs.Ytbmfjfhmdpmlbaa
