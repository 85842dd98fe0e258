/- Joined: He Hi. -/
import Derived.Test.YtdbddockmdkmeaaDoorU13
import Derived.Test.YtdbddockmdkmeaaDoorU14
import Derived.Test.YtdbddockmdkmeaaDoorU07
import Derived.Test.YtdbddockmdkmeaaDoorU11
import Derived.Test.YtdbddockmdkmeaaDoorU12
import Derived.Test.YtdbddockmdkmeaaDoorU02
import Derived.Test.YtdbddockmdkmeaaDoorU06
/- The program's MapOf. -/
namespace Go.Proofs.YtdbddockmdkmeaaDoor
open Go.RowKit Go.Shelf
attribute [local go_sem] Oper.semAt_some

theorem Bld12.on {b : Nat} {w W W' : World} {y : ByteArray} (h : Bld12 b w y W) (hb : Below W.heap.size W W') : Bld12 b w y W' :=
  ⟨isB_keep h.1 (fun k _ ho _ => (hb.block k (Array.getElem?_eq_some_iff.1 ho).1).trans ho), h.2.trans (hb.mono h.2.size)⟩
theorem Bld12.grown {b : Nat} {w W W' : World} {y : ByteArray} {B : Nat} {row : Option Nat} (h : Bld12 b w y W) (hg : W.grownBy W' row) (hB : w.heap.size ≤ B) (hr : ∀ r, row = some r → B ≤ r ∧ ∃ o : Obj, W.heap[r]? = some o ∧ o.isCells = false) : Bld12 b w y W' :=
  ⟨isB_own _ _ _ _ B (fun _ : List Unit => Lib.byteCells y.data.toList) [] W W' row h.1 hg hr, h.2.grown hg h.2.size (fun k e => by have := (hr k e).1; omega)⟩
theorem others_below {W W' : World} {b : Nat} (hb : Below W.heap.size W W') : Lib.OthersKept 5 (some b) W W' := fun k _ ho _ _ => (hb.block k (Array.getElem?_eq_some_iff.1 ho).1).trans ho
/-- What a call that writes into the Builder in block 'b' has done. -/
def Put12 (b : Nat) (w : World) (y : ByteArray) (W W' : World) : Prop := Bld12 b w y W' ∧ Below w.heap.size W W' ∧ Lib.OthersKept 5 (some b) W W'
theorem putStr12 (b : Nat) (w : World) (y s : ByteArray) (W : World) (h : Bld12 b w y W) (hy : y.size ≤ 100000000) (hs : s.size ≤ 100000000) :
    Calls Tryd.prog 82 #[.pointer (some ⟨b, 0, none⟩), .string s] W fun e W' => e = .returned (.tuple #[.int .i64 s.size, .nilIface]) ∧ Hid (Put12 b w (y ++ s) W W') := by
  refine (writeString_any w.heap.size b _ s W h.1 (by rw [cells_size12]; omega) h.2.size).mono ?_
  rintro e W' ⟨rfl, hI, hb, hk⟩
  rw [cells_cat12] at hI
  exact ⟨rfl, ⟨hI, h.2.trans hb⟩, hb, hk⟩
theorem putByte12 (b : Nat) (w : World) (y : ByteArray) (c : UInt8) (n : Int) (hc : n = (c.toNat : Int)) (W : World) (h : Bld12 b w y W) (hy : y.size ≤ 100000000) :
    Calls Tryd.prog 81 #[.pointer (some ⟨b, 0, none⟩), .int .u8 n] W fun e W' => e = .returned .nilIface ∧ Hid (Put12 b w (y ++ ⟨#[c]⟩) W W') := by
  subst hc
  refine (writeByte_any w.heap.size b _ _ W h.1 (by rw [cells_size12]; omega) h.2.size).mono ?_
  rintro e W' ⟨rfl, hI, hb, hk⟩
  have e1 : ([.int .u8 (c.toNat : Int)] : List Value) = Lib.strCells ⟨#[c]⟩ := rfl
  rw [e1, cells_cat12] at hI
  exact ⟨rfl, ⟨hI, h.2.trans hb⟩, hb, hk⟩
theorem Put12.trans {b : Nat} {w W1 W2 W3 : World} {y z : ByteArray} (h : Put12 b w y W1 W2) (k : Put12 b w z W2 W3) : Put12 b w z W1 W3 := ⟨k.1, h.2.1.trans k.2.1, h.2.2.trans k.2.2⟩
theorem Put12.of_below {b : Nat} {w W W' : World} {y : ByteArray} (h : Bld12 b w y W) (hb : Below W.heap.size W W') : Put12 b w y W W' := ⟨h.on hb, hb.mono h.2.size, others_below hb⟩

set_option maxRecDepth 100000 in
set_option maxHeartbeats 1000000 in
theorem spanWrite_any (b : Nat) (w : World) (p1 p2 : Int) (y : ByteArray) (W : World) (h : Bld12 b w y W) (hp : Pow12 w) (hy : y.size ≤ 90000000) (h1 : 0 ≤ p1) (h2 : p1 ≤ 1000) (h3 : 1 ≤ p2) (h4 : p2 ≤ 1000) :
    Calls Tryd.prog 83 #[.agg #[.int .i64 p1, .int .i64 p2], .pointer (some ⟨b, 0, none⟩)] W fun e W' => e = .returned (.tuple #[]) ∧ Hid (Put12 b w (y ++ txt12 (Lib.itoa p1 ++ 45 :: Lib.itoa (p2 - 1))) W W') := by
  have hy1 := itoa_len p1 (by omega) (by omega)
  have hy2 := itoa_len (p2 - 1) (by omega) (by omega)
  have HZ : Hid (y ++ txt12 (Lib.itoa p1 ++ 45 :: Lib.itoa (p2 - 1)) = y ++ txt12 (Lib.itoa p1) ++ ⟨#[45]⟩ ++ txt12 (Lib.itoa (p2 - 1))) := by
    show _ = _ ++ txt12 [45] ++ _
    rw [ByteArray.append_assoc, ByteArray.append_assoc, txt12_app, txt12_app]
    rfl
  have hw64 : wrap64 (p2 - 1) = p2 - 1 := IntWalk.wrap64_in _ ⟨by omega, by omega⟩
  obtain ⟨p3, hp3⟩ : ∃ p, p2 - 1 = p := ⟨_, rfl⟩
  rw [hp3] at HZ hw64 hy2
  have HI1 := Lib.hid (Put12.of_below h ((Below.refl _ W).alloc (Nat.le_refl _) (.cells #[.int .i64 p1, .int .i64 p2] 84)))
  have HR1 : Hid (Row (W.alloc (.cells #[.int .i64 p1, .int .i64 p2] 84)) W.heap.size 84 #[.int .i64 p1, .int .i64 p2]) := Row.new W _ _
  have hbw := isB_ltW h.1
  have HQ1 := Lib.hid (fun W2 (hW : Below w.heap.size w W2) => itoa12_any p1 W2 (hp.below hW) (by omega) (by omega))
  have HQ2 := Lib.hid (fun W2 (hW : Below w.heap.size w W2) => itoa12_any p3 W2 (hp.below hW) (by omega) (by omega))
  obtain ⟨y1, HY1⟩ : ∃ q, Hid (q = txt12 (Lib.itoa p1)) := ⟨_, Lib.hid rfl⟩
  obtain ⟨y2, HY2⟩ : ∃ q, Hid (q = txt12 (Lib.itoa p3)) := ⟨_, Lib.hid rfl⟩
  have hs1 : y1.size ≤ 20 := by rw [HY1.out, txt12_size]; exact hy1
  have hs2 : y2.size ≤ 20 := by rw [HY2.out, txt12_size]; exact hy2
  have hs3 : (y ++ y1).size ≤ 95000000 := by rw [ByteArray.size_append]; omega
  have hs4 : (y ++ y1 ++ (⟨#[45]⟩ : ByteArray)).size ≤ 95000001 := by rw [ByteArray.size_append, one12]; omega
  rw [← HY1.out, ← HY2.out] at HZ
  rw [← HY1.out] at HQ1
  rw [← HY2.out] at HQ2
  clear h hp HY1 HY2 hy1 hy2 h1 h2 h3 h4
  go_enter Tryd.func83, Tryd.ntmps83
  go_wp2_with fail
  generalize W.alloc (.cells #[.int .i64 p1, .int .i64 p2] 84) = W1 at *
  have c0 : W1.cell? ⟨W.heap.size, 0, none⟩ = some (.int .i64 p1) := HR1.out.cell 0
  have c1 : W1.cell? ⟨W.heap.size, 1, none⟩ = some (.int .i64 p2) := HR1.out.cell 1
  have hne : W.heap.size ≠ b := by omega
  refine (HQ1.out W1 HI1.out.1.2).mono ?_
  rintro e W2 ⟨rfl, hb2⟩
  have HI2 := Lib.hid (HI1.out.trans (Put12.of_below HI1.out.1 hb2))
  have HR2 := Lib.hid (HR1.out.below hb2 HR1.out.lt)
  clear hb2 c0 c1 HI1 HR1
  go_wp2_with fail
  refine (putStr12 b w y y1 W2 HI2.out.1 (by omega) (by omega)).mono ?_
  rintro e W3 ⟨rfl, HI3⟩
  have HR3 := Lib.hid (kept_rowW HI3.out.2.2 HR2.out hne (by decide))
  have HJ3 := Lib.hid (HI2.out.trans HI3.out)
  clear HI2 HI3 HR2
  go_wp2_with fail
  refine (putByte12 b w _ 45 _ (by decide) W3 HJ3.out.1 (by omega)).mono ?_
  rintro e W4 ⟨rfl, HI4⟩
  have HR4 := Lib.hid (kept_rowW HI4.out.2.2 HR3.out hne (by decide))
  have HJ4 := Lib.hid (HJ3.out.trans HI4.out)
  have c2 : W4.cell? ⟨W.heap.size, 1, none⟩ = some (.int .i64 p2) := HR4.out.cell 1
  clear HJ3 HI4 HR3
  go_wp2_with fail
  refine (HQ2.out W4 HJ4.out.1.2).mono ?_
  rintro e W5 ⟨rfl, hb5⟩
  have HJ5 := Lib.hid (HJ4.out.trans (Put12.of_below HJ4.out.1 hb5))
  clear hb5 HJ4
  go_wp2_with fail
  refine (putStr12 b w _ y2 W5 HJ5.out.1 (by omega) (by omega)).mono ?_
  rintro e W6 ⟨rfl, HI6⟩
  have HJ6 := Lib.hid (HJ5.out.trans HI6.out)
  rw [← HZ.out] at HJ6
  clear HJ5 HI6
  subst hp3
  go_wp2
  go_end0
  exact ⟨rfl, HJ6⟩

/-- The text of where some segments lie. -/
def mapP (l : List Seg) (pre : List (Ix l)) : List UInt8 := joinS (pre.map fun x => placeT l x.1)
theorem mapP_snoc (l : List Seg) (pre : List (Ix l)) (x : Ix l) : mapP l (pre ++ [x]) = (if pre = [] then [] else mapP l pre ++ [32]) ++ placeT l x.1 := by
  unfold mapP
  rw [List.map_append]
  show joinS (_ ++ [placeT l x.1]) = _
  rw [joinS_snoc]
  by_cases h : pre = []
  · rw [if_pos h, if_pos (by rw [h]; rfl)]
  · rw [if_neg h, if_neg (fun e => h (List.map_eq_nil_iff.1 e))]
theorem mapP_len {l : List Seg} (hv : validB l = true) (pre : List (Ix l)) : (mapP l pre).length ≤ pre.length * 43 := by
  have := joinS_len 42 (pre.map fun x => placeT l x.1) (fun y hy => by
    obtain ⟨x, _, rfl⟩ := List.mem_map.1 hy
    exact placeT_len hv x.2)
  rw [List.length_map] at this
  exact this
theorem mapP_pos {l : List Seg} {pre : List (Ix l)} : 0 < (mapP l pre).length ↔ pre ≠ [] := by
  unfold mapP
  cases pre with
  | nil => simp [joinS]
  | cons x r =>
    rw [List.map_cons, joinS, List.length_append]
    have := placeT_ne l x.1
    have h2 : 0 < (placeT l x.1).length := List.length_pos_iff.2 this
    simp
    omega
theorem mapP_all {l : List Seg} {ys : List (Ix l)} (h : ys.map (·.1) = List.range (shown l)) : txt12 (mapP l ys) = mapRes l ∧ decide (0 < (mapP l ys).length) = validB l := by
  have h1 : mapP l ys = mapT l (shown l) := by
    unfold mapP mapT
    rw [← h, List.map_map]
    rfl
  have hl : ys.length = shown l := by
    have := congrArg List.length h
    simpa using this
  by_cases hv : validB l = true
  · have hs : shown l = l.length := if_pos hv
    have h0 := (valid_all hv).2.2
    refine ⟨?_, ?_⟩
    · unfold mapRes
      rw [if_pos hv, h1, hs]
    · rw [hv]
      refine decide_eq_true (mapP_pos.2 ?_)
      intro e
      rw [e] at hl
      simp at hl
      omega
  · have hs : shown l = 0 := if_neg hv
    have h3 : ys = [] := List.eq_nil_of_length_eq_zero (by omega)
    refine ⟨?_, ?_⟩
    · unfold mapRes
      rw [if_neg hv, h3]
      rfl
    · rw [show validB l = false by simpa using hv, h3]
      rfl

set_option maxRecDepth 100000 in
set_option maxHeartbeats 4000000 in
theorem mapOf_any (A : Option Addr) (l : List Seg) (c : Nat) (w : World) (hw : Segs w w.heap.size A l) (hp : Pow12 w) (hl : l.length ≤ 1048576) (hlc : l.length ≤ c) (hcm : c ≤ 9223372036854775807) (hn : Short l) :
    Calls Tryd.prog 24 #[.slice A l.length c] w fun e w' => e = .returned (.tuple #[.string (mapRes l), .bool (validB l)]) ∧ Below w.heap.size w w' := by
  have HW : Hid (Segs w w.heap.size A l) := hw
  have HP := Lib.hid hp
  clear hw hp
  refine (callsIn_wide (n := 20)).1 ?_
  refine callsIn_of_wp_marks Tryd.func24 rfl trivial ?_ rfl
  simp only [Tryd.ntmps24, List.size_toArray, List.length_cons, List.length_nil, Nat.reduceAdd, Nat.reduceSub, Array.replicate_succ, Array.replicate_zero, List.push_toArray, List.append_toArray, List.nil_append, List.cons_append]
  gi_wp2_with fail
  have hT0 : Bld12 w.heap.size w (txt12 (mapP l [])) (w.alloc (.cells #[.pointer none, .slice none 0 0] 56)) := Bld12.fresh w
  have hB0 := hT0.2
  have hz0 : (w.alloc (.cells #[.pointer none, .slice none 0 0] 56)).heap.size = w.heap.size + 1 := by simp
  generalize w.alloc (.cells #[.pointer none, .slice none 0 0] 56) = W0 at *
  refine ⟨trivial, ?_⟩
  gi_at_call 49
  refine (callsIn_wide.2 (nodesOf_either _ _ _ _ ((HW.out.below hB0).more hB0.size) hl hlc hcm hn)).mono ?_
  rintro e w1 ⟨a1, n1, c1, rfl, hb1, hit⟩
  have HIT := Lib.hid hit
  clear hit
  gi_wp2_with fail
  refine ⟨trivial, ?_⟩
  gi_at_call 79
  refine (callsIn_wide.2 (placesOf_any _ _ _ _)).mono ?_
  rintro e w2 ⟨rfl, rfl⟩
  have hseq := HIT.out (w1.alloc (.cells #[.slice a1 n1 c1] 52)) w1.heap.size w.heap.size ((Below.refl _ w1).alloc (Nat.le_refl _) _) (Row.new _ _ _) (by omega)
  have hz1 := hb1.size
  have hT1 := (hT0.on hb1).on ((Below.refl _ w1).alloc (Nat.le_refl _) (.cells #[.slice a1 n1 c1] 52))
  have hz2 : (w1.alloc (.cells #[.slice a1 n1 c1] 52)).heap.size = w1.heap.size + 1 := by simp
  clear HIT hb1 hT0 hB0
  gi_wp2
  generalize w1.alloc (.cells #[.slice a1 n1 c1] 52) = W2 at *
  refine wpIn_rangeFunc_ownH rfl (by omega) (gf := 107) (lb := #[.pointer (some ⟨w1.heap.size, 0, none⟩)]) rfl trivial (enters_of Tryd.func107 (by kernel_rfl) rfl) hseq
    (fun h k => h.trans k) (fun W l o o' hl _ _ _ => Kept.put W o' hl) (Below.refl _ _) (fun _ => rfl)
    (fun pre W => Bld12 w.heap.size w (txt12 (mapP l pre)) W) (fun _ _ _ => False)
    (fun _ _ _ _ h hg hr => h.grown hg (by omega) hr) (fun _ _ _ _ _ hs _ _ => hs) hT1
    (fun x a' W => ∃ p, Row W p 84 #[.int .i64 (begAt l x.1), .int .i64 (endAt l x.1)] ∧ p ≠ w.heap.size ∧ a' = { tmps := #[.slice A l.length c, undef, .string ⟨#[]⟩, .bool false, .pointer (some ⟨w.heap.size, 0, none⟩), .string (l[x.1]'x.2).name, .pointer (some ⟨p, 0, none⟩), .slice A l.length c, .slice a1 n1 c1, .func (.func 107) #[] #[.pointer (some ⟨w1.heap.size, 0, none⟩)], .string (l[x.1]'x.2).name, .agg #[.int .i64 (begAt l x.1), .int .i64 (endAt l x.1)], undef, undef, undef, undef, undef, undef, undef, undef, undef, undef], defers := [] })
    (fun x a' _ _ _ _ ⟨p, h1, h2, h3⟩ hg hr => ⟨p, row_grown h1 hg hr, h2, h3⟩) ?assign ?body ?done ?stop
  case assign =>
    intro l2 pre x W K hI hK
    unfold placeArgs
    have hW := hI.2.size
    have hbw := isB_ltW hI.1
    have hI2 := hI.on ((Below.refl _ W).alloc (Nat.le_refl _) (.cells #[.int .i64 (begAt l x.1), .int .i64 (endAt l x.1)] 84))
    gi_wp2
    exact hK _ _ (from_below ((Below.refl _ W).alloc (Nat.le_refl _) _)) (Kept.of_below ((Below.refl _ W).alloc (Nat.le_refl _) _)) hI2 ⟨W.heap.size, Row.new _ _ _, by omega, rfl⟩
  case body =>
    rintro l2 pre x a' W hl2 - hI ⟨p, hp, hpne, rfl⟩ hlen
    have hv := shown_valid hlen
    obtain ⟨cb, hcb⟩ := builder_cells hI.1
    have HCB := Lib.hid hcb
    have HI := Lib.hid hI
    have HR := Lib.hid hp
    have hml := mapP_len hv pre
    have hsh := shown_le (l := l)
    obtain ⟨n1', n2', n3'⟩ := place_small hv x.2
    have hnm : (l[x.1]'x.2).name.size = 1 := by
      have := nameB_len hv x.2
      unfold nameB at this
      rw [List.getElem?_eq_getElem x.2] at this
      exact this
    have hnb : txt12 (nameB l x.1) = (l[x.1]'x.2).name := by
      unfold nameB
      rw [List.getElem?_eq_getElem x.2]
      rfl
    have HSN := Lib.hid (mapP_snoc l pre x)
    have HPL : Hid (txt12 (placeT l x.1) = (l[x.1]'x.2).name ++ txt12 (Lib.itoa (begAt l x.1) ++ 45 :: Lib.itoa (endAt l x.1 - 1))) := by
      show _ = _
      rw [← hnb, txt12_app]
      unfold placeT
      rw [List.append_assoc]
    have hLen := Tryd.Builder_Len_f _ _ _ _ hI.1
    rw [cells_size12, txt12_size] at hLen
    have HL := Lib.hid hLen
    have hpos := mapP_pos (l := l) (pre := pre)
    have hbs : (txt12 (mapP l pre)).size ≤ 1000 := by rw [txt12_size]; omega
    have HSW := Lib.hid (fun y W (h : Bld12 w.heap.size w y W) (hy : y.size ≤ 90000000) => spanWrite_any w.heap.size w (begAt l x.1) (endAt l x.1) y W h HP.out hy n1' (by omega) (by omega) (by omega))
    clear hI hp hcb hLen hnb
    generalize (l[x.1]'x.2).name = nm at *
    generalize begAt l x.1 = p1 at *
    generalize endAt l x.1 = p2 at *
    gi_wp2_with fail
    refine ⟨trivial, ?_⟩
    gi_at_call 80
    refine (CallsIn.inRound l2 (callsIn_wide.2 HL.out)).mono ?_
    rintro e W3 ⟨rfl, rfl⟩
    by_cases h0 : pre = []
    · have hz : ¬ (0 : Int) < ((mapP l pre).length : Int) := fun e => (hpos.1 (by omega)) h0
      have HN : Hid (txt12 (mapP l (pre ++ [x])) = txt12 (mapP l pre) ++ nm ++ txt12 (Lib.itoa p1 ++ 45 :: Lib.itoa (p2 - 1))) := by
        show _ = _
        rw [HSN.out, if_pos h0, List.nil_append, HPL.out]
        have e0 : txt12 (mapP l pre) = ⟨#[]⟩ := by rw [h0]; rfl
        rw [e0, nil_app12]
      have hs1 : (txt12 (mapP l pre) ++ nm).size ≤ 90000000 := by rw [ByteArray.size_append]; omega
      clear hpos h0 HSN HPL
      gi_wp2_with fail
      refine ⟨trivial, ?_⟩
      gi_at_call 82
      refine (CallsIn.inRound l2 (callsIn_wide.2 (putStr12 w.heap.size w _ nm _ HI.out (by omega) (by omega)))).mono ?_
      rintro e W4 ⟨rfl, HJ4⟩
      have HR4 := Lib.hid (kept_rowW HJ4.out.2.2 HR.out hpne (by decide))
      have c0 : W4.cell? ⟨p, 0, none⟩ = some (.int .i64 p1) := HR4.out.cell 0
      have c1 : W4.cell? ⟨p, 1, none⟩ = some (.int .i64 p2) := HR4.out.cell 1
      gi_wp2_with fail
      refine ⟨trivial, ?_⟩
      gi_at_call 83
      refine (CallsIn.inRound l2 (callsIn_wide.2 (HSW.out _ W4 HJ4.out.1 hs1))).mono ?_
      rintro e W5 ⟨rfl, HJ5⟩
      have HJ := Lib.hid (HJ4.out.trans HJ5.out)
      rw [← HN.out] at HJ
      clear HJ4 HJ5 HR4 c0 c1
      gi_wp2
      exact ⟨kept_from HJ.out.2.2 HJ.out.2.1 HCB.out, kept_others HJ.out.2.2, HJ.out.1⟩
    · have hz : (0 : Int) < ((mapP l pre).length : Int) := by have := hpos.2 h0; omega
      have HN : Hid (txt12 (mapP l (pre ++ [x])) = txt12 (mapP l pre) ++ ⟨#[32]⟩ ++ nm ++ txt12 (Lib.itoa p1 ++ 45 :: Lib.itoa (p2 - 1))) := by
        show _ = _ ++ txt12 [32] ++ _ ++ _
        rw [HSN.out, if_neg h0, ← txt12_app, HPL.out, ← txt12_app]
        simp only [ByteArray.append_assoc]
      have hs0 : (txt12 (mapP l pre) ++ (⟨#[32]⟩ : ByteArray)).size ≤ 80000000 := by rw [ByteArray.size_append, one12]; omega
      have hs1 : (txt12 (mapP l pre) ++ (⟨#[32]⟩ : ByteArray) ++ nm).size ≤ 90000000 := by rw [ByteArray.size_append]; omega
      clear hpos h0 HSN HPL
      gi_wp2_with fail
      refine ⟨trivial, ?_⟩
      gi_at_call 81
      refine (CallsIn.inRound l2 (callsIn_wide.2 (putByte12 w.heap.size w _ 32 _ (by decide) _ HI.out (by omega)))).mono ?_
      rintro e W3 ⟨rfl, HJ3⟩
      have HR3 := Lib.hid (kept_rowW HJ3.out.2.2 HR.out hpne (by decide))
      gi_wp2_with fail
      refine ⟨trivial, ?_⟩
      gi_at_call 82
      refine (CallsIn.inRound l2 (callsIn_wide.2 (putStr12 w.heap.size w _ nm _ HJ3.out.1 (by omega) (by omega)))).mono ?_
      rintro e W4 ⟨rfl, HI4⟩
      have HR4 := Lib.hid (kept_rowW HI4.out.2.2 HR3.out hpne (by decide))
      have HJ4 := Lib.hid (HJ3.out.trans HI4.out)
      have c0 : W4.cell? ⟨p, 0, none⟩ = some (.int .i64 p1) := HR4.out.cell 0
      have c1 : W4.cell? ⟨p, 1, none⟩ = some (.int .i64 p2) := HR4.out.cell 1
      clear HJ3 HI4 HR3
      gi_wp2_with fail
      refine ⟨trivial, ?_⟩
      gi_at_call 83
      refine (CallsIn.inRound l2 (callsIn_wide.2 (HSW.out _ W4 HJ4.out.1 hs1))).mono ?_
      rintro e W5 ⟨rfl, HJ5⟩
      have HJ := Lib.hid (HJ4.out.trans HJ5.out)
      rw [← HN.out] at HJ
      clear HJ4 HJ5 HR4 c0 c1
      gi_wp2
      exact ⟨kept_from HJ.out.2.2 HJ.out.2.1 HCB.out, kept_others HJ.out.2.2, HJ.out.1⟩
  case done =>
    rintro D ys W hD hS hI hK
    have HA := Lib.hid (mapP_all hS)
    have hbw := isB_ltW hI.1
    have HI := Lib.hid hI
    have HK : Hid (W.heap[D]? = some (.deferred (some []))) := hK
    have HE : Hid ((⟨(txt12 (mapP l ys)).data.toList.toArray⟩ : ByteArray) = mapRes l) := HA.out.1
    clear hI hK
    gi_wp2_with fail
    refine ⟨trivial, ?_⟩
    gi_at_call 51
    refine (callsIn_wide.2 (Tryd.Builder_String_any_k w.heap.size w.heap.size _ _ HI.out.1 HI.out.2.size)).mono ?_
    rintro e W1 ⟨rfl, hI1, hb1, hk1⟩
    have hK1 : W1.heap[D]? = some (.deferred (some [])) := hk1 D _ HK.out (fun he => by cases he; omega) (fun c fz he => by cases he)
    have hLen := Tryd.Builder_Len_f _ _ _ _ hI1
    rw [cells_size12, txt12_size] at hLen
    have HL := Lib.hid hLen
    have HB1 := Lib.hid hb1
    have HK1 : Hid (W1.heap[D]? = some (.deferred (some []))) := hK1
    clear hLen hI1 hk1 hb1 hK1
    gi_wp2_with fail
    refine ⟨trivial, ?_⟩
    gi_at_call 80
    refine (callsIn_wide.2 HL.out).mono ?_
    rintro e W3 ⟨rfl, rfl⟩
    gi_wp2
    refine ⟨by simp, .inl ⟨_, _, rfl, run_takeDeferred HK1.out, ?_⟩⟩
    refine ⟨_, results_tmp2 (t := 2) (u := 3) rfl _ _ _, ret_two HE.out ?_, (HI.out.2.trans HB1.out).trans (belowK_b (w := w) (Nat.le_refl _) W3 D _ _ (by omega) HK1.out rfl rfl)⟩
    rw [← HA.out.2]
  case stop =>
    rintro D c pre W _ _ h _
    exact h.elim

end Go.Proofs.YtdbddockmdkmeaaDoor
/- The law FnRoom: a tree takes as much as its longest path, and children lie behind their parent. -/
namespace Go.Proofs.YtdbddockmdkmeaaDoor
open Go.RowKit

set_option maxRecDepth 100000 in
set_option maxHeartbeats 4000000 in
theorem roomLaw_any (hgood : GoodSaid) (A0 : Option Addr) (n c0 : Nat) (w : World) (hn : n ≤ c0) (hm : n ≤ maxLen) (hx : ∀ b, w.heap.size ≤ b → Bytes w b A0 n) (hp : Pow12 w) :
    Calls Tryd.prog 4 #[.slice A0 n c0] w fun e w' => e = .returned (.bool true) ∧ Below w.heap.size w w' := by
  unfold maxLen at hm
  have HP := Lib.hid hp
  clear hp
  by_cases hbig : 1048576 < n
  · clear hx hgood
    go_enter Tryd.func4, Tryd.ntmps4
    go_wp2
    go_ret
    exact ⟨rfl, Below.refl _ _⟩
  have HD := Lib.hid (drawRoomOf_plain hgood A0 n c0 w hn hx)
  clear hx hgood
  go_enter Tryd.func4, Tryd.ntmps4
  go_wp2_with fail
  refine Calls.mono HD.out ?_
  unfold TreeDrawn2
  rintro e w1 ⟨A, l, c, rfl, ⟨hS, ⟨hl9, hlc, hcm⟩, hsh⟩, hb1⟩
  have hl : l.length ≤ 1048576 := by omega
  have HSH := Lib.hid (fun s hs => Nat.le_trans (hsh s hs) (by decide) : Short l)
  have HS1 : Hid (Segs w1 w1.heap.size A l) := hS
  have HB1 : Hid (Below w.heap.size w w1) := hb1
  have C1 : Hid (Gives 20 A l #[.slice A l.length c] (.int .i64 (roomB l))) := fun w h => roomOf_any A l c w h hl hlc hcm HSH.out
  have C2 : Hid (Gives 21 A l #[.slice A l.length c] (.int .i64 (savedB l))) := fun w h => savedRoom_any A l c w h hl hlc hcm HSH.out
  have C3 : Hid (Gives 22 A l #[.slice A l.length c] (.tuple #[.string (longStr l), .bool (validB l)])) := fun w h => longestPath_any A l c w h hl hlc hcm HSH.out
  have C4 : Hid (Gives 23 A l #[.slice A l.length c] (.tuple #[.string (longStr l), .bool (validB l)])) := fun w h => specLong_any A l c w h hl HSH.out
  have C5 : Hid (∀ W, Segs W W.heap.size A l → Below w.heap.size w W → Calls Tryd.prog 24 #[.slice A l.length c] W fun e w' => e = .returned (.tuple #[.string (mapRes l), .bool (validB l)]) ∧ Below W.heap.size W w') := fun W h hb => mapOf_any A l c W h (HP.out.below hb) hl hlc hcm HSH.out
  have C6 : Hid (Gives 25 A l #[.slice A l.length c] (.tuple #[.string (mapRes l), .bool (validB l)])) := fun w h => specMapOf_any A l c w h hl HSH.out
  have C7 : Hid (Gives 26 A l #[.slice A l.length c] (.int .i64 (roomB l))) := fun w h => specRoom_any A l c w h hl HSH.out
  have C8 : Hid (Gives 27 A l #[.slice A l.length c] (.int .i64 (savedB l))) := fun w h => specSaved_any A l c w h hl HSH.out
  have C9 : Hid (Gives 14 A l #[.slice A l.length c] (.bool (validB l))) := fun w h => treeValid_any A l c w h hl hlc hcm HSH.out
  have CT : Hid (Gives 33 A l #[.slice A l.length c] (.int .i64 (totalB l))) := fun w h => totalSize_any A l c w h hl hlc hcm HSH.out
  have CN : Hid (Gives 29 A l #[.slice A l.length c] (.tuple #[.string (namesStr l), .bool (validB l)])) := fun w h => namesOf_any A l c w h hl hlc hcm HSH.out
  have CS : Hid (∀ s, Gives 28 A l #[.slice A l.length c, .string s] (.int .i64 (sizeB l s))) := fun s w h => sizeOf_any A l c s w h hl hlc hcm HSH.out
  have CK : Hid (∀ s, Gives 30 A l #[.slice A l.length c, .string s] (.tuple #[.string (kidsStr l s), .bool (hasSeg l s)])) := fun s w h => childrenOf_any A l c s w h hl hlc hcm HSH.out
  have CA : Hid (∀ s, Gives 31 A l #[.slice A l.length c, .string s] (.int .i64 (addrB l s))) := fun s w h => addressOf_any A l c s w h hl hlc hcm HSH.out
  have CE : Hid (∀ s, Gives 32 A l #[.slice A l.length c, .string s] (.int .i64 (endB l s))) := fun s w h => endOf_any A l c s w h hl hlc hcm HSH.out
  clear hS hb1 HD hsh
  cases hok : validB l with
  | false =>
    rw [hok] at C3 C4 C5 C6 C9
    have hr : roomB l = -1 := if_neg (by rw [hok]; decide)
    rw [hr] at C1 C7
    clear CT CN CS CK CA CE hok hr
    generalize longStr l = pst at *
    generalize mapRes l = mst at *
    generalize savedB l = sb at *
    go_wp2_with fail
    refine (C1.out _ HS1.out).mono ?_
    rintro e w2 ⟨rfl, hb⟩
    have HS2 : Hid (Segs w2 w2.heap.size A l) := (HS1.out.below hb).more hb.size
    have HB2 : Hid (Below w.heap.size w w2) := HB1.out.trans (hb.mono HB1.out.size)
    clear hb HS1 HB1
    go_wp2_with fail
    refine (C2.out _ HS2.out).mono ?_
    rintro e w3 ⟨rfl, hb⟩
    have HS3 : Hid (Segs w3 w3.heap.size A l) := (HS2.out.below hb).more hb.size
    have HB3 : Hid (Below w.heap.size w w3) := HB2.out.trans (hb.mono HB2.out.size)
    clear hb HS2 HB2
    go_wp2_with fail
    refine (C3.out _ HS3.out).mono ?_
    rintro e w4 ⟨rfl, hb⟩
    have HS4 : Hid (Segs w4 w4.heap.size A l) := (HS3.out.below hb).more hb.size
    have HB4 : Hid (Below w.heap.size w w4) := HB3.out.trans (hb.mono HB3.out.size)
    clear hb HS3 HB3
    go_wp2_with fail
    refine (C4.out _ HS4.out).mono ?_
    rintro e w5 ⟨rfl, hb⟩
    have HS5 : Hid (Segs w5 w5.heap.size A l) := (HS4.out.below hb).more hb.size
    have HB5 : Hid (Below w.heap.size w w5) := HB4.out.trans (hb.mono HB4.out.size)
    clear hb HS4 HB4
    go_wp2_with fail
    refine (C5.out _ HS5.out HB5.out).mono ?_
    rintro e w6 ⟨rfl, hb⟩
    have HS6 : Hid (Segs w6 w6.heap.size A l) := (HS5.out.below hb).more hb.size
    have HB6 : Hid (Below w.heap.size w w6) := HB5.out.trans (hb.mono HB5.out.size)
    clear hb HS5 HB5
    go_wp2_with fail
    refine (C6.out _ HS6.out).mono ?_
    rintro e w7 ⟨rfl, hb⟩
    have HS7 : Hid (Segs w7 w7.heap.size A l) := (HS6.out.below hb).more hb.size
    have HB7 : Hid (Below w.heap.size w w7) := HB6.out.trans (hb.mono HB6.out.size)
    clear hb HS6 HB6
    go_wp2_with fail
    refine (C7.out _ HS7.out).mono ?_
    rintro e w8 ⟨rfl, hb⟩
    have HS8 : Hid (Segs w8 w8.heap.size A l) := (HS7.out.below hb).more hb.size
    have HB8 : Hid (Below w.heap.size w w8) := HB7.out.trans (hb.mono HB7.out.size)
    clear hb HS7 HB7
    go_wp2_with fail
    refine (C8.out _ HS8.out).mono ?_
    rintro e w9 ⟨rfl, hb⟩
    have HS9 : Hid (Segs w9 w9.heap.size A l) := (HS8.out.below hb).more hb.size
    have HB9 : Hid (Below w.heap.size w w9) := HB8.out.trans (hb.mono HB8.out.size)
    clear hb HS8 HB8
    go_wp2_with fail
    refine (C9.out _ HS9.out).mono ?_
    rintro e w10 ⟨rfl, hb⟩
    have HS10 : Hid (Segs w10 w10.heap.size A l) := (HS9.out.below hb).more hb.size
    have HB10 : Hid (Below w.heap.size w w10) := HB9.out.trans (hb.mono HB9.out.size)
    clear hb HS9 HB9
    go_wp2_with fail
    refine (C7.out _ HS10.out).mono ?_
    rintro e w11 ⟨rfl, hb⟩
    have HS11 : Hid (Segs w11 w11.heap.size A l) := (HS10.out.below hb).more hb.size
    have HB11 : Hid (Below w.heap.size w w11) := HB10.out.trans (hb.mono HB10.out.size)
    clear hb HS10 HB10
    go_wp2_with fail
    refine (C8.out _ HS11.out).mono ?_
    rintro e w12 ⟨rfl, hb⟩
    have HS12 : Hid (Segs w12 w12.heap.size A l) := (HS11.out.below hb).more hb.size
    have HB12 : Hid (Below w.heap.size w w12) := HB11.out.trans (hb.mono HB11.out.size)
    clear hb HS11 HB11
    go_wp2_with fail
    refine (C9.out _ HS12.out).mono ?_
    rintro e w13 ⟨rfl, hb⟩
    have HS13 : Hid (Segs w13 w13.heap.size A l) := (HS12.out.below hb).more hb.size
    have HB13 : Hid (Below w.heap.size w w13) := HB12.out.trans (hb.mono HB12.out.size)
    clear hb HS12 HB12
    go_wp2
    go_ret
    exact ⟨rfl, HB13.out⟩
  | true =>
    rw [hok] at C3 C4 C5 C6 C9 CN
    have HZ : Hid (∀ k, k < (longStr l).size → ∃ z, sumP l (k + 1) = sumP l k + z ∧ (0 ≤ z ∧ z ≤ 99) ∧ Gives 28 A l #[.slice A l.length c, .string ((longStr l).extract k (k + 1))] (.int .i64 z)) := by
      show ∀ k, _
      intro k hk
      obtain ⟨z, h1, h2, h3⟩ := long_step hok hk
      exact ⟨z, h1, h2, by rw [← h3]; exact CS.out _⟩
    have HSM : Hid (∀ k, k ≤ (longStr l).size → 0 ≤ sumP l k ∧ sumP l k ≤ 1000) := fun k hk => by
      have h1 := sumP_bd hok k hk
      have h2 := long_eight hok
      omega
    have HSE := Lib.hid (long_all hok)
    have hs0 := sumP_zero l
    have hpz : (longStr l).size ≤ 100 := by have := long_eight hok; omega
    have hnz : (namesStr l).size ≤ 100 := by rw [names_size hok]; omega
    have HN : Hid (∀ i, i < (namesStr l).size → ∃ (kst : ByteArray) (b e z : Int), kst.size ≤ 8 ∧ 0 ≤ b ∧ b < e ∧ e ≤ 792 ∧ e = b + z ∧ e ≤ roomB l ∧
        Gives 30 A l #[.slice A l.length c, .string ((namesStr l).extract i (i + 1))] (.tuple #[.string kst, .bool true]) ∧
        Gives 31 A l #[.slice A l.length c, .string ((namesStr l).extract i (i + 1))] (.int .i64 b) ∧
        Gives 32 A l #[.slice A l.length c, .string ((namesStr l).extract i (i + 1))] (.int .i64 e) ∧
        Gives 28 A l #[.slice A l.length c, .string ((namesStr l).extract i (i + 1))] (.int .i64 z) ∧
        ∀ k, k < kst.size → Gives 31 A l #[.slice A l.length c, .string (kst.extract k (k + 1))] (.int .i64 e)) := by
      show ∀ i, _
      intro i hi
      obtain ⟨k1, k2, k3, k4, k5, k6, k7, k8, k9, ka, kb⟩ := name_said hok hi
      refine ⟨kidsStr l ((namesStr l).extract i (i + 1)), begAt l i, endAt l i, sizeAt l i, k1, k7, k8, k9, ka, kb, ?_, ?_, ?_, ?_, fun k hk => ?_⟩
      · have := CK.out ((namesStr l).extract i (i + 1)); rw [k2] at this; exact this
      · rw [← k3]; exact CA.out _
      · rw [← k4]; exact CE.out _
      · rw [← k5]; exact CS.out _
      · rw [← k6 k hk]; exact CA.out _
    obtain ⟨s1, s2, s3, s4, s5⟩ := saved_said hok
    clear CS CK CA CE hok
    generalize longStr l = pst at *
    generalize mapRes l = mst at *
    generalize savedB l = sb at *
    generalize roomB l = rm at *
    generalize totalB l = tb at *
    generalize namesStr l = nst at *
    generalize sumP l = S at *
    go_wp2_with fail
    refine (C1.out _ HS1.out).mono ?_
    rintro e w2 ⟨rfl, hb⟩
    have HS2 : Hid (Segs w2 w2.heap.size A l) := (HS1.out.below hb).more hb.size
    have HB2 : Hid (Below w.heap.size w w2) := HB1.out.trans (hb.mono HB1.out.size)
    clear hb HS1 HB1
    go_wp2_with fail
    refine (C2.out _ HS2.out).mono ?_
    rintro e w3 ⟨rfl, hb⟩
    have HS3 : Hid (Segs w3 w3.heap.size A l) := (HS2.out.below hb).more hb.size
    have HB3 : Hid (Below w.heap.size w w3) := HB2.out.trans (hb.mono HB2.out.size)
    clear hb HS2 HB2
    go_wp2_with fail
    refine (C3.out _ HS3.out).mono ?_
    rintro e w4 ⟨rfl, hb⟩
    have HS4 : Hid (Segs w4 w4.heap.size A l) := (HS3.out.below hb).more hb.size
    have HB4 : Hid (Below w.heap.size w w4) := HB3.out.trans (hb.mono HB3.out.size)
    clear hb HS3 HB3
    go_wp2_with fail
    refine (C4.out _ HS4.out).mono ?_
    rintro e w5 ⟨rfl, hb⟩
    have HS5 : Hid (Segs w5 w5.heap.size A l) := (HS4.out.below hb).more hb.size
    have HB5 : Hid (Below w.heap.size w w5) := HB4.out.trans (hb.mono HB4.out.size)
    clear hb HS4 HB4
    go_wp2_with fail
    refine (C5.out _ HS5.out HB5.out).mono ?_
    rintro e w6 ⟨rfl, hb⟩
    have HS6 : Hid (Segs w6 w6.heap.size A l) := (HS5.out.below hb).more hb.size
    have HB6 : Hid (Below w.heap.size w w6) := HB5.out.trans (hb.mono HB5.out.size)
    clear hb HS5 HB5
    go_wp2_with fail
    refine (C6.out _ HS6.out).mono ?_
    rintro e w7 ⟨rfl, hb⟩
    have HS7 : Hid (Segs w7 w7.heap.size A l) := (HS6.out.below hb).more hb.size
    have HB7 : Hid (Below w.heap.size w w7) := HB6.out.trans (hb.mono HB6.out.size)
    clear hb HS6 HB6
    go_wp2_with fail
    refine (C7.out _ HS7.out).mono ?_
    rintro e w8 ⟨rfl, hb⟩
    have HS8 : Hid (Segs w8 w8.heap.size A l) := (HS7.out.below hb).more hb.size
    have HB8 : Hid (Below w.heap.size w w8) := HB7.out.trans (hb.mono HB7.out.size)
    clear hb HS7 HB7
    go_wp2_with fail
    refine (C8.out _ HS8.out).mono ?_
    rintro e w9 ⟨rfl, hb⟩
    have HS9 : Hid (Segs w9 w9.heap.size A l) := (HS8.out.below hb).more hb.size
    have HB9 : Hid (Below w.heap.size w w9) := HB8.out.trans (hb.mono HB8.out.size)
    clear hb HS8 HB8
    go_wp2_with fail
    refine (C9.out _ HS9.out).mono ?_
    rintro e w10 ⟨rfl, hb⟩
    have HS10 : Hid (Segs w10 w10.heap.size A l) := (HS9.out.below hb).more hb.size
    have HB10 : Hid (Below w.heap.size w w10) := HB9.out.trans (hb.mono HB9.out.size)
    clear hb HS9 HB9
    clear C1 C2 C3 C4 C5 C6 C7 C8 C9
    go_wp2
    go_loopw [14, 134] (fun v i wr => ∃ k : Nat, k ≤ pst.size ∧ i = .int .i64 k ∧ v = .int .i64 (S k) ∧ Hid (Segs wr wr.heap.size A l) ∧ Hid (Below w.heap.size w wr))
      (fun _ i _ => pst.size - (intOf i).toNat)
    case atStart => exact ⟨0, Nat.zero_le _, rfl, by rw [hs0], HS10, HB10⟩
    case round =>
      obtain ⟨k, hk, rfl, rfl, HSr, HBr⟩ := hrel
      clear HS10 HB10
      by_cases hlt : k < pst.size
      · have hlt' : (k : Int) < (pst.size : Int) := by omega
        have hk0 : (0 : Int) ≤ (k : Int) := Int.natCast_nonneg _
        obtain ⟨z, hz1, hz2, HZk⟩ := HZ.out k hlt
        have HP2 := Lib.hid HZk
        have hsm1 := HSM.out k hk
        have hsm2 := HSM.out (k + 1) hlt
        have hq : ((k : Int) + 1).toNat = k + 1 := by omega
        have hw64 : wrap64 (S k + z) = S (k + 1) := by rw [← hz1]; exact IntWalk.wrap64_in _ ⟨by omega, by omega⟩
        clear HN HZ HSM HZk CN CT
        have HZ1 := Lib.hid hz1
        clear hz1
        go_wp2_with fail
        refine (HP2.out _ HSr.out).mono ?_
        rintro e w2 ⟨rfl, hb⟩
        have HS2 : Hid (Segs w2 w2.heap.size A l) := (HSr.out.below hb).more hb.size
        have HB2 : Hid (Below w.heap.size w w2) := HBr.out.trans (hb.mono HBr.out.size)
        clear hb
        go_wp2
        go_roundw
        case rel => exact ⟨k + 1, hlt, by go_num, congrArg (Value.int .i64) (by have := HZ1.out; omega), HS2, HB2⟩
        case measure => simp [intOf]; omega
      · obtain rfl : k = pst.size := by omega
        rw [HSE.out]
        clear HZ HSM
        go_wp2_with fail
        refine (CN.out _ HSr.out).mono ?_
        rintro e w2 ⟨rfl, hb⟩
        have HS2 : Hid (Segs w2 w2.heap.size A l) := (HSr.out.below hb).more hb.size
        have HB2 : Hid (Below w.heap.size w w2) := HBr.out.trans (hb.mono HBr.out.size)
        clear hb HSr HBr CN
        go_wp2
        go_loopw [154] (fun i wr => ∃ k : Nat, k ≤ nst.size ∧ i = .int .i64 k ∧ Hid (Segs wr wr.heap.size A l) ∧ Hid (Below w.heap.size w wr))
          (fun i _ => nst.size - (intOf i).toNat)
        case atStart => exact ⟨0, Nat.zero_le _, rfl, HS2, HB2⟩
        case round =>
          obtain ⟨k, hk, rfl, HSr, HBr⟩ := hrel
          clear HS2 HB2
          by_cases hlt : k < nst.size
          · have hlt' : (k : Int) < (nst.size : Int) := by omega
            have hk0 : (0 : Int) ≤ (k : Int) := Int.natCast_nonneg _
            have hq : ((k : Int) + 1).toNat = k + 1 := by omega
            obtain ⟨kst, b, e9, z, n1, n2, n3, n4, n5, n6, G1, G2, G3, G4, G5⟩ := HN.out k hlt
            have D1 := Lib.hid G1
            have D2 := Lib.hid G2
            have D3 := Lib.hid G3
            have D4 := Lib.hid G4
            have D5 := Lib.hid G5
            clear G1 G2 G3 G4 G5 HN CT HSE
            go_wp2_with fail
            refine (D1.out _ HSr.out).mono ?_
            rintro e w3 ⟨rfl, hb⟩
            generalize nst.extract k (k + 1) = nm at *
            have HS3 : Hid (Segs w3 w3.heap.size A l) := (HSr.out.below hb).more hb.size
            have HB3 : Hid (Below w.heap.size w w3) := HBr.out.trans (hb.mono HBr.out.size)
            clear hb HSr HBr D1
            go_wp2
            go_loopw [170] (fun i wr => ∃ m : Nat, m ≤ kst.size ∧ i = .int .i64 m ∧ Hid (Segs wr wr.heap.size A l) ∧ Hid (Below w.heap.size w wr))
              (fun i _ => kst.size - (intOf i).toNat)
            case atStart => exact ⟨0, Nat.zero_le _, rfl, HS3, HB3⟩
            case round =>
              obtain ⟨m, hm, rfl, HSq, HBq⟩ := hrel
              clear HS3 HB3
              by_cases hmt : m < kst.size
              · have hmt' : (m : Int) < (kst.size : Int) := by omega
                have hm0 : (0 : Int) ≤ (m : Int) := Int.natCast_nonneg _
                have hqm : ((m : Int) + 1).toNat = m + 1 := by omega
                have D6 := Lib.hid (D5.out m hmt)
                clear D5 D2 D4
                go_wp2_with fail
                refine (D6.out _ HSq.out).mono ?_
                rintro e w4 ⟨rfl, hb⟩
                generalize kst.extract m (m + 1) = km at *
                have HS4 : Hid (Segs w4 w4.heap.size A l) := (HSq.out.below hb).more hb.size
                have HB4 : Hid (Below w.heap.size w w4) := HBq.out.trans (hb.mono HBq.out.size)
                clear hb HSq HBq
                go_wp2_with fail
                refine (D3.out _ HS4.out).mono ?_
                rintro e w5 ⟨rfl, hb⟩
                have HS5 : Hid (Segs w5 w5.heap.size A l) := (HS4.out.below hb).more hb.size
                have HB5 : Hid (Below w.heap.size w w5) := HB4.out.trans (hb.mono HB4.out.size)
                clear hb HS4 HB4
                go_wp2
                go_roundw
                case rel => exact ⟨m + 1, hmt, by go_num, HS5, HB5⟩
                case measure => simp [intOf]; omega
              · obtain rfl : m = kst.size := by omega
                obtain rfl : z = e9 - b := by omega
                have hw64 : wrap64 (e9 - b) = e9 - b := IntWalk.wrap64_in _ ⟨by omega, by omega⟩
                have hng : ¬ rm < e9 := by omega
                clear n5
                clear D5
                go_wp2_with fail
                refine (D3.out _ HSq.out).mono ?_
                rintro e w4 ⟨rfl, hb⟩
                have HS4 : Hid (Segs w4 w4.heap.size A l) := (HSq.out.below hb).more hb.size
                have HB4 : Hid (Below w.heap.size w w4) := HBq.out.trans (hb.mono HBq.out.size)
                clear hb HSq HBq
                go_wp2_with fail
                refine (D3.out _ HS4.out).mono ?_
                rintro e w5 ⟨rfl, hb⟩
                have HS5 : Hid (Segs w5 w5.heap.size A l) := (HS4.out.below hb).more hb.size
                have HB5 : Hid (Below w.heap.size w w5) := HB4.out.trans (hb.mono HB4.out.size)
                clear hb HS4 HB4
                go_wp2_with fail
                refine (D2.out _ HS5.out).mono ?_
                rintro e w6 ⟨rfl, hb⟩
                have HS6 : Hid (Segs w6 w6.heap.size A l) := (HS5.out.below hb).more hb.size
                have HB6 : Hid (Below w.heap.size w w6) := HB5.out.trans (hb.mono HB5.out.size)
                clear hb HS5 HB5
                go_wp2_with fail
                refine (D4.out _ HS6.out).mono ?_
                rintro e w7 ⟨rfl, hb⟩
                have HS7 : Hid (Segs w7 w7.heap.size A l) := (HS6.out.below hb).more hb.size
                have HB7 : Hid (Below w.heap.size w w7) := HB6.out.trans (hb.mono HB6.out.size)
                clear hb HS6 HB6
                go_wp2
                go_roundw
                case rel => exact ⟨k + 1, hlt, by go_num, HS7, HB7⟩
                case measure => simp [intOf]; omega
          · obtain rfl : k = nst.size := by omega
            have hge : (0 : Int) ≤ sb := s1
            have hw64 : wrap64 (rm + sb) = tb := by rw [s2]; exact IntWalk.wrap64_in _ ⟨by omega, by omega⟩
            clear HN
            go_wp2_with fail
            refine (CT.out _ HSr.out).mono ?_
            rintro e w3 ⟨rfl, hb⟩
            have HB3 : Hid (Below w.heap.size w w3) := HBr.out.trans (hb.mono HBr.out.size)
            clear hb HSr HBr
            go_wp2
            go_ret
            exact ⟨rfl, HB3.out⟩

end Go.Proofs.YtdbddockmdkmeaaDoor
