/- The program's MapOf. -/
import Derived.Test.YtdbddockmdkmeaaDoorQf
import Derived.Test.YtdbddockmdkmeaaDoorHb
import Derived.Test.YtdbddockmdkmeaaDoorMd
namespace Go.Proofs.YtdbddockmdkmeaaDoor
open Go.RowKit Go.Shelf
attribute [local go_sem] Oper.semAt_some

theorem Bld12.on {b : Nat} {w W W' : World} {y : ByteArray} (h : Bld12 b w y W) (hb : Below W.heap.size W W') : Bld12 b w y W' :=
  ⟨isB_keep h.1 (fun k _ ho _ => (hb.block k (Array.getElem?_eq_some_iff.1 ho).1).trans ho), h.2.trans (hb.mono h.2.size)⟩
theorem Bld12.grown {b : Nat} {w W W' : World} {y : ByteArray} {B : Nat} {row : Option Nat} (h : Bld12 b w y W) (hg : W.grownBy W' row) (hB : w.heap.size ≤ B) (hr : ∀ r, row = some r → B ≤ r ∧ ∃ o : Obj, W.heap[r]? = some o ∧ o.isCells = false) : Bld12 b w y W' :=
  ⟨isB_own _ _ _ _ B (fun _ : List Unit => Lib.byteCells y.data.toList) [] W W' row h.1 hg hr, h.2.grown hg h.2.size (fun k e => by have := (hr k e).1; omega)⟩
theorem others_below {W W' : World} {b : Nat} (hb : Below W.heap.size W W') : Lib.OthersKept 5 (some b) W W' := fun k _ ho _ _ => (hb.block k (Array.getElem?_eq_some_iff.1 ho).1).trans ho
/-- What a call that writes into the Builder in block 'b' has done. -/
def Put12 (b : Nat) (w : World) (y : ByteArray) (W W' : World) : Prop := Bld12 b w y W' ∧ Below w.heap.size W W' ∧ Lib.OthersKept 5 (some b) W W'
theorem putStr12 (b : Nat) (w : World) (y s : ByteArray) (W : World) (h : Bld12 b w y W) (hy : y.size ≤ 100000000) (hs : s.size ≤ 100000000) :
    Calls Tryd.prog 82 #[.pointer (some ⟨b, 0, none⟩), .string s] W fun e W' => e = .returned (.tuple #[.int .i64 s.size, .nilIface]) ∧ Hid (Put12 b w (y ++ s) W W') := by
  refine (writeString_any w.heap.size b _ s W h.1 (by rw [cells_size12]; omega) h.2.size).mono ?_
  rintro e W' ⟨rfl, hI, hb, hk⟩
  rw [cells_cat12] at hI
  exact ⟨rfl, ⟨hI, h.2.trans hb⟩, hb, hk⟩
theorem putByte12 (b : Nat) (w : World) (y : ByteArray) (c : UInt8) (n : Int) (hc : n = (c.toNat : Int)) (W : World) (h : Bld12 b w y W) (hy : y.size ≤ 100000000) :
    Calls Tryd.prog 81 #[.pointer (some ⟨b, 0, none⟩), .int .u8 n] W fun e W' => e = .returned .nilIface ∧ Hid (Put12 b w (y ++ ⟨#[c]⟩) W W') := by
  subst hc
  refine (writeByte_any w.heap.size b _ _ W h.1 (by rw [cells_size12]; omega) h.2.size).mono ?_
  rintro e W' ⟨rfl, hI, hb, hk⟩
  have e1 : ([.int .u8 (c.toNat : Int)] : List Value) = Lib.strCells ⟨#[c]⟩ := rfl
  rw [e1, cells_cat12] at hI
  exact ⟨rfl, ⟨hI, h.2.trans hb⟩, hb, hk⟩
theorem Put12.trans {b : Nat} {w W1 W2 W3 : World} {y z : ByteArray} (h : Put12 b w y W1 W2) (k : Put12 b w z W2 W3) : Put12 b w z W1 W3 := ⟨k.1, h.2.1.trans k.2.1, h.2.2.trans k.2.2⟩
theorem Put12.of_below {b : Nat} {w W W' : World} {y : ByteArray} (h : Bld12 b w y W) (hb : Below W.heap.size W W') : Put12 b w y W W' := ⟨h.on hb, hb.mono h.2.size, others_below hb⟩

set_option maxRecDepth 100000 in
set_option maxHeartbeats 1000000 in
theorem spanWrite_any (b : Nat) (w : World) (p1 p2 : Int) (y : ByteArray) (W : World) (h : Bld12 b w y W) (hp : Pow12 w) (hy : y.size ≤ 90000000) (h1 : 0 ≤ p1) (h2 : p1 ≤ 1000) (h3 : 1 ≤ p2) (h4 : p2 ≤ 1000) :
    Calls Tryd.prog 83 #[.agg #[.int .i64 p1, .int .i64 p2], .pointer (some ⟨b, 0, none⟩)] W fun e W' => e = .returned (.tuple #[]) ∧ Hid (Put12 b w (y ++ txt12 (Lib.itoa p1 ++ 45 :: Lib.itoa (p2 - 1))) W W') := by
  have hy1 := itoa_len p1 (by omega) (by omega)
  have hy2 := itoa_len (p2 - 1) (by omega) (by omega)
  have HZ : Hid (y ++ txt12 (Lib.itoa p1 ++ 45 :: Lib.itoa (p2 - 1)) = y ++ txt12 (Lib.itoa p1) ++ ⟨#[45]⟩ ++ txt12 (Lib.itoa (p2 - 1))) := by
    show _ = _ ++ txt12 [45] ++ _
    rw [ByteArray.append_assoc, ByteArray.append_assoc, txt12_app, txt12_app]
    rfl
  have hw64 : wrap64 (p2 - 1) = p2 - 1 := IntWalk.wrap64_in _ ⟨by omega, by omega⟩
  obtain ⟨p3, hp3⟩ : ∃ p, p2 - 1 = p := ⟨_, rfl⟩
  rw [hp3] at HZ hw64 hy2
  have HI1 := Lib.hid (Put12.of_below h ((Below.refl _ W).alloc (Nat.le_refl _) (.cells #[.int .i64 p1, .int .i64 p2] 84)))
  have HR1 : Hid (Row (W.alloc (.cells #[.int .i64 p1, .int .i64 p2] 84)) W.heap.size 84 #[.int .i64 p1, .int .i64 p2]) := Row.new W _ _
  have hbw := isB_ltW h.1
  have HQ1 := Lib.hid (fun W2 (hW : Below w.heap.size w W2) => itoa12_any p1 W2 (hp.below hW) (by omega) (by omega))
  have HQ2 := Lib.hid (fun W2 (hW : Below w.heap.size w W2) => itoa12_any p3 W2 (hp.below hW) (by omega) (by omega))
  obtain ⟨y1, HY1⟩ : ∃ q, Hid (q = txt12 (Lib.itoa p1)) := ⟨_, Lib.hid rfl⟩
  obtain ⟨y2, HY2⟩ : ∃ q, Hid (q = txt12 (Lib.itoa p3)) := ⟨_, Lib.hid rfl⟩
  have hs1 : y1.size ≤ 20 := by rw [HY1.out, txt12_size]; exact hy1
  have hs2 : y2.size ≤ 20 := by rw [HY2.out, txt12_size]; exact hy2
  have hs3 : (y ++ y1).size ≤ 95000000 := by rw [ByteArray.size_append]; omega
  have hs4 : (y ++ y1 ++ (⟨#[45]⟩ : ByteArray)).size ≤ 95000001 := by rw [ByteArray.size_append, one12]; omega
  rw [← HY1.out, ← HY2.out] at HZ
  rw [← HY1.out] at HQ1
  rw [← HY2.out] at HQ2
  clear h hp HY1 HY2 hy1 hy2 h1 h2 h3 h4
  go_enter Tryd.func83, Tryd.ntmps83
  go_wp2_with fail
  generalize W.alloc (.cells #[.int .i64 p1, .int .i64 p2] 84) = W1 at *
  have c0 : W1.cell? ⟨W.heap.size, 0, none⟩ = some (.int .i64 p1) := HR1.out.cell 0
  have c1 : W1.cell? ⟨W.heap.size, 1, none⟩ = some (.int .i64 p2) := HR1.out.cell 1
  have hne : W.heap.size ≠ b := by omega
  refine (HQ1.out W1 HI1.out.1.2).mono ?_
  rintro e W2 ⟨rfl, hb2⟩
  have HI2 := Lib.hid (HI1.out.trans (Put12.of_below HI1.out.1 hb2))
  have HR2 := Lib.hid (HR1.out.below hb2 HR1.out.lt)
  clear hb2 c0 c1 HI1 HR1
  go_wp2_with fail
  refine (putStr12 b w y y1 W2 HI2.out.1 (by omega) (by omega)).mono ?_
  rintro e W3 ⟨rfl, HI3⟩
  have HR3 := Lib.hid (kept_rowW HI3.out.2.2 HR2.out hne (by decide))
  have HJ3 := Lib.hid (HI2.out.trans HI3.out)
  clear HI2 HI3 HR2
  go_wp2_with fail
  refine (putByte12 b w _ 45 _ (by decide) W3 HJ3.out.1 (by omega)).mono ?_
  rintro e W4 ⟨rfl, HI4⟩
  have HR4 := Lib.hid (kept_rowW HI4.out.2.2 HR3.out hne (by decide))
  have HJ4 := Lib.hid (HJ3.out.trans HI4.out)
  have c2 : W4.cell? ⟨W.heap.size, 1, none⟩ = some (.int .i64 p2) := HR4.out.cell 1
  clear HJ3 HI4 HR3
  go_wp2_with fail
  refine (HQ2.out W4 HJ4.out.1.2).mono ?_
  rintro e W5 ⟨rfl, hb5⟩
  have HJ5 := Lib.hid (HJ4.out.trans (Put12.of_below HJ4.out.1 hb5))
  clear hb5 HJ4
  go_wp2_with fail
  refine (putStr12 b w _ y2 W5 HJ5.out.1 (by omega) (by omega)).mono ?_
  rintro e W6 ⟨rfl, HI6⟩
  have HJ6 := Lib.hid (HJ5.out.trans HI6.out)
  rw [← HZ.out] at HJ6
  clear HJ5 HI6
  subst hp3
  go_wp2
  go_end0
  exact ⟨rfl, HJ6⟩

/-- The text of where some segments lie. -/
def mapP (l : List Seg) (pre : List (Ix l)) : List UInt8 := joinS (pre.map fun x => placeT l x.1)
theorem mapP_snoc (l : List Seg) (pre : List (Ix l)) (x : Ix l) : mapP l (pre ++ [x]) = (if pre = [] then [] else mapP l pre ++ [32]) ++ placeT l x.1 := by
  unfold mapP
  rw [List.map_append]
  show joinS (_ ++ [placeT l x.1]) = _
  rw [joinS_snoc]
  by_cases h : pre = []
  · rw [if_pos h, if_pos (by rw [h]; rfl)]
  · rw [if_neg h, if_neg (fun e => h (List.map_eq_nil_iff.1 e))]
theorem mapP_len {l : List Seg} (hv : validB l = true) (pre : List (Ix l)) : (mapP l pre).length ≤ pre.length * 43 := by
  have := joinS_len 42 (pre.map fun x => placeT l x.1) (fun y hy => by
    obtain ⟨x, _, rfl⟩ := List.mem_map.1 hy
    exact placeT_len hv x.2)
  rw [List.length_map] at this
  exact this
theorem mapP_pos {l : List Seg} {pre : List (Ix l)} : 0 < (mapP l pre).length ↔ pre ≠ [] := by
  unfold mapP
  cases pre with
  | nil => simp [joinS]
  | cons x r =>
    rw [List.map_cons, joinS, List.length_append]
    have := placeT_ne l x.1
    have h2 : 0 < (placeT l x.1).length := List.length_pos_iff.2 this
    simp
    omega
theorem mapP_all {l : List Seg} {ys : List (Ix l)} (h : ys.map (·.1) = List.range (shown l)) : txt12 (mapP l ys) = mapRes l ∧ decide (0 < (mapP l ys).length) = validB l := by
  have h1 : mapP l ys = mapT l (shown l) := by
    unfold mapP mapT
    rw [← h, List.map_map]
    rfl
  have hl : ys.length = shown l := by
    have := congrArg List.length h
    simpa using this
  by_cases hv : validB l = true
  · have hs : shown l = l.length := if_pos hv
    have h0 := (valid_all hv).2.2
    refine ⟨?_, ?_⟩
    · unfold mapRes
      rw [if_pos hv, h1, hs]
    · rw [hv]
      refine decide_eq_true (mapP_pos.2 ?_)
      intro e
      rw [e] at hl
      simp at hl
      omega
  · have hs : shown l = 0 := if_neg hv
    have h3 : ys = [] := List.eq_nil_of_length_eq_zero (by omega)
    refine ⟨?_, ?_⟩
    · unfold mapRes
      rw [if_neg hv, h3]
      rfl
    · rw [show validB l = false by simpa using hv, h3]
      rfl

set_option maxRecDepth 100000 in
set_option maxHeartbeats 4000000 in
theorem mapOf_any (A : Option Addr) (l : List Seg) (c : Nat) (w : World) (hw : Segs w w.heap.size A l) (hp : Pow12 w) (hl : l.length ≤ 1048576) (hlc : l.length ≤ c) (hcm : c ≤ 9223372036854775807) (hn : Short l) :
    Calls Tryd.prog 24 #[.slice A l.length c] w fun e w' => e = .returned (.tuple #[.string (mapRes l), .bool (validB l)]) ∧ Below w.heap.size w w' := by
  have HW : Hid (Segs w w.heap.size A l) := hw
  have HP := Lib.hid hp
  clear hw hp
  refine (callsIn_wide (n := 20)).1 ?_
  refine callsIn_of_wp_marks Tryd.func24 rfl trivial ?_ rfl
  simp only [Tryd.ntmps24, List.size_toArray, List.length_cons, List.length_nil, Nat.reduceAdd, Nat.reduceSub, Array.replicate_succ, Array.replicate_zero, List.push_toArray, List.append_toArray, List.nil_append, List.cons_append]
  gi_wp2_with fail
  have hT0 : Bld12 w.heap.size w (txt12 (mapP l [])) (w.alloc (.cells #[.pointer none, .slice none 0 0] 56)) := Bld12.fresh w
  have hB0 := hT0.2
  have hz0 : (w.alloc (.cells #[.pointer none, .slice none 0 0] 56)).heap.size = w.heap.size + 1 := by simp
  generalize w.alloc (.cells #[.pointer none, .slice none 0 0] 56) = W0 at *
  refine ⟨trivial, ?_⟩
  gi_at_call 49
  refine (callsIn_wide.2 (nodesOf_either _ _ _ _ ((HW.out.below hB0).more hB0.size) hl hlc hcm hn)).mono ?_
  rintro e w1 ⟨a1, n1, c1, rfl, hb1, hit⟩
  have HIT := Lib.hid hit
  clear hit
  gi_wp2_with fail
  refine ⟨trivial, ?_⟩
  gi_at_call 79
  refine (callsIn_wide.2 (placesOf_any _ _ _ _)).mono ?_
  rintro e w2 ⟨rfl, rfl⟩
  have hseq := HIT.out (w1.alloc (.cells #[.slice a1 n1 c1] 52)) w1.heap.size w.heap.size ((Below.refl _ w1).alloc (Nat.le_refl _) _) (Row.new _ _ _) (by omega)
  have hz1 := hb1.size
  have hT1 := (hT0.on hb1).on ((Below.refl _ w1).alloc (Nat.le_refl _) (.cells #[.slice a1 n1 c1] 52))
  have hz2 : (w1.alloc (.cells #[.slice a1 n1 c1] 52)).heap.size = w1.heap.size + 1 := by simp
  clear HIT hb1 hT0 hB0
  gi_wp2
  generalize w1.alloc (.cells #[.slice a1 n1 c1] 52) = W2 at *
  refine wpIn_rangeFunc_ownH rfl (by omega) (gf := 107) (lb := #[.pointer (some ⟨w1.heap.size, 0, none⟩)]) rfl trivial (enters_of Tryd.func107 (by kernel_rfl) rfl) hseq
    (fun h k => h.trans k) (fun W l o o' hl _ _ _ => Kept.put W o' hl) (Below.refl _ _) (fun _ => rfl)
    (fun pre W => Bld12 w.heap.size w (txt12 (mapP l pre)) W) (fun _ _ _ => False)
    (fun _ _ _ _ h hg hr => h.grown hg (by omega) hr) (fun _ _ _ _ _ hs _ _ => hs) hT1
    (fun x a' W => ∃ p, Row W p 84 #[.int .i64 (begAt l x.1), .int .i64 (endAt l x.1)] ∧ p ≠ w.heap.size ∧ a' = { tmps := #[.slice A l.length c, undef, .string ⟨#[]⟩, .bool false, .pointer (some ⟨w.heap.size, 0, none⟩), .string (l[x.1]'x.2).name, .pointer (some ⟨p, 0, none⟩), .slice A l.length c, .slice a1 n1 c1, .func (.func 107) #[] #[.pointer (some ⟨w1.heap.size, 0, none⟩)], .string (l[x.1]'x.2).name, .agg #[.int .i64 (begAt l x.1), .int .i64 (endAt l x.1)], undef, undef, undef, undef, undef, undef, undef, undef, undef, undef], defers := [] })
    (fun x a' _ _ _ _ ⟨p, h1, h2, h3⟩ hg hr => ⟨p, row_grown h1 hg hr, h2, h3⟩) ?assign ?body ?done ?stop
  case assign =>
    intro l2 pre x W K hI hK
    unfold placeArgs
    have hW := hI.2.size
    have hbw := isB_ltW hI.1
    have hI2 := hI.on ((Below.refl _ W).alloc (Nat.le_refl _) (.cells #[.int .i64 (begAt l x.1), .int .i64 (endAt l x.1)] 84))
    gi_wp2
    exact hK _ _ (from_below ((Below.refl _ W).alloc (Nat.le_refl _) _)) (Kept.of_below ((Below.refl _ W).alloc (Nat.le_refl _) _)) hI2 ⟨W.heap.size, Row.new _ _ _, by omega, rfl⟩
  case body =>
    rintro l2 pre x a' W hl2 - hI ⟨p, hp, hpne, rfl⟩ hlen
    have hv := shown_valid hlen
    obtain ⟨cb, hcb⟩ := builder_cells hI.1
    have HCB := Lib.hid hcb
    have HI := Lib.hid hI
    have HR := Lib.hid hp
    have hml := mapP_len hv pre
    have hsh := shown_le (l := l)
    obtain ⟨n1', n2', n3'⟩ := place_small hv x.2
    have hnm : (l[x.1]'x.2).name.size = 1 := by
      have := nameB_len hv x.2
      unfold nameB at this
      rw [List.getElem?_eq_getElem x.2] at this
      exact this
    have hnb : txt12 (nameB l x.1) = (l[x.1]'x.2).name := by
      unfold nameB
      rw [List.getElem?_eq_getElem x.2]
      rfl
    have HSN := Lib.hid (mapP_snoc l pre x)
    have HPL : Hid (txt12 (placeT l x.1) = (l[x.1]'x.2).name ++ txt12 (Lib.itoa (begAt l x.1) ++ 45 :: Lib.itoa (endAt l x.1 - 1))) := by
      show _ = _
      rw [← hnb, txt12_app]
      unfold placeT
      rw [List.append_assoc]
    have hLen := Tryd.Builder_Len_f _ _ _ _ hI.1
    rw [cells_size12, txt12_size] at hLen
    have HL := Lib.hid hLen
    have hpos := mapP_pos (l := l) (pre := pre)
    have hbs : (txt12 (mapP l pre)).size ≤ 1000 := by rw [txt12_size]; omega
    have HSW := Lib.hid (fun y W (h : Bld12 w.heap.size w y W) (hy : y.size ≤ 90000000) => spanWrite_any w.heap.size w (begAt l x.1) (endAt l x.1) y W h HP.out hy n1' (by omega) (by omega) (by omega))
    clear hI hp hcb hLen hnb
    generalize (l[x.1]'x.2).name = nm at *
    generalize begAt l x.1 = p1 at *
    generalize endAt l x.1 = p2 at *
    gi_wp2_with fail
    refine ⟨trivial, ?_⟩
    gi_at_call 80
    refine (CallsIn.inRound l2 (callsIn_wide.2 HL.out)).mono ?_
    rintro e W3 ⟨rfl, rfl⟩
    by_cases h0 : pre = []
    · have hz : ¬ (0 : Int) < ((mapP l pre).length : Int) := fun e => (hpos.1 (by omega)) h0
      have HN : Hid (txt12 (mapP l (pre ++ [x])) = txt12 (mapP l pre) ++ nm ++ txt12 (Lib.itoa p1 ++ 45 :: Lib.itoa (p2 - 1))) := by
        show _ = _
        rw [HSN.out, if_pos h0, List.nil_append, HPL.out]
        have e0 : txt12 (mapP l pre) = ⟨#[]⟩ := by rw [h0]; rfl
        rw [e0, nil_app12]
      have hs1 : (txt12 (mapP l pre) ++ nm).size ≤ 90000000 := by rw [ByteArray.size_append]; omega
      clear hpos h0 HSN HPL
      gi_wp2_with fail
      refine ⟨trivial, ?_⟩
      gi_at_call 82
      refine (CallsIn.inRound l2 (callsIn_wide.2 (putStr12 w.heap.size w _ nm _ HI.out (by omega) (by omega)))).mono ?_
      rintro e W4 ⟨rfl, HJ4⟩
      have HR4 := Lib.hid (kept_rowW HJ4.out.2.2 HR.out hpne (by decide))
      have c0 : W4.cell? ⟨p, 0, none⟩ = some (.int .i64 p1) := HR4.out.cell 0
      have c1 : W4.cell? ⟨p, 1, none⟩ = some (.int .i64 p2) := HR4.out.cell 1
      gi_wp2_with fail
      refine ⟨trivial, ?_⟩
      gi_at_call 83
      refine (CallsIn.inRound l2 (callsIn_wide.2 (HSW.out _ W4 HJ4.out.1 hs1))).mono ?_
      rintro e W5 ⟨rfl, HJ5⟩
      have HJ := Lib.hid (HJ4.out.trans HJ5.out)
      rw [← HN.out] at HJ
      clear HJ4 HJ5 HR4 c0 c1
      gi_wp2
      exact ⟨kept_from HJ.out.2.2 HJ.out.2.1 HCB.out, kept_others HJ.out.2.2, HJ.out.1⟩
    · have hz : (0 : Int) < ((mapP l pre).length : Int) := by have := hpos.2 h0; omega
      have HN : Hid (txt12 (mapP l (pre ++ [x])) = txt12 (mapP l pre) ++ ⟨#[32]⟩ ++ nm ++ txt12 (Lib.itoa p1 ++ 45 :: Lib.itoa (p2 - 1))) := by
        show _ = _ ++ txt12 [32] ++ _ ++ _
        rw [HSN.out, if_neg h0, ← txt12_app, HPL.out, ← txt12_app]
        simp only [ByteArray.append_assoc]
      have hs0 : (txt12 (mapP l pre) ++ (⟨#[32]⟩ : ByteArray)).size ≤ 80000000 := by rw [ByteArray.size_append, one12]; omega
      have hs1 : (txt12 (mapP l pre) ++ (⟨#[32]⟩ : ByteArray) ++ nm).size ≤ 90000000 := by rw [ByteArray.size_append]; omega
      clear hpos h0 HSN HPL
      gi_wp2_with fail
      refine ⟨trivial, ?_⟩
      gi_at_call 81
      refine (CallsIn.inRound l2 (callsIn_wide.2 (putByte12 w.heap.size w _ 32 _ (by decide) _ HI.out (by omega)))).mono ?_
      rintro e W3 ⟨rfl, HJ3⟩
      have HR3 := Lib.hid (kept_rowW HJ3.out.2.2 HR.out hpne (by decide))
      gi_wp2_with fail
      refine ⟨trivial, ?_⟩
      gi_at_call 82
      refine (CallsIn.inRound l2 (callsIn_wide.2 (putStr12 w.heap.size w _ nm _ HJ3.out.1 (by omega) (by omega)))).mono ?_
      rintro e W4 ⟨rfl, HI4⟩
      have HR4 := Lib.hid (kept_rowW HI4.out.2.2 HR3.out hpne (by decide))
      have HJ4 := Lib.hid (HJ3.out.trans HI4.out)
      have c0 : W4.cell? ⟨p, 0, none⟩ = some (.int .i64 p1) := HR4.out.cell 0
      have c1 : W4.cell? ⟨p, 1, none⟩ = some (.int .i64 p2) := HR4.out.cell 1
      clear HJ3 HI4 HR3
      gi_wp2_with fail
      refine ⟨trivial, ?_⟩
      gi_at_call 83
      refine (CallsIn.inRound l2 (callsIn_wide.2 (HSW.out _ W4 HJ4.out.1 hs1))).mono ?_
      rintro e W5 ⟨rfl, HJ5⟩
      have HJ := Lib.hid (HJ4.out.trans HJ5.out)
      rw [← HN.out] at HJ
      clear HJ4 HJ5 HR4 c0 c1
      gi_wp2
      exact ⟨kept_from HJ.out.2.2 HJ.out.2.1 HCB.out, kept_others HJ.out.2.2, HJ.out.1⟩
  case done =>
    rintro D ys W hD hS hI hK
    have HA := Lib.hid (mapP_all hS)
    have hbw := isB_ltW hI.1
    have HI := Lib.hid hI
    have HK : Hid (W.heap[D]? = some (.deferred (some []))) := hK
    have HE : Hid ((⟨(txt12 (mapP l ys)).data.toList.toArray⟩ : ByteArray) = mapRes l) := HA.out.1
    clear hI hK
    gi_wp2_with fail
    refine ⟨trivial, ?_⟩
    gi_at_call 51
    refine (callsIn_wide.2 (Tryd.Builder_String_any_k w.heap.size w.heap.size _ _ HI.out.1 HI.out.2.size)).mono ?_
    rintro e W1 ⟨rfl, hI1, hb1, hk1⟩
    have hK1 : W1.heap[D]? = some (.deferred (some [])) := hk1 D _ HK.out (fun he => by cases he; omega) (fun c fz he => by cases he)
    have hLen := Tryd.Builder_Len_f _ _ _ _ hI1
    rw [cells_size12, txt12_size] at hLen
    have HL := Lib.hid hLen
    have HB1 := Lib.hid hb1
    have HK1 : Hid (W1.heap[D]? = some (.deferred (some []))) := hK1
    clear hLen hI1 hk1 hb1 hK1
    gi_wp2_with fail
    refine ⟨trivial, ?_⟩
    gi_at_call 80
    refine (callsIn_wide.2 HL.out).mono ?_
    rintro e W3 ⟨rfl, rfl⟩
    gi_wp2
    refine ⟨by simp, .inl ⟨_, _, rfl, run_takeDeferred HK1.out, ?_⟩⟩
    refine ⟨_, results_tmp2 (t := 2) (u := 3) rfl _ _ _, ret_two HE.out ?_, (HI.out.2.trans HB1.out).trans (belowK_b (w := w) (Nat.le_refl _) W3 D _ _ (by omega) HK1.out rfl rfl)⟩
    rw [← HA.out.2]
  case stop =>
    rintro D c pre W _ _ h _
    exact h.elim

end Go.Proofs.YtdbddockmdkmeaaDoor
