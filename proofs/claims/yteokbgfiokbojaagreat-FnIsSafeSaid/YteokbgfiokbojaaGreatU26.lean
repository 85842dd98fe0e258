/- Joined: Bv Be. -/
import Derived.Test.YteokbgfiokbojaaGreatU25
import Derived.Test.YteokbgfiokbojaaGreatU18
import Derived.Test.YteokbgfiokbojaaGreatU19
import Derived.Test.YteokbgfiokbojaaGreatU15
/- The program's UnsafeChains, and IsSafe on both sides. -/
namespace Go.Proofs.YteokbgfiokbojaaGreat
open Go.RowKit Go.Shelf Go.Sort

theorem enc_txt (x : Txt) : encStr x = txtV x := rfl
theorem HeadD.holds {W : World} {B g cap : Nat} {ts : List Txt} (h : HeadD W B g cap ts.length ts) : Holds encStr W g 0 ts.toArray := fun j hj => by
  have hj' : j < ts.length := by simpa using hj
  have h1 := h.cellAt j (by omega)
  rw [Nat.zero_add]
  constructor
  · rw [h1, List.getElem?_map, List.getElem?_eq_getElem hj']
    rw [getElem!_pos ts.toArray j hj]
    simp [enc_txt]
  · rcases h.2 with ⟨h0, _⟩ | ⟨g', cap', cur, e, hB, hh, _⟩
    · cases h0
    · injection e with e1 _ e3
      injection e1 with e1
      injection e1 with e1
      subst e1
      exact Row.free (hh : Row W g 9 cur) j
theorem HeadD.lt {W : World} {B g cap k : Nat} {ts : List Txt} (h : HeadD W B g cap k ts) : B ≤ g ∧ g < W.heap.size := World.ownsRow.lt h g rfl
theorem HeadD.cap {W : World} {B g cap k : Nat} {ts : List Txt} (h : HeadD W B g cap k ts) : k ≤ cap ∧ cap ≤ maxLen := by
  rcases h.2 with ⟨h0, _⟩ | ⟨g', cap', cur, e, _, _, h1, h2, _⟩
  · cases h0
  · injection e with _ _ e3
    rw [e3]
    exact ⟨h1, h2⟩
/-- What sorting leaves. -/
theorem HeadD.sorted {W : World} {B g cap n : Nat} {os : Array Obj} {ts ss : List Txt} (h : HeadD W B g cap ts.length ts) (hl : ss.length = ts.length) :
    HeadD (grow (putRow encStr (Sort.ahead W n) g 0 ss.toArray) os) B g cap ss.length ss := by
  rcases h.2 with ⟨h0, _⟩ | ⟨g', cap', cur, e, hB, hh, h1, h2, h3, _⟩
  · cases h0
  · injection e with e1 _ e3
    injection e1 with e1
    injection e1 with e1
    subst e1 e3
    have := ownsRow_sorted (n := n) (os := os) (ss := ss) (ts := ss) rfl hB hh (by omega) h2 h3
    exact this
/-- What compacting leaves. -/
theorem HeadD.compacted {W : World} {B g cap q : Nat} {ss ys : List Txt} (h : HeadD W B g cap ss.length ss) (hy : ys.length ≤ ss.length) (zs : List Txt) (hz : zs.length = ss.length - ys.length) :
    HeadD (putRow encStr (Sort.ahead W q) g 0 (ys ++ zs).toArray) B g cap ys.length ys := by
  have := Lib.ownsRow_putRow (enc := encStr) (q := q) (k := ys.length) (ys := ys ++ zs) h (by rw [List.length_append]; omega) hy
  rw [List.take_left] at this
  exact this
theorem xs_arr {xs : List Txt} {W : World} {B g cap n : Nat} (h : OwnTexts W B (.slice (some ⟨g, 0, none⟩) n cap) (xs.map strOf)) (hn : n = xs.length) : OwnD W B g cap xs.toArray := by
  unfold OwnD
  subst hn
  rw [List.length_map]
  exact h

set_option maxRecDepth 100000 in
set_option maxHeartbeats 1000000 in
theorem deleteNil_any (bx : Nat) (W : World) :
    Calls Tryz.prog 16 #[.slice none 0 0, .func (.func 17) #[] #[.pointer (some ⟨bx, 0, none⟩)]] W fun e w' => e = .returned (.slice none 0 0) ∧ w' = W := by
  have HI : Hid (Calls Tryz.prog 40 #[.slice none 0 0, .func (.func 17) #[] #[.pointer (some ⟨bx, 0, none⟩)]] W fun e w' => e = .returned (.int .i64 (-1)) ∧ w' = W) := by
    show Calls _ _ _ _ _
    go_enter Tryz.func40, Tryz.ntmps40
    go_wp2
    go_loop [8] (fun i => i = .int .i64 0) (fun _ => 0)
    case atStart => rfl
    case round =>
      subst hrel
      go_wp2
      go_ret
      exact ⟨rfl, rfl⟩
  go_enter Tryz.func16, Tryz.ntmps16
  go_wp2_with fail
  refine Calls.mono HI.out ?_
  rintro e w1 ⟨rfl, rfl⟩
  go_wp2
  go_ret
  exact ⟨rfl, rfl⟩

set_option maxRecDepth 100000 in
set_option maxHeartbeats 2000000 in
theorem implUnsafe_any (A : Option Addr) (l : List Seg) (c : Nat) (t : ByteArray) (w : World) (hw : Segs w w.heap.size A l) (hl : l.length ≤ 1048576) (hlc : l.length ≤ c) (hcm : c ≤ 9223372036854775807) (hn : Short l) (ht : t.size ≤ 1048576) :
    Calls Tryz.prog 6 #[.slice A l.length c, .string t] w (UnsafePost w l t) := by
  have HB0 : Hid (Below w.heap.size w (w.alloc (.cells #[.slice A l.length c] 23))) := (Below.refl _ w).alloc (Nat.le_refl _) _
  have HBX : Hid (Row (w.alloc (.cells #[.slice A l.length c] 23)) w.heap.size 23 #[.slice A l.length c]) := Row.new w _ _
  have HZ0 : Hid ((w.alloc (.cells #[.slice A l.length c] 23)).heap.size = w.heap.size + 1) := by show _ = _; simp
  have HQ := Lib.hid (implChainsOf_any A l c t (w.alloc (.cells #[.slice A l.length c] 23)) ((hw.below HB0.out).more HB0.out.size) hl hlc hcm hn ht)
  have HW : Hid (Segs w w.heap.size A l) := hw
  unfold ChainsResPost at HQ
  rw [chainsRes_xs] at HQ
  unfold UnsafePost unsafeRes
  have hx9 : ∀ x ∈ xsRes l t, x.length ≤ 9 := fun x hx => (xsRes_two x hx).2
  have hx80 := xsRes_len l t
  have HNO : Hid ((traceB l t.data.toList).isSome = false → xsRes l t = []) := fun h => by
    unfold xsRes
    cases hR : traceB l t.data.toList with
    | none => rfl
    | some f => rw [hR] at h; cases h
  have HDN := Lib.hid (fun bx W => deleteNil_any bx W)
  have c0 : (w.alloc (.cells #[.slice A l.length c] 23)).cell? ⟨w.heap.size, 0, none⟩ = some (.slice A l.length c) := HBX.out.cell 0
  have HX9 := Lib.hid hx9
  have HDS := Lib.hid (fun B bx g cap d W h1 h2 h3 h4 h5 => deleteStruck_any A l c B bx g cap d W h1 h2 h3 h4 h5 hl hlc hcm hn)
  clear hw hn hx9
  generalize xsRes l t = xs at *
  generalize (traceB l t.data.toList).isSome = d at *
  obtain ⟨ts, hts⟩ : ∃ ts, ts = xs.filter (apartB l) := ⟨_, rfl⟩
  rw [← hts]
  have HTS := Lib.hid hts
  clear hts
  go_enter Tryz.func6, Tryz.ntmps6
  go_wp2_with fail
  refine Calls.mono HQ.out ?_
  rintro e w2 ⟨v, rfl, ho, hb⟩
  have HB2 : Hid (Below w.heap.size w w2) := HB0.out.trans (hb.mono HB0.out.size)
  have HX2 : Hid (Row w2 w.heap.size 23 #[.slice A l.length c]) := HBX.out.below hb (by have := HZ0.out; omega)
  have HOL : Hid (OwnTexts w2 (w.heap.size + 1) v (xs.map strOf)) := by
    show OwnTexts _ _ _ _
    rw [← HZ0.out]
    exact ho
  clear ho hb HQ HBX HB0 HZ0 c0
  cases d with
  | false =>
    have hx := HNO.out rfl
    subst hx
    have ht0 : ts = [] := HTS.out
    subst ht0
    go_wp2
    go_ret2
    exact ⟨_, rfl, World.ownsRow_nil w2 _ _ 1, HB2.out⟩
  | true =>
    have hol := HOL.out
    rcases hol.2 with ⟨rfl, h0⟩ | ⟨g, cap, cur, rfl, hbg, -⟩
    · have hx : xs = [] := by
        rw [List.length_map] at h0
        exact List.eq_nil_of_length_eq_zero h0
      subst hx
      have ht0 : ts = [] := HTS.out
      subst ht0
      clear hol h0 HOL
      go_wp2_with fail
      refine (HDN.out _ _).mono ?_
      rintro e w3 ⟨rfl, rfl⟩
      go_wp2_with fail
      refine (Tryz.slices_Sort_string_none none 0 _).mono ?_
      rintro e w4 ⟨rfl, rfl⟩
      go_wp2_with fail
      refine (Tryz.slices_Compact_string_empty none 0 _).mono ?_
      rintro e w5 ⟨rfl, rfl⟩
      go_wp2
      go_ret2
      exact ⟨_, rfl, World.ownsRow_nil _ _ _ 1, HB2.out⟩
    · have hlen : (xs.map strOf).length = xs.length := List.length_map _
      have hzz := HB2.out.size
      have HDD : Hid (OwnD w2 w.heap.size g cap xs.toArray) := xs_arr (own_low hol (by omega)) hlen
      have HDC := Lib.hid (HDS.out w.heap.size w.heap.size g cap xs.toArray w2 ⟨HX2.out, HW.out.below HB2.out, hzz⟩ (by omega) HDD.out (fun j hj => by
        have hj' : j < xs.length := by simpa using hj
        rw [getElem!_pos xs.toArray j hj]
        exact HX9.out _ (by simp)) (by simpa using hx80))
      have hsz : xs.toArray.size = xs.length := by simp
      rw [hsz, show xs.toArray.toList = xs from rfl, ← HTS.out] at HDC
      have HFL : Hid (ts.length ≤ 80) := by
        show _ ≤ _
        rw [HTS.out]
        exact Nat.le_trans (List.length_filter_le _ _) hx80
      have HGG : Hid (w.heap.size < g) := show w.heap.size < g by omega
      rw [hlen]
      clear hol HOL HDD hlen hsz HDS HDN HX9 hbg
      go_wp2_with fail
      refine Calls.mono HDC.out ?_
      rintro e w3 ⟨rfl, hh3, ho3⟩
      have HH3 := Lib.hid hh3
      have HO3 := Lib.hid ho3
      have HSO := Lib.hid (Tryz.slices_Sort_string g 0 cap ts w3 hh3.holds hh3.lt.2 (by have := HFL.out; omega))
      clear hh3 ho3 HDC
      go_wp2_with fail
      refine Calls.mono HSO.out ?_
      rintro e w4 ⟨rfl, nn, os, rfl⟩
      have hl2 : (ts.mergeSort fun x y => decide (x ≤ y)).length = ts.length := List.length_mergeSort ts
      have HH4 : Hid (HeadD (grow (putRow encStr (Sort.ahead w3 nn) g 0 (ts.mergeSort fun x y => decide (x ≤ y)).toArray) os) w.heap.size g cap (ts.mergeSort fun x y => decide (x ≤ y)).length (ts.mergeSort fun x y => decide (x ≤ y))) := HH3.out.sorted hl2
      have HB4 : Hid (Below w.heap.size w (grow (putRow encStr (Sort.ahead w3 nn) g 0 (ts.mergeSort fun x y => decide (x ≤ y)).toArray) os)) :=
        (Only.below HB2.out HO3.out hzz (fun k hk e => by have := HGG.out; omega)).grown (grownBy_sorted _) (by have := HO3.out.size; omega) (fun j hj => by injection hj with hj; have := HGG.out; omega)
      have HCO := Lib.hid (Tryz.slices_Compact_string g 0 cap (ts.mergeSort fun x y => decide (x ≤ y)) _ HH4.out.holds (by have := HFL.out; omega) (HH4.out.cap.1))
      rw [hl2] at HCO
      have HCS := Lib.hid (compact_sort ts)
      have HLC := Lib.hid (Lib.compact_length_le (ts.mergeSort fun x y => decide (x ≤ y)))
      have HL2 := Lib.hid hl2
      clear hl2 HH3 HO3 HSO
      generalize (ts.mergeSort fun x y => decide (x ≤ y)) = ss at *
      generalize grow (putRow encStr (Sort.ahead w3 nn) g 0 ss.toArray) os = w4 at *
      go_wp2_with fail
      refine Calls.mono HCO.out ?_
      rintro e w5 ⟨rfl, q, rfl⟩
      have HH5 : Hid (OwnTexts (putRow encStr (Sort.ahead w4 q) g 0 (Lib.compact ss ++ List.replicate (ts.length - (Lib.compact ss).length) []).toArray) w.heap.size (.slice (some ⟨g, 0, none⟩) (Lib.compact ss).length cap) ((putAll [] ts).map strOf)) := by
        show OwnTexts _ _ _ _
        rw [← HCS.out]
        exact (HH4.out.compacted HLC.out _ (by rw [List.length_replicate, HL2.out])).texts
      have HB5 : Hid (Below w.heap.size w (putRow encStr (Sort.ahead w4 q) g 0 (Lib.compact ss ++ List.replicate (ts.length - (Lib.compact ss).length) []).toArray)) := Lib.below_putRow HB4.out (by have := HGG.out; omega)
      clear HCO HCS HLC HH4 HB4
      generalize (putRow encStr (Sort.ahead w4 q) g 0 (Lib.compact ss ++ List.replicate (ts.length - (Lib.compact ss).length) []).toArray) = w5 at *
      go_wp2
      go_ret2
      exact ⟨_, rfl, HH5.out, HB5.out⟩

/-- Whether a trace is safe. -/
def safeB (l : List Seg) (t : ByteArray) : Bool := (traceB l t.data.toList).isSome && decide ((unsafeRes l t).length = 0)

set_option maxRecDepth 100000 in
set_option maxHeartbeats 1000000 in
theorem specIsSafe_any (A : Option Addr) (l : List Seg) (c : Nat) (t : ByteArray) (w : World) (hw : Segs w w.heap.size A l) (hl : l.length ≤ 1048576) (hn : Short l) (ht : t.size ≤ 1048576) :
    Calls Tryz.prog 8 #[.slice A l.length c, .string t] w fun e w' => e = .returned (.bool (safeB l t)) ∧ Below w.heap.size w w' := by
  have HQ := Lib.hid (specUnsafe_any A l c t w hw hl hn ht)
  unfold UnsafePost at HQ
  unfold safeB
  clear hw hn
  generalize unsafeRes l t = ts at *
  generalize (traceB l t.data.toList).isSome = d at *
  cases d with
  | false =>
    go_enter Tryz.func8, Tryz.ntmps8
    go_wp2_with fail
    refine Calls.mono HQ.out ?_
    rintro e w2 ⟨v, rfl, ho, hb⟩
    obtain ⟨A2, cap2, rfl, -⟩ := St.textsForm ho
    clear ho
    go_wp2
    go_ret
    exact ⟨rfl, hb⟩
  | true =>
    go_enter Tryz.func8, Tryz.ntmps8
    go_wp2_with fail
    refine Calls.mono HQ.out ?_
    rintro e w2 ⟨v, rfl, ho, hb⟩
    obtain ⟨A2, cap2, rfl, -⟩ := St.textsForm ho
    clear ho
    by_cases h0 : ts.length = 0
    · have h1 : ((ts.length : Int) == 0) = true := by simpa using h0
      have HF : Hid ((true && decide (ts.length = 0)) = true) := by show _ = _; rw [decide_eq_true h0]; rfl
      go_wp2
      go_ret
      exact ⟨ret_bool HF.out.symm, hb⟩
    · have h1 : ((ts.length : Int) == 0) = false := by simpa using h0
      have HF : Hid ((true && decide (ts.length = 0)) = false) := by show _ = _; rw [decide_eq_false h0]; rfl
      go_wp2
      go_ret
      exact ⟨ret_bool HF.out.symm, hb⟩

set_option maxRecDepth 100000 in
set_option maxHeartbeats 1000000 in
theorem isSafe_any (A : Option Addr) (l : List Seg) (c : Nat) (t : ByteArray) (w : World) (hw : Segs w w.heap.size A l) (hl : l.length ≤ 1048576) (hlc : l.length ≤ c) (hcm : c ≤ 9223372036854775807) (hn : Short l) (ht : t.size ≤ 1048576) :
    Calls Tryz.prog 5 #[.slice A l.length c, .string t] w fun e w' => e = .returned (.bool (safeB l t)) ∧ Below w.heap.size w w' := by
  have HQ := Lib.hid (implUnsafe_any A l c t w hw hl hlc hcm hn ht)
  unfold UnsafePost at HQ
  unfold safeB
  clear hw hn
  generalize unsafeRes l t = ts at *
  generalize (traceB l t.data.toList).isSome = d at *
  cases d with
  | false =>
    go_enter Tryz.func5, Tryz.ntmps5
    go_wp2_with fail
    refine Calls.mono HQ.out ?_
    rintro e w2 ⟨v, rfl, ho, hb⟩
    obtain ⟨A2, cap2, rfl, -⟩ := St.textsForm ho
    clear ho
    go_wp2
    go_ret
    exact ⟨rfl, hb⟩
  | true =>
    go_enter Tryz.func5, Tryz.ntmps5
    go_wp2_with fail
    refine Calls.mono HQ.out ?_
    rintro e w2 ⟨v, rfl, ho, hb⟩
    obtain ⟨A2, cap2, rfl, -⟩ := St.textsForm ho
    clear ho
    by_cases h0 : ts.length = 0
    · have h1 : ((ts.length : Int) == 0) = true := by simpa using h0
      have HF : Hid ((true && decide (ts.length = 0)) = true) := by show _ = _; rw [decide_eq_true h0]; rfl
      go_wp2
      go_ret
      exact ⟨ret_bool HF.out.symm, hb⟩
    · have h1 : ((ts.length : Int) == 0) = false := by simpa using h0
      have HF : Hid ((true && decide (ts.length = 0)) = false) := by show _ = _; rw [decide_eq_false h0]; rfl
      go_wp2
      go_ret
      exact ⟨ret_bool HF.out.symm, hb⟩

end Go.Proofs.YteokbgfiokbojaaGreat
/- LostIn on both sides. -/
namespace Go.Proofs.YteokbgfiokbojaaGreat
open Go.RowKit Go.Shelf

theorem strOf_last {x : List UInt8} (hx : x ≠ []) : (strOf x).extract ((strOf x).size - 1) (strOf x).size = ⟨#[lastB x]⟩ := by
  obtain ⟨y, c, rfl⟩ : ∃ y c, x = y ++ [c] := ⟨x.dropLast, x.getLast hx, (List.dropLast_concat_getLast hx).symm⟩
  rw [lastB_snoc]
  exact str_last y c
set_option maxRecDepth 100000 in
set_option maxHeartbeats 2000000 in
theorem setNames_any (B g : Nat) (l : List Seg) (nb : Nat → Nat) (cv : Nat → Value) (f : Nat → Bool) (w : World) (h : Nodes w B g l.length l.length l nb cv) (hv : validB l = true) :
    Calls Tryz.prog 29 #[.int .u64 (setF f : Int), .slice (some ⟨g, 0, none⟩) l.length l.length] w fun e w' => e = .returned (.string (namesAt l (selIx f l.length))) ∧ Below w.heap.size w w' := by
  have HN := Lib.hid h
  have HV := Lib.hid hv
  have h8 := (valid_all hv).2.1
  clear h hv
  go_enter Tryz.func29, Tryz.ntmps29
  go_wp2
  have hI0 : Lib.IsBuilderF 48 5 w.heap.size w.heap.size (Lib.byteCells (namesAt l (selIx f 0)).data.toList) (w.alloc (.cells #[.pointer none, .slice none 0 0] 48)) :=
    Lib.IsBuilderF.of (Lib.fresh_isBuilder 48 5 w)
  have hB0 : Below w.heap.size w (w.alloc (.cells #[.pointer none, .slice none 0 0] 48)) := (Below.refl _ w).alloc (Nat.le_refl _) _
  go_loopw [10] (fun i wr => ∃ k : Nat, k ≤ l.length ∧ i = .int .i64 k ∧ Hid (Lib.IsBuilderF 48 5 w.heap.size w.heap.size (Lib.byteCells (namesAt l (selIx f k)).data.toList) wr) ∧ Hid (Below w.heap.size w wr))
    (fun i _ => l.length - (intOf i).toNat)
  case atStart => exact ⟨0, Nat.zero_le _, rfl, hI0, hB0⟩
  case round =>
    clear hI0 hB0
    obtain ⟨k, hk, rfl, HI, HB⟩ := hrel
    have hk0 : (0 : Int) ≤ (k : Int) := Int.natCast_nonneg _
    have hbz := HB.out.size
    have hbw : w.heap.size < wr.heap.size := by
      obtain ⟨cb, hcb⟩ := builder_cells HI.out
      exact (Array.getElem?_eq_some_iff.1 hcb).1
    by_cases hlt : k < l.length
    · have hlt' : (k : Int) < (l.length : Int) := by omega
      obtain ⟨cs, hrow, _, hci⟩ := HN.out.row
      have gk : wr.cell? ⟨g, k, none⟩ = some (.pointer (some ⟨nb k, 0, none⟩)) := by
        rw [HB.out.cell (p := ⟨g, k, none⟩) hrow.lt, hrow.cell]
        exact hci k hlt
      have hnk := HN.out.node k _ hlt (List.getElem?_eq_getElem hlt)
      have nk : wr.cell? ⟨nb k, 0, none⟩ = some (.string l[k].name) := (HB.out.cell (p := ⟨nb k, 0, none⟩) hnk.lt).trans (hnk.cell 0)
      clear hrow hci hnk
      have HS := Lib.hid (selIx_succ f k)
      go_wp2_with fail
      refine (has_any f k _ (by omega)).mono ?_
      cases hf : f k with
      | false =>
        have HS1 : Hid (selIx f (k + 1) = selIx f k) := by
          show _ = _
          rw [HS.out, if_neg (by rw [hf]; decide), List.append_nil]
        have HI1 : Hid (Lib.IsBuilderF 48 5 w.heap.size w.heap.size (Lib.byteCells (namesAt l (selIx f (k + 1))).data.toList) wr) := by
          show Lib.IsBuilderF _ _ _ _ _ _
          rw [HS1.out]
          exact HI.out
        clear hf
        rintro e w1 ⟨rfl, rfl⟩
        go_wp2
        go_roundw
        case rel => exact ⟨k + 1, by omega, by go_num, HI1, HB⟩
        case measure => simp [intOf]; omega
      | true =>
        rintro e w1 ⟨rfl, rfl⟩
        have hlen : (Lib.byteCells (namesAt l (selIx f k)).data.toList).length = (namesAt l (selIx f k)).size := by simp [Lib.byteCells]
        have HS1 : Hid (Lib.byteCells (namesAt l (selIx f (k + 1))).data.toList = Lib.byteCells (namesAt l (selIx f k)).data.toList ++ Lib.strCells l[k].name) := by
          show _ = _
          rw [HS.out, if_pos hf, namesAt_snoc _ hlt, ByteArray.data_append, Array.toList_append]
          simp [Lib.byteCells, Lib.strCells]
        have hz1 := valid_names HV.out _ (List.getElem_mem hlt)
        have hz2 := namesAt_len (valid_names HV.out) (selIx f k)
        have hz3 := selIx_len f k
        have hl1 : (Lib.byteCells (namesAt l (selIx f k)).data.toList).length + l[k].name.size ≤ 140737488355328 := by omega
        clear hz2 hz3 hf hlen
        generalize l[k].name = nm at *
        go_wp2_with fail
        refine (writeString_any w.heap.size w.heap.size _ nm _ HI.out hl1 (by omega)).mono ?_
        rintro e w2 ⟨rfl, hI1, hb1, hk1⟩
        have HI1 : Hid (Lib.IsBuilderF 48 5 w.heap.size w.heap.size (Lib.byteCells (namesAt l (selIx f (k + 1))).data.toList) w2) := by
          show Lib.IsBuilderF _ _ _ _ _ _
          rw [HS1.out]
          exact hI1
        have HB1 := Lib.hid (HB.out.trans (hb1.mono (by omega)))
        clear hI1 hb1 hk1 gk nk
        go_wp2
        go_roundw
        case rel => exact ⟨k + 1, by omega, by go_num, HI1, HB1⟩
        case measure => simp [intOf]; omega
    · obtain rfl : k = l.length := by omega
      go_wp2_with fail
      refine (Tryz.Builder_String_any_k w.heap.size w.heap.size _ _ HI.out (by omega)).mono ?_
      rintro e w2 ⟨rfl, hI1, hb1, hk1⟩
      have HB1 := Lib.hid (HB.out.trans (hb1.mono (by omega)))
      clear hI1 hb1 hk1
      go_wp2
      go_ret
      exact ⟨rfl, HB1.out⟩

theorem contains_said (s : ByteArray) (b : UInt8) : decide (0 ≤ Lib.indexByte s.data.toList b) = decide (b ∈ s.data.toList) := by
  rw [← Lib.contains_iff_indexByte]
  simp

set_option maxRecDepth 100000 in
set_option maxHeartbeats 2000000 in
theorem lostAt_any (B g : Nat) (l : List Seg) (nb : Nat → Nat) (cv : Nat → Value) (x : List UInt8) (w : World) (h : Nodes w B g l.length l.length l nb cv) (hv : validB l = true) (hne : x ≠ []) (h9 : x.length ≤ 9) (hcl : callP l (lastB x) = true) :
    Calls Tryz.prog 28 #[.slice (some ⟨g, 0, none⟩) l.length l.length, .string (strOf x)] w fun e w' => e = .returned (.int .u64 (setF (fun i => decide (i < l.length) && lostX l x i) : Int)) ∧ Below w.heap.size w w' := by
  have h8 := (valid_all hv).2.1
  have HN := Lib.hid h
  have hc0 : 0 ≤ bSeek l (lastB x) := by
    have h1 := of_decide_eq_true hcl
    rwa [show indexB l ⟨#[lastB x]⟩ = bSeek l (lastB x) from if_pos hv] at h1
  have hcb : (bSeek l (lastB x)).toNat < l.length := by rcases bSeek_bd l (lastB x) with a | ⟨_, a⟩ <;> omega
  have HP : Hid (foundPtr l nb ⟨#[lastB x]⟩ = some ⟨nb (bSeek l (lastB x)).toNat, 0, none⟩) := found_byte hc0
  obtain ⟨cs, hrow, -, hci⟩ := h.row
  have HC : Hid (∀ i, i < l.length → w.cell? ⟨g, i, none⟩ = some (.pointer (some ⟨nb i, 0, none⟩))) := fun i hi => by rw [hrow.cell]; exact hci i hi
  have hg := hrow.lt
  have HNM : Hid (∀ i (hi : i < l.length), nb i < w.heap.size ∧ w.cell? ⟨nb i, 0, none⟩ = some (.string ⟨#[byteOf l i]⟩)) := fun i hi => by
    have hnk := h.node i _ hi (List.getElem?_eq_getElem hi)
    have h1 : w.cell? ⟨nb i, 0, none⟩ = some (.string l[i].name) := hnk.cell 0
    have h2 := (nmAt_one hv hi).2
    rw [h2] at h1
    exact ⟨hnk.lt, h1⟩
  have HK := Lib.hid (fun i j W hb hi hj => kindOfCall_any B g i j l nb cv W (HN.out.below (w' := W) hb) hv hi hj)
  have HZ : Hid (setF (fun i => decide (i < 0) && lostX l x i) = 0) := by
    show _ = _
    rw [setF_congr (g := fun _ => false) (fun i _ => by simp)]
    rfl
  have HLX : Hid (∀ i, lostX l x i = (decide (byteOf l i ∈ x) && decide (kindIx l i (bSeek l (lastB x)).toNat = 2))) := fun i => rfl
  have HCN : Hid (∀ b W, Calls Tryz.prog 52 #[.string (strOf x), .string ⟨#[b]⟩] W fun e w' => e = .returned (.bool (decide (b ∈ x))) ∧ w' = W) := fun b W => by
    have h1 := Tryz.strings_Contains_one (strOf x) b W
    rw [contains_said] at h1
    exact h1
  have hsz1 : (strOf x).size = x.length := str_size _
  have hx1 : 1 ≤ x.length := by
    have : x.length ≠ 0 := fun e => hne (List.eq_nil_of_length_eq_zero e)
    omega
  have HX := Lib.hid (strOf_last hne)
  have HFN := Lib.hid (fun s => findNode_any B g l nb cv s w HN.out)
  clear h hv hrow hci cs HN hne hcl hc0
  generalize (bSeek l (lastB x)).toNat = q at *
  generalize hz : strOf x = z at *
  have hz1 : 1 ≤ z.size := by omega
  have hz9 : z.size ≤ 9 := by omega
  have h3 : (z.size : Int) - 1 = ((z.size - 1 : Nat) : Int) := by omega
  clear hz hsz1 hx1
  go_enter Tryz.func28, Tryz.ntmps28
  go_wp2_with fail
  rw [HX.out]
  refine Calls.mono (HFN.out _ (by omega)) ?_
  rw [HP.out]
  rintro e w1 ⟨rfl, rfl⟩
  go_wp2
  go_loopw [6, 18] (fun o i wr => ∃ k : Nat, k ≤ l.length ∧ i = .int .i64 k ∧ o = .int .u64 (setF (fun i => decide (i < k) && lostX l x i) : Int) ∧ Hid (Below w.heap.size w wr))
    (fun _ i _ => l.length - (intOf i).toNat)
  case atStart => exact ⟨0, Nat.zero_le _, rfl, by rw [HZ.out]; rfl, Below.refl _ _⟩
  case round =>
    obtain ⟨k, hk, rfl, rfl, HB⟩ := hrel
    have hk0 : (0 : Int) ≤ (k : Int) := Int.natCast_nonneg _
    by_cases hlt : k < l.length
    · have hlt' : (k : Int) < (l.length : Int) := by omega
      have ck : wr.cell? ⟨g, k, none⟩ = some (.pointer (some ⟨nb k, 0, none⟩)) := (HB.out.cell (p := ⟨g, k, none⟩) hg).trans (HC.out k hlt)
      obtain ⟨n1, n2⟩ := HNM.out k hlt
      have nk : wr.cell? ⟨nb k, 0, none⟩ = some (.string ⟨#[byteOf l k]⟩) := (HB.out.cell (p := ⟨nb k, 0, none⟩) n1).trans n2
      have HL1 := Lib.hid (HLX.out k)
      have HSK : Hid (lostX l x k = false → setF (fun i => decide (i < k + 1) && lostX l x i) = setF (fun i => decide (i < k) && lostX l x i)) := fun h0 => setF_congr fun i _ => by
        by_cases hik : i = k
        · subst hik; rw [h0]; simp
        · rw [show decide (i < k + 1) = decide (i < k) from decide_eq_decide.2 (by omega)]
      have HSW : Hid (lostX l x k = true → setF (fun j => (decide (j < k) && lostX l x j) || decide (j = k)) = setF (fun i => decide (i < k + 1) && lostX l x i)) := fun h0 => setF_congr fun i _ => by
        by_cases hik : i = k
        · subst hik; rw [h0]; simp
        · rw [show decide (i < k + 1) = decide (i < k) from decide_eq_decide.2 (by omega), decide_eq_false hik, Bool.or_false]
      have HCK := Lib.hid (HCN.out (byteOf l k))
      have HKK := Lib.hid (fun W hb => HK.out k q W hb hlt hcb)
      clear n1 n2
      generalize byteOf l k = bt at *
      by_cases hm : bt ∈ x
      · rw [decide_eq_true hm] at HCK HL1
        generalize kindIx l k q = kd at *
        have hmx : Tryz.prog.follows .mixedOrders = true := by kernel_rfl
        go_wp2_with fail
        refine Calls.mono (HCK.out _) ?_
        rintro e w1 ⟨rfl, rfl⟩
        go_wp2_with fail
        refine (HKK.out _ HB.out).mono ?_
        rintro e w2 ⟨rfl, hb2⟩
        have HB2 : Hid (Below w.heap.size w w2) := HB.out.trans (hb2.mono HB.out.size)
        clear hb2 ck nk
        by_cases hq : kd = 2
        · have HS1 := Lib.hid (HSW.out (by rw [HL1.out, decide_eq_true hq]; rfl))
          subst hq
          have HW := Lib.hid (fun W => with_any (fun i => decide (i < k) && lostX l x i) k W (by omega))
          clear HSK HSW HL1 hm HCK
          go_wp2_with fail
          refine (HW.out _).mono ?_
          rw [HS1.out]
          rintro e w3 ⟨rfl, rfl⟩
          go_wp2
          go_roundw
          case rel => exact ⟨k + 1, by omega, by go_num, rfl, HB2⟩
          case measure => simp [intOf]; omega
        · have HS1 := Lib.hid (HSK.out (by rw [HL1.out, decide_eq_false hq]; rfl))
          have hq2 : (kd == 2) = false := by simpa using hq
          clear HSK HSW HL1 hm HCK hq
          go_wp2
          go_roundw
          case rel => exact ⟨k + 1, by omega, by go_num, by rw [HS1.out], HB2⟩
          case measure => simp [intOf]; omega
      · rw [decide_eq_false hm] at HCK HL1
        have HS1 := Lib.hid (HSK.out (by rw [HL1.out]; rfl))
        clear HSK HSW HL1 hm HKK
        go_wp2_with fail
        refine Calls.mono (HCK.out _) ?_
        rintro e w1 ⟨rfl, rfl⟩
        go_wp2
        go_roundw
        case rel => exact ⟨k + 1, by omega, by go_num, by rw [HS1.out], HB⟩
        case measure => simp [intOf]; omega
    · obtain rfl : k = l.length := by omega
      go_wp2
      go_ret
      exact ⟨rfl, HB.out⟩

set_option maxRecDepth 100000 in
set_option maxHeartbeats 2000000 in
theorem lostIn_any (A : Option Addr) (l : List Seg) (c : Nat) (t : ByteArray) (w : World) (hw : Segs w w.heap.size A l) (hl : l.length ≤ 1048576) (hlc : l.length ≤ c) (hcm : c ≤ 9223372036854775807) (hn : Short l) (ht : t.size ≤ 1048576) :
    Calls Tryz.prog 11 #[.slice A l.length c, .string t] w fun e w' => e = .returned (.tuple #[.string (lostRes l t), .bool (traceB l t.data.toList).isSome]) ∧ Below w.heap.size w w' := by
  have HW : Hid (Segs w w.heap.size A l) := hw
  have HQ := Lib.hid (implChainsOf_any A l c t w hw hl hlc hcm hn ht)
  unfold lostRes
  unfold ChainsResPost chainsRes at HQ
  cases hR : traceB l t.data.toList with
  | none =>
    rw [hR] at HQ
    clear hw hn hR
    go_enter Tryz.func11, Tryz.ntmps11
    go_wp2_with fail
    refine Calls.mono HQ.out ?_
    rintro e w2 ⟨v, rfl, -, hb⟩
    go_wp2
    go_ret2
    exact ⟨rfl, hb⟩
  | some f =>
    have HV := Lib.hid (traceB_some hR).1
    have h8 := (valid_all (traceB_some hR).1).2.1
    have HNL : Hid ((chainsB [rootB l] f).length = f.size) := chainsB_len f [rootB l]
    have HA : Hid (∀ x ∈ chainsB [rootB l] f, x ≠ [] ∧ x.length ≤ 9 ∧ callP l (lastB x) = true) := fun x hx => by
      obtain ⟨⟨y, u, v, rfl, _, hv⟩, h9⟩ := trace_two hR x hx
      exact ⟨by simp, h9, by rw [(ends_of y u v).1]; exact hv⟩
    have hsz := (traceB_size hR).1
    have HNO := Lib.hid (fun W h => nodesOf_any A l c W h hl hlc hcm hn HV.out)
    rw [hR] at HQ
    have HQ : Hid (Calls Tryz.prog 12 #[.slice A l.length c, .string t] w fun e w' => ∃ v, e = .returned (.tuple #[v, .bool true]) ∧ OwnTexts w' w.heap.size v ((chainsB [rootB l] f).map strOf) ∧ Below w.heap.size w w') := HQ
    clear hw hn hR
    show Calls Tryz.prog 11 #[.slice A l.length c, .string t] w fun e w' => e = .returned (.tuple #[.string (namesAt l (selIx (lostF l (chainsB [rootB l] f)) l.length)), .bool true]) ∧ Below w.heap.size w w'
    generalize chainsB [rootB l] f = xs at *
    have HTS : Hid ((xs.map strOf).length = xs.length) := List.length_map _
    have HC : Hid (∀ k (hk : k < xs.length), (xs.map strOf)[k]? = some (strOf xs[k])) := fun k hk => by rw [List.getElem?_map, List.getElem?_eq_getElem hk]; rfl
    have HZ : Hid (setF (lostF l (xs.take 0)) = 0) := by
      show setF (lostF l []) = 0
      rw [setF_congr (g := fun _ => false) (fun i _ => lostF_nil l i)]
      rfl
    generalize xs.map strOf = ts at *
    have htl : ts.length ≤ 80 := by rw [HTS.out, HNL.out]; exact hsz
    go_enter Tryz.func11, Tryz.ntmps11
    go_wp2_with fail
    refine Calls.mono HQ.out ?_
    rintro e w2 ⟨v, rfl, ho, hb⟩
    obtain ⟨A2, cap2, rfl, -⟩ := St.textsForm ho
    have HB := Lib.hid hb
    have HO := Lib.hid ho
    clear ho hb
    go_wp2_with fail
    refine (HNO.out _ ((HW.out.below HB.out).more HB.out.size)).mono ?_
    rintro e w3 ⟨g, nb, cv, rfl, hN, hb3⟩
    have HN := Lib.hid hN
    have HB3 : Hid (Below w.heap.size w w3) := HB.out.trans (hb3.mono HB.out.size)
    have HO3 : Hid (OwnTexts w3 w.heap.size (.slice A2 ts.length cap2) ts) := HO.out.below hb3
    clear hN hb3 HO HB HQ HNO
    go_wp2
    go_loopw [9, 24] (fun o i wr => ∃ k : Nat, k ≤ ts.length ∧ i = .int .i64 k ∧ o = .int .u64 (setF (lostF l (xs.take k)) : Int) ∧ Hid (Below w3.heap.size w3 wr))
      (fun _ i _ => ts.length - (intOf i).toNat)
    case atStart => exact ⟨0, Nat.zero_le _, rfl, by rw [HZ.out]; rfl, Below.refl _ _⟩
    case round =>
      obtain ⟨k, hk, rfl, rfl, HBr⟩ := hrel
      by_cases hlt : k < ts.length
      · have hkx : k < xs.length := by rw [← HTS.out]; exact hlt
        obtain ⟨hne, hx9, hcl⟩ := HA.out xs[k] (List.getElem_mem hkx)
        obtain ⟨b, o, hA2, hB2, hc⟩ := strsOf HO3.out (by omega)
        subst hA2
        have c0 : wr.cell? ⟨b, o + k, none⟩ = some (.string (strOf xs[k])) := (HBr.out.cell (p := ⟨b, o + k, none⟩) hB2).trans (hc k _ (HC.out k hkx))
        have HLA := Lib.hid (lostAt_any _ _ l nb cv xs[k] wr (HN.out.below HBr.out) HV.out hne hx9 hcl)
        have HSN : Hid (setF (fun j => lostF l (xs.take k) j || (decide (j < l.length) && lostX l xs[k] j)) = setF (lostF l (xs.take (k + 1)))) := setF_congr fun i _ => by
          rw [List.take_succ_eq_append_getElem hkx]
          exact (lostF_snoc l _ _ i).symm
        have HJ := Lib.hid (fun W => joined_any (lostF l (xs.take k)) (fun j => decide (j < l.length) && lostX l xs[k] j) W)
        clear hc hne hx9 hcl
        generalize strOf xs[k] = z at *
        go_wp2_with fail
        refine Calls.mono HLA.out ?_
        rintro e w4 ⟨rfl, hb4⟩
        have HB4 : Hid (Below w3.heap.size w3 w4) := HBr.out.trans (hb4.mono HBr.out.size)
        clear hb4 HLA
        go_wp2_with fail
        refine (HJ.out _).mono ?_
        rw [HSN.out]
        rintro e w5 ⟨rfl, rfl⟩
        go_wp2
        go_roundw
        case rel => exact ⟨k + 1, by omega, by go_num, rfl, HB4⟩
        case measure => simp [intOf]; omega
      · have hkl : k = ts.length := by omega
        have HE : Hid (lostF l (xs.take k) = lostF l xs) := by
          show _ = _
          rw [hkl, HTS.out, List.take_length]
        rw [HE.out]
        have HNM := Lib.hid (setNames_any _ _ l nb cv (lostF l xs) wr (HN.out.below HBr.out) HV.out)
        clear hkl HE
        go_wp2_with fail
        refine Calls.mono HNM.out ?_
        rintro e w4 ⟨rfl, hb4⟩
        have HB4 : Hid (Below w.heap.size w w4) := HB3.out.trans ((HBr.out.trans (hb4.mono HBr.out.size)).mono HB3.out.size)
        clear hb4
        go_wp2
        go_ret2
        exact ⟨rfl, HB4.out⟩

end Go.Proofs.YteokbgfiokbojaaGreat
