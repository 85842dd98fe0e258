/- Joined: Yy Ys Yo Yt. -/
import Derived.Test.YtcaegpjbdcopoaaU33
import Derived.Test.YtcaegpjbdcopoaaU14
import Derived.Test.YtcaegpjbdcopoaaU15
/- The segment that is loaded most often: both sides. -/
namespace Go.Proofs.Ytcaegpjbdcopoaa
open Go.RowKit

theorem busy_step (js : List Nat) (k : Nat) : busyIx js (k + 1) = if cntJ js (busyIx js k) < cntJ js k then k else busyIx js k := rfl
theorem busy_name {l : List Seg} {js : List Nat} (h1 : 1 ≤ l.length) : busyIx js l.length < l.length := busyIx_lt js l.length l.length (Nat.le_refl _) (by omega)
theorem names_one {l : List Seg} {i : Nat} (hi : i < l.length) : namesAt l [i] = l[i].name := by
  have h7 := namesAt_snoc (l := l) [] hi
  rw [List.nil_append] at h7
  rw [h7]
  apply ByteArray.ext
  apply Array.ext'
  rw [ByteArray.data_append, Array.toList_append]
  rfl

set_option maxRecDepth 100000 in
set_option maxHeartbeats 2000000 in
theorem specBusiestOf_any (A : Option Addr) (l : List Seg) (c : Nat) (t : ByteArray) (w : World) (hw : Segs w w.heap.size A l) (hl : l.length ≤ 1048576) (hn : Short l) (ht : t.size ≤ 1048576) :
    Calls Try.prog 37 #[.slice A l.length c, .string t] w fun e w' => e = .returned (.tuple #[.string (busyStr l t), .bool (traceB l t.data.toList).isSome]) ∧ Below w.heap.size w w' := by
  have HW : Hid (Segs w w.heap.size A l) := hw
  have HQ := Lib.hid (specLoadCounts_any A l c t w hw hl hn ht)
  unfold TallyPost tallyRes at HQ
  cases hR : traceB l t.data.toList with
  | none =>
    have HE : Hid (busyStr l t = ⟨#[]⟩) := by
      show _ = _
      unfold busyStr
      rw [hR]
    rw [hR] at HQ
    clear hw hn hR
    go_enter Try.func37, Try.ntmps37
    go_wp2_with fail
    refine Calls.mono HQ.out ?_
    rintro e w2 ⟨v, rfl, -, hb⟩
    go_wp2
    go_ret2
    exact ⟨ret_two HE.out.symm rfl, hb⟩
  | some f =>
    obtain ⟨hv, h80, hcl⟩ := traceB_some hR
    have h1 := (valid_all hv).2.2
    have h8 := (valid_all hv).2.1
    have HE : Hid (busyStr l t = (l[busyIx (ixF l f) l.length]'(busy_name h1)).name) := by
      show _ = _
      unfold busyStr
      rw [hR]
      exact names_one _
    rw [hR] at HQ
    have HQ2 : Hid (Calls Try.prog 28 #[.slice A l.length c, .string t] w fun e w' => ∃ v, e = .returned (.tuple #[v, .bool true]) ∧ Si.OwnInts w' w.heap.size v (tallyRow l (ixF l f)) ∧ Below w.heap.size w w') := HQ
    clear hw hn hR h80 hcl hv HQ
    generalize ixF l f = js at *
    go_enter Try.func37, Try.ntmps37
    go_wp2_with fail
    refine Calls.mono HQ2.out ?_
    rintro e w2 ⟨v, rfl, ho, hb⟩
    have hlen := tallyRow_len l js
    rcases ho.2 with ⟨rfl, h0⟩ | ⟨g, cap, cur, rfl, r⟩
    · rw [hlen] at h0; omega
    · have HO : Hid (Si.OwnInts w2 w.heap.size (.slice (some ⟨g, 0, none⟩) (tallyRow l js).length cap) (tallyRow l js)) := ho
      have HB := Lib.hid hb
      have HC : Hid (∀ k, k < l.length → w2.cell? ⟨g, k, none⟩ = some (.int .i64 (cntJ js k : Int))) := fun k hk => Si.intsCell ho (tallyRow_at l js hk)
      rw [hlen]
      have HW2 : Hid (Segs w2 w.heap.size A l) := HW.out.below hb
      clear ho r hb hlen HQ2
      go_wp2
      go_loop [8, 21] (fun b i => ∃ k : Nat, k ≤ l.length ∧ i = .int .i64 k ∧ b = .int .i64 (busyIx js k : Nat))
        (fun _ i => l.length - (intOf i).toNat)
      case atStart => exact ⟨0, Nat.zero_le _, rfl, rfl⟩
      case round =>
        obtain ⟨k, hk, rfl, rfl⟩ := hrel
        by_cases hlt : k < l.length
        · have hlt' : (k : Int) < (l.length : Int) := by omega
          have c1 := HC.out k hlt
          have hbl := busyIx_lt js k l.length hk (by omega)
          have hbl' : (busyIx js k : Int) < (l.length : Int) := by omega
          have hb0 : (0 : Int) ≤ (busyIx js k : Int) := Int.natCast_nonneg _
          have c2 := HC.out _ hbl
          have HS := Lib.hid (busy_step js k)
          by_cases hcmp : cntJ js (busyIx js k) < cntJ js k
          · have hcm' : (cntJ js (busyIx js k) : Int) < (cntJ js k : Int) := by omega
            have HS1 : Hid (busyIx js (k + 1) = k) := by show _ = _; rw [HS.out, if_pos hcmp]
            clear HS hcmp
            generalize cntJ js (busyIx js k) = p at *
            generalize cntJ js k = q at *
            generalize busyIx js k = bi at *
            go_wp2
            go_round
            case rel => exact ⟨k + 1, by omega, by go_num, by rw [HS1.out]⟩
            case measure => simp [intOf]; omega
          · have hcm' : ¬ (cntJ js (busyIx js k) : Int) < (cntJ js k : Int) := by omega
            have HS1 : Hid (busyIx js (k + 1) = busyIx js k) := by show _ = _; rw [HS.out, if_neg hcmp]
            clear HS hcmp
            generalize cntJ js (busyIx js k) = p at *
            generalize cntJ js k = q at *
            generalize hbi : busyIx js k = bi at *
            have HBI := Lib.hid hbi
            clear hbi
            go_wp2
            go_round
            case rel => exact ⟨k + 1, by omega, by go_num, by rw [HS1.out]⟩
            case measure => simp [intOf]; omega
        · obtain rfl : k = l.length := by omega
          have hbl := busy_name (js := js) h1
          obtain ⟨b, o, rfl, hBb, hc⟩ := HW2.out (by omega)
          obtain ⟨e1, e2, e3⟩ := hc _ _ (List.getElem?_eq_getElem hbl)
          have hb0 : (0 : Int) ≤ (busyIx js l.length : Int) := Int.natCast_nonneg _
          have hbl' : (busyIx js l.length : Int) < (l.length : Int) := by omega
          have HE2 := HE
          clear hc HE
          generalize (l[busyIx js l.length]'hbl).name = nm at *
          go_wp2
          go_ret2
          exact ⟨ret_two HE2.out.symm rfl, HB.out⟩

set_option maxRecDepth 100000 in
set_option maxHeartbeats 2000000 in
theorem busiestOf_any (A : Option Addr) (l : List Seg) (c : Nat) (t : ByteArray) (w : World) (hw : Segs w w.heap.size A l) (hl : l.length ≤ 1048576) (hlc : l.length ≤ c) (hcm : c ≤ 9223372036854775807) (hn : Short l) (ht : t.size ≤ 1048576) :
    Calls Try.prog 38 #[.slice A l.length c, .string t] w fun e w' => e = .returned (.tuple #[.string (busyStr l t), .bool (traceB l t.data.toList).isSome]) ∧ Below w.heap.size w w' := by
  have HW : Hid (Segs w w.heap.size A l) := hw
  have HQ := Lib.hid (tallyLoads_any A l c t w hw hl hlc hcm hn ht)
  cases hR : traceB l t.data.toList with
  | none =>
    have HE : Hid (busyStr l t = ⟨#[]⟩) := by
      show _ = _
      unfold busyStr
      rw [hR]
    rw [hR] at HQ
    clear hw hn hR
    unfold intV intC at HQ
    go_enter Try.func38, Try.ntmps38
    go_wp2_with fail
    refine Calls.mono HQ.out ?_
    rintro e w2 ⟨rfl, hb⟩
    have HB := Lib.hid (hb.alloc hb.size (.cells (intC (tlF l t)) 92))
    unfold intC at HB
    clear hb
    go_wp2
    go_ret2
    exact ⟨ret_two HE.out.symm rfl, HB.out⟩
  | some f =>
    obtain ⟨hv, h80, hcl⟩ := traceB_some hR
    have h1 := (valid_all hv).2.2
    have h8 := (valid_all hv).2.1
    have HE : Hid (busyStr l t = (l[busyIx (ixF l f) l.length]'(busy_name h1)).name) := by
      show _ = _
      unfold busyStr
      rw [hR]
      exact names_one _
    have HTF : Hid (∀ k, k < l.length → tlF l t k = (cntJ (ixF l f) k : Int)) := fun k hk => by rw [tlF_some hR, if_pos hk]
    rw [hR] at HQ
    clear hw hn hR h80 hcl hv
    generalize ixF l f = js at *
    generalize tlF l t = F at *
    unfold intV intC at HQ
    go_enter Try.func38, Try.ntmps38
    go_wp2_with fail
    refine Calls.mono HQ.out ?_
    rintro e w2 ⟨rfl, hb⟩
    have HB : Hid (Below w.heap.size w (w2.alloc (.cells #[.int .i64 (F 0), .int .i64 (F 1), .int .i64 (F 2), .int .i64 (F 3), .int .i64 (F 4), .int .i64 (F 5), .int .i64 (F 6), .int .i64 (F 7)] 92))) := hb.alloc hb.size _
    have HRT : Hid (Row (w2.alloc (.cells #[.int .i64 (F 0), .int .i64 (F 1), .int .i64 (F 2), .int .i64 (F 3), .int .i64 (F 4), .int .i64 (F 5), .int .i64 (F 6), .int .i64 (F 7)] 92)) w2.heap.size 92 (intC F)) := Row.new w2 _ _
    clear hb HQ
    go_wp2
    generalize (w2.alloc (.cells #[.int .i64 (F 0), .int .i64 (F 1), .int .i64 (F 2), .int .i64 (F 3), .int .i64 (F 4), .int .i64 (F 5), .int .i64 (F 6), .int .i64 (F 7)] 92)) = W3 at *
    have HW3 : Hid (Segs W3 w.heap.size A l) := HW.out.below HB.out
    have hmx : Try.prog.follows .mixedOrders = true := by kernel_rfl
    go_loopw [8, 20] (fun b i wr => ∃ k : Nat, k ≤ l.length ∧ i = .int .i64 k ∧ b = .int .i64 (busyIx js k : Nat) ∧ Hid (Below W3.heap.size W3 wr))
      (fun _ i _ => l.length - (intOf i).toNat)
    case atStart => exact ⟨0, Nat.zero_le _, rfl, rfl, Below.refl _ _⟩
    case round =>
      obtain ⟨k, hk, rfl, rfl, HBk⟩ := hrel
      have hrk := HRT.out.below HBk.out HRT.out.lt
      by_cases hlt : k < l.length
      · have hlt' : (k : Int) < (l.length : Int) := by omega
        have hbl := busyIx_lt js k l.length hk (by omega)
        have hk8 : (k : Int) < 8 := by omega
        have hb8 : (busyIx js k : Int) < 8 := by omega
        have hk0 : (0 : Int) ≤ (k : Int) := Int.natCast_nonneg _
        have hb0 : (0 : Int) ≤ (busyIx js k : Int) := Int.natCast_nonneg _
        have c1 : wr.cell? ⟨w2.heap.size, k, none⟩ = some (.int .i64 (cntJ js k : Int)) := by rw [hrk.cell, ints_at _ (by omega), HTF.out k hlt]
        have c2 : wr.cell? ⟨w2.heap.size, busyIx js k, none⟩ = some (.int .i64 (cntJ js (busyIx js k) : Int)) := by rw [hrk.cell, ints_at _ (by omega), HTF.out _ hbl]
        have HS := Lib.hid (busy_step js k)
        have HBD := Lib.hid (HBk.out.drew)
        by_cases hcmp : cntJ js (busyIx js k) < cntJ js k
        · have hcm' : (cntJ js (busyIx js k) : Int) < (cntJ js k : Int) := by omega
          have HS1 : Hid (busyIx js (k + 1) = k) := by show _ = _; rw [HS.out, if_pos hcmp]
          clear HS hcmp hrk hbl
          generalize cntJ js (busyIx js k) = p at *
          generalize cntJ js k = q at *
          generalize hbi : busyIx js k = bi at *
          have HBI := Lib.hid hbi
          clear hbi
          go_wp2
          go_region
          all_goals (
            go_wp2
            go_roundw
            case rel => exact ⟨k + 1, by omega, by go_num, by rw [HS1.out], HBD⟩
            case measure => simp [intOf]; omega)
        · have hcm' : ¬ (cntJ js (busyIx js k) : Int) < (cntJ js k : Int) := by omega
          have HS1 : Hid (busyIx js (k + 1) = busyIx js k) := by show _ = _; rw [HS.out, if_neg hcmp]
          clear HS hcmp hrk hbl
          generalize cntJ js (busyIx js k) = p at *
          generalize cntJ js k = q at *
          generalize hbi : busyIx js k = bi at *
          have HBI := Lib.hid hbi
          clear hbi
          go_wp2
          go_region
          all_goals (
            go_wp2
            go_roundw
            case rel => exact ⟨k + 1, by omega, by go_num, by rw [HS1.out], HBD⟩
            case measure => simp [intOf]; omega)
      · obtain rfl : k = l.length := by omega
        have hbl := busy_name (js := js) h1
        obtain ⟨b, o, rfl, hBb, hc⟩ := (HW3.out.below (HBk.out.mono HB.out.size)) (by omega)
        obtain ⟨e1, e2, e3⟩ := hc _ _ (List.getElem?_eq_getElem hbl)
        have hb0 : (0 : Int) ≤ (busyIx js l.length : Int) := Int.natCast_nonneg _
        have hbl' : (busyIx js l.length : Int) < (l.length : Int) := by omega
        have HE2 := HE
        have HBF := Lib.hid (HB.out.trans (HBk.out.mono HB.out.size))
        clear hc HE hrk
        generalize (l[busyIx js l.length]'hbl).name = nm at *
        go_wp2
        go_ret2
        exact ⟨ret_two HE2.out.symm rfl, HBF.out⟩

end Go.Proofs.Ytcaegpjbdcopoaa
/- The walk of the law FnExactBusiestOf. -/
namespace Go.Proofs.Ytcaegpjbdcopoaa
open Go.RowKit

set_option maxRecDepth 100000 in
set_option maxHeartbeats 400000 in
theorem lawBusiestOf_any (A : Option Addr) (l : List Seg) (c : Nat) (s : ByteArray) (w : World) (hw : Segs w w.heap.size A l) (hl : l.length ≤ maxLen) (hn : Short l) (hsz : s.size ≤ maxLen) :
    Calls Try.prog 9 #[.slice A l.length c, .string s] w fun e w' => e = .returned (.bool true) ∧ Below w.heap.size w w' := by
  have HW : Hid (Segs w w.heap.size A l) := hw
  clear hw
  unfold maxLen at hsz
  by_cases hbigs : 1048576 < s.size
  · go_enter Try.func9, Try.ntmps9
    go_wp2
    go_ret
    exact ⟨rfl, Below.refl _ _⟩
  by_cases hs : sizeLeft l < 0
  · go_enter Try.func9, Try.ntmps9
    go_wp2_with fail
    refine (szSegmentS_any _ _ _ _ HW.out hl hn).mono ?_
    rintro e w1 ⟨rfl, hb1⟩
    go_wp2
    go_ret
    exact ⟨rfl, hb1⟩
  · have hlen := sizeLeft_len hs
    go_enter Try.func9, Try.ntmps9
    go_wp2_with fail
    refine (szSegmentS_any _ _ _ _ HW.out hl hn).mono ?_
    rintro e w1 ⟨rfl, hb1⟩
    have hs1 := (HW.out.below hb1).more hb1.size
    go_wp2_with fail
    refine (toSegmentS_any _ _ _ _ hs1 hlen).mono ?_
    rintro e w2 ⟨rfl, hb2, hx2⟩
    have B2 : Below w.heap.size w w2 := hb1.trans (hb2.mono hb1.size)
    clear hb2 hs1
    go_wp2_with fail
    refine (specBusiestOf_any _ _ _ _ _ hx2 hlen hn (Nat.le_of_not_lt hbigs)).mono ?_
    rintro e w3 ⟨rfl, hb3⟩
    have B3 : Below w.heap.size w w3 := B2.trans (hb3.mono B2.size)
    clear hb3 hx2 B2
    have hs3 := (HW.out.below B3).more B3.size
    go_wp2_with fail
    refine (toSegmentS_any _ _ _ _ hs3 hlen).mono ?_
    rintro e w4 ⟨rfl, hb4, hx4⟩
    have B4 : Below w.heap.size w w4 := B3.trans (hb4.mono B3.size)
    clear hb4 hs3
    go_wp2_with fail
    refine (busiestOf_any _ _ _ _ _ hx4 hlen (Nat.le_refl _) (Nat.le_trans hlen (by decide)) hn (Nat.le_of_not_lt hbigs)).mono ?_
    rintro e w5 ⟨rfl, hb5⟩
    have B5 : Below w.heap.size w w5 := B4.trans (hb5.mono B4.size)
    have hx5 := (hx4.below hb5).more hb5.size
    clear hb5 hx4 B4
    have hs5 := (HW.out.below B5).more B5.size
    go_wp2_with fail
    refine (toSegmentS_any _ _ _ _ hs5 hlen).mono ?_
    rintro e w6 ⟨rfl, hb6, hx6⟩
    have B6 : Below w.heap.size w w6 := B5.trans (hb6.mono B5.size)
    have hx7 := (hx5.below hb6).more hb6.size
    clear hb6 hs5 hx5 B5
    go_wp2_with fail
    refine (eqSegmentS_same _ _ _ _ _ _ hx7 hx6 hlen).mono ?_
    rintro e w7 ⟨rfl, hb7⟩
    have B7 : Below w.heap.size w w7 := B6.trans (hb7.mono B6.size)
    clear hb7 hx6 hx7 B6
    go_wp2
    go_ret
    exact ⟨rfl, B7⟩

end Go.Proofs.Ytcaegpjbdcopoaa
/- How often each segment is loaded: the program's slice of an array, and marks in it. -/
namespace Go.Proofs.Ytcaegpjbdcopoaa.Sj
open Go.RowKit Go.Proofs.Ytcaegpjbdcopoaa.Si

/-- Numbers in a row of the call's own. -/
def OwnInts (w : World) (B : Nat) (v : Value) (ts : List Int) : Prop := w.ownsRow B 92 1 v ts.length (ts.map (Value.int .i64))
theorem OwnInts.far {w w' : World} {B : Nat} {v : Value} {ts : List Int} (h : OwnInts w B v ts) (hk : ∀ g, v.ownBlock = some g → w'.heap[g]? = w.heap[g]?) : OwnInts w' B v ts := by
  refine ⟨h.1, ?_⟩
  rcases h.2 with h0 | ⟨g', cap, cur, rfl, hg, hh, r⟩
  · exact .inl h0
  · exact .inr ⟨g', cap, cur, rfl, hg, (hk g' rfl).trans hh, r⟩
theorem OwnInts.below {w w' : World} {B : Nat} {v : Value} {ts : List Int} (h : OwnInts w B v ts) (hb : Below w.heap.size w w') : OwnInts w' B v ts := h.far fun g hg => hb.block g (World.ownsRow.lt h g hg).2
theorem intsCell {w : World} {B g cap : Nat} {ts : List Int} (h : OwnInts w B (.slice (some ⟨g, 0, none⟩) ts.length cap) ts) {i : Nat} {s : Int} (hi : ts[i]? = some s) : w.cell? ⟨g, i, none⟩ = some (.int .i64 s) := by
  have hlt := (List.getElem?_eq_some_iff.1 hi).1
  have := World.ownsRow.cellAt h i (by omega)
  rw [this, List.getElem?_map, hi]
  rfl
theorem intsForm {w : World} {B : Nat} {v : Value} {ts : List Int} (h : OwnInts w B v ts) : ∃ A cap, v = .slice A ts.length cap ∧ Ints w w.heap.size A ts := by
  have h' := h
  rcases h.2 with ⟨rfl, h0⟩ | ⟨g, cap, cur, rfl, hg, hh, r⟩
  · exact ⟨none, 0, by rw [h0], fun h => absurd h (by omega)⟩
  · refine ⟨_, cap, rfl, fun _ => ⟨g, 0, rfl, (Array.getElem?_eq_some_iff.1 hh).1, fun k s hk => ?_⟩⟩
    rw [Nat.zero_add]
    exact intsCell h' hk
theorem intsOf {w : World} {B n cap : Nat} {A : Option Addr} {ts : List Int} (h : OwnInts w B (.slice A n cap) ts) : Ints w w.heap.size A ts := by
  obtain ⟨A', cap', e, h'⟩ := intsForm h
  injection e with e1 e2 e3
  rw [e1]
  exact h'
theorem intsFree {w : World} {B g cap n : Nat} {ts : List Int} (h : OwnInts w B (.slice (some ⟨g, 0, none⟩) n cap) ts) (j : Nat) : w.frozen? ⟨g, j, none⟩ = false := by
  rcases h.2 with ⟨h0, _⟩ | ⟨g', cap', cur, hv, hg, hh, _⟩
  · cases h0
  · injection hv with hv1 _ hv3
    injection hv1 with hv1
    injection hv1 with hv1
    subst hv1
    exact Row.free (hh : Row w g _ cur) j
theorem intsStore {w : World} {B g cap : Nat} {ts : List Int} (h : OwnInts w B (.slice (some ⟨g, 0, none⟩) ts.length cap) ts) (i : Nat) (s : Int) :
    OwnInts (w.setCell ⟨g, i, none⟩ (.int .i64 s)) B (.slice (some ⟨g, 0, none⟩) ts.length cap) (ts.set i s) := by
  unfold OwnInts at h ⊢
  rw [List.length_set]
  refine ⟨by simp, ?_⟩
  rcases h.2 with ⟨h0, _⟩ | ⟨g', cap', cur, hv, hg, hh, h1, h2, h3, h4⟩
  · cases h0
  · injection hv with hv1 _ hv3
    injection hv1 with hv1
    injection hv1 with hv1
    subst hv1 hv3
    have hr : Row w g 92 cur := hh
    refine .inr ⟨g, cap, _, rfl, hg, hr.put i _, h1, h2, by simpa using h3, ?_⟩
    rw [List.map_set, ← h4]
    simp only [Array.toList_setIfInBounds, List.take_set]
theorem intsFar {w w' : World} {B : Nat} {v : Value} {ts : List Int} {may : Nat → Prop} (h : OwnInts w B v ts) (ho : Only w w' may) (hm : ∀ g, v.ownBlock = some g → ¬ may g) : OwnInts w' B v ts :=
  h.far fun g hg => ho.block g (World.ownsRow.lt h g hg).2 (hm g hg)

set_option maxRecDepth 100000 in
set_option maxHeartbeats 1000000 in
theorem markIntS_any (B k : Nat) (v : Value) (l : List Int) (w : World) (hown : OwnInts w B v l) (hk : k = 1) (hl : l.length ≤ 1000) :
    Calls Try.prog 31 #[v, .int .i64 k] w fun e w' => e = .returned (.int .i64 ((k + l.length : Nat) : Int)) ∧ OwnInts w' B v (imarked l k l.length) ∧ Only w w' (fun b => v.ownBlock = some b) := by
  have hk9 : k ≤ 10 := by omega
  clear hk
  obtain ⟨A, cap, rfl, -⟩ := intsForm hown
  have HO := Lib.hid hown
  clear hown
  go_enter Try.func31, Try.ntmps31
  go_wp2
  go_loopw [1, 5] (fun a c wr => ∃ (i : Nat), i ≤ l.length ∧ c = .int .i64 i ∧ a = .int .i64 ((k + i : Nat) : Int) ∧ Hid (OwnInts wr B (.slice A l.length cap) (imarked l k i)) ∧ Hid (Only w wr (fun b => (Value.slice A l.length cap).ownBlock = some b)))
    (fun _ c _ => l.length - (intOf c).toNat)
  case atStart => exact ⟨0, Nat.zero_le _, rfl, rfl, HO, St.onlyRefl _ _⟩
  case round =>
    obtain ⟨i, hi, rfl, rfl, HT, HY⟩ := hrel
    by_cases hlt : i < l.length
    · have hlt' : (i : Int) < (l.length : Int) := by omega
      have hi0 : (0 : Int) ≤ (i : Int) := Int.natCast_nonneg _
      have hml := imarked_len l k i
      have hT := HT.out
      rw [← hml] at hT
      obtain ⟨g, cap', hv⟩ := own_form hT (by omega)
      injection hv with hA _ hc
      subst hA hc
      have hold : (imarked l k i)[i]? = some ((imarked l k i)[i]'(by omega)) := List.getElem?_eq_getElem (by omega)
      have hst := fun W (hW : OwnInts W B (.slice (some ⟨g, 0, none⟩) (imarked l k i).length cap) (imarked l k i)) => intsStore hW i ((k + i : Nat) : Int)
      generalize (imarked l k i)[i]'_ = old at *
      have d0 := intsCell hT hold
      have z0 := intsFree hT i
      have hT2 := hst wr hT
      rw [hml] at hT2
      have HT2 : Hid (OwnInts (wr.setCell ⟨g, i, none⟩ (.int .i64 ((k + i : Nat) : Int))) B (.slice (some ⟨g, 0, none⟩) l.length cap) (imarked l k (i + 1))) := hT2
      clear hT hst hold hml hT2 HT
      go_wp2
      go_roundw
      case rel => exact ⟨i + 1, by omega, by go_num, congrArg (Value.int .i64) (by omega), HT2, St.onlyPut HY.out rfl _ _⟩
      case measure => simp [intOf]; omega
    · obtain rfl : i = l.length := by omega
      go_wp2
      go_ret
      exact ⟨rfl, HT.out, HY.out⟩

theorem imark1 (B : Nat) (v : Value) (l : List Int) (w : World) (hown : OwnInts w B v l) (hl : l.length ≤ 1000) :
    Calls Try.prog 31 #[v, .int .i64 1] w fun e w' => e = .returned (.int .i64 ((1 + l.length : Nat) : Int)) ∧ OwnInts w' B v (imarked l 1 l.length) ∧ Only w w' (fun b => v.ownBlock = some b) :=
  markIntS_any B 1 v l w hown rfl hl
end Go.Proofs.Ytcaegpjbdcopoaa.Sj

namespace Go.Proofs.Ytcaegpjbdcopoaa
open Go.RowKit

def TallyPostI (w : World) (l : List Seg) (t : ByteArray) (e : Ending) (w' : World) : Prop :=
  ∃ v, e = .returned (.tuple #[v, .bool (traceB l t.data.toList).isSome]) ∧ Sj.OwnInts w' w.heap.size v (tallyRes l t) ∧ Below w.heap.size w w'
theorem own_tally {W : World} {B q : Nat} {F : Nat → Int} (h : Row W q 92 (intC F)) (hB : B ≤ q) {ts : List Int} (h8 : ts.length ≤ 8) (hF : ∀ k, k < ts.length → ts[k]? = some (F k)) : Sj.OwnInts W B (.slice (some ⟨q, 0, none⟩) ts.length 8) ts := by
  refine ⟨by simp, .inr ⟨q, 8, intC F, rfl, hB, h, h8, by unfold maxLen; omega, rfl, ?_⟩⟩
  apply List.ext_getElem?
  intro k
  rw [List.getElem?_take]
  by_cases hk : k < ts.length
  · rw [if_pos (by omega), List.getElem?_map, hF k hk, Array.getElem?_toList, ints_at _ (by omega)]
    rfl
  · rw [if_neg (by omega), List.getElem?_eq_none (by rw [List.length_map]; omega)]

set_option maxRecDepth 100000 in
set_option maxHeartbeats 2000000 in
theorem loadCounts_any (A : Option Addr) (l : List Seg) (c : Nat) (t : ByteArray) (w : World) (hw : Segs w w.heap.size A l) (hl : l.length ≤ 1048576) (hlc : l.length ≤ c) (hcm : c ≤ 9223372036854775807) (hn : Short l) (ht : t.size ≤ 1048576) :
    Calls Try.prog 29 #[.slice A l.length c, .string t] w (TallyPostI w l t) := by
  have HQ := Lib.hid (tallyLoads_any A l c t w hw hl hlc hcm hn ht)
  unfold TallyPostI tallyRes
  cases hR : traceB l t.data.toList with
  | none =>
    rw [hR] at HQ
    have HE : Hid (∀ W : World, Below w.heap.size w W → ∃ v, Ending.returned (.tuple #[.slice none 0 0, .bool false]) = .returned (.tuple #[v, .bool (none : Option Forest).isSome]) ∧ Sj.OwnInts W w.heap.size v [] ∧ Below w.heap.size w W) :=
      fun W hb => ⟨_, rfl, World.ownsRow_nil W _ _ 1, hb⟩
    clear hw hn hR
    unfold intV intC at HQ
    go_enter Try.func29, Try.ntmps29
    go_wp2_with fail
    refine Calls.mono HQ.out ?_
    rintro e w2 ⟨rfl, hb⟩
    have HB := Lib.hid (hb.alloc hb.size (.cells (intC (tlF l t)) 92))
    unfold intC at HB
    clear hb
    go_wp2
    go_ret2
    exact HE.out _ HB.out
  | some f =>
    obtain ⟨hv, h80, hcl⟩ := traceB_some hR
    have h8 := (valid_all hv).2.1
    have HTF : Hid (∀ k, k < l.length → tlF l t k = (cntJ (ixF l f) k : Int)) := fun k hk => by rw [tlF_some hR, if_pos hk]
    have hlen := tallyRow_len l (ixF l f)
    have HE : Hid (∀ (q : Nat) (W : World), Row W q 92 (intC (tlF l t)) → w.heap.size ≤ q → Below w.heap.size w W → ∃ u, Ending.returned (.tuple #[.slice (some ⟨q, 0, none⟩) l.length 8, .bool true]) = .returned (.tuple #[u, .bool (some f).isSome]) ∧ Sj.OwnInts W w.heap.size u (tallyRow l (ixF l f)) ∧ Below w.heap.size w W) :=
      fun q W h1 h2 h3 => ⟨_, rfl, by
        have := own_tally (ts := tallyRow l (ixF l f)) h1 h2 (by omega) (fun k hk => by rw [HTF.out k (by omega)]; exact tallyRow_at l _ (by omega))
        rw [hlen] at this
        exact this, h3⟩
    rw [hR] at HQ
    clear hw hn hR h80 hcl hv HTF hlen
    generalize tlF l t = F at *
    unfold intV intC at HQ
    go_enter Try.func29, Try.ntmps29
    go_wp2_with fail
    refine Calls.mono HQ.out ?_
    rintro e w2 ⟨rfl, hb⟩
    have HB : Hid (Below w.heap.size w (w2.alloc (.cells #[.int .i64 (F 0), .int .i64 (F 1), .int .i64 (F 2), .int .i64 (F 3), .int .i64 (F 4), .int .i64 (F 5), .int .i64 (F 6), .int .i64 (F 7)] 92))) := hb.alloc hb.size _
    have HRT : Hid (Row (w2.alloc (.cells #[.int .i64 (F 0), .int .i64 (F 1), .int .i64 (F 2), .int .i64 (F 3), .int .i64 (F 4), .int .i64 (F 5), .int .i64 (F 6), .int .i64 (F 7)] 92)) w2.heap.size 92 (intC F)) := Row.new w2 _ _
    have HZ : Hid (w.heap.size ≤ w2.heap.size) := hb.size
    have h0 : (0 : Int) ≤ (l.length : Int) := Int.natCast_nonneg _
    have h8' : (l.length : Int) ≤ 8 := by omega
    clear hb HQ
    go_wp2
    go_ret2
    exact HE.out _ _ HRT.out HZ.out HB.out

end Go.Proofs.Ytcaegpjbdcopoaa
/- The walk of the law FnExactLoadCounts. -/
namespace Go.Proofs.Ytcaegpjbdcopoaa
open Go.RowKit

theorem tallyRes_le (l : List Seg) (t : ByteArray) : (tallyRes l t).length ≤ 80 := by
  unfold tallyRes
  cases hR : traceB l t.data.toList with
  | none => exact Nat.zero_le _
  | some f =>
    show (tallyRow l _).length ≤ 80
    rw [tallyRow_len]
    have := (valid_all (traceB_some hR).1).2.1
    omega

set_option maxRecDepth 100000 in
set_option maxHeartbeats 4000000 in
theorem lawLoadCounts_any (A : Option Addr) (l : List Seg) (c : Nat) (s : ByteArray) (w : World) (hw : Segs w w.heap.size A l) (hl : l.length ≤ maxLen) (hn : Short l) (hsz : s.size ≤ maxLen) :
    Calls Try.prog 6 #[.slice A l.length c, .string s] w fun e w' => e = .returned (.bool true) ∧ Below w.heap.size w w' := by
  have HW : Hid (Segs w w.heap.size A l) := hw
  clear hw
  unfold maxLen at hsz
  by_cases hbigs : 1048576 < s.size
  · go_enter Try.func6, Try.ntmps6
    go_wp2
    go_ret
    exact ⟨rfl, Below.refl _ _⟩
  by_cases hs : sizeLeft l < 0
  · go_enter Try.func6, Try.ntmps6
    go_wp2_with fail
    refine (szSegmentS_any _ _ _ _ HW.out hl hn).mono ?_
    rintro e w1 ⟨rfl, hb1⟩
    go_wp2
    go_ret
    exact ⟨rfl, hb1⟩
  · have hlen := sizeLeft_len hs
    have hst := tallyRes_le l s
    have hlm : l.length ≤ 9223372036854775807 := Nat.le_trans hlen (by decide)
    have HSP := Lib.hid (fun A c w h => specLoadCounts_any A l c s w h hlen hn (Nat.le_of_not_lt hbigs))
    have HIM := Lib.hid (fun A w h => loadCounts_any A l l.length s w h hlen (Nat.le_refl _) hlm hn (Nat.le_of_not_lt hbigs))
    unfold TallyPost at HSP
    unfold TallyPostI at HIM
    go_enter Try.func6, Try.ntmps6
    go_wp2_with fail
    refine (szSegmentS_any _ _ _ _ HW.out hl hn).mono ?_
    rintro e w1 ⟨rfl, hb1⟩
    have hs1 := (HW.out.below hb1).more hb1.size
    have HB1 : Hid (Below w.heap.size w w1) := hb1
    clear hb1
    generalize sizeLeft l = lft at *
    go_wp2_with fail
    refine (toSegmentS_any _ _ _ _ hs1 hlen).mono ?_
    rintro e w2 ⟨rfl, hb2, hx2⟩
    have HB2 : Hid (Below w.heap.size w w2) := HB1.out.trans (hb2.mono HB1.out.size)
    have HX2 := Lib.hid hx2
    clear hb2 hs1 hx2 HB1
    generalize tallyRes l s = ts at *
    generalize (traceB l s.data.toList).isSome = d at *
    go_wp2_with fail
    refine (HSP.out _ _ _ HX2.out).mono ?_
    rintro e w3 ⟨v0, rfl, ho3, hb3⟩
    obtain ⟨A0, cap0, rfl, -⟩ := Si.intsForm ho3
    have HB3 : Hid (Below w.heap.size w w3) := HB2.out.trans (hb3.mono HB2.out.size)
    have HO3 : Hid (Si.OwnInts w3 w2.heap.size (.slice A0 ts.length cap0) ts) := ho3
    have HS3 : Hid (Segs w3 w3.heap.size A l) := (HW.out.below HB3.out).more HB3.out.size
    clear hb3 ho3 HX2 HSP
    go_wp2_with fail
    refine (St.toSegmentS_row _ _ _ _ HS3.out hlen).mono ?_
    rintro e w4 ⟨rfl, hb4, hx4, cs, hr4, hcs⟩
    have HB4 : Hid (Below w.heap.size w w4) := HB3.out.trans (hb4.mono HB3.out.size)
    have HO4 : Hid (Si.OwnInts w4 w2.heap.size (.slice A0 ts.length cap0) ts) := HO3.out.below hb4
    have HL4 : Hid (∀ g, (Value.slice A0 ts.length cap0).ownBlock = some g → g < w3.heap.size) := fun g hg => (World.ownsRow.lt HO3.out g hg).2
    have HX4 := Lib.hid hx4
    have HR4 := Lib.hid hr4
    have HCS := Lib.hid hcs
    have HZ4 : Hid (w3.heap.size < w4.heap.size) := hr4.lt
    clear hb4 hx4 hr4 hcs HS3 HO3
    go_wp2_with fail
    refine (HIM.out _ _ HX4.out).mono ?_
    rintro e w5 ⟨v1, rfl, ho5, hb5⟩
    obtain ⟨A1, cap1, rfl, hf5⟩ := Sj.intsForm ho5
    have HB5 : Hid (Below w.heap.size w w5) := HB4.out.trans (hb5.mono HB4.out.size)
    have HO5 : Hid (Si.OwnInts w5 w2.heap.size (.slice A0 ts.length cap0) ts) := HO4.out.below hb5
    have HP5 : Hid (Sj.OwnInts w5 w4.heap.size (.slice A1 ts.length cap1) ts) := ho5
    have HR5 : Hid (Row w5 w3.heap.size 75 cs) := HR4.out.below hb5 HZ4.out
    have HX5 : Hid (Segs w5 w5.heap.size (some ⟨w3.heap.size, 0, none⟩) l) := (HX4.out.below hb5).more hb5.size
    have HZ5 : Hid (w4.heap.size ≤ w5.heap.size) := hb5.size
    clear hf5 hb5 ho5 HX4 HR4 HO4
    go_wp2_with fail
    refine (Si.eqIntS_same A1 A0 ts cap1 cap0 w5 (Sj.intsOf HP5.out) (Si.intsOf HO5.out) (by omega)).mono ?_
    rintro e w6 ⟨rfl, hb6⟩
    have HB6 : Hid (Below w.heap.size w w6) := HB5.out.trans (hb6.mono HB5.out.size)
    have HO6 : Hid (Si.OwnInts w6 w2.heap.size (.slice A0 ts.length cap0) ts) := HO5.out.below hb6
    have HP6 : Hid (Sj.OwnInts w6 w4.heap.size (.slice A1 ts.length cap1) ts) := HP5.out.below hb6
    have HR6 : Hid (Row w6 w3.heap.size 75 cs) := HR5.out.below hb6 HR5.out.lt
    have HX6 : Hid (Segs w6 w6.heap.size (some ⟨w3.heap.size, 0, none⟩) l) := (HX5.out.below hb6).more hb6.size
    have HS6 : Hid (Segs w6 w6.heap.size A l) := (HW.out.below HB6.out).more HB6.out.size
    clear hb6 HB5 HO5 HP5 HR5 HX5 HZ5
    go_wp2_with fail
    refine (toSegmentS_any _ _ _ _ HS6.out hlen).mono ?_
    rintro e w7 ⟨rfl, hb7, hx7⟩
    have HB7 : Hid (Below w.heap.size w w7) := HB6.out.trans (hb7.mono HB6.out.size)
    have HO7 : Hid (Si.OwnInts w7 w2.heap.size (.slice A0 ts.length cap0) ts) := HO6.out.below hb7
    have HP7 : Hid (Sj.OwnInts w7 w4.heap.size (.slice A1 ts.length cap1) ts) := HP6.out.below hb7
    have HR7 : Hid (Row w7 w3.heap.size 75 cs) := HR6.out.below hb7 HR6.out.lt
    have HX7 : Hid (Segs w7 w7.heap.size (some ⟨w3.heap.size, 0, none⟩) l) := (HX6.out.below hb7).more hb7.size
    have HY7 := Lib.hid hx7
    clear hb7 hx7 HB6 HO6 HP6 HR6 HX6 HS6
    go_wp2_with fail
    refine (eqSegmentS_same _ _ _ _ _ _ HX7.out HY7.out hlen).mono ?_
    rintro e w8 ⟨rfl, hb8⟩
    have HB8 : Hid (Below w.heap.size w w8) := HB7.out.trans (hb8.mono HB7.out.size)
    have HO8 : Hid (Si.OwnInts w8 w2.heap.size (.slice A0 ts.length cap0) ts) := HO7.out.below hb8
    have HP8 : Hid (Sj.OwnInts w8 w4.heap.size (.slice A1 ts.length cap1) ts) := HP7.out.below hb8
    have HR8 : Hid (Row w8 w3.heap.size 75 cs) := HR7.out.below hb8 HR7.out.lt
    clear hb8 HB7 HO7 HP7 HR7 HX7 HY7
    go_wp2_with fail
    refine (mark1 w3.heap.size l.length l.length cs w8 HR8.out HCS.out hlen).mono ?_
    rintro e w9 ⟨rfl, hy9⟩
    have HB9 : Hid (Below w.heap.size w w9) := Only.below HB8.out hy9 HB8.out.size (fun k hk e => by have := HB3.out.size; omega)
    have HO9 : Hid (Si.OwnInts w9 w2.heap.size (.slice A0 ts.length cap0) ts) := Si.intsFar HO8.out hy9 (fun g hg e => by have := HL4.out g hg; omega)
    have HP9 : Hid (Sj.OwnInts w9 w4.heap.size (.slice A1 ts.length cap1) ts) := Sj.intsFar HP8.out hy9 (fun g hg e => by have := (World.ownsRow.lt HP8.out g hg).1; have := HZ4.out; omega)
    clear hy9 HB8 HO8 HP8 HR8 HCS
    have hq1 : ¬ ((1 + 3 * l.length : Nat) : Int) < 0 := by omega
    have hq0 : (0 : Int) ≤ ((1 + 3 * l.length : Nat) : Int) := by omega
    generalize ((1 + 3 * l.length : Nat) : Int) = q at *
    go_wp2_with fail
    refine (Si.eqIntS_same A1 A0 ts cap1 cap0 w9 (Sj.intsOf HP9.out) (Si.intsOf HO9.out) (by omega)).mono ?_
    rintro e w10 ⟨rfl, hb10⟩
    have HB10 : Hid (Below w.heap.size w w10) := HB9.out.trans (hb10.mono HB9.out.size)
    have HO10 : Hid (Si.OwnInts w10 w2.heap.size (.slice A0 ts.length cap0) ts) := HO9.out.below hb10
    have HP10 : Hid (Sj.OwnInts w10 w4.heap.size (.slice A1 ts.length cap1) ts) := HP9.out.below hb10
    clear hb10 HB9 HO9 HP9
    go_wp2_with fail
    refine (Sj.imark1 _ _ ts w10 HP10.out (by omega)).mono ?_
    rintro e w11 ⟨rfl, ho11, hy11⟩
    have HB11 : Hid (Below w.heap.size w w11) := Only.below HB10.out hy11 HB10.out.size (fun k hk e => by have := (World.ownsRow.lt HP10.out k e).1; have := HB4.out.size; omega)
    have HO11 : Hid (Si.OwnInts w11 w2.heap.size (.slice A0 ts.length cap0) ts) := Si.intsFar HO10.out hy11 (fun g hg e => by have := HL4.out g hg; have := (World.ownsRow.lt HP10.out g e).1; have := HZ4.out; omega)
    have HM11 : Hid (Si.Ints w11 w11.heap.size A1 (Si.imarked ts 1 ts.length)) := Sj.intsOf ho11
    clear ho11 hy11 HB10 HO10 HP10
    have hm1 : ¬ ((1 + ts.length : Nat) : Int) < 0 := by omega
    have hm0 : (0 : Int) ≤ ((1 + ts.length : Nat) : Int) := by omega
    have HH := Lib.hid (fun W h => iheld1 A1 ts.length cap1 ts W rfl h (by omega))
    have HMK := Lib.hid (fun W W' h hb => (Si.Ints.more (Si.Ints.below (w := W) (w' := W') (B := W.heap.size) (A := A1) (l := Si.imarked ts 1 ts.length) h hb) hb.size : Si.Ints W' W'.heap.size A1 (Si.imarked ts 1 ts.length)))
    generalize ((1 + ts.length : Nat) : Int) = m at *
    go_wp2_with fail
    refine Calls.mono (HH.out w11 HM11.out) ?_
    rintro e w12 ⟨rfl, hb12⟩
    have HB12 : Hid (Below w.heap.size w w12) := HB11.out.trans (hb12.mono HB11.out.size)
    have HO12 : Hid (Si.OwnInts w12 w2.heap.size (.slice A0 ts.length cap0) ts) := HO11.out.below hb12
    have HM12 : Hid (Si.Ints w12 w12.heap.size A1 (Si.imarked ts 1 ts.length)) := HMK.out w11 w12 HM11.out hb12
    have HS12 : Hid (Segs w12 w12.heap.size A l) := (HW.out.below HB12.out).more HB12.out.size
    clear hb12 HB11 HO11 HM11
    go_wp2_with fail
    refine (toSegmentS_any _ _ _ _ HS12.out hlen).mono ?_
    rintro e w13 ⟨rfl, hb13, hx13⟩
    have HB13 : Hid (Below w.heap.size w w13) := HB12.out.trans (hb13.mono HB12.out.size)
    have HO13 : Hid (Si.OwnInts w13 w2.heap.size (.slice A0 ts.length cap0) ts) := HO12.out.below hb13
    have HM13 : Hid (Si.Ints w13 w13.heap.size A1 (Si.imarked ts 1 ts.length)) := HMK.out w12 w13 HM12.out hb13
    have HX13 := Lib.hid hx13
    clear hb13 hx13 HB12 HO12 HM12 HS12
    go_wp2_with fail
    refine (HIM.out _ _ HX13.out).mono ?_
    rintro e w14 ⟨v2, rfl, ho14, hb14⟩
    obtain ⟨A2, cap2, rfl, hf14⟩ := Sj.intsForm ho14
    have HB14 : Hid (Below w.heap.size w w14) := HB13.out.trans (hb14.mono HB13.out.size)
    have HO14 : Hid (Si.OwnInts w14 w2.heap.size (.slice A0 ts.length cap0) ts) := HO13.out.below hb14
    have HM14 : Hid (Si.Ints w14 w14.heap.size A1 (Si.imarked ts 1 ts.length)) := HMK.out w13 w14 HM13.out hb14
    have HF14 := Lib.hid hf14
    clear hb14 ho14 hf14 HB13 HO13 HM13 HX13
    go_wp2_with fail
    refine (Si.eqIntS_same A2 A0 ts cap2 cap0 w14 HF14.out (Si.intsOf HO14.out) (by omega)).mono ?_
    rintro e w15 ⟨rfl, hb15⟩
    have HB15 : Hid (Below w.heap.size w w15) := HB14.out.trans (hb15.mono HB14.out.size)
    have HM15 : Hid (Si.Ints w15 w15.heap.size A1 (Si.imarked ts 1 ts.length)) := HMK.out w14 w15 HM14.out hb15
    clear hb15 HB14 HO14 HM14 HF14
    go_wp2_with fail
    refine Calls.mono (HH.out w15 HM15.out) ?_
    rintro e w16 ⟨rfl, hb16⟩
    have HB16 : Hid (Below w.heap.size w w16) := HB15.out.trans (hb16.mono HB15.out.size)
    clear hb16 HB15 HM15
    go_wp2
    go_ret
    exact ⟨rfl, HB16.out⟩

end Go.Proofs.Ytcaegpjbdcopoaa
