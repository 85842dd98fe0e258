/- Joined: Yn Yr Yx Yv Yw. -/
import Derived.Test.YtcaegpjbdcopoaaU28
import Derived.Test.YtcaegpjbdcopoaaU32
import Derived.Test.YtcaegpjbdcopoaaU14
import Derived.Test.YtcaegpjbdcopoaaU27
import Derived.Test.YtcaegpjbdcopoaaU15
import Derived.Test.YtcaegpjbdcopoaaU02
/- The greatest room of a run: both sides. -/
namespace Go.Proofs.Ytcaegpjbdcopoaa
open Go.RowKit Go.Shelf
attribute [local go_sem] Oper.semAt_some

theorem peakRes_eq (l : List Seg) (t : ByteArray) : peakRes l t = if (traceB l t.data.toList).isSome = true then peakS l (runRes l t) else -1 := by
  unfold peakRes
  cases h : traceB l t.data.toList with
  | none => rfl
  | some f => rw [runRes_some h]; rfl

set_option maxRecDepth 100000 in
set_option maxHeartbeats 1000000 in
theorem specPeakIn_any (A : Option Addr) (l : List Seg) (c : Nat) (t : ByteArray) (w : World) (hw : Segs w w.heap.size A l) (hl : l.length ≤ 1048576) (hn : Short l) (ht : t.size ≤ 1048576) :
    Calls Try.prog 35 #[.slice A l.length c, .string t] w fun e w' => e = .returned (.int .i64 (peakRes l t)) ∧ Below w.heap.size w w' := by
  have HQ := Lib.hid (l5Run_any A l c t w hw hl hn ht)
  have HE := Lib.hid (peakRes_eq l t)
  have HT := Lib.hid (runRes_texts l t)
  have hlen := runRes_len l t
  have HW : Hid (Segs w w.heap.size A l) := hw
  have HC := Lib.hid (fun (x : ByteArray) (W : World) (h : Segs W W.heap.size A l) (hx : x.size ≤ 1048576) => specCost_any A l c x W h hl hn hx)
  clear hw hn
  unfold RunPost at HQ
  generalize peakRes l t = x9 at *
  generalize runRes l t = rs at *
  cases hR : (traceB l t.data.toList).isSome with
  | false =>
    rw [hR] at HQ HE
    clear hR
    go_enter Try.func35, Try.ntmps35
    go_wp2_with fail
    refine HQ.out.mono ?_
    rintro e w1 ⟨g, n, c1, g', n', c2, rfl, -, -, hb⟩
    clear HQ
    go_wp2
    go_ret
    exact ⟨ret_int (by rw [HE.out]; rfl), hb⟩
  | true =>
    rw [hR] at HQ HE
    clear hR
    go_enter Try.func35, Try.ntmps35
    go_wp2_with fail
    refine HQ.out.mono ?_
    rintro e w1 ⟨g, n, c1, g', n', c2, rfl, hs, -, hb⟩
    have HZ : Hid (n = rs.length) := by have := hs.1; rwa [List.length_map] at this
    have HS := Lib.hid hs
    have HB := Lib.hid hb
    clear hs hb HQ
    have hn161 : n ≤ 161 := by rw [HZ.out]; exact hlen
    go_wp2
    go_loopw [8, 22] (fun s i wr => ∃ (k : Nat) (x : Int), k ≤ n ∧ s = .int .i64 x ∧ i = .int .i64 k ∧ Hid (x = peakS l (rs.take k)) ∧ Hid (Below w1.heap.size w1 wr))
      (fun _ i _ => n - (intOf i).toNat)
    case atStart => exact ⟨0, _, Nat.zero_le _, rfl, rfl, Lib.hid rfl, Below.refl _ _⟩
    case round =>
      obtain ⟨k, x, hk, rfl, rfl, HX, HB1⟩ := hrel
      by_cases hlt : k < n
      · have hlt' : (k : Int) < (n : Int) := by omega
        have hltr : k < rs.length := by rw [← HZ.out]; exact hlt
        have hs1 : (rs.map (·.1))[k]? = some rs[k].1 := by rw [List.getElem?_map, List.getElem?_eq_getElem hltr]; rfl
        obtain ⟨e0, e1, e2⟩ := (HS.out.below HB1.out).cell hs1
        have hsz := (HT.out _ (List.getElem_mem hltr)).2.2
        have HXN : Hid (max x (costB l rs[k].1.st) = peakS l (rs.take (k + 1))) := by
          show _ = _
          rw [List.take_succ_eq_append_getElem hltr, show rs[k] = (rs[k].1, rs[k].2) from rfl, peakS_snoc, HX.out]
        generalize hs' : rs[k].1 = s at *
        clear hs' hs1
        have HWA : Hid (Segs (wr.alloc (.cells #[.string s.nm, .string s.ld, .string s.st] 35)) (wr.alloc (.cells #[.string s.nm, .string s.ld, .string s.st] 35)).heap.size A l) := (((HW.out.below (HB.out.trans (HB1.out.mono HB.out.size))).more (Nat.le_trans HB.out.size HB1.out.size)).below ((Below.refl _ wr).alloc (Nat.le_refl _) _)).more (by simp)
        go_wp2_with fail
        refine (HC.out s.st _ HWA.out (by omega)).mono ?_
        rintro e w3 ⟨rfl, hb3⟩
        have HB3 : Hid (Below w1.heap.size w1 w3) := (HB1.out.alloc HB1.out.size _).trans (hb3.mono (by have := HB1.out.size; simp; omega))
        clear hb3 HWA
        generalize costB l s.st = z at *
        go_wp2
        go_roundw
        case rel => exact ⟨k + 1, _, by omega, rfl, by go_num, HXN, HB3⟩
        case measure => simp [intOf]; omega
      · obtain rfl : k = n := by omega
        have HE2 : Hid (x = x9) := by
          show _ = _
          rw [HX.out, HE.out, if_pos trivial, HZ.out, List.take_length]
        have HB2 := Lib.hid (HB.out.trans (HB1.out.mono HB.out.size))
        go_wp2
        go_ret
        exact ⟨ret_int HE2.out, HB2.out⟩

set_option maxRecDepth 100000 in
set_option maxHeartbeats 2000000 in
theorem peakIn_any (A : Option Addr) (l : List Seg) (c : Nat) (t : ByteArray) (w : World) (hw : Segs w w.heap.size A l) (hl : l.length ≤ 1048576) (hlc : l.length ≤ c) (hcm : c ≤ 9223372036854775807) (hn : Short l) (ht : t.size ≤ 1048576) :
    Calls Try.prog 36 #[.slice A l.length c, .string t] w fun e w' => e = .returned (.int .i64 (peakRes l t)) ∧ Below w.heap.size w w' := by
  have HB0 : Hid (Below w.heap.size w (w.alloc (.cells #[.slice A l.length c] 23))) := (Below.refl _ w).alloc (Nat.le_refl _) _
  have hw1 : Segs (w.alloc (.cells #[.slice A l.length c] 23)) (w.alloc (.cells #[.slice A l.length c] 23)).heap.size A l := (hw.below HB0.out).more HB0.out.size
  have HQ := Lib.hid (runOf_any A l c t _ hw1 hl hlc hcm hn ht)
  have HW1 : Hid (Segs (w.alloc (.cells #[.slice A l.length c] 23)) (w.alloc (.cells #[.slice A l.length c] 23)).heap.size A l) := hw1
  have HBX : Hid (Row (w.alloc (.cells #[.slice A l.length c] 23)) w.heap.size 23 #[.slice A l.length c]) := Row.new w _ _
  have HC := Lib.hid (fun (x : ByteArray) (W : World) (h : Segs W W.heap.size A l) (hx : x.size ≤ 1048576) => costOf_any A l c x W h hl hlc hcm hn hx)
  have HE := Lib.hid (peakRes_eq l t)
  have HZ0 : Hid ((w.alloc (.cells #[.slice A l.length c] 23)).heap.size = w.heap.size + 1) := by show _ = _; simp
  have c0 : (w.alloc (.cells #[.slice A l.length c] 23)).cell? ⟨w.heap.size, 0, none⟩ = some (.slice A l.length c) := HBX.out.cell 0
  clear hw hw1
  cases hR : traceB l t.data.toList with
  | none =>
    rw [hR] at HQ HE
    clear hn hR
    go_enter Try.func36, Try.ntmps36
    go_wp2_with fail
    refine Calls.mono HQ.out ?_
    rintro e w2 (⟨-, rfl, hb⟩ | ⟨f, _, _, _, _, _, _, _, _, h0, _⟩)
    · have HB2 := Lib.hid (HB0.out.trans (hb.mono HB0.out.size))
      clear hb HQ c0
      go_wp2
      go_ret
      exact ⟨ret_int (by rw [HE.out]; rfl), HB2.out⟩
    · cases h0
  | some f =>
    obtain ⟨hv, h80, hcl⟩ := traceB_some hR
    have hsz := traceB_size hR
    have hall := traceB_all hR
    have HFX := Lib.hid (fixS_run hv hall)
    have HSQ := Lib.hid (fun (w : World) B g nb cv Bn Bc v (h1 : Nodes w B g l.length l.length l nb cv) h2 h3 h4 W D hW => run_seq w (Bn := Bn) (Bc := Bc) (v := v) hv hall hsz.1 hsz.2 h1 h2 h3 h4 W D hW)
    rw [runRes_some hR, hR] at HE
    rw [hR] at HQ
    clear hn hR h80 hcl hv hall
    refine (callsIn_wide (n := 20)).1 ?_
    refine callsIn_of_wp_marks Try.func36 rfl trivial ?_ rfl
    simp only [Try.ntmps36, List.size_toArray, List.length_cons, List.length_nil, Nat.reduceAdd, Nat.reduceSub, Array.replicate_succ, Array.replicate_zero, List.push_toArray, List.append_toArray, List.nil_append, List.cons_append]
    gi_wp2_with fail
    generalize w.alloc (.cells #[.slice A l.length c] 23) = W0 at *
    refine ⟨trivial, ?_⟩
    gi_at_call 41
    refine (callsIn_wide.2 HQ.out).mono ?_
    rintro e w2 (⟨h0, -, -⟩ | ⟨f', B, g, nb, cv, Bn, Bc, A2, cap2, hf', rfl, hN, hrn, hrc, hsl, hb⟩)
    · cases h0
    · obtain rfl : f = f' := by injection hf'
      have HB := Lib.hid (HB0.out.trans (hb.mono HB0.out.size))
      have HS := Lib.hid (fun W D hW => HSQ.out w2 B g nb cv Bn Bc _ hN hrn hrc hsl W D hW)
      have HBX2 : Hid (Row w2 w.heap.size 23 #[.slice A l.length c]) := HBX.out.below hb (by have := HZ0.out; omega)
      have HW2 : Hid (Segs w2 w2.heap.size A l) := (HW1.out.below hb).more hb.size
      have hz2 : w.heap.size < w2.heap.size := by have := hb.size; have := HZ0.out; omega
      clear hN hrn hrc hsl hb hf' HQ HSQ c0 HBX HW1
      gi_wp2
      have hb0 : Below w2.heap.size w2 (w2.alloc (.cells #[.int .i64 0] 3)) := (Below.refl _ w2).alloc (Nat.le_refl _) _
      have hr0 : Row (w2.alloc (.cells #[.int .i64 0] 3)) w2.heap.size 3 #[.int .i64 (peakS l (([] : List (Stp × Bool)).map fixS))] := Row.new w2 _ _
      have hseq := HS.out (w2.alloc (.cells #[.int .i64 0] 3)) (w2.heap.size + 1) hb0
      have hz0 : (w2.alloc (.cells #[.int .i64 0] 3)).heap.size = w2.heap.size + 1 := by simp
      generalize w2.alloc (.cells #[.int .i64 0] 3) = W3 at *
      refine wpIn_rangeFunc_SH (by omega) (gf := 90) (lb := #[.pointer (some ⟨Bn, 0, none⟩), .pointer (some ⟨Bc, 0, none⟩)]) rfl (enters_of Try.func90 (by kernel_rfl) rfl) hseq (by omega) (by omega) (Below.refl _ _) (fun _ => rfl)
        (fun ys X => Row X w2.heap.size 3 #[.int .i64 (peakS l (ys.map fixS))] ∧ Below w2.heap.size w2 X)
        (fun _ _ _ => False)
        (fun s X Y row hs hg hr => ⟨row_grownS hs.1 hg (fun r e => (hr r e).2) (by decide), hs.2.grown hg hs.2.size (fun k e => by have := (hr k e).1; omega)⟩)
        (fun _ _ _ _ _ hs _ _ => hs)
        ⟨hr0, hb0⟩
        (fun x q => { tmps := #[.slice A l.length c, .string t, .pointer (some ⟨w.heap.size, 0, none⟩), undef, .int .i64 0, .func (.func 90) #[] #[.pointer (some ⟨Bn, 0, none⟩), .pointer (some ⟨Bc, 0, none⟩)], .bool true, .pointer (some ⟨w2.heap.size, 0, none⟩), .pointer (some ⟨q, 0, none⟩), .tuple #[.func (.func 90) #[] #[.pointer (some ⟨Bn, 0, none⟩), .pointer (some ⟨Bc, 0, none⟩)], .bool true], .slice A l.length c, .string t, .tuple #[.func (.func 90) #[] #[.pointer (some ⟨Bn, 0, none⟩), .pointer (some ⟨Bc, 0, none⟩)], .bool true], .func (.func 90) #[] #[.pointer (some ⟨Bn, 0, none⟩), .pointer (some ⟨Bc, 0, none⟩)], .bool true, .bool true, .bool false, .func (.func 90) #[] #[.pointer (some ⟨Bn, 0, none⟩), .pointer (some ⟨Bc, 0, none⟩)], .agg #[.string (fixS x).1.nm, .string (fixS x).1.ld, .string (fixS x).1.st], .bool (fixS x).2, undef, undef, undef, undef, undef, undef, undef], defers := [] })
        (fun x => .cells #[.string (fixS x).1.nm, .string (fixS x).1.ld, .string (fixS x).1.st] 35) ?assign ?body ?done ?stop
      case assign =>
        intro l2 x X K hK
        unfold encS
        gi_wp2
        exact hK
      case body =>
        rintro l2 ys x q X ⟨hr, hB⟩ hlen hz hqz hq
        have hql : q < X.heap.size := (Array.getElem?_eq_some_iff.1 hq).1
        have c2 : X.cell? ⟨q, 2, none⟩ = some (.string (fixS x).1.st) := Row.cell (hq : Row X q 35 _) 2
        have cT : X.cell? ⟨w.heap.size, 0, none⟩ = some (.slice A l.length c) := (hB.cell (p := ⟨w.heap.size, 0, none⟩) hz2).trans (HBX2.out.cell 0)
        have d0 : X.cell? ⟨w2.heap.size, 0, none⟩ = some (.int .i64 (peakS l (ys.map fixS))) := hr.cell 0
        have hmx : Try.prog.follows .mixedOrders = true := by kernel_rfl
        have hst := (fixS_ok x).2
        have HN : Hid (max (peakS l (ys.map fixS)) (costB l (fixS x).1.st) = peakS l ((ys ++ [x]).map fixS)) := by
          show _ = _
          rw [List.map_append, List.map_cons, List.map_nil, show fixS x = ((fixS x).1, (fixS x).2) from rfl, peakS_snoc]
        have HWX : Hid (∀ X', Below X.heap.size X X' → Segs X' X'.heap.size A l) := fun X' h => ((HW2.out.below (hB.trans (h.mono hB.size))).more (Nat.le_trans hB.size h.size))
        have HR := Lib.hid hr
        have HB' := Lib.hid hB
        have hpx := hr.lt
        have HPX : Hid (w2.heap.size ≤ X.heap.size) := Nat.le_of_lt hr.lt
        clear hr hB hq
        generalize (fixS x) = y at *
        obtain ⟨⟨nm, ld, st⟩, bb⟩ := y
        dsimp only at c2 hst HN ⊢
        generalize peakS l (ys.map fixS) = p at *
        gi_wp2_with fail
        first | gi_region_with_o (refine ⟨trivial, ?_⟩; gi_at_call 61; refine (CallsIn.inRound l2 (callsIn_wide.2 (HC.out st _ (HWX.out _ ((Below.refl _ X).drew)) (by omega)))).mono ?_; rintro e W5 ⟨rfl, hb5⟩; have hbw : Below X.heap.size X W5 := ((Below.refl _ X).drew).trans hb5; have d5 : W5.cell? ⟨w2.heap.size, 0, none⟩ = some (.int .i64 p) := (hbw.cell (p := ⟨w2.heap.size, 0, none⟩) hpx).trans d0; have z5 : W5.frozen? ⟨w2.heap.size, 0, none⟩ = false := (HR.out.below hbw HR.out.lt).free 0) | fail
        all_goals (
          refine ⟨⟨by simp [World.setCell]; exact hbw.size, fun k o hk ho _ => ?_⟩, (hbw.mono HPX.out).setCell (p := ⟨w2.heap.size, 0, none⟩) (Nat.le_refl _) _, ?_, (HB'.out.trans (hbw.mono HB'.out.size)).setCell (p := ⟨w2.heap.size, 0, none⟩) (Nat.le_refl _) _⟩
          · exact (Below.heap_setCell W5 _ _ k (by show k ≠ w2.heap.size; omega)).trans ((hbw.block k (Array.getElem?_eq_some_iff.1 ho).1).trans ho)
          · rw [← HN.out]
            exact (HR.out.below hbw HR.out.lt).put 0 _)
      case done =>
        rintro L ys X hL rfl ⟨hr, hbx⟩ hK
        have hE : peakS l ((runF l f).map fixS) = peakRes l t := by
          rw [HFX.out, HE.out]
          exact (if_pos rfl).symm
        rw [hE] at hr
        have d0 : X.cell? ⟨w2.heap.size, 0, none⟩ = some (.int .i64 (peakRes l t)) := hr.cell 0
        have HBX := Lib.hid hbx
        clear hr hbx hE hseq
        gi_wp2
        refine ⟨by simp, .inl ⟨_, _, rfl, run_takeDeferred hK, ?_⟩⟩
        refine ⟨_, results_tmp rfl _ _ _, rfl, (HB.out.trans (HBX.out.mono HB.out.size)).trans (belowK_b (w := w) (Nat.le_refl _) X L _ _ (by have := HB.out.size; omega) hK rfl rfl)⟩
      case stop =>
        rintro L c' pre X _ _ h _
        exact h.elim

end Go.Proofs.Ytcaegpjbdcopoaa
/- The walk of the law FnExactPeakIn. -/
namespace Go.Proofs.Ytcaegpjbdcopoaa
open Go.RowKit

set_option maxRecDepth 100000 in
set_option maxHeartbeats 400000 in
theorem lawPeakIn_any (A : Option Addr) (l : List Seg) (c : Nat) (s : ByteArray) (w : World) (hw : Segs w w.heap.size A l) (hl : l.length ≤ maxLen) (hn : Short l) (hsz : s.size ≤ maxLen) :
    Calls Try.prog 8 #[.slice A l.length c, .string s] w fun e w' => e = .returned (.bool true) ∧ Below w.heap.size w w' := by
  have HW : Hid (Segs w w.heap.size A l) := hw
  clear hw
  unfold maxLen at hsz
  by_cases hbigs : 1048576 < s.size
  · go_enter Try.func8, Try.ntmps8
    go_wp2
    go_ret
    exact ⟨rfl, Below.refl _ _⟩
  by_cases hs : sizeLeft l < 0
  · go_enter Try.func8, Try.ntmps8
    go_wp2_with fail
    refine (szSegmentS_any _ _ _ _ HW.out hl hn).mono ?_
    rintro e w1 ⟨rfl, hb1⟩
    go_wp2
    go_ret
    exact ⟨rfl, hb1⟩
  · have hlen := sizeLeft_len hs
    go_enter Try.func8, Try.ntmps8
    go_wp2_with fail
    refine (szSegmentS_any _ _ _ _ HW.out hl hn).mono ?_
    rintro e w1 ⟨rfl, hb1⟩
    have hs1 := (HW.out.below hb1).more hb1.size
    go_wp2_with fail
    refine (toSegmentS_any _ _ _ _ hs1 hlen).mono ?_
    rintro e w2 ⟨rfl, hb2, hx2⟩
    have B2 : Below w.heap.size w w2 := hb1.trans (hb2.mono hb1.size)
    clear hb2 hs1
    go_wp2_with fail
    refine (specPeakIn_any _ _ _ _ _ hx2 hlen hn (Nat.le_of_not_lt hbigs)).mono ?_
    rintro e w3 ⟨rfl, hb3⟩
    have B3 : Below w.heap.size w w3 := B2.trans (hb3.mono B2.size)
    clear hb3 hx2 B2
    have hs3 := (HW.out.below B3).more B3.size
    go_wp2_with fail
    refine (toSegmentS_any _ _ _ _ hs3 hlen).mono ?_
    rintro e w4 ⟨rfl, hb4, hx4⟩
    have B4 : Below w.heap.size w w4 := B3.trans (hb4.mono B3.size)
    clear hb4 hs3
    go_wp2_with fail
    refine (peakIn_any _ _ _ _ _ hx4 hlen (Nat.le_refl _) (Nat.le_trans hlen (by decide)) hn (Nat.le_of_not_lt hbigs)).mono ?_
    rintro e w5 ⟨rfl, hb5⟩
    have B5 : Below w.heap.size w w5 := B4.trans (hb5.mono B4.size)
    have hx5 := (hx4.below hb5).more hb5.size
    clear hb5 hx4 B4
    have hs5 := (HW.out.below B5).more B5.size
    go_wp2_with fail
    refine (toSegmentS_any _ _ _ _ hs5 hlen).mono ?_
    rintro e w6 ⟨rfl, hb6, hx6⟩
    have B6 : Below w.heap.size w w6 := B5.trans (hb6.mono B5.size)
    have hx7 := (hx5.below hb6).more hb6.size
    clear hb6 hs5 hx5 B5
    go_wp2_with fail
    refine (eqSegmentS_same _ _ _ _ _ _ hx7 hx6 hlen).mono ?_
    rintro e w7 ⟨rfl, hb7⟩
    have B7 : Below w.heap.size w w7 := B6.trans (hb7.mono B6.size)
    clear hb7 hx6 hx7 B6
    go_wp2
    go_ret
    exact ⟨rfl, B7⟩

end Go.Proofs.Ytcaegpjbdcopoaa
/- How often each segment is loaded, and which most often: the reference. -/
namespace Go.Proofs.Ytcaegpjbdcopoaa
open Go.RowKit

def TallyPost (w : World) (l : List Seg) (t : ByteArray) (e : Ending) (w' : World) : Prop :=
  ∃ v, e = .returned (.tuple #[v, .bool (traceB l t.data.toList).isSome]) ∧ Si.OwnInts w' w.heap.size v (tallyRes l t) ∧ Below w.heap.size w w'
theorem tallyRow_nil (l : List Seg) : tallyRow l [] = cntRow l [] := rfl
theorem byte_names {l : List Seg} (hv : validB l = true) {js : List Nat} (hj : ∀ j ∈ js, j < l.length) {k : Nat} (hk : k < js.length) : (namesAt l js).extract k (k + 1) = ⟨#[byteOf l js[k]]⟩ := by
  have h1 := namesAt_map hv js hj
  have h2 : (namesAt l js).size = js.length := names_size hv hj
  have hk' : k < (namesAt l js).size := by omega
  rw [one_byte _ hk']
  have h3 : (namesAt l js)[k] = byteOf l js[k] := by
    have h4 : (namesAt l js).data.toList[k]? = some (byteOf l js[k]) := by
      rw [h1, List.getElem?_map, List.getElem?_eq_getElem hk]
      rfl
    have h5 : (namesAt l js).data.toList[k]? = some ((namesAt l js)[k]'hk') := by
      rw [Array.getElem?_toList]
      exact Array.getElem?_eq_getElem hk'
    rw [h5] at h4
    injection h4
  rw [h3]
theorem byte_index {l : List Seg} (hv : validB l = true) {i : Nat} (hi : i < l.length) : indexB l ⟨#[byteOf l i]⟩ = (i : Int) := by
  have h1 := seek_nm hv hi
  have h2 : namesAt l [i] = ⟨#[byteOf l i]⟩ := by
    apply ByteArray.ext
    apply Array.ext'
    rw [namesAt_map hv [i] (fun j hj => by rw [List.mem_singleton.1 hj]; exact hi)]
    rfl
  rwa [h2] at h1

set_option maxRecDepth 100000 in
set_option maxHeartbeats 2000000 in
theorem specLoadCounts_any (A : Option Addr) (l : List Seg) (c : Nat) (t : ByteArray) (w : World) (hw : Segs w w.heap.size A l) (hl : l.length ≤ 1048576) (hn : Short l) (ht : t.size ≤ 1048576) :
    Calls Try.prog 28 #[.slice A l.length c, .string t] w (TallyPost w l t) := by
  have HW : Hid (Segs w w.heap.size A l) := hw
  have HQ := Lib.hid (specLoadsIn_any A l c t w hw hl hn ht)
  unfold TallyPost tallyRes
  cases hR : traceB l t.data.toList with
  | none =>
    rw [hR] at HQ
    have HE : Hid (∀ W : World, Below w.heap.size w W → ∃ v, Ending.returned (.tuple #[.slice (some ⟨W.heap.size, 0, none⟩) 0 0, .bool false]) = .returned (.tuple #[v, .bool (none : Option Forest).isSome]) ∧ Si.OwnInts (W.alloc (.cells #[] 3)) w.heap.size v [] ∧ Below w.heap.size w (W.alloc (.cells #[] 3))) :=
      fun W hb => ⟨_, rfl, Si.OwnInts.empty W hb.size, hb.alloc hb.size _⟩
    clear hw hn hR
    go_enter Try.func28, Try.ntmps28
    go_wp2_with fail
    refine Calls.mono HQ.out ?_
    rintro e w2 ⟨rfl, hb⟩
    go_wp2
    go_ret2
    exact HE.out _ hb
  | some f =>
    obtain ⟨hv, h80, hcl⟩ := traceB_some hR
    have hsz := (traceB_size hR).1
    have hall := traceB_all hR
    have hix := ixF_lt hv hall
    have HLR : Hid (loadsRes l t = namesAt l (ixF l f)) := by
      show _ = _
      unfold loadsRes
      rw [hR]
    have HXS : Hid ((namesAt l (ixF l f)).size = (ixF l f).length) := names_size hv hix.1
    have HIX : Hid (∀ k (hk : k < (ixF l f).length), (namesAt l (ixF l f)).extract k (k + 1) = ⟨#[byteOf l ((ixF l f)[k]'hk)]⟩ ∧ indexB l ⟨#[byteOf l ((ixF l f)[k]'hk)]⟩ = (((ixF l f)[k]'hk : Nat) : Int) ∧ (ixF l f)[k]'hk < l.length) := fun k hk => ⟨byte_names hv hix.1 hk, byte_index hv (hix.1 _ (List.getElem_mem hk)), hix.1 _ (List.getElem_mem hk)⟩
    have hjl := hix.2
    have HI := Lib.hid (fun s W h => l1Index_any A l c s W h hl hn)
    have HSN : Hid (∀ k (hk : k < (ixF l f).length), tallyRow l ((ixF l f).take (k + 1)) = (tallyRow l ((ixF l f).take k)).set ((ixF l f)[k]'hk) ((cntJ ((ixF l f).take k) ((ixF l f)[k]'hk) : Int) + 1)) := fun k hk => by
      rw [List.take_succ_eq_append_getElem hk]
      exact tallyRow_snoc l _ _
    rw [hR, HLR.out] at HQ
    have HE : Hid (∀ (v : Value) (W : World), Si.OwnInts W w.heap.size v (tallyRow l (ixF l f)) → Below w.heap.size w W → ∃ u, Ending.returned (.tuple #[v, .bool true]) = .returned (.tuple #[u, .bool (some f).isSome]) ∧ Si.OwnInts W w.heap.size u (tallyRow l (ixF l f)) ∧ Below w.heap.size w W) :=
      fun v W h hb => ⟨v, rfl, h, hb⟩
    clear hw hn hR h80 hcl hv hall hix
    generalize namesAt l (ixF l f) = x at *
    generalize hjs : ixF l f = js at *
    have HJS := Lib.hid hjs
    clear hjs
    have hx9 : x.size ≤ 8 * 161 := by rw [HXS.out]; omega
    have hmk := run_make_ints l.length hl
    go_enter Try.func28, Try.ntmps28
    go_wp2_with fail
    refine Calls.mono HQ.out ?_
    rintro e w2 ⟨rfl, hb⟩
    have HB := Lib.hid hb
    have HM0 : Hid (Si.OwnInts (w2.alloc (.cells (madeCells #[.int .i64 0] l.length) 3)) w.heap.size (.slice (some ⟨w2.heap.size, 0, none⟩) l.length l.length) (tallyRow l (js.take 0))) := OwnInts_made w2 hb.size l hl
    have HB0 : Hid (Below w2.heap.size w2 (w2.alloc (.cells (madeCells #[.int .i64 0] l.length) 3))) := (Below.refl _ w2).alloc (Nat.le_refl _) _
    clear hb
    go_wp2
    go_loopw [24] (fun i wr => ∃ k : Nat, k ≤ x.size ∧ i = .int .i64 k ∧ Hid (Si.OwnInts wr w.heap.size (.slice (some ⟨w2.heap.size, 0, none⟩) l.length l.length) (tallyRow l (js.take k))) ∧ Hid (Below w2.heap.size w2 wr) ∧ Hid (w2.heap.size < wr.heap.size))
      (fun i _ => x.size - (intOf i).toNat)
    case atStart => exact ⟨0, Nat.zero_le _, rfl, HM0, HB0, by show _ < _; simp⟩
    case round =>
      obtain ⟨k, hk, rfl, HM, HBr, HZ⟩ := hrel
      clear HM0 HB0
      by_cases hlt : k < x.size
      · have hkx : k < js.length := by rw [← HXS.out]; exact hlt
        obtain ⟨hext, hin, hjl2⟩ := HIX.out k hkx
        have hsn := HSN.out k hkx
        have hct : cntJ (js.take k) js[k] ≤ 8 * 161 := by
          have h1 := cntJ_le (js.take k) js[k]
          rw [List.length_take] at h1
          omega
        have HCA : Hid ((tallyRow l (js.take k))[js[k]]? = some (cntJ (js.take k) js[k] : Int)) := tallyRow_at l _ hjl2
        have HLC := Lib.hid (tallyRow_len l (js.take k))
        have HSNk := Lib.hid hsn
        have HJ := Lib.hid hin
        have HX := Lib.hid hext
        clear hext hin hsn
        generalize cntJ (js.take k) js[k] = q at *
        generalize js[k] = j at *
        generalize tallyRow l (js.take k) = row at *
        go_wp2_with fail
        rw [HX.out]
        refine (HI.out _ _ ((HW.out.below (HB.out.trans (HBr.out.mono HB.out.size))).more (Nat.le_trans HB.out.size HBr.out.size))).mono ?_
        rw [HJ.out]
        rintro e w3 ⟨rfl, hb3⟩
        have hM3 : Si.OwnInts w3 w.heap.size (.slice (some ⟨w2.heap.size, 0, none⟩) row.length l.length) row := by rw [HLC.out]; exact HM.out.below hb3
        have d0 := Si.intsCell hM3 HCA.out
        have z0 := Si.intsFree hM3 j
        have hM4 := Si.intsStore hM3 j ((q : Int) + 1)
        rw [HLC.out, ← HSNk.out] at hM4
        have HM4 := Lib.hid hM4
        have HB4 : Hid (Below w2.heap.size w2 (w3.setCell ⟨w2.heap.size, j, none⟩ (.int .i64 ((q : Int) + 1)))) := (HBr.out.trans (hb3.mono HBr.out.size)).setCell (p := ⟨w2.heap.size, j, none⟩) (Nat.le_refl _) _
        have HZ4 : Hid (w2.heap.size < (w3.setCell ⟨w2.heap.size, j, none⟩ (.int .i64 ((q : Int) + 1))).heap.size) := by
          show _ < _
          have := hb3.size
          have := HZ.out
          simp [World.setCell]
          omega
        have hj0 : (0 : Int) ≤ (j : Int) := Int.natCast_nonneg _
        have hj1 : (j : Int) < (l.length : Int) := by omega
        clear hM3 hM4 hb3 HM HBr HZ
        go_wp2
        go_roundw
        case rel => exact ⟨k + 1, by omega, by go_num, HM4, HB4, HZ4⟩
        case measure => simp [intOf]; omega
      · have hkl : k = x.size := by omega
        have HMF : Hid (Si.OwnInts wr w.heap.size (.slice (some ⟨w2.heap.size, 0, none⟩) l.length l.length) (tallyRow l js)) := by
          have := HM.out
          rw [hkl, HXS.out, List.take_length] at this
          exact this
        have hfin := HE.out _ _ HMF.out (HB.out.trans (HBr.out.mono HB.out.size))
        rw [← HJS.out] at hfin
        have HFIN := Lib.hid hfin
        clear hkl hfin
        go_wp2
        go_ret2
        exact HFIN.out

end Go.Proofs.Ytcaegpjbdcopoaa
/- How often each segment is loaded: an array of eight numbers. -/
namespace Go.Proofs.Ytcaegpjbdcopoaa
open Go.RowKit Go.Shelf

def intC (f : Nat → Int) : Array Value := #[.int .i64 (f 0), .int .i64 (f 1), .int .i64 (f 2), .int .i64 (f 3), .int .i64 (f 4), .int .i64 (f 5), .int .i64 (f 6), .int .i64 (f 7)]
def intV (f : Nat → Int) : Value := .agg (intC f)
theorem ints_at (f : Nat → Int) {k : Nat} (h : k < 8) : (intC f)[k]? = some (.int .i64 (f k)) := by
  match k, h with
  | 0, _ => rfl
  | 1, _ => rfl
  | 2, _ => rfl
  | 3, _ => rfl
  | 4, _ => rfl
  | 5, _ => rfl
  | 6, _ => rfl
  | 7, _ => rfl
theorem ints_set (f : Nat → Int) {k : Nat} (h : k < 8) (b : Int) : (intC f).setIfInBounds k (.int .i64 b) = intC (fun j => if j = k then b else f j) := by
  match k, h with
  | 0, _ => rfl
  | 1, _ => rfl
  | 2, _ => rfl
  | 3, _ => rfl
  | 4, _ => rfl
  | 5, _ => rfl
  | 6, _ => rfl
  | 7, _ => rfl
theorem ints_congr {f g : Nat → Int} (h : ∀ j, j < 8 → f j = g j) : intC f = intC g := by
  unfold intC
  rw [h 0 (by decide), h 1 (by decide), h 2 (by decide), h 3 (by decide), h 4 (by decide), h 5 (by decide), h 6 (by decide), h 7 (by decide)]
theorem run_loadTally {w : World} {b : Nat} {f : Nat → Int} (h : Row w b 92 (intC f)) : (loadVar 92 ⟨b, 0, none⟩).run Try.prog w = .ok (intV f) w :=
  run_loadVar_row w b 92 92 (intC f) (0, 0) _ h Try.underlying92 rfl (by kernel_rfl)
theorem ints_cells {t : TypeId} {w : World} {b : Nat} {f : Nat → Int} (h : Row w b t (intC f)) : (w.cell? ⟨b, 0, none⟩ = some (.int .i64 (f 0)) ∧ w.cell? ⟨b, 1, none⟩ = some (.int .i64 (f 1)) ∧ w.cell? ⟨b, 2, none⟩ = some (.int .i64 (f 2)) ∧ w.cell? ⟨b, 3, none⟩ = some (.int .i64 (f 3))) ∧
    (w.cell? ⟨b, 4, none⟩ = some (.int .i64 (f 4)) ∧ w.cell? ⟨b, 5, none⟩ = some (.int .i64 (f 5)) ∧ w.cell? ⟨b, 6, none⟩ = some (.int .i64 (f 6)) ∧ w.cell? ⟨b, 7, none⟩ = some (.int .i64 (f 7))) :=
  ⟨⟨h.cell 0, h.cell 1, h.cell 2, h.cell 3⟩, h.cell 4, h.cell 5, h.cell 6, h.cell 7⟩
/-- The world behind a store of a whole state. -/
def putInts (w : World) (b : Nat) (f : Nat → Int) : World :=
  (((((((w.setCell ⟨b, 0, none⟩ (.int .i64 (f 0))).setCell ⟨b, 1, none⟩ (.int .i64 (f 1))).setCell ⟨b, 2, none⟩ (.int .i64 (f 2))).setCell ⟨b, 3, none⟩ (.int .i64 (f 3))).setCell ⟨b, 4, none⟩ (.int .i64 (f 4))).setCell ⟨b, 5, none⟩ (.int .i64 (f 5))).setCell ⟨b, 6, none⟩ (.int .i64 (f 6))).setCell ⟨b, 7, none⟩ (.int .i64 (f 7))
def upToI (f g : Nat → Int) (k j : Nat) : Int := if j < k then f j else g j
theorem upToI_step {t : TypeId} {w : World} {b k : Nat} {f g : Nat → Int} (h : Row w b t (intC (upToI f g k))) (hk : k < 8) : Row (w.setCell ⟨b, k, none⟩ (.int .i64 (f k))) b t (intC (upToI f g (k + 1))) := by
  have h1 := h.put k (.int .i64 (f k))
  rw [ints_set _ hk] at h1
  rw [ints_congr (f := upToI f g (k + 1)) (g := fun j => if j = k then f k else upToI f g k j)]
  · exact h1
  · intro j _
    unfold upToI
    by_cases e : j = k
    · subst e
      rw [if_pos (by omega), if_pos rfl]
    · rw [if_neg e]
      by_cases e2 : j < k
      · rw [if_pos e2, if_pos (by omega)]
      · rw [if_neg e2, if_neg (by omega)]
theorem putInts_row {t : TypeId} {w : World} {b : Nat} {f g : Nat → Int} (h : Row w b t (intC g)) : Row (putInts w b f) b t (intC f) := by
  have h0 : Row w b t (intC (upToI f g 0)) := h
  have h8 := upToI_step (upToI_step (upToI_step (upToI_step (upToI_step (upToI_step (upToI_step (upToI_step h0 (by decide)) (by decide)) (by decide)) (by decide)) (by decide)) (by decide)) (by decide)) (by decide)
  rw [ints_congr (f := f) (g := upToI f g 8) (fun j hj => (if_pos hj).symm)]
  exact h8
theorem putInts_far {w : World} {b b' : Nat} {f : Nat → Int} {t : TypeId} {cs : Array Value} (h : Row w b' t cs) (hne : b' ≠ b) : Row (putInts w b f) b' t cs :=
  (((((((h.far (p := ⟨b, 0, none⟩) hne _).far (p := ⟨b, 1, none⟩) hne _).far (p := ⟨b, 2, none⟩) hne _).far (p := ⟨b, 3, none⟩) hne _).far (p := ⟨b, 4, none⟩) hne _).far (p := ⟨b, 5, none⟩) hne _).far (p := ⟨b, 6, none⟩) hne _).far (p := ⟨b, 7, none⟩) hne _
theorem putInts_block (w : World) (b : Nat) (f : Nat → Int) {k : Nat} (h : k ≠ b) : (putInts w b f).heap[k]? = w.heap[k]? := by
  unfold putInts
  rw [Below.heap_setCell _ ⟨b, 7, none⟩ _ k h, Below.heap_setCell _ ⟨b, 6, none⟩ _ k h, Below.heap_setCell _ ⟨b, 5, none⟩ _ k h, Below.heap_setCell _ ⟨b, 4, none⟩ _ k h, Below.heap_setCell _ ⟨b, 3, none⟩ _ k h, Below.heap_setCell _ ⟨b, 2, none⟩ _ k h, Below.heap_setCell _ ⟨b, 1, none⟩ _ k h, Below.heap_setCell _ ⟨b, 0, none⟩ _ k h]
theorem putInts_below {w0 w : World} {B b : Nat} {f : Nat → Int} (h : Below B w0 w) (hb : B ≤ b) : Below B w0 (putInts w b f) :=
  (((((((h.setCell (p := ⟨b, 0, none⟩) hb _).setCell (p := ⟨b, 1, none⟩) hb _).setCell (p := ⟨b, 2, none⟩) hb _).setCell (p := ⟨b, 3, none⟩) hb _).setCell (p := ⟨b, 4, none⟩) hb _).setCell (p := ⟨b, 5, none⟩) hb _).setCell (p := ⟨b, 6, none⟩) hb _).setCell (p := ⟨b, 7, none⟩) hb _


theorem results_cell_tmp {fn : Func} {p q : Tmp} {ty : TypeId} (h : fn.results = #[.cell p ty, .tmp q]) (tmps : Array Value) (w : World) (a : Addr) (u : Value)
    (hp : tmps.getD p undef = .pointer (some a)) (hu : (loadVar ty a).run Try.prog w = .ok u w) : (results fn tmps).run Try.prog w = .ok (.tuple #[u, tmps.getD q undef]) w := by
  have hp' : tmps[p]?.getD undef = .pointer (some a) := by simpa using hp
  simp [results, h, hp', asAddr, hu]

/-- What tallyLoads tells. -/
def tlF (l : List Seg) (t : ByteArray) (j : Nat) : Int := match traceB l t.data.toList with
  | none => 0
  | some f => if j < l.length then (cntJ (ixF l f) j : Int) else 0
theorem tlF_none {l : List Seg} {t : ByteArray} (h : traceB l t.data.toList = none) (j : Nat) : tlF l t j = 0 := by
  unfold tlF
  rw [h]
theorem tlF_some {l : List Seg} {t : ByteArray} {f : Forest} (h : traceB l t.data.toList = some f) (j : Nat) : tlF l t j = if j < l.length then (cntJ (ixF l f) j : Int) else 0 := by
  unfold tlF
  rw [h]

end Go.Proofs.Ytcaegpjbdcopoaa
/- tallyLoads. -/
namespace Go.Proofs.Ytcaegpjbdcopoaa
open Go.RowKit Go.Shelf

/-- The tally of the first 'k' segments. -/
def tlK (js : List Nat) (k j : Nat) : Int := if j < k then (cntJ js j : Int) else 0
theorem tlK_step {W : World} {b : Nat} {t : TypeId} {js : List Nat} {k : Nat} (h : Row W b t (intC (tlK js k))) (hk : k < 8) : Row (W.setCell ⟨b, k, none⟩ (.int .i64 (cntJ js k : Int))) b t (intC (tlK js (k + 1))) := by
  have h1 := h.put k (.int .i64 (cntJ js k : Int))
  rw [ints_set _ hk] at h1
  rw [ints_congr (f := tlK js (k + 1)) (g := fun j => if j = k then (cntJ js k : Int) else tlK js k j)]
  · exact h1
  · intro j _
    unfold tlK
    by_cases e : j = k
    · subst e
      rw [if_pos (by omega), if_pos rfl]
    · rw [if_neg e]
      by_cases e2 : j < k
      · rw [if_pos e2, if_pos (by omega)]
      · rw [if_neg e2, if_neg (by omega)]
theorem count_loads {l : List Seg} (hv : validB l = true) {js : List Nat} (hj : ∀ j ∈ js, j < l.length) {k : Nat} (hk : k < l.length) : Lib.countByte (namesAt l js).data.toList (byteOf l k) = cntJ js k := by
  rw [namesAt_map hv js hj]
  exact count_names hv js hj k hk

set_option maxRecDepth 100000 in
set_option maxHeartbeats 2000000 in
theorem tallyLoads_any (A : Option Addr) (l : List Seg) (c : Nat) (t : ByteArray) (w : World) (hw : Segs w w.heap.size A l) (hl : l.length ≤ 1048576) (hlc : l.length ≤ c) (hcm : c ≤ 9223372036854775807) (hn : Short l) (ht : t.size ≤ 1048576) :
    Calls Try.prog 59 #[.slice A l.length c, .string t] w fun e w' => e = .returned (.tuple #[intV (tlF l t), .bool (traceB l t.data.toList).isSome]) ∧ Below w.heap.size w w' := by
  have HB0 : Hid (Below w.heap.size w (w.alloc (.cells #[.int .i64 0, .int .i64 0, .int .i64 0, .int .i64 0, .int .i64 0, .int .i64 0, .int .i64 0, .int .i64 0] 92))) := (Below.refl _ w).alloc (Nat.le_refl _) _
  have hw1 : Segs (w.alloc (.cells #[.int .i64 0, .int .i64 0, .int .i64 0, .int .i64 0, .int .i64 0, .int .i64 0, .int .i64 0, .int .i64 0] 92)) (w.alloc (.cells #[.int .i64 0, .int .i64 0, .int .i64 0, .int .i64 0, .int .i64 0, .int .i64 0, .int .i64 0, .int .i64 0] 92)).heap.size A l := (hw.below HB0.out).more HB0.out.size
  have HQ := Lib.hid (loadsIn_any A l c t _ hw1 hl hlc hcm hn ht)
  have HW1 : Hid (Segs (w.alloc (.cells #[.int .i64 0, .int .i64 0, .int .i64 0, .int .i64 0, .int .i64 0, .int .i64 0, .int .i64 0, .int .i64 0] 92)) (w.alloc (.cells #[.int .i64 0, .int .i64 0, .int .i64 0, .int .i64 0, .int .i64 0, .int .i64 0, .int .i64 0, .int .i64 0] 92)).heap.size A l) := hw1
  have HR4 : Hid (Row (w.alloc (.cells #[.int .i64 0, .int .i64 0, .int .i64 0, .int .i64 0, .int .i64 0, .int .i64 0, .int .i64 0, .int .i64 0] 92)) w.heap.size 92 (intC fun _ => 0)) := Row.new w _ _
  have HZ0 : Hid ((w.alloc (.cells #[.int .i64 0, .int .i64 0, .int .i64 0, .int .i64 0, .int .i64 0, .int .i64 0, .int .i64 0, .int .i64 0] 92)).heap.size = w.heap.size + 1) := by show _ = _; simp
  clear hw hw1
  cases hR : traceB l t.data.toList with
  | none =>
    have HF : Hid (intV (tlF l t) = intV fun _ => 0) := congrArg Value.agg (ints_congr fun j _ => tlF_none hR j)
    rw [hR] at HQ
    clear hn hR
    go_enter Try.func59, Try.ntmps59
    go_wp2_with fail
    generalize (w.alloc (.cells #[.int .i64 0, .int .i64 0, .int .i64 0, .int .i64 0, .int .i64 0, .int .i64 0, .int .i64 0, .int .i64 0] 92)) = W0 at *
    refine Calls.mono HQ.out ?_
    rintro e w2 ⟨rfl, hb⟩
    have hr4 := HR4.out.below hb (by have := HZ0.out; omega)
    have HB2 := Lib.hid (HB0.out.trans (hb.mono HB0.out.size))
    have HRX : Hid (Row (putInts w2 w.heap.size fun _ => 0) w.heap.size 92 (intC fun _ => 0)) := putInts_row hr4
    have HBX : Hid (Below w.heap.size w (putInts w2 w.heap.size fun _ => 0)) := putInts_below HB2.out (Nat.le_refl _)
    obtain ⟨⟨d0, d1, d2, d3⟩, d4, d5, d6, d7⟩ := ints_cells hr4
    have hfz := fun j => hr4.free j
    have z0 := hfz 0
    have z1 := hfz 1
    have z2 := hfz 2
    have z3 := hfz 3
    have z4 := hfz 4
    have z5 := hfz 5
    have z6 := hfz 6
    have z7 := hfz 7
    clear hfz hr4 hb HQ HW1 HR4
    go_wp2
    rw [HF.out]
    exact bodyPost_ret (v := .tuple #[intV fun _ => 0, .bool false]) (results_cell_tmp (p := 4) (q := 5) (ty := 92) rfl _ (putInts w2 w.heap.size fun _ => 0) ⟨w.heap.size, 0, none⟩ _ rfl (run_loadTally HRX.out)) rfl ⟨rfl, HBX.out⟩
  | some f =>
    obtain ⟨hv, h80, hcl⟩ := traceB_some hR
    have hsz := (traceB_size hR).1
    have hall := traceB_all hR
    have hix := ixF_lt hv hall
    have h8 := (valid_all hv).2.1
    have HLR : Hid (loadsRes l t = namesAt l (ixF l f)) := by
      show _ = _
      unfold loadsRes
      rw [hR]
    have HF : Hid (intV (tlF l t) = intV (tlK (ixF l f) l.length)) := congrArg Value.agg (ints_congr fun j _ => tlF_some hR j)
    have HCN : Hid (∀ (k : Nat) (hk : k < l.length), (l[k]'hk).name = ⟨#[byteOf l k]⟩ ∧ Lib.countByte (namesAt l (ixF l f)).data.toList (byteOf l k) = cntJ (ixF l f) k) := fun k hk => ⟨(nmAt_one hv hk).2, count_loads hv hix.1 hk⟩
    have HCT := Lib.hid (fun k W => Try.strings_Count_one (namesAt l (ixF l f)) (byteOf l k) W)
    have HCL : Hid (∀ k, cntJ (ixF l f) k ≤ 8 * 161) := fun k => by
      have h1 := cntJ_le (ixF l f) k
      have h2 := hix.2
      omega
    rw [hR, HLR.out] at HQ
    clear hn hR h80 hcl hv hall hix
    generalize ixF l f = js at *
    generalize namesAt l js = lds at *
    go_enter Try.func59, Try.ntmps59
    go_wp2_with fail
    generalize (w.alloc (.cells #[.int .i64 0, .int .i64 0, .int .i64 0, .int .i64 0, .int .i64 0, .int .i64 0, .int .i64 0, .int .i64 0] 92)) = W0 at *
    refine Calls.mono HQ.out ?_
    rintro e w2 ⟨rfl, hb⟩
    have HRA : Hid (Row w2 w.heap.size 92 (intC fun _ => 0)) := HR4.out.below hb (by have := HZ0.out; omega)
    have HB2 := Lib.hid (HB0.out.trans (hb.mono HB0.out.size))
    have HW2 : Hid (Segs w2 w2.heap.size A l) := (HW1.out.below hb).more hb.size
    have hz2 : w.heap.size < w2.heap.size := by have := hb.size; have := HZ0.out; omega
    clear hb HQ HW1 HR4
    have HB3 : Hid (Below w2.heap.size w2 (w2.alloc (.cells #[.int .i64 0, .int .i64 0, .int .i64 0, .int .i64 0, .int .i64 0, .int .i64 0, .int .i64 0, .int .i64 0] 92))) := (Below.refl _ w2).alloc (Nat.le_refl _) _
    have HR8 : Hid (Row (w2.alloc (.cells #[.int .i64 0, .int .i64 0, .int .i64 0, .int .i64 0, .int .i64 0, .int .i64 0, .int .i64 0, .int .i64 0] 92)) w2.heap.size 92 (intC (tlK js 0))) := Row.new w2 _ _
    go_wp2
    go_loopw [22] (fun i wr => ∃ k : Nat, k ≤ l.length ∧ i = .int .i64 k ∧ Hid (Row wr w2.heap.size 92 (intC (tlK js k))) ∧ Hid (Below w2.heap.size w2 wr))
      (fun i _ => l.length - (intOf i).toNat)
    case atStart => exact ⟨0, Nat.zero_le _, rfl, HR8, HB3⟩
    case round =>
      obtain ⟨k, hk, rfl, HRk, HBk⟩ := hrel
      clear HR8 HB3
      by_cases hlt : k < l.length
      · have hlt' : (k : Int) < (l.length : Int) := by omega
        have hk8 : k < 8 := by omega
        have hk8' : (k : Int) < 8 := by omega
        have hk0 : (0 : Int) ≤ (k : Int) := Int.natCast_nonneg _
        have HWk : Hid (Segs wr w2.heap.size A l) := HW2.out.below HBk.out
        obtain ⟨b, o, rfl, hBb, hc⟩ := HWk.out (by omega)
        obtain ⟨e1, e2, e3⟩ := hc k _ (List.getElem?_eq_getElem hlt)
        obtain ⟨hnm, hct⟩ := HCN.out k hlt
        rw [hnm] at e1
        have HCT1 := Lib.hid (HCT.out k)
        rw [hct] at HCT1
        have hzk := HBk.out.size
        have HRk2 := Lib.hid (HRk.out.alloc (.cells #[.string ⟨#[byteOf l k]⟩, .int .i64 l[k].size, .int .i64 l[k].par] 75))
        have d0 : (wr.alloc (.cells #[.string ⟨#[byteOf l k]⟩, .int .i64 l[k].size, .int .i64 l[k].par] 75)).cell? ⟨w2.heap.size, k, none⟩ = some (.int .i64 (tlK js k k)) := by rw [HRk2.out.cell, ints_at _ hk8]
        have z0 : (wr.alloc (.cells #[.string ⟨#[byteOf l k]⟩, .int .i64 l[k].size, .int .i64 l[k].par] 75)).frozen? ⟨w2.heap.size, k, none⟩ = false := HRk2.out.free _
        have HRN := Lib.hid (tlK_step HRk2.out hk8)
        have HBN : Hid (Below w2.heap.size w2 ((wr.alloc (.cells #[.string ⟨#[byteOf l k]⟩, .int .i64 l[k].size, .int .i64 l[k].par] 75)).setCell ⟨w2.heap.size, k, none⟩ (.int .i64 (cntJ js k : Int)))) := (HBk.out.alloc hzk _).setCell (p := ⟨w2.heap.size, k, none⟩) (Nat.le_refl _) _
        clear hc hnm hct HWk HRk HRk2 HCT HCN
        generalize (l[k]'hlt) = sg at *
        generalize byteOf l k = bt at *
        generalize tlK js k k = dv at *
        generalize cntJ js k = cj at *
        go_wp2_with fail
        refine (HCT1.out _).mono ?_
        rintro e w3 ⟨rfl, rfl⟩
        go_wp2
        go_roundw
        case rel => exact ⟨k + 1, by omega, by go_num, HRN, HBN⟩
        case measure => simp [intOf]; omega
      · obtain rfl : k = l.length := by omega
        have hra := HRA.out.below HBk.out HRA.out.lt
        have HRX : Hid (Row (putInts wr w.heap.size (tlK js l.length)) w.heap.size 92 (intC (tlK js l.length))) := putInts_row hra
        have HBX : Hid (Below w.heap.size w (putInts wr w.heap.size (tlK js l.length))) := putInts_below (HB2.out.trans (HBk.out.mono HB2.out.size)) (Nat.le_refl _)
        have hrk := HRk.out
        obtain ⟨⟨e0, e1, e2, e3⟩, e4, e5, e6, e7⟩ := ints_cells hrk
        obtain ⟨⟨d0, d1, d2, d3⟩, d4, d5, d6, d7⟩ := ints_cells hra
        have hfz := fun j => hra.free j
        have z0 := hfz 0
        have z1 := hfz 1
        have z2 := hfz 2
        have z3 := hfz 3
        have z4 := hfz 4
        have z5 := hfz 5
        have z6 := hfz 6
        have z7 := hfz 7
        clear hfz hra hrk HRA HRk
        go_wp2
        exact bodyPost_ret (v := .tuple #[intV (tlK js l.length), .bool true]) (results_cell_tmp (p := 4) (q := 5) (ty := 92) rfl _ (putInts wr w.heap.size (tlK js l.length)) ⟨w.heap.size, 0, none⟩ _ rfl (run_loadTally HRX.out)) rfl ⟨by rw [HF.out]; rfl, HBX.out⟩

end Go.Proofs.Ytcaegpjbdcopoaa
