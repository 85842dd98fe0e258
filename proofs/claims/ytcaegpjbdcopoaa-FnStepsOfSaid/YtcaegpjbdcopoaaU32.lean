/- Joined: Ym Yq Gn Go. -/
import Derived.Test.YtcaegpjbdcopoaaU28
import Derived.Test.YtcaegpjbdcopoaaU14
import Derived.Test.YtcaegpjbdcopoaaU23
/- What is loaded for returns: both sides. -/
namespace Go.Proofs.Ytcaegpjbdcopoaa
open Go.RowKit Go.Shelf
attribute [local go_sem] Oper.semAt_some

theorem keptB_texts {rs : List (Stp × Bool)} {n : Nat} (h : ∀ s ∈ rs, s.1.ld.size ≤ n) : ∀ s ∈ keptB rs, s.ld.size ≤ n := fun s hs => by
  unfold keptB at hs
  obtain ⟨x, hx, rfl⟩ := List.mem_map.1 hs
  exact h x (List.mem_filter.1 hx).1
theorem keptB_len (rs : List (Stp × Bool)) : (keptB rs).length ≤ rs.length := by
  unfold keptB
  rw [List.length_map]
  exact List.length_filter_le _ _

set_option maxRecDepth 100000 in
set_option maxHeartbeats 1000000 in
theorem specReturnLoads_any (A : Option Addr) (l : List Seg) (c : Nat) (t : ByteArray) (w : World) (hw : Segs w w.heap.size A l) (hl : l.length ≤ 1048576) (hn : Short l) (ht : t.size ≤ 1048576) :
    Calls Try.prog 33 #[.slice A l.length c, .string t] w fun e w' => e = .returned (.tuple #[.string (backRes l t), .bool (traceB l t.data.toList).isSome]) ∧ Below w.heap.size w w' := by
  have HQ := Lib.hid (l5Run_any A l c t w hw hl hn ht)
  have HE := Lib.hid (backRes_eq l t)
  have HT := Lib.hid (runRes_texts l t)
  have hlen := runRes_len l t
  clear hw hn
  unfold RunPost at HQ
  generalize backRes l t = x9 at *
  generalize runRes l t = rs at *
  go_enter Try.func33, Try.ntmps33
  go_wp2_with fail
  refine HQ.out.mono ?_
  rintro e w1 ⟨g, n, c1, g', n', c2, rfl, hs, ho, hb⟩
  have HZ : Hid (n = rs.length ∧ n' = rs.length) := ⟨by have := hs.1; rwa [List.length_map] at this, by have := ho.1; rwa [List.length_map] at this⟩
  have HS := Lib.hid hs
  have HO := Lib.hid ho
  have HB := Lib.hid hb
  clear hs ho hb HQ
  have hn161 : n ≤ 161 := by rw [HZ.out.1]; exact hlen
  have hn162 : n' ≤ 161 := by rw [HZ.out.2]; exact hlen
  go_wp2
  go_loopw [9, 21] (fun s i wr => ∃ (k : Nat) (x : ByteArray), k ≤ n ∧ s = .string x ∧ i = .int .i64 k ∧ Hid (x = loadsB (keptB (rs.take k))) ∧ Hid (Below w1.heap.size w1 wr))
    (fun _ i _ => n - (intOf i).toNat)
  case atStart => exact ⟨0, _, Nat.zero_le _, rfl, rfl, Lib.hid rfl, Below.refl _ _⟩
  case round =>
    obtain ⟨k, x, hk, rfl, rfl, HX, HB1⟩ := hrel
    by_cases hlt : k < n
    · have hlt' : (k : Int) < (n : Int) := by omega
      have hltr : k < rs.length := by rw [← HZ.out.1]; exact hlt
      have hlt2 : k < n' := by rw [HZ.out.2]; exact hltr
      have hlt2' : (k : Int) < (n' : Int) := by omega
      have hs1 : (rs.map (·.1))[k]? = some rs[k].1 := by rw [List.getElem?_map, List.getElem?_eq_getElem hltr]; rfl
      have hs2 : (rs.map (·.2))[k]? = some rs[k].2 := by rw [List.getElem?_map, List.getElem?_eq_getElem hltr]; rfl
      obtain ⟨e0, e1, e2⟩ := (HS.out.below HB1.out).cell hs1
      have hsz := (HT.out _ (List.getElem_mem hltr)).2.1
      have hxs : x.size ≤ 8 * 161 := by
        rw [HX.out]
        have h1 := loadsB_size (keptB (rs.take k)) (keptB_texts fun s hs => (HT.out s (List.mem_of_mem_take hs)).2.1)
        have h2 := keptB_len (rs.take k)
        rw [List.length_take] at h2
        omega
      have HXN : Hid (loadsB (keptB (rs.take (k + 1))) = if rs[k].2 = true then x ++ rs[k].1.ld else x) := by
        show _ = _
        rw [List.take_succ_eq_append_getElem hltr, keptB_snoc, HX.out]
        split
        · rw [loadsB_snoc]
        · rfl
      generalize hs' : rs[k] = y at *
      obtain ⟨s, b⟩ := y
      dsimp only at e0 e1 e2 hs2 hsz HXN
      have e3 := ((HO.out.below HB1.out).below ((Below.refl wr.heap.size wr).alloc (Nat.le_refl _) (.cells #[.string s.nm, .string s.ld, .string s.st] 35))).cell hs2
      clear hs' hs1 hs2
      cases b with
      | true =>
        have HXT : Hid (x ++ s.ld = loadsB (keptB (rs.take (k + 1)))) := by show _ = _; rw [HXN.out, if_pos rfl]
        clear HXN
        go_wp2
        go_roundw
        case rel => exact ⟨k + 1, _, by omega, rfl, by go_num, HXT, HB1.out.alloc HB1.out.size _⟩
        case measure => simp [intOf]; omega
      | false =>
        have HXT : Hid (x = loadsB (keptB (rs.take (k + 1)))) := by show _ = _; rw [HXN.out, if_neg (by decide)]
        clear HXN
        go_wp2
        go_roundw
        case rel => exact ⟨k + 1, _, by omega, rfl, by go_num, HXT, HB1.out.alloc HB1.out.size _⟩
        case measure => simp [intOf]; omega
    · obtain rfl : k = n := by omega
      have HE2 : Hid (x = x9) := by
        show _ = _
        rw [HX.out, HE.out, HZ.out.1, List.take_length]
      have HB2 := Lib.hid (HB.out.trans (HB1.out.mono HB.out.size))
      go_wp2
      go_ret2
      exact ⟨ret_two HE2.out rfl, HB2.out⟩

def bkBytes (xs : List (Stp × Bool)) : List Value := Lib.byteCells (loadsB (keptB (xs.map fixS))).data.toList
theorem bkBytes_snoc (xs : List (Stp × Bool)) (x : Stp × Bool) : bkBytes (xs ++ [x]) = if (fixS x).2 = true then bkBytes xs ++ Lib.strCells (fixS x).1.ld else bkBytes xs := by
  unfold bkBytes
  rw [List.map_append, List.map_cons, List.map_nil, show fixS x = ((fixS x).1, (fixS x).2) from rfl, keptB_snoc]
  split
  · rw [loadsB_snoc, ByteArray.data_append, Array.toList_append, byteCells_app]
    rfl
  · rfl
theorem bkBytes_len (xs : List (Stp × Bool)) : (bkBytes xs).length ≤ 8 * xs.length := by
  unfold bkBytes
  rw [byteCells_len]
  have h1 := loadsB_size (keptB (xs.map fixS)) (keptB_texts fun s hs => by
    obtain ⟨y, _, rfl⟩ := List.mem_map.1 hs
    exact (fixS_ok y).1)
  have h2 := keptB_len (xs.map fixS)
  rw [List.length_map] at h2
  have h3 : (loadsB (keptB (xs.map fixS))).data.toList.length = (loadsB (keptB (xs.map fixS))).size := by simp
  omega

set_option maxRecDepth 100000 in
set_option maxHeartbeats 2000000 in
theorem returnLoads_any (A : Option Addr) (l : List Seg) (c : Nat) (t : ByteArray) (w : World) (hw : Segs w w.heap.size A l) (hl : l.length ≤ 1048576) (hlc : l.length ≤ c) (hcm : c ≤ 9223372036854775807) (hn : Short l) (ht : t.size ≤ 1048576) :
    Calls Try.prog 34 #[.slice A l.length c, .string t] w fun e w' => e = .returned (.tuple #[.string (backRes l t), .bool (traceB l t.data.toList).isSome]) ∧ Below w.heap.size w w' := by
  have HQ := Lib.hid (runOf_any A l c t w hw hl hlc hcm hn ht)
  have HE := Lib.hid (backRes_eq l t)
  cases hR : traceB l t.data.toList with
  | none =>
    rw [hR] at HQ
    rw [runRes_none hR] at HE
    clear hw hn hR
    go_enter Try.func34, Try.ntmps34
    go_wp2_with fail
    refine Calls.mono HQ.out ?_
    rintro e w2 (⟨-, rfl, hb⟩ | ⟨f, _, _, _, _, _, _, _, _, h0, _⟩)
    · go_wp2
      go_ret2
      exact ⟨ret_two HE.out.symm rfl, hb⟩
    · cases h0
  | some f =>
    obtain ⟨hv, h80, hcl⟩ := traceB_some hR
    have hsz := traceB_size hR
    have hall := traceB_all hR
    have HFX := Lib.hid (fixS_run hv hall)
    have HSQ := Lib.hid (fun (w : World) B g nb cv Bn Bc v (h1 : Nodes w B g l.length l.length l nb cv) h2 h3 h4 W D hW => run_seq w (Bn := Bn) (Bc := Bc) (v := v) hv hall hsz.1 hsz.2 h1 h2 h3 h4 W D hW)
    rw [hR] at HQ
    rw [runRes_some hR] at HE
    clear hw hn hR h80 hcl hv hall
    refine (callsIn_wide (n := 20)).1 ?_
    refine callsIn_of_wp_marks Try.func34 rfl trivial ?_ rfl
    simp only [Try.ntmps34, List.size_toArray, List.length_cons, List.length_nil, Nat.reduceAdd, Nat.reduceSub, Array.replicate_succ, Array.replicate_zero, List.push_toArray, List.append_toArray, List.nil_append, List.cons_append]
    gi_wp2_with fail
    refine ⟨trivial, ?_⟩
    gi_at_call 41
    refine (callsIn_wide.2 HQ.out).mono ?_
    rintro e w2 (⟨h0, -, -⟩ | ⟨f', B, g, nb, cv, Bn, Bc, A2, cap2, hf', rfl, hN, hrn, hrc, hsl, hb⟩)
    · cases h0
    · obtain rfl : f = f' := by injection hf'
      have HB := Lib.hid hb
      have HS := Lib.hid (fun W D hW => HSQ.out w2 B g nb cv Bn Bc _ hN hrn hrc hsl W D hW)
      clear hN hrn hrc hsl hb hf' HQ HSQ
      gi_wp2
      have hB0 : Below w2.heap.size w2 (w2.alloc (.cells #[.pointer none, .slice none 0 0] 64)) := (Below.refl _ w2).alloc (Nat.le_refl _) _
      have hI0 : Lib.IsBuilderF 64 5 w2.heap.size w2.heap.size (bkBytes []) (w2.alloc (.cells #[.pointer none, .slice none 0 0] 64)) := Lib.IsBuilderF.of (Lib.fresh_isBuilder _ _ w2)
      have hseq := HS.out (w2.alloc (.cells #[.pointer none, .slice none 0 0] 64)) (w2.heap.size + 1) hB0
      have hz0 : (w2.alloc (.cells #[.pointer none, .slice none 0 0] 64)).heap.size = w2.heap.size + 1 := by simp
      generalize w2.alloc (.cells #[.pointer none, .slice none 0 0] 64) = W0 at *
      refine wpIn_rangeFunc_SH (by omega) (gf := 90) (lb := #[.pointer (some ⟨Bn, 0, none⟩), .pointer (some ⟨Bc, 0, none⟩)]) rfl (enters_of Try.func90 (by kernel_rfl) rfl) hseq (by omega) (by omega) (Below.refl _ _) (fun _ => rfl)
        (fun ys X => Lib.IsBuilderF 64 5 w2.heap.size w2.heap.size (bkBytes ys) X ∧ Below w2.heap.size w2 X)
        (fun _ _ _ => False)
        (fun s X Y row hs hg hr => ⟨isB_grownS hs.1 hg (fun r e => (hr r e).2), hs.2.grown hg hs.2.size (fun k e => by have := (hr k e).1; omega)⟩)
        (fun _ _ _ _ _ hs _ _ => hs)
        ⟨hI0, hB0⟩
        (fun x q => { tmps := #[.slice A l.length c, .string t, undef, undef, .string ⟨#[]⟩, .bool false, .func (.func 90) #[] #[.pointer (some ⟨Bn, 0, none⟩), .pointer (some ⟨Bc, 0, none⟩)], .bool true, .pointer (some ⟨w2.heap.size, 0, none⟩), .pointer (some ⟨q, 0, none⟩), .bool (fixS x).2, .tuple #[.func (.func 90) #[] #[.pointer (some ⟨Bn, 0, none⟩), .pointer (some ⟨Bc, 0, none⟩)], .bool true], .slice A l.length c, .string t, .tuple #[.func (.func 90) #[] #[.pointer (some ⟨Bn, 0, none⟩), .pointer (some ⟨Bc, 0, none⟩)], .bool true], .func (.func 90) #[] #[.pointer (some ⟨Bn, 0, none⟩), .pointer (some ⟨Bc, 0, none⟩)], .bool true, .bool true, .bool false, .func (.func 90) #[] #[.pointer (some ⟨Bn, 0, none⟩), .pointer (some ⟨Bc, 0, none⟩)], .agg #[.string (fixS x).1.nm, .string (fixS x).1.ld, .string (fixS x).1.st], .bool (fixS x).2, undef, undef, undef, undef, undef], defers := [] })
        (fun x => .cells #[.string (fixS x).1.nm, .string (fixS x).1.ld, .string (fixS x).1.st] 35) ?assign ?body ?done ?stop
      case assign =>
        intro l2 x X K hK
        unfold encS
        gi_wp2
        exact hK
      case body =>
        rintro l2 ys x q X ⟨hI, hB⟩ hlen hz hqz hq
        have c1 : X.cell? ⟨q, 1, none⟩ = some (.string (fixS x).1.ld) := Row.cell (hq : Row X q 35 _) 1
        have hl1 : (bkBytes ys).length + (fixS x).1.ld.size ≤ 140737488355328 := by
          have h1 := bkBytes_len ys
          have h2 := (fixS_ok x).1
          omega
        have HN := Lib.hid (bkBytes_snoc ys x)
        generalize (fixS x) = y at *
        obtain ⟨⟨nm, ld, st⟩, bb⟩ := y
        dsimp only at c1 hl1 HN ⊢
        clear hq
        cases bb with
        | true =>
          have HN2 : Hid (bkBytes (ys ++ [x]) = bkBytes ys ++ Lib.strCells ld) := by show _ = _; rw [HN.out, if_pos rfl]
          clear HN
          gi_wp2_with (refine ⟨trivial, ?_⟩; gi_at_call 43; refine (CallsIn.inRound l2 (callsIn_wide.2 (writeString_any w2.heap.size w2.heap.size _ ld _ hI hl1 hB.size))).mono ?_; rintro e W1 ⟨rfl, hI1, hb1, hk1⟩)
          exact ⟨keptN_from hk1 hb1 (by omega), hb1, by rw [HN2.out]; exact hI1, hB.trans hb1⟩
        | false =>
          have HN2 : Hid (bkBytes (ys ++ [x]) = bkBytes ys) := by show _ = _; rw [HN.out, if_neg (by decide)]
          clear HN
          gi_wp2
          exact ⟨KeepsN.refl _ _, Below.refl _ _, by rw [HN2.out]; exact hI, hB⟩
      case done =>
        rintro L ys X hL rfl ⟨hI, hB⟩ hK
        have hE : bkBytes (runF l f) = Lib.byteCells (backRes l t).data.toList := by
          unfold bkBytes
          rw [HE.out, HFX.out]
        rw [hE] at hI
        clear hE hseq
        gi_wp2_with (refine ⟨trivial, ?_⟩; gi_at_call 44; refine (callsIn_wide.2 (Try.Builder_String_any_k w2.heap.size w2.heap.size _ _ hI hB.size)).mono ?_; rintro e W1 ⟨rfl, hI1, hb1, hk1⟩)
        have hK1 : W1.heap[L]? = some (.deferred (some [])) := hk1 L _ hK (fun he => by injection he with he; omega) (fun c fz he => by cases he)
        refine ⟨by simp, .inl ⟨_, _, rfl, run_takeDeferred hK1, ?_⟩⟩
        exact ⟨_, results_tmp2 rfl _ _ _, rfl, (HB.out.trans ((hB.trans hb1).mono HB.out.size)).trans (belowK_b (w := w) (Nat.le_refl _) W1 L _ _ (by have := HB.out.size; omega) hK1 rfl rfl)⟩
      case stop =>
        rintro L c' pre X _ _ h _
        exact h.elim

end Go.Proofs.Ytcaegpjbdcopoaa
/- The walk of the law FnExactReturnLoads. -/
namespace Go.Proofs.Ytcaegpjbdcopoaa
open Go.RowKit

set_option maxRecDepth 100000 in
set_option maxHeartbeats 400000 in
theorem lawReturnLoads_any (A : Option Addr) (l : List Seg) (c : Nat) (s : ByteArray) (w : World) (hw : Segs w w.heap.size A l) (hl : l.length ≤ maxLen) (hn : Short l) (hsz : s.size ≤ maxLen) :
    Calls Try.prog 7 #[.slice A l.length c, .string s] w fun e w' => e = .returned (.bool true) ∧ Below w.heap.size w w' := by
  have HW : Hid (Segs w w.heap.size A l) := hw
  clear hw
  unfold maxLen at hsz
  by_cases hbigs : 1048576 < s.size
  · go_enter Try.func7, Try.ntmps7
    go_wp2
    go_ret
    exact ⟨rfl, Below.refl _ _⟩
  by_cases hs : sizeLeft l < 0
  · go_enter Try.func7, Try.ntmps7
    go_wp2_with fail
    refine (szSegmentS_any _ _ _ _ HW.out hl hn).mono ?_
    rintro e w1 ⟨rfl, hb1⟩
    go_wp2
    go_ret
    exact ⟨rfl, hb1⟩
  · have hlen := sizeLeft_len hs
    go_enter Try.func7, Try.ntmps7
    go_wp2_with fail
    refine (szSegmentS_any _ _ _ _ HW.out hl hn).mono ?_
    rintro e w1 ⟨rfl, hb1⟩
    have hs1 := (HW.out.below hb1).more hb1.size
    go_wp2_with fail
    refine (toSegmentS_any _ _ _ _ hs1 hlen).mono ?_
    rintro e w2 ⟨rfl, hb2, hx2⟩
    have B2 : Below w.heap.size w w2 := hb1.trans (hb2.mono hb1.size)
    clear hb2 hs1
    go_wp2_with fail
    refine (specReturnLoads_any _ _ _ _ _ hx2 hlen hn (Nat.le_of_not_lt hbigs)).mono ?_
    rintro e w3 ⟨rfl, hb3⟩
    have B3 : Below w.heap.size w w3 := B2.trans (hb3.mono B2.size)
    clear hb3 hx2 B2
    have hs3 := (HW.out.below B3).more B3.size
    go_wp2_with fail
    refine (toSegmentS_any _ _ _ _ hs3 hlen).mono ?_
    rintro e w4 ⟨rfl, hb4, hx4⟩
    have B4 : Below w.heap.size w w4 := B3.trans (hb4.mono B3.size)
    clear hb4 hs3
    go_wp2_with fail
    refine (returnLoads_any _ _ _ _ _ hx4 hlen (Nat.le_refl _) (Nat.le_trans hlen (by decide)) hn (Nat.le_of_not_lt hbigs)).mono ?_
    rintro e w5 ⟨rfl, hb5⟩
    have B5 : Below w.heap.size w w5 := B4.trans (hb5.mono B4.size)
    have hx5 := (hx4.below hb5).more hb5.size
    clear hb5 hx4 B4
    have hs5 := (HW.out.below B5).more B5.size
    go_wp2_with fail
    refine (toSegmentS_any _ _ _ _ hs5 hlen).mono ?_
    rintro e w6 ⟨rfl, hb6, hx6⟩
    have B6 : Below w.heap.size w w6 := B5.trans (hb6.mono B5.size)
    have hx7 := (hx5.below hb6).more hb6.size
    clear hb6 hs5 hx5 B5
    go_wp2_with fail
    refine (eqSegmentS_same _ _ _ _ _ _ hx7 hx6 hlen).mono ?_
    rintro e w7 ⟨rfl, hb7⟩
    have B7 : Below w.heap.size w w7 := B6.trans (hb7.mono B6.size)
    clear hb7 hx6 hx7 B6
    go_wp2
    go_ret
    exact ⟨rfl, B7⟩

end Go.Proofs.Ytcaegpjbdcopoaa
/- impl.StateValid, DropsOf, NeedOf. -/
namespace Go.Proofs.Ytcaegpjbdcopoaa
open Go.RowKit Go.Shelf

theorem less_in (T U : List Nat) : ∀ j, (inT T j && !inT U j) = inT (lessT T U) j := fun j => by
  unfold inT lessT
  rw [Bool.eq_iff_iff]
  simp [List.mem_filter]
/-- The names of what is in one state and not in another. -/
theorem namesIn_any (B g : Nat) (l : List Seg) (nb : Nat → Nat) (cv : Nat → Value) (T : List Nat) (w : World) (h : Nodes w B g l.length l.length l nb cv) (hv : validB l = true) (ha : T.Pairwise (· < ·)) (hl : ∀ j ∈ T, j < l.length) :
    Calls Try.prog 51 #[bitsV (inT T), .slice (some ⟨g, 0, none⟩) l.length l.length] w fun e w' => e = .returned (.string (namesAt l T)) ∧ Below w.heap.size w w' := by
  refine (names_any B g l nb cv (inT T) w h hv).mono ?_
  rintro e w' ⟨rfl, hb⟩
  exact ⟨by rw [show selIx (inT T) l.length = T from sel_mem ha hl], hb⟩
theorem lessIn_any (T U : List Nat) (w : World) :
    Calls Try.prog 52 #[bitsV (inT T), bitsV (inT U)] w fun e w' => e = .returned (bitsV (inT (lessT T U))) ∧ Below w.heap.size w w' := by
  refine (less_any (inT T) (inT U) w).mono ?_
  rintro e w' ⟨rfl, hb⟩
  refine ⟨?_, hb⟩
  unfold bitsV
  rw [bits_congr (fun j _ => less_in T U j)]
theorem less_asc {T U : List Nat} (h : T.Pairwise (· < ·)) : (lessT T U).Pairwise (· < ·) := List.Pairwise.filter _ h

set_option maxRecDepth 100000 in
set_option maxHeartbeats 2000000 in
theorem needOf_any (A : Option Addr) (l : List Seg) (c : Nat) (s t : ByteArray) (w : World) (hw : Segs w w.heap.size A l) (hl : l.length ≤ 1048576) (hlc : l.length ≤ c) (hcm : c ≤ 9223372036854775807) (hn : Short l) :
    Calls Try.prog 20 #[.slice A l.length c, .string s, .string t] w fun e w' => e = .returned (.tuple #[.string (afterStr l s t), .string (loadStr l s t), .bool (needOk l s t)]) ∧ Below w.heap.size w w' := by
  have HW : Hid (Segs w w.heap.size A l) := hw
  clear hw
  cases hv : validB l with
  | false =>
    have HF : Hid (afterStr l s t = ⟨#[]⟩ ∧ loadStr l s t = ⟨#[]⟩ ∧ needOk l s t = false) := by
      have h1 : needOk l s t = false := by unfold needOk; rw [stOk_bad s hv]; rfl
      unfold afterStr loadStr afterIx loadIx
      rw [if_neg (by rw [h1]; decide), if_neg (by rw [h1]; decide)]
      exact ⟨rfl, rfl, h1⟩
    go_enter Try.func20, Try.ntmps20
    go_wp2_with fail
    refine (nodesOf_bad _ _ _ _ HW.out hl hlc hcm hn hv).mono ?_
    rintro e w1 ⟨rfl, hb1⟩
    go_wp2_with fail
    refine (meetNeed_bad _ _ _).mono ?_
    unfold bitsV bitCells
    rintro e w2 ⟨rfl, hb2⟩
    have B2 := hb1.trans (hb2.mono hb1.size)
    clear hb1 hb2 hv
    go_wp2
    go_ret3
    exact ⟨ret_three HF.out.1.symm HF.out.2.1.symm HF.out.2.2.symm, (B2.alloc B2.size _).alloc (by have := B2.size; simp; omega) _⟩
  | true =>
    have HV := Lib.hid hv
    cases hq : needOk l s t with
    | false =>
      have HQ := Lib.hid hq
      have HF : Hid (afterStr l s t = ⟨#[]⟩ ∧ loadStr l s t = ⟨#[]⟩) := by
        unfold afterStr loadStr afterIx loadIx
        rw [if_neg (by rw [hq]; decide), if_neg (by rw [hq]; decide)]
        exact ⟨rfl, rfl⟩
      clear hv hq
      go_enter Try.func20, Try.ntmps20
      go_wp2_with fail
      refine (nodesOf_any _ _ _ _ HW.out hl hlc hcm hn HV.out).mono ?_
      rintro e w1 ⟨g, nb, cv, rfl, hN, hb1⟩
      have HN := Lib.hid hN
      clear hN
      go_wp2_with fail
      refine (meetNeed_no _ _ _ _ _ _ _ _ HN.out HV.out HQ.out).mono ?_
      unfold bitsV bitCells
      rintro e w2 ⟨rfl, hb2⟩
      have B2 := hb1.trans (hb2.mono hb1.size)
      clear hb1 hb2
      go_wp2
      go_ret3
      exact ⟨ret_three HF.out.1.symm HF.out.2.symm rfl, (B2.alloc B2.size _).alloc (by have := B2.size; simp; omega) _⟩
    | true =>
      have HQ := Lib.hid hq
      obtain ⟨_, hT, hTn, hP, hPn⟩ := need_states hq
      have hd := (valid_all hv).1.down
      have HF : Hid (afterStr l s t = namesAt l (needT (stT l s) (pathIx l t)) ∧ loadStr l s t = namesAt l (lessT (needT (stT l s) (pathIx l t)) (stT l s))) := by
        unfold afterStr loadStr afterIx loadIx
        rw [if_pos hq, if_pos hq]
        exact ⟨rfl, rfl⟩
      have hU := needT_state hT hP
      have HA : Hid ((needT (stT l s) (pathIx l t)).Pairwise (· < ·) ∧ ∀ j ∈ needT (stT l s) (pathIx l t), j < l.length) := ⟨hU.asc hd, hU.lt hd⟩
      have HA2 : Hid ((lessT (needT (stT l s) (pathIx l t)) (stT l s)).Pairwise (· < ·) ∧ ∀ j ∈ lessT (needT (stT l s) (pathIx l t)) (stT l s), j < l.length) := ⟨less_asc (hU.asc hd), less_lt (hU.lt hd)⟩
      clear hv hq hT hTn hP hPn hd hU
      go_enter Try.func20, Try.ntmps20
      go_wp2_with fail
      refine (nodesOf_any _ _ _ _ HW.out hl hlc hcm hn HV.out).mono ?_
      rintro e w1 ⟨g, nb, cv, rfl, hN, hb1⟩
      have HN := Lib.hid hN
      clear hN
      go_wp2_with fail
      refine (meetNeed_yes _ _ _ _ _ _ _ _ HN.out HV.out HQ.out).mono ?_
      rintro e w2 ⟨rfl, hb2⟩
      have B2 := hb1.trans (hb2.mono hb1.size)
      have HN2 := Lib.hid (HN.out.below hb2)
      clear hb1 hb2
      have hb2' : Below w2.heap.size w2 ((w2.alloc (.cells (bitCells (inT (stT l s))) 80)).alloc (.cells (bitCells (inT (needT (stT l s) (pathIx l t)))) 80)) := ((Below.refl _ w2).alloc (Nat.le_refl _) _).alloc (by simp) _
      have HS0 : Hid (Row ((w2.alloc (.cells (bitCells (inT (stT l s))) 80)).alloc (.cells (bitCells (inT (needT (stT l s) (pathIx l t)))) 80)).drew w2.heap.size 80 (bitCells (inT (stT l s))) ∧ Row ((w2.alloc (.cells (bitCells (inT (stT l s))) 80)).alloc (.cells (bitCells (inT (needT (stT l s) (pathIx l t)))) 80)).drew (w2.heap.size + 1) 80 (bitCells (inT (needT (stT l s) (pathIx l t)))) ∧ Nodes ((w2.alloc (.cells (bitCells (inT (stT l s))) 80)).alloc (.cells (bitCells (inT (needT (stT l s) (pathIx l t)))) 80)).drew w.heap.size g l.length l.length l nb cv ∧ Below w.heap.size w ((w2.alloc (.cells (bitCells (inT (stT l s))) 80)).alloc (.cells (bitCells (inT (needT (stT l s) (pathIx l t)))) 80)).drew) := by
        refine ⟨(Row.new w2 _ _).alloc _, ?_, HN2.out.below hb2'.drew, (B2.trans (hb2'.mono B2.size)).drew⟩
        have := Row.new (w2.alloc (.cells (bitCells (inT (stT l s))) 80)) 80 (bitCells (inT (needT (stT l s) (pathIx l t))))
        rw [World.size_alloc] at this
        exact this
      clear hb2'
      unfold bitsV bitCells
      go_wp2_with fail
      refine wp_region_held_drew (S := (fun W => Row W w2.heap.size 80 (bitCells (inT (stT l s))) ∧ Row W (w2.heap.size + 1) 80 (bitCells (inT (needT (stT l s) (pathIx l t)))) ∧ Nodes W w.heap.size g l.length l.length l nb cv ∧ Below w.heap.size w W)) (by kernel_rfl) ?_ (fun hHeld => ?_)
      · exact HS0.out
      refine take_at (i := 0) (d := 25) (v := bitsV (inT (needT (stT l s) (pathIx l t)))) rfl rfl (by kernel_rfl) (by kernel_rfl) (by kernel_rfl) (fun _ _ _ h => h) (by kernel_rfl) ((fun W hS => run_load_state_op rfl rfl hS.2.1)) (by assumption) ?_
      simp only [List.setIfInBounds_toArray, List.set_cons_succ, List.set_cons_zero]
      refine take_at (i := 1) (d := 26) (v := .slice (some ⟨g, 0, none⟩) l.length l.length) rfl rfl (by kernel_rfl) (by kernel_rfl) (by kernel_rfl) (fun _ _ _ h => h) (by kernel_rfl) (by (intro w hSw; (try dsimp only at hSw); go_simp)) (by assumption) ?_
      simp only [List.setIfInBounds_toArray, List.set_cons_succ, List.set_cons_zero]
      refine take_at (i := 3) (d := 28) (v := bitsV (inT (needT (stT l s) (pathIx l t)))) rfl rfl (by kernel_rfl) (by kernel_rfl) (by kernel_rfl) (fun _ _ _ h => h) (by kernel_rfl) ((fun W hS => run_load_state_op rfl rfl hS.2.1)) (by assumption) ?_
      simp only [List.setIfInBounds_toArray, List.set_cons_succ, List.set_cons_zero]
      refine take_at (i := 4) (d := 29) (v := bitsV (inT (stT l s))) rfl rfl (by kernel_rfl) (by kernel_rfl) (by kernel_rfl) (fun _ _ _ h => h) (by kernel_rfl) ((fun W hS => run_load_state_op rfl rfl hS.1)) (by assumption) ?_
      simp only [List.setIfInBounds_toArray, List.set_cons_succ, List.set_cons_zero]
      refine take_at (i := 6) (d := 31) (v := .slice (some ⟨g, 0, none⟩) l.length l.length) rfl rfl (by kernel_rfl) (by kernel_rfl) (by kernel_rfl) (fun _ _ _ h => h) (by kernel_rfl) (by (intro w hSw; (try dsimp only at hSw); go_simp)) (by assumption) ?_
      simp only [List.setIfInBounds_toArray, List.set_cons_succ, List.set_cons_zero]
      refine wpAnyH_ready (rs := [2]) (by kernel_rfl) (by simp) ?_
      refine AllReadyH.cons rfl (fun K hK => ?_) AllReadyH.nil
      go_simp
      refine (namesIn_any w.heap.size g l nb cv (needT (stT l s) (pathIx l t)) _ hHeld.2.2.1 HV.out HA.out.1 HA.out.2).mono ?_
      rintro e W3 ⟨rfl, hb3⟩
      have hs3 : Row W3 w2.heap.size 80 (bitCells (inT (stT l s))) ∧ Row W3 (w2.heap.size + 1) 80 (bitCells (inT (needT (stT l s) (pathIx l t)))) ∧ Nodes W3 w.heap.size g l.length l.length l nb cv ∧ Below w.heap.size w W3 := ⟨hHeld.1.below hb3 hHeld.1.lt, hHeld.2.1.below hb3 hHeld.2.1.lt, hHeld.2.2.1.below hb3, hHeld.2.2.2.trans (hb3.mono hHeld.2.2.2.size)⟩
      clear hb3 hHeld
      refine hK.out _ _ hs3 (fun hHeld => ?_)
      clear hK K hs3
      refine wpAnyH_ready (rs := [5]) (by kernel_rfl) (by simp) ?_
      refine AllReadyH.cons rfl (fun K hK => ?_) AllReadyH.nil
      go_simp
      refine (lessIn_any (needT (stT l s) (pathIx l t)) (stT l s) _).mono ?_
      rintro e W4 ⟨rfl, hb4⟩
      have hs4 : Row W4 w2.heap.size 80 (bitCells (inT (stT l s))) ∧ Row W4 (w2.heap.size + 1) 80 (bitCells (inT (needT (stT l s) (pathIx l t)))) ∧ Nodes W4 w.heap.size g l.length l.length l nb cv ∧ Below w.heap.size w W4 := ⟨hHeld.1.below hb4 hHeld.1.lt, hHeld.2.1.below hb4 hHeld.2.1.lt, hHeld.2.2.1.below hb4, hHeld.2.2.2.trans (hb4.mono hHeld.2.2.2.size)⟩
      clear hb4 hHeld
      refine hK.out _ _ hs4 (fun hHeld => ?_)
      clear hK K hs4
      refine wpAnyH_ready (rs := [7]) (by kernel_rfl) (by simp) ?_
      refine AllReadyH.cons rfl (fun K hK => ?_) AllReadyH.nil
      go_simp
      refine (namesIn_any w.heap.size g l nb cv (lessT (needT (stT l s) (pathIx l t)) (stT l s)) _ hHeld.2.2.1 HV.out HA2.out.1 HA2.out.2).mono ?_
      rintro e W5 ⟨rfl, hb5⟩
      have hs5 : Row W5 w2.heap.size 80 (bitCells (inT (stT l s))) ∧ Row W5 (w2.heap.size + 1) 80 (bitCells (inT (needT (stT l s) (pathIx l t)))) ∧ Nodes W5 w.heap.size g l.length l.length l nb cv ∧ Below w.heap.size w W5 := ⟨hHeld.1.below hb5 hHeld.1.lt, hHeld.2.1.below hb5 hHeld.2.1.lt, hHeld.2.2.1.below hb5, hHeld.2.2.2.trans (hb5.mono hHeld.2.2.2.size)⟩
      clear hb5 hHeld
      refine hK.out _ _ hs5 (fun hHeld => ?_)
      clear hK K hs5
      refine take_at (i := 8) (d := 6) (v := .string (namesAt l (needT (stT l s) (pathIx l t)))) rfl rfl (by kernel_rfl) (by kernel_rfl) (by kernel_rfl) (fun _ _ _ h => h) (by kernel_rfl) (by (intro w hSw; (try dsimp only at hSw); go_simp)) (by assumption) ?_
      simp only [List.setIfInBounds_toArray, List.set_cons_succ, List.set_cons_zero]
      refine take_at (i := 9) (d := 7) (v := .string (namesAt l (lessT (needT (stT l s) (pathIx l t)) (stT l s)))) rfl rfl (by kernel_rfl) (by kernel_rfl) (by kernel_rfl) (fun _ _ _ h => h) (by kernel_rfl) (by (intro w hSw; (try dsimp only at hSw); go_simp)) (by assumption) ?_
      simp only [List.setIfInBounds_toArray, List.set_cons_succ, List.set_cons_zero]
      refine take_at (i := 10) (d := 8) (v := .bool true) rfl rfl (by kernel_rfl) (by kernel_rfl) (by kernel_rfl) (fun _ _ _ h => h) (by kernel_rfl) (by (intro w hSw; (try dsimp only at hSw); go_simp)) (by assumption) ?_
      simp only [List.setIfInBounds_toArray, List.set_cons_succ, List.set_cons_zero]
      refine wpAnyH_done (by kernel_rfl) ?_ _
      go_wp2
      go_ret3
      exact ⟨ret_three HF.out.1.symm HF.out.2.symm rfl, hHeld.2.2.2⟩

end Go.Proofs.Ytcaegpjbdcopoaa
/- impl.nodesNamed, sizesTogether, CostOf, LoadCost. -/
namespace Go.Proofs.Ytcaegpjbdcopoaa
open Go.RowKit Go.Shelf

theorem ret_nodes {a b : Value} {c d : Bool} (h : a = b) (k : c = d) : Ending.returned (.tuple #[a, .bool c]) = .returned (.tuple #[b, .bool d]) := by rw [h, k]
/-- The nodes that are named, in a row of the call's own. -/
def NamedPost (w : World) (l : List Seg) (nb : Nat → Nat) (s : ByteArray) (e : Ending) (w' : World) : Prop :=
  ∃ v, e = .returned (.tuple #[v, .bool true]) ∧ w'.ownsRow w.heap.size 116 1 v (namedJs l s.data.toList).length (ptrsOf nb (namedJs l s.data.toList)) ∧ Below w.heap.size w w'

set_option maxRecDepth 100000 in
set_option maxHeartbeats 400000 in
theorem nodesNamed_bad (s : ByteArray) (w : World) (hs : s.size ≤ 1048576) :
    Calls Try.prog 80 #[.slice none 0 0, .string s] w fun e w' => e = .returned (.tuple #[.slice none 0 0, .bool (decide (s.size = 0))]) ∧ w = w' := by
  by_cases h0 : s.size = 0
  · have HD : Hid (decide (s.size = 0) = true) := decide_eq_true h0
    go_enter Try.func80, Try.ntmps80
    go_wp2
    go_loop [6, 11] (fun v i => v = .slice none 0 0 ∧ i = .int .i64 0) (fun _ _ => 0)
    case atStart => exact ⟨rfl, rfl⟩
    case round =>
      obtain ⟨rfl, rfl⟩ := hrel
      go_wp2
      refine bodyPost_ret (v := .tuple #[.slice none 0 0, .bool true]) (by simp [results, Try.results80, go_sem]) rfl ?_
      exact ⟨rfl, rfl⟩
  · have HD : Hid (decide (s.size = 0) = false) := decide_eq_false h0
    have hp : 0 < s.size := by omega
    clear h0
    go_enter Try.func80, Try.ntmps80
    go_wp2
    go_loop [6, 11] (fun v i => v = .slice none 0 0 ∧ i = .int .i64 0) (fun _ _ => 0)
    case atStart => exact ⟨rfl, rfl⟩
    case round =>
      obtain ⟨rfl, rfl⟩ := hrel
      go_wp2_with fail
      refine (findNode_nil _ _).mono ?_
      rintro e w1 ⟨rfl, rfl⟩
      go_wp2
      refine bodyPost_ret (v := .tuple #[.slice none 0 0, .bool false]) (by simp [results, Try.results80, go_sem]) rfl ?_
      exact ⟨by rw [HD.out], rfl⟩

theorem found_byte {l : List Seg} {nb : Nat → Nat} {b : UInt8} (h : 0 ≤ bSeek l b) : foundPtr l nb ⟨#[b]⟩ = some ⟨nb (bSeek l b).toNat, 0, none⟩ := if_neg (by unfold bSeek at h; omega)
theorem found_none {l : List Seg} {nb : Nat → Nat} {b : UInt8} (h : bSeek l b < 0) : foundPtr l nb ⟨#[b]⟩ = none := if_pos h

def NamedEither (w : World) (l : List Seg) (nb : Nat → Nat) (s : ByteArray) (e : Ending) (w' : World) : Prop :=
  (namedOk l s.data.toList = true ∧ NamedPost w l nb s e w') ∨ (namedOk l s.data.toList = false ∧ e = .returned (.tuple #[.slice none 0 0, .bool false]) ∧ Below w.heap.size w w')

set_option maxRecDepth 100000 in
set_option maxHeartbeats 1000000 in
theorem nodesNamed_any (B g : Nat) (l : List Seg) (nb : Nat → Nat) (cv : Nat → Value) (s : ByteArray) (w : World) (h : Nodes w B g l.length l.length l nb cv) (hv : validB l = true) (hs : s.size ≤ 1048576) :
    Calls Try.prog 80 #[.slice (some ⟨g, 0, none⟩) l.length l.length, .string s] w (NamedEither w l nb s) := by
  have h8 := (valid_all hv).2.1
  have HN := Lib.hid h
  obtain ⟨i0, hi0, hz0, hz1, hz2⟩ := info_parts info_ptr
  have I0 := Lib.hid hi0
  have Z0 := Lib.hid hz0
  have Z1 := Lib.hid hz1
  have Z2 := Lib.hid hz2
  clear hi0 hz0 hz1 hz2 h hv
  go_enter Try.func80, Try.ntmps80
  go_wp2
  go_loopw [6, 11] (fun v i wr => ∃ k : Nat, k ≤ s.size ∧ i = .int .i64 k ∧ Hid (namedOk l (s.data.toList.take k) = true) ∧ Hid (wr.ownsRow w.heap.size 116 1 v (namedJs l (s.data.toList.take k)).length (ptrsOf nb (namedJs l (s.data.toList.take k)))) ∧ Hid (Below w.heap.size w wr) ∧ ∃ a n c, v = .slice a n c)
    (fun _ i _ => s.size - (intOf i).toNat)
  case atStart => exact ⟨0, Nat.zero_le _, rfl, rfl, World.ownsRow_nil _ _ _ _, Below.refl _ _, _, _, _, rfl⟩
  case round =>
    obtain ⟨k, hk, rfl, HK, HO, HB, a, n, c, rfl⟩ := hrel
    have hk0 : (0 : Int) ≤ (k : Int) := Int.natCast_nonneg _
    by_cases hlt : k < s.size
    · have hlt' : (k : Int) < (s.size : Int) := by omega
      have h1 : (k : Int) + 1 ≤ (s.size : Int) := by omega
      obtain ⟨t1, t2⟩ := named_take (l := l) s hlt
      have HM : Hid (s[k] ∈ s.data.toList) := by
        show s.data.toList[k]'(by simpa using hlt) ∈ _
        exact List.getElem_mem _
      have HX := Lib.hid (one_byte s hlt)
      have HT1 := Lib.hid t1
      have HT2 := Lib.hid t2
      have hbd := bSeek_bd l s[k]
      clear t1 t2
      generalize s[k] = b at *
      have HNk := Lib.hid (HN.out.below HB.out)
      go_wp2_with fail
      refine (findNode_any _ _ _ _ _ _ _ HNk.out (by omega)).mono ?_
      rw [HX.out]
      rcases hbd with hbd | ⟨hb0, hb1⟩
      · have HF : Hid (namedOk l s.data.toList = false) := namedOk_bad HM.out (by omega)
        rw [found_none (by omega)]
        rintro e w1 ⟨rfl, rfl⟩
        clear hbd
        go_wp2
        refine bodyPost_ret (v := .tuple #[.slice none 0 0, .bool false]) (by simp [results, Try.results80, go_sem]) rfl ?_
        exact .inr ⟨HF.out, rfl, HB.out⟩
      · rw [found_byte hb0]
        rintro e w1 ⟨rfl, rfl⟩
        have hlen : (namedJs l (s.data.toList.take k)).length = k := by
          unfold namedJs
          rw [List.length_map, List.length_take]
          simp
          omega
        have HK1 : Hid (namedOk l (s.data.toList.take (k + 1)) = true) := by
          show _ = _
          rw [HT1.out, HK.out, decide_eq_true hb0]
          rfl
        generalize (bSeek l b).toNat = j at *
        clear hb0 hb1
        have HJ : Hid (ptrsOf nb (namedJs l (s.data.toList.take (k + 1))) = ptrsOf nb (namedJs l (s.data.toList.take k)) ++ [.pointer (some ⟨nb j, 0, none⟩)] ∧ (namedJs l (s.data.toList.take (k + 1))).length = (namedJs l (s.data.toList.take k)).length + 1) := by
          rw [HT2.out]
          exact ⟨by simp [ptrsOf, ptrTo], by simp⟩
        have hHO := HO.out
        rw [hlen] at hHO
        have HO2 := Lib.hid (hHO.alloc (.cells #[.pointer (some ⟨nb j, 0, none⟩)] 116))
        clear hHO
        have hbz := HB.out.size
        go_wp2_with (at_builtin; refine wpList_append_own_at _ rfl _ _ 77 rfl w.heap.size 116 i0 (.pointer none) 1 8 Try.underlying77 I0.out Z0.out Z1.out Z2.out rfl (by decide) _ _ _ rfl HO2.out ⟨wr.heap.size, 0, none⟩ 1 1 [.pointer (some ⟨nb j, 0, none⟩)] rfl rfl (cell_one_new _ _ _) (by simp [Value.oneCell']) (by unfold maxLen; omega) (by omega) (by simp; omega) ?_; intro v4 w4 hown4 hgrow _ _)
        have HB4 : Hid (Below w.heap.size w w4) := (HB.out.alloc hbz _).grown hgrow (by simp; omega) (fun q hq => (World.ownsRow.lt HO2.out q hq).1)
        have HO4 : Hid (w4.ownsRow w.heap.size 116 1 v4 (namedJs l (s.data.toList.take (k + 1))).length (ptrsOf nb (namedJs l (s.data.toList.take (k + 1))))) := by
          show World.ownsRow _ _ _ _ _ _ _
          rw [HJ.out.1, HJ.out.2, hlen]
          exact hown4
        have HV : ∃ a n c, v4 = .slice a n c := by
          obtain ⟨q, cap, rfl⟩ := own_form hown4 (by omega)
          exact ⟨_, _, _, rfl⟩
        clear hown4 hgrow
        go_roundw
        case rel => exact ⟨k + 1, by omega, by go_num, HK1, HO4, HB4, HV⟩
        case measure => simp [intOf]; omega
    · obtain rfl : k = s.size := by omega
      have e : s.data.toList.take s.size = s.data.toList := List.take_of_length_le (by simp)
      rw [e] at HK HO
      go_wp2
      refine bodyPost_ret (v := .tuple #[.slice a n c, .bool true]) (by simp [results, Try.results80, go_sem]) rfl ?_
      exact .inl ⟨HK.out, _, rfl, HO.out, HB.out⟩

theorem szs_take {l : List Seg} {js : List Nat} {k : Nat} (hk : k < js.length) : szs l (js.take (k + 1)) = szs l (js.take k) + sizeAt l js[k] := by
  rw [List.take_succ_eq_append_getElem hk, szs_snoc]

set_option maxRecDepth 100000 in
set_option maxHeartbeats 1000000 in
theorem sizes_any (B g B' : Nat) (l : List Seg) (nb : Nat → Nat) (cv : Nat → Value) (js : List Nat) (a : Option Addr) (c : Nat) (w : World) (h : Nodes w B g l.length l.length l nb cv) (hv : validB l = true) (hj : ∀ j ∈ js, j < l.length) (hjl : js.length ≤ 1048576)
    (hown : w.ownsRow B' 116 1 (.slice a js.length c) js.length (ptrsOf nb js)) :
    Calls Try.prog 81 #[.slice a js.length c] w fun e w' => e = .returned (.int .i64 (szs l js)) ∧ w = w' := by
  have HN := Lib.hid h
  have HV := Lib.hid hv
  have HJ := Lib.hid hj
  have HO := Lib.hid hown
  clear h hv hj hown
  go_enter Try.func81, Try.ntmps81
  go_wp2
  go_loop [3, 8] (fun v i => ∃ k : Nat, k ≤ js.length ∧ i = .int .i64 k ∧ v = .int .i64 (szs l (js.take k)))
    (fun _ i => js.length - (intOf i).toNat)
  case atStart => exact ⟨0, Nat.zero_le _, rfl, rfl⟩
  case round =>
    obtain ⟨k, hk, rfl, rfl⟩ := hrel
    by_cases hlt : k < js.length
    · obtain ⟨q, cap, hq⟩ := own_form HO.out (by omega)
      injection hq with hq1 _ _
      subst hq1
      have hjk := HJ.out js[k] (List.getElem_mem hlt)
      have hc : w.cell? ⟨q, k, none⟩ = some (.pointer (some ⟨nb js[k], 0, none⟩)) := by
        rw [HO.out.cellAt k (by omega)]
        simp [ptrsOf, ptrTo, hlt]
      have hn1 : w.cell? ⟨nb js[k], 1, none⟩ = some (.int .i64 (sizeAt l js[k])) := by
        rw [sizeAt_of hjk]
        exact (HN.out.node js[k] _ hjk (List.getElem?_eq_getElem hjk)).cell 1
      have HS := Lib.hid (szs_take (l := l) hlt)
      have hb := szs_bd HV.out (js.take k) (fun j h => HJ.out j (List.mem_of_mem_take h))
      have hlen : (js.take k).length = k := by rw [List.length_take]; omega
      have hb0 : 0 ≤ szs l (js.take k) := by omega
      have hb1 : szs l (js.take k) ≤ 103809024 := by omega
      obtain ⟨z1, z2⟩ := sizeAt_bd HV.out hjk
      clear hb hlen
      generalize sizeAt l js[k] = z at *
      generalize js[k] = j at *
      generalize szs l (js.take k) = S0 at *
      go_wp2
      go_round
      case rel => exact ⟨k + 1, by omega, by go_num, by rw [HS.out]⟩
      case measure => simp [intOf]; omega
    · obtain rfl : k = js.length := by omega
      go_wp2
      go_ret
      exact ⟨rfl, rfl⟩

set_option maxRecDepth 100000 in
set_option maxHeartbeats 400000 in
theorem costOf_any (A : Option Addr) (l : List Seg) (c : Nat) (s : ByteArray) (w : World) (hw : Segs w w.heap.size A l) (hl : l.length ≤ 1048576) (hlc : l.length ≤ c) (hcm : c ≤ 9223372036854775807) (hn : Short l) (hs : s.size ≤ 1048576) :
    Calls Try.prog 61 #[.slice A l.length c, .string s] w fun e w' => e = .returned (.int .i64 (costB l s)) ∧ Below w.heap.size w w' := by
  have HW : Hid (Segs w w.heap.size A l) := hw
  clear hw
  have hnil := fun (W : World) (a : Option Addr) (n c : Nat) => Lib.run_eql_slice_nil (P := Try.prog) W 77 116 a n c 0 0 Try.underlying77
  cases hv : validB l with
  | false =>
    have HF : Hid (costB l s = -1) := if_neg (by rw [hv]; simp)
    generalize hd : decide (s.size = 0) = d
    have HD := Lib.hid hd
    clear hd
    go_enter Try.func61, Try.ntmps61
    go_wp2_with fail
    refine (nodesOf_bad _ _ _ _ HW.out hl hlc hcm hn hv).mono ?_
    rintro e w1 ⟨rfl, hb1⟩
    go_wp2_with fail
    refine (nodesNamed_bad s _ hs).mono ?_
    rw [HD.out]
    rintro e w2 ⟨rfl, rfl⟩
    go_wp2
    go_ret
    exact ⟨ret_int HF.out.symm, hb1⟩
  | true =>
    have HV := Lib.hid hv
    clear hv
    go_enter Try.func61, Try.ntmps61
    go_wp2_with fail
    refine (nodesOf_any _ _ _ _ HW.out hl hlc hcm hn HV.out).mono ?_
    rintro e w1 ⟨g, nb, cv, rfl, hN, hb1⟩
    have HN := Lib.hid hN
    clear hN
    go_wp2_with fail
    refine (nodesNamed_any _ _ _ _ _ s _ HN.out HV.out hs).mono ?_
    rintro e w2 (⟨hok, v, rfl, hown, hb2⟩ | ⟨hok, rfl, hb2⟩)
    · have HF : Hid (costB l s = szs l (namedJs l s.data.toList)) := if_pos ⟨HV.out, hok⟩
      have HJ := Lib.hid (namedJs_lt hok)
      have HN2 := Lib.hid (HN.out.below hb2)
      have B2 := hb1.trans (hb2.mono hb1.size)
      have hjl : (namedJs l s.data.toList).length ≤ 1048576 := by
        unfold namedJs
        rw [List.length_map]
        simpa using hs
      obtain ⟨a, c', rfl⟩ : ∃ a c', v = .slice a (namedJs l s.data.toList).length c' := by
        rcases hown.2 with ⟨e1, e2⟩ | ⟨q, cap, _, e1, _⟩
        · exact ⟨none, 0, by rw [e1, e2]⟩
        · exact ⟨_, _, e1⟩
      have HO := Lib.hid hown
      clear hown hb1 hb2 hok
      go_wp2_with fail
      refine (sizes_any _ _ _ _ _ _ _ _ _ _ HN2.out HV.out HJ.out hjl HO.out).mono ?_
      rintro e w3 ⟨rfl, rfl⟩
      go_wp2
      go_ret
      exact ⟨ret_int HF.out.symm, B2⟩
    · have HF : Hid (costB l s = -1) := if_neg (by rw [hok]; simp)
      have B2 := hb1.trans (hb2.mono hb1.size)
      clear hb1 hb2 hok
      go_wp2
      go_ret
      exact ⟨ret_int HF.out.symm, B2⟩

end Go.Proofs.Ytcaegpjbdcopoaa

/- impl.needsFor: what is to be met, as functions. -/
namespace Go.Proofs.Ytcaegpjbdcopoaa
open Go.RowKit Go.Shelf

theorem info_fn : (Try.prog.info? 84).map (fun i => (i.zero, i.size, i.bytes)) = some (some Value.nilFunc, 1, 8) := by kernel_rfl
/-- The function of a need. -/
def needV (l : List Seg) (j : Nat) : Value := .func (.func 78) #[bitsV (inT (rp l j))] #[]
def NeedsPost (w : World) (l : List Seg) (js : List Nat) (e : Ending) (w' : World) : Prop :=
  ∃ v, e = .returned v ∧ w'.ownsRow w.heap.size 84 1 v js.length (js.map (needV l)) ∧ Below w.heap.size w w'

/-- What the loop over needs keeps. -/
structure Going (w1 : World) (H b : Nat) (fv : Value) (fs : List Value) (T : List Nat) (bs : List Value) (W : World) : Prop where
  held : Row W H 80 (bitCells (inT T))
  text : Lib.IsBuilderF 64 5 w1.heap.size b bs W
  funcs : W.ownsRow w1.heap.size 84 1 fv fs.length fs
  below : Below w1.heap.size w1 W
  low : w1.heap.size ≤ H ∧ w1.heap.size ≤ b ∧ b ≠ H
theorem Going.below' {w1 W W' : World} {H b : Nat} {fv : Value} {fs : List Value} {T : List Nat} {bs : List Value} (h : Going w1 H b fv fs T bs W) (hb : Below W.heap.size W W') : Going w1 H b fv fs T bs W' :=
  ⟨h.held.below hb h.held.lt, isB_own _ _ _ _ 0 (fun _ : List Unit => bs) [] W W' none h.text (grownBy_of_below hb) (fun r e => by cases e), own_keep h.funcs (fun g hg => hb.block g (World.ownsRow.lt h.funcs g hg).2), h.below.trans (hb.mono h.below.size), h.low⟩
theorem Going.put {w1 W : World} {H b : Nat} {fv : Value} {fs : List Value} {T : List Nat} {bs : List Value} (h : Going w1 H b fv fs T bs W) (U : List Nat) : Going w1 H b fv fs U bs (putBits W H (inT U)) := by
  have hne : ∀ g, fv.ownBlock = some g → g ≠ H := fun g hg e => by
    rcases h.funcs.2 with ⟨rfl, _⟩ | ⟨g', cap, cur, rfl, _, hh, _⟩
    · cases hg
    · have : g' = g := by simpa [Value.ownBlock] using hg
      subst this
      subst e
      have h1 : W.heap[g']? = some (.cells _ 80 (0, 0)) := h.held
      rw [hh] at h1
      injection h1 with h1
      injection h1 with _ h2
      exact absurd h2 (by decide)
  refine ⟨putBits_row h.held, ?_, own_keep h.funcs (fun g hg => putBits_block W H _ (hne g hg)), putBits_below h.below h.low.1, h.low⟩
  have key : ∀ p, Lib.BuilderAtF 64 5 w1.heap.size b p bs W → Lib.BuilderAtF 64 5 w1.heap.size b p bs (putBits W H (inT U)) := fun p hp => by
    obtain ⟨h1, v, h2, h3, h4⟩ := hp
    refine ⟨h1, v, (putBits_block W H _ h.low.2.2).trans h2, ⟨h3.1, ?_⟩, h4⟩
    rcases h3.2 with h5 | ⟨g, cap, cur, fz, hv, hg, hh, r⟩
    · exact .inl h5
    · refine .inr ⟨g, cap, cur, fz, hv, hg, (putBits_block W H _ (fun e => ?_)).trans hh, r⟩
      subst e
      have h6 : W.heap[g]? = some (.cells _ 80 (0, 0)) := h.held
      rw [hh] at h6
      injection h6 with h6
      injection h6 with _ h7
      exact absurd h7 (by decide)
  exact h.text.elim (fun x => .inl (key _ x)) (fun x => .inr (key _ x))
theorem Going.wrote {w1 W W' : World} {H b : Nat} {fv : Value} {fs : List Value} {T : List Nat} {bs bs' : List Value} (h : Going w1 H b fv fs T bs W) (hI : Lib.IsBuilderF 64 5 w1.heap.size b bs' W') (hb : Below w1.heap.size W W') (hk : Lib.OthersKept 5 (some b) W W') : Going w1 H b fv fs T bs' W' := by
  refine ⟨kept_row hk h.held (fun e => h.low.2.2 e.symm) (by decide), hI, ?_, h.below.trans hb, h.low⟩
  rcases h.funcs.2 with ⟨rfl, e0⟩ | ⟨g', cap, cur, rfl, hg, hh, r⟩
  · exact ⟨h.funcs.1, .inl ⟨rfl, e0⟩⟩
  · refine ⟨h.funcs.1, .inr ⟨g', cap, cur, rfl, hg, hk g' _ hh (fun e => ?_) (fun c fz e => ?_), r⟩⟩
    · injection e with e
      subst e
      obtain ⟨cb, hcb⟩ := builder_cells h.text
      rw [hh] at hcb
      injection hcb with hcb
      injection hcb with _ h2
      exact absurd h2 (by decide)
    · injection e with _ e2
      exact absurd e2 (by decide)

end Go.Proofs.Ytcaegpjbdcopoaa
