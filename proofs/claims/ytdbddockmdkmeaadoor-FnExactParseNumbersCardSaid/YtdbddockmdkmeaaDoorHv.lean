/- The walk of the program's ParseNumbers. -/
import Derived.Test.YtdbddockmdkmeaaDoorHu
namespace Go.Proofs.YtdbddockmdkmeaaDoor
open Go.RowKit Go.Shelf
attribute [local go_sem] Oper.semAt_some

theorem allOk_snoc12 (pre : List ByteArray) (x : ByteArray) : allOk12 (pre ++ [x]) = (allOk12 pre && ok12 x.data.toList) := by
  unfold allOk12
  rw [List.all_append]
  simp
theorem vals_snoc12 (pre : List ByteArray) (x : ByteArray) : vals12 (pre ++ [x]) = vals12 pre ++ [(val12 x.data.toList : Int)] := by
  unfold vals12
  rw [List.map_append]
  rfl
theorem allOk_cut12 {ps : List ByteArray} {k : Nat} (h : allOk12 (ps.take k) = false) : allOk12 ps = false := by
  rw [← List.take_append_drop k ps]
  unfold allOk12 at h ⊢
  rw [List.all_append, h]
  rfl

theorem own_cells12 {W : World} {B : Nat} {v : Value} {ts : List Int} (h : Si.OwnInts W B v ts) {k : Nat} (hk : v.ownBlock = some k) : ∃ c t fz, W.heap[k]? = some (.cells c t fz) := by
  rcases h.2 with ⟨e, _⟩ | ⟨g', cap, cur, e, _, hh, _⟩
  · rw [e] at hk; cases hk
  · rw [e] at hk
    injection hk with hk
    subst hk
    exact ⟨_, _, _, hh⟩
theorem own_low12 {W : World} {B B' : Nat} {v : Value} {ts : List Int} (h : Si.OwnInts W B v ts) (hB : B' ≤ B) : Si.OwnInts W B' v ts := by
  refine ⟨h.1, ?_⟩
  rcases h.2 with h0 | ⟨g', cap, cur, e, hg, r⟩
  · exact .inl h0
  · exact .inr ⟨g', cap, cur, e, by omega, r⟩
theorem step12 {w W W3 W5 : World} {pre : List ByteArray} {x : ByteArray} {v v' : Value} {o0 : Obj} (hb3 : Below W.heap.size W W3) (hz : w.heap.size + 6 ≤ W.heap.size) (hrow : Row W3 (w.heap.size + 2) 38 #[v])
    (hown : Si.OwnInts W3 (w.heap.size + 6) v (vals12 pre)) (hall : allOk12 pre = true) (hok : ok12 x.data.toList = true) (hlist : Row W3 w.heap.size 38 #[.slice none 0 0]) (hokr : Row W3 (w.heap.size + 1) 4 #[.bool false])
    (hbel : Below w.heap.size w W3) (hown5 : Si.OwnInts W5 (w.heap.size + 6) v' (vals12 pre ++ [(val12 x.data.toList : Int)])) (hg : (W3.alloc o0).grownBy W5 v.ownBlock) (B : Nat) :
    KeepsO B W (W5.setCell ⟨w.heap.size + 2, 0, none⟩ v') ∧ KeptBox (w.heap.size + 3) (w.heap.size + 6) W (W5.setCell ⟨w.heap.size + 2, 0, none⟩ v') ∧ Read12 w (pre ++ [x]) (W5.setCell ⟨w.heap.size + 2, 0, none⟩ v') := by
  have hz3 := hb3.size
  have hne : ∀ k, v.ownBlock = some k → w.heap.size + 6 ≤ k := fun k hk => (own_lt12 hown hk).1
  have hst : ∀ k, k < W3.heap.size → v.ownBlock ≠ some k → W5.heap[k]? = W3.heap[k]? := fun k hk hn => by
    have h1 := hg.block k (by simp; omega) (fun e => hn e.symm)
    exact h1.trans (Below.heap_alloc W3 _ k hk)
  have hs5 : W3.heap.size + 1 ≤ W5.heap.size := by have := hg.size; simpa using this
  have hsz : (W5.setCell ⟨w.heap.size + 2, 0, none⟩ v').heap.size = W5.heap.size := by
    have h1 := ((Below.refl 0 W5).setCell (p := ⟨w.heap.size + 2, 0, none⟩) (Nat.zero_le _) v').size
    simp [World.setCell]
  have rk : ∀ {b : Nat} {t : TypeId} {cs : Array Value}, b < w.heap.size + 6 → Row W3 b t cs → Row W5 b t cs := fun hb h => (hst _ h.lt (fun e => by have := hne _ e; omega)).trans h
  refine ⟨fun k o _ ho hc => ?_, ⟨by rw [hsz]; omega, fun k h0 h1 => ?_⟩, ?_⟩
  · have hkW := (Array.getElem?_eq_some_iff.1 ho).1
    have h3 : W3.heap[k]? = some o := (hb3.block k hkW).trans ho
    have hk2 : k ≠ w.heap.size + 2 := fun e => by
      subst e
      rw [show W3.heap[w.heap.size + 2]? = some (.cells #[v] 38 (0, 0)) from hrow] at h3
      injection h3 with h3
      subst h3
      cases hc
    have hkv : v.ownBlock ≠ some k := fun e => by
      obtain ⟨c, t, fz, hh⟩ := own_cells12 hown e
      rw [hh] at h3
      injection h3 with h3
      subst h3
      cases hc
    exact (Below.heap_setCell W5 ⟨w.heap.size + 2, 0, none⟩ v' k hk2).trans ((hst k (by omega) hkv).trans h3)
  · exact (Below.heap_setCell W5 ⟨w.heap.size + 2, 0, none⟩ v' k (by show k ≠ w.heap.size + 2; omega)).trans ((hst k (by omega) (fun e => by have := hne k e; omega)).trans (hb3.block k (by omega)))
  · refine ⟨⟨v', (rk (by omega) hrow).put 0 v', ?_⟩, ?_, (rk (by omega) hlist).far (p := ⟨w.heap.size + 2, 0, none⟩) (by show w.heap.size ≠ w.heap.size + 2; omega) _, (rk (by omega) hokr).far (p := ⟨w.heap.size + 2, 0, none⟩) (by show w.heap.size + 1 ≠ w.heap.size + 2; omega) _, ?_⟩
    · rw [vals_snoc12]
      exact own_keep12 hown5 fun k hk => Below.heap_setCell W5 ⟨w.heap.size + 2, 0, none⟩ v' k (by have := (own_lt12 hown5 hk).1; show k ≠ w.heap.size + 2; omega)
    · rw [allOk_snoc12, hall, hok]; rfl
    · exact (((hbel.alloc hbel.size o0).grown hg (by have := hbel.size; simp; omega) (fun k e => by have := hne k e; omega)).setCell (p := ⟨w.heap.size + 2, 0, none⟩) (by show w.heap.size ≤ w.heap.size + 2; omega) v')

set_option maxRecDepth 100000 in
set_option maxHeartbeats 4000000 in
theorem parseNumbers_any (t : ByteArray) (w : World) (hp : Pow12 w) (he : Errs12 w) (ht : t.size ≤ 1048576) :
    Calls Tryd.prog 36 #[.string t] w (NumsPost12 w t) := by
  have HP := Lib.hid hp
  have HE := Lib.hid he
  clear hp he
  by_cases hd : t = ⟨#[45]⟩
  · have HR : Hid (numsRes12 t = [] ∧ numsOk12 t = true) := ⟨if_pos hd, if_pos hd⟩
    subst hd
    unfold NumsPost12
    go_enter Tryd.func36, Tryd.ntmps36
    go_wp2
    have r1 : Row ((w.alloc (.cells #[.slice none 0 0] 38)).alloc (.cells #[.bool true] 4)) w.heap.size 38 #[.slice none 0 0] := (Row.new w 38 #[.slice none 0 0]).alloc (.cells #[.bool true] 4)
    have r2 : Row ((w.alloc (.cells #[.slice none 0 0] 38)).alloc (.cells #[.bool true] 4)) (w.heap.size + 1) 4 #[.bool true] := by
      have h := Row.new (w.alloc (.cells #[.slice none 0 0] 38)) 4 #[.bool true]
      rw [World.size_alloc] at h
      exact h
    have hB : Below w.heap.size w ((w.alloc (.cells #[.slice none 0 0] 38)).alloc (.cells #[.bool true] 4)) := ((Below.refl _ w).alloc (Nat.le_refl _) _).alloc (by simp) _
    refine bodyPost_ret (v := .tuple #[.slice none 0 0, .bool true]) (results_two12 (p := 2) (q := 3) rfl _ _ ⟨w.heap.size, 0, none⟩ ⟨w.heap.size + 1, 0, none⟩ _ _ (by simp) (run_loadRow12 (r1.cell 0)) (by simp) (run_loadBool12 (r2.cell 0))) rfl ?_
    exact ⟨_, by rw [HR.out.2], by rw [HR.out.1]; exact World.ownsRow_nil _ _ _ _, hB⟩
  have e45 : (⟨#[45]⟩ : ByteArray).toList = [45] := by
    rw [ByteArray.toList_eq]
  have hdl : (t.toList == [45]) = false := by
    rw [← Bool.not_eq_true, ← e45]
    intro e
    exact hd (sameB_iff.1 e)
  clear e45
  have HR : Hid (numsRes12 t = (if allOk12 (cutRes t 32) = true then vals12 (cutRes t 32) else []) ∧ numsOk12 t = allOk12 (cutRes t 32)) := ⟨if_neg hd, if_neg hd⟩
  clear hd
  refine (callsIn_wide (n := 20)).1 ?_
  refine callsIn_of_wp_marks Tryd.func36 rfl trivial ?_ rfl
  simp only [Tryd.ntmps36, List.size_toArray, List.length_cons, List.length_nil, Nat.reduceAdd, Nat.reduceSub, Array.replicate_succ, Array.replicate_zero, List.push_toArray, List.append_toArray, List.nil_append, List.cons_append]
  gi_wp2_with fail
  have hB0 : Below w.heap.size w (((w.alloc (.cells #[.slice none 0 0] 38)).alloc (.cells #[.bool false] 4)).alloc (.cells #[.slice none 0 0] 38)) := (((Below.refl _ w).alloc (Nat.le_refl _) _).alloc (by simp) _).alloc (by simp; omega) _
  have hz0 : (((w.alloc (.cells #[.slice none 0 0] 38)).alloc (.cells #[.bool false] 4)).alloc (.cells #[.slice none 0 0] 38)).heap.size = w.heap.size + 3 := by simp
  have r0 : Row (((w.alloc (.cells #[.slice none 0 0] 38)).alloc (.cells #[.bool false] 4)).alloc (.cells #[.slice none 0 0] 38)) w.heap.size 38 #[.slice none 0 0] := ((Row.new w _ _).alloc _).alloc _
  have r1 : Row (((w.alloc (.cells #[.slice none 0 0] 38)).alloc (.cells #[.bool false] 4)).alloc (.cells #[.slice none 0 0] 38)) (w.heap.size + 1) 4 #[.bool false] := by
    have h := (Row.new (w.alloc (.cells #[.slice none 0 0] 38)) 4 #[.bool false]).alloc (.cells #[.slice none 0 0] 38)
    rw [World.size_alloc] at h
    exact h
  have r2 : Row (((w.alloc (.cells #[.slice none 0 0] 38)).alloc (.cells #[.bool false] 4)).alloc (.cells #[.slice none 0 0] 38)) (w.heap.size + 2) 38 #[.slice none 0 0] := by
    have h := Row.new ((w.alloc (.cells #[.slice none 0 0] 38)).alloc (.cells #[.bool false] 4)) 38 #[.slice none 0 0]
    rw [World.size_alloc, World.size_alloc] at h
    exact h
  generalize ((w.alloc (.cells #[.slice none 0 0] 38)).alloc (.cells #[.bool false] 4)).alloc (.cells #[.slice none 0 0] 38) = W0 at *
  refine ⟨trivial, ?_⟩
  gi_at_call 90
  refine (callsIn_wide.2 (splitSeq_any _ _)).mono ?_
  rintro e w2 ⟨rfl, rfl⟩
  have hbx := boxes_new12 t W0
  have hB2 : Below w.heap.size w (((W0.alloc (.cells #[.string t] 9)).alloc (.cells #[.string ⟨#[32]⟩] 9)).alloc (.cells #[.int .i64 0] 3)) := ((hB0.alloc hB0.size _).alloc (by simp; omega) _).alloc (by simp; omega) _
  have hz2 : (((W0.alloc (.cells #[.string t] 9)).alloc (.cells #[.string ⟨#[32]⟩] 9)).alloc (.cells #[.int .i64 0] 3)).heap.size = w.heap.size + 6 := by simp [hz0]
  have hI0 : Read12 w [] (((W0.alloc (.cells #[.string t] 9)).alloc (.cells #[.string ⟨#[32]⟩] 9)).alloc (.cells #[.int .i64 0] 3)) :=
    ⟨⟨_, ((r2.alloc _).alloc _).alloc _, World.ownsRow_nil _ _ _ _⟩, rfl, ((r0.alloc _).alloc _).alloc _, ((r1.alloc _).alloc _).alloc _, hB2⟩
  rw [hz0] at hbx
  rw [hz0]
  clear r0 r1 r2 hB0 hB2
  gi_wp2
  generalize ((W0.alloc (.cells #[.string t] 9)).alloc (.cells #[.string ⟨#[32]⟩] 9)).alloc (.cells #[.int .i64 0] 3) = W2 at *
  refine wpIn_rangeFunc_Bx (n := 20) (by omega) (gf := 114) (lb := #[.pointer (some ⟨w.heap.size + 3 + 1, 0, none⟩), .pointer (some ⟨w.heap.size + 3, 0, none⟩), .pointer (some ⟨w.heap.size + 3 + 2, 0, none⟩)]) rfl (enters_of Tryd.func114 (by kernel_rfl) rfl) (split1_seq 19 t ht (w.heap.size + 3) W2 hbx) (by omega) (Below.refl _ _) (fun _ => rfl)
    (fun pre W => Read12 w pre W) (fun c pre W => c = .ret ∧ Odd12 w pre W)
    (fun _ _ _ _ h hg hr => h.beside hg (by omega) hr) (fun _ _ _ _ _ h hg hr => ⟨h.1, h.2.beside hg (by omega) hr⟩) hI0
    (fun x => { tmps := #[.string t, undef, .pointer (some ⟨w.heap.size, 0, none⟩), .pointer (some ⟨w.heap.size + 1, 0, none⟩), .pointer (some ⟨w.heap.size + 2, 0, none⟩), .string x, undef, undef, .string t, .bool false, .string t, .func (.func 114) #[] #[.pointer (some ⟨w.heap.size + 3 + 1, 0, none⟩), .pointer (some ⟨w.heap.size + 3, 0, none⟩), .pointer (some ⟨w.heap.size + 3 + 2, 0, none⟩)], .string x, undef, undef, undef, undef, undef, undef, undef, undef, undef, undef, undef, undef], defers := [] }) ?assign ?body ?done ?stop
  case assign =>
    intro l x W K hK
    gi_wp2
    exact hK
  case body =>
    rintro l pre x W hI ⟨k9, hsp⟩ hlen hWz
    have hxm : x ∈ cutRes t 32 := List.mem_of_mem_take (i := k9) (by rw [← hsp]; simp)
    have hxs := cutRes_size hxm
    have hpl : (vals12 pre).length ≤ 1048577 := by
      have := cutRes_len t 32
      unfold vals12
      rw [List.length_map]
      omega
    obtain ⟨v, hr2, hown⟩ := hI.row
    obtain ⟨A1, cap1, rfl, -⟩ := Si.intsForm hown
    have HIa := Lib.hid hI.all
    have HIl := Lib.hid hI.list
    have HIo := Lib.hid hI.ok
    have HIb := Lib.hid hI.below
    have HIr := Lib.hid hr2
    have HIw := Lib.hid hown
    have hzz : w.heap.size + 6 ≤ W.heap.size := by omega
    have HPN := Lib.hid (parseNumber_any x W (HP.out.below HIb.out) (HE.out.below HIb.out) (by omega))
    clear hI hr2 hown hsp hxm hlen
    cases hok : ok12 x.data.toList with
    | false =>
      have hnv := numV_no hok
      rw [hnv] at HPN
      clear hnv
      gi_wp2_with fail
      refine ⟨trivial, ?_⟩
      gi_at_call 91
      refine (CallsIn.inRound l (callsIn_wide.2 HPN.out)).mono ?_
      rintro e W3 ⟨rfl, hb3⟩
      have HB3 := Lib.hid hb3
      have q0 := HIl.out.below hb3 HIl.out.lt
      have q1 := HIo.out.below hb3 HIo.out.lt
      have c0 := q0.cell 0
      have c1 := q1.cell 0
      have f0 := q0.free 0
      have f1 := q1.free 0
      have HQ0 := Lib.hid q0
      have HQ1 := Lib.hid q1
      clear hb3 q0 q1 HPN
      gi_wp2
      refine ⟨?_, rfl, ?_⟩
      · intro k o hk ho hc
        have hkW := (Array.getElem?_eq_some_iff.1 ho).1
        have h3 : W3.heap[k]? = some o := (HB3.out.block k hkW).trans ho
        exact (Below.heap_setCell _ ⟨w.heap.size + 1, 0, none⟩ _ k (by show k ≠ w.heap.size + 1; omega)).trans ((Below.heap_setCell _ ⟨w.heap.size, 0, none⟩ _ k (by show k ≠ w.heap.size; omega)).trans h3)
      · refine ⟨by rw [allOk_snoc12, HIa.out, hok]; rfl, ?_, ?_, ?_⟩
        · exact (HQ0.out.put 0 (.slice none 0 0)).far (p := ⟨w.heap.size + 1, 0, none⟩) (by show w.heap.size ≠ w.heap.size + 1; omega) _
        · exact (HQ1.out.far (p := ⟨w.heap.size, 0, none⟩) (by show w.heap.size + 1 ≠ w.heap.size; omega) _).put 0 (.bool false)
        · exact ((HIb.out.trans (HB3.out.mono HIb.out.size)).setCell (p := ⟨w.heap.size, 0, none⟩) (Nat.le_refl _) _).setCell (p := ⟨w.heap.size + 1, 0, none⟩) (by show w.heap.size ≤ w.heap.size + 1; omega) _
    | true =>
      have hnv : numV x = .tuple #[.int .i64 (val12 x.data.toList : Int), .bool true] := by
        unfold numV
        rw [hok]
        rfl
      rw [hnv] at HPN
      clear hnv
      gi_wp2_with fail
      refine ⟨trivial, ?_⟩
      gi_at_call 91
      refine (CallsIn.inRound l (callsIn_wide.2 HPN.out)).mono ?_
      rintro e W3 ⟨rfl, hb3⟩
      have HB3 := Lib.hid hb3
      have q0 := HIl.out.below hb3 HIl.out.lt
      have q1 := HIo.out.below hb3 HIo.out.lt
      have q2 := HIr.out.below hb3 HIr.out.lt
      have c2 := q2.cell 0
      have HQ0 := Lib.hid q0
      have HQ1 := Lib.hid q1
      have HQ2 := Lib.hid q2
      have HOW := Lib.hid (HIw.out.below hb3)
      have hz3 := hb3.size
      have hbb : w.heap.size + 6 ≤ W3.heap.size := by omega
      have HBL := Lib.hid (HIb.out.trans (hb3.mono HIb.out.size))
      have HST := Lib.hid (fun v' W5 h1 h2 => step12 (x := x) (v' := v') (W5 := W5) (o0 := .cells #[.int .i64 (val12 x.data.toList : Int)] 3) HB3.out hzz HQ2.out HOW.out HIa.out hok HQ0.out HQ1.out HBL.out h1 h2 W2.heap.size)
      generalize (val12 x.data.toList : Int) = y at *
      have HO6 : Hid (Si.OwnInts (W3.alloc (.cells #[.int .i64 y] 3)) (w.heap.size + 6) (.slice A1 (vals12 pre).length cap1) (vals12 pre)) := HOW.out.below ((Below.refl _ W3).alloc (Nat.le_refl _) _)
      have HN6 : Hid ((W3.alloc (.cells #[.int .i64 y] 3)).cell? ⟨W3.heap.size, 0, none⟩ = some (.int .i64 y)) := Row.cell (Row.new W3 3 #[.int .i64 y]) 0
      clear hb3 q0 q1 q2 HPN
      gi_wp2_with (gi_at_builtin; refine wpListIn_appI12 rfl _ _ rfl (w.heap.size + 6) _ (vals12 pre) rfl HO6.out (by omega) (by simp; omega) W3.heap.size y rfl HN6.out ?_; intro v' W5 hown5 hg5; obtain ⟨A7, cap7, rfl, -⟩ := Si.intsForm hown5; have HST5 := Lib.hid (HST.out _ W5 hown5 hg5); have hrow5 : Row W5 (w.heap.size + 2) 38 #[.slice A1 (vals12 pre).length cap1] := (hg5.block _ (HQ2.out.alloc _).lt (fun he => by have := (own_lt12 HOW.out he.symm).1; omega)).trans (HQ2.out.alloc _); have d2 := hrow5.cell 0; have z2 := hrow5.free 0; clear hown5 hg5 hrow5 c2)
      have hl7 : (vals12 pre ++ [y]).length = (vals12 pre).length + 1 := by simp
      rw [hl7] at HST5
      exact HST5.out
  case done =>
    rintro D ys W hD hS hI hK
    subst hS
    obtain ⟨v, hr2, hown⟩ := hI.row
    obtain ⟨A1, cap1, rfl, -⟩ := Si.intsForm hown
    have HA : Hid (numsRes12 t = vals12 (cutRes t 32) ∧ numsOk12 t = true) := ⟨by rw [HR.out.1, if_pos hI.all], by rw [HR.out.2, hI.all]⟩
    have HIl := Lib.hid hI.list
    have HIo := Lib.hid hI.ok
    have HIb := Lib.hid hI.below
    have HIr := Lib.hid hr2
    have HIw := Lib.hid hown
    have HK : Hid (W.heap[D]? = some (.deferred (some []))) := hK
    have c2 := hr2.cell 0
    have c0 := hI.list.cell 0
    have c1 := hI.ok.cell 0
    have f0 := hI.list.free 0
    have f1 := hI.ok.free 0
    have hDb : w.heap.size + 6 ≤ D := by omega
    have HD := Lib.hid hDb
    clear hI hr2 hown hK
    gi_wp2
    have r0 : Row ((W.setCell ⟨w.heap.size, 0, none⟩ (.slice A1 (vals12 (cutRes t 32)).length cap1)).setCell ⟨w.heap.size + 1, 0, none⟩ (.bool true)) w.heap.size 38 #[.slice A1 (vals12 (cutRes t 32)).length cap1] := (HIl.out.put 0 (.slice A1 (vals12 (cutRes t 32)).length cap1)).far (p := ⟨w.heap.size + 1, 0, none⟩) (by show w.heap.size ≠ w.heap.size + 1; omega) _
    have r1 : Row ((W.setCell ⟨w.heap.size, 0, none⟩ (.slice A1 (vals12 (cutRes t 32)).length cap1)).setCell ⟨w.heap.size + 1, 0, none⟩ (.bool true)) (w.heap.size + 1) 4 #[.bool true] := (HIo.out.far (p := ⟨w.heap.size, 0, none⟩) (by show w.heap.size + 1 ≠ w.heap.size; omega) _).put 0 (.bool true)
    have hb6 : Below w.heap.size w ((W.setCell ⟨w.heap.size, 0, none⟩ (.slice A1 (vals12 (cutRes t 32)).length cap1)).setCell ⟨w.heap.size + 1, 0, none⟩ (.bool true)) := (HIb.out.setCell (p := ⟨w.heap.size, 0, none⟩) (Nat.le_refl _) _).setCell (p := ⟨w.heap.size + 1, 0, none⟩) (by show w.heap.size ≤ w.heap.size + 1; omega) _
    have hk6 : ((W.setCell ⟨w.heap.size, 0, none⟩ (.slice A1 (vals12 (cutRes t 32)).length cap1)).setCell ⟨w.heap.size + 1, 0, none⟩ (.bool true)).heap[D]? = some (.deferred (some [])) :=
      (Below.heap_setCell _ ⟨w.heap.size + 1, 0, none⟩ _ D (by show D ≠ w.heap.size + 1; omega)).trans ((Below.heap_setCell _ ⟨w.heap.size, 0, none⟩ _ D (by show D ≠ w.heap.size; omega)).trans HK.out)
    have ho6 : Si.OwnInts ((W.setCell ⟨w.heap.size, 0, none⟩ (.slice A1 (vals12 (cutRes t 32)).length cap1)).setCell ⟨w.heap.size + 1, 0, none⟩ (.bool true)) (w.heap.size + 6) (.slice A1 (vals12 (cutRes t 32)).length cap1) (vals12 (cutRes t 32)) :=
      own_keep12 HIw.out fun k hk => by
        have := (own_lt12 HIw.out hk).1
        exact (Below.heap_setCell _ ⟨w.heap.size + 1, 0, none⟩ _ k (by show k ≠ w.heap.size + 1; omega)).trans (Below.heap_setCell _ ⟨w.heap.size, 0, none⟩ _ k (by show k ≠ w.heap.size; omega))
    generalize (W.setCell ⟨w.heap.size, 0, none⟩ (.slice A1 (vals12 (cutRes t 32)).length cap1)).setCell ⟨w.heap.size + 1, 0, none⟩ (.bool true) = W6 at *
    refine ⟨by simp, .inl ⟨_, _, rfl, run_takeDeferred hk6, ?_⟩⟩
    have s0 : Row (W6.putObj D (.deferred none)) w.heap.size 38 #[.slice A1 (vals12 (cutRes t 32)).length cap1] := (World.putObj_heap_other (by omega)).trans r0
    have s1 : Row (W6.putObj D (.deferred none)) (w.heap.size + 1) 4 #[.bool true] := (World.putObj_heap_other (by omega)).trans r1
    refine ⟨_, results_two12 (p := 2) (q := 3) rfl _ (W6.putObj D (.deferred none)) ⟨w.heap.size, 0, none⟩ ⟨w.heap.size + 1, 0, none⟩ _ _ (by simp) (run_loadRow12 (s0.cell 0)) (by simp) (run_loadBool12 (s1.cell 0)), _, by rw [HA.out.2], ?_, ?_⟩
    · rw [HA.out.1]
      have h7 : Si.OwnInts (W6.putObj D (.deferred none)) (w.heap.size + 6) (.slice A1 (vals12 (cutRes t 32)).length cap1) (vals12 (cutRes t 32)) := own_keep12 ho6 fun k hk => by
        obtain ⟨c, ty, fz, hh⟩ := own_cells12 ho6 hk
        exact World.putObj_heap_other (fun e => by subst e; rw [hh] at hk6; injection hk6 with hk6; cases hk6)
      exact own_low12 h7 (by omega)
    · exact hb6.trans ((Below.refl w.heap.size W6).grown (grownBy_putObj' W6 D _) hb6.size (fun k e => by injection e with e; omega))
  case stop =>
    rintro D c pre W hD ⟨k9, hS⟩ ⟨rfl, hI⟩ hK
    have HA : Hid (numsRes12 t = [] ∧ numsOk12 t = false) := by
      have h1 : allOk12 (cutRes t 32) = false := allOk_cut12 (k := k9) (by rw [← hS]; exact hI.all)
      exact ⟨by rw [HR.out.1, if_neg (by rw [h1]; decide)], by rw [HR.out.2, h1]⟩
    have hk6 : W.heap[D]? = some (.deferred (some [])) := hK
    have r0 := hI.list
    have r1 := hI.ok
    have hb6 := hI.below
    have hDb : w.heap.size + 6 ≤ D := by omega
    clear hI hK hS
    gi_wp2
    refine ⟨by simp, .inl ⟨_, _, rfl, run_takeDeferred hk6, ?_⟩⟩
    have s0 : Row (W.putObj D (.deferred none)) w.heap.size 38 #[.slice none 0 0] := (World.putObj_heap_other (by omega)).trans r0
    have s1 : Row (W.putObj D (.deferred none)) (w.heap.size + 1) 4 #[.bool false] := (World.putObj_heap_other (by omega)).trans r1
    refine ⟨_, results_two12 (p := 2) (q := 3) rfl _ (W.putObj D (.deferred none)) ⟨w.heap.size, 0, none⟩ ⟨w.heap.size + 1, 0, none⟩ _ _ (by simp) (run_loadRow12 (s0.cell 0)) (by simp) (run_loadBool12 (s1.cell 0)), _, by rw [HA.out.2], ?_, ?_⟩
    · rw [HA.out.1]
      exact World.ownsRow_nil _ _ _ _
    · exact hb6.trans ((Below.refl w.heap.size W).grown (grownBy_putObj' W D _) hb6.size (fun k e => by injection e with e; omega))

end Go.Proofs.YtdbddockmdkmeaaDoor
