/- Joined: Qb Qe La Lb Ba Bb Bh. -/
import Derived.Test.YteokbgfiokbojaaGreatU16
import Derived.Maps.OwnIn
import Derived.LaidEqlPtr
import Derived.Test.YteokbgfiokbojaaGreatU15
import Derived.IntWalk
/- A path gathered into a slice, and what is in it: the program's LieTogether. -/
namespace Go.Proofs.YteokbgfiokbojaaGreat
open Go.RowKit Go.Shelf
attribute [local go_sem] Oper.semAt_some

theorem own_grown {W W' : World} {base n : Nat} {e : TypeId} {v : Value} {xs : List Value} {row : Option Nat} (h : W.ownsRow base e 1 v n xs) (hg : W.grownBy W' row) (hr : ∀ r, row = some r → ∃ o : Obj, W.heap[r]? = some o ∧ o.isCells = false) : W'.ownsRow base e 1 v n xs :=
  own_keep h fun g hb => hg.block g ((h.lt g hb).2) (fun he => by
    obtain ⟨o, ho, hc⟩ := hr g he.symm
    rcases h.2 with ⟨rfl, _⟩ | ⟨g', cap, cur, rfl, _, hh, _⟩
    · simp [Value.ownBlock] at hb
    · have : g' = g := by simpa [Value.ownBlock] using hb
      subst this
      rw [hh] at ho
      injection ho with ho
      subst ho
      cases hc)

/-- What is firm stays. -/
def Steady (W W' : World) : Prop := ∀ (k : Nat) (o : Obj), W.heap[k]? = some o → Firm o → W'.heap[k]? = some o

/-- One node's pointer is put behind those that were gathered: only a row of two cells or more is written in place. -/
theorem run_append_firm (w : World) (ty base n : Nat) (v : Value) (xs : List Value) (hown : w.ownsRow base 92 1 v n xs) (h0 : n = 0 → v = .slice none 0 0) (ad : Addr) (u : Value)
    (hnews : ∀ j y, [u][j]? = some y → w.cell? (ad.add j) = some y) (h1 : ∀ y ∈ [u], y.oneCell' = true) (hn : n ≤ 1000) (hbase : base ≤ w.heap.size) :
    ∃ g cap w', (Builtin.append_ #[56, 56] ty #[v, .slice (some ad) 1 1]).run Tryz.prog w = .ok (.slice (some ⟨g, 0, none⟩) (n + 1) cap) w' ∧
      w'.ownsRow base 92 1 (.slice (some ⟨g, 0, none⟩) (n + 1) cap) (n + 1) (xs ++ [u]) ∧ w.grownBy w' v.ownBlock ∧ Steady w w' := by
  obtain ⟨i0, hi, hz0, hz1, hz2⟩ := info_parts info_ptr
  obtain ⟨v', w', hr, h2, h3, -, -⟩ := run_append_own_at (P := Tryz.prog) w base 56 ty 92 i0 (.pointer none) 1 8 Tryz.underlying56 hi hz0 hz1 hz2 rfl (by decide) v n xs hown ad 1 1 [u] rfl hnews h1 (by unfold maxLen; omega) (by omega) hbase
  obtain ⟨g, cap, rfl⟩ := own_form h2 (by omega)
  refine ⟨g, cap, w', hr, h2, h3, ?_⟩
  rcases hown.2 with ⟨rfl, rfl⟩ | ⟨g', cap', cur, rfl, hbg, hg, hnc, hcm, hcs, htake⟩
  · have hr2 := run_append_nil (P := Tryz.prog) w 56 ty 92 i0 (.pointer none) Tryz.underlying56 hi hz0 ad 1 1 [u] (by rw [hz1]; rfl) hnews (by decide) (by decide) (by rw [hz2]; decide)
    rw [hr] at hr2
    injection hr2 with _ hw
    subst hw
    exact fun k o hk _ => (Below.heap_alloc w.drew _ k (Array.getElem?_eq_some_iff.1 hk).1).trans hk
  · by_cases hc : n + 1 ≤ cap'
    · refine fun k o hk hf => (h3.block k (Array.getElem?_eq_some_iff.1 hk).1 (fun he => ?_)).trans hk
      have he' : k = g' := by simpa [Value.ownBlock] using he
      subst he'
      rw [hg] at hk
      injection hk with hk
      have := (hf cur _ _ hk.symm).2.resolve_right (by decide)
      have hn1 : 0 < n := Nat.pos_of_ne_zero fun e => by have := h0 e; cases this
      omega
    · obtain ⟨v2, w2, hr2, -, hg2⟩ := run_append_arg_grows (P := Tryz.prog) w 56 ty 92 i0 (.pointer none) 1 8 Tryz.underlying56 hi hz0 hz1 hz2 rfl (by decide) ⟨g', 0, none⟩ n cap' xs hown.1
        (fun j y hj => by
          have h5 : w.cell? ⟨g', 0 + j, none⟩ = some y := by
            rw [Nat.zero_add, hown.cellAt j (by have := (List.getElem?_eq_some_iff.1 hj).1; have := hown.1; omega)]
            exact hj
          rw [WideShapes.add_plain]
          exact h5) ad 1 1 [u] rfl hnews (by omega) (by unfold maxLen; omega) (by omega)
      rw [hr] at hr2
      injection hr2 with _ hw
      subst hw
      exact fun k o hk _ => (hg2.block k (Array.getElem?_eq_some_iff.1 hk).1 (fun he => by cases he)).trans hk

theorem wpListIn_append_firm {F : Fence} {nF : Nat} {w : World} {ops : Array Oper} {rest : List Oper} {o : Oper} {a : Act} {Q : Exit → Act → World → Prop} (hgd : o.guard = none) (s x : Operand)
    (ho : o.op = .call { callee := .builtin .append, args := #[s, x], argTypes := #[56, 56] })
    (base n : Nat) (v : Value) (xs : List Value) (hs : a.eval s = v) (hown : w.ownsRow base 92 1 v n xs) (h0 : n = 0 → v = .slice none 0 0) (ad : Addr) (u : Value) (hx : a.eval x = .slice (some ad) 1 1)
    (hnews : ∀ j y, [u][j]? = some y → w.cell? (ad.add j) = some y) (h1 : ∀ y ∈ [u], y.oneCell' = true) (hn : n ≤ 1000) (hbase : base ≤ w.heap.size)
    (h : ∀ g cap w', w'.ownsRow base 92 1 (.slice (some ⟨g, 0, none⟩) (n + 1) cap) (n + 1) (xs ++ [u]) → w.grownBy w' v.ownBlock → Steady w w' → wpListIn F nF Tryz.prog ops Q rest (a.put o.dst (.slice (some ⟨g, 0, none⟩) (n + 1) cap)) w') :
    wpListIn F nF Tryz.prog ops Q (o :: rest) a w := by
  refine wpListIn_plain hgd fun K hK => ?_
  obtain ⟨g, cap, w', hr, h2, h3, h4⟩ := run_append_firm w o.type base n v xs hown h0 ad u hnews h1 hn hbase
  unfold Oper.wpIn
  refine ⟨by simp [Oper.about, ho, resolve, Target.leads, Sem.run_pure], ?_⟩
  rw [Oper.semAt_plain F _ _ (by rw [ho]; intro c hc'; cases hc')]
  simp [execOp, ho, resolve, invoke, builtin, hs, hx, hr, Result.andThen]
  exact hK _ _ (h g cap w' h2 h3 h4)

/-- What was gathered: the box holds a slice of the call's own. -/
structure Gath (w : World) (nb : Nat → Nat) (T : List Nat) (W : World) : Prop where
  ex : ∃ v, Row W w.heap.size 56 #[v] ∧ W.ownsRow (w.heap.size + 1) 92 1 v T.length (ptrsOf nb T) ∧ (T.length = 0 → v = .slice none 0 0)
  below : Below w.heap.size w W
theorem Gath.grown {w W W' : World} {nb : Nat → Nat} {T : List Nat} {B : Nat} {row : Option Nat} (h : Gath w nb T W) (hg : W.grownBy W' row) (hB : w.heap.size ≤ B) (hr : ∀ r, row = some r → B ≤ r ∧ ∃ o : Obj, W.heap[r]? = some o ∧ o.isCells = false) : Gath w nb T W' := by
  obtain ⟨⟨v, h1, h2, h3⟩, hb⟩ := h
  exact ⟨⟨v, row_grown h1 hg hr, own_grown h2 hg (fun r e => (hr r e).2), h3⟩, hb.grown hg hb.size (fun k e => by have := (hr k e).1; omega)⟩

set_option maxRecDepth 100000 in
set_option maxHeartbeats 2000000 in
theorem appendSeq_any {gf : Nat} {lb : Array Value} (w : World) (l : List Seg) (nb : Nat → Nat) (S Sp : List (Ix l) → Prop) (N : Nat) (hN : N ≤ 1000) (heg : ∀ args w, (callFunc gf args).run Tryz.prog w = .ok (.enter gf args) w)
    (hseq : SeqR 19 gf lb (fun x : Ix l => #[.pointer (some ⟨nb x.1, 0, none⟩)]) w.heap.size (w.heap.size + 3) S Sp N w) :
    Calls Tryz.prog 127 #[.slice none 0 0, .func (.func gf) #[] lb] w fun e w' => (∃ xs v, S xs ∧ e = .returned v ∧ w'.ownsRow (w.heap.size + 1) 92 1 v xs.length (ptrsOf nb (xs.map (·.1)))) ∧ Below w.heap.size w w' := by
  refine (callsIn_wide (n := 20)).1 ?_
  refine callsIn_of_wp_marks Tryz.func127 rfl trivial ?_ rfl
  simp only [Tryz.ntmps127, List.size_toArray, List.length_cons, List.length_nil, Nat.reduceAdd, Nat.reduceSub, Array.replicate_succ, Array.replicate_zero, List.push_toArray, List.append_toArray, List.nil_append, List.cons_append]
  gi_wp2
  have hB0 : Below w.heap.size w (w.alloc (.cells #[.slice none 0 0] 56)) := (Below.refl _ w).alloc (Nat.le_refl _) _
  have hI0 : Gath w nb [] (w.alloc (.cells #[.slice none 0 0] 56)) := ⟨⟨.slice none 0 0, Row.new _ _ _, World.ownsRow_nil _ _ _ _, fun _ => rfl⟩, hB0⟩
  refine wpIn_rangeFunc_R (by omega) (gf := gf) (lb := lb) rfl heg hseq (by simp) (by simp) hB0 (fun _ => rfl)
    (fun pre W => Gath w nb (pre.map (fun y : Ix l => y.1)) W)
    (fun _ _ _ => False)
    (fun _ _ _ _ h hg hr => h.grown hg (by simp) hr)
    (fun _ _ _ _ _ hs _ _ => hs)
    hI0
    (fun x => { tmps := #[.slice none 0 0, .func (.func gf) #[] lb, .pointer (some ⟨w.heap.size, 0, none⟩), undef, .slice none 0 0, .pointer (some ⟨nb x.1, 0, none⟩), .func (.func gf) #[] lb, .pointer (some ⟨nb x.1, 0, none⟩), undef, undef, undef, undef, undef], defers := [] }) ?assign ?body ?done ?stop
  case assign =>
    intro l x W K hK
    gi_wp2
    exact hK
  case body =>
    rintro l' pre x W ⟨⟨v, hrow, hown, hv0⟩, hB⟩ hlen hz
    have c1 : W.cell? ⟨w.heap.size, 0, none⟩ = some v := hrow.cell 0
    have hz' : w.heap.size + 3 ≤ W.heap.size := by simpa using hz
    have HR := Lib.hid hrow
    have HO := Lib.hid hown
    have HV := Lib.hid hv0
    have HB := Lib.hid hB
    clear hrow hown hv0 hB hz
    have hbx : w.heap.size < W.heap.size := by omega
    gi_wp2_with (gi_at_builtin; refine wpListIn_append_firm rfl _ _ rfl (w.heap.size + 1) _ _ _ rfl (own_grown HO.out (World.grownBy_alloc W _ none) (fun r e => by cases e)) HV.out ⟨W.heap.size, 0, none⟩ (.pointer (some ⟨nb x.1, 0, none⟩)) rfl (cell_one_new _ _ _) (by simp [Value.oneCell']) (by simp; omega) (by simp; omega) ?_; intro g cap w1 hown1 hgrow hst; have hrow1 : Row w1 w.heap.size 56 #[v] := (hgrow.block _ (HR.out.alloc _).lt (fun he => own_ne HO.out HR.out (by decide) he.symm)).trans (HR.out.alloc _); have d1 : w1.cell? ⟨w.heap.size, 0, none⟩ = some v := hrow1.cell 0; have z1 : w1.frozen? ⟨w.heap.size, 0, none⟩ = false := hrow1.free 0; have HR1 := Lib.hid hrow1; have HO1 := Lib.hid hown1; have HS := Lib.hid hst; have HG := Lib.hid hgrow; clear hrow1 hown1 hst hgrow)
    have hsz : W.heap.size + 1 ≤ w1.heap.size := by have := HG.out.size; simpa using this
    have e1 : (pre ++ [x]).map (fun y : Ix l => y.1) = pre.map (fun y : Ix l => y.1) ++ [x.1] := by simp
    have e2 : ptrsOf nb (pre.map (fun y : Ix l => y.1) ++ [x.1]) = ptrsOf nb (pre.map (fun y : Ix l => y.1)) ++ [.pointer (some ⟨nb x.1, 0, none⟩)] := by simp [ptrsOf, ptrTo]
    refine ⟨⟨by simp; omega, fun k o hk ho hf => ?_⟩, ?_, ⟨⟨_, HR1.out.put 0 _, ?_, ?_⟩, ?_⟩⟩
    · have hk' : w.heap.size + 1 ≤ k := by simp at hk; omega
      have h1 := HS.out k o ((Below.heap_alloc W _ k (Array.getElem?_eq_some_iff.1 ho).1).trans ho) hf
      exact (Below.heap_setCell w1 _ _ k (by show k ≠ w.heap.size; omega)).trans h1
    · exact (((Below.refl w.heap.size W).alloc (by omega) _).grown HG.out (by simp; omega) (fun k e => by have := (HO.out.lt k e).1; omega)).setCell (Nat.le_refl _) _
    · have h5 := HO1.out
      rw [List.length_map] at h5
      rw [e1, e2, List.length_append, List.length_map]
      exact own_set h5 HR1.out (by decide) 0 _
    · rw [e1, List.length_append]
      intro h; simp at h
    · exact (((HB.out.alloc HB.out.size _)).grown HG.out (by simp; omega) (fun k e => by have := (HO.out.lt k e).1; omega)).setCell (Nat.le_refl _) _
  case done =>
    rintro D ys W hD hS hI hK
    obtain ⟨⟨v, hrow, hown, -⟩, hB⟩ := hI
    have c1 : W.cell? ⟨w.heap.size, 0, none⟩ = some v := hrow.cell 0
    rw [List.length_map] at hown
    have HO := Lib.hid hown
    have HB := Lib.hid hB
    clear hrow hown hB
    gi_wp2
    refine ⟨by simp, .inl ⟨_, _, rfl, run_takeDeferred hK, ?_⟩⟩
    refine ⟨_, results_tmp rfl _ _ _, ⟨ys, v, hS, rfl, ?_⟩, HB.out.trans (belowK_b (w := w) (Nat.le_refl _) W D _ _ (by simp at hD; omega) hK rfl rfl)⟩
    exact own_grown HO.out (grownBy_putObj' W D _) (fun r e => by cases e; exact ⟨_, hK, rfl⟩)
  case stop =>
    rintro D c pre W _ _ h _
    exact h.elim

set_option maxRecDepth 100000 in
set_option maxHeartbeats 400000 in
theorem collect_any {gf : Nat} {lb : Array Value} (w : World) (l : List Seg) (nb : Nat → Nat) (S Sp : List (Ix l) → Prop) (N : Nat) (hN : N ≤ 1000) (heg : ∀ args w, (callFunc gf args).run Tryz.prog w = .ok (.enter gf args) w)
    (hseq : SeqR 19 gf lb (fun x : Ix l => #[.pointer (some ⟨nb x.1, 0, none⟩)]) w.heap.size (w.heap.size + 3) S Sp N w) :
    Calls Tryz.prog 115 #[.func (.func gf) #[] lb] w fun e w' => (∃ xs v, S xs ∧ e = .returned v ∧ w'.ownsRow (w.heap.size + 1) 92 1 v xs.length (ptrsOf nb (xs.map (·.1)))) ∧ Below w.heap.size w w' := by
  have HC := Lib.hid (appendSeq_any w l nb S Sp N hN heg hseq)
  clear hseq heg
  go_enter Tryz.func115, Tryz.ntmps115
  go_wp2_with fail
  refine HC.out.mono ?_
  rintro e w1 ⟨⟨xs, v, hS, rfl, hown⟩, hb⟩
  have HO := Lib.hid hown
  clear hown
  go_wp2
  go_ret
  exact ⟨⟨xs, v, hS, rfl, HO.out⟩, hb⟩

/-- What Index says. -/
def FoundAt (js : List Nat) (i : Nat) (w : World) (e : Ending) (w' : World) : Prop := ∃ r : Int, e = .returned (.int .i64 r) ∧ (0 ≤ r ↔ i ∈ js) ∧ (0 ≤ r → js[r.toNat]? = some i) ∧ w = w'

set_option maxRecDepth 100000 in
set_option maxHeartbeats 1000000 in
theorem index_any (g cap base : Nat) (js : List Nat) (nb : Nat → Nat) (i : Nat) (w : World) (hown : w.ownsRow base 92 1 (.slice (some ⟨g, 0, none⟩) js.length cap) js.length (ptrsOf nb js)) (hjl : js.length ≤ 1000)
    (hnode : ∀ j, j = i ∨ j ∈ js → ∃ c, Row w (nb j) 94 c) (hinj : ∀ j ∈ js, nb i = nb j → i = j) :
    Calls Tryz.prog 60 #[.slice (some ⟨g, 0, none⟩) js.length cap, .pointer (some ⟨nb i, 0, none⟩)] w (FoundAt js i w) := by
  have HO := Lib.hid hown
  have HN := Lib.hid hnode
  have HI := Lib.hid hinj
  obtain ⟨i0, hi0, hsz0⟩ := Option.map_eq_some_iff.1 (show (Tryz.prog.info? 94).map (fun i => i.size) = some 4 by kernel_rfl)
  have I0 := Lib.hid hi0
  have I1 := Lib.hid hsz0
  clear hown hnode hinj hi0 hsz0
  go_enter Tryz.func60, Tryz.ntmps60
  go_wp2
  go_loop [8] (fun c => ∃ k : Nat, k ≤ js.length ∧ c = .int .i64 k ∧ Hid (∀ m, m < k → js[m]? ≠ some i)) (fun c => js.length - (intOf c).toNat)
  case atStart => exact ⟨0, Nat.zero_le _, rfl, fun m hm => absurd hm (by omega)⟩
  case round =>
    obtain ⟨k, hk, rfl, HM⟩ := hrel
    by_cases hlt : k < js.length
    · have hc : w.cell? ⟨g, k, none⟩ = some (.pointer (some ⟨nb js[k], 0, none⟩)) := by
        rw [HO.out.cellAt k (by omega)]
        simp [ptrsOf, ptrTo, hlt]
      have HK : Hid (js[k]? = some js[k]) := List.getElem?_eq_getElem hlt
      have HMem : Hid (js[k] ∈ js) := List.getElem_mem hlt
      generalize js[k] = j at *
      by_cases hij : i = j
      · subst hij
        have hq := fun W : World => run_eql_ptr_same (P := Tryz.prog) W ⟨nb i, 0, none⟩ Tryz.underlying92 I0.out
        go_wp2
        go_ret
        exact ⟨k, rfl, ⟨fun _ => HMem.out, fun _ => by omega⟩, fun _ => HK.out, rfl⟩
      · obtain ⟨c1, r1⟩ := HN.out i (.inl rfl)
        obtain ⟨c2, r2⟩ := HN.out j (.inr HMem.out)
        have hne : nb i ≠ nb j := fun e => hij (HI.out j HMem.out e)
        have hq := run_eql_ptr_other (P := Tryz.prog) w (a := ⟨nb i, 0, none⟩) (b := ⟨nb j, 0, none⟩) Tryz.underlying92 I0.out (by rw [I1.out]; decide) (fun e => hne (by injection e)) r1 r2
        have HM1 : Hid (∀ m, m < k + 1 → js[m]? ≠ some i) := fun m hm => by
          rcases Nat.lt_or_ge m k with h1 | h1
          · exact HM.out m h1
          · obtain rfl : m = k := by omega
            rw [HK.out]
            intro e
            injection e with e
            exact hij e.symm
        clear r1 r2 hij hne
        go_wp2
        go_round
        case rel => exact ⟨k + 1, by omega, by go_num, HM1⟩
        case measure => simp [intOf]; omega
    · obtain rfl : k = js.length := by omega
      go_wp2
      go_ret
      refine ⟨-1, rfl, ⟨fun h => absurd h (by decide), fun h => ?_⟩, fun h => absurd h (by decide), rfl⟩
      obtain ⟨m, hm, he⟩ := List.getElem_of_mem h
      exact absurd (by rw [List.getElem?_eq_getElem hm, he]) (HM.out m hm)

set_option maxRecDepth 100000 in
set_option maxHeartbeats 1000000 in
theorem contains_any (g cap base : Nat) (js : List Nat) (nb : Nat → Nat) (i : Nat) (w : World) (hown : w.ownsRow base 92 1 (.slice (some ⟨g, 0, none⟩) js.length cap) js.length (ptrsOf nb js)) (hjl : js.length ≤ 1000)
    (hnode : ∀ j, j = i ∨ j ∈ js → ∃ c, Row w (nb j) 94 c) (hinj : ∀ j ∈ js, nb i = nb j → i = j) :
    Calls Tryz.prog 114 #[.slice (some ⟨g, 0, none⟩) js.length cap, .pointer (some ⟨nb i, 0, none⟩)] w fun e w' => e = .returned (.bool (decide (i ∈ js))) ∧ w = w' := by
  have HC := Lib.hid (index_any g cap base js nb i w hown hjl hnode hinj)
  clear hown hnode hinj
  generalize hd : decide (i ∈ js) = d
  have HD := Lib.hid hd
  clear hd
  go_enter Tryz.func114, Tryz.ntmps114
  go_wp2_with fail
  refine HC.out.mono ?_
  rintro e w1 ⟨r, rfl, hr, -, rfl⟩
  have HR : Hid (decide (0 ≤ r) = d) := by
    show _ = _
    rw [← HD.out]
    exact decide_eq_decide.2 hr
  clear hr
  go_wp2
  go_ret
  exact ⟨ret_bool (by rw [← HR.out]), rfl⟩

set_option maxRecDepth 100000 in
set_option maxHeartbeats 1000000 in
theorem isOnPath_any (B g i j : Nat) (l : List Seg) (nb : Nat → Nat) (cv : Nat → Value) (w : World) (hN : Nodes w B g l.length l.length l nb cv) (hv : validB l = true) (hi : i < l.length) (hj : j < l.length) :
    Calls Tryz.prog 98 #[.pointer (some ⟨nb i, 0, none⟩), .pointer (some ⟨nb j, 0, none⟩)] w fun e w' => e = .returned (.bool (decide (i ∈ rp l j))) ∧ Below w.heap.size w w' := by
  have hL := valid_all hv
  have hR : (rootPath l (j + 1) j).length ≤ j + 1 := rootPath_len l (j + 1) j
  have hrow : Row (w.alloc (.cells #[.pointer (some ⟨nb j, 0, none⟩)] 92)) w.heap.size 92 #[.pointer (some ⟨nb j, 0, none⟩)] := Row.new _ _ _
  have hlk : Linked (w.alloc (.cells #[.pointer (some ⟨nb j, 0, none⟩)] 92)) (w.alloc (.cells #[.pointer (some ⟨nb j, 0, none⟩)] 92)).heap.size l nb := fun k hk => by
    have h1 := (hN.node k _ hk (List.getElem?_eq_getElem hk)).alloc (.cells #[.pointer (some ⟨nb j, 0, none⟩)] 92)
    exact ⟨h1.lt, h1.cell 2⟩
  have hseq := path1_seq l nb (w.alloc (.cells #[.pointer (some ⟨nb j, 0, none⟩)] 92)).heap.size ((w.alloc (.cells #[.pointer (some ⟨nb j, 0, none⟩)] 92)).heap.size + 3) 1000 hL.1.down (j + 1) j (by omega) hj 19 w.heap.size _
    ⟨.inl (by simp), by decide, hrow⟩ hlk (Nat.le_refl _) (by have := hL.2.1; omega) (by have := hL.2.1; omega)
  have HC := Lib.hid (collect_any _ l nb _ _ 1000 (Nat.le_refl _) (enters_of Tryz.func128 (by kernel_rfl) rfl) hseq)
  have HN := Lib.hid hN
  have HZ : Hid (0 < (rp l j).length ∧ (rp l j).length ≤ 1000 ∧ ∀ k ∈ rp l j, k < l.length) := ⟨by
    obtain ⟨A, hA⟩ := rp_last hL.1.down j hj
    rw [hA, List.length_append]
    simp, by
    have : (rp l j).length ≤ j + 1 := hR
    have := hL.2.1
    omega, rootPath_lt hL.1.down (j + 1) j hj⟩
  clear hseq hlk hrow hR hN hL hv
  go_enter Tryz.func98, Tryz.ntmps98
  go_wp2_with fail
  refine (path_any _ _).mono ?_
  rintro e w1 ⟨rfl, rfl⟩
  go_wp2_with fail
  refine HC.out.mono ?_
  rintro e w2 ⟨⟨xs, v, hS, rfl, hown⟩, hb2⟩
  have hB2 : Below w.heap.size w w2 := ((Below.refl _ w).alloc (Nat.le_refl _) _).trans (hb2.mono (by simp))
  have hS' : xs.map (fun y : Ix l => y.1) = rp l j := hS
  have hlx : xs.length = (rp l j).length := by rw [← hS', List.length_map]
  rw [hlx, hS'] at hown
  obtain ⟨g2, cap2, rfl⟩ := own_form hown HZ.out.1
  have HO2 := Lib.hid hown
  have HN2 : Hid (Nodes w2 B g l.length l.length l nb cv) := HN.out.below hB2
  have HB := Lib.hid hB2
  clear hown hS hS' hlx hb2 hB2 HC
  go_wp2_with fail
  refine (contains_any _ _ _ (rp l j) nb i _ HO2.out HZ.out.2.1 (fun k hk => ?_) (fun k hk he => ?_)).mono ?_
  · have hkl : k < l.length := hk.elim (fun e => e ▸ hi) (fun h => HZ.out.2.2 k h)
    exact ⟨_, HN2.out.node k _ hkl (List.getElem?_eq_getElem hkl)⟩
  · exact Classical.byContradiction fun hne => HN2.out.apart i k hi (HZ.out.2.2 k hk) hne he
  · rintro e w3 ⟨rfl, rfl⟩
    go_wp2
    go_ret
    exact ⟨rfl, HB.out⟩

end Go.Proofs.YteokbgfiokbojaaGreat
/- The program's LieTogether. -/
namespace Go.Proofs.YteokbgfiokbojaaGreat
open Go.RowKit

end Go.Proofs.YteokbgfiokbojaaGreat
/- The model's side of rooms: where segments begin and end. -/
namespace Go.Proofs.YteokbgfiokbojaaGreat
open Go.RowKit

end Go.Proofs.YteokbgfiokbojaaGreat
/- The model's side of rooms: the whole room, what is saved, who lies together. -/
namespace Go.Proofs.YteokbgfiokbojaaGreat
open Go.RowKit

theorem beq_str {a b : ByteArray} : (a.toList == b.toList) = decide (a = b) := by
  have h := sameB_iff (a := a) (b := b)
  unfold sameB at h
  by_cases he : a = b
  · rw [decide_eq_true he]; exact h.2 he
  · rw [decide_eq_false he]
    cases hh : (a.toList == b.toList) with
    | false => rfl
    | true => exact absurd (h.1 hh) he

set_option maxRecDepth 100000 in
set_option maxHeartbeats 400000 in
theorem specLie_any (A : Option Addr) (l : List Seg) (c : Nat) (s t : ByteArray) (w : World) (hw : Segs w w.heap.size A l) (hl : l.length ≤ 1048576) (hn : Short l) :
    Calls Tryz.prog 45 #[.slice A l.length c, .string s, .string t] w fun e w' => e = .returned (.bool (lieB l s t)) ∧ Below w.heap.size w w' := by
  have HW : Hid (Segs w w.heap.size A l) := hw
  clear hw
  by_cases hst : 0 ≤ indexB l s ∧ 0 ≤ indexB l t
  · have h1 : ((comStr l s t).toList == s.toList) = decide ((indexB l s).toNat ∈ pathIx l t) := by rw [beq_str, decide_eq_decide]; exact lie_left hst.1 hst.2
    have h2 : ((comStr l s t).toList == t.toList) = decide ((indexB l t).toNat ∈ pathIx l s) := by rw [beq_str, decide_eq_decide]; exact lie_right hst.1 hst.2
    have hO : comOk l s t = true := by
      unfold comOk hasSeg
      rw [decide_eq_true hst.1, decide_eq_true hst.2]
      rfl
    have HF : Hid (lieB l s t = (decide ((indexB l s).toNat ∈ pathIx l t) || decide ((indexB l t).toNat ∈ pathIx l s))) := by
      show lieB l s t = _
      unfold lieB
      rw [hO, Bool.true_and]
    clear hst
    have HO := Lib.hid hO
    clear hO
    generalize decide ((indexB l s).toNat ∈ pathIx l t) = p at *
    generalize decide ((indexB l t).toNat ∈ pathIx l s) = q at *
    cases p <;> cases q
    all_goals
      go_enter Tryz.func45, Tryz.ntmps45
      go_wp2_with fail
      refine (specCommon_any _ _ _ _ _ _ HW.out hl hn).mono ?_
      rw [HO.out]
      rintro e w1 ⟨rfl, hb1⟩
      go_wp2
      go_ret
      exact ⟨ret_bool HF.out.symm, hb1⟩
  · have hO : comOk l s t = false := by
      unfold comOk hasSeg
      by_cases h1 : 0 ≤ indexB l s
      · rw [decide_eq_false (p := 0 ≤ indexB l t) (fun h2 => hst ⟨h1, h2⟩), Bool.and_false]
      · rw [decide_eq_false h1, Bool.false_and]
    have HF : Hid (lieB l s t = false) := by
      show lieB l s t = _
      unfold lieB
      rw [hO, Bool.false_and]
    clear hst
    have HO := Lib.hid hO
    clear hO
    go_enter Tryz.func45, Tryz.ntmps45
    go_wp2_with fail
    refine (specCommon_any _ _ _ _ _ _ HW.out hl hn).mono ?_
    rw [HO.out]
    rintro e w1 ⟨rfl, hb1⟩
    go_wp2
    go_ret
    exact ⟨ret_bool HF.out.symm, hb1⟩

end Go.Proofs.YteokbgfiokbojaaGreat
/- The kinds of calls: KindOf on both sides. -/
namespace Go.Proofs.YteokbgfiokbojaaGreat
open Go.RowKit

/-- The kind of a call from the segment of one index to that of another. -/
def kindIx (l : List Seg) (i j : Nat) : Int := if j ∈ rp l i then 0 else if i ∈ rp l j then 1 else 2
set_option maxRecDepth 100000 in
set_option maxHeartbeats 400000 in
theorem kindOfCall_any (B g i j : Nat) (l : List Seg) (nb : Nat → Nat) (cv : Nat → Value) (w : World) (hN : Nodes w B g l.length l.length l nb cv) (hv : validB l = true) (hi : i < l.length) (hj : j < l.length) :
    Calls Tryz.prog 53 #[.pointer (some ⟨nb i, 0, none⟩), .pointer (some ⟨nb j, 0, none⟩)] w fun e w' => e = .returned (.int .i64 (kindIx l i j)) ∧ Below w.heap.size w w' := by
  have HN := Lib.hid hN
  have HV := Lib.hid hv
  have hF : kindIx l i j = if decide (j ∈ rp l i) = true then 0 else if decide (i ∈ rp l j) = true then 1 else 2 := by
    unfold kindIx
    simp only [decide_eq_true_eq]
  have HF := Lib.hid hF
  clear hF hN hv
  cases h1 : decide (j ∈ rp l i) with
  | true =>
    rw [h1] at HF
    go_enter Tryz.func53, Tryz.ntmps53
    go_wp2_with fail
    refine (isOnPath_any _ _ j i _ _ _ _ HN.out HV.out hj hi).mono ?_
    rw [h1]
    rintro e w1 ⟨rfl, hb1⟩
    clear h1
    go_wp2
    go_ret
    exact ⟨ret_int HF.out.symm, hb1⟩
  | false =>
    rw [h1] at HF
    cases h2 : decide (i ∈ rp l j) with
    | true =>
      rw [h2] at HF
      go_enter Tryz.func53, Tryz.ntmps53
      go_wp2_with fail
      refine (isOnPath_any _ _ j i _ _ _ _ HN.out HV.out hj hi).mono ?_
      rw [h1]
      rintro e w1 ⟨rfl, hb1⟩
      have HN1 := Lib.hid (HN.out.below hb1)
      clear h1
      go_wp2_with fail
      refine (isOnPath_any _ _ i j _ _ _ _ HN1.out HV.out hi hj).mono ?_
      rw [h2]
      rintro e w2 ⟨rfl, hb2⟩
      have HB2 := Lib.hid (hb1.trans (hb2.mono hb1.size))
      clear h2 hb1 hb2
      go_wp2
      go_ret
      exact ⟨ret_int HF.out.symm, HB2.out⟩
    | false =>
      rw [h2] at HF
      go_enter Tryz.func53, Tryz.ntmps53
      go_wp2_with fail
      refine (isOnPath_any _ _ j i _ _ _ _ HN.out HV.out hj hi).mono ?_
      rw [h1]
      rintro e w1 ⟨rfl, hb1⟩
      have HN1 := Lib.hid (HN.out.below hb1)
      clear h1
      go_wp2_with fail
      refine (isOnPath_any _ _ i j _ _ _ _ HN1.out HV.out hi hj).mono ?_
      rw [h2]
      rintro e w2 ⟨rfl, hb2⟩
      have HB2 := Lib.hid (hb1.trans (hb2.mono hb1.size))
      clear h2 hb1 hb2
      go_wp2
      go_ret
      exact ⟨ret_int HF.out.symm, HB2.out⟩

end Go.Proofs.YteokbgfiokbojaaGreat
/- Chains and the kinds of their last calls: plain. -/
namespace Go.Proofs.YteokbgfiokbojaaGreat
open Go.RowKit

/-- Each chain ends with two names. -/
theorem chainsB_two {P : UInt8 → Bool} : ∀ (f : Forest) (p : List UInt8) (a : UInt8), P a = true → f.all P → ∀ x ∈ chainsB (p ++ [a]) f, ∃ y u v, x = y ++ [u, v] ∧ P u = true ∧ P v = true
  | .nil, _, _, _, _, x, h => by cases h
  | .cons c k r, p, a, ha, hp, x, h => by
    obtain ⟨h1, h2, h3⟩ := hp
    have h' : x ∈ ((p ++ [a]) ++ [c]) :: (chainsB ((p ++ [a]) ++ [c]) k ++ chainsB (p ++ [a]) r) := h
    rcases List.mem_cons.1 h' with rfl | h'
    · exact ⟨p, a, c, by simp, ha, h1⟩
    · rcases List.mem_append.1 h' with h' | h'
      · exact chainsB_two k (p ++ [a]) c h1 h2 x h'
      · exact chainsB_two r p a ha h3 x h'
theorem root_callP {l : List Seg} (hv : validB l = true) : callP l (rootB l) = true := by
  obtain ⟨s, h1, h2⟩ := root_name hv
  obtain ⟨h0, h3⟩ := List.getElem?_eq_some_iff.1 h1
  have h4 := name_index hv h0
  rw [h3, h2] at h4
  unfold callP
  rw [h4]
  rfl
/-- The name ahead of the last one. -/
def penB (x : List UInt8) : UInt8 := lastB x.dropLast
theorem ends_of (y : List UInt8) (u v : UInt8) : lastB (y ++ [u, v]) = v ∧ penB (y ++ [u, v]) = u := by
  have e : y ++ [u, v] = (y ++ [u]) ++ [v] := by simp
  refine ⟨by rw [e, lastB_snoc], ?_⟩
  unfold penB
  rw [e, List.dropLast_concat, lastB_snoc]
theorem trace_two {l : List Seg} {t : ByteArray} {f : Forest} (h : traceB l t.data.toList = some f) : ∀ x ∈ chainsB [rootB l] f, (∃ y u v, x = y ++ [u, v] ∧ callP l u = true ∧ callP l v = true) ∧ x.length ≤ 9 := fun x hx => by
  have hv := (traceB_some h).1
  refine ⟨chainsB_two f [] (rootB l) (root_callP hv) (traceB_all h) x hx, ?_⟩
  have h1 := (chainsB_bound f [rootB l] x hx).1
  have h2 := (traceB_size h).2
  simp at h1
  omega
end Go.Proofs.YteokbgfiokbojaaGreat
/- Sets of segments as bits, and chains that lie together: plain. -/
namespace Go.Proofs.YteokbgfiokbojaaGreat
open Go.RowKit

/-- A set of eight as bits. -/
def setF (f : Nat → Bool) : Nat := (f 0).toNat + 2 * (f 1).toNat + 4 * (f 2).toNat + 8 * (f 3).toNat + 16 * (f 4).toNat + 32 * (f 5).toNat + 64 * (f 6).toNat + 128 * (f 7).toNat
theorem setF_lt (f : Nat → Bool) : setF f < 256 := by
  unfold setF
  have h : ∀ b : Bool, b.toNat ≤ 1 := fun b => by cases b <;> decide
  have := h (f 0); have := h (f 1); have := h (f 2); have := h (f 3); have := h (f 4); have := h (f 5); have := h (f 6); have := h (f 7)
  omega
theorem set_brute : ∀ b0 b1 b2 b3 b4 b5 b6 b7 : Bool,
    (b0.toNat + 2 * b1.toNat + 4 * b2.toNat + 8 * b3.toNat + 16 * b4.toNat + 32 * b5.toNat + 64 * b6.toNat + 128 * b7.toNat).testBit 0 = b0 ∧
    (b0.toNat + 2 * b1.toNat + 4 * b2.toNat + 8 * b3.toNat + 16 * b4.toNat + 32 * b5.toNat + 64 * b6.toNat + 128 * b7.toNat).testBit 1 = b1 ∧
    (b0.toNat + 2 * b1.toNat + 4 * b2.toNat + 8 * b3.toNat + 16 * b4.toNat + 32 * b5.toNat + 64 * b6.toNat + 128 * b7.toNat).testBit 2 = b2 ∧
    (b0.toNat + 2 * b1.toNat + 4 * b2.toNat + 8 * b3.toNat + 16 * b4.toNat + 32 * b5.toNat + 64 * b6.toNat + 128 * b7.toNat).testBit 3 = b3 ∧
    (b0.toNat + 2 * b1.toNat + 4 * b2.toNat + 8 * b3.toNat + 16 * b4.toNat + 32 * b5.toNat + 64 * b6.toNat + 128 * b7.toNat).testBit 4 = b4 ∧
    (b0.toNat + 2 * b1.toNat + 4 * b2.toNat + 8 * b3.toNat + 16 * b4.toNat + 32 * b5.toNat + 64 * b6.toNat + 128 * b7.toNat).testBit 5 = b5 ∧
    (b0.toNat + 2 * b1.toNat + 4 * b2.toNat + 8 * b3.toNat + 16 * b4.toNat + 32 * b5.toNat + 64 * b6.toNat + 128 * b7.toNat).testBit 6 = b6 ∧
    (b0.toNat + 2 * b1.toNat + 4 * b2.toNat + 8 * b3.toNat + 16 * b4.toNat + 32 * b5.toNat + 64 * b6.toNat + 128 * b7.toNat).testBit 7 = b7 := by
  decide +kernel
theorem setF_bit (f : Nat → Bool) (i : Nat) : (setF f).testBit i = (decide (i < 8) && f i) := by
  by_cases hi : i < 8
  · rw [decide_eq_true hi, Bool.true_and]
    obtain ⟨h0, h1, h2, h3, h4, h5, h6, h7⟩ := set_brute (f 0) (f 1) (f 2) (f 3) (f 4) (f 5) (f 6) (f 7)
    unfold setF
    have : i = 0 ∨ i = 1 ∨ i = 2 ∨ i = 3 ∨ i = 4 ∨ i = 5 ∨ i = 6 ∨ i = 7 := by omega
    rcases this with rfl | rfl | rfl | rfl | rfl | rfl | rfl | rfl <;> assumption
  · rw [decide_eq_false hi, Bool.false_and]
    exact Nat.testBit_lt_two_pow (Nat.lt_of_lt_of_le (setF_lt f) (Nat.pow_le_pow_right (n := 2) (by decide) (by omega : 8 ≤ i)))
theorem setF_congr {f g : Nat → Bool} (h : ∀ i, i < 8 → f i = g i) : setF f = setF g := by
  unfold setF
  rw [h 0 (by decide), h 1 (by decide), h 2 (by decide), h 3 (by decide), h 4 (by decide), h 5 (by decide), h 6 (by decide), h 7 (by decide)]
theorem setF_with (f : Nat → Bool) {i : Nat} (hi : i < 8) : setF f ||| 2 ^ i = setF (fun j => f j || decide (j = i)) := by
  apply Nat.eq_of_testBit_eq
  intro j
  rw [Nat.testBit_or, setF_bit, setF_bit, Nat.testBit_two_pow]
  by_cases hj : j < 8
  · rw [decide_eq_true hj, Bool.true_and, Bool.true_and]
    congr 1
    exact decide_eq_decide.2 ⟨fun h => h.symm, fun h => h.symm⟩
  · rw [decide_eq_false hj, Bool.false_and, Bool.false_and, Bool.false_or]
    exact decide_eq_false (by omega)
theorem setF_joined (f g : Nat → Bool) : setF f ||| setF g = setF (fun j => f j || g j) := by
  apply Nat.eq_of_testBit_eq
  intro j
  rw [Nat.testBit_or, setF_bit, setF_bit, setF_bit]
  cases decide (j < 8) <;> simp
theorem setF_and (f : Nat → Bool) {i : Nat} (hi : i < 8) : setF f &&& 2 ^ i = if f i = true then 2 ^ i else 0 := by
  apply Nat.eq_of_testBit_eq
  intro j
  rw [Nat.testBit_and, setF_bit, Nat.testBit_two_pow]
  by_cases hj : i = j
  · subst hj
    rw [decide_eq_true hi, decide_eq_true rfl, Bool.true_and, Bool.and_true]
    cases f i with
    | false => simp
    | true => rw [if_pos rfl, Nat.testBit_two_pow, decide_eq_true rfl]
  · rw [decide_eq_false hj, Bool.and_false]
    cases f i with
    | false => simp
    | true => rw [if_pos rfl, Nat.testBit_two_pow, decide_eq_false hj]
theorem setF_has (f : Nat → Bool) {i : Nat} (hi : i < 8) : (setF f &&& 2 ^ i != 0) = f i := by
  rw [setF_and f hi]
  have hp : 0 < 2 ^ i := Nat.pow_pos (by decide)
  cases f i with
  | false => simp
  | true =>
    rw [if_pos rfl, bne_iff_ne]
    omega

/-- Whether two segments lie together, by their indices. -/
def lieIx (l : List Seg) (a b : Nat) : Bool := decide (a ∈ rp l b) || decide (b ∈ rp l a)
theorem lieIx_comm (l : List Seg) (a b : Nat) : lieIx l a b = lieIx l b a := Bool.or_comm _ _
theorem lieIx_self (l : List Seg) (a : Nat) : lieIx l a a = true := by
  have : a ∈ rp l a := List.mem_append.2 (.inr (List.mem_singleton.2 rfl))
  unfold lieIx
  rw [decide_eq_true this]
  rfl
theorem kindIx_side (l : List Seg) (a b : Nat) : decide (kindIx l a b = 2) = !lieIx l a b := by
  unfold kindIx lieIx
  by_cases h1 : b ∈ rp l a
  · rw [if_pos h1]; simp [h1]
  · rw [if_neg h1]
    by_cases h2 : a ∈ rp l b
    · rw [if_pos h2]; simp [h2]
    · rw [if_neg h2]; simp [h1, h2]
theorem lieB_bytes {l : List Seg} (hv : validB l = true) {u v : UInt8} : lieB l ⟨#[u]⟩ ⟨#[v]⟩ = (decide (0 ≤ bSeek l u) && decide (0 ≤ bSeek l v) && lieIx l (bSeek l u).toNat (bSeek l v).toNat) := by
  have h1 : indexB l ⟨#[u]⟩ = bSeek l u := if_pos hv
  have h2 : indexB l ⟨#[v]⟩ = bSeek l v := if_pos hv
  unfold lieB comOk hasSeg pathIx lieIx
  rw [h1, h2]
/-- Whether the segments that a text names lie together, as the reference asks. -/
def liesTo (l : List Seg) (s : ByteArray) (i n : Nat) : Bool := (List.range n).all fun k => lieB l (s.extract k (k + 1)) (s.extract i (i + 1))
def liesUp (l : List Seg) (s : ByteArray) (n : Nat) : Bool := (List.range n).all fun i => liesTo l s i (i + 1)
def liesB (l : List Seg) (s : ByteArray) : Bool := liesUp l s s.size && validB l
theorem liesTo_succ (l : List Seg) (s : ByteArray) (i n : Nat) : liesTo l s i (n + 1) = (liesTo l s i n && lieB l (s.extract n (n + 1)) (s.extract i (i + 1))) := by
  unfold liesTo
  rw [List.range_succ, List.all_append]
  simp
theorem liesUp_succ (l : List Seg) (s : ByteArray) (n : Nat) : liesUp l s (n + 1) = (liesUp l s n && liesTo l s n (n + 1)) := by
  unfold liesUp
  rw [List.range_succ, List.all_append]
  simp
theorem all_range {n : Nat} {p : Nat → Bool} : (List.range n).all p = true ↔ ∀ i, i < n → p i = true := by
  rw [List.all_eq_true]
  exact ⟨fun h i hi => h i (List.mem_range.2 hi), fun h i hi => h i (List.mem_range.1 hi)⟩
theorem liesTo_false {l : List Seg} {s : ByteArray} {i n k : Nat} (hk : k < n) (h : lieB l (s.extract k (k + 1)) (s.extract i (i + 1)) = false) : liesTo l s i n = false := by
  rw [Bool.eq_false_iff]
  intro h'
  rw [all_range.1 h' k hk] at h
  cases h
theorem liesB_false {l : List Seg} {s : ByteArray} {i : Nat} (hi : i < s.size) (h : liesTo l s i (i + 1) = false) : liesB l s = false := by
  rw [Bool.eq_false_iff]
  intro h'
  unfold liesB at h'
  rw [Bool.and_eq_true] at h'
  rw [all_range.1 h'.1 i hi] at h
  cases h
/-- Whether the segments of a set lie together. -/
def togeB (l : List Seg) (f : Nat → Bool) : Bool := (List.range l.length).all fun i => (List.range i).all fun j => !(f i && f j && decide (kindIx l i j = 2))
theorem liesB_bad {l : List Seg} (hv : validB l = false) (s : ByteArray) : liesB l s = false := by
  unfold liesB
  rw [hv, Bool.and_false]
theorem liesB_unnamed {l : List Seg} (hv : validB l = true) {s : ByteArray} (h : namedOk l s.data.toList = false) : liesB l s = false := by
  unfold namedOk at h
  rw [List.all_eq_false] at h
  obtain ⟨b, hb, hn⟩ := h
  obtain ⟨i, hi, he⟩ := List.getElem_of_mem hb
  have hi' : i < s.size := by simpa using hi
  refine liesB_false hi' (liesTo_false (Nat.lt_succ_self i) ?_)
  rw [one_byte s hi', show s[i] = b from he, lieB_bytes hv, Bool.eq_false_iff.2 hn]
  rfl
theorem liesB_named {l : List Seg} (hv : validB l = true) {s : ByteArray} (h : namedOk l s.data.toList = true) : liesB l s = togeB l (fun i => decide (i ∈ namedJs l s.data.toList)) := by
  have hnm : ∀ k (hk : k < s.size), 0 ≤ bSeek l s[k] := fun k hk => by
    have := List.all_eq_true.1 h s[k] (List.getElem_mem (l := s.data.toList) (by simpa using hk))
    exact of_decide_eq_true this
  have hlie : ∀ i k (hi : i < s.size) (hk : k < s.size), lieB l (s.extract k (k + 1)) (s.extract i (i + 1)) = lieIx l (bSeek l s[k]).toNat (bSeek l s[i]).toNat := fun i k hi hk => by
    rw [one_byte s hi, one_byte s hk, lieB_bytes hv, decide_eq_true (hnm k hk), decide_eq_true (hnm i hi)]
    rfl
  rw [Bool.eq_iff_iff]
  unfold liesB
  rw [hv, Bool.and_true]
  unfold liesUp togeB
  rw [all_range, all_range]
  constructor
  · intro H i hi
    rw [all_range]
    intro j hj
    show (!(decide (i ∈ namedJs l s.data.toList) && decide (j ∈ namedJs l s.data.toList) && decide (kindIx l i j = 2))) = true
    cases h1 : decide (i ∈ namedJs l s.data.toList) with
    | false => rfl
    | true =>
      cases h2 : decide (j ∈ namedJs l s.data.toList) with
      | false => rfl
      | true =>
        obtain ⟨u, hu, he⟩ := List.mem_map.1 (of_decide_eq_true h1)
        obtain ⟨v, hv', he'⟩ := List.mem_map.1 (of_decide_eq_true h2)
        obtain ⟨p, hp, hpe⟩ := List.getElem_of_mem hu
        obtain ⟨q, hq, hqe⟩ := List.getElem_of_mem hv'
        have hp' : p < s.size := by simpa using hp
        have hq' : q < s.size := by simpa using hq
        have key : lieIx l i j = true := by
          rcases Nat.le_total q p with hle | hle
          · have := all_range.1 (H p hp') q (by omega)
            rw [hlie p q hp' hq', show s[q] = v from hqe, show s[p] = u from hpe, he, he'] at this
            rw [lieIx_comm]; exact this
          · have := all_range.1 (H q hq') p (by omega)
            rw [hlie q p hq' hp', show s[q] = v from hqe, show s[p] = u from hpe, he, he'] at this
            exact this
        rw [kindIx_side, key]
        rfl
  · intro H i hi
    unfold liesTo
    rw [all_range]
    intro k hk
    have hk' : k < s.size := by omega
    rw [hlie i k hi hk']
    have m1 : (bSeek l s[i]).toNat ∈ namedJs l s.data.toList := List.mem_map.2 ⟨s[i], List.getElem_mem (l := s.data.toList) (by simpa using hi), rfl⟩
    have m2 : (bSeek l s[k]).toNat ∈ namedJs l s.data.toList := List.mem_map.2 ⟨s[k], List.getElem_mem (l := s.data.toList) (by simpa using hk'), rfl⟩
    have l1 := namedJs_lt h _ m1
    have l2 := namedJs_lt h _ m2
    generalize (bSeek l s[i]).toNat = a at *
    generalize (bSeek l s[k]).toNat = b at *
    rcases Nat.lt_trichotomy a b with hab | hab | hab
    · have := all_range.1 (H b l2) a hab
      dsimp only at this
      rw [decide_eq_true m1, decide_eq_true m2, kindIx_side] at this
      simpa using this
    · rw [hab]; exact lieIx_self l b
    · have := all_range.1 (H a l1) b hab
      dsimp only at this
      rw [decide_eq_true m1, decide_eq_true m2, kindIx_side] at this
      rw [lieIx_comm]
      simpa using this

end Go.Proofs.YteokbgfiokbojaaGreat
