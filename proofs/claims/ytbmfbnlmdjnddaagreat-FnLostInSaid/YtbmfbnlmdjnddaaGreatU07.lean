/- Joined: Qb Qe La Lb Ba Fa. -/
import Derived.Test.YtbmfbnlmdjnddaaGreatU06
import Derived.Maps.OwnIn
import Derived.LaidEqlPtr
import Derived.IntWalk
import Derived.Test.YtbmfbnlmdjnddaaGreatU03
/- A path gathered into a slice, and what is in it: the program's LieTogether. -/
namespace Go.Proofs.YtbmfbnlmdjnddaaGreat
open Go.RowKit Go.Shelf
attribute [local go_sem] Oper.semAt_some

theorem own_grown {W W' : World} {base n : Nat} {e : TypeId} {v : Value} {xs : List Value} {row : Option Nat} (h : W.ownsRow base e 1 v n xs) (hg : W.grownBy W' row) (hr : ∀ r, row = some r → ∃ o : Obj, W.heap[r]? = some o ∧ o.isCells = false) : W'.ownsRow base e 1 v n xs :=
  own_keep h fun g hb => hg.block g ((h.lt g hb).2) (fun he => by
    obtain ⟨o, ho, hc⟩ := hr g he.symm
    rcases h.2 with ⟨rfl, _⟩ | ⟨g', cap, cur, rfl, _, hh, _⟩
    · simp [Value.ownBlock] at hb
    · have : g' = g := by simpa [Value.ownBlock] using hb
      subst this
      rw [hh] at ho
      injection ho with ho
      subst ho
      cases hc)

/-- What is firm stays. -/
def Steady (W W' : World) : Prop := ∀ (k : Nat) (o : Obj), W.heap[k]? = some o → Firm o → W'.heap[k]? = some o

/-- One node's pointer is put behind those that were gathered: only a row of two cells or more is written in place. -/
theorem run_append_firm (w : World) (ty base n : Nat) (v : Value) (xs : List Value) (hown : w.ownsRow base 89 1 v n xs) (h0 : n = 0 → v = .slice none 0 0) (ad : Addr) (u : Value)
    (hnews : ∀ j y, [u][j]? = some y → w.cell? (ad.add j) = some y) (h1 : ∀ y ∈ [u], y.oneCell' = true) (hn : n ≤ 1000) (hbase : base ≤ w.heap.size) :
    ∃ g cap w', (Builtin.append_ #[62, 62] ty #[v, .slice (some ad) 1 1]).run Tryz.prog w = .ok (.slice (some ⟨g, 0, none⟩) (n + 1) cap) w' ∧
      w'.ownsRow base 89 1 (.slice (some ⟨g, 0, none⟩) (n + 1) cap) (n + 1) (xs ++ [u]) ∧ w.grownBy w' v.ownBlock ∧ Steady w w' := by
  obtain ⟨i0, hi, hz0, hz1, hz2⟩ := info_parts info_ptr
  obtain ⟨v', w', hr, h2, h3, -, -⟩ := run_append_own_at (P := Tryz.prog) w base 62 ty 89 i0 (.pointer none) 1 8 Tryz.underlying62 hi hz0 hz1 hz2 rfl (by decide) v n xs hown ad 1 1 [u] rfl hnews h1 (by unfold maxLen; omega) (by omega) hbase
  obtain ⟨g, cap, rfl⟩ := own_form h2 (by omega)
  refine ⟨g, cap, w', hr, h2, h3, ?_⟩
  rcases hown.2 with ⟨rfl, rfl⟩ | ⟨g', cap', cur, rfl, hbg, hg, hnc, hcm, hcs, htake⟩
  · have hr2 := run_append_nil (P := Tryz.prog) w 62 ty 89 i0 (.pointer none) Tryz.underlying62 hi hz0 ad 1 1 [u] (by rw [hz1]; rfl) hnews (by decide) (by decide) (by rw [hz2]; decide)
    rw [hr] at hr2
    injection hr2 with _ hw
    subst hw
    exact fun k o hk _ => (Below.heap_alloc w.drew _ k (Array.getElem?_eq_some_iff.1 hk).1).trans hk
  · by_cases hc : n + 1 ≤ cap'
    · refine fun k o hk hf => (h3.block k (Array.getElem?_eq_some_iff.1 hk).1 (fun he => ?_)).trans hk
      have he' : k = g' := by simpa [Value.ownBlock] using he
      subst he'
      rw [hg] at hk
      injection hk with hk
      have := (hf cur _ _ hk.symm).2.resolve_right (by decide)
      have hn1 : 0 < n := Nat.pos_of_ne_zero fun e => by have := h0 e; cases this
      omega
    · obtain ⟨v2, w2, hr2, -, hg2⟩ := run_append_arg_grows (P := Tryz.prog) w 62 ty 89 i0 (.pointer none) 1 8 Tryz.underlying62 hi hz0 hz1 hz2 rfl (by decide) ⟨g', 0, none⟩ n cap' xs hown.1
        (fun j y hj => by
          have h5 : w.cell? ⟨g', 0 + j, none⟩ = some y := by
            rw [Nat.zero_add, hown.cellAt j (by have := (List.getElem?_eq_some_iff.1 hj).1; have := hown.1; omega)]
            exact hj
          rw [WideShapes.add_plain]
          exact h5) ad 1 1 [u] rfl hnews (by omega) (by unfold maxLen; omega) (by omega)
      rw [hr] at hr2
      injection hr2 with _ hw
      subst hw
      exact fun k o hk _ => (hg2.block k (Array.getElem?_eq_some_iff.1 hk).1 (fun he => by cases he)).trans hk

theorem wpListIn_append_firm {F : Fence} {nF : Nat} {w : World} {ops : Array Oper} {rest : List Oper} {o : Oper} {a : Act} {Q : Exit → Act → World → Prop} (hgd : o.guard = none) (s x : Operand)
    (ho : o.op = .call { callee := .builtin .append, args := #[s, x], argTypes := #[62, 62] })
    (base n : Nat) (v : Value) (xs : List Value) (hs : a.eval s = v) (hown : w.ownsRow base 89 1 v n xs) (h0 : n = 0 → v = .slice none 0 0) (ad : Addr) (u : Value) (hx : a.eval x = .slice (some ad) 1 1)
    (hnews : ∀ j y, [u][j]? = some y → w.cell? (ad.add j) = some y) (h1 : ∀ y ∈ [u], y.oneCell' = true) (hn : n ≤ 1000) (hbase : base ≤ w.heap.size)
    (h : ∀ g cap w', w'.ownsRow base 89 1 (.slice (some ⟨g, 0, none⟩) (n + 1) cap) (n + 1) (xs ++ [u]) → w.grownBy w' v.ownBlock → Steady w w' → wpListIn F nF Tryz.prog ops Q rest (a.put o.dst (.slice (some ⟨g, 0, none⟩) (n + 1) cap)) w') :
    wpListIn F nF Tryz.prog ops Q (o :: rest) a w := by
  refine wpListIn_plain hgd fun K hK => ?_
  obtain ⟨g, cap, w', hr, h2, h3, h4⟩ := run_append_firm w o.type base n v xs hown h0 ad u hnews h1 hn hbase
  unfold Oper.wpIn
  refine ⟨by simp [Oper.about, ho, resolve, Target.leads, Sem.run_pure], ?_⟩
  rw [Oper.semAt_plain F _ _ (by rw [ho]; intro c hc'; cases hc')]
  simp [execOp, ho, resolve, invoke, builtin, hs, hx, hr, Result.andThen]
  exact hK _ _ (h g cap w' h2 h3 h4)

/-- What was gathered: the box holds a slice of the call's own. -/
structure Gath (w : World) (nb : Nat → Nat) (T : List Nat) (W : World) : Prop where
  ex : ∃ v, Row W w.heap.size 62 #[v] ∧ W.ownsRow (w.heap.size + 1) 89 1 v T.length (ptrsOf nb T) ∧ (T.length = 0 → v = .slice none 0 0)
  below : Below w.heap.size w W
theorem Gath.grown {w W W' : World} {nb : Nat → Nat} {T : List Nat} {B : Nat} {row : Option Nat} (h : Gath w nb T W) (hg : W.grownBy W' row) (hB : w.heap.size ≤ B) (hr : ∀ r, row = some r → B ≤ r ∧ ∃ o : Obj, W.heap[r]? = some o ∧ o.isCells = false) : Gath w nb T W' := by
  obtain ⟨⟨v, h1, h2, h3⟩, hb⟩ := h
  exact ⟨⟨v, row_grown h1 hg hr, own_grown h2 hg (fun r e => (hr r e).2), h3⟩, hb.grown hg hb.size (fun k e => by have := (hr k e).1; omega)⟩

set_option maxRecDepth 100000 in
set_option maxHeartbeats 2000000 in
theorem appendSeq_any {gf : Nat} {lb : Array Value} (w : World) (l : List Seg) (nb : Nat → Nat) (S Sp : List (Ix l) → Prop) (N : Nat) (hN : N ≤ 1000) (heg : ∀ args w, (callFunc gf args).run Tryz.prog w = .ok (.enter gf args) w)
    (hseq : SeqR 19 gf lb (fun x : Ix l => #[.pointer (some ⟨nb x.1, 0, none⟩)]) w.heap.size (w.heap.size + 3) S Sp N w) :
    Calls Tryz.prog 184 #[.slice none 0 0, .func (.func gf) #[] lb] w fun e w' => (∃ xs v, S xs ∧ e = .returned v ∧ w'.ownsRow (w.heap.size + 1) 89 1 v xs.length (ptrsOf nb (xs.map (·.1)))) ∧ Below w.heap.size w w' := by
  refine (callsIn_wide (n := 20)).1 ?_
  refine callsIn_of_wp_marks Tryz.func184 rfl trivial ?_ rfl
  simp only [Tryz.ntmps184, List.size_toArray, List.length_cons, List.length_nil, Nat.reduceAdd, Nat.reduceSub, Array.replicate_succ, Array.replicate_zero, List.push_toArray, List.append_toArray, List.nil_append, List.cons_append]
  gi_wp2
  have hB0 : Below w.heap.size w (w.alloc (.cells #[.slice none 0 0] 62)) := (Below.refl _ w).alloc (Nat.le_refl _) _
  have hI0 : Gath w nb [] (w.alloc (.cells #[.slice none 0 0] 62)) := ⟨⟨.slice none 0 0, Row.new _ _ _, World.ownsRow_nil _ _ _ _, fun _ => rfl⟩, hB0⟩
  refine wpIn_rangeFunc_R (by omega) (gf := gf) (lb := lb) rfl heg hseq (by simp) (by simp) hB0 (fun _ => rfl)
    (fun pre W => Gath w nb (pre.map (fun y : Ix l => y.1)) W)
    (fun _ _ _ => False)
    (fun _ _ _ _ h hg hr => h.grown hg (by simp) hr)
    (fun _ _ _ _ _ hs _ _ => hs)
    hI0
    (fun x => { tmps := #[.slice none 0 0, .func (.func gf) #[] lb, .pointer (some ⟨w.heap.size, 0, none⟩), undef, .slice none 0 0, .pointer (some ⟨nb x.1, 0, none⟩), .func (.func gf) #[] lb, .pointer (some ⟨nb x.1, 0, none⟩), undef, undef, undef, undef, undef], defers := [] }) ?assign ?body ?done ?stop
  case assign =>
    intro l x W K hK
    gi_wp2
    exact hK
  case body =>
    rintro l' pre x W ⟨⟨v, hrow, hown, hv0⟩, hB⟩ hlen hz
    have c1 : W.cell? ⟨w.heap.size, 0, none⟩ = some v := hrow.cell 0
    have hz' : w.heap.size + 3 ≤ W.heap.size := by simpa using hz
    have HR := Lib.hid hrow
    have HO := Lib.hid hown
    have HV := Lib.hid hv0
    have HB := Lib.hid hB
    clear hrow hown hv0 hB hz
    have hbx : w.heap.size < W.heap.size := by omega
    gi_wp2_with (gi_at_builtin; refine wpListIn_append_firm rfl _ _ rfl (w.heap.size + 1) _ _ _ rfl (own_grown HO.out (World.grownBy_alloc W _ none) (fun r e => by cases e)) HV.out ⟨W.heap.size, 0, none⟩ (.pointer (some ⟨nb x.1, 0, none⟩)) rfl (cell_one_new _ _ _) (by simp [Value.oneCell']) (by simp; omega) (by simp; omega) ?_; intro g cap w1 hown1 hgrow hst; have hrow1 : Row w1 w.heap.size 62 #[v] := (hgrow.block _ (HR.out.alloc _).lt (fun he => own_ne HO.out HR.out (by decide) he.symm)).trans (HR.out.alloc _); have d1 : w1.cell? ⟨w.heap.size, 0, none⟩ = some v := hrow1.cell 0; have z1 : w1.frozen? ⟨w.heap.size, 0, none⟩ = false := hrow1.free 0; have HR1 := Lib.hid hrow1; have HO1 := Lib.hid hown1; have HS := Lib.hid hst; have HG := Lib.hid hgrow; clear hrow1 hown1 hst hgrow)
    have hsz : W.heap.size + 1 ≤ w1.heap.size := by have := HG.out.size; simpa using this
    have e1 : (pre ++ [x]).map (fun y : Ix l => y.1) = pre.map (fun y : Ix l => y.1) ++ [x.1] := by simp
    have e2 : ptrsOf nb (pre.map (fun y : Ix l => y.1) ++ [x.1]) = ptrsOf nb (pre.map (fun y : Ix l => y.1)) ++ [.pointer (some ⟨nb x.1, 0, none⟩)] := by simp [ptrsOf, ptrTo]
    refine ⟨⟨by simp; omega, fun k o hk ho hf => ?_⟩, ?_, ⟨⟨_, HR1.out.put 0 _, ?_, ?_⟩, ?_⟩⟩
    · have hk' : w.heap.size + 1 ≤ k := by simp at hk; omega
      have h1 := HS.out k o ((Below.heap_alloc W _ k (Array.getElem?_eq_some_iff.1 ho).1).trans ho) hf
      exact (Below.heap_setCell w1 _ _ k (by show k ≠ w.heap.size; omega)).trans h1
    · exact (((Below.refl w.heap.size W).alloc (by omega) _).grown HG.out (by simp; omega) (fun k e => by have := (HO.out.lt k e).1; omega)).setCell (Nat.le_refl _) _
    · have h5 := HO1.out
      rw [List.length_map] at h5
      rw [e1, e2, List.length_append, List.length_map]
      exact own_set h5 HR1.out (by decide) 0 _
    · rw [e1, List.length_append]
      intro h; simp at h
    · exact (((HB.out.alloc HB.out.size _)).grown HG.out (by simp; omega) (fun k e => by have := (HO.out.lt k e).1; omega)).setCell (Nat.le_refl _) _
  case done =>
    rintro D ys W hD hS hI hK
    obtain ⟨⟨v, hrow, hown, -⟩, hB⟩ := hI
    have c1 : W.cell? ⟨w.heap.size, 0, none⟩ = some v := hrow.cell 0
    rw [List.length_map] at hown
    have HO := Lib.hid hown
    have HB := Lib.hid hB
    clear hrow hown hB
    gi_wp2
    refine ⟨by simp, .inl ⟨_, _, rfl, run_takeDeferred hK, ?_⟩⟩
    refine ⟨_, results_tmp rfl _ _ _, ⟨ys, v, hS, rfl, ?_⟩, HB.out.trans (belowK_b (w := w) (Nat.le_refl _) W D _ _ (by simp at hD; omega) hK rfl rfl)⟩
    exact own_grown HO.out (grownBy_putObj' W D _) (fun r e => by cases e; exact ⟨_, hK, rfl⟩)
  case stop =>
    rintro D c pre W _ _ h _
    exact h.elim

set_option maxRecDepth 100000 in
set_option maxHeartbeats 400000 in
theorem collect_any {gf : Nat} {lb : Array Value} (w : World) (l : List Seg) (nb : Nat → Nat) (S Sp : List (Ix l) → Prop) (N : Nat) (hN : N ≤ 1000) (heg : ∀ args w, (callFunc gf args).run Tryz.prog w = .ok (.enter gf args) w)
    (hseq : SeqR 19 gf lb (fun x : Ix l => #[.pointer (some ⟨nb x.1, 0, none⟩)]) w.heap.size (w.heap.size + 3) S Sp N w) :
    Calls Tryz.prog 138 #[.func (.func gf) #[] lb] w fun e w' => (∃ xs v, S xs ∧ e = .returned v ∧ w'.ownsRow (w.heap.size + 1) 89 1 v xs.length (ptrsOf nb (xs.map (·.1)))) ∧ Below w.heap.size w w' := by
  have HC := Lib.hid (appendSeq_any w l nb S Sp N hN heg hseq)
  clear hseq heg
  go_enter Tryz.func138, Tryz.ntmps138
  go_wp2_with fail
  refine HC.out.mono ?_
  rintro e w1 ⟨⟨xs, v, hS, rfl, hown⟩, hb⟩
  have HO := Lib.hid hown
  clear hown
  go_wp2
  go_ret
  exact ⟨⟨xs, v, hS, rfl, HO.out⟩, hb⟩

/-- What Index says. -/
def FoundAt (js : List Nat) (i : Nat) (w : World) (e : Ending) (w' : World) : Prop := ∃ r : Int, e = .returned (.int .i64 r) ∧ (0 ≤ r ↔ i ∈ js) ∧ (0 ≤ r → js[r.toNat]? = some i) ∧ w = w'

set_option maxRecDepth 100000 in
set_option maxHeartbeats 1000000 in
theorem index_any (g cap base : Nat) (js : List Nat) (nb : Nat → Nat) (i : Nat) (w : World) (hown : w.ownsRow base 89 1 (.slice (some ⟨g, 0, none⟩) js.length cap) js.length (ptrsOf nb js)) (hjl : js.length ≤ 1000)
    (hnode : ∀ j, j = i ∨ j ∈ js → ∃ c, Row w (nb j) 128 c) (hinj : ∀ j ∈ js, nb i = nb j → i = j) :
    Calls Tryz.prog 126 #[.slice (some ⟨g, 0, none⟩) js.length cap, .pointer (some ⟨nb i, 0, none⟩)] w (FoundAt js i w) := by
  have HO := Lib.hid hown
  have HN := Lib.hid hnode
  have HI := Lib.hid hinj
  obtain ⟨i0, hi0, hsz0⟩ := Option.map_eq_some_iff.1 (show (Tryz.prog.info? 128).map (fun i => i.size) = some 4 by kernel_rfl)
  have I0 := Lib.hid hi0
  have I1 := Lib.hid hsz0
  clear hown hnode hinj hi0 hsz0
  go_enter Tryz.func126, Tryz.ntmps126
  go_wp2
  go_loop [8] (fun c => ∃ k : Nat, k ≤ js.length ∧ c = .int .i64 k ∧ Hid (∀ m, m < k → js[m]? ≠ some i)) (fun c => js.length - (intOf c).toNat)
  case atStart => exact ⟨0, Nat.zero_le _, rfl, fun m hm => absurd hm (by omega)⟩
  case round =>
    obtain ⟨k, hk, rfl, HM⟩ := hrel
    by_cases hlt : k < js.length
    · have hc : w.cell? ⟨g, k, none⟩ = some (.pointer (some ⟨nb js[k], 0, none⟩)) := by
        rw [HO.out.cellAt k (by omega)]
        simp [ptrsOf, ptrTo, hlt]
      have HK : Hid (js[k]? = some js[k]) := List.getElem?_eq_getElem hlt
      have HMem : Hid (js[k] ∈ js) := List.getElem_mem hlt
      generalize js[k] = j at *
      by_cases hij : i = j
      · subst hij
        have hq := fun W : World => run_eql_ptr_same (P := Tryz.prog) W ⟨nb i, 0, none⟩ Tryz.underlying89 I0.out
        go_wp2
        go_ret
        exact ⟨k, rfl, ⟨fun _ => HMem.out, fun _ => by omega⟩, fun _ => HK.out, rfl⟩
      · obtain ⟨c1, r1⟩ := HN.out i (.inl rfl)
        obtain ⟨c2, r2⟩ := HN.out j (.inr HMem.out)
        have hne : nb i ≠ nb j := fun e => hij (HI.out j HMem.out e)
        have hq := run_eql_ptr_other (P := Tryz.prog) w (a := ⟨nb i, 0, none⟩) (b := ⟨nb j, 0, none⟩) Tryz.underlying89 I0.out (by rw [I1.out]; decide) (fun e => hne (by injection e)) r1 r2
        have HM1 : Hid (∀ m, m < k + 1 → js[m]? ≠ some i) := fun m hm => by
          rcases Nat.lt_or_ge m k with h1 | h1
          · exact HM.out m h1
          · obtain rfl : m = k := by omega
            rw [HK.out]
            intro e
            injection e with e
            exact hij e.symm
        clear r1 r2 hij hne
        go_wp2
        go_round
        case rel => exact ⟨k + 1, by omega, by go_num, HM1⟩
        case measure => simp [intOf]; omega
    · obtain rfl : k = js.length := by omega
      go_wp2
      go_ret
      refine ⟨-1, rfl, ⟨fun h => absurd h (by decide), fun h => ?_⟩, fun h => absurd h (by decide), rfl⟩
      obtain ⟨m, hm, he⟩ := List.getElem_of_mem h
      exact absurd (by rw [List.getElem?_eq_getElem hm, he]) (HM.out m hm)

set_option maxRecDepth 100000 in
set_option maxHeartbeats 1000000 in
theorem contains_any (g cap base : Nat) (js : List Nat) (nb : Nat → Nat) (i : Nat) (w : World) (hown : w.ownsRow base 89 1 (.slice (some ⟨g, 0, none⟩) js.length cap) js.length (ptrsOf nb js)) (hjl : js.length ≤ 1000)
    (hnode : ∀ j, j = i ∨ j ∈ js → ∃ c, Row w (nb j) 128 c) (hinj : ∀ j ∈ js, nb i = nb j → i = j) :
    Calls Tryz.prog 137 #[.slice (some ⟨g, 0, none⟩) js.length cap, .pointer (some ⟨nb i, 0, none⟩)] w fun e w' => e = .returned (.bool (decide (i ∈ js))) ∧ w = w' := by
  have HC := Lib.hid (index_any g cap base js nb i w hown hjl hnode hinj)
  clear hown hnode hinj
  generalize hd : decide (i ∈ js) = d
  have HD := Lib.hid hd
  clear hd
  go_enter Tryz.func137, Tryz.ntmps137
  go_wp2_with fail
  refine HC.out.mono ?_
  rintro e w1 ⟨r, rfl, hr, -, rfl⟩
  have HR : Hid (decide (0 ≤ r) = d) := by
    show _ = _
    rw [← HD.out]
    exact decide_eq_decide.2 hr
  clear hr
  go_wp2
  go_ret
  exact ⟨ret_bool (by rw [← HR.out]), rfl⟩

set_option maxRecDepth 100000 in
set_option maxHeartbeats 1000000 in
theorem isOnPath_any (B g i j : Nat) (l : List Seg) (nb : Nat → Nat) (cv : Nat → Value) (w : World) (hN : Nodes w B g l.length l.length l nb cv) (hv : validB l = true) (hi : i < l.length) (hj : j < l.length) :
    Calls Tryz.prog 72 #[.pointer (some ⟨nb i, 0, none⟩), .pointer (some ⟨nb j, 0, none⟩)] w fun e w' => e = .returned (.bool (decide (i ∈ rp l j))) ∧ Below w.heap.size w w' := by
  have hL := valid_all hv
  have hR : (rootPath l (j + 1) j).length ≤ j + 1 := rootPath_len l (j + 1) j
  have hrow : Row (w.alloc (.cells #[.pointer (some ⟨nb j, 0, none⟩)] 89)) w.heap.size 89 #[.pointer (some ⟨nb j, 0, none⟩)] := Row.new _ _ _
  have hlk : Linked (w.alloc (.cells #[.pointer (some ⟨nb j, 0, none⟩)] 89)) (w.alloc (.cells #[.pointer (some ⟨nb j, 0, none⟩)] 89)).heap.size l nb := fun k hk => by
    have h1 := (hN.node k _ hk (List.getElem?_eq_getElem hk)).alloc (.cells #[.pointer (some ⟨nb j, 0, none⟩)] 89)
    exact ⟨h1.lt, h1.cell 2⟩
  have hseq := path1_seq l nb (w.alloc (.cells #[.pointer (some ⟨nb j, 0, none⟩)] 89)).heap.size ((w.alloc (.cells #[.pointer (some ⟨nb j, 0, none⟩)] 89)).heap.size + 3) 1000 hL.1.down (j + 1) j (by omega) hj 19 w.heap.size _
    ⟨.inl (by simp), by decide, hrow⟩ hlk (Nat.le_refl _) (by have := hL.2.1; omega) (by have := hL.2.1; omega)
  have HC := Lib.hid (collect_any _ l nb _ _ 1000 (Nat.le_refl _) (enters_of Tryz.func185 (by kernel_rfl) rfl) hseq)
  have HN := Lib.hid hN
  have HZ : Hid (0 < (rp l j).length ∧ (rp l j).length ≤ 1000 ∧ ∀ k ∈ rp l j, k < l.length) := ⟨by
    obtain ⟨A, hA⟩ := rp_last hL.1.down j hj
    rw [hA, List.length_append]
    simp, by
    have : (rp l j).length ≤ j + 1 := hR
    have := hL.2.1
    omega, rootPath_lt hL.1.down (j + 1) j hj⟩
  clear hseq hlk hrow hR hN hL hv
  go_enter Tryz.func72, Tryz.ntmps72
  go_wp2_with fail
  refine (path_any _ _).mono ?_
  rintro e w1 ⟨rfl, rfl⟩
  go_wp2_with fail
  refine HC.out.mono ?_
  rintro e w2 ⟨⟨xs, v, hS, rfl, hown⟩, hb2⟩
  have hB2 : Below w.heap.size w w2 := ((Below.refl _ w).alloc (Nat.le_refl _) _).trans (hb2.mono (by simp))
  have hS' : xs.map (fun y : Ix l => y.1) = rp l j := hS
  have hlx : xs.length = (rp l j).length := by rw [← hS', List.length_map]
  rw [hlx, hS'] at hown
  obtain ⟨g2, cap2, rfl⟩ := own_form hown HZ.out.1
  have HO2 := Lib.hid hown
  have HN2 : Hid (Nodes w2 B g l.length l.length l nb cv) := HN.out.below hB2
  have HB := Lib.hid hB2
  clear hown hS hS' hlx hb2 hB2 HC
  go_wp2_with fail
  refine (contains_any _ _ _ (rp l j) nb i _ HO2.out HZ.out.2.1 (fun k hk => ?_) (fun k hk he => ?_)).mono ?_
  · have hkl : k < l.length := hk.elim (fun e => e ▸ hi) (fun h => HZ.out.2.2 k h)
    exact ⟨_, HN2.out.node k _ hkl (List.getElem?_eq_getElem hkl)⟩
  · exact Classical.byContradiction fun hne => HN2.out.apart i k hi (HZ.out.2.2 k hk) hne he
  · rintro e w3 ⟨rfl, rfl⟩
    go_wp2
    go_ret
    exact ⟨rfl, HB.out⟩

end Go.Proofs.YtbmfbnlmdjnddaaGreat
/- The program's LieTogether. -/
namespace Go.Proofs.YtbmfbnlmdjnddaaGreat
open Go.RowKit

set_option maxRecDepth 100000 in
set_option maxHeartbeats 1000000 in
theorem lieTogether_any (A : Option Addr) (l : List Seg) (c : Nat) (s t : ByteArray) (w : World) (hw : Segs w w.heap.size A l) (hl : l.length ≤ 1048576) (hlc : l.length ≤ c) (hcm : c ≤ 9223372036854775807) (hn : Short l) :
    Calls Tryz.prog 17 #[.slice A l.length c, .string s, .string t] w fun e w' => e = .returned (.bool (lieB l s t)) ∧ Below w.heap.size w w' := by
  have HW : Hid (Segs w w.heap.size A l) := hw
  clear hw
  cases hv : validB l with
  | false =>
    have HF : Hid (lieB l s t = false) := by
      have h1 : indexB l s = -1 := if_neg (by rw [hv]; decide)
      show lieB l s t = false
      unfold lieB comOk hasSeg
      rw [decide_eq_false (p := 0 ≤ indexB l s) (by omega)]
      rfl
    go_enter Tryz.func17, Tryz.ntmps17
    go_wp2_with fail
    refine (findTwo_bad _ _ _ _ _ _ HW.out hl hlc hcm hn hv).mono ?_
    rintro e w1 ⟨rfl, hb1⟩
    go_wp2
    go_ret
    exact ⟨ret_bool HF.out.symm, hb1⟩
  | true =>
    have hi1 : indexB l s = seek l s := if_pos hv
    have hi2 : indexB l t = seek l t := if_pos hv
    by_cases h1 : seek l s < 0
    · have HF : Hid (lieB l s t = false) := by
        show lieB l s t = false
        unfold lieB comOk hasSeg
        rw [decide_eq_false (p := 0 ≤ indexB l s) (by omega)]
        rfl
      have HP : Hid (∀ nb, foundPtr l nb s = none) := fun nb => if_pos h1
      clear h1 hi1 hi2
      go_enter Tryz.func17, Tryz.ntmps17
      go_wp2_with fail
      refine (findTwo_any _ _ _ _ _ _ HW.out hl hlc hcm hn hv).mono ?_
      rintro e w1 ⟨g, nb, cv, rfl, hN, hb1⟩
      rw [HP.out nb]
      clear hN
      go_wp2
      all_goals go_ret
      all_goals exact ⟨ret_bool HF.out.symm, hb1⟩
    · by_cases h2 : seek l t < 0
      · have HF : Hid (lieB l s t = false) := by
          show lieB l s t = false
          unfold lieB comOk hasSeg
          rw [decide_eq_false (p := 0 ≤ indexB l t) (by omega), Bool.and_false]
          rfl
        have HP : Hid (∀ nb, foundPtr l nb t = none) := fun nb => if_pos h2
        have HQ : Hid (∀ nb, foundPtr l nb s = some ⟨nb (seek l s).toNat, 0, none⟩) := fun nb => if_neg h1
        clear h1 h2 hi1 hi2
        go_enter Tryz.func17, Tryz.ntmps17
        go_wp2_with fail
        refine (findTwo_any _ _ _ _ _ _ HW.out hl hlc hcm hn hv).mono ?_
        rintro e w1 ⟨g, nb, cv, rfl, hN, hb1⟩
        rw [HP.out nb, HQ.out nb]
        clear hN
        go_wp2
        all_goals go_ret
        all_goals exact ⟨ret_bool HF.out.symm, hb1⟩
      · have HP : Hid (∀ nb, foundPtr l nb t = some ⟨nb (seek l t).toNat, 0, none⟩) := fun nb => if_neg h2
        have HQ : Hid (∀ nb, foundPtr l nb s = some ⟨nb (seek l s).toNat, 0, none⟩) := fun nb => if_neg h1
        have hF : lieB l s t = (decide ((seek l s).toNat ∈ rp l (seek l t).toNat) || decide ((seek l t).toNat ∈ rp l (seek l s).toNat)) := by
          unfold lieB comOk hasSeg
          rw [decide_eq_true (p := 0 ≤ indexB l s) (by omega), decide_eq_true (p := 0 ≤ indexB l t) (by omega)]
          unfold pathIx
          rw [hi1, hi2]
          rfl
        have hil : (seek l s).toNat < l.length := by rcases seek_bd l s with a | ⟨_, a⟩ <;> omega
        have hjl : (seek l t).toNat < l.length := by rcases seek_bd l t with a | ⟨_, a⟩ <;> omega
        have HF := Lib.hid hF
        have HV := Lib.hid hv
        clear h1 h2 hi1 hi2 hF hv
        generalize (seek l s).toNat = i at *
        generalize (seek l t).toNat = j at *
        cases h1 : decide (i ∈ rp l j) with
        | true =>
          have HF1 : Hid (lieB l s t = true) := by
            show _ = _
            rw [HF.out, h1]; rfl
          go_enter Tryz.func17, Tryz.ntmps17
          go_wp2_with fail
          refine (findTwo_any _ _ _ _ _ _ HW.out hl hlc hcm hn HV.out).mono ?_
          rintro e w1 ⟨g, nb, cv, rfl, hN, hb1⟩
          rw [HP.out nb, HQ.out nb]
          have HN := Lib.hid hN
          clear hN
          go_wp2_with fail
          refine (isOnPath_any _ _ i j _ _ _ _ HN.out HV.out hil hjl).mono ?_
          rw [h1]
          rintro e w2 ⟨rfl, hb2⟩
          have B2 := hb1.trans (hb2.mono hb1.size)
          clear hb1 hb2 h1
          go_wp2
          go_ret
          exact ⟨ret_bool HF1.out.symm, B2⟩
        | false =>
          have HF1 : Hid (lieB l s t = decide (j ∈ rp l i)) := by
            show _ = _
            rw [HF.out, h1]; rfl
          go_enter Tryz.func17, Tryz.ntmps17
          go_wp2_with fail
          refine (findTwo_any _ _ _ _ _ _ HW.out hl hlc hcm hn HV.out).mono ?_
          rintro e w1 ⟨g, nb, cv, rfl, hN, hb1⟩
          rw [HP.out nb, HQ.out nb]
          have HN := Lib.hid hN
          clear hN
          go_wp2_with fail
          refine (isOnPath_any _ _ i j _ _ _ _ HN.out HV.out hil hjl).mono ?_
          rw [h1]
          rintro e w2 ⟨rfl, hb2⟩
          have HN2 : Hid (Nodes w2 w.heap.size g l.length l.length l nb cv) := HN.out.below hb2
          have B2 := hb1.trans (hb2.mono hb1.size)
          clear hb1 hb2 h1
          go_wp2_with fail
          refine (isOnPath_any _ _ j i _ _ _ _ HN2.out HV.out hjl hil).mono ?_
          generalize hd : decide (j ∈ rp l i) = d
          have HD := Lib.hid hd
          clear hd
          rintro e w3 ⟨rfl, hb3⟩
          have B3 := B2.trans (hb3.mono B2.size)
          clear B2 hb3
          go_wp2
          go_ret
          exact ⟨ret_bool (by rw [HF1.out, HD.out]), B3⟩

end Go.Proofs.YtbmfbnlmdjnddaaGreat
/- The model's side of rooms: where segments begin and end. -/
namespace Go.Proofs.YtbmfbnlmdjnddaaGreat
open Go.RowKit

theorem run_add_op {P : Program} {ρ : Operand → Value} {o : Oper} {x y : Operand} {t u : TypeId} {A B C : Int} (ho : o.op = .binOp .add t x y u) (hx : ρ x = .int .i64 A) (hy : ρ y = .int .i64 B) (hC : IntKind.i64.wrap (A + B) = C) (w : World) :
    (execOp ρ o).run P w = .ok (.value (.int .i64 C)) w := by
  unfold execOp
  rw [ho]
  subst hC
  simp [hx, hy, go_sem]

end Go.Proofs.YtbmfbnlmdjnddaaGreat
/- The model's side of rooms: the whole room, what is saved, who lies together. -/
namespace Go.Proofs.YtbmfbnlmdjnddaaGreat
open Go.RowKit

theorem beq_str {a b : ByteArray} : (a.toList == b.toList) = decide (a = b) := by
  have h := sameB_iff (a := a) (b := b)
  unfold sameB at h
  by_cases he : a = b
  · rw [decide_eq_true he]; exact h.2 he
  · rw [decide_eq_false he]
    cases hh : (a.toList == b.toList) with
    | false => rfl
    | true => exact absurd (h.1 hh) he

set_option maxRecDepth 100000 in
set_option maxHeartbeats 400000 in
theorem specLie_any (A : Option Addr) (l : List Seg) (c : Nat) (s t : ByteArray) (w : World) (hw : Segs w w.heap.size A l) (hl : l.length ≤ 1048576) (hn : Short l) :
    Calls Tryz.prog 57 #[.slice A l.length c, .string s, .string t] w fun e w' => e = .returned (.bool (lieB l s t)) ∧ Below w.heap.size w w' := by
  have HW : Hid (Segs w w.heap.size A l) := hw
  clear hw
  by_cases hst : 0 ≤ indexB l s ∧ 0 ≤ indexB l t
  · have h1 : ((comStr l s t).toList == s.toList) = decide ((indexB l s).toNat ∈ pathIx l t) := by rw [beq_str, decide_eq_decide]; exact lie_left hst.1 hst.2
    have h2 : ((comStr l s t).toList == t.toList) = decide ((indexB l t).toNat ∈ pathIx l s) := by rw [beq_str, decide_eq_decide]; exact lie_right hst.1 hst.2
    have hO : comOk l s t = true := by
      unfold comOk hasSeg
      rw [decide_eq_true hst.1, decide_eq_true hst.2]
      rfl
    have HF : Hid (lieB l s t = (decide ((indexB l s).toNat ∈ pathIx l t) || decide ((indexB l t).toNat ∈ pathIx l s))) := by
      show lieB l s t = _
      unfold lieB
      rw [hO, Bool.true_and]
    clear hst
    have HO := Lib.hid hO
    clear hO
    generalize decide ((indexB l s).toNat ∈ pathIx l t) = p at *
    generalize decide ((indexB l t).toNat ∈ pathIx l s) = q at *
    cases p <;> cases q
    all_goals
      go_enter Tryz.func57, Tryz.ntmps57
      go_wp2_with fail
      refine (specCommon_any _ _ _ _ _ _ HW.out hl hn).mono ?_
      rw [HO.out]
      rintro e w1 ⟨rfl, hb1⟩
      go_wp2
      go_ret
      exact ⟨ret_bool HF.out.symm, hb1⟩
  · have hO : comOk l s t = false := by
      unfold comOk hasSeg
      by_cases h1 : 0 ≤ indexB l s
      · rw [decide_eq_false (p := 0 ≤ indexB l t) (fun h2 => hst ⟨h1, h2⟩), Bool.and_false]
      · rw [decide_eq_false h1, Bool.false_and]
    have HF : Hid (lieB l s t = false) := by
      show lieB l s t = _
      unfold lieB
      rw [hO, Bool.false_and]
    clear hst
    have HO := Lib.hid hO
    clear hO
    go_enter Tryz.func57, Tryz.ntmps57
    go_wp2_with fail
    refine (specCommon_any _ _ _ _ _ _ HW.out hl hn).mono ?_
    rw [HO.out]
    rintro e w1 ⟨rfl, hb1⟩
    go_wp2
    go_ret
    exact ⟨ret_bool HF.out.symm, hb1⟩

end Go.Proofs.YtbmfbnlmdjnddaaGreat
/- The kinds of calls: KindOf on both sides. -/
namespace Go.Proofs.YtbmfbnlmdjnddaaGreat
open Go.RowKit

/-- The kind of a call from the segment of one index to that of another. -/
def kindIx (l : List Seg) (i j : Nat) : Int := if j ∈ rp l i then 0 else if i ∈ rp l j then 1 else 2
set_option maxRecDepth 100000 in
set_option maxHeartbeats 400000 in
theorem kindOfCall_any (B g i j : Nat) (l : List Seg) (nb : Nat → Nat) (cv : Nat → Value) (w : World) (hN : Nodes w B g l.length l.length l nb cv) (hv : validB l = true) (hi : i < l.length) (hj : j < l.length) :
    Calls Tryz.prog 117 #[.pointer (some ⟨nb i, 0, none⟩), .pointer (some ⟨nb j, 0, none⟩)] w fun e w' => e = .returned (.int .i64 (kindIx l i j)) ∧ Below w.heap.size w w' := by
  have HN := Lib.hid hN
  have HV := Lib.hid hv
  have hF : kindIx l i j = if decide (j ∈ rp l i) = true then 0 else if decide (i ∈ rp l j) = true then 1 else 2 := by
    unfold kindIx
    simp only [decide_eq_true_eq]
  have HF := Lib.hid hF
  clear hF hN hv
  cases h1 : decide (j ∈ rp l i) with
  | true =>
    rw [h1] at HF
    go_enter Tryz.func117, Tryz.ntmps117
    go_wp2_with fail
    refine (isOnPath_any _ _ j i _ _ _ _ HN.out HV.out hj hi).mono ?_
    rw [h1]
    rintro e w1 ⟨rfl, hb1⟩
    clear h1
    go_wp2
    go_ret
    exact ⟨ret_int HF.out.symm, hb1⟩
  | false =>
    rw [h1] at HF
    cases h2 : decide (i ∈ rp l j) with
    | true =>
      rw [h2] at HF
      go_enter Tryz.func117, Tryz.ntmps117
      go_wp2_with fail
      refine (isOnPath_any _ _ j i _ _ _ _ HN.out HV.out hj hi).mono ?_
      rw [h1]
      rintro e w1 ⟨rfl, hb1⟩
      have HN1 := Lib.hid (HN.out.below hb1)
      clear h1
      go_wp2_with fail
      refine (isOnPath_any _ _ i j _ _ _ _ HN1.out HV.out hi hj).mono ?_
      rw [h2]
      rintro e w2 ⟨rfl, hb2⟩
      have HB2 := Lib.hid (hb1.trans (hb2.mono hb1.size))
      clear h2 hb1 hb2
      go_wp2
      go_ret
      exact ⟨ret_int HF.out.symm, HB2.out⟩
    | false =>
      rw [h2] at HF
      go_enter Tryz.func117, Tryz.ntmps117
      go_wp2_with fail
      refine (isOnPath_any _ _ j i _ _ _ _ HN.out HV.out hj hi).mono ?_
      rw [h1]
      rintro e w1 ⟨rfl, hb1⟩
      have HN1 := Lib.hid (HN.out.below hb1)
      clear h1
      go_wp2_with fail
      refine (isOnPath_any _ _ i j _ _ _ _ HN1.out HV.out hi hj).mono ?_
      rw [h2]
      rintro e w2 ⟨rfl, hb2⟩
      have HB2 := Lib.hid (hb1.trans (hb2.mono hb1.size))
      clear h2 hb1 hb2
      go_wp2
      go_ret
      exact ⟨ret_int HF.out.symm, HB2.out⟩

end Go.Proofs.YtbmfbnlmdjnddaaGreat
/- Traces, plain: the calls of a trace, how they are read, and what they tell. -/
namespace Go.Proofs.YtbmfbnlmdjnddaaGreat
open Go.RowKit

/-- Calls one behind the other: the first one's segment, the calls within it, and those behind it. -/
inductive Forest where
  | nil
  | cons (c : UInt8) (k r : Forest)

namespace Forest
def len : Forest → Nat
  | nil => 0
  | cons _ _ r => r.len + 1
def isNil : Forest → Bool
  | nil => true
  | cons _ _ _ => false
def app : Forest → Forest → Forest
  | nil, g => g
  | cons c k r, g => cons c k (r.app g)
theorem app_nil : ∀ f : Forest, f.app nil = f
  | nil => rfl
  | cons c k r => by show cons c k (r.app nil) = _; rw [app_nil r]
theorem app_assoc : ∀ f g h : Forest, (f.app g).app h = f.app (g.app h)
  | nil, _, _ => rfl
  | cons c k r, g, h => by show cons c k ((r.app g).app h) = _; rw [app_assoc r]; rfl
theorem app_len : ∀ f g : Forest, (f.app g).len = f.len + g.len
  | nil, g => by show g.len = 0 + g.len; omega
  | cons c k r, g => by show (r.app g).len + 1 = r.len + 1 + g.len; rw [app_len r]; omega
theorem isNil_len (f : Forest) : f.isNil = decide (f.len = 0) := by cases f <;> simp [isNil, len]
theorem snoc_isNil (f : Forest) (c : UInt8) (k : Forest) : (f.app (cons c k nil)).isNil = false := by cases f <;> rfl
/-- How many calls there are in all. -/
def size : Forest → Nat
  | nil => 0
  | cons _ k r => k.size + r.size + 1
theorem len_size : ∀ f : Forest, f.len ≤ f.size
  | nil => Nat.le_refl 0
  | cons _ k r => by have := len_size r; show r.len + 1 ≤ k.size + r.size + 1; omega
/-- How many lie within each other. -/
def deep : Forest → Nat
  | nil => 0
  | cons _ k r => max (k.deep + 1) r.deep
end Forest

/-- What was read, and the rest. -/
abbrev Got := Option (Forest × List UInt8)

/-- A closing parenthesis behind at least one call. -/
def closed : Got → Got
  | none => none
  | some (.nil, _) => none
  | some (.cons _ _ _, []) => none
  | some (.cons c k f, x :: r) => if x = 41 then some (.cons c k f, r) else none
/-- What comes behind a name. -/
def innerBy (rd : Nat → List UInt8 → Got) (d : Nat) : List UInt8 → Got
  | [] => some (.nil, [])
  | c :: r => if c = 40 then closed (rd d r) else some (.nil, c :: r)
def callBy (P : UInt8 → Bool) (rd : Nat → List UInt8 → Got) : Nat → UInt8 → List UInt8 → Got
  | 0, _, _ => none
  | d + 1, c, r => if P c = true then innerBy rd d r else none
/-- The calls behind a call. -/
def thenBy (c : UInt8) (more : List UInt8 → Got) : Got → Got
  | none => none
  | some (k, r) => match more r with
    | none => none
    | some (f, r2) => some (.cons c k f, r2)
/-- Calls up to the end or to a closing parenthesis, with so many levels left. -/
def rd (P : UInt8 → Bool) : Nat → Nat → List UInt8 → Got
  | 0, _, _ => none
  | _ + 1, _, [] => some (.nil, [])
  | n + 1, d, c :: r => if c = 41 then some (.nil, c :: r) else thenBy c (fun s => rd P n d s) (callBy P (fun e s => rd P n e s) d c r)

/-- No longer than it was. -/
def Less (g : Got) (n : Nat) : Prop := ∀ f r, g = some (f, r) → r.length ≤ n
theorem closed_less {g : Got} {n : Nat} (h : Less g (n + 1)) : Less (closed g) n := by
  intro f r e
  unfold closed at e
  split at e
  · cases e
  · cases e
  · cases e
  · next c k f' x r' =>
    split at e
    · injection e with e
      injection e with e1 e2
      subst e2
      have := h _ _ rfl
      simp at this
      omega
    · cases e
theorem Less.mono {g : Got} {n m : Nat} (h : Less g n) (hm : n ≤ m) : Less g m := fun f r e => Nat.le_trans (h f r e) hm
theorem innerBy_less {rd : Nat → List UInt8 → Got} {d : Nat} {s : List UInt8} (h : ∀ e r, r.length < s.length → Less (rd e r) r.length) : Less (innerBy rd d s) s.length := by
  unfold innerBy
  split
  · intro f r e
    injection e with e
    injection e with e1 e2
    subst e2
    exact Nat.le_refl _
  · next c r =>
    split
    · exact closed_less (((h d r (by simp)).mono (by simp; omega)))
    · intro f r' e
      injection e with e
      injection e with e1 e2
      subst e2
      exact Nat.le_refl _
theorem callBy_less {P : UInt8 → Bool} {rd : Nat → List UInt8 → Got} {d : Nat} {c : UInt8} {s : List UInt8} (h : ∀ e r, r.length < s.length → Less (rd e r) r.length) : Less (callBy P rd d c s) s.length := by
  unfold callBy
  split
  · intro f r e; cases e
  · split
    · exact innerBy_less h
    · intro f r e; cases e
theorem rd_less (P : UInt8 → Bool) : ∀ (n d : Nat) (s : List UInt8), Less (rd P n d s) s.length
  | 0, _, _ => fun f r e => by cases e
  | n + 1, d, [] => fun f r e => by
    injection e with e
    injection e with e1 e2
    subst e2
    exact Nat.le_refl _
  | n + 1, d, c :: s => fun f r e => by
    unfold rd at e
    split at e
    · injection e with e
      injection e with e1 e2
      subst e2
      exact Nat.le_refl _
    · have h1 : Less (callBy P (fun e s => rd P n e s) d c s) s.length := callBy_less fun e r _ => rd_less P n e r
      unfold thenBy at e
      split at e
      · cases e
      · next k r1 h2 =>
        have h3 := h1 _ _ h2
        split at e
        · cases e
        · next f' r2 h4 =>
          injection e with e
          injection e with e1 e2
          subst e2
          have := rd_less P n d r1 _ _ h4
          simp
          omega

theorem innerBy_congr {rd rd' : Nat → List UInt8 → Got} {d : Nat} {s : List UInt8} (h : ∀ e r, r.length < s.length → rd e r = rd' e r) : innerBy rd d s = innerBy rd' d s := by
  unfold innerBy
  split
  · rfl
  · next c r => rw [h d r (by simp)]
theorem callBy_congr {P : UInt8 → Bool} {rd rd' : Nat → List UInt8 → Got} {d : Nat} {c : UInt8} {s : List UInt8} (h : ∀ e r, r.length < s.length → rd e r = rd' e r) : callBy P rd d c s = callBy P rd' d c s := by
  unfold callBy
  split
  · rfl
  · rw [innerBy_congr h]
theorem thenBy_congr {c : UInt8} {m m' : List UInt8 → Got} {g : Got} {n : Nat} (hg : Less g n) (h : ∀ s, s.length ≤ n → m s = m' s) : thenBy c m g = thenBy c m' g := by
  unfold thenBy
  split
  · rfl
  · next k r => rw [h r (hg _ _ rfl)]
theorem rd_fuel (P : UInt8 → Bool) : ∀ (n m d : Nat) (s : List UInt8), s.length < n → s.length < m → rd P n d s = rd P m d s
  | 0, _, _, _, h, _ => absurd h (by omega)
  | _, 0, _, _, _, h => absurd h (by omega)
  | n + 1, m + 1, d, [], _, _ => rfl
  | n + 1, m + 1, d, c :: s, h, h' => by
    have hn : s.length < n := by simp at h; omega
    have hm : s.length < m := by simp at h'; omega
    show (if c = 41 then _ else _) = (if c = 41 then _ else _)
    split
    · rfl
    · have e1 : callBy P (fun e s => rd P n e s) d c s = callBy P (fun e s => rd P m e s) d c s := callBy_congr fun e r hr => rd_fuel P n m e r (by omega) (by omega)
      rw [← e1]
      exact thenBy_congr (callBy_less fun e r _ => rd_less P n e r) fun r hr => rd_fuel P n m d r (by omega) (by omega)

/-- The same without a bound on the steps. -/
def calls (P : UInt8 → Bool) (d : Nat) (s : List UInt8) : Got := rd P (s.length + 1) d s
def callA (P : UInt8 → Bool) (d : Nat) (c : UInt8) (r : List UInt8) : Got := callBy P (calls P) d c r
theorem calls_less (P : UInt8 → Bool) (d : Nat) (s : List UInt8) : Less (calls P d s) s.length := rd_less P _ d s
theorem callA_less (P : UInt8 → Bool) (d : Nat) (c : UInt8) (s : List UInt8) : Less (callA P d c s) s.length := callBy_less fun e r _ => calls_less P e r
theorem calls_nil (P : UInt8 → Bool) (d : Nat) : calls P d [] = some (.nil, []) := rfl
theorem calls_close (P : UInt8 → Bool) (d : Nat) (r : List UInt8) : calls P d (41 :: r) = some (.nil, 41 :: r) := rfl
theorem calls_cons (P : UInt8 → Bool) (d : Nat) {c : UInt8} (r : List UInt8) (h : c ≠ 41) : calls P d (c :: r) = thenBy c (calls P d) (callA P d c r) := by
  show (if c = 41 then _ else _) = _
  rw [if_neg h]
  have e1 : callBy P (fun e s => rd P (r.length + 1) e s) d c r = callA P d c r := callBy_congr fun e s hs => rd_fuel P _ _ e s (by omega) (by omega)
  show thenBy c _ (callBy P (fun e s => rd P (r.length + 1) e s) d c r) = _
  rw [e1]
  exact thenBy_congr (callA_less P d c r) fun s hs => rd_fuel P _ _ d s (by simp; omega) (by omega)
theorem callA_zero (P : UInt8 → Bool) (c : UInt8) (r : List UInt8) : callA P 0 c r = none := rfl
theorem callA_no {P : UInt8 → Bool} {d : Nat} {c : UInt8} {r : List UInt8} (h : P c = false) : callA P d c r = none := by
  unfold callA callBy
  split
  · rfl
  · rw [if_neg (by rw [h]; decide)]
theorem callA_leaf {P : UInt8 → Bool} {d : Nat} {c : UInt8} {r : List UInt8} (h : P c = true) (hr : ∀ x u, r = x :: u → x ≠ 40) : callA P (d + 1) c r = some (.nil, r) := by
  unfold callA callBy
  dsimp only
  rw [if_pos h]
  unfold innerBy
  split
  · rfl
  · next x u => rw [if_neg (hr x u rfl)]
theorem callA_open {P : UInt8 → Bool} {d : Nat} {c : UInt8} {r : List UInt8} (h : P c = true) : callA P (d + 1) c (40 :: r) = closed (calls P d r) := by
  unfold callA callBy
  dsimp only
  rw [if_pos h]
  rfl

/-- Calls ahead of what is read. -/
def ahead (f : Forest) : Got → Got
  | none => none
  | some (g, r) => some (f.app g, r)
theorem ahead_nil (g : Got) : ahead .nil g = g := by cases g <;> rfl
theorem ahead_ahead (f f' : Forest) (g : Got) : ahead f (ahead f' g) = ahead (f.app f') g := by
  cases g with
  | none => rfl
  | some x => show some (f.app (f'.app x.1), x.2) = _; rw [← Forest.app_assoc]; rfl
theorem thenBy_ahead (c : UInt8) (k : Forest) (r : List UInt8) (more : List UInt8 → Got) : thenBy c more (some (k, r)) = ahead (.cons c k .nil) (more r) := by
  unfold thenBy ahead
  dsimp only
  cases more r <;> rfl
/-- One more call is read: what is behind it. -/
theorem calls_step {P : UInt8 → Bool} {d : Nat} {c : UInt8} {r r1 : List UInt8} {k : Forest} (f : Forest) (hc : c ≠ 41) (h : callA P d c r = some (k, r1)) : ahead f (calls P d (c :: r)) = ahead (f.app (.cons c k .nil)) (calls P d r1) := by
  rw [calls_cons P d r hc, h, thenBy_ahead, ahead_ahead]
theorem calls_fail {P : UInt8 → Bool} {d : Nat} {c : UInt8} {r : List UInt8} (f : Forest) (hc : c ≠ 41) (h : callA P d c r = none) : ahead f (calls P d (c :: r)) = none := by
  rw [calls_cons P d r hc, h]; rfl

/-- The rest behind calls is empty or begins with a closing parenthesis. -/
theorem rd_rest (P : UInt8 → Bool) : ∀ (n d : Nat) (s : List UInt8) f r, rd P n d s = some (f, r) → r = [] ∨ ∃ u, r = 41 :: u
  | 0, _, _, _, _, e => by cases e
  | n + 1, d, [], f, r, e => by
    injection e with e
    injection e with e1 e2
    exact .inl e2.symm
  | n + 1, d, c :: s, f, r, e => by
    unfold rd at e
    split at e
    · next h =>
      injection e with e
      injection e with e1 e2
      subst h
      exact .inr ⟨s, e2.symm⟩
    · unfold thenBy at e
      split at e
      · cases e
      · next k r1 h2 =>
        split at e
        · cases e
        · next f' r2 h4 =>
          injection e with e
          injection e with e1 e2
          subst e2
          exact rd_rest P n d r1 _ _ h4
theorem calls_rest {P : UInt8 → Bool} {d : Nat} {s : List UInt8} {f : Forest} {r : List UInt8} (h : calls P d s = some (f, r)) : r = [] ∨ ∃ u, r = 41 :: u := rd_rest P _ d s f r h

/-- Which letters name a segment of a valid tree. -/
def callP (l : List Seg) (c : UInt8) : Bool := decide (0 ≤ indexB l ⟨#[c]⟩)
/-- The calls of a trace within a tree, if a text is one. -/
def traceB (l : List Seg) (t : List UInt8) : Option Forest :=
  if (validB l && decide (t.length ≤ 80)) = true then (match calls (callP l) 8 t with
    | some (f, []) => some f
    | _ => none) else none

theorem seekFrom_has (s : ByteArray) : ∀ (l : List Seg) (k : Nat), decide (0 ≤ seekFrom s l k) = takenB l s
  | [], k => by unfold seekFrom takenB; simp
  | x :: l, k => by
    have ih := seekFrom_has s l (k + 1)
    unfold seekFrom takenB
    rw [List.any_cons]
    by_cases h : sameB x.name s = true
    · rw [if_pos h, h, Bool.true_or]; exact decide_eq_true (by omega)
    · rw [if_neg h, Bool.eq_false_iff.2 h, Bool.false_or]
      exact ih
theorem callP_taken {l : List Seg} (hv : validB l = true) (c : UInt8) : callP l c = takenB l ⟨#[c]⟩ := by
  unfold callP indexB
  rw [if_pos hv]
  exact seekFrom_has _ l 0
theorem callP_bad {l : List Seg} (hv : validB l = false) (c : UInt8) : callP l c = false := by
  unfold callP indexB
  rw [if_neg (by rw [hv]; decide)]
  rfl
theorem validB_names {l : List Seg} (hv : validB l = true) {s : Seg} (hs : s ∈ l) : nameOk s.name = true := by
  unfold validB at hv
  simp only [Bool.and_eq_true, decide_eq_true_eq] at hv
  have h := allB_iff.1 hv.2
  have : l.take l.length = l := List.take_length
  exact mem_take_name h (by rw [this]; exact hs)
theorem callP_letter {l : List Seg} {c : UInt8} (h : callP l c = true) : 65 ≤ c.toNat ∧ c.toNat ≤ 72 := by
  cases hv : validB l with
  | false => rw [callP_bad hv] at h; cases h
  | true =>
    rw [callP_taken hv] at h
    unfold takenB at h
    obtain ⟨s, hs, he⟩ := List.any_eq_true.1 h
    obtain ⟨d, hd, h1, h2⟩ := nameOk_one (validB_names hv hs)
    have := sameB_iff.1 he
    rw [hd] at this
    injection this with this
    have h3 : [d] = [c] := congrArg Array.toList this
    injection h3 with h3
    subst h3
    exact ⟨h1, h2⟩
theorem callP_shut (l : List Seg) : callP l 41 = false := by
  cases h : callP l 41 with
  | false => rfl
  | true => have := (callP_letter h).1; revert this; decide

end Go.Proofs.YtbmfbnlmdjnddaaGreat
