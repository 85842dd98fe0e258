/- Joined: Yd. -/
import Derived.Test.YtcaegpjbdcopoaaU28
import Derived.Test.YtcaegpjbdcopoaaU15
/- The program's steps, gathered: StepsOf. -/
namespace Go.Proofs.Ytcaegpjbdcopoaa
open Go.RowKit Go.Shelf
attribute [local go_sem] Oper.semAt_some

/-- Steps in a row of the call's own, or nil. -/
def OwnSs (w : World) (B : Nat) (v : Value) (ss : List Stp) : Prop := w.ownsRow B 35 3 v ss.length (stpCells ss)
theorem OwnSs.far {w w' : World} {B : Nat} {v : Value} {ss : List Stp} (h : OwnSs w B v ss) (hk : ∀ g, v.ownBlock = some g → w'.heap[g]? = w.heap[g]?) : OwnSs w' B v ss := by
  refine ⟨h.1, ?_⟩
  rcases h.2 with h0 | ⟨g', cap, cur, rfl, hg, hh, r⟩
  · exact .inl h0
  · exact .inr ⟨g', cap, cur, rfl, hg, (hk g' rfl).trans hh, r⟩
theorem OwnSs.below {w w' : World} {B : Nat} {v : Value} {ss : List Stp} (h : OwnSs w B v ss) (hb : Below w.heap.size w w') : OwnSs w' B v ss := h.far fun g hg => hb.block g (World.ownsRow.lt h g hg).2
theorem OwnSs.base {w : World} {B B' : Nat} {v : Value} {ss : List Stp} (h : OwnSs w B v ss) (hB : B' ≤ B) : OwnSs w B' v ss := own_low h hB
theorem OwnSs.grownS {W W' : World} {B : Nat} {v : Value} {ss : List Stp} {row : Option Nat} (h : OwnSs W B v ss) (hg : W.grownBy W' row) (hr : ∀ r, row = some r → RowS W r) : OwnSs W' B v ss := by
  refine ⟨h.1, ?_⟩
  rcases h.2 with h0 | ⟨g', cap, cur, rfl, hgb, hh, r⟩
  · exact .inl h0
  · exact .inr ⟨g', cap, cur, rfl, hgb, (hg.block g' (Array.getElem?_eq_some_iff.1 hh).1 (fun e => (hr g' e.symm).ne hh (by decide) rfl)).trans hh, r⟩
theorem OwnSs.ne {W : World} {B b : Nat} {v : Value} {ss : List Stp} {t : TypeId} {cs : Array Value} (h : OwnSs W B v ss) (hr : Row W b t cs) (hne : 35 ≠ t) : v.ownBlock ≠ some b := fun e => by
  rcases h.2 with ⟨rfl, _⟩ | ⟨g', cap, cur, rfl, _, hh, _⟩
  · simp [Value.ownBlock] at e
  · have : g' = b := by simpa [Value.ownBlock] using e
    subst this
    unfold Row at hr
    rw [hh] at hr
    injection hr with hr
    injection hr with _ ht
    exact hne ht
/-- One step is put behind those that were gathered: only a row of steps is written in place. -/
theorem run_append_firmS (w : World) (ty base n : Nat) (v : Value) (ss : List Stp) (hn' : n = ss.length) (hown : OwnSs w base v ss) (h0 : n = 0 → v = .slice none 0 0) (ad : Addr) (s : Stp)
    (hnews : ∀ j y, (stpCells [s])[j]? = some y → w.cell? (ad.add j) = some y) (hn : n ≤ 1000) (hbase : base ≤ w.heap.size) :
    ∃ g cap w', (Builtin.append_ #[26, 26] ty #[v, .slice (some ad) 1 1]).run Try.prog w = .ok (.slice (some ⟨g, 0, none⟩) (n + 1) cap) w' ∧
      OwnSs w' base (.slice (some ⟨g, 0, none⟩) (n + 1) cap) (ss ++ [s]) ∧ w.grownBy w' v.ownBlock ∧ SteadyT w w' := by
  obtain ⟨i0, hi, hz0, hz1, hz2⟩ := info_parts info_step
  have hown0 : w.ownsRow base 35 3 v n (stpCells ss) := by rw [hn']; exact hown
  obtain ⟨v', w', hr, h2, h3, -, -⟩ := run_append_own_at (P := Try.prog) w base 26 ty 35 i0 zeroStep 3 48 Try.underlying26 hi hz0 hz1 hz2 rfl (by decide) v n (stpCells ss) hown0 ad 1 1 (stpCells [s]) rfl hnews (stpCells_cell [s]) (by unfold maxLen; omega) (by omega) hbase
  obtain ⟨g, cap, rfl⟩ : ∃ g cap, v' = .slice (some ⟨g, 0, none⟩) (n + 1) cap := by
    rcases h2.2 with ⟨_, h⟩ | ⟨g, cap, cur, h, _⟩
    · omega
    · exact ⟨g, cap, h⟩
  refine ⟨g, cap, w', hr, ?_, h3, ?_⟩
  · unfold OwnSs
    rw [stpCells_app, List.length_append, ← hn']
    exact h2
  · rcases hown0.2 with ⟨rfl, rfl⟩ | ⟨g', cap', cur, rfl, hbg, hg, hnc, hcm, hcs, htake⟩
    · have hr2 := run_append_nil (P := Try.prog) w 26 ty 35 i0 zeroStep Try.underlying26 hi hz0 ad 1 1 (stpCells [s]) (by rw [hz1]; rfl) hnews (by decide) (by decide) (by rw [hz2]; decide)
      rw [hr] at hr2
      injection hr2 with _ hw
      subst hw
      exact fun k o hk _ => (Below.heap_alloc w.drew _ k (Array.getElem?_eq_some_iff.1 hk).1).trans hk
    · by_cases hc : n + 1 ≤ cap'
      · refine fun k o hk hf => (h3.block k (Array.getElem?_eq_some_iff.1 hk).1 (fun he => ?_)).trans hk
        have he' : k = g' := by simpa [Value.ownBlock] using he
        subst he'
        rw [hg] at hk
        injection hk with hk
        have := (hf cur _ _ hk.symm).2.resolve_right (by decide)
        have hn1 : 0 < n := Nat.pos_of_ne_zero fun e => by have := h0 e; cases this
        omega
      · obtain ⟨v2, w2, hr2, -, hg2⟩ := run_append_arg_grows (P := Try.prog) w 26 ty 35 i0 zeroStep 3 48 Try.underlying26 hi hz0 hz1 hz2 rfl (by decide) ⟨g', 0, none⟩ n cap' (stpCells ss) hown0.1
          (fun j y hj => by
            have h5 : w.cell? ⟨g', 0 + j, none⟩ = some y := by
              rw [Nat.zero_add, World.ownsRow.cellAt hown0 j (by have := (List.getElem?_eq_some_iff.1 hj).1; have := hown0.1; omega)]
              exact hj
            rw [WideShapes.add_plain]
            exact h5) ad 1 1 (stpCells [s]) rfl hnews (by omega) (by unfold maxLen; omega) (by omega)
        rw [hr] at hr2
        injection hr2 with _ hw
        subst hw
        exact fun k o hk _ => (hg2.block k (Array.getElem?_eq_some_iff.1 hk).1 (fun he => by cases he)).trans hk

theorem wpListIn_append_firmS {F : Fence} {nF : Nat} {w : World} {ops : Array Oper} {rest : List Oper} {o : Oper} {a : Act} {Q : Exit → Act → World → Prop} (hgd : o.guard = none) (s x : Operand)
    (ho : o.op = .call { callee := .builtin .append, args := #[s, x], argTypes := #[26, 26] })
    (base n : Nat) (v : Value) (ss : List Stp) (hs : a.eval s = v) (hn' : n = ss.length) (hown : OwnSs w base v ss) (h0 : n = 0 → v = .slice none 0 0) (ad : Addr) (u : Stp) (hx : a.eval x = .slice (some ad) 1 1)
    (hnews : ∀ j y, (stpCells [u])[j]? = some y → w.cell? (ad.add j) = some y) (hn : n ≤ 1000) (hbase : base ≤ w.heap.size)
    (h : ∀ g cap w', OwnSs w' base (.slice (some ⟨g, 0, none⟩) (n + 1) cap) (ss ++ [u]) → w.grownBy w' v.ownBlock → SteadyT w w' → wpListIn F nF Try.prog ops Q rest (a.put o.dst (.slice (some ⟨g, 0, none⟩) (n + 1) cap)) w') :
    wpListIn F nF Try.prog ops Q (o :: rest) a w := by
  refine wpListIn_plain hgd fun K hK => ?_
  obtain ⟨g, cap, w', hr, h2, h3, h4⟩ := run_append_firmS w o.type base n v ss hn' hown h0 ad u hnews hn hbase
  unfold Oper.wpIn
  refine ⟨by simp [Oper.about, ho, resolve, Target.leads, Sem.run_pure], ?_⟩
  rw [Oper.semAt_plain F _ _ (by rw [ho]; intro c hc'; cases hc')]
  simp [execOp, ho, resolve, invoke, builtin, hs, hx, hr, Result.andThen]
  exact hK _ _ (h g cap w' h2 h3 h4)

def stpsF (ys : List (Stp × Bool)) : List Stp := (ys.map fixS).map (·.1)
theorem stpsF_snoc (ys : List (Stp × Bool)) (x : Stp × Bool) : stpsF (ys ++ [x]) = stpsF ys ++ [(fixS x).1] := by simp [stpsF]
theorem stpsF_len (ys : List (Stp × Bool)) : (stpsF ys).length = ys.length := by simp [stpsF]
/-- What was gathered: the box holds a slice of the call's own. -/
structure GathS (w : World) (ss : List Stp) (W : World) : Prop where
  ex : ∃ v, Row W w.heap.size 26 #[v] ∧ OwnSs W (w.heap.size + 1) v ss ∧ (ss.length = 0 → v = .slice none 0 0)
  below : Below w.heap.size w W
theorem GathS.grownS {w W W' : World} {ss : List Stp} {B : Nat} {row : Option Nat} (h : GathS w ss W) (hg : W.grownBy W' row) (hB : w.heap.size ≤ B) (hr : ∀ r, row = some r → B ≤ r ∧ RowS W r) : GathS w ss W' := by
  obtain ⟨⟨v, h1, h2, h3⟩, hb⟩ := h
  exact ⟨⟨v, row_grownS h1 hg (fun r e => (hr r e).2) (by decide), h2.grownS hg (fun r e => (hr r e).2), h3⟩, hb.grown hg hb.size (fun k e => by have := (hr k e).1; omega)⟩

def StepsPostI (w : World) (l : List Seg) (t : ByteArray) (e : Ending) (w' : World) : Prop :=
  ∃ v, e = .returned (.tuple #[v, .bool (traceB l t.data.toList).isSome]) ∧ OwnSs w' w.heap.size v ((runRes l t).map (·.1)) ∧ Below w.heap.size w w'

set_option maxRecDepth 100000 in
set_option maxHeartbeats 2000000 in
theorem stepsOf_any (A : Option Addr) (l : List Seg) (c : Nat) (t : ByteArray) (w : World) (hw : Segs w w.heap.size A l) (hl : l.length ≤ 1048576) (hlc : l.length ≤ c) (hcm : c ≤ 9223372036854775807) (hn : Short l) (ht : t.size ≤ 1048576) :
    Calls Try.prog 11 #[.slice A l.length c, .string t] w (StepsPostI w l t) := by
  have HQ := Lib.hid (runOf_any A l c t w hw hl hlc hcm hn ht)
  unfold StepsPostI
  cases hR : traceB l t.data.toList with
  | none =>
    rw [hR] at HQ
    rw [runRes_none hR]
    have HE : Hid (∀ W : World, Below w.heap.size w W → ∃ v, Ending.returned (.tuple #[.slice none 0 0, .bool false]) = .returned (.tuple #[v, .bool (none : Option Forest).isSome]) ∧ OwnSs W w.heap.size v (([] : List (Stp × Bool)).map (·.1)) ∧ Below w.heap.size w W) :=
      fun W hb => ⟨_, rfl, World.ownsRow_nil W _ _ 3, hb⟩
    clear hw hn hR
    go_enter Try.func11, Try.ntmps11
    go_wp2_with fail
    refine Calls.mono HQ.out ?_
    rintro e w2 (⟨-, rfl, hb⟩ | ⟨f, _, _, _, _, _, _, _, _, h0, _⟩)
    · go_wp2
      go_ret2
      exact HE.out _ hb
    · cases h0
  | some f =>
    obtain ⟨hv, h80, hcl⟩ := traceB_some hR
    have hsz := traceB_size hR
    have hall := traceB_all hR
    have HFX := Lib.hid (fixS_run hv hall)
    have HSQ := Lib.hid (fun (w : World) B g nb cv Bn Bc v (h1 : Nodes w B g l.length l.length l nb cv) h2 h3 h4 W D hW => run_seq w (Bn := Bn) (Bc := Bc) (v := v) hv hall hsz.1 hsz.2 h1 h2 h3 h4 W D hW)
    rw [hR] at HQ
    rw [runRes_some hR]
    have HE : Hid (∀ (v : Value) (W : World) (B : Nat), OwnSs W B v (stpsF (runF l f)) → w.heap.size ≤ B → Below w.heap.size w W → ∃ u, Ending.returned (.tuple #[v, .bool true]) = .returned (.tuple #[u, .bool (some f).isSome]) ∧ OwnSs W w.heap.size u ((runF l f).map (·.1)) ∧ Below w.heap.size w W) := fun v W B h1 h2 h3 => ⟨v, rfl, by unfold stpsF at h1; rw [HFX.out] at h1; exact h1.base h2, h3⟩
    clear hw hn hR h80 hcl hv hall
    refine (callsIn_wide (n := 20)).1 ?_
    refine callsIn_of_wp_marks Try.func11 rfl trivial ?_ rfl
    simp only [Try.ntmps11, List.size_toArray, List.length_cons, List.length_nil, Nat.reduceAdd, Nat.reduceSub, Array.replicate_succ, Array.replicate_zero, List.push_toArray, List.append_toArray, List.nil_append, List.cons_append]
    gi_wp2_with fail
    refine ⟨trivial, ?_⟩
    gi_at_call 41
    refine (callsIn_wide.2 HQ.out).mono ?_
    rintro e w2 (⟨h0, -, -⟩ | ⟨f', B, g, nb, cv, Bn, Bc, A2, cap2, hf', rfl, hN, hrn, hrc, hsl, hb⟩)
    · cases h0
    · obtain rfl : f = f' := by injection hf'
      have HB := Lib.hid hb
      have HS := Lib.hid (fun W D hW => HSQ.out w2 B g nb cv Bn Bc _ hN hrn hrc hsl W D hW)
      clear hN hrn hrc hsl hb hf' HQ HSQ
      gi_wp2
      have hB0 : Below w2.heap.size w2 (w2.alloc (.cells #[.slice none 0 0] 26)) := (Below.refl _ w2).alloc (Nat.le_refl _) _
      have hI0 : GathS w2 (stpsF []) (w2.alloc (.cells #[.slice none 0 0] 26)) := ⟨⟨.slice none 0 0, Row.new _ _ _, World.ownsRow_nil _ _ _ 3, fun _ => rfl⟩, hB0⟩
      have hseq := HS.out (w2.alloc (.cells #[.slice none 0 0] 26)) (w2.heap.size + 1) hB0
      have hz0 : (w2.alloc (.cells #[.slice none 0 0] 26)).heap.size = w2.heap.size + 1 := by simp
      generalize w2.alloc (.cells #[.slice none 0 0] 26) = W0 at *
      refine wpIn_rangeFunc_SH (by omega) (gf := 90) (lb := #[.pointer (some ⟨Bn, 0, none⟩), .pointer (some ⟨Bc, 0, none⟩)]) rfl (enters_of Try.func90 (by kernel_rfl) rfl) hseq (by omega) (by omega) (Below.refl _ _) (fun _ => rfl)
        (fun ys X => GathS w2 (stpsF ys) X)
        (fun _ _ _ => False)
        (fun s X Y row hs hg hr => hs.grownS hg (by omega) hr)
        (fun _ _ _ _ _ hs _ _ => hs)
        hI0
        (fun x q => { tmps := #[.slice A l.length c, .string t, undef, undef, .slice none 0 0, .bool false, .func (.func 90) #[] #[.pointer (some ⟨Bn, 0, none⟩), .pointer (some ⟨Bc, 0, none⟩)], .bool true, .pointer (some ⟨w2.heap.size, 0, none⟩), .pointer (some ⟨q, 0, none⟩), .tuple #[.func (.func 90) #[] #[.pointer (some ⟨Bn, 0, none⟩), .pointer (some ⟨Bc, 0, none⟩)], .bool true], .slice A l.length c, .string t, .tuple #[.func (.func 90) #[] #[.pointer (some ⟨Bn, 0, none⟩), .pointer (some ⟨Bc, 0, none⟩)], .bool true], .func (.func 90) #[] #[.pointer (some ⟨Bn, 0, none⟩), .pointer (some ⟨Bc, 0, none⟩)], .bool true, .bool true, .bool false, .func (.func 90) #[] #[.pointer (some ⟨Bn, 0, none⟩), .pointer (some ⟨Bc, 0, none⟩)], .agg #[.string (fixS x).1.nm, .string (fixS x).1.ld, .string (fixS x).1.st], .bool (fixS x).2, undef, undef, undef, undef, undef], defers := [] })
        (fun x => .cells #[.string (fixS x).1.nm, .string (fixS x).1.ld, .string (fixS x).1.st] 35) ?assign ?body ?done ?stop
      case assign =>
        intro l2 x X K hK
        unfold encS
        gi_wp2
        exact hK
      case body =>
        rintro l2 ys x q X ⟨⟨v, hrow, hown, hv0⟩, hB⟩ hlen hz hqz hq
        have e2 := stpsF_snoc ys x
        have hsl := stpsF_len ys
        have hqr : Row X q 35 #[.string (fixS x).1.nm, .string (fixS x).1.ld, .string (fixS x).1.st] := hq
        have c1 : X.cell? ⟨w2.heap.size, 0, none⟩ = some v := hrow.cell 0
        have q0 := hqr.cell 0
        have q1 := hqr.cell 1
        have q2 := hqr.cell 2
        simp at q0 q1 q2
        have HR := Lib.hid hrow
        have HO := Lib.hid hown
        have HV := Lib.hid hv0
        have HB9 := Lib.hid hB
        have HE2 := Lib.hid e2
        have hbx : w2.heap.size < X.heap.size := hrow.lt
        clear hrow hown hv0 hB hq hqr e2
        generalize hys : stpsF ys = ss at *
        generalize (fixS x) = y at *
        obtain ⟨s, bb⟩ := y
        dsimp only at q0 q1 q2 HE2 ⊢
        have hss : ss.length ≤ 1000 := by omega
        have HYS := Lib.hid hys
        clear hys hsl
        gi_wp2_with (gi_at_builtin; refine wpListIn_append_firmS rfl _ _ rfl (w2.heap.size + 1) ss.length v ss rfl rfl (HO.out.below ((Below.refl _ X).alloc (Nat.le_refl _) _)) HV.out ⟨X.heap.size, 0, none⟩ s rfl (step_new X s) hss (by simp; omega) ?_; intro g9 cap9 w9 hown9 hgrow9 hst9; have hrow9 : Row w9 w2.heap.size 26 #[v] := (hgrow9.block _ (HR.out.alloc _).lt (fun he => OwnSs.ne HO.out HR.out (by decide) he.symm)).trans (HR.out.alloc _); have d1 : w9.cell? ⟨w2.heap.size, 0, none⟩ = some v := hrow9.cell 0; have z1 : w9.frozen? ⟨w2.heap.size, 0, none⟩ = false := hrow9.free 0; have HR9 := Lib.hid hrow9; have HO9 := Lib.hid hown9; have HS9 := Lib.hid hst9; have HG9 := Lib.hid hgrow9; clear hrow9 hown9 hst9 hgrow9)
        have hsz9 : X.heap.size + 1 ≤ w9.heap.size := by have := HG9.out.size; simpa using this
        refine ⟨⟨by simp; omega, fun k o hk ho hf => ?_⟩, ?_, ⟨⟨_, HR9.out.put 0 _, ?_, ?_⟩, ?_⟩⟩
        · have hk' : w2.heap.size + 1 ≤ k := by rw [Nat.min_eq_right (by omega)] at hk; exact hk
          have h1 := HS9.out k o ((Below.heap_alloc X _ k (Array.getElem?_eq_some_iff.1 ho).1).trans ho) hf
          exact (Below.heap_setCell w9 _ _ k (by show k ≠ w2.heap.size; omega)).trans h1
        · exact (((Below.refl w2.heap.size X).alloc (by omega) _).grown HG9.out (by simp; omega) (fun k e => by have := (World.ownsRow.lt HO.out k e).1; omega)).setCell (Nat.le_refl _) _
        · have h5 := HO9.out
          have h6 : OwnSs (w9.setCell ⟨w2.heap.size, 0, none⟩ (.slice (some ⟨g9, 0, none⟩) (ss.length + 1) cap9)) (w2.heap.size + 1) (.slice (some ⟨g9, 0, none⟩) (ss.length + 1) cap9) (ss ++ [s]) := h5.far fun g hg => Below.heap_setCell w9 _ _ g (by
            have := (World.ownsRow.lt h5 g hg).1
            show g ≠ w2.heap.size
            omega)
          rw [HE2.out]
          exact h6
        · rw [HE2.out]
          intro h; simp at h
        · exact (((HB9.out.alloc HB9.out.size _)).grown HG9.out (by simp; omega) (fun k e => by have := (World.ownsRow.lt HO.out k e).1; omega)).setCell (Nat.le_refl _) _
      case done =>
        rintro L ys X hL rfl ⟨⟨v, hrow, hown, -⟩, hB⟩ hK
        have c1 : X.cell? ⟨w2.heap.size, 0, none⟩ = some v := hrow.cell 0
        have HO := Lib.hid hown
        have HB9 := Lib.hid hB
        clear hrow hown hB hseq
        gi_wp2
        refine ⟨by simp, .inl ⟨_, _, rfl, run_takeDeferred hK, ?_⟩⟩
        refine ⟨_, results_tmp2 rfl _ _ _, ?_⟩
        refine HE.out _ _ (w2.heap.size + 1) (HO.out.grownS (grownBy_putObj' X L _) (fun r e => by cases e; exact ⟨_, hK, .inl rfl⟩)) (by have := HB.out.size; omega) ((HB.out.trans (HB9.out.mono HB.out.size)).trans (belowK_b (w := w) (Nat.le_refl _) X L _ _ (by have := HB.out.size; omega) hK rfl rfl))
      case stop =>
        rintro L c' pre X _ _ h _
        exact h.elim

end Go.Proofs.Ytcaegpjbdcopoaa
