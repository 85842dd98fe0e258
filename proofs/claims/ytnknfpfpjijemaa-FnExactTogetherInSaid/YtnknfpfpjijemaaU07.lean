/- Joined: Cm Qb Qe La Lb Ba. -/
import Derived.Test.YtnknfpfpjijemaaU06
import Derived.Maps.OwnIn
import Derived.LaidEqlPtr
import Derived.IntWalk
/- impl.CommonOf where both are found. -/
namespace Go.Proofs.Ytnknfpfpjijemaa
open Go.RowKit Go.Shelf
attribute [local go_sem] Oper.semAt_some

theorem row_grown {W W' : World} {b : Nat} {t : TypeId} {cs : Array Value} {row : Option Nat} (h : Row W b t cs) (hg : W.grownBy W' row) {B : Nat} (hr : ∀ r, row = some r → B ≤ r ∧ ∃ o : Obj, W.heap[r]? = some o ∧ o.isCells = false) : Row W' b t cs :=
  (hg.block b h.lt (fun he => by
    obtain ⟨_, o, ho, hc⟩ := hr b he.symm
    have h' : W.heap[b]? = some (.cells cs t (0, 0)) := h
    rw [h'] at ho
    injection ho with ho
    subst ho
    cases hc)).trans h
theorem keepsN_set {B : Nat} (W : World) (p : Addr) (v : Value) (hp : p.block < B) : KeepsN B W (W.setCell p v) :=
  ⟨by simp, fun k o hk ho _ => (Below.heap_setCell W p v k (by omega)).trans ho⟩
theorem keepsN_drew (B : Nat) (W : World) : KeepsN B W W.drew := ⟨Nat.le_refl _, fun _ _ _ h _ => h⟩

/-- What the loop keeps: the box of the answer, the box of the names. -/
structure Loop2 (w1 : World) (l : List Seg) (R : List Nat) (nm : ByteArray) (b2 : Nat) (T : List Nat) (W : World) : Prop where
  box : Row W w1.heap.size 9 #[.string (lastNm l T)]
  names : Row W b2 9 #[.string nm]
  below : Below w1.heap.size w1 W
  all : ∀ v ∈ T, v ∈ R
theorem Loop2.grown {w1 W W' : World} {l : List Seg} {R T : List Nat} {nm : ByteArray} {b2 B : Nat} {row : Option Nat} (h : Loop2 w1 l R nm b2 T W) (hg : W.grownBy W' row) (hB : w1.heap.size ≤ B) (hr : ∀ r, row = some r → B ≤ r ∧ ∃ o : Obj, W.heap[r]? = some o ∧ o.isCells = false) : Loop2 w1 l R nm b2 T W' :=
  ⟨row_grown h.box hg hr, row_grown h.names hg hr, h.below.grown hg h.below.size (fun k e => by have := (hr k e).1; omega), h.all⟩
theorem Loop2.drew {w1 W : World} {l : List Seg} {R T : List Nat} {nm : ByteArray} {b2 : Nat} (h : Loop2 w1 l R nm b2 T W) : Loop2 w1 l R nm b2 T W.drew := ⟨h.box, h.names, h.below.drew, h.all⟩
theorem Loop2.step {w1 W : World} {l : List Seg} {R T : List Nat} {nm a : ByteArray} {b2 : Nat} (h : Loop2 w1 l R nm b2 T W) (hb2 : w1.heap.size < b2) {v : Nat} (hv : v < l.length) (hR : v ∈ R) (ha : l[v].name = a) :
    Loop2 w1 l R nm b2 (T ++ [v]) (W.setCell ⟨w1.heap.size, 0, none⟩ (.string a)) := by
  refine ⟨?_, Row.far h.names (by show b2 ≠ w1.heap.size; omega) _, h.below.setCell (Nat.le_refl _) _, fun u hu => ?_⟩
  · have := Row.put h.box 0 (.string a)
    rw [lastNm_snoc T hv, ha]
    exact this
  · rcases List.mem_append.1 hu with hu | hu
    · exact h.all u hu
    · rw [List.mem_singleton.1 hu]; exact hR

end Go.Proofs.Ytnknfpfpjijemaa
/- A path gathered into a slice, and what is in it: the program's LieTogether. -/
namespace Go.Proofs.Ytnknfpfpjijemaa
open Go.RowKit Go.Shelf
attribute [local go_sem] Oper.semAt_some

theorem own_grown {W W' : World} {base n : Nat} {e : TypeId} {v : Value} {xs : List Value} {row : Option Nat} (h : W.ownsRow base e 1 v n xs) (hg : W.grownBy W' row) (hr : ∀ r, row = some r → ∃ o : Obj, W.heap[r]? = some o ∧ o.isCells = false) : W'.ownsRow base e 1 v n xs :=
  own_keep h fun g hb => hg.block g ((h.lt g hb).2) (fun he => by
    obtain ⟨o, ho, hc⟩ := hr g he.symm
    rcases h.2 with ⟨rfl, _⟩ | ⟨g', cap, cur, rfl, _, hh, _⟩
    · simp [Value.ownBlock] at hb
    · have : g' = g := by simpa [Value.ownBlock] using hb
      subst this
      rw [hh] at ho
      injection ho with ho
      subst ho
      cases hc)

/-- What is firm stays. -/
def Steady (W W' : World) : Prop := ∀ (k : Nat) (o : Obj), W.heap[k]? = some o → Firm o → W'.heap[k]? = some o

/-- One node's pointer is put behind those that were gathered: only a row of two cells or more is written in place. -/
theorem run_append_firm (w : World) (ty base n : Nat) (v : Value) (xs : List Value) (hown : w.ownsRow base 107 1 v n xs) (h0 : n = 0 → v = .slice none 0 0) (ad : Addr) (u : Value)
    (hnews : ∀ j y, [u][j]? = some y → w.cell? (ad.add j) = some y) (h1 : ∀ y ∈ [u], y.oneCell' = true) (hn : n ≤ 1000) (hbase : base ≤ w.heap.size) :
    ∃ g cap w', (Builtin.append_ #[125, 125] ty #[v, .slice (some ad) 1 1]).run Try.prog w = .ok (.slice (some ⟨g, 0, none⟩) (n + 1) cap) w' ∧
      w'.ownsRow base 107 1 (.slice (some ⟨g, 0, none⟩) (n + 1) cap) (n + 1) (xs ++ [u]) ∧ w.grownBy w' v.ownBlock ∧ Steady w w' := by
  obtain ⟨i0, hi, hz0, hz1, hz2⟩ := info_parts info_ptr
  obtain ⟨v', w', hr, h2, h3, -, -⟩ := run_append_own_at (P := Try.prog) w base 125 ty 107 i0 (.pointer none) 1 8 Try.underlying125 hi hz0 hz1 hz2 rfl (by decide) v n xs hown ad 1 1 [u] rfl hnews h1 (by unfold maxLen; omega) (by omega) hbase
  obtain ⟨g, cap, rfl⟩ := own_form h2 (by omega)
  refine ⟨g, cap, w', hr, h2, h3, ?_⟩
  rcases hown.2 with ⟨rfl, rfl⟩ | ⟨g', cap', cur, rfl, hbg, hg, hnc, hcm, hcs, htake⟩
  · have hr2 := run_append_nil (P := Try.prog) w 125 ty 107 i0 (.pointer none) Try.underlying125 hi hz0 ad 1 1 [u] (by rw [hz1]; rfl) hnews (by decide) (by decide) (by rw [hz2]; decide)
    rw [hr] at hr2
    injection hr2 with _ hw
    subst hw
    exact fun k o hk _ => (Below.heap_alloc w.drew _ k (Array.getElem?_eq_some_iff.1 hk).1).trans hk
  · by_cases hc : n + 1 ≤ cap'
    · refine fun k o hk hf => (h3.block k (Array.getElem?_eq_some_iff.1 hk).1 (fun he => ?_)).trans hk
      have he' : k = g' := by simpa [Value.ownBlock] using he
      subst he'
      rw [hg] at hk
      injection hk with hk
      have := (hf cur _ _ hk.symm).2.resolve_right (by decide)
      have hn1 : 0 < n := Nat.pos_of_ne_zero fun e => by have := h0 e; cases this
      omega
    · obtain ⟨v2, w2, hr2, -, hg2⟩ := run_append_arg_grows (P := Try.prog) w 125 ty 107 i0 (.pointer none) 1 8 Try.underlying125 hi hz0 hz1 hz2 rfl (by decide) ⟨g', 0, none⟩ n cap' xs hown.1
        (fun j y hj => by
          have h5 : w.cell? ⟨g', 0 + j, none⟩ = some y := by
            rw [Nat.zero_add, hown.cellAt j (by have := (List.getElem?_eq_some_iff.1 hj).1; have := hown.1; omega)]
            exact hj
          rw [WideShapes.add_plain]
          exact h5) ad 1 1 [u] rfl hnews (by omega) (by unfold maxLen; omega) (by omega)
      rw [hr] at hr2
      injection hr2 with _ hw
      subst hw
      exact fun k o hk _ => (hg2.block k (Array.getElem?_eq_some_iff.1 hk).1 (fun he => by cases he)).trans hk

theorem wpListIn_append_firm {F : Fence} {nF : Nat} {w : World} {ops : Array Oper} {rest : List Oper} {o : Oper} {a : Act} {Q : Exit → Act → World → Prop} (hgd : o.guard = none) (s x : Operand)
    (ho : o.op = .call { callee := .builtin .append, args := #[s, x], argTypes := #[125, 125] })
    (base n : Nat) (v : Value) (xs : List Value) (hs : a.eval s = v) (hown : w.ownsRow base 107 1 v n xs) (h0 : n = 0 → v = .slice none 0 0) (ad : Addr) (u : Value) (hx : a.eval x = .slice (some ad) 1 1)
    (hnews : ∀ j y, [u][j]? = some y → w.cell? (ad.add j) = some y) (h1 : ∀ y ∈ [u], y.oneCell' = true) (hn : n ≤ 1000) (hbase : base ≤ w.heap.size)
    (h : ∀ g cap w', w'.ownsRow base 107 1 (.slice (some ⟨g, 0, none⟩) (n + 1) cap) (n + 1) (xs ++ [u]) → w.grownBy w' v.ownBlock → Steady w w' → wpListIn F nF Try.prog ops Q rest (a.put o.dst (.slice (some ⟨g, 0, none⟩) (n + 1) cap)) w') :
    wpListIn F nF Try.prog ops Q (o :: rest) a w := by
  refine wpListIn_plain hgd fun K hK => ?_
  obtain ⟨g, cap, w', hr, h2, h3, h4⟩ := run_append_firm w o.type base n v xs hown h0 ad u hnews h1 hn hbase
  unfold Oper.wpIn
  refine ⟨by simp [Oper.about, ho, resolve, Target.leads, Sem.run_pure], ?_⟩
  rw [Oper.semAt_plain F _ _ (by rw [ho]; intro c hc'; cases hc')]
  simp [execOp, ho, resolve, invoke, builtin, hs, hx, hr, Result.andThen]
  exact hK _ _ (h g cap w' h2 h3 h4)

/-- What was gathered: the box holds a slice of the call's own. -/
structure Gath (w : World) (nb : Nat → Nat) (T : List Nat) (W : World) : Prop where
  ex : ∃ v, Row W w.heap.size 125 #[v] ∧ W.ownsRow (w.heap.size + 1) 107 1 v T.length (ptrsOf nb T) ∧ (T.length = 0 → v = .slice none 0 0)
  below : Below w.heap.size w W
theorem Gath.grown {w W W' : World} {nb : Nat → Nat} {T : List Nat} {B : Nat} {row : Option Nat} (h : Gath w nb T W) (hg : W.grownBy W' row) (hB : w.heap.size ≤ B) (hr : ∀ r, row = some r → B ≤ r ∧ ∃ o : Obj, W.heap[r]? = some o ∧ o.isCells = false) : Gath w nb T W' := by
  obtain ⟨⟨v, h1, h2, h3⟩, hb⟩ := h
  exact ⟨⟨v, row_grown h1 hg hr, own_grown h2 hg (fun r e => (hr r e).2), h3⟩, hb.grown hg hb.size (fun k e => by have := (hr k e).1; omega)⟩

set_option maxRecDepth 100000 in
set_option maxHeartbeats 2000000 in
theorem appendSeq_any {gf : Nat} {lb : Array Value} (w : World) (l : List Seg) (nb : Nat → Nat) (S Sp : List (Ix l) → Prop) (N : Nat) (hN : N ≤ 1000) (heg : ∀ args w, (callFunc gf args).run Try.prog w = .ok (.enter gf args) w)
    (hseq : SeqR 19 gf lb (fun x : Ix l => #[.pointer (some ⟨nb x.1, 0, none⟩)]) w.heap.size (w.heap.size + 3) S Sp N w) :
    Calls Try.prog 120 #[.slice none 0 0, .func (.func gf) #[] lb] w fun e w' => (∃ xs v, S xs ∧ e = .returned v ∧ w'.ownsRow (w.heap.size + 1) 107 1 v xs.length (ptrsOf nb (xs.map (·.1)))) ∧ Below w.heap.size w w' := by
  refine (callsIn_wide (n := 20)).1 ?_
  refine callsIn_of_wp_marks Try.func120 rfl trivial ?_ rfl
  simp only [Try.ntmps120, List.size_toArray, List.length_cons, List.length_nil, Nat.reduceAdd, Nat.reduceSub, Array.replicate_succ, Array.replicate_zero, List.push_toArray, List.append_toArray, List.nil_append, List.cons_append]
  gi_wp2
  have hB0 : Below w.heap.size w (w.alloc (.cells #[.slice none 0 0] 125)) := (Below.refl _ w).alloc (Nat.le_refl _) _
  have hI0 : Gath w nb [] (w.alloc (.cells #[.slice none 0 0] 125)) := ⟨⟨.slice none 0 0, Row.new _ _ _, World.ownsRow_nil _ _ _ _, fun _ => rfl⟩, hB0⟩
  refine wpIn_rangeFunc_R (by omega) (gf := gf) (lb := lb) rfl heg hseq (by simp) (by simp) hB0 (fun _ => rfl)
    (fun pre W => Gath w nb (pre.map (fun y : Ix l => y.1)) W)
    (fun _ _ _ => False)
    (fun _ _ _ _ h hg hr => h.grown hg (by simp) hr)
    (fun _ _ _ _ _ hs _ _ => hs)
    hI0
    (fun x => { tmps := #[.slice none 0 0, .func (.func gf) #[] lb, .pointer (some ⟨w.heap.size, 0, none⟩), undef, .slice none 0 0, .pointer (some ⟨nb x.1, 0, none⟩), .func (.func gf) #[] lb, .pointer (some ⟨nb x.1, 0, none⟩), undef, undef, undef, undef, undef], defers := [] }) ?assign ?body ?done ?stop
  case assign =>
    intro l x W K hK
    gi_wp2
    exact hK
  case body =>
    rintro l' pre x W ⟨⟨v, hrow, hown, hv0⟩, hB⟩ hlen hz
    have c1 : W.cell? ⟨w.heap.size, 0, none⟩ = some v := hrow.cell 0
    have hz' : w.heap.size + 3 ≤ W.heap.size := by simpa using hz
    have HR := Lib.hid hrow
    have HO := Lib.hid hown
    have HV := Lib.hid hv0
    have HB := Lib.hid hB
    clear hrow hown hv0 hB hz
    have hbx : w.heap.size < W.heap.size := by omega
    gi_wp2_with (gi_at_builtin; refine wpListIn_append_firm rfl _ _ rfl (w.heap.size + 1) _ _ _ rfl (own_grown HO.out (World.grownBy_alloc W _ none) (fun r e => by cases e)) HV.out ⟨W.heap.size, 0, none⟩ (.pointer (some ⟨nb x.1, 0, none⟩)) rfl (cell_one_new _ _ _) (by simp [Value.oneCell']) (by simp; omega) (by simp; omega) ?_; intro g cap w1 hown1 hgrow hst; have hrow1 : Row w1 w.heap.size 125 #[v] := (hgrow.block _ (HR.out.alloc _).lt (fun he => own_ne HO.out HR.out (by decide) he.symm)).trans (HR.out.alloc _); have d1 : w1.cell? ⟨w.heap.size, 0, none⟩ = some v := hrow1.cell 0; have z1 : w1.frozen? ⟨w.heap.size, 0, none⟩ = false := hrow1.free 0; have HR1 := Lib.hid hrow1; have HO1 := Lib.hid hown1; have HS := Lib.hid hst; have HG := Lib.hid hgrow; clear hrow1 hown1 hst hgrow)
    have hsz : W.heap.size + 1 ≤ w1.heap.size := by have := HG.out.size; simpa using this
    have e1 : (pre ++ [x]).map (fun y : Ix l => y.1) = pre.map (fun y : Ix l => y.1) ++ [x.1] := by simp
    have e2 : ptrsOf nb (pre.map (fun y : Ix l => y.1) ++ [x.1]) = ptrsOf nb (pre.map (fun y : Ix l => y.1)) ++ [.pointer (some ⟨nb x.1, 0, none⟩)] := by simp [ptrsOf, ptrTo]
    refine ⟨⟨by simp; omega, fun k o hk ho hf => ?_⟩, ?_, ⟨⟨_, HR1.out.put 0 _, ?_, ?_⟩, ?_⟩⟩
    · have hk' : w.heap.size + 1 ≤ k := by simp at hk; omega
      have h1 := HS.out k o ((Below.heap_alloc W _ k (Array.getElem?_eq_some_iff.1 ho).1).trans ho) hf
      exact (Below.heap_setCell w1 _ _ k (by show k ≠ w.heap.size; omega)).trans h1
    · exact (((Below.refl w.heap.size W).alloc (by omega) _).grown HG.out (by simp; omega) (fun k e => by have := (HO.out.lt k e).1; omega)).setCell (Nat.le_refl _) _
    · have h5 := HO1.out
      rw [List.length_map] at h5
      rw [e1, e2, List.length_append, List.length_map]
      exact own_set h5 HR1.out (by decide) 0 _
    · rw [e1, List.length_append]
      intro h; simp at h
    · exact (((HB.out.alloc HB.out.size _)).grown HG.out (by simp; omega) (fun k e => by have := (HO.out.lt k e).1; omega)).setCell (Nat.le_refl _) _
  case done =>
    rintro D ys W hD hS hI hK
    obtain ⟨⟨v, hrow, hown, -⟩, hB⟩ := hI
    have c1 : W.cell? ⟨w.heap.size, 0, none⟩ = some v := hrow.cell 0
    rw [List.length_map] at hown
    have HO := Lib.hid hown
    have HB := Lib.hid hB
    clear hrow hown hB
    gi_wp2
    refine ⟨by simp, .inl ⟨_, _, rfl, run_takeDeferred hK, ?_⟩⟩
    refine ⟨_, results_tmp rfl _ _ _, ⟨ys, v, hS, rfl, ?_⟩, HB.out.trans (belowK_b (w := w) (Nat.le_refl _) W D _ _ (by simp at hD; omega) hK rfl rfl)⟩
    exact own_grown HO.out (grownBy_putObj' W D _) (fun r e => by cases e; exact ⟨_, hK, rfl⟩)
  case stop =>
    rintro D c pre W _ _ h _
    exact h.elim

set_option maxRecDepth 100000 in
set_option maxHeartbeats 400000 in
theorem collect_any {gf : Nat} {lb : Array Value} (w : World) (l : List Seg) (nb : Nat → Nat) (S Sp : List (Ix l) → Prop) (N : Nat) (hN : N ≤ 1000) (heg : ∀ args w, (callFunc gf args).run Try.prog w = .ok (.enter gf args) w)
    (hseq : SeqR 19 gf lb (fun x : Ix l => #[.pointer (some ⟨nb x.1, 0, none⟩)]) w.heap.size (w.heap.size + 3) S Sp N w) :
    Calls Try.prog 104 #[.func (.func gf) #[] lb] w fun e w' => (∃ xs v, S xs ∧ e = .returned v ∧ w'.ownsRow (w.heap.size + 1) 107 1 v xs.length (ptrsOf nb (xs.map (·.1)))) ∧ Below w.heap.size w w' := by
  have HC := Lib.hid (appendSeq_any w l nb S Sp N hN heg hseq)
  clear hseq heg
  go_enter Try.func104, Try.ntmps104
  go_wp2_with fail
  refine HC.out.mono ?_
  rintro e w1 ⟨⟨xs, v, hS, rfl, hown⟩, hb⟩
  have HO := Lib.hid hown
  clear hown
  go_wp2
  go_ret
  exact ⟨⟨xs, v, hS, rfl, HO.out⟩, hb⟩

/-- What Index says. -/
def FoundAt (js : List Nat) (i : Nat) (w : World) (e : Ending) (w' : World) : Prop := ∃ r : Int, e = .returned (.int .i64 r) ∧ (0 ≤ r ↔ i ∈ js) ∧ (0 ≤ r → js[r.toNat]? = some i) ∧ w = w'

set_option maxRecDepth 100000 in
set_option maxHeartbeats 1000000 in
theorem index_any (g cap base : Nat) (js : List Nat) (nb : Nat → Nat) (i : Nat) (w : World) (hown : w.ownsRow base 107 1 (.slice (some ⟨g, 0, none⟩) js.length cap) js.length (ptrsOf nb js)) (hjl : js.length ≤ 1000)
    (hnode : ∀ j, j = i ∨ j ∈ js → ∃ c, Row w (nb j) 150 c) (hinj : ∀ j ∈ js, nb i = nb j → i = j) :
    Calls Try.prog 119 #[.slice (some ⟨g, 0, none⟩) js.length cap, .pointer (some ⟨nb i, 0, none⟩)] w (FoundAt js i w) := by
  have HO := Lib.hid hown
  have HN := Lib.hid hnode
  have HI := Lib.hid hinj
  obtain ⟨i0, hi0, hsz0⟩ := Option.map_eq_some_iff.1 (show (Try.prog.info? 150).map (fun i => i.size) = some 4 by kernel_rfl)
  have I0 := Lib.hid hi0
  have I1 := Lib.hid hsz0
  clear hown hnode hinj hi0 hsz0
  go_enter Try.func119, Try.ntmps119
  go_wp2
  go_loop [8] (fun c => ∃ k : Nat, k ≤ js.length ∧ c = .int .i64 k ∧ Hid (∀ m, m < k → js[m]? ≠ some i)) (fun c => js.length - (intOf c).toNat)
  case atStart => exact ⟨0, Nat.zero_le _, rfl, fun m hm => absurd hm (by omega)⟩
  case round =>
    obtain ⟨k, hk, rfl, HM⟩ := hrel
    by_cases hlt : k < js.length
    · have hc : w.cell? ⟨g, k, none⟩ = some (.pointer (some ⟨nb js[k], 0, none⟩)) := by
        rw [HO.out.cellAt k (by omega)]
        simp [ptrsOf, ptrTo, hlt]
      have HK : Hid (js[k]? = some js[k]) := List.getElem?_eq_getElem hlt
      have HMem : Hid (js[k] ∈ js) := List.getElem_mem hlt
      generalize js[k] = j at *
      by_cases hij : i = j
      · subst hij
        have hq := fun W : World => run_eql_ptr_same (P := Try.prog) W ⟨nb i, 0, none⟩ Try.underlying107 I0.out
        go_wp2
        go_ret
        exact ⟨k, rfl, ⟨fun _ => HMem.out, fun _ => by omega⟩, fun _ => HK.out, rfl⟩
      · obtain ⟨c1, r1⟩ := HN.out i (.inl rfl)
        obtain ⟨c2, r2⟩ := HN.out j (.inr HMem.out)
        have hne : nb i ≠ nb j := fun e => hij (HI.out j HMem.out e)
        have hq := run_eql_ptr_other (P := Try.prog) w (a := ⟨nb i, 0, none⟩) (b := ⟨nb j, 0, none⟩) Try.underlying107 I0.out (by rw [I1.out]; decide) (fun e => hne (by injection e)) r1 r2
        have HM1 : Hid (∀ m, m < k + 1 → js[m]? ≠ some i) := fun m hm => by
          rcases Nat.lt_or_ge m k with h1 | h1
          · exact HM.out m h1
          · obtain rfl : m = k := by omega
            rw [HK.out]
            intro e
            injection e with e
            exact hij e.symm
        clear r1 r2 hij hne
        go_wp2
        go_round
        case rel => exact ⟨k + 1, by omega, by go_num, HM1⟩
        case measure => simp [intOf]; omega
    · obtain rfl : k = js.length := by omega
      go_wp2
      go_ret
      refine ⟨-1, rfl, ⟨fun h => absurd h (by decide), fun h => ?_⟩, fun h => absurd h (by decide), rfl⟩
      obtain ⟨m, hm, he⟩ := List.getElem_of_mem h
      exact absurd (by rw [List.getElem?_eq_getElem hm, he]) (HM.out m hm)

set_option maxRecDepth 100000 in
set_option maxHeartbeats 1000000 in
theorem contains_any (g cap base : Nat) (js : List Nat) (nb : Nat → Nat) (i : Nat) (w : World) (hown : w.ownsRow base 107 1 (.slice (some ⟨g, 0, none⟩) js.length cap) js.length (ptrsOf nb js)) (hjl : js.length ≤ 1000)
    (hnode : ∀ j, j = i ∨ j ∈ js → ∃ c, Row w (nb j) 150 c) (hinj : ∀ j ∈ js, nb i = nb j → i = j) :
    Calls Try.prog 103 #[.slice (some ⟨g, 0, none⟩) js.length cap, .pointer (some ⟨nb i, 0, none⟩)] w fun e w' => e = .returned (.bool (decide (i ∈ js))) ∧ w = w' := by
  have HC := Lib.hid (index_any g cap base js nb i w hown hjl hnode hinj)
  clear hown hnode hinj
  generalize hd : decide (i ∈ js) = d
  have HD := Lib.hid hd
  clear hd
  go_enter Try.func103, Try.ntmps103
  go_wp2_with fail
  refine HC.out.mono ?_
  rintro e w1 ⟨r, rfl, hr, -, rfl⟩
  have HR : Hid (decide (0 ≤ r) = d) := by
    show _ = _
    rw [← HD.out]
    exact decide_eq_decide.2 hr
  clear hr
  go_wp2
  go_ret
  exact ⟨ret_bool (by rw [← HR.out]), rfl⟩

set_option maxRecDepth 100000 in
set_option maxHeartbeats 1000000 in
theorem isOnPath_any (B g i j : Nat) (l : List Seg) (nb : Nat → Nat) (cv : Nat → Value) (w : World) (hN : Nodes w B g l.length l.length l nb cv) (hv : validB l = true) (hi : i < l.length) (hj : j < l.length) :
    Calls Try.prog 84 #[.pointer (some ⟨nb i, 0, none⟩), .pointer (some ⟨nb j, 0, none⟩)] w fun e w' => e = .returned (.bool (decide (i ∈ rp l j))) ∧ Below w.heap.size w w' := by
  have hL := valid_all hv
  have hR : (rootPath l (j + 1) j).length ≤ j + 1 := rootPath_len l (j + 1) j
  have hrow : Row (w.alloc (.cells #[.pointer (some ⟨nb j, 0, none⟩)] 107)) w.heap.size 107 #[.pointer (some ⟨nb j, 0, none⟩)] := Row.new _ _ _
  have hlk : Linked (w.alloc (.cells #[.pointer (some ⟨nb j, 0, none⟩)] 107)) (w.alloc (.cells #[.pointer (some ⟨nb j, 0, none⟩)] 107)).heap.size l nb := fun k hk => by
    have h1 := (hN.node k _ hk (List.getElem?_eq_getElem hk)).alloc (.cells #[.pointer (some ⟨nb j, 0, none⟩)] 107)
    exact ⟨h1.lt, h1.cell 2⟩
  have hseq := path1_seq l nb (w.alloc (.cells #[.pointer (some ⟨nb j, 0, none⟩)] 107)).heap.size ((w.alloc (.cells #[.pointer (some ⟨nb j, 0, none⟩)] 107)).heap.size + 3) 1000 hL.1.down (j + 1) j (by omega) hj 19 w.heap.size _
    ⟨.inl (by simp), by decide, hrow⟩ hlk (Nat.le_refl _) (by have := hL.2.1; omega) (by have := hL.2.1; omega)
  have HC := Lib.hid (collect_any _ l nb _ _ 1000 (Nat.le_refl _) (enters_of Try.func121 (by kernel_rfl) rfl) hseq)
  have HN := Lib.hid hN
  have HZ : Hid (0 < (rp l j).length ∧ (rp l j).length ≤ 1000 ∧ ∀ k ∈ rp l j, k < l.length) := ⟨by
    obtain ⟨A, hA⟩ := rp_last hL.1.down j hj
    rw [hA, List.length_append]
    simp, by
    have : (rp l j).length ≤ j + 1 := hR
    have := hL.2.1
    omega, rootPath_lt hL.1.down (j + 1) j hj⟩
  clear hseq hlk hrow hR hN hL hv
  go_enter Try.func84, Try.ntmps84
  go_wp2_with fail
  refine (path_any _ _).mono ?_
  rintro e w1 ⟨rfl, rfl⟩
  go_wp2_with fail
  refine HC.out.mono ?_
  rintro e w2 ⟨⟨xs, v, hS, rfl, hown⟩, hb2⟩
  have hB2 : Below w.heap.size w w2 := ((Below.refl _ w).alloc (Nat.le_refl _) _).trans (hb2.mono (by simp))
  have hS' : xs.map (fun y : Ix l => y.1) = rp l j := hS
  have hlx : xs.length = (rp l j).length := by rw [← hS', List.length_map]
  rw [hlx, hS'] at hown
  obtain ⟨g2, cap2, rfl⟩ := own_form hown HZ.out.1
  have HO2 := Lib.hid hown
  have HN2 : Hid (Nodes w2 B g l.length l.length l nb cv) := HN.out.below hB2
  have HB := Lib.hid hB2
  clear hown hS hS' hlx hb2 hB2 HC
  go_wp2_with fail
  refine (contains_any _ _ _ (rp l j) nb i _ HO2.out HZ.out.2.1 (fun k hk => ?_) (fun k hk he => ?_)).mono ?_
  · have hkl : k < l.length := hk.elim (fun e => e ▸ hi) (fun h => HZ.out.2.2 k h)
    exact ⟨_, HN2.out.node k _ hkl (List.getElem?_eq_getElem hkl)⟩
  · exact Classical.byContradiction fun hne => HN2.out.apart i k hi (HZ.out.2.2 k hk) hne he
  · rintro e w3 ⟨rfl, rfl⟩
    go_wp2
    go_ret
    exact ⟨rfl, HB.out⟩

end Go.Proofs.Ytnknfpfpjijemaa
/- The program's LieTogether. -/
namespace Go.Proofs.Ytnknfpfpjijemaa
open Go.RowKit

set_option maxRecDepth 100000 in
set_option maxHeartbeats 1000000 in
theorem lieTogether_any (A : Option Addr) (l : List Seg) (c : Nat) (s t : ByteArray) (w : World) (hw : Segs w w.heap.size A l) (hl : l.length ≤ 1048576) (hlc : l.length ≤ c) (hcm : c ≤ 9223372036854775807) (hn : Short l) :
    Calls Try.prog 60 #[.slice A l.length c, .string s, .string t] w fun e w' => e = .returned (.bool (lieB l s t)) ∧ Below w.heap.size w w' := by
  have HW : Hid (Segs w w.heap.size A l) := hw
  clear hw
  cases hv : validB l with
  | false =>
    have HF : Hid (lieB l s t = false) := by
      have h1 : indexB l s = -1 := if_neg (by rw [hv]; decide)
      show lieB l s t = false
      unfold lieB comOk hasSeg
      rw [decide_eq_false (p := 0 ≤ indexB l s) (by omega)]
      rfl
    go_enter Try.func60, Try.ntmps60
    go_wp2_with fail
    refine (findTwo_bad _ _ _ _ _ _ HW.out hl hlc hcm hn hv).mono ?_
    rintro e w1 ⟨rfl, hb1⟩
    go_wp2
    go_ret
    exact ⟨ret_bool HF.out.symm, hb1⟩
  | true =>
    have hi1 : indexB l s = seek l s := if_pos hv
    have hi2 : indexB l t = seek l t := if_pos hv
    by_cases h1 : seek l s < 0
    · have HF : Hid (lieB l s t = false) := by
        show lieB l s t = false
        unfold lieB comOk hasSeg
        rw [decide_eq_false (p := 0 ≤ indexB l s) (by omega)]
        rfl
      have HP : Hid (∀ nb, foundPtr l nb s = none) := fun nb => if_pos h1
      clear h1 hi1 hi2
      go_enter Try.func60, Try.ntmps60
      go_wp2_with fail
      refine (findTwo_any _ _ _ _ _ _ HW.out hl hlc hcm hn hv).mono ?_
      rintro e w1 ⟨g, nb, cv, rfl, hN, hb1⟩
      rw [HP.out nb]
      clear hN
      go_wp2
      all_goals go_ret
      all_goals exact ⟨ret_bool HF.out.symm, hb1⟩
    · by_cases h2 : seek l t < 0
      · have HF : Hid (lieB l s t = false) := by
          show lieB l s t = false
          unfold lieB comOk hasSeg
          rw [decide_eq_false (p := 0 ≤ indexB l t) (by omega), Bool.and_false]
          rfl
        have HP : Hid (∀ nb, foundPtr l nb t = none) := fun nb => if_pos h2
        have HQ : Hid (∀ nb, foundPtr l nb s = some ⟨nb (seek l s).toNat, 0, none⟩) := fun nb => if_neg h1
        clear h1 h2 hi1 hi2
        go_enter Try.func60, Try.ntmps60
        go_wp2_with fail
        refine (findTwo_any _ _ _ _ _ _ HW.out hl hlc hcm hn hv).mono ?_
        rintro e w1 ⟨g, nb, cv, rfl, hN, hb1⟩
        rw [HP.out nb, HQ.out nb]
        clear hN
        go_wp2
        all_goals go_ret
        all_goals exact ⟨ret_bool HF.out.symm, hb1⟩
      · have HP : Hid (∀ nb, foundPtr l nb t = some ⟨nb (seek l t).toNat, 0, none⟩) := fun nb => if_neg h2
        have HQ : Hid (∀ nb, foundPtr l nb s = some ⟨nb (seek l s).toNat, 0, none⟩) := fun nb => if_neg h1
        have hF : lieB l s t = (decide ((seek l s).toNat ∈ rp l (seek l t).toNat) || decide ((seek l t).toNat ∈ rp l (seek l s).toNat)) := by
          unfold lieB comOk hasSeg
          rw [decide_eq_true (p := 0 ≤ indexB l s) (by omega), decide_eq_true (p := 0 ≤ indexB l t) (by omega)]
          unfold pathIx
          rw [hi1, hi2]
          rfl
        have hil : (seek l s).toNat < l.length := by rcases seek_bd l s with a | ⟨_, a⟩ <;> omega
        have hjl : (seek l t).toNat < l.length := by rcases seek_bd l t with a | ⟨_, a⟩ <;> omega
        have HF := Lib.hid hF
        have HV := Lib.hid hv
        clear h1 h2 hi1 hi2 hF hv
        generalize (seek l s).toNat = i at *
        generalize (seek l t).toNat = j at *
        cases h1 : decide (i ∈ rp l j) with
        | true =>
          have HF1 : Hid (lieB l s t = true) := by
            show _ = _
            rw [HF.out, h1]; rfl
          go_enter Try.func60, Try.ntmps60
          go_wp2_with fail
          refine (findTwo_any _ _ _ _ _ _ HW.out hl hlc hcm hn HV.out).mono ?_
          rintro e w1 ⟨g, nb, cv, rfl, hN, hb1⟩
          rw [HP.out nb, HQ.out nb]
          have HN := Lib.hid hN
          clear hN
          go_wp2_with fail
          refine (isOnPath_any _ _ i j _ _ _ _ HN.out HV.out hil hjl).mono ?_
          rw [h1]
          rintro e w2 ⟨rfl, hb2⟩
          have B2 := hb1.trans (hb2.mono hb1.size)
          clear hb1 hb2 h1
          go_wp2
          go_ret
          exact ⟨ret_bool HF1.out.symm, B2⟩
        | false =>
          have HF1 : Hid (lieB l s t = decide (j ∈ rp l i)) := by
            show _ = _
            rw [HF.out, h1]; rfl
          go_enter Try.func60, Try.ntmps60
          go_wp2_with fail
          refine (findTwo_any _ _ _ _ _ _ HW.out hl hlc hcm hn HV.out).mono ?_
          rintro e w1 ⟨g, nb, cv, rfl, hN, hb1⟩
          rw [HP.out nb, HQ.out nb]
          have HN := Lib.hid hN
          clear hN
          go_wp2_with fail
          refine (isOnPath_any _ _ i j _ _ _ _ HN.out HV.out hil hjl).mono ?_
          rw [h1]
          rintro e w2 ⟨rfl, hb2⟩
          have HN2 : Hid (Nodes w2 w.heap.size g l.length l.length l nb cv) := HN.out.below hb2
          have B2 := hb1.trans (hb2.mono hb1.size)
          clear hb1 hb2 h1
          go_wp2_with fail
          refine (isOnPath_any _ _ j i _ _ _ _ HN2.out HV.out hjl hil).mono ?_
          generalize hd : decide (j ∈ rp l i) = d
          have HD := Lib.hid hd
          clear hd
          rintro e w3 ⟨rfl, hb3⟩
          have B3 := B2.trans (hb3.mono B2.size)
          clear B2 hb3
          go_wp2
          go_ret
          exact ⟨ret_bool (by rw [HF1.out, HD.out]), B3⟩

end Go.Proofs.Ytnknfpfpjijemaa
/- The model's side of rooms: where segments begin and end. -/
namespace Go.Proofs.Ytnknfpfpjijemaa
open Go.RowKit

theorem szsNot_take {l : List Seg} {i : Nat} {js : List Nat} {k : Nat} (hk : k < js.length) : szsNot l i (js.take (k + 1)) = szsNot l i (js.take k) + if js[k] = i then 0 else sizeAt l js[k] := by
  rw [List.take_succ_eq_append_getElem hk, szsNot_append]
  simp [szsNot]

theorem run_add_op {P : Program} {ρ : Operand → Value} {o : Oper} {x y : Operand} {t u : TypeId} {A B C : Int} (ho : o.op = .binOp .add t x y u) (hx : ρ x = .int .i64 A) (hy : ρ y = .int .i64 B) (hC : IntKind.i64.wrap (A + B) = C) (w : World) :
    (execOp ρ o).run P w = .ok (.value (.int .i64 C)) w := by
  unfold execOp
  rw [ho]
  subst hC
  simp [hx, hy, go_sem]

end Go.Proofs.Ytnknfpfpjijemaa
/- The model's side of rooms: the whole room, what is saved, who lies together. -/
namespace Go.Proofs.Ytnknfpfpjijemaa
open Go.RowKit

theorem beq_str {a b : ByteArray} : (a.toList == b.toList) = decide (a = b) := by
  have h := sameB_iff (a := a) (b := b)
  unfold sameB at h
  by_cases he : a = b
  · rw [decide_eq_true he]; exact h.2 he
  · rw [decide_eq_false he]
    cases hh : (a.toList == b.toList) with
    | false => rfl
    | true => exact absurd (h.1 hh) he

set_option maxRecDepth 100000 in
set_option maxHeartbeats 400000 in
theorem specLie_any (A : Option Addr) (l : List Seg) (c : Nat) (s t : ByteArray) (w : World) (hw : Segs w w.heap.size A l) (hl : l.length ≤ 1048576) (hn : Short l) :
    Calls Try.prog 57 #[.slice A l.length c, .string s, .string t] w fun e w' => e = .returned (.bool (lieB l s t)) ∧ Below w.heap.size w w' := by
  have HW : Hid (Segs w w.heap.size A l) := hw
  clear hw
  by_cases hst : 0 ≤ indexB l s ∧ 0 ≤ indexB l t
  · have h1 : ((comStr l s t).toList == s.toList) = decide ((indexB l s).toNat ∈ pathIx l t) := by rw [beq_str, decide_eq_decide]; exact lie_left hst.1 hst.2
    have h2 : ((comStr l s t).toList == t.toList) = decide ((indexB l t).toNat ∈ pathIx l s) := by rw [beq_str, decide_eq_decide]; exact lie_right hst.1 hst.2
    have hO : comOk l s t = true := by
      unfold comOk hasSeg
      rw [decide_eq_true hst.1, decide_eq_true hst.2]
      rfl
    have HF : Hid (lieB l s t = (decide ((indexB l s).toNat ∈ pathIx l t) || decide ((indexB l t).toNat ∈ pathIx l s))) := by
      show lieB l s t = _
      unfold lieB
      rw [hO, Bool.true_and]
    clear hst
    have HO := Lib.hid hO
    clear hO
    generalize decide ((indexB l s).toNat ∈ pathIx l t) = p at *
    generalize decide ((indexB l t).toNat ∈ pathIx l s) = q at *
    cases p <;> cases q
    all_goals
      go_enter Try.func57, Try.ntmps57
      go_wp2_with fail
      refine (specCommon_any _ _ _ _ _ _ HW.out hl hn).mono ?_
      rw [HO.out]
      rintro e w1 ⟨rfl, hb1⟩
      go_wp2
      go_ret
      exact ⟨ret_bool HF.out.symm, hb1⟩
  · have hO : comOk l s t = false := by
      unfold comOk hasSeg
      by_cases h1 : 0 ≤ indexB l s
      · rw [decide_eq_false (p := 0 ≤ indexB l t) (fun h2 => hst ⟨h1, h2⟩), Bool.and_false]
      · rw [decide_eq_false h1, Bool.false_and]
    have HF : Hid (lieB l s t = false) := by
      show lieB l s t = _
      unfold lieB
      rw [hO, Bool.false_and]
    clear hst
    have HO := Lib.hid hO
    clear hO
    go_enter Try.func57, Try.ntmps57
    go_wp2_with fail
    refine (specCommon_any _ _ _ _ _ _ HW.out hl hn).mono ?_
    rw [HO.out]
    rintro e w1 ⟨rfl, hb1⟩
    go_wp2
    go_ret
    exact ⟨ret_bool HF.out.symm, hb1⟩

end Go.Proofs.Ytnknfpfpjijemaa
/- The kinds of calls: KindOf on both sides. -/
namespace Go.Proofs.Ytnknfpfpjijemaa
open Go.RowKit

/-- The kind of a call from the segment of one index to that of another. -/
def kindIx (l : List Seg) (i j : Nat) : Int := if j ∈ rp l i then 0 else if i ∈ rp l j then 1 else 2
def kindB (l : List Seg) (s t : ByteArray) : Int := if comOk l s t = true then kindIx l (indexB l s).toNat (indexB l t).toNat else -1
theorem kindIx_bd (l : List Seg) (i j : Nat) : 0 ≤ kindIx l i j ∧ kindIx l i j ≤ 2 := by
  unfold kindIx
  split
  · omega
  · split <;> omega

end Go.Proofs.Ytnknfpfpjijemaa
