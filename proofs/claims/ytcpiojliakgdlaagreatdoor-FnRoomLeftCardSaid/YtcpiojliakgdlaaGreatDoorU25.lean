/- Joined: Fz. -/
import Derived.Test.YtcpiojliakgdlaaGreatDoorU24
import Derived.Test.YtcpiojliakgdlaaGreatDoorU21
import Derived.Maps.OwnIn
import Derived.Maps.AppendAt
import Derived.Deep.AppendLies
/- Chains gathered into a slice: the program's ChainsOf and CountCalls. -/
namespace Go.Proofs.YtcpiojliakgdlaaGreatDoor
open Go.RowKit Go.Shelf
attribute [local go_sem] Oper.semAt_some

def txt (x : List UInt8) : Value := .string (strOf x)
theorem row_grownT {W W' : World} {b : Nat} {t : TypeId} {cs : Array Value} {row : Option Nat} (h : Row W b t cs) (hg : W.grownBy W' row) {B : Nat} (hr : ∀ r, row = some r → B ≤ r ∧ ∃ o : Obj, W.heap[r]? = some o ∧ o.isCells = false) : Row W' b t cs :=
  (hg.block b h.lt (fun he => by
    obtain ⟨_, o, ho, hc⟩ := hr b he.symm
    have h' : W.heap[b]? = some (.cells cs t (0, 0)) := h
    rw [h'] at ho
    injection ho with ho
    subst ho
    cases hc)).trans h
theorem own_grownT {W W' : World} {base n : Nat} {e : TypeId} {v : Value} {xs : List Value} {row : Option Nat} (h : W.ownsRow base e 1 v n xs) (hg : W.grownBy W' row) (hr : ∀ r, row = some r → ∃ o : Obj, W.heap[r]? = some o ∧ o.isCells = false) : W'.ownsRow base e 1 v n xs :=
  own_keep h fun g hb => hg.block g ((h.lt g hb).2) (fun he => by
    obtain ⟨o, ho, hc⟩ := hr g he.symm
    rcases h.2 with ⟨rfl, _⟩ | ⟨g', cap, cur, rfl, _, hh, _⟩
    · simp [Value.ownBlock] at hb
    · have : g' = g := by simpa [Value.ownBlock] using hb
      subst this
      rw [hh] at ho
      injection ho with ho
      subst ho
      cases hc)

/-- What is firm stays. -/
def SteadyT (W W' : World) : Prop := ∀ (k : Nat) (o : Obj), W.heap[k]? = some o → Firm o → W'.heap[k]? = some o

/-- One node's pointer is put behind those that were gathered: only a row of two cells or more is written in place. -/
theorem run_append_firmT (w : World) (ty base n : Nat) (v : Value) (xs : List Value) (hown : w.ownsRow base 9 1 v n xs) (h0 : n = 0 → v = .slice none 0 0) (ad : Addr) (u : Value)
    (hnews : ∀ j y, [u][j]? = some y → w.cell? (ad.add j) = some y) (h1 : ∀ y ∈ [u], y.oneCell' = true) (hn : n ≤ 1000) (hbase : base ≤ w.heap.size) :
    ∃ g cap w', (Builtin.append_ #[66, 66] ty #[v, .slice (some ad) 1 1]).run Tryz.prog w = .ok (.slice (some ⟨g, 0, none⟩) (n + 1) cap) w' ∧
      w'.ownsRow base 9 1 (.slice (some ⟨g, 0, none⟩) (n + 1) cap) (n + 1) (xs ++ [u]) ∧ w.grownBy w' v.ownBlock ∧ SteadyT w w' := by
  obtain ⟨i0, hi, hz0, hz1, hz2⟩ := info_parts info_str
  obtain ⟨v', w', hr, h2, h3, -, -⟩ := run_append_own_at (P := Tryz.prog) w base 66 ty 9 i0 (.string ByteArray.empty) 1 16 Tryz.underlying66 hi hz0 hz1 hz2 rfl (by decide) v n xs hown ad 1 1 [u] rfl hnews h1 (by unfold maxLen; omega) (by omega) hbase
  obtain ⟨g, cap, rfl⟩ := own_form h2 (by omega)
  refine ⟨g, cap, w', hr, h2, h3, ?_⟩
  rcases hown.2 with ⟨rfl, rfl⟩ | ⟨g', cap', cur, rfl, hbg, hg, hnc, hcm, hcs, htake⟩
  · have hr2 := run_append_nil (P := Tryz.prog) w 66 ty 9 i0 (.string ByteArray.empty) Tryz.underlying66 hi hz0 ad 1 1 [u] (by rw [hz1]; rfl) hnews (by decide) (by decide) (by rw [hz2]; decide)
    rw [hr] at hr2
    injection hr2 with _ hw
    subst hw
    exact fun k o hk _ => (Below.heap_alloc w.drew _ k (Array.getElem?_eq_some_iff.1 hk).1).trans hk
  · by_cases hc : n + 1 ≤ cap'
    · refine fun k o hk hf => (h3.block k (Array.getElem?_eq_some_iff.1 hk).1 (fun he => ?_)).trans hk
      have he' : k = g' := by simpa [Value.ownBlock] using he
      subst he'
      rw [hg] at hk
      injection hk with hk
      have := (hf cur _ _ hk.symm).2.resolve_right (by decide)
      have hn1 : 0 < n := Nat.pos_of_ne_zero fun e => by have := h0 e; cases this
      omega
    · obtain ⟨v2, w2, hr2, -, hg2⟩ := run_append_arg_grows (P := Tryz.prog) w 66 ty 9 i0 (.string ByteArray.empty) 1 16 Tryz.underlying66 hi hz0 hz1 hz2 rfl (by decide) ⟨g', 0, none⟩ n cap' xs hown.1
        (fun j y hj => by
          have h5 : w.cell? ⟨g', 0 + j, none⟩ = some y := by
            rw [Nat.zero_add, hown.cellAt j (by have := (List.getElem?_eq_some_iff.1 hj).1; have := hown.1; omega)]
            exact hj
          rw [WideShapes.add_plain]
          exact h5) ad 1 1 [u] rfl hnews (by omega) (by unfold maxLen; omega) (by omega)
      rw [hr] at hr2
      injection hr2 with _ hw
      subst hw
      exact fun k o hk _ => (hg2.block k (Array.getElem?_eq_some_iff.1 hk).1 (fun he => by cases he)).trans hk

theorem wpListIn_append_firmT {F : Fence} {nF : Nat} {w : World} {ops : Array Oper} {rest : List Oper} {o : Oper} {a : Act} {Q : Exit → Act → World → Prop} (hgd : o.guard = none) (s x : Operand)
    (ho : o.op = .call { callee := .builtin .append, args := #[s, x], argTypes := #[66, 66] })
    (base n : Nat) (v : Value) (xs : List Value) (hs : a.eval s = v) (hown : w.ownsRow base 9 1 v n xs) (h0 : n = 0 → v = .slice none 0 0) (ad : Addr) (u : Value) (hx : a.eval x = .slice (some ad) 1 1)
    (hnews : ∀ j y, [u][j]? = some y → w.cell? (ad.add j) = some y) (h1 : ∀ y ∈ [u], y.oneCell' = true) (hn : n ≤ 1000) (hbase : base ≤ w.heap.size)
    (h : ∀ g cap w', w'.ownsRow base 9 1 (.slice (some ⟨g, 0, none⟩) (n + 1) cap) (n + 1) (xs ++ [u]) → w.grownBy w' v.ownBlock → SteadyT w w' → wpListIn F nF Tryz.prog ops Q rest (a.put o.dst (.slice (some ⟨g, 0, none⟩) (n + 1) cap)) w') :
    wpListIn F nF Tryz.prog ops Q (o :: rest) a w := by
  refine wpListIn_plain hgd fun K hK => ?_
  obtain ⟨g, cap, w', hr, h2, h3, h4⟩ := run_append_firmT w o.type base n v xs hown h0 ad u hnews h1 hn hbase
  unfold Oper.wpIn
  refine ⟨by simp [Oper.about, ho, resolve, Target.leads, Sem.run_pure], ?_⟩
  rw [Oper.semAt_plain F _ _ (by rw [ho]; intro c hc'; cases hc')]
  simp [execOp, ho, resolve, invoke, builtin, hs, hx, hr, Result.andThen]
  exact hK _ _ (h g cap w' h2 h3 h4)

/-- What was gathered: the box holds a slice of the call's own. -/
structure GathT (w : World) (T : List (List UInt8)) (W : World) : Prop where
  ex : ∃ v, Row W w.heap.size 66 #[v] ∧ W.ownsRow (w.heap.size + 1) 9 1 v T.length (T.map txt) ∧ (T.length = 0 → v = .slice none 0 0)
  below : Below w.heap.size w W
theorem GathT.grown {w W W' : World} {T : List (List UInt8)} {B : Nat} {row : Option Nat} (h : GathT w T W) (hg : W.grownBy W' row) (hB : w.heap.size ≤ B) (hr : ∀ r, row = some r → B ≤ r ∧ ∃ o : Obj, W.heap[r]? = some o ∧ o.isCells = false) : GathT w T W' := by
  obtain ⟨⟨v, h1, h2, h3⟩, hb⟩ := h
  exact ⟨⟨v, row_grownT h1 hg hr, own_grownT h2 hg (fun r e => (hr r e).2), h3⟩, hb.grown hg hb.size (fun k e => by have := (hr k e).1; omega)⟩

set_option maxRecDepth 100000 in
set_option maxHeartbeats 2000000 in
theorem appendSeq_anyT {gf : Nat} {lb : Array Value} (w : World) (S Sp : List (List UInt8) → Prop) (N : Nat) (hN : N ≤ 1000) (heg : ∀ args w, (callFunc gf args).run Tryz.prog w = .ok (.enter gf args) w)
    (hseq : SeqR 19 gf lb (fun x : List UInt8 => #[.string (strOf x)]) w.heap.size (w.heap.size + 3) S Sp N w) :
    Calls Tryz.prog 81 #[.slice none 0 0, .func (.func gf) #[] lb] w fun e w' => (∃ xs v, S xs ∧ e = .returned v ∧ w'.ownsRow (w.heap.size + 1) 9 1 v xs.length (xs.map txt)) ∧ Below w.heap.size w w' := by
  refine (callsIn_wide (n := 20)).1 ?_
  refine callsIn_of_wp_marks Tryz.func81 rfl trivial ?_ rfl
  simp only [Tryz.ntmps81, List.size_toArray, List.length_cons, List.length_nil, Nat.reduceAdd, Nat.reduceSub, Array.replicate_succ, Array.replicate_zero, List.push_toArray, List.append_toArray, List.nil_append, List.cons_append]
  gi_wp2
  have hB0 : Below w.heap.size w (w.alloc (.cells #[.slice none 0 0] 66)) := (Below.refl _ w).alloc (Nat.le_refl _) _
  have hI0 : GathT w [] (w.alloc (.cells #[.slice none 0 0] 66)) := ⟨⟨.slice none 0 0, Row.new _ _ _, World.ownsRow_nil _ _ _ _, fun _ => rfl⟩, hB0⟩
  refine wpIn_rangeFunc_R (by omega) (gf := gf) (lb := lb) rfl heg hseq (by simp) (by simp) hB0 (fun _ => rfl)
    (fun pre W => GathT w pre W)
    (fun _ _ _ => False)
    (fun _ _ _ _ h hg hr => h.grown hg (by simp) hr)
    (fun _ _ _ _ _ hs _ _ => hs)
    hI0
    (fun x => { tmps := #[.slice none 0 0, .func (.func gf) #[] lb, .pointer (some ⟨w.heap.size, 0, none⟩), undef, .slice none 0 0, .string (strOf x), .func (.func gf) #[] lb, .string (strOf x), undef, undef, undef, undef, undef], defers := [] }) ?assign ?body ?done ?stop
  case assign =>
    intro l x W K hK
    gi_wp2
    exact hK
  case body =>
    rintro l' pre x W ⟨⟨v, hrow, hown, hv0⟩, hB⟩ hlen hz
    have c1 : W.cell? ⟨w.heap.size, 0, none⟩ = some v := hrow.cell 0
    have hz' : w.heap.size + 3 ≤ W.heap.size := by simpa using hz
    have HR := Lib.hid hrow
    have HO := Lib.hid hown
    have HV := Lib.hid hv0
    have HB := Lib.hid hB
    clear hrow hown hv0 hB hz
    have hbx : w.heap.size < W.heap.size := by omega
    gi_wp2_with (gi_at_builtin; refine wpListIn_append_firmT rfl _ _ rfl (w.heap.size + 1) _ _ _ rfl (own_grownT HO.out (World.grownBy_alloc W _ none) (fun r e => by cases e)) HV.out ⟨W.heap.size, 0, none⟩ (.string (strOf x)) rfl (cell_one_new _ _ _) (by simp [Value.oneCell']) (by omega) (by simp; omega) ?_; intro g cap w1 hown1 hgrow hst; have hrow1 : Row w1 w.heap.size 66 #[v] := (hgrow.block _ (HR.out.alloc _).lt (fun he => own_ne HO.out HR.out (by decide) he.symm)).trans (HR.out.alloc _); have d1 : w1.cell? ⟨w.heap.size, 0, none⟩ = some v := hrow1.cell 0; have z1 : w1.frozen? ⟨w.heap.size, 0, none⟩ = false := hrow1.free 0; have HR1 := Lib.hid hrow1; have HO1 := Lib.hid hown1; have HS := Lib.hid hst; have HG := Lib.hid hgrow; clear hrow1 hown1 hst hgrow)
    have hsz : W.heap.size + 1 ≤ w1.heap.size := by have := HG.out.size; simpa using this
    have e2 : (pre ++ [x]).map txt = pre.map txt ++ [.string (strOf x)] := by rw [List.map_append]; rfl
    refine ⟨⟨by simp; omega, fun k o hk ho hf => ?_⟩, ?_, ⟨⟨_, HR1.out.put 0 _, ?_, ?_⟩, ?_⟩⟩
    · have hk' : w.heap.size + 1 ≤ k := by simp at hk; omega
      have h1 := HS.out k o ((Below.heap_alloc W _ k (Array.getElem?_eq_some_iff.1 ho).1).trans ho) hf
      exact (Below.heap_setCell w1 _ _ k (by show k ≠ w.heap.size; omega)).trans h1
    · exact (((Below.refl w.heap.size W).alloc (by omega) _).grown HG.out (by simp; omega) (fun k e => by have := (HO.out.lt k e).1; omega)).setCell (Nat.le_refl _) _
    · have h5 := HO1.out
      rw [e2, List.length_append]
      exact own_set h5 HR1.out (by decide) 0 _
    · rw [List.length_append]
      intro h; simp at h
    · exact (((HB.out.alloc HB.out.size _)).grown HG.out (by simp; omega) (fun k e => by have := (HO.out.lt k e).1; omega)).setCell (Nat.le_refl _) _
  case done =>
    rintro D ys W hD hS hI hK
    obtain ⟨⟨v, hrow, hown, -⟩, hB⟩ := hI
    have c1 : W.cell? ⟨w.heap.size, 0, none⟩ = some v := hrow.cell 0
    have HO := Lib.hid hown
    have HB := Lib.hid hB
    clear hrow hown hB
    gi_wp2
    refine ⟨by simp, .inl ⟨_, _, rfl, run_takeDeferred hK, ?_⟩⟩
    refine ⟨_, results_tmp rfl _ _ _, ⟨ys, v, hS, rfl, ?_⟩, HB.out.trans (belowK_b (w := w) (Nat.le_refl _) W D _ _ (by simp at hD; omega) hK rfl rfl)⟩
    exact own_grownT HO.out (grownBy_putObj' W D _) (fun r e => by cases e; exact ⟨_, hK, rfl⟩)
  case stop =>
    rintro D c pre W _ _ h _
    exact h.elim

set_option maxRecDepth 100000 in
set_option maxHeartbeats 400000 in
theorem collect_anyT {gf : Nat} {lb : Array Value} (w : World) (S Sp : List (List UInt8) → Prop) (N : Nat) (hN : N ≤ 1000) (heg : ∀ args w, (callFunc gf args).run Tryz.prog w = .ok (.enter gf args) w)
    (hseq : SeqR 19 gf lb (fun x : List UInt8 => #[.string (strOf x)]) w.heap.size (w.heap.size + 3) S Sp N w) :
    Calls Tryz.prog 62 #[.func (.func gf) #[] lb] w fun e w' => (∃ xs v, S xs ∧ e = .returned v ∧ w'.ownsRow (w.heap.size + 1) 9 1 v xs.length (xs.map txt)) ∧ Below w.heap.size w w' := by
  have HC := Lib.hid (appendSeq_anyT w S Sp N hN heg hseq)
  clear hseq heg
  go_enter Tryz.func62, Tryz.ntmps62
  go_wp2_with fail
  refine HC.out.mono ?_
  rintro e w1 ⟨⟨xs, v, hS, rfl, hown⟩, hb⟩
  have HO := Lib.hid hown
  clear hown
  go_wp2
  go_ret
  exact ⟨⟨xs, v, hS, rfl, HO.out⟩, hb⟩

set_option maxRecDepth 100000 in
set_option maxHeartbeats 1000000 in
theorem implChainsOf_any (A : Option Addr) (l : List Seg) (c : Nat) (t : ByteArray) (w : World) (hw : Segs w w.heap.size A l) (hl : l.length ≤ 1048576) (hlc : l.length ≤ c) (hcm : c ≤ 9223372036854775807) (hn : Short l) (ht : t.size ≤ 1048576) :
    Calls Tryz.prog 39 #[.slice A l.length c, .string t] w (ChainsResPost w l t) := by
  have HQ := Lib.hid (readTrace_any A l c t w hw hl hlc hcm hn ht)
  have HW : Hid (Segs w w.heap.size A l) := hw
  unfold ChainsResPost chainsRes
  cases hR : traceB l t.data.toList with
  | none =>
    rw [hR] at HQ
    have HE : Hid (∀ W : World, Below w.heap.size w W → ∃ v, Ending.returned (.tuple #[.slice none 0 0, .bool false]) = .returned (.tuple #[v, .bool (none : Option Forest).isSome]) ∧ OwnTexts W w.heap.size v [] ∧ Below w.heap.size w W) :=
      fun W hb => ⟨_, rfl, World.ownsRow_nil W _ _ 1, hb⟩
    clear hw hn hR
    go_enter Tryz.func39, Tryz.ntmps39
    go_wp2_with fail
    refine Calls.mono HQ.out ?_
    rintro e w2 ⟨v, rfl, -, hb⟩
    go_wp2
    go_ret2
    exact HE.out _ hb
  | some f =>
    obtain ⟨hv, h80, hcl⟩ := traceB_some hR
    have hsz := traceB_size hR
    have HV := Lib.hid hv
    have hl1 := (valid_all hv).2.2
    rw [hR] at HQ
    have HE : Hid (∀ (v : Value) (W : World) (xs : List (List UInt8)) (B : Nat), xs = chainsB [rootB l] f → W.ownsRow B 9 1 v xs.length (xs.map txt) → w.heap.size ≤ B → Below w.heap.size w W → ∃ u, Ending.returned (.tuple #[v, .bool true]) = .returned (.tuple #[u, .bool (some f).isSome]) ∧ OwnTexts W w.heap.size u ((chainsB [rootB l] f).map strOf) ∧ Below w.heap.size w W) := by
      rintro v W xs B rfl h1 h2 h3
      refine ⟨v, rfl, ?_, h3⟩
      unfold OwnTexts
      rw [List.length_map, List.map_map]
      exact own_low h1 h2
    clear hw hn hR h80 hcl hv
    go_enter Tryz.func39, Tryz.ntmps39
    go_wp2_with fail
    refine Calls.mono HQ.out ?_
    rintro e w2 ⟨v, rfl, (⟨f', hf', hsl⟩ | ⟨h0, -⟩), hb⟩
    · obtain rfl : f = f' := by injection hf'
      have HSL : Hid (SliceIs w2 (· < w2.heap.size) v f) := hsl.keep fun q hq => ⟨hq.2, rfl⟩
      have HB := Lib.hid hb
      obtain ⟨b0, o0, rfl, hB0, c0⟩ := (HW.out.below hb).root HV.out
      obtain ⟨A2, cap2, rfl, -⟩ := id hsl
      clear hsl hb hf' HQ
      go_wp2_with fail
      refine (chainsOf_any ⟨#[rootB l]⟩ A2 f.len cap2 w2).mono ?_
      rintro e w3 ⟨rfl, rfl⟩
      have hz3 : ((w2.alloc (.cells #[.string ⟨#[rootB l]⟩] 9)).alloc (.cells #[.slice A2 f.len cap2] 85)).heap.size = w2.heap.size + 2 := by simp
      have hr1 : Row ((w2.alloc (.cells #[.string ⟨#[rootB l]⟩] 9)).alloc (.cells #[.slice A2 f.len cap2] 85)) w2.heap.size 9 #[.string ⟨#[rootB l]⟩] := (Row.new w2 _ _).alloc _
      have hr2 : Row ((w2.alloc (.cells #[.string ⟨#[rootB l]⟩] 9)).alloc (.cells #[.slice A2 f.len cap2] 85)) (w2.heap.size + 1) 85 #[.slice A2 f.len cap2] := by
        have := Row.new (w2.alloc (.cells #[.string ⟨#[rootB l]⟩] 9)) 85 #[.slice A2 f.len cap2]
        rw [World.size_alloc] at this
        exact this
      have hb3 : Below w2.heap.size w2 ((w2.alloc (.cells #[.string ⟨#[rootB l]⟩] 9)).alloc (.cells #[.slice A2 f.len cap2] 85)) := ((Below.refl _ w2).alloc (Nat.le_refl _) _).alloc (by simp) _
      have HSL3 := HSL.out.below hb3
      have HB3 := Lib.hid (HB.out.trans (hb3.mono HB.out.size))
      generalize (w2.alloc (.cells #[.string ⟨#[rootB l]⟩] 9)).alloc (.cells #[.slice A2 f.len cap2] 85) = W3 at *
      have HCO := Lib.hid (collect_anyT W3 _ _ f.size (by omega) (enters_of Tryz.func82 (by kernel_rfl) rfl)
        (chains1_seq W3.heap.size (W3.heap.size + 3) (fun x => x) (f.size + 1) f [rootB l] f.size 19 (w2.heap.size + 1) w2.heap.size (.slice A2 f.len cap2) W3 (by omega) (by simp; omega) (fun _ _ => rfl) ⟨.inl (by omega), by decide, hr2⟩ ⟨.inl (by omega), by decide, hr1⟩ (HSL3.keep fun q hq => ⟨by omega, rfl⟩) (Nat.le_refl _) (Nat.le_refl _) (by omega)))
      have hz23 : w2.heap.size ≤ W3.heap.size := by omega
      clear hr1 hr2 hb3 HSL3 HSL hz3
      go_wp2_with fail
      refine Calls.mono HCO.out ?_
      rintro e w4 ⟨⟨xs, v4, hxs, rfl, hown⟩, hb4⟩
      have HO4 := Lib.hid hown
      have HXS := Lib.hid hxs
      have HB4 := Lib.hid (HB3.out.trans (hb4.mono HB3.out.size))
      clear hown hb4 hxs HCO
      go_wp2
      go_ret2
      exact HE.out _ _ xs _ HXS.out HO4.out (by have := HB3.out.size; omega) HB4.out
    · cases h0

set_option maxRecDepth 100000 in
set_option maxHeartbeats 1000000 in
theorem implCountCalls_any (A : Option Addr) (l : List Seg) (c : Nat) (t : ByteArray) (w : World) (hw : Segs w w.heap.size A l) (hl : l.length ≤ 1048576) (hlc : l.length ≤ c) (hcm : c ≤ 9223372036854775807) (hn : Short l) (ht : t.size ≤ 1048576) :
    Calls Tryz.prog 15 #[.slice A l.length c, .string t] w fun e w' => e = .returned (.int .i64 (countRes l t)) ∧ Below w.heap.size w w' := by
  have HQ := Lib.hid (implChainsOf_any A l c t w hw hl hlc hcm hn ht)
  unfold countRes
  unfold ChainsResPost at HQ
  cases hR : traceB l t.data.toList with
  | none =>
    rw [hR] at HQ
    clear hw hn hR
    go_enter Tryz.func15, Tryz.ntmps15
    go_wp2_with fail
    refine Calls.mono HQ.out ?_
    rintro e w2 ⟨v, rfl, -, hb⟩
    go_wp2
    go_ret
    exact ⟨rfl, hb⟩
  | some f =>
    have HL := Lib.hid (chainsRes_len hR)
    have hsz := (traceB_size hR).1
    rw [hR] at HQ
    clear hw hn hR
    generalize chainsRes l t = ts at *
    go_enter Tryz.func15, Tryz.ntmps15
    go_wp2_with fail
    refine Calls.mono HQ.out ?_
    rintro e w2 ⟨v, rfl, ho, hb⟩
    obtain ⟨A2, cap2, rfl, -⟩ := St.textsForm ho
    clear ho
    go_wp2
    go_ret
    exact ⟨by rw [HL.out]; rfl, hb⟩

end Go.Proofs.YtcpiojliakgdlaaGreatDoor
