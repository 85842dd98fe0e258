/- Joined: Fz Gz. -/
import Derived.Test.YtafpefjjeddmeaaU22
import Derived.Test.YtafpefjjeddmeaaU20
import Derived.Maps.OwnIn
import Derived.Maps.AppendAt
import Derived.Deep.AppendLies
import Derived.Test.YtafpefjjeddmeaaU21
/- Chains gathered into a slice: the program's ChainsOf and CountCalls. -/
namespace Go.Proofs.Ytafpefjjeddmeaa
open Go.RowKit Go.Shelf
attribute [local go_sem] Oper.semAt_some

def txt (x : List UInt8) : Value := .string (strOf x)
theorem row_grownT {W W' : World} {b : Nat} {t : TypeId} {cs : Array Value} {row : Option Nat} (h : Row W b t cs) (hg : W.grownBy W' row) {B : Nat} (hr : ∀ r, row = some r → B ≤ r ∧ ∃ o : Obj, W.heap[r]? = some o ∧ o.isCells = false) : Row W' b t cs :=
  (hg.block b h.lt (fun he => by
    obtain ⟨_, o, ho, hc⟩ := hr b he.symm
    have h' : W.heap[b]? = some (.cells cs t (0, 0)) := h
    rw [h'] at ho
    injection ho with ho
    subst ho
    cases hc)).trans h
theorem own_grownT {W W' : World} {base n : Nat} {e : TypeId} {v : Value} {xs : List Value} {row : Option Nat} (h : W.ownsRow base e 1 v n xs) (hg : W.grownBy W' row) (hr : ∀ r, row = some r → ∃ o : Obj, W.heap[r]? = some o ∧ o.isCells = false) : W'.ownsRow base e 1 v n xs :=
  own_keep h fun g hb => hg.block g ((h.lt g hb).2) (fun he => by
    obtain ⟨o, ho, hc⟩ := hr g he.symm
    rcases h.2 with ⟨rfl, _⟩ | ⟨g', cap, cur, rfl, _, hh, _⟩
    · simp [Value.ownBlock] at hb
    · have : g' = g := by simpa [Value.ownBlock] using hb
      subst this
      rw [hh] at ho
      injection ho with ho
      subst ho
      cases hc)

/-- What is firm stays. -/
def SteadyT (W W' : World) : Prop := ∀ (k : Nat) (o : Obj), W.heap[k]? = some o → Firm o → W'.heap[k]? = some o

/-- One node's pointer is put behind those that were gathered: only a row of two cells or more is written in place. -/
theorem run_append_firmT (w : World) (ty base n : Nat) (v : Value) (xs : List Value) (hown : w.ownsRow base 9 1 v n xs) (h0 : n = 0 → v = .slice none 0 0) (ad : Addr) (u : Value)
    (hnews : ∀ j y, [u][j]? = some y → w.cell? (ad.add j) = some y) (h1 : ∀ y ∈ [u], y.oneCell' = true) (hn : n ≤ 1000) (hbase : base ≤ w.heap.size) :
    ∃ g cap w', (Builtin.append_ #[26, 26] ty #[v, .slice (some ad) 1 1]).run Try.prog w = .ok (.slice (some ⟨g, 0, none⟩) (n + 1) cap) w' ∧
      w'.ownsRow base 9 1 (.slice (some ⟨g, 0, none⟩) (n + 1) cap) (n + 1) (xs ++ [u]) ∧ w.grownBy w' v.ownBlock ∧ SteadyT w w' := by
  obtain ⟨i0, hi, hz0, hz1, hz2⟩ := info_parts info_str
  obtain ⟨v', w', hr, h2, h3, -, -⟩ := run_append_own_at (P := Try.prog) w base 26 ty 9 i0 (.string ByteArray.empty) 1 16 Try.underlying26 hi hz0 hz1 hz2 rfl (by decide) v n xs hown ad 1 1 [u] rfl hnews h1 (by unfold maxLen; omega) (by omega) hbase
  obtain ⟨g, cap, rfl⟩ := own_form h2 (by omega)
  refine ⟨g, cap, w', hr, h2, h3, ?_⟩
  rcases hown.2 with ⟨rfl, rfl⟩ | ⟨g', cap', cur, rfl, hbg, hg, hnc, hcm, hcs, htake⟩
  · have hr2 := run_append_nil (P := Try.prog) w 26 ty 9 i0 (.string ByteArray.empty) Try.underlying26 hi hz0 ad 1 1 [u] (by rw [hz1]; rfl) hnews (by decide) (by decide) (by rw [hz2]; decide)
    rw [hr] at hr2
    injection hr2 with _ hw
    subst hw
    exact fun k o hk _ => (Below.heap_alloc w.drew _ k (Array.getElem?_eq_some_iff.1 hk).1).trans hk
  · by_cases hc : n + 1 ≤ cap'
    · refine fun k o hk hf => (h3.block k (Array.getElem?_eq_some_iff.1 hk).1 (fun he => ?_)).trans hk
      have he' : k = g' := by simpa [Value.ownBlock] using he
      subst he'
      rw [hg] at hk
      injection hk with hk
      have := (hf cur _ _ hk.symm).2.resolve_right (by decide)
      have hn1 : 0 < n := Nat.pos_of_ne_zero fun e => by have := h0 e; cases this
      omega
    · obtain ⟨v2, w2, hr2, -, hg2⟩ := run_append_arg_grows (P := Try.prog) w 26 ty 9 i0 (.string ByteArray.empty) 1 16 Try.underlying26 hi hz0 hz1 hz2 rfl (by decide) ⟨g', 0, none⟩ n cap' xs hown.1
        (fun j y hj => by
          have h5 : w.cell? ⟨g', 0 + j, none⟩ = some y := by
            rw [Nat.zero_add, hown.cellAt j (by have := (List.getElem?_eq_some_iff.1 hj).1; have := hown.1; omega)]
            exact hj
          rw [WideShapes.add_plain]
          exact h5) ad 1 1 [u] rfl hnews (by omega) (by unfold maxLen; omega) (by omega)
      rw [hr] at hr2
      injection hr2 with _ hw
      subst hw
      exact fun k o hk _ => (hg2.block k (Array.getElem?_eq_some_iff.1 hk).1 (fun he => by cases he)).trans hk

theorem wpListIn_append_firmT {F : Fence} {nF : Nat} {w : World} {ops : Array Oper} {rest : List Oper} {o : Oper} {a : Act} {Q : Exit → Act → World → Prop} (hgd : o.guard = none) (s x : Operand)
    (ho : o.op = .call { callee := .builtin .append, args := #[s, x], argTypes := #[26, 26] })
    (base n : Nat) (v : Value) (xs : List Value) (hs : a.eval s = v) (hown : w.ownsRow base 9 1 v n xs) (h0 : n = 0 → v = .slice none 0 0) (ad : Addr) (u : Value) (hx : a.eval x = .slice (some ad) 1 1)
    (hnews : ∀ j y, [u][j]? = some y → w.cell? (ad.add j) = some y) (h1 : ∀ y ∈ [u], y.oneCell' = true) (hn : n ≤ 1000) (hbase : base ≤ w.heap.size)
    (h : ∀ g cap w', w'.ownsRow base 9 1 (.slice (some ⟨g, 0, none⟩) (n + 1) cap) (n + 1) (xs ++ [u]) → w.grownBy w' v.ownBlock → SteadyT w w' → wpListIn F nF Try.prog ops Q rest (a.put o.dst (.slice (some ⟨g, 0, none⟩) (n + 1) cap)) w') :
    wpListIn F nF Try.prog ops Q (o :: rest) a w := by
  refine wpListIn_plain hgd fun K hK => ?_
  obtain ⟨g, cap, w', hr, h2, h3, h4⟩ := run_append_firmT w o.type base n v xs hown h0 ad u hnews h1 hn hbase
  unfold Oper.wpIn
  refine ⟨by simp [Oper.about, ho, resolve, Target.leads, Sem.run_pure], ?_⟩
  rw [Oper.semAt_plain F _ _ (by rw [ho]; intro c hc'; cases hc')]
  simp [execOp, ho, resolve, invoke, builtin, hs, hx, hr, Result.andThen]
  exact hK _ _ (h g cap w' h2 h3 h4)

/-- What was gathered: the box holds a slice of the call's own. -/
structure GathT (w : World) (T : List (List UInt8)) (W : World) : Prop where
  ex : ∃ v, Row W w.heap.size 26 #[v] ∧ W.ownsRow (w.heap.size + 1) 9 1 v T.length (T.map txt) ∧ (T.length = 0 → v = .slice none 0 0)
  below : Below w.heap.size w W
theorem GathT.grown {w W W' : World} {T : List (List UInt8)} {B : Nat} {row : Option Nat} (h : GathT w T W) (hg : W.grownBy W' row) (hB : w.heap.size ≤ B) (hr : ∀ r, row = some r → B ≤ r ∧ ∃ o : Obj, W.heap[r]? = some o ∧ o.isCells = false) : GathT w T W' := by
  obtain ⟨⟨v, h1, h2, h3⟩, hb⟩ := h
  exact ⟨⟨v, row_grownT h1 hg hr, own_grownT h2 hg (fun r e => (hr r e).2), h3⟩, hb.grown hg hb.size (fun k e => by have := (hr k e).1; omega)⟩

set_option maxRecDepth 100000 in
set_option maxHeartbeats 2000000 in
theorem appendSeq_anyT {gf : Nat} {lb : Array Value} (w : World) (S Sp : List (List UInt8) → Prop) (N : Nat) (hN : N ≤ 1000) (heg : ∀ args w, (callFunc gf args).run Try.prog w = .ok (.enter gf args) w)
    (hseq : SeqR 19 gf lb (fun x : List UInt8 => #[.string (strOf x)]) w.heap.size (w.heap.size + 3) S Sp N w) :
    Calls Try.prog 79 #[.slice none 0 0, .func (.func gf) #[] lb] w fun e w' => (∃ xs v, S xs ∧ e = .returned v ∧ w'.ownsRow (w.heap.size + 1) 9 1 v xs.length (xs.map txt)) ∧ Below w.heap.size w w' := by
  refine (callsIn_wide (n := 20)).1 ?_
  refine callsIn_of_wp_marks Try.func79 rfl trivial ?_ rfl
  simp only [Try.ntmps79, List.size_toArray, List.length_cons, List.length_nil, Nat.reduceAdd, Nat.reduceSub, Array.replicate_succ, Array.replicate_zero, List.push_toArray, List.append_toArray, List.nil_append, List.cons_append]
  gi_wp2
  have hB0 : Below w.heap.size w (w.alloc (.cells #[.slice none 0 0] 26)) := (Below.refl _ w).alloc (Nat.le_refl _) _
  have hI0 : GathT w [] (w.alloc (.cells #[.slice none 0 0] 26)) := ⟨⟨.slice none 0 0, Row.new _ _ _, World.ownsRow_nil _ _ _ _, fun _ => rfl⟩, hB0⟩
  refine wpIn_rangeFunc_R (by omega) (gf := gf) (lb := lb) rfl heg hseq (by simp) (by simp) hB0 (fun _ => rfl)
    (fun pre W => GathT w pre W)
    (fun _ _ _ => False)
    (fun _ _ _ _ h hg hr => h.grown hg (by simp) hr)
    (fun _ _ _ _ _ hs _ _ => hs)
    hI0
    (fun x => { tmps := #[.slice none 0 0, .func (.func gf) #[] lb, .pointer (some ⟨w.heap.size, 0, none⟩), undef, .slice none 0 0, .string (strOf x), .func (.func gf) #[] lb, .string (strOf x), undef, undef, undef, undef, undef], defers := [] }) ?assign ?body ?done ?stop
  case assign =>
    intro l x W K hK
    gi_wp2
    exact hK
  case body =>
    rintro l' pre x W ⟨⟨v, hrow, hown, hv0⟩, hB⟩ hlen hz
    have c1 : W.cell? ⟨w.heap.size, 0, none⟩ = some v := hrow.cell 0
    have hz' : w.heap.size + 3 ≤ W.heap.size := by simpa using hz
    have HR := Lib.hid hrow
    have HO := Lib.hid hown
    have HV := Lib.hid hv0
    have HB := Lib.hid hB
    clear hrow hown hv0 hB hz
    have hbx : w.heap.size < W.heap.size := by omega
    gi_wp2_with (gi_at_builtin; refine wpListIn_append_firmT rfl _ _ rfl (w.heap.size + 1) _ _ _ rfl (own_grownT HO.out (World.grownBy_alloc W _ none) (fun r e => by cases e)) HV.out ⟨W.heap.size, 0, none⟩ (.string (strOf x)) rfl (cell_one_new _ _ _) (by simp [Value.oneCell']) (by omega) (by simp; omega) ?_; intro g cap w1 hown1 hgrow hst; have hrow1 : Row w1 w.heap.size 26 #[v] := (hgrow.block _ (HR.out.alloc _).lt (fun he => own_ne HO.out HR.out (by decide) he.symm)).trans (HR.out.alloc _); have d1 : w1.cell? ⟨w.heap.size, 0, none⟩ = some v := hrow1.cell 0; have z1 : w1.frozen? ⟨w.heap.size, 0, none⟩ = false := hrow1.free 0; have HR1 := Lib.hid hrow1; have HO1 := Lib.hid hown1; have HS := Lib.hid hst; have HG := Lib.hid hgrow; clear hrow1 hown1 hst hgrow)
    have hsz : W.heap.size + 1 ≤ w1.heap.size := by have := HG.out.size; simpa using this
    have e2 : (pre ++ [x]).map txt = pre.map txt ++ [.string (strOf x)] := by rw [List.map_append]; rfl
    refine ⟨⟨by simp; omega, fun k o hk ho hf => ?_⟩, ?_, ⟨⟨_, HR1.out.put 0 _, ?_, ?_⟩, ?_⟩⟩
    · have hk' : w.heap.size + 1 ≤ k := by simp at hk; omega
      have h1 := HS.out k o ((Below.heap_alloc W _ k (Array.getElem?_eq_some_iff.1 ho).1).trans ho) hf
      exact (Below.heap_setCell w1 _ _ k (by show k ≠ w.heap.size; omega)).trans h1
    · exact (((Below.refl w.heap.size W).alloc (by omega) _).grown HG.out (by simp; omega) (fun k e => by have := (HO.out.lt k e).1; omega)).setCell (Nat.le_refl _) _
    · have h5 := HO1.out
      rw [e2, List.length_append]
      exact own_set h5 HR1.out (by decide) 0 _
    · rw [List.length_append]
      intro h; simp at h
    · exact (((HB.out.alloc HB.out.size _)).grown HG.out (by simp; omega) (fun k e => by have := (HO.out.lt k e).1; omega)).setCell (Nat.le_refl _) _
  case done =>
    rintro D ys W hD hS hI hK
    obtain ⟨⟨v, hrow, hown, -⟩, hB⟩ := hI
    have c1 : W.cell? ⟨w.heap.size, 0, none⟩ = some v := hrow.cell 0
    have HO := Lib.hid hown
    have HB := Lib.hid hB
    clear hrow hown hB
    gi_wp2
    refine ⟨by simp, .inl ⟨_, _, rfl, run_takeDeferred hK, ?_⟩⟩
    refine ⟨_, results_tmp rfl _ _ _, ⟨ys, v, hS, rfl, ?_⟩, HB.out.trans (belowK_b (w := w) (Nat.le_refl _) W D _ _ (by simp at hD; omega) hK rfl rfl)⟩
    exact own_grownT HO.out (grownBy_putObj' W D _) (fun r e => by cases e; exact ⟨_, hK, rfl⟩)
  case stop =>
    rintro D c pre W _ _ h _
    exact h.elim

set_option maxRecDepth 100000 in
set_option maxHeartbeats 400000 in
theorem collect_anyT {gf : Nat} {lb : Array Value} (w : World) (S Sp : List (List UInt8) → Prop) (N : Nat) (hN : N ≤ 1000) (heg : ∀ args w, (callFunc gf args).run Try.prog w = .ok (.enter gf args) w)
    (hseq : SeqR 19 gf lb (fun x : List UInt8 => #[.string (strOf x)]) w.heap.size (w.heap.size + 3) S Sp N w) :
    Calls Try.prog 45 #[.func (.func gf) #[] lb] w fun e w' => (∃ xs v, S xs ∧ e = .returned v ∧ w'.ownsRow (w.heap.size + 1) 9 1 v xs.length (xs.map txt)) ∧ Below w.heap.size w w' := by
  have HC := Lib.hid (appendSeq_anyT w S Sp N hN heg hseq)
  clear hseq heg
  go_enter Try.func45, Try.ntmps45
  go_wp2_with fail
  refine HC.out.mono ?_
  rintro e w1 ⟨⟨xs, v, hS, rfl, hown⟩, hb⟩
  have HO := Lib.hid hown
  clear hown
  go_wp2
  go_ret
  exact ⟨⟨xs, v, hS, rfl, HO.out⟩, hb⟩

set_option maxRecDepth 100000 in
set_option maxHeartbeats 1000000 in
theorem implChainsOf_any (A : Option Addr) (l : List Seg) (c : Nat) (t : ByteArray) (w : World) (hw : Segs w w.heap.size A l) (hl : l.length ≤ 1048576) (hlc : l.length ≤ c) (hcm : c ≤ 9223372036854775807) (hn : Short l) (ht : t.size ≤ 1048576) :
    Calls Try.prog 11 #[.slice A l.length c, .string t] w (ChainsResPost w l t) := by
  have HQ := Lib.hid (readTrace_any A l c t w hw hl hlc hcm hn ht)
  have HW : Hid (Segs w w.heap.size A l) := hw
  unfold ChainsResPost chainsRes
  cases hR : traceB l t.data.toList with
  | none =>
    rw [hR] at HQ
    have HE : Hid (∀ W : World, Below w.heap.size w W → ∃ v, Ending.returned (.tuple #[.slice none 0 0, .bool false]) = .returned (.tuple #[v, .bool (none : Option Forest).isSome]) ∧ OwnTexts W w.heap.size v [] ∧ Below w.heap.size w W) :=
      fun W hb => ⟨_, rfl, World.ownsRow_nil W _ _ 1, hb⟩
    clear hw hn hR
    go_enter Try.func11, Try.ntmps11
    go_wp2_with fail
    refine Calls.mono HQ.out ?_
    rintro e w2 ⟨v, rfl, -, hb⟩
    go_wp2
    go_ret2
    exact HE.out _ hb
  | some f =>
    obtain ⟨hv, h80, hcl⟩ := traceB_some hR
    have hsz := traceB_size hR
    have HV := Lib.hid hv
    have hl1 := (valid_all hv).2.2
    rw [hR] at HQ
    have HE : Hid (∀ (v : Value) (W : World) (xs : List (List UInt8)) (B : Nat), xs = chainsB [rootB l] f → W.ownsRow B 9 1 v xs.length (xs.map txt) → w.heap.size ≤ B → Below w.heap.size w W → ∃ u, Ending.returned (.tuple #[v, .bool true]) = .returned (.tuple #[u, .bool (some f).isSome]) ∧ OwnTexts W w.heap.size u ((chainsB [rootB l] f).map strOf) ∧ Below w.heap.size w W) := by
      rintro v W xs B rfl h1 h2 h3
      refine ⟨v, rfl, ?_, h3⟩
      unfold OwnTexts
      rw [List.length_map, List.map_map]
      exact own_low h1 h2
    clear hw hn hR h80 hcl hv
    go_enter Try.func11, Try.ntmps11
    go_wp2_with fail
    refine Calls.mono HQ.out ?_
    rintro e w2 ⟨v, rfl, (⟨f', hf', hsl⟩ | ⟨h0, -⟩), hb⟩
    · obtain rfl : f = f' := by injection hf'
      have HSL : Hid (SliceIs w2 (· < w2.heap.size) v f) := hsl.keep fun q hq => ⟨hq.2, rfl⟩
      have HB := Lib.hid hb
      obtain ⟨b0, o0, rfl, hB0, c0⟩ := (HW.out.below hb).root HV.out
      obtain ⟨A2, cap2, rfl, -⟩ := id hsl
      clear hsl hb hf' HQ
      go_wp2_with fail
      refine (chainsOf_any ⟨#[rootB l]⟩ A2 f.len cap2 w2).mono ?_
      rintro e w3 ⟨rfl, rfl⟩
      have hz3 : ((w2.alloc (.cells #[.string ⟨#[rootB l]⟩] 9)).alloc (.cells #[.slice A2 f.len cap2] 54)).heap.size = w2.heap.size + 2 := by simp
      have hr1 : Row ((w2.alloc (.cells #[.string ⟨#[rootB l]⟩] 9)).alloc (.cells #[.slice A2 f.len cap2] 54)) w2.heap.size 9 #[.string ⟨#[rootB l]⟩] := (Row.new w2 _ _).alloc _
      have hr2 : Row ((w2.alloc (.cells #[.string ⟨#[rootB l]⟩] 9)).alloc (.cells #[.slice A2 f.len cap2] 54)) (w2.heap.size + 1) 54 #[.slice A2 f.len cap2] := by
        have := Row.new (w2.alloc (.cells #[.string ⟨#[rootB l]⟩] 9)) 54 #[.slice A2 f.len cap2]
        rw [World.size_alloc] at this
        exact this
      have hb3 : Below w2.heap.size w2 ((w2.alloc (.cells #[.string ⟨#[rootB l]⟩] 9)).alloc (.cells #[.slice A2 f.len cap2] 54)) := ((Below.refl _ w2).alloc (Nat.le_refl _) _).alloc (by simp) _
      have HSL3 := HSL.out.below hb3
      have HB3 := Lib.hid (HB.out.trans (hb3.mono HB.out.size))
      generalize (w2.alloc (.cells #[.string ⟨#[rootB l]⟩] 9)).alloc (.cells #[.slice A2 f.len cap2] 54) = W3 at *
      have HCO := Lib.hid (collect_anyT W3 _ _ f.size (by omega) (enters_of Try.func80 (by kernel_rfl) rfl)
        (chains1_seq W3.heap.size (W3.heap.size + 3) (fun x => x) (f.size + 1) f [rootB l] f.size 19 (w2.heap.size + 1) w2.heap.size (.slice A2 f.len cap2) W3 (by omega) (by simp; omega) (fun _ _ => rfl) ⟨.inl (by omega), by decide, hr2⟩ ⟨.inl (by omega), by decide, hr1⟩ (HSL3.keep fun q hq => ⟨by omega, rfl⟩) (Nat.le_refl _) (Nat.le_refl _) (by omega)))
      have hz23 : w2.heap.size ≤ W3.heap.size := by omega
      clear hr1 hr2 hb3 HSL3 HSL hz3
      go_wp2_with fail
      refine Calls.mono HCO.out ?_
      rintro e w4 ⟨⟨xs, v4, hxs, rfl, hown⟩, hb4⟩
      have HO4 := Lib.hid hown
      have HXS := Lib.hid hxs
      have HB4 := Lib.hid (HB3.out.trans (hb4.mono HB3.out.size))
      clear hown hb4 hxs HCO
      go_wp2
      go_ret2
      exact HE.out _ _ xs _ HXS.out HO4.out (by have := HB3.out.size; omega) HB4.out
    · cases h0

set_option maxRecDepth 100000 in
set_option maxHeartbeats 1000000 in
theorem implCountCalls_any (A : Option Addr) (l : List Seg) (c : Nat) (t : ByteArray) (w : World) (hw : Segs w w.heap.size A l) (hl : l.length ≤ 1048576) (hlc : l.length ≤ c) (hcm : c ≤ 9223372036854775807) (hn : Short l) (ht : t.size ≤ 1048576) :
    Calls Try.prog 21 #[.slice A l.length c, .string t] w fun e w' => e = .returned (.int .i64 (countRes l t)) ∧ Below w.heap.size w w' := by
  have HQ := Lib.hid (implChainsOf_any A l c t w hw hl hlc hcm hn ht)
  unfold countRes
  unfold ChainsResPost at HQ
  cases hR : traceB l t.data.toList with
  | none =>
    rw [hR] at HQ
    clear hw hn hR
    go_enter Try.func21, Try.ntmps21
    go_wp2_with fail
    refine Calls.mono HQ.out ?_
    rintro e w2 ⟨v, rfl, -, hb⟩
    go_wp2
    go_ret
    exact ⟨rfl, hb⟩
  | some f =>
    have HL := Lib.hid (chainsRes_len hR)
    have hsz := (traceB_size hR).1
    rw [hR] at HQ
    clear hw hn hR
    generalize chainsRes l t = ts at *
    go_enter Try.func21, Try.ntmps21
    go_wp2_with fail
    refine Calls.mono HQ.out ?_
    rintro e w2 ⟨v, rfl, ho, hb⟩
    obtain ⟨A2, cap2, rfl, -⟩ := St.textsForm ho
    clear ho
    go_wp2
    go_ret
    exact ⟨by rw [HL.out]; rfl, hb⟩

end Go.Proofs.Ytafpefjjeddmeaa
/- How often each segment is called: the program's. -/
namespace Go.Proofs.Ytafpefjjeddmeaa
open Go.RowKit Go.Shelf
attribute [local go_sem] Oper.semAt_some

/-- A chain as a round is handed it: never empty, never long. -/
def fixC (x : List UInt8) : List UInt8 := if x ≠ [] ∧ x.length ≤ 1000 then x else [0]
theorem fixC_ok (x : List UInt8) : fixC x ≠ [] ∧ (fixC x).length ≤ 1000 := by
  unfold fixC
  split
  · next h => exact h
  · exact ⟨by simp, by simp⟩

theorem names_apart {l : List Seg} (hv : validB l = true) {u v : Nat} (huv : u < v) (hvl : v < l.length) : (l[u]'(by omega)).name ≠ l[v].name := fun e => by
  have h1 := (valid_all hv).1 v hvl
  rw [segOk_of hvl] at h1
  simp only [Bool.and_eq_true, Bool.not_eq_true'] at h1
  have h2 := h1.1.1.2
  have h3 : takenB (l.take v) l[v].name = true := by
    refine List.any_eq_true.2 ⟨l[u]'(by omega), ?_, sameB_iff.2 e⟩
    have h4 : (l.take v)[u]? = some (l[u]'(by omega)) := by rw [List.getElem?_take_of_lt huv]; exact List.getElem?_eq_getElem (by omega)
    exact List.mem_of_getElem? h4
  rw [h3] at h2
  cases h2
theorem name_index {l : List Seg} (hv : validB l = true) {i : Nat} (hi : i < l.length) : indexB l l[i].name = (i : Int) := by
  have h1 : indexB l l[i].name = seek l l[i].name := if_pos hv
  have h2 : 0 ≤ seek l l[i].name := by
    have := seekFrom_has l[i].name l 0
    have h3 : takenB l l[i].name = true := List.any_eq_true.2 ⟨l[i], List.getElem_mem hi, sameB_iff.2 rfl⟩
    rw [h3] at this
    exact of_decide_eq_true this
  obtain ⟨j, hj⟩ := Int.eq_ofNat_of_zero_le h2
  obtain ⟨x, hx, hn⟩ := seek_name hj
  obtain ⟨hjl, rfl⟩ := List.getElem?_eq_some_iff.1 hx
  rw [h1, hj]
  rcases Nat.lt_trichotomy j i with h | h | h
  · exact absurd hn (names_apart hv h hi)
  · rw [h]
  · exact absurd hn.symm (names_apart hv h hjl)
/-- A chain ends with a segment's name just where this is the one that is called last. -/
theorem suffix_index {l : List Seg} (hv : validB l = true) {i : Nat} (hi : i < l.length) {x : List UInt8} (hx : x ≠ []) : Lib.hasSuffix x l[i].name.data.toList = decide (indexB l ⟨#[lastB x]⟩ = (i : Int)) := by
  obtain ⟨d, hd, _, _⟩ := nameOk_one (validB_names hv (List.getElem_mem hi))
  obtain ⟨y, c, rfl⟩ : ∃ y c, x = y ++ [c] := ⟨x.dropLast, x.getLast hx, (List.dropLast_concat_getLast hx).symm⟩
  have hni := name_index hv hi
  rw [hd] at hni ⊢
  rw [lastB_snoc]
  unfold Lib.hasSuffix
  show [d].isSuffixOf (y ++ [c]) = _
  have h1 : [d].isSuffixOf (y ++ [c]) = decide (d = c) := by
    by_cases h : d = c
    · subst h; simp [List.isSuffixOf_iff_suffix]
    · have : ¬ [d] <:+ y ++ [c] := fun ⟨z, hz⟩ => h (by have := congrArg List.getLast? hz; simpa using this)
      rw [decide_eq_false h, Bool.eq_false_iff]
      exact fun hh => this (List.isSuffixOf_iff_suffix.1 hh)
  rw [h1]
  by_cases h : d = c
  · subst h; rw [decide_eq_true rfl, hni]; simp
  · rw [decide_eq_false h]
    symm
    refine decide_eq_false fun e => h ?_
    rw [show indexB l ⟨#[c]⟩ = seek l ⟨#[c]⟩ from if_pos hv] at e
    obtain ⟨z, hz, hzn⟩ := seek_name (s := ⟨#[c]⟩) e
    obtain ⟨_, rfl⟩ := List.getElem?_eq_some_iff.1 hz
    rw [hd] at hzn
    injection hzn with hzn
    have h3 : [d] = [c] := congrArg Array.toList hzn
    injection h3

/-- The row while the segments are gone through for one more chain. -/
def midRow (l : List Seg) (xs : List (List UInt8)) (x : List UInt8) (k : Nat) : List Int := (List.range l.length).map fun i => (cntAt l xs i : Int) + if i < k ∧ indexB l ⟨#[lastB x]⟩ = (i : Int) then 1 else 0
theorem midRow_len (l : List Seg) (xs : List (List UInt8)) (x : List UInt8) (k : Nat) : (midRow l xs x k).length = l.length := by simp [midRow]
theorem midRow_at (l : List Seg) (xs : List (List UInt8)) (x : List UInt8) (k : Nat) {i : Nat} (hi : i < l.length) : (midRow l xs x k)[i]? = some ((cntAt l xs i : Int) + if i < k ∧ indexB l ⟨#[lastB x]⟩ = (i : Int) then 1 else 0) := by simp [midRow, hi]
theorem midRow_zero (l : List Seg) (xs : List (List UInt8)) (x : List UInt8) : midRow l xs x 0 = cntRow l xs := by simp [midRow, cntRow]
theorem midRow_end (l : List Seg) (xs : List (List UInt8)) (x : List UInt8) : midRow l xs x l.length = cntRow l (xs ++ [x]) := by
  apply List.ext_getElem?
  intro i
  by_cases hi : i < l.length
  · rw [midRow_at l _ _ _ hi, cntRow_at l _ hi, cntAt_snoc]
    by_cases h : indexB l ⟨#[lastB x]⟩ = (i : Int)
    · rw [if_pos ⟨hi, h⟩, if_pos h]; rfl
    · rw [if_neg (fun e => h e.2), if_neg h]; rfl
  · rw [List.getElem?_eq_none (by rw [midRow_len]; omega), List.getElem?_eq_none (by rw [cntRow_len]; omega)]
theorem midRow_no {l : List Seg} {xs : List (List UInt8)} {x : List UInt8} {k : Nat} (h : indexB l ⟨#[lastB x]⟩ ≠ (k : Int)) : midRow l xs x (k + 1) = midRow l xs x k := by
  unfold midRow
  refine List.map_congr_left fun i _ => ?_
  by_cases h1 : i = k
  · subst h1; rw [if_neg (fun e => h e.2), if_neg (fun e => h e.2)]
  · by_cases h2 : i < k
    · by_cases h3 : indexB l ⟨#[lastB x]⟩ = (i : Int)
      · rw [if_pos ⟨by omega, h3⟩, if_pos ⟨h2, h3⟩]
      · rw [if_neg (fun e => h3 e.2), if_neg (fun e => h3 e.2)]
    · rw [if_neg (fun e => by omega), if_neg (fun e => h2 e.1)]
theorem midRow_yes {l : List Seg} {xs : List (List UInt8)} {x : List UInt8} {k : Nat} (h : indexB l ⟨#[lastB x]⟩ = (k : Int)) (hk : k < l.length) : midRow l xs x (k + 1) = (midRow l xs x k).set k ((cntAt l xs k : Int) + 1) := by
  apply List.ext_getElem?
  intro i
  by_cases hi : i < l.length
  · rw [midRow_at l _ _ _ hi]
    by_cases hik : i = k
    · subst hik
      rw [List.getElem?_set_self (by rw [midRow_len]; exact hi), if_pos ⟨by omega, h⟩]
    · rw [List.getElem?_set_ne (fun e => hik e.symm), midRow_at l _ _ _ hi, if_neg (fun e => hik (by have := e.2; omega)), if_neg (fun e => hik (by have := e.2; omega))]
  · rw [List.getElem?_eq_none (by rw [midRow_len]; omega), List.getElem?_eq_none (by rw [List.length_set, midRow_len]; omega)]

set_option maxRecDepth 100000 in
set_option maxHeartbeats 4000000 in
theorem callsOf_any (A : Option Addr) (l : List Seg) (c : Nat) (t : ByteArray) (w : World) (hw : Segs w w.heap.size A l) (hl : l.length ≤ 1048576) (hlc : l.length ≤ c) (hcm : c ≤ 9223372036854775807) (hn : Short l) (ht : t.size ≤ 1048576) :
    Calls Try.prog 15 #[.slice A l.length c, .string t] w (CallsResPost w l t) := by
  have HW1 : Hid (Segs (w.alloc (.cells #[.slice A l.length c] 23)) (w.alloc (.cells #[.slice A l.length c] 23)).heap.size A l) := (hw.below ((Below.refl _ w).alloc (Nat.le_refl _) _)).more (by simp)
  have HQ := Lib.hid (readTrace_any A l c t _ HW1.out hl hlc hcm hn ht)
  have HBX : Hid (Row (w.alloc (.cells #[.slice A l.length c] 23)) w.heap.size 23 #[.slice A l.length c]) := Row.new w _ _
  have HB0 : Hid (Below w.heap.size w (w.alloc (.cells #[.slice A l.length c] 23))) := (Below.refl _ w).alloc (Nat.le_refl _) _
  have HZ0 : Hid ((w.alloc (.cells #[.slice A l.length c] 23)).heap.size = w.heap.size + 1) := by show _ = _; simp
  unfold CallsResPost callsRes
  cases hR : traceB l t.data.toList with
  | none =>
    rw [hR] at HQ
    have HE : Hid (∀ W : World, Below w.heap.size w W → ∃ v, Ending.returned (.tuple #[.slice none 0 0, .bool false]) = .returned (.tuple #[v, .bool (none : Option Forest).isSome]) ∧ Si.OwnInts W w.heap.size v [] ∧ Below w.heap.size w W) :=
      fun W hb => ⟨_, rfl, World.ownsRow_nil W _ _ 1, hb⟩
    have c0 := HBX.out.cell 0
    simp at c0
    clear hw hn hR
    go_enter Try.func15, Try.ntmps15
    go_wp2_with fail
    generalize w.alloc (.cells #[.slice A l.length c] 23) = W0 at *
    refine Calls.mono HQ.out ?_
    rintro e w2 ⟨v, rfl, -, hb⟩
    have HB := Lib.hid (HB0.out.trans (hb.mono HB0.out.size))
    clear hb
    go_wp2
    go_ret2
    exact HE.out _ HB.out
  | some f =>
    have hsz := traceB_size hR
    rw [hR] at HQ
    have HFX : Hid (∀ x ∈ chainsB [] f, fixC x = x) := fun x hx => by
      have h1 := chainsB_bound f [] x hx
      unfold fixC
      rw [if_pos ⟨fun e => by rw [e] at h1; simp at h1, by have := h1.1; simp at this; omega⟩]
    have HV := Lib.hid (traceB_some hR).1
    have HE : Hid (∀ (v : Value) (W : World), Si.OwnInts W w.heap.size v (cntRow l (chainsB [] f)) → Below w.heap.size w W → ∃ u, Ending.returned (.tuple #[v, .bool true]) = .returned (.tuple #[u, .bool (some f).isSome]) ∧ Si.OwnInts W w.heap.size u (cntRow l (chainsB [] f)) ∧ Below w.heap.size w W) :=
      fun v W h hb => ⟨v, rfl, h, hb⟩
    have hmk := run_make_ints l.length hl
    have c0 := HBX.out.cell 0
    simp at c0
    clear hw hn hR
    refine (callsIn_wide (n := 20)).1 ?_
    refine callsIn_of_wp_marks Try.func15 rfl trivial ?_ rfl
    simp only [Try.ntmps15, List.size_toArray, List.length_cons, List.length_nil, Nat.reduceAdd, Nat.reduceSub, Array.replicate_succ, Array.replicate_zero, List.push_toArray, List.append_toArray, List.nil_append, List.cons_append]
    gi_wp2_with fail
    generalize w.alloc (.cells #[.slice A l.length c] 23) = W0 at *
    refine ⟨trivial, ?_⟩
    gi_at_call 44
    refine (callsIn_wide.2 HQ.out).mono ?_
    rintro e w2 ⟨v, rfl, (⟨f', hf', hsl⟩ | ⟨h0, -⟩), hb⟩
    · obtain rfl : f = f' := by injection hf'
      have HSL : Hid (SliceIs w2 (· < w2.heap.size) v f) := hsl.keep fun q hq => ⟨hq.2, rfl⟩
      have HB := Lib.hid (HB0.out.trans (hb.mono HB0.out.size))
      have HBX2 : Hid (Row w2 w.heap.size 23 #[.slice A l.length c]) := HBX.out.below hb (by have := HZ0.out; omega)
      have HW2 : Hid (Segs w2 w2.heap.size A l) := (HW1.out.below hb).more hb.size
      have hz2 : w.heap.size < w2.heap.size := by have := hb.size; have := HZ0.out; omega
      obtain ⟨A2, cap2, rfl, -⟩ := id hsl
      have c2 : w2.cell? ⟨w.heap.size, 0, none⟩ = some (.slice A l.length c) := HBX2.out.cell 0
      clear hsl hb hf' HQ c0 HBX HW1 HB0 HZ0
      gi_wp2_with fail
      refine ⟨trivial, ?_⟩
      gi_at_call 46
      refine (callsIn_wide.2 (chainsOf_any _ _ _ _ _)).mono ?_
      rintro e w3 ⟨rfl, rfl⟩
      gi_wp2
      have hz0 : ((((w2.alloc (.cells (madeCells #[.int .i64 0] l.length) 3)).alloc (.cells #[.slice (some ⟨w2.heap.size, 0, none⟩) l.length l.length] 29)).alloc (.cells #[.string ⟨#[]⟩] 9)).alloc (.cells #[.slice A2 f.len cap2] 54)).heap.size = w2.heap.size + 4 := by simp
      have hM0 : Si.OwnInts ((((w2.alloc (.cells (madeCells #[.int .i64 0] l.length) 3)).alloc (.cells #[.slice (some ⟨w2.heap.size, 0, none⟩) l.length l.length] 29)).alloc (.cells #[.string ⟨#[]⟩] 9)).alloc (.cells #[.slice A2 f.len cap2] 54)) w2.heap.size (.slice (some ⟨w2.heap.size, 0, none⟩) l.length l.length) (cntRow l ([].map fixC)) :=
        (((OwnInts_made w2 (Nat.le_refl _) l hl).below ((Below.refl _ _).alloc (Nat.le_refl _) _)).below ((Below.refl _ _).alloc (Nat.le_refl _) _)).below ((Below.refl _ _).alloc (Nat.le_refl _) _)
      have hrC : Row ((((w2.alloc (.cells (madeCells #[.int .i64 0] l.length) 3)).alloc (.cells #[.slice (some ⟨w2.heap.size, 0, none⟩) l.length l.length] 29)).alloc (.cells #[.string ⟨#[]⟩] 9)).alloc (.cells #[.slice A2 f.len cap2] 54)) (w2.heap.size + 1) 29 #[.slice (some ⟨w2.heap.size, 0, none⟩) l.length l.length] := by
        have := Row.new (w2.alloc (.cells (madeCells #[.int .i64 0] l.length) 3)) 29 #[.slice (some ⟨w2.heap.size, 0, none⟩) l.length l.length]
        rw [World.size_alloc] at this
        exact (this.alloc _).alloc _
      have hr1 : Row ((((w2.alloc (.cells (madeCells #[.int .i64 0] l.length) 3)).alloc (.cells #[.slice (some ⟨w2.heap.size, 0, none⟩) l.length l.length] 29)).alloc (.cells #[.string ⟨#[]⟩] 9)).alloc (.cells #[.slice A2 f.len cap2] 54)) (w2.heap.size + 2) 9 #[.string ⟨#[]⟩] := by
        have := Row.new ((w2.alloc (.cells (madeCells #[.int .i64 0] l.length) 3)).alloc (.cells #[.slice (some ⟨w2.heap.size, 0, none⟩) l.length l.length] 29)) 9 #[.string ⟨#[]⟩]
        rw [World.size_alloc, World.size_alloc] at this
        exact this.alloc _
      have hr2 : Row ((((w2.alloc (.cells (madeCells #[.int .i64 0] l.length) 3)).alloc (.cells #[.slice (some ⟨w2.heap.size, 0, none⟩) l.length l.length] 29)).alloc (.cells #[.string ⟨#[]⟩] 9)).alloc (.cells #[.slice A2 f.len cap2] 54)) (w2.heap.size + 3) 54 #[.slice A2 f.len cap2] := by
        have := Row.new (((w2.alloc (.cells (madeCells #[.int .i64 0] l.length) 3)).alloc (.cells #[.slice (some ⟨w2.heap.size, 0, none⟩) l.length l.length] 29)).alloc (.cells #[.string ⟨#[]⟩] 9)) 54 #[.slice A2 f.len cap2]
        rw [World.size_alloc, World.size_alloc, World.size_alloc] at this
        exact this
      have hb0 : Below w2.heap.size w2 ((((w2.alloc (.cells (madeCells #[.int .i64 0] l.length) 3)).alloc (.cells #[.slice (some ⟨w2.heap.size, 0, none⟩) l.length l.length] 29)).alloc (.cells #[.string ⟨#[]⟩] 9)).alloc (.cells #[.slice A2 f.len cap2] 54)) := ((((Below.refl _ w2).alloc (Nat.le_refl _) _).alloc (by simp) _).alloc (by simp; omega) _).alloc (by simp; omega) _
      generalize (((w2.alloc (.cells (madeCells #[.int .i64 0] l.length) 3)).alloc (.cells #[.slice (some ⟨w2.heap.size, 0, none⟩) l.length l.length] 29)).alloc (.cells #[.string ⟨#[]⟩] 9)).alloc (.cells #[.slice A2 f.len cap2] 54) = W0 at *
      refine wpIn_rangeFunc_R (by omega) (gf := 80) (lb := #[.pointer (some ⟨w2.heap.size + 1 + 1 + 1, 0, none⟩), .pointer (some ⟨w2.heap.size + 1 + 1, 0, none⟩)]) rfl (enters_of Try.func80 (by kernel_rfl) rfl)
        (chains1_seq w2.heap.size (w2.heap.size + 1) fixC (f.size + 1) f [] f.size 19 (w2.heap.size + 3) (w2.heap.size + 2) (.slice A2 f.len cap2) W0 (by omega) (by simp; omega) HFX.out ⟨.inr (by omega), by decide, hr2⟩ ⟨.inr (by omega), by decide, hr1⟩ (HSL.out.below hb0) (by omega) (Nat.le_refl _) (by omega))
        (by omega) (by omega) (Below.refl _ _) (fun _ => rfl)
        (fun pre X => Si.OwnInts X w2.heap.size (.slice (some ⟨w2.heap.size, 0, none⟩) l.length l.length) (cntRow l (pre.map fixC)) ∧ Row X (w2.heap.size + 1) 29 #[.slice (some ⟨w2.heap.size, 0, none⟩) l.length l.length] ∧ Below w2.heap.size w2 X)
        (fun _ _ _ => False)
        (fun pre X Y row hs hg hr => ⟨own_grownT hs.1 hg (fun r e => (hr r e).2), row_grownT hs.2.1 hg hr, hs.2.2.grown hg hs.2.2.size (fun k e => by have := (hr k e).1; omega)⟩)
        (fun _ _ _ _ _ hs _ _ => hs)
        ⟨hM0, hrC, hb0⟩
        (fun x => { tmps := #[.slice A l.length c, .string t, .pointer (some ⟨w.heap.size, 0, none⟩), undef, .slice none 0 0, .bool false, .slice A2 f.len cap2, .bool true, .pointer (some ⟨w2.heap.size + 1, 0, none⟩), .string (strOf (fixC x)), undef, undef, .tuple #[.slice A2 f.len cap2, .bool true], .slice A l.length c, .string t, .tuple #[.slice A2 f.len cap2, .bool true], .slice A2 f.len cap2, .bool true, .bool true, .bool false, .slice A l.length c, .int .i64 l.length, .slice (some ⟨w2.heap.size, 0, none⟩) l.length l.length, .slice A2 f.len cap2, .func (.func 80) #[] #[.pointer (some ⟨w2.heap.size + 1 + 1 + 1, 0, none⟩), .pointer (some ⟨w2.heap.size + 1 + 1, 0, none⟩)], .string (strOf (fixC x)), undef, undef, undef, undef, undef, undef, undef, undef, undef, undef, undef, undef, undef, undef, undef, undef, undef, undef, undef], defers := [] }) ?assign ?body ?done ?stop
      case assign =>
        intro l2 x X K hK
        gi_wp2
        exact hK
      case body =>
        rintro l2 pre x X ⟨hM, hrX, hbX⟩ hlen hz
        have HM := Lib.hid hM
        have HRX := Lib.hid hrX
        have HBX' := Lib.hid hbX
        have cT : X.cell? ⟨w.heap.size, 0, none⟩ = some (.slice A l.length c) := (hbX.cell (p := ⟨w.heap.size, 0, none⟩) hz2).trans c2
        obtain ⟨hfx1, hfx2⟩ := fixC_ok x
        have hss : (strOf (fixC x)).size ≤ 9223372036854775807 := by rw [str_size]; omega
        have HSF : Hid (∀ k (hk : k < l.length), Lib.hasSuffix (strOf (fixC x)).data.toList (l[k]'hk).name.data.toList = decide (indexB l ⟨#[lastB (fixC x)]⟩ = (k : Int))) := fun k hk => suffix_index HV.out hk hfx1
        have HMR := Lib.hid (fun k => @midRow_no l (pre.map fixC) (fixC x) k)
        have HMY := Lib.hid (fun k => @midRow_yes l (pre.map fixC) (fixC x) k)
        have HMA := Lib.hid (fun k i => @midRow_at l (pre.map fixC) (fixC x) k i)
        have HML := Lib.hid (fun k => midRow_len l (pre.map fixC) (fixC x) k)
        have HM0 : Hid (Si.OwnInts X w2.heap.size (.slice (some ⟨w2.heap.size, 0, none⟩) l.length l.length) (midRow l (pre.map fixC) (fixC x) 0)) := by
          show Si.OwnInts _ _ _ _
          rw [midRow_zero]; exact hM
        clear hM hrX hbX hfx1 hfx2
        have HKX : Hid (KeepsN (w2.heap.size + 1) X X) := KeepsN.refl _ X
        have HX0 : Hid (Below w2.heap.size X X) := Below.refl _ X
        have HZX := Lib.hid hz
        have HCL : Hid (∀ k, cntAt l (pre.map fixC) k ≤ 80) := fun k => by
          have := cntAt_le l (pre.map fixC) k
          rw [List.length_map] at this
          omega
        gi_wp2
        gi_loopw [28] (fun i wr => ∃ k : Nat, k ≤ l.length ∧ i = .int .i64 k ∧ Hid (Si.OwnInts wr w2.heap.size (.slice (some ⟨w2.heap.size, 0, none⟩) l.length l.length) (midRow l (pre.map fixC) (fixC x) k)) ∧ Hid (Row wr (w2.heap.size + 1) 29 #[.slice (some ⟨w2.heap.size, 0, none⟩) l.length l.length]) ∧ Hid (Below w2.heap.size X wr) ∧ Hid (KeepsN (w2.heap.size + 1) X wr))
          (fun i _ => l.length - (intOf i).toNat)
        case atStart => exact ⟨0, Nat.zero_le _, rfl, HM0, HRX, HX0, HKX⟩
        case round =>
          obtain ⟨k, hk, rfl, HMk, HRk, HBk, HKk⟩ := hrel
          clear HM0 HRX HX0 HKX cT
          have hk0 : (0 : Int) ≤ (k : Int) := Int.natCast_nonneg _
          by_cases hlt : k < l.length
          · have hlt' : (k : Int) < (l.length : Int) := by omega
            have HWk : Hid (Segs wr w2.heap.size A l) := HW2.out.below (HBX'.out.trans HBk.out)
            have g1 : wr.cell? ⟨w2.heap.size + 1, 0, none⟩ = some (.slice (some ⟨w2.heap.size, 0, none⟩) l.length l.length) := HRk.out.cell 0
            obtain ⟨b, o, rfl, hB, hc⟩ := HWk.out (by omega)
            obtain ⟨e1, e2, e3⟩ := hc k _ (List.getElem?_eq_getElem hlt)
            have HS := Lib.hid (HSF.out k hlt)
            have HD0 : Hid (Below w2.heap.size X (wr.alloc (.cells #[.string l[k].name, .int .i64 l[k].size, .int .i64 l[k].par] 36))) := HBk.out.trans ((Below.refl _ wr).alloc (by have := HBk.out.size; have := HZX.out; omega) _)
            clear hc HWk
            gi_wp2_with fail
            refine ⟨trivial, ?_⟩
            gi_at_call 52
            refine (CallsIn.inRound l2 (callsIn_wide.2 (Try.strings_HasSuffix _ _ _ hss))).mono ?_
            rintro e w3 ⟨rfl, rfl⟩
            rw [HS.out]
            have hM3 : Si.OwnInts (wr.alloc (.cells #[.string l[k].name, .int .i64 l[k].size, .int .i64 l[k].par] 36)) w2.heap.size (.slice (some ⟨w2.heap.size, 0, none⟩) (midRow l (pre.map fixC) (fixC x) k).length l.length) (midRow l (pre.map fixC) (fixC x) k) := by
              rw [HML.out]; exact HMk.out.below ((Below.refl _ wr).alloc (Nat.le_refl _) _)
            have hR3 := HRk.out.alloc (.cells #[.string l[k].name, .int .i64 l[k].size, .int .i64 l[k].par] 36)
            have hK3 : Hid (KeepsN (w2.heap.size + 1) X (wr.alloc (.cells #[.string l[k].name, .int .i64 l[k].size, .int .i64 l[k].par] 36))) := HKk.out.trans (KeepsN.alloc _ _ _)
            have hLR := Lib.hid (HML.out k)
            by_cases hd : indexB l ⟨#[lastB (fixC x)]⟩ = (k : Int)
            · rw [decide_eq_true hd]
              have hq0 := HMA.out k k hlt
              rw [if_neg (fun e => Nat.lt_irrefl _ e.1), Int.add_zero] at hq0
              have hq1 := HCL.out k
              have HY := Lib.hid (HMY.out k hd hlt)
              have HQ0 := Lib.hid hq0
              clear hq0 HMk HMR HMY HMA HML HCL HSF HS hd
              generalize hW9 : wr.alloc (.cells #[.string l[k].name, .int .i64 l[k].size, .int .i64 l[k].par] 36) = W9 at *
              generalize hmy : midRow l (pre.map fixC) (fixC x) (k + 1) = row' at HY
              generalize midRow l (pre.map fixC) (fixC x) k = row at HQ0 HY hM3 hLR
              generalize cntAt l (pre.map fixC) k = q at *
              have d1 := hR3.cell 0
              have d0 := Si.intsCell hM3 HQ0.out
              have z0 := Si.intsFree hM3 k
              have hM4 := Si.intsStore hM3 k ((q : Int) + 1)
              rw [hLR.out, ← HY.out] at hM4
              have HM4 := Lib.hid hM4
              have HR4 := Lib.hid hR3
              clear hM3 hM4 hR3 HQ0 HY hLR hW9
              gi_wp2_with fail
              go_roundw
              case rel => exact ⟨k + 1, by omega, by simp, by rw [hmy]; exact HM4, Row.far HR4.out (p := ⟨w2.heap.size, k, none⟩) (by show w2.heap.size + 1 ≠ w2.heap.size; omega) _, HD0.out.setCell (p := ⟨w2.heap.size, k, none⟩) (Nat.le_refl _) _, hK3.out.trans ⟨by simp [World.setCell], fun j o hj ho _ => (Below.heap_setCell W9 ⟨w2.heap.size, k, none⟩ _ j (by show j ≠ w2.heap.size; omega)).trans ho⟩⟩
              case measure => simp [intOf]; omega
            · rw [decide_eq_false hd]
              have HY := Lib.hid (HMR.out k hd)
              clear HMk HMR HMY HMA HML HCL HSF HS hd
              generalize hW9 : wr.alloc (.cells #[.string l[k].name, .int .i64 l[k].size, .int .i64 l[k].par] 36) = W9 at *
              rw [hLR.out, ← HY.out] at hM3
              generalize hmy : midRow l (pre.map fixC) (fixC x) (k + 1) = row' at HY
              have HM4 := Lib.hid hM3
              have HR4 := Lib.hid hR3
              clear hM3 hR3 HY hLR hW9
              gi_wp2_with fail
              go_roundw
              case rel => exact ⟨k + 1, by omega, by simp, HM4, HR4, HD0, hK3⟩
              case measure => simp [intOf]; omega
          · obtain rfl : k = l.length := by omega
            have HE1 := Lib.hid (midRow_end l (pre.map fixC) (fixC x))
            have HB9 := Lib.hid (HBX'.out.trans HBk.out)
            gi_wp2
            refine ⟨by rw [Nat.min_eq_right (by omega)]; exact HKk.out, HBk.out, ?_, HRk.out, HB9.out⟩
            rw [List.map_append, List.map_cons, List.map_nil, ← HE1.out]
            exact HMk.out
      case done =>
        rintro L ys X hL rfl ⟨hM, hrX, hbX⟩ hK
        have d1 : X.cell? ⟨w2.heap.size + 1, 0, none⟩ = some (.slice (some ⟨w2.heap.size, 0, none⟩) l.length l.length) := hrX.cell 0
        have hmap : (chainsB [] f).map fixC = chainsB [] f := by
          conv => rhs; rw [← List.map_id (chainsB [] f)]
          exact List.map_congr_left fun x hx => HFX.out x hx
        rw [hmap] at hM
        have HM := Lib.hid hM
        have HBX' := Lib.hid hbX
        clear hM hrX hbX hmap
        gi_wp2
        refine ⟨by simp, .inl ⟨_, _, rfl, run_takeDeferred hK, ?_⟩⟩
        refine ⟨_, results_tmp2 rfl _ _ _, ?_⟩
        refine HE.out _ _ (own_low (own_grownT HM.out (grownBy_putObj' X L _) (fun r e => by cases e; exact ⟨_, hK, rfl⟩)) HB.out.size) ((HB.out.trans (HBX'.out.mono HB.out.size)).trans (belowK_b (w := w) (Nat.le_refl _) X L _ _ (by omega) hK rfl rfl))
      case stop =>
        rintro L c' pre X _ _ h _
        exact h.elim
    · cases h0

end Go.Proofs.Ytafpefjjeddmeaa
