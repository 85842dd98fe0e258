/- Joined: Fz Gz Bb Ja. -/
import Derived.Test.YtbmfbnlmdjnddaaU26
import Derived.Test.YtbmfbnlmdjnddaaU23
import Derived.Maps.OwnIn
import Derived.Maps.AppendAt
import Derived.Deep.AppendLies
import Derived.Test.YtbmfbnlmdjnddaaU20
import Derived.Test.YtbmfbnlmdjnddaaU24
/- Chains gathered into a slice: the program's ChainsOf and CountCalls. -/
namespace Go.Proofs.Ytbmfbnlmdjnddaa
open Go.RowKit Go.Shelf
attribute [local go_sem] Oper.semAt_some

def txt (x : List UInt8) : Value := .string (strOf x)
theorem row_grownT {W W' : World} {b : Nat} {t : TypeId} {cs : Array Value} {row : Option Nat} (h : Row W b t cs) (hg : W.grownBy W' row) {B : Nat} (hr : ∀ r, row = some r → B ≤ r ∧ ∃ o : Obj, W.heap[r]? = some o ∧ o.isCells = false) : Row W' b t cs :=
  (hg.block b h.lt (fun he => by
    obtain ⟨_, o, ho, hc⟩ := hr b he.symm
    have h' : W.heap[b]? = some (.cells cs t (0, 0)) := h
    rw [h'] at ho
    injection ho with ho
    subst ho
    cases hc)).trans h
theorem own_grownT {W W' : World} {base n : Nat} {e : TypeId} {v : Value} {xs : List Value} {row : Option Nat} (h : W.ownsRow base e 1 v n xs) (hg : W.grownBy W' row) (hr : ∀ r, row = some r → ∃ o : Obj, W.heap[r]? = some o ∧ o.isCells = false) : W'.ownsRow base e 1 v n xs :=
  own_keep h fun g hb => hg.block g ((h.lt g hb).2) (fun he => by
    obtain ⟨o, ho, hc⟩ := hr g he.symm
    rcases h.2 with ⟨rfl, _⟩ | ⟨g', cap, cur, rfl, _, hh, _⟩
    · simp [Value.ownBlock] at hb
    · have : g' = g := by simpa [Value.ownBlock] using hb
      subst this
      rw [hh] at ho
      injection ho with ho
      subst ho
      cases hc)

/-- What is firm stays. -/
def SteadyT (W W' : World) : Prop := ∀ (k : Nat) (o : Obj), W.heap[k]? = some o → Firm o → W'.heap[k]? = some o

/-- One node's pointer is put behind those that were gathered: only a row of two cells or more is written in place. -/
theorem run_append_firmT (w : World) (ty base n : Nat) (v : Value) (xs : List Value) (hown : w.ownsRow base 9 1 v n xs) (h0 : n = 0 → v = .slice none 0 0) (ad : Addr) (u : Value)
    (hnews : ∀ j y, [u][j]? = some y → w.cell? (ad.add j) = some y) (h1 : ∀ y ∈ [u], y.oneCell' = true) (hn : n ≤ 1000) (hbase : base ≤ w.heap.size) :
    ∃ g cap w', (Builtin.append_ #[24, 24] ty #[v, .slice (some ad) 1 1]).run Try.prog w = .ok (.slice (some ⟨g, 0, none⟩) (n + 1) cap) w' ∧
      w'.ownsRow base 9 1 (.slice (some ⟨g, 0, none⟩) (n + 1) cap) (n + 1) (xs ++ [u]) ∧ w.grownBy w' v.ownBlock ∧ SteadyT w w' := by
  obtain ⟨i0, hi, hz0, hz1, hz2⟩ := info_parts info_str
  obtain ⟨v', w', hr, h2, h3, -, -⟩ := run_append_own_at (P := Try.prog) w base 24 ty 9 i0 (.string ByteArray.empty) 1 16 Try.underlying24 hi hz0 hz1 hz2 rfl (by decide) v n xs hown ad 1 1 [u] rfl hnews h1 (by unfold maxLen; omega) (by omega) hbase
  obtain ⟨g, cap, rfl⟩ := own_form h2 (by omega)
  refine ⟨g, cap, w', hr, h2, h3, ?_⟩
  rcases hown.2 with ⟨rfl, rfl⟩ | ⟨g', cap', cur, rfl, hbg, hg, hnc, hcm, hcs, htake⟩
  · have hr2 := run_append_nil (P := Try.prog) w 24 ty 9 i0 (.string ByteArray.empty) Try.underlying24 hi hz0 ad 1 1 [u] (by rw [hz1]; rfl) hnews (by decide) (by decide) (by rw [hz2]; decide)
    rw [hr] at hr2
    injection hr2 with _ hw
    subst hw
    exact fun k o hk _ => (Below.heap_alloc w.drew _ k (Array.getElem?_eq_some_iff.1 hk).1).trans hk
  · by_cases hc : n + 1 ≤ cap'
    · refine fun k o hk hf => (h3.block k (Array.getElem?_eq_some_iff.1 hk).1 (fun he => ?_)).trans hk
      have he' : k = g' := by simpa [Value.ownBlock] using he
      subst he'
      rw [hg] at hk
      injection hk with hk
      have := (hf cur _ _ hk.symm).2.resolve_right (by decide)
      have hn1 : 0 < n := Nat.pos_of_ne_zero fun e => by have := h0 e; cases this
      omega
    · obtain ⟨v2, w2, hr2, -, hg2⟩ := run_append_arg_grows (P := Try.prog) w 24 ty 9 i0 (.string ByteArray.empty) 1 16 Try.underlying24 hi hz0 hz1 hz2 rfl (by decide) ⟨g', 0, none⟩ n cap' xs hown.1
        (fun j y hj => by
          have h5 : w.cell? ⟨g', 0 + j, none⟩ = some y := by
            rw [Nat.zero_add, hown.cellAt j (by have := (List.getElem?_eq_some_iff.1 hj).1; have := hown.1; omega)]
            exact hj
          rw [WideShapes.add_plain]
          exact h5) ad 1 1 [u] rfl hnews (by omega) (by unfold maxLen; omega) (by omega)
      rw [hr] at hr2
      injection hr2 with _ hw
      subst hw
      exact fun k o hk _ => (hg2.block k (Array.getElem?_eq_some_iff.1 hk).1 (fun he => by cases he)).trans hk

theorem wpListIn_append_firmT {F : Fence} {nF : Nat} {w : World} {ops : Array Oper} {rest : List Oper} {o : Oper} {a : Act} {Q : Exit → Act → World → Prop} (hgd : o.guard = none) (s x : Operand)
    (ho : o.op = .call { callee := .builtin .append, args := #[s, x], argTypes := #[24, 24] })
    (base n : Nat) (v : Value) (xs : List Value) (hs : a.eval s = v) (hown : w.ownsRow base 9 1 v n xs) (h0 : n = 0 → v = .slice none 0 0) (ad : Addr) (u : Value) (hx : a.eval x = .slice (some ad) 1 1)
    (hnews : ∀ j y, [u][j]? = some y → w.cell? (ad.add j) = some y) (h1 : ∀ y ∈ [u], y.oneCell' = true) (hn : n ≤ 1000) (hbase : base ≤ w.heap.size)
    (h : ∀ g cap w', w'.ownsRow base 9 1 (.slice (some ⟨g, 0, none⟩) (n + 1) cap) (n + 1) (xs ++ [u]) → w.grownBy w' v.ownBlock → SteadyT w w' → wpListIn F nF Try.prog ops Q rest (a.put o.dst (.slice (some ⟨g, 0, none⟩) (n + 1) cap)) w') :
    wpListIn F nF Try.prog ops Q (o :: rest) a w := by
  refine wpListIn_plain hgd fun K hK => ?_
  obtain ⟨g, cap, w', hr, h2, h3, h4⟩ := run_append_firmT w o.type base n v xs hown h0 ad u hnews h1 hn hbase
  unfold Oper.wpIn
  refine ⟨by simp [Oper.about, ho, resolve, Target.leads, Sem.run_pure], ?_⟩
  rw [Oper.semAt_plain F _ _ (by rw [ho]; intro c hc'; cases hc')]
  simp [execOp, ho, resolve, invoke, builtin, hs, hx, hr, Result.andThen]
  exact hK _ _ (h g cap w' h2 h3 h4)

/-- What was gathered: the box holds a slice of the call's own. -/
structure GathT (w : World) (T : List (List UInt8)) (W : World) : Prop where
  ex : ∃ v, Row W w.heap.size 24 #[v] ∧ W.ownsRow (w.heap.size + 1) 9 1 v T.length (T.map txt) ∧ (T.length = 0 → v = .slice none 0 0)
  below : Below w.heap.size w W
theorem GathT.grown {w W W' : World} {T : List (List UInt8)} {B : Nat} {row : Option Nat} (h : GathT w T W) (hg : W.grownBy W' row) (hB : w.heap.size ≤ B) (hr : ∀ r, row = some r → B ≤ r ∧ ∃ o : Obj, W.heap[r]? = some o ∧ o.isCells = false) : GathT w T W' := by
  obtain ⟨⟨v, h1, h2, h3⟩, hb⟩ := h
  exact ⟨⟨v, row_grownT h1 hg hr, own_grownT h2 hg (fun r e => (hr r e).2), h3⟩, hb.grown hg hb.size (fun k e => by have := (hr k e).1; omega)⟩

set_option maxRecDepth 100000 in
set_option maxHeartbeats 2000000 in
theorem appendSeq_anyT {gf : Nat} {lb : Array Value} (w : World) (S Sp : List (List UInt8) → Prop) (N : Nat) (hN : N ≤ 1000) (heg : ∀ args w, (callFunc gf args).run Try.prog w = .ok (.enter gf args) w)
    (hseq : SeqR 19 gf lb (fun x : List UInt8 => #[.string (strOf x)]) w.heap.size (w.heap.size + 3) S Sp N w) :
    Calls Try.prog 143 #[.slice none 0 0, .func (.func gf) #[] lb] w fun e w' => (∃ xs v, S xs ∧ e = .returned v ∧ w'.ownsRow (w.heap.size + 1) 9 1 v xs.length (xs.map txt)) ∧ Below w.heap.size w w' := by
  refine (callsIn_wide (n := 20)).1 ?_
  refine callsIn_of_wp_marks Try.func143 rfl trivial ?_ rfl
  simp only [Try.ntmps143, List.size_toArray, List.length_cons, List.length_nil, Nat.reduceAdd, Nat.reduceSub, Array.replicate_succ, Array.replicate_zero, List.push_toArray, List.append_toArray, List.nil_append, List.cons_append]
  gi_wp2
  have hB0 : Below w.heap.size w (w.alloc (.cells #[.slice none 0 0] 24)) := (Below.refl _ w).alloc (Nat.le_refl _) _
  have hI0 : GathT w [] (w.alloc (.cells #[.slice none 0 0] 24)) := ⟨⟨.slice none 0 0, Row.new _ _ _, World.ownsRow_nil _ _ _ _, fun _ => rfl⟩, hB0⟩
  refine wpIn_rangeFunc_R (by omega) (gf := gf) (lb := lb) rfl heg hseq (by simp) (by simp) hB0 (fun _ => rfl)
    (fun pre W => GathT w pre W)
    (fun _ _ _ => False)
    (fun _ _ _ _ h hg hr => h.grown hg (by simp) hr)
    (fun _ _ _ _ _ hs _ _ => hs)
    hI0
    (fun x => { tmps := #[.slice none 0 0, .func (.func gf) #[] lb, .pointer (some ⟨w.heap.size, 0, none⟩), undef, .slice none 0 0, .string (strOf x), .func (.func gf) #[] lb, .string (strOf x), undef, undef, undef, undef, undef], defers := [] }) ?assign ?body ?done ?stop
  case assign =>
    intro l x W K hK
    gi_wp2
    exact hK
  case body =>
    rintro l' pre x W ⟨⟨v, hrow, hown, hv0⟩, hB⟩ hlen hz
    have c1 : W.cell? ⟨w.heap.size, 0, none⟩ = some v := hrow.cell 0
    have hz' : w.heap.size + 3 ≤ W.heap.size := by simpa using hz
    have HR := Lib.hid hrow
    have HO := Lib.hid hown
    have HV := Lib.hid hv0
    have HB := Lib.hid hB
    clear hrow hown hv0 hB hz
    have hbx : w.heap.size < W.heap.size := by omega
    gi_wp2_with (gi_at_builtin; refine wpListIn_append_firmT rfl _ _ rfl (w.heap.size + 1) _ _ _ rfl (own_grownT HO.out (World.grownBy_alloc W _ none) (fun r e => by cases e)) HV.out ⟨W.heap.size, 0, none⟩ (.string (strOf x)) rfl (cell_one_new _ _ _) (by simp [Value.oneCell']) (by omega) (by simp; omega) ?_; intro g cap w1 hown1 hgrow hst; have hrow1 : Row w1 w.heap.size 24 #[v] := (hgrow.block _ (HR.out.alloc _).lt (fun he => own_ne HO.out HR.out (by decide) he.symm)).trans (HR.out.alloc _); have d1 : w1.cell? ⟨w.heap.size, 0, none⟩ = some v := hrow1.cell 0; have z1 : w1.frozen? ⟨w.heap.size, 0, none⟩ = false := hrow1.free 0; have HR1 := Lib.hid hrow1; have HO1 := Lib.hid hown1; have HS := Lib.hid hst; have HG := Lib.hid hgrow; clear hrow1 hown1 hst hgrow)
    have hsz : W.heap.size + 1 ≤ w1.heap.size := by have := HG.out.size; simpa using this
    have e2 : (pre ++ [x]).map txt = pre.map txt ++ [.string (strOf x)] := by rw [List.map_append]; rfl
    refine ⟨⟨by simp; omega, fun k o hk ho hf => ?_⟩, ?_, ⟨⟨_, HR1.out.put 0 _, ?_, ?_⟩, ?_⟩⟩
    · have hk' : w.heap.size + 1 ≤ k := by simp at hk; omega
      have h1 := HS.out k o ((Below.heap_alloc W _ k (Array.getElem?_eq_some_iff.1 ho).1).trans ho) hf
      exact (Below.heap_setCell w1 _ _ k (by show k ≠ w.heap.size; omega)).trans h1
    · exact (((Below.refl w.heap.size W).alloc (by omega) _).grown HG.out (by simp; omega) (fun k e => by have := (HO.out.lt k e).1; omega)).setCell (Nat.le_refl _) _
    · have h5 := HO1.out
      rw [e2, List.length_append]
      exact own_set h5 HR1.out (by decide) 0 _
    · rw [List.length_append]
      intro h; simp at h
    · exact (((HB.out.alloc HB.out.size _)).grown HG.out (by simp; omega) (fun k e => by have := (HO.out.lt k e).1; omega)).setCell (Nat.le_refl _) _
  case done =>
    rintro D ys W hD hS hI hK
    obtain ⟨⟨v, hrow, hown, -⟩, hB⟩ := hI
    have c1 : W.cell? ⟨w.heap.size, 0, none⟩ = some v := hrow.cell 0
    have HO := Lib.hid hown
    have HB := Lib.hid hB
    clear hrow hown hB
    gi_wp2
    refine ⟨by simp, .inl ⟨_, _, rfl, run_takeDeferred hK, ?_⟩⟩
    refine ⟨_, results_tmp rfl _ _ _, ⟨ys, v, hS, rfl, ?_⟩, HB.out.trans (belowK_b (w := w) (Nat.le_refl _) W D _ _ (by simp at hD; omega) hK rfl rfl)⟩
    exact own_grownT HO.out (grownBy_putObj' W D _) (fun r e => by cases e; exact ⟨_, hK, rfl⟩)
  case stop =>
    rintro D c pre W _ _ h _
    exact h.elim

set_option maxRecDepth 100000 in
set_option maxHeartbeats 400000 in
theorem collect_anyT {gf : Nat} {lb : Array Value} (w : World) (S Sp : List (List UInt8) → Prop) (N : Nat) (hN : N ≤ 1000) (heg : ∀ args w, (callFunc gf args).run Try.prog w = .ok (.enter gf args) w)
    (hseq : SeqR 19 gf lb (fun x : List UInt8 => #[.string (strOf x)]) w.heap.size (w.heap.size + 3) S Sp N w) :
    Calls Try.prog 139 #[.func (.func gf) #[] lb] w fun e w' => (∃ xs v, S xs ∧ e = .returned v ∧ w'.ownsRow (w.heap.size + 1) 9 1 v xs.length (xs.map txt)) ∧ Below w.heap.size w w' := by
  have HC := Lib.hid (appendSeq_anyT w S Sp N hN heg hseq)
  clear hseq heg
  go_enter Try.func139, Try.ntmps139
  go_wp2_with fail
  refine HC.out.mono ?_
  rintro e w1 ⟨⟨xs, v, hS, rfl, hown⟩, hb⟩
  have HO := Lib.hid hown
  clear hown
  go_wp2
  go_ret
  exact ⟨⟨xs, v, hS, rfl, HO.out⟩, hb⟩

end Go.Proofs.Ytbmfbnlmdjnddaa
/- How often each segment is called: the program's. -/
namespace Go.Proofs.Ytbmfbnlmdjnddaa
open Go.RowKit Go.Shelf
attribute [local go_sem] Oper.semAt_some

/-- A chain as a round is handed it: never empty, never long. -/
def fixC (x : List UInt8) : List UInt8 := if x ≠ [] ∧ x.length ≤ 1000 then x else [0]
theorem fixC_ok (x : List UInt8) : fixC x ≠ [] ∧ (fixC x).length ≤ 1000 := by
  unfold fixC
  split
  · next h => exact h
  · exact ⟨by simp, by simp⟩

theorem names_apart {l : List Seg} (hv : validB l = true) {u v : Nat} (huv : u < v) (hvl : v < l.length) : (l[u]'(by omega)).name ≠ l[v].name := fun e => by
  have h1 := (valid_all hv).1 v hvl
  rw [segOk_of hvl] at h1
  simp only [Bool.and_eq_true, Bool.not_eq_true'] at h1
  have h2 := h1.1.1.2
  have h3 : takenB (l.take v) l[v].name = true := by
    refine List.any_eq_true.2 ⟨l[u]'(by omega), ?_, sameB_iff.2 e⟩
    have h4 : (l.take v)[u]? = some (l[u]'(by omega)) := by rw [List.getElem?_take_of_lt huv]; exact List.getElem?_eq_getElem (by omega)
    exact List.mem_of_getElem? h4
  rw [h3] at h2
  cases h2
theorem name_index {l : List Seg} (hv : validB l = true) {i : Nat} (hi : i < l.length) : indexB l l[i].name = (i : Int) := by
  have h1 : indexB l l[i].name = seek l l[i].name := if_pos hv
  have h2 : 0 ≤ seek l l[i].name := by
    have := seekFrom_has l[i].name l 0
    have h3 : takenB l l[i].name = true := List.any_eq_true.2 ⟨l[i], List.getElem_mem hi, sameB_iff.2 rfl⟩
    rw [h3] at this
    exact of_decide_eq_true this
  obtain ⟨j, hj⟩ := Int.eq_ofNat_of_zero_le h2
  obtain ⟨x, hx, hn⟩ := seek_name hj
  obtain ⟨hjl, rfl⟩ := List.getElem?_eq_some_iff.1 hx
  rw [h1, hj]
  rcases Nat.lt_trichotomy j i with h | h | h
  · exact absurd hn (names_apart hv h hi)
  · rw [h]
  · exact absurd hn.symm (names_apart hv h hjl)
/-- A chain ends with a segment's name just where this is the one that is called last. -/
theorem suffix_index {l : List Seg} (hv : validB l = true) {i : Nat} (hi : i < l.length) {x : List UInt8} (hx : x ≠ []) : Lib.hasSuffix x l[i].name.data.toList = decide (indexB l ⟨#[lastB x]⟩ = (i : Int)) := by
  obtain ⟨d, hd, _, _⟩ := nameOk_one (validB_names hv (List.getElem_mem hi))
  obtain ⟨y, c, rfl⟩ : ∃ y c, x = y ++ [c] := ⟨x.dropLast, x.getLast hx, (List.dropLast_concat_getLast hx).symm⟩
  have hni := name_index hv hi
  rw [hd] at hni ⊢
  rw [lastB_snoc]
  unfold Lib.hasSuffix
  show [d].isSuffixOf (y ++ [c]) = _
  have h1 : [d].isSuffixOf (y ++ [c]) = decide (d = c) := by
    by_cases h : d = c
    · subst h; simp [List.isSuffixOf_iff_suffix]
    · have : ¬ [d] <:+ y ++ [c] := fun ⟨z, hz⟩ => h (by have := congrArg List.getLast? hz; simpa using this)
      rw [decide_eq_false h, Bool.eq_false_iff]
      exact fun hh => this (List.isSuffixOf_iff_suffix.1 hh)
  rw [h1]
  by_cases h : d = c
  · subst h; rw [decide_eq_true rfl, hni]; simp
  · rw [decide_eq_false h]
    symm
    refine decide_eq_false fun e => h ?_
    rw [show indexB l ⟨#[c]⟩ = seek l ⟨#[c]⟩ from if_pos hv] at e
    obtain ⟨z, hz, hzn⟩ := seek_name (s := ⟨#[c]⟩) e
    obtain ⟨_, rfl⟩ := List.getElem?_eq_some_iff.1 hz
    rw [hd] at hzn
    injection hzn with hzn
    have h3 : [d] = [c] := congrArg Array.toList hzn
    injection h3

/-- The row while the segments are gone through for one more chain. -/
def midRow (l : List Seg) (xs : List (List UInt8)) (x : List UInt8) (k : Nat) : List Int := (List.range l.length).map fun i => (cntAt l xs i : Int) + if i < k ∧ indexB l ⟨#[lastB x]⟩ = (i : Int) then 1 else 0
theorem midRow_len (l : List Seg) (xs : List (List UInt8)) (x : List UInt8) (k : Nat) : (midRow l xs x k).length = l.length := by simp [midRow]
theorem midRow_at (l : List Seg) (xs : List (List UInt8)) (x : List UInt8) (k : Nat) {i : Nat} (hi : i < l.length) : (midRow l xs x k)[i]? = some ((cntAt l xs i : Int) + if i < k ∧ indexB l ⟨#[lastB x]⟩ = (i : Int) then 1 else 0) := by simp [midRow, hi]
theorem midRow_zero (l : List Seg) (xs : List (List UInt8)) (x : List UInt8) : midRow l xs x 0 = cntRow l xs := by simp [midRow, cntRow]
theorem midRow_end (l : List Seg) (xs : List (List UInt8)) (x : List UInt8) : midRow l xs x l.length = cntRow l (xs ++ [x]) := by
  apply List.ext_getElem?
  intro i
  by_cases hi : i < l.length
  · rw [midRow_at l _ _ _ hi, cntRow_at l _ hi, cntAt_snoc]
    by_cases h : indexB l ⟨#[lastB x]⟩ = (i : Int)
    · rw [if_pos ⟨hi, h⟩, if_pos h]; rfl
    · rw [if_neg (fun e => h e.2), if_neg h]; rfl
  · rw [List.getElem?_eq_none (by rw [midRow_len]; omega), List.getElem?_eq_none (by rw [cntRow_len]; omega)]
theorem midRow_no {l : List Seg} {xs : List (List UInt8)} {x : List UInt8} {k : Nat} (h : indexB l ⟨#[lastB x]⟩ ≠ (k : Int)) : midRow l xs x (k + 1) = midRow l xs x k := by
  unfold midRow
  refine List.map_congr_left fun i _ => ?_
  by_cases h1 : i = k
  · subst h1; rw [if_neg (fun e => h e.2), if_neg (fun e => h e.2)]
  · by_cases h2 : i < k
    · by_cases h3 : indexB l ⟨#[lastB x]⟩ = (i : Int)
      · rw [if_pos ⟨by omega, h3⟩, if_pos ⟨h2, h3⟩]
      · rw [if_neg (fun e => h3 e.2), if_neg (fun e => h3 e.2)]
    · rw [if_neg (fun e => by omega), if_neg (fun e => h2 e.1)]
theorem midRow_yes {l : List Seg} {xs : List (List UInt8)} {x : List UInt8} {k : Nat} (h : indexB l ⟨#[lastB x]⟩ = (k : Int)) (hk : k < l.length) : midRow l xs x (k + 1) = (midRow l xs x k).set k ((cntAt l xs k : Int) + 1) := by
  apply List.ext_getElem?
  intro i
  by_cases hi : i < l.length
  · rw [midRow_at l _ _ _ hi]
    by_cases hik : i = k
    · subst hik
      rw [List.getElem?_set_self (by rw [midRow_len]; exact hi), if_pos ⟨by omega, h⟩]
    · rw [List.getElem?_set_ne (fun e => hik e.symm), midRow_at l _ _ _ hi, if_neg (fun e => hik (by have := e.2; omega)), if_neg (fun e => hik (by have := e.2; omega))]
  · rw [List.getElem?_eq_none (by rw [midRow_len]; omega), List.getElem?_eq_none (by rw [List.length_set, midRow_len]; omega)]

end Go.Proofs.Ytbmfbnlmdjnddaa
/- Chains and the kinds of their last calls: plain. -/
namespace Go.Proofs.Ytbmfbnlmdjnddaa
open Go.RowKit

/-- Each chain ends with two names. -/
theorem chainsB_two {P : UInt8 → Bool} : ∀ (f : Forest) (p : List UInt8) (a : UInt8), P a = true → f.all P → ∀ x ∈ chainsB (p ++ [a]) f, ∃ y u v, x = y ++ [u, v] ∧ P u = true ∧ P v = true
  | .nil, _, _, _, _, x, h => by cases h
  | .cons c k r, p, a, ha, hp, x, h => by
    obtain ⟨h1, h2, h3⟩ := hp
    have h' : x ∈ ((p ++ [a]) ++ [c]) :: (chainsB ((p ++ [a]) ++ [c]) k ++ chainsB (p ++ [a]) r) := h
    rcases List.mem_cons.1 h' with rfl | h'
    · exact ⟨p, a, c, by simp, ha, h1⟩
    · rcases List.mem_append.1 h' with h' | h'
      · exact chainsB_two k (p ++ [a]) c h1 h2 x h'
      · exact chainsB_two r p a ha h3 x h'
theorem root_callP {l : List Seg} (hv : validB l = true) : callP l (rootB l) = true := by
  obtain ⟨s, h1, h2⟩ := root_name hv
  obtain ⟨h0, h3⟩ := List.getElem?_eq_some_iff.1 h1
  have h4 := name_index hv h0
  rw [h3, h2] at h4
  unfold callP
  rw [h4]
  rfl
/-- The name ahead of the last one. -/
def penB (x : List UInt8) : UInt8 := lastB x.dropLast
theorem ends_of (y : List UInt8) (u v : UInt8) : lastB (y ++ [u, v]) = v ∧ penB (y ++ [u, v]) = u := by
  have e : y ++ [u, v] = (y ++ [u]) ++ [v] := by simp
  refine ⟨by rw [e, lastB_snoc], ?_⟩
  unfold penB
  rw [e, List.dropLast_concat, lastB_snoc]
theorem trace_two {l : List Seg} {t : ByteArray} {f : Forest} (h : traceB l t.data.toList = some f) : ∀ x ∈ chainsB [rootB l] f, (∃ y u v, x = y ++ [u, v] ∧ callP l u = true ∧ callP l v = true) ∧ x.length ≤ 9 := fun x hx => by
  have hv := (traceB_some h).1
  refine ⟨chainsB_two f [] (rootB l) (root_callP hv) (traceB_all h) x hx, ?_⟩
  have h1 := (chainsB_bound f [rootB l] x hx).1
  have h2 := (traceB_size h).2
  simp at h1
  omega
def kNat (l : List Seg) (x : List UInt8) : Nat := (kindB l ⟨#[penB x]⟩ ⟨#[lastB x]⟩).toNat
theorem kNat_is {l : List Seg} (y : List UInt8) {u v : UInt8} (hu : callP l u = true) (hv : callP l v = true) : kindB l ⟨#[u]⟩ ⟨#[v]⟩ = (kNat l (y ++ [u, v]) : Int) ∧ kNat l (y ++ [u, v]) < 3 := by
  unfold kNat
  rw [(ends_of y u v).1, (ends_of y u v).2]
  have h : 0 ≤ kindB l ⟨#[u]⟩ ⟨#[v]⟩ ∧ kindB l ⟨#[u]⟩ ⟨#[v]⟩ ≤ 2 := by
    unfold kindB
    rw [if_pos (by unfold comOk hasSeg; unfold callP at hu hv; rw [hu, hv]; rfl)]
    exact kindIx_bd _ _ _
  omega
def kCnt (l : List Seg) (xs : List (List UInt8)) (i : Nat) : Nat := (xs.filter fun x => decide (kNat l x = i)).length
theorem kCnt_snoc (l : List Seg) (xs : List (List UInt8)) (x : List UInt8) (i : Nat) : kCnt l (xs ++ [x]) i = kCnt l xs i + if kNat l x = i then 1 else 0 := by
  unfold kCnt
  rw [List.filter_append, List.length_append]
  congr 1
  by_cases h : kNat l x = i
  · simp [h]
  · simp [h]
theorem kCnt_le (l : List Seg) (xs : List (List UInt8)) (i : Nat) : kCnt l xs i ≤ xs.length := List.length_filter_le _ _
def kRow (l : List Seg) (xs : List (List UInt8)) : List Int := (List.range 3).map fun i => (kCnt l xs i : Int)
theorem kRow_len (l : List Seg) (xs : List (List UInt8)) : (kRow l xs).length = 3 := by simp [kRow]
theorem kRow_nil (l : List Seg) : kRow l [] = [0, 0, 0] := rfl
theorem kRow_at (l : List Seg) (xs : List (List UInt8)) {i : Nat} (hi : i < 3) : (kRow l xs)[i]? = some (kCnt l xs i : Int) := by simp [kRow, hi]
theorem kRow_snoc (l : List Seg) (xs : List (List UInt8)) (x : List UInt8) {j : Nat} (hj : kNat l x = j) (hj3 : j < 3) : kRow l (xs ++ [x]) = (kRow l xs).set j ((kCnt l xs j : Int) + 1) := by
  apply List.ext_getElem?
  intro i
  by_cases hi : i < 3
  · rw [kRow_at l _ hi, kCnt_snoc, hj]
    by_cases hij : i = j
    · subst hij
      rw [List.getElem?_set_self (by rw [kRow_len]; exact hi), if_pos rfl]
      rfl
    · rw [List.getElem?_set_ne (fun e => hij e.symm), kRow_at l _ hi, if_neg (by omega)]
      rfl
  · rw [List.getElem?_eq_none (by rw [kRow_len]; omega), List.getElem?_eq_none (by rw [List.length_set, kRow_len]; omega)]
/-- How many calls of a trace are of each kind. -/
def countsRes (l : List Seg) (t : ByteArray) : List Int := match traceB l t.data.toList with
  | none => []
  | some f => kRow l (chainsB [rootB l] f)
def CountsPost (w : World) (l : List Seg) (t : ByteArray) (e : Ending) (w' : World) : Prop :=
  ∃ v, e = .returned (.tuple #[v, .bool (traceB l t.data.toList).isSome]) ∧ Si.OwnInts w' w.heap.size v (countsRes l t) ∧ Below w.heap.size w w'
theorem str_pen (p : List UInt8) (u v : UInt8) : (strOf (p ++ [u, v])).extract ((strOf (p ++ [u, v])).size - 2) ((strOf (p ++ [u, v])).size - 1) = ⟨#[u]⟩ := by
  have hs : (strOf (p ++ [u, v])).size = p.length + 2 := by rw [str_size]; simp
  rw [hs]
  apply ByteArray.ext
  rw [ByteArray.data_extract]
  apply Array.ext'
  simp [strOf]
theorem str_end (p : List UInt8) (u v : UInt8) : (strOf (p ++ [u, v])).extract ((strOf (p ++ [u, v])).size - 1) (strOf (p ++ [u, v])).size = ⟨#[v]⟩ := by
  have := str_last (p ++ [u]) v
  rwa [List.append_assoc] at this

end Go.Proofs.Ytbmfbnlmdjnddaa
/- Who may call whom: pairs, and what can be reached: plain. -/
namespace Go.Proofs.Ytbmfbnlmdjnddaa
open Go.RowKit

def pairOk (l : List Seg) (x : Txt) : Bool := match x with
  | [u, v] => callP l u && callP l v
  | _ => false
theorem pairOk_two {l : List Seg} {x : Txt} (h : pairOk l x = true) : ∃ u v, x = [u, v] ∧ callP l u = true ∧ callP l v = true := by
  match x, h with
  | [u, v], h => exact ⟨u, v, rfl, (Bool.and_eq_true_iff.1 h).1, (Bool.and_eq_true_iff.1 h).2⟩
theorem pairOk_len {l : List Seg} {x : Txt} (h : x.length ≠ 2) : pairOk l x = false := by
  match x, h with
  | [], _ => rfl
  | [_], _ => rfl
  | [_, _], h => exact absurd rfl h
  | _ :: _ :: _ :: _, _ => rfl
def txAt (ts : List ByteArray) (k : Nat) : Txt := (ts.getD k ByteArray.empty).data.toList
theorem txAt_of {ts : List ByteArray} {k : Nat} (h : k < ts.length) : txAt ts k = ts[k].data.toList := by
  unfold txAt
  rw [List.getD_eq_getElem?_getD, List.getElem?_eq_getElem h]
  rfl
/-- Whether the text at an index is a pair, and behind the one ahead of it. -/
def pairAt (l : List Seg) (ts : List ByteArray) (k : Nat) : Bool := pairOk l (txAt ts k) && (decide (k = 0) || decide (txAt ts (k - 1) < txAt ts k))
def pairsTo (l : List Seg) (ts : List ByteArray) (k : Nat) : Bool := (List.range k).all (pairAt l ts)
theorem pairsTo_succ (l : List Seg) (ts : List ByteArray) (k : Nat) : pairsTo l ts (k + 1) = (pairsTo l ts k && pairAt l ts k) := by
  unfold pairsTo
  rw [List.range_succ, List.all_append]
  simp
theorem pairsTo_bad {l : List Seg} {ts : List ByteArray} {k n : Nat} (hk : k < n) (h : pairAt l ts k = false) : pairsTo l ts n = false := by
  unfold pairsTo
  rw [List.all_eq_false]
  exact ⟨k, List.mem_range.2 hk, by rw [h]; decide⟩
def graphB (l : List Seg) (ts : List ByteArray) : Bool := validB l && decide (ts.length ≤ 20) && pairsTo l ts ts.length
def psOf (ts : List ByteArray) : List Txt := ts.map fun t => t.data.toList
theorem psOf_len (ts : List ByteArray) : (psOf ts).length = ts.length := List.length_map _
theorem psOf_at {ts : List ByteArray} {k : Nat} (h : k < ts.length) : (psOf ts)[k]? = some (txAt ts k) := by
  rw [txAt_of h]
  unfold psOf
  rw [List.getElem?_map, List.getElem?_eq_getElem h]
  rfl
theorem psOf_back (ts : List ByteArray) : (psOf ts).map strOf = ts := by
  unfold psOf
  rw [List.map_map]
  conv => rhs; rw [← List.map_id ts]
  exact List.map_congr_left fun t _ => rfl
/-- Pairs in their order, each once. -/
structure IsGraph (l : List Seg) (ps : List Txt) : Prop where
  valid : validB l = true
  len : ps.length ≤ 20
  two : ∀ p ∈ ps, ∃ u v, p = [u, v] ∧ callP l u = true ∧ callP l v = true
  asc : ps.Pairwise (· < ·)
theorem graph_is {l : List Seg} {ts : List ByteArray} (h : graphB l ts = true) : IsGraph l (psOf ts) := by
  unfold graphB at h
  rw [Bool.and_eq_true, Bool.and_eq_true] at h
  obtain ⟨⟨h1, h2⟩, h3⟩ := h
  have hat : ∀ k, k < ts.length → pairAt l ts k = true := fun k hk => by
    unfold pairsTo at h3
    exact List.all_eq_true.1 h3 k (List.mem_range.2 hk)
  refine ⟨h1, by rw [psOf_len]; exact of_decide_eq_true h2, fun p hp => ?_, ?_⟩
  · obtain ⟨k, hk, e⟩ := List.getElem_of_mem hp
    have hk' : k < ts.length := by rwa [psOf_len] at hk
    have h4 := psOf_at hk'
    rw [List.getElem?_eq_getElem hk, e] at h4
    injection h4 with h4
    rw [h4]
    have h5 := hat k hk'
    unfold pairAt at h5
    exact pairOk_two (Bool.and_eq_true_iff.1 h5).1
  · have step : ∀ j, j < ts.length → ∀ i, i < j → txAt ts i < txAt ts j := by
      intro j
      induction j with
      | zero => intro _ i hi; omega
      | succ j ih =>
        intro hj i hi
        have h5 := hat (j + 1) hj
        unfold pairAt at h5
        have h6 := (Bool.and_eq_true_iff.1 h5).2
        have h7 : txAt ts j < txAt ts (j + 1) := by simpa using h6
        by_cases hij : i = j
        · rw [hij]; exact h7
        · exact txt_trans (ih (by omega) i (by omega)) h7
    rw [List.pairwise_iff_getElem]
    intro i j hi hj hij
    have hi' : i < ts.length := by rwa [psOf_len] at hi
    have hj' : j < ts.length := by rwa [psOf_len] at hj
    have e1 := psOf_at hi'
    have e2 := psOf_at hj'
    rw [List.getElem?_eq_getElem hi] at e1
    rw [List.getElem?_eq_getElem hj] at e2
    injection e1 with e1
    injection e2 with e2
    rw [e1, e2]
    exact step j hj' i hij

/-- Whom a segment may call, in the order of the pairs. -/
def fstB (p : Txt) : UInt8 := p.headD 0
def calleds (ps : List Txt) (u : UInt8) : List UInt8 := (ps.filter fun p => decide (fstB p = u)).map lastB
theorem calleds_snoc (ps : List Txt) (p : Txt) (u : UInt8) : calleds (ps ++ [p]) u = calleds ps u ++ if fstB p = u then [lastB p] else [] := by
  unfold calleds
  rw [List.filter_append, List.map_append]
  congr 1
  by_cases h : fstB p = u
  · simp [h]
  · simp [h]
theorem calleds_mem {ps : List Txt} {u v : UInt8} (h : v ∈ calleds ps u) : ∃ p ∈ ps, fstB p = u ∧ lastB p = v := by
  unfold calleds at h
  obtain ⟨p, hp, e⟩ := List.mem_map.1 h
  rw [List.mem_filter] at hp
  exact ⟨p, hp.1, of_decide_eq_true hp.2, e⟩
theorem fst_two (u v : UInt8) : fstB [u, v] = u := rfl
theorem last_two (u v : UInt8) : lastB [u, v] = v := rfl
theorem calleds_iff {l : List Seg} {ps : List Txt} (h : IsGraph l ps) (u v : UInt8) : v ∈ calleds ps u ↔ [u, v] ∈ ps := by
  constructor
  · intro hv
    obtain ⟨p, hp, e1, e2⟩ := calleds_mem hv
    obtain ⟨a, b, rfl, _, _⟩ := h.two p hp
    rw [fst_two] at e1
    rw [last_two] at e2
    subst e1
    subst e2
    exact hp
  · intro hp
    unfold calleds
    exact List.mem_map.2 ⟨_, List.mem_filter.2 ⟨hp, by rw [fst_two]; simp⟩, rfl⟩
theorem two_lt {u v w : UInt8} (h : ([u, v] : Txt) < [u, w]) : ([v] : Txt) < [w] := by
  have h1 : List.Lex (· < ·) ([u, v] : Txt) [u, w] := h
  cases h1 with
  | rel h => exact absurd h (UInt8.lt_irrefl _)
  | cons h => exact h
theorem calleds_asc {l : List Seg} {ps : List Txt} (h : IsGraph l ps) (u : UInt8) : ((calleds ps u).map fun v => ([v] : Txt)).Pairwise (· < ·) := by
  unfold calleds
  rw [List.map_map, List.pairwise_map]
  have h1 := h.asc.sublist (List.filter_sublist (p := fun p => decide (fstB p = u)))
  refine List.Pairwise.imp_of_mem ?_ h1
  intro a b ha hb hab
  rw [List.mem_filter] at ha hb
  obtain ⟨u1, v1, rfl, _, _⟩ := h.two a ha.1
  obtain ⟨u2, v2, rfl, _, _⟩ := h.two b hb.1
  have e1 : u1 = u := of_decide_eq_true ha.2
  have e2 : u2 = u := of_decide_eq_true hb.2
  subst e1
  subst e2
  exact two_lt hab

/-- The last segments of all ways but the first one. -/
def lasts (Q : List Txt) : List UInt8 := Q.tail.map lastB
/-- A way that goes on by each of those that are not reached yet. -/
def stepQ (way : Txt) : List UInt8 → List Txt → List Txt
  | [], Q => Q
  | c :: cs, Q => if c ∈ lasts Q then stepQ way cs Q else stepQ way cs (Q ++ [way ++ [c]])
theorem stepQ_app (way : Txt) : ∀ (a b : List UInt8) (Q : List Txt), stepQ way (a ++ b) Q = stepQ way b (stepQ way a Q)
  | [], _, _ => rfl
  | c :: a, b, Q => by
    show (if c ∈ lasts Q then stepQ way (a ++ b) Q else stepQ way (a ++ b) (Q ++ [way ++ [c]])) = stepQ way b (if c ∈ lasts Q then _ else _)
    by_cases h : c ∈ lasts Q
    · rw [if_pos h, if_pos h, stepQ_app way a b Q]
    · rw [if_neg h, if_neg h, stepQ_app way a b _]
theorem stepQ_one (way : Txt) (c : UInt8) (Q : List Txt) : stepQ way [c] Q = if c ∈ lasts Q then Q else Q ++ [way ++ [c]] := rfl
theorem stepQ_pre (way : Txt) : ∀ (cs : List UInt8) (Q : List Txt), Q <+: stepQ way cs Q
  | [], Q => List.prefix_refl Q
  | c :: cs, Q => by
    show Q <+: if c ∈ lasts Q then _ else _
    by_cases h : c ∈ lasts Q
    · rw [if_pos h]; exact stepQ_pre way cs Q
    · rw [if_neg h]; exact (List.prefix_append Q _).trans (stepQ_pre way cs _)
theorem lasts_snoc {Q : List Txt} (hQ : Q ≠ []) (way : Txt) (c : UInt8) : lasts (Q ++ [way ++ [c]]) = lasts Q ++ [c] := by
  cases Q with
  | nil => exact absurd rfl hQ
  | cons q Q =>
    unfold lasts
    show (Q ++ [way ++ [c]]).map lastB = Q.map lastB ++ [c]
    rw [List.map_append, List.map_singleton, lastB_snoc]
/-- The ways when the first 'k' have been gone on. -/
def qAt (ps : List Txt) (u : UInt8) : Nat → List Txt
  | 0 => [[u]]
  | k + 1 => match (qAt ps u k)[k]? with
    | none => qAt ps u k
    | some way => stepQ way (calleds ps (lastB way)) (qAt ps u k)
theorem qAt_succ {ps : List Txt} {u : UInt8} {k : Nat} {way : Txt} (h : (qAt ps u k)[k]? = some way) : qAt ps u (k + 1) = stepQ way (calleds ps (lastB way)) (qAt ps u k) := by
  show (match (qAt ps u k)[k]? with | none => _ | some way => _) = _
  rw [h]
theorem qAt_none {ps : List Txt} {u : UInt8} {k : Nat} (h : (qAt ps u k).length ≤ k) : qAt ps u (k + 1) = qAt ps u k := by
  show (match (qAt ps u k)[k]? with | none => _ | some way => _) = _
  rw [List.getElem?_eq_none h]
theorem qAt_stop {ps : List Txt} {u : UInt8} {k : Nat} (h : (qAt ps u k).length ≤ k) : ∀ m, qAt ps u (k + m) = qAt ps u k
  | 0 => rfl
  | m + 1 => by
    have ih := qAt_stop h m
    rw [show k + (m + 1) = (k + m) + 1 by omega, qAt_none (by rw [ih]; omega), ih]
def wayOk (ps : List Txt) (Q : List Txt) : Prop := Q ≠ [] ∧ (lasts Q).Nodup ∧ (∀ c ∈ lasts Q, c ∈ ps.map lastB) ∧ (∀ x ∈ Q, x ≠ [])
theorem stepQ_ok {ps : List Txt} (way : Txt) : ∀ (cs : List UInt8) (Q : List Txt), wayOk ps Q → (∀ c ∈ cs, c ∈ ps.map lastB) → wayOk ps (stepQ way cs Q)
  | [], Q, h, _ => h
  | c :: cs, Q, h, hc => by
    show wayOk ps (if c ∈ lasts Q then _ else _)
    by_cases hm : c ∈ lasts Q
    · rw [if_pos hm]; exact stepQ_ok way cs Q h (fun x hx => hc x (List.mem_cons_of_mem _ hx))
    · rw [if_neg hm]
      refine stepQ_ok way cs _ ⟨by simp, ?_, ?_, ?_⟩ (fun x hx => hc x (List.mem_cons_of_mem _ hx))
      · rw [lasts_snoc h.1, List.nodup_append]
        refine ⟨h.2.1, by simp, ?_⟩
        intro a ha b hb e
        rw [List.mem_singleton] at hb
        subst hb
        subst e
        exact hm ha
      · intro x hx
        rw [lasts_snoc h.1] at hx
        rcases List.mem_append.1 hx with hx | hx
        · exact h.2.2.1 x hx
        · rw [List.mem_singleton] at hx
          rw [hx]
          exact hc c List.mem_cons_self
      · intro x hx
        rcases List.mem_append.1 hx with hx | hx
        · exact h.2.2.2 x hx
        · rw [List.mem_singleton] at hx
          rw [hx]
          simp
theorem calleds_sub (ps : List Txt) (u : UInt8) : ∀ c ∈ calleds ps u, c ∈ ps.map lastB := fun c hc => by
  obtain ⟨p, hp, _, e⟩ := calleds_mem hc
  exact List.mem_map.2 ⟨p, hp, e⟩
theorem qAt_ok (ps : List Txt) (u : UInt8) : ∀ k, wayOk ps (qAt ps u k)
  | 0 => ⟨by simp [qAt], by simp [qAt, lasts], by simp [qAt, lasts], by simp [qAt]⟩
  | k + 1 => by
    have ih := qAt_ok ps u k
    cases h : (qAt ps u k)[k]? with
    | none =>
      rw [qAt_none (by rw [List.getElem?_eq_none_iff] at h; exact h)]
      exact ih
    | some way =>
      rw [qAt_succ h]
      exact stepQ_ok way _ _ ih (calleds_sub ps _)
theorem nodup_le : ∀ {a b : List UInt8}, a.Nodup → (∀ x ∈ a, x ∈ b) → a.length ≤ b.length
  | [], b, _, _ => Nat.zero_le _
  | x :: a, b, hn, hs => by
    have hx := hs x List.mem_cons_self
    obtain ⟨h1, h2⟩ := List.nodup_cons.1 hn
    have h3 := nodup_le (b := b.erase x) h2 (fun y hy => (List.mem_erase_of_ne (fun e => h1 (by rw [← e]; exact hy))).2 (hs y (List.mem_cons_of_mem _ hy)))
    rw [List.length_erase_of_mem hx] at h3
    have h4 := List.length_pos_of_mem hx
    rw [List.length_cons]
    omega
theorem wayOk.len {ps Q : List Txt} (h : wayOk ps Q) : Q.length ≤ ps.length + 1 := by
  have h1 := nodup_le h.2.1 h.2.2.1
  unfold lasts at h1
  rw [List.length_map, List.length_map, List.length_tail] at h1
  omega
theorem wayOk.pos {ps Q : List Txt} (h : wayOk ps Q) : 0 < Q.length := List.length_pos_iff.2 h.1
/-- All ways, and all that is reached. -/
def waysB (ps : List Txt) (u : UInt8) : List Txt := qAt ps u 32
def reachL (ps : List Txt) (u : UInt8) : List UInt8 := lasts (waysB ps u)
theorem waysB_stop {ps : List Txt} {u : UInt8} {k : Nat} (hp : ps.length ≤ 20) (hk : k ≤ (qAt ps u k).length) (h : (qAt ps u k).length ≤ k) : waysB ps u = qAt ps u k := by
  have h1 := (qAt_ok ps u k).len
  have h2 := qAt_stop h (32 - k)
  rw [show k + (32 - k) = 32 by omega] at h2
  exact h2
theorem waysB_len {ps : List Txt} {u : UInt8} (hp : ps.length ≤ 20) : (waysB ps u).length ≤ 21 := by
  have := (qAt_ok ps u 32).len
  unfold waysB
  omega
theorem qAt_pre (ps : List Txt) (u : UInt8) (k : Nat) : qAt ps u k <+: qAt ps u (k + 1) := by
  cases h : (qAt ps u k)[k]? with
  | none =>
    rw [qAt_none (by rw [List.getElem?_eq_none_iff] at h; exact h)]
    exact List.prefix_refl _
  | some way =>
    rw [qAt_succ h]
    exact stepQ_pre way _ _
/-- All ways begin with the segment that they start from. -/
theorem stepQ_all {P : Txt → Prop} (way : Txt) (hw : P way) (hs : ∀ x c, P x → P (x ++ [c])) : ∀ (cs : List UInt8) (Q : List Txt), (∀ x ∈ Q, P x) → ∀ x ∈ stepQ way cs Q, P x
  | [], Q, h => h
  | c :: cs, Q, h => by
    show ∀ x ∈ (if c ∈ lasts Q then _ else _), P x
    by_cases hm : c ∈ lasts Q
    · rw [if_pos hm]; exact stepQ_all way hw hs cs Q h
    · rw [if_neg hm]
      refine stepQ_all way hw hs cs _ fun x hx => ?_
      rcases List.mem_append.1 hx with hx | hx
      · exact h x hx
      · rw [List.mem_singleton] at hx
        rw [hx]
        exact hs _ _ hw

end Go.Proofs.Ytbmfbnlmdjnddaa
