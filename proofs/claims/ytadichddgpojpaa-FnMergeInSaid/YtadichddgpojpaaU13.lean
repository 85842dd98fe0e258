/- Joined: Ve Pc Pd. -/
import Derived.Test.YtadichddgpojpaaU08
import Derived.Test.YtadichddgpojpaaU12
import Derived.Test.YtadichddgpojpaaU07
import Derived.Test.YtadichddgpojpaaU06
/- Chapter 9: the reference's builder of a tree. -/
namespace Go.Proofs.Ytadichddgpojpaa
open Go.RowKit

theorem fold9_len {nm : Nat → ByteArray} {sz ps : Nat → Int} {n f : Nat} {q : Int} : ∀ (ks : List Nat) (o : List Seg), (∀ k ∈ ks, ∀ o, (build9 nm sz ps n f k q o).length = o.length + (sub9 ps n k).length) →
    (ks.foldl (fun o j => build9 nm sz ps n f j q o) o).length = o.length + ((ks.map (sub9 ps n)).flatten).length
  | [], o, _ => by simp
  | k :: ks, o, h => by
    rw [List.foldl_cons, fold9_len ks _ fun k' hk' => h k' (List.mem_cons_of_mem _ hk'), h k List.mem_cons_self, List.map_cons, List.flatten_cons, List.length_append]
    omega
theorem build9_len {nm : Nat → ByteArray} {sz ps : Nat → Int} {n : Nat} (hf : Fall9 ps n) : ∀ (f i : Nat), n ≤ f + i → i < n → ∀ p o, (build9 nm sz ps n f i p o).length = o.length + (sub9 ps n i).length
  | 0, i, h, hi, _, _ => by omega
  | f + 1, i, h, hi, p, o => by
    unfold build9
    rw [fold9_len (kids9 ps n i) (o ++ [(⟨nm i, sz i, p⟩ : Seg)]) fun k hk o => ?_, sub9_eq hf hi, List.length_append, List.length_cons, List.length_cons, List.length_nil]
    · omega
    · obtain ⟨h1, h2⟩ := mem_kids9.1 hk
      have := hf k h1
      exact build9_len hf f k (by omega) h1 _ _
theorem flat9_le {α : Type} {ps : Nat → Int} (g : Nat → List α) (i k : Nat) : ∀ m, k ≤ m → (((kids9 ps k i).map g).flatten).length ≤ (((kids9 ps m i).map g).flatten).length
  | 0, h => by rw [show k = 0 by omega]; exact Nat.le_refl _
  | m + 1, h => by
    by_cases he : k = m + 1
    · rw [he]; exact Nat.le_refl _
    · have := flat9_le (ps := ps) g i k m (by omega)
      rw [kids9_succ, List.map_append, List.flatten_append, List.length_append]
      omega
theorem kids9_yes {ps : Nat → Int} {k i : Nat} (h : ps k = (i : Int)) : kids9 ps (k + 1) i = kids9 ps k i ++ [k] := by rw [kids9_succ, if_pos h]
theorem kids9_no {ps : Nat → Int} {k i : Nat} (h : ps k ≠ (i : Int)) : kids9 ps (k + 1) i = kids9 ps k i := by rw [kids9_succ, if_neg h, List.append_nil]

/-- Other blocks than the one of a slice are as they were. -/
structure Fr9 (w w' : World) (v : Value) : Prop where
  size : w.heap.size ≤ w'.heap.size
  block : ∀ k, k < w.heap.size → v.ownBlock ≠ some k → w'.heap[k]? = w.heap[k]?
/-- A slice of the call's own stands where it stood, or in new memory. -/
def Mv9 (w : World) (v v' : Value) : Prop := v'.ownBlock = v.ownBlock ∨ ∃ g, v'.ownBlock = some g ∧ w.heap.size ≤ g
/-- A slice of the call's own is no other one. -/
def Aw9 (v : Value) (A : Option Addr) : Prop := ∀ a, A = some a → v.ownBlock ≠ some a.block
theorem Fr9.trans {w w1 w2 : World} {v v1 : Value} (h : Fr9 w w1 v) (hm : Mv9 w v v1) (h2 : Fr9 w1 w2 v1) : Fr9 w w2 v :=
  ⟨Nat.le_trans h.size h2.size, fun k hk hne => (h2.block k (Nat.lt_of_lt_of_le hk h.size) (by
    rcases hm with e | ⟨g, e, hg⟩
    · rw [e]; exact hne
    · rw [e]; intro e'; injection e' with e'; omega)).trans (h.block k hk hne)⟩
theorem Mv9.trans {w w1 : World} {v v1 v2 : Value} (h : Mv9 w v v1) (hs : w.heap.size ≤ w1.heap.size) (h2 : Mv9 w1 v1 v2) : Mv9 w v v2 := by
  rcases h2 with e | ⟨g, e, hg⟩
  · rcases h with e1 | ⟨g, e1, hg⟩
    · exact .inl (e.trans e1)
    · exact .inr ⟨g, e.trans e1, hg⟩
  · exact .inr ⟨g, e, Nat.le_trans hs hg⟩
theorem Fr9.cell {w w' : World} {v : Value} (h : Fr9 w w' v) {b i : Nat} (hb : b < w.heap.size) (hne : v.ownBlock ≠ some b) : w'.cell? ⟨b, i, none⟩ = w.cell? ⟨b, i, none⟩ := by
  simp only [World.cell?, h.block b hb hne]
theorem segs9 {w w' : World} {v : Value} {A : Option Addr} {l : List Seg} (h : Fr9 w w' v) (ha : Aw9 v A) (hs : Segs w w.heap.size A l) : Segs w' w'.heap.size A l := fun h0 => by
  obtain ⟨b, o, rfl, hb, hc⟩ := hs h0
  refine ⟨b, o, rfl, Nat.lt_of_lt_of_le hb h.size, fun k s hk => ?_⟩
  have hne : v.ownBlock ≠ some b := ha _ rfl
  rw [h.cell hb hne, h.cell hb hne, h.cell hb hne]
  exact hc k s hk
theorem ints9 {w w' : World} {v : Value} {A : Option Addr} {l : List Int} (h : Fr9 w w' v) (ha : Aw9 v A) (hs : Si.Ints w w.heap.size A l) : Si.Ints w' w'.heap.size A l := fun h0 => by
  obtain ⟨b, o, rfl, hb, hc⟩ := hs h0
  refine ⟨b, o, rfl, Nat.lt_of_lt_of_le hb h.size, fun k s hk => ?_⟩
  have hne : v.ownBlock ≠ some b := ha _ rfl
  rw [h.cell hb hne]
  exact hc k s hk
theorem Aw9.moved {w : World} {v v' : Value} {A : Option Addr} {b o : Nat} (h : Aw9 v A) (hm : Mv9 w v v') (hA : A = some ⟨b, o, none⟩) (hb : b < w.heap.size) : Aw9 v' A := fun a ha => by
  have e : a = ⟨b, o, none⟩ := by rw [hA] at ha; injection ha with ha; exact ha.symm
  rcases hm with e1 | ⟨g, e1, hg⟩
  · rw [e1]; exact h a ha
  · rw [e1, e]
    intro e2
    injection e2 with e2
    have : g = b := e2
    omega

/-- What the reference's builder does, to a depth. -/
def Built9 (ls : List Seg) (A Ap : Option Addr) (c cp : Nat) (pl : List Int) (ps : Nat → Int) (f : Nat) : Prop :=
  ∀ (B i : Nat) (p : Int) (v : Value) (o : List Seg) (w : World), ls.length ≤ f + i → i < ls.length → OwnTree w B v o → o.length + (sub9 ps ls.length i).length ≤ 900 → Segs w w.heap.size A ls → Si.Ints w w.heap.size Ap pl → Aw9 v A → Aw9 v Ap → B ≤ w.heap.size →
    Calls Try.prog 55 #[v, .slice A ls.length c, .slice Ap ls.length cp, .int .i64 i, .int .i64 p] w fun e w' => ∃ v', e = .returned v' ∧ OwnTree w' B v' (build9 (nmAt9 ls) (sizeAt ls) ps ls.length f i p o) ∧ Below B w w' ∧ Fr9 w w' v ∧ Mv9 w v v'

/-- append of one segment, laid as a row of its own, as one step of a region. -/
theorem wp1_append_seg {o : Oper} {a : Act} {K : Act → World → Prop} {Q : Exit → Act → World → Prop} (S X : Operand)
    (ho : o.op = Op.call { callee := Callee.builtin Builtin.append, args := #[S, X], argTypes := #[23, 23] })
    (B : Nat) (v : Value) (tr : List Seg) (nm : ByteArray) (sz p : Int) (W : World) (hs : a.eval S = v) (hown : OwnTree W B v tr) (htl : tr.length ≤ 1000) (hB : B ≤ W.heap.size)
    (g : Nat) (hx : a.eval X = .slice (some ⟨g, 0, none⟩) 1 1) (hg : g = W.heap.size)
    (h : ∀ v' w', OwnTree w' B v' (tr ++ [⟨nm, sz, p⟩]) → Below B W w' → Fr9 W w' v → Mv9 W v v' → K (a.put o.dst v') w') :
    o.wp Try.prog a (W.alloc (.cells #[.string nm, .int .i64 sz, .int .i64 p] 36)) K Q := by
  subst hg
  obtain ⟨i0, hi0, hz0, hz1, hz2⟩ := info_parts info_seg
  obtain ⟨v', w', hr, hown', hgrow, -, hat⟩ := run_append_own_at (P := Try.prog) (w := W.alloc (.cells #[.string nm, .int .i64 sz, .int .i64 p] 36)) B 23 o.type 36 i0 zeroSeg 3 32 Try.underlying23 hi0 hz0 hz1 hz2 rfl (by decide) v tr.length (segCells tr) (hown.alloc (.cells #[.string nm, .int .i64 sz, .int .i64 p] 36)) ⟨W.heap.size, 0, none⟩ 1 1 [.string nm, .int .i64 sz, .int .i64 p] rfl
    (World.news_of_block (cs := #[.string nm, .int .i64 sz, .int .i64 p]) (t := 36) (fr := (0, 0)) (heap_alloc_new W _)) (by simp [Value.oneCell']) (by unfold maxLen; omega) (by omega) (by simp; omega)
  unfold Oper.wp execOp
  simp only [ho, resolve, invoke, builtin, Sem.run_bind, Sem.run_pure, Result.andThen_ok, List.map_toArray, List.map_cons, List.map_nil, hs, hx, hr]
  refine h v' w' (own_snoc rfl hown') (((Below.refl B W).alloc hB _).grown hgrow (by simp; omega) (fun k e => (World.ownsRow.lt hown k e).1)) ⟨?_, fun k hk hne => ?_⟩ ?_
  · have := hgrow.size
    simp at this
    omega
  · exact (hgrow.block k (by simp; omega) (fun e => hne e.symm)).trans (Below.heap_alloc W _ k hk)
  · rcases hat with e | e
    · exact .inl e
    · exact .inr ⟨_, e, by simp⟩

set_option maxRecDepth 100000 in
set_option maxHeartbeats 4000000 in
theorem l9Build_step (ls : List Seg) (A Ap : Option Addr) (c cp : Nat) (pl : List Int) (ps : Nat → Int) (hf : Fall9 ps ls.length) (hn8 : ls.length ≤ 1000) (hpl : pl.length = ls.length) (hps : ∀ k, k < ls.length → pl[k]? = some (ps k)) (f : Nat)
    (IH : Built9 ls A Ap c cp pl ps f) : Built9 ls A Ap c cp pl ps (f + 1) := by
  intro B i p v o w hfi hi hown hlen hsegs hints hwa hwp hB
  have HW : Hid (Segs w w.heap.size A ls) := hsegs
  have HI : Hid (Si.Ints w w.heap.size Ap pl) := hints
  have HO : Hid (OwnTree w B v o) := hown
  have HIH : Hid (Built9 ls A Ap c cp pl ps f) := IH
  have HWA := Lib.hid hwa
  have HWP := Lib.hid hwp
  have HPS := Lib.hid hps
  have HPL := Lib.hid hpl
  have HF := Lib.hid hf
  have HLEN := Lib.hid hlen
  have hol : o.length ≤ 900 := by omega
  have HR : Hid (build9 (nmAt9 ls) (sizeAt ls) ps ls.length (f + 1) i p o = (kids9 ps ls.length i).foldl (fun o' j => build9 (nmAt9 ls) (sizeAt ls) ps ls.length f j (o.length : Nat) o') (o ++ [⟨nmAt9 ls i, sizeAt ls i, p⟩])) := rfl
  obtain ⟨b, ob, rfl, hbB, hc⟩ := hsegs (by omega)
  obtain ⟨c0, c1, c2⟩ := hc i ls[i] (List.getElem?_eq_getElem hi)
  rw [← nmAt9_of hi] at c0
  rw [← sizeAt_of hi] at c1
  obtain ⟨bp, op, rfl, hbp, hcp⟩ := hints (by omega)
  have HLK : Hid (∀ (k : Nat) (oo : List Seg), k < ls.length → ps k = (i : Int) → oo = (kids9 ps k i).foldl (fun o' j => build9 (nmAt9 ls) (sizeAt ls) ps ls.length f j (o.length : Nat) o') (o ++ [⟨nmAt9 ls i, sizeAt ls i, p⟩]) → ls.length ≤ f + k ∧ oo.length + (sub9 ps ls.length k).length ≤ 900) := by
    intro k oo hk hki he
    have h0 := hf k hk
    refine ⟨by omega, ?_⟩
    have h1 := fold9_len (nm := nmAt9 ls) (sz := sizeAt ls) (ps := ps) (n := ls.length) (f := f) (q := ((o.length : Nat) : Int)) (kids9 ps k i) (o ++ [(⟨nmAt9 ls i, sizeAt ls i, p⟩ : Seg)]) (fun j hj o => by
      obtain ⟨h2, h3⟩ := mem_kids9.1 hj
      have := hf j (by omega)
      exact build9_len hf f j (by omega) (by omega) _ _)
    rw [← he] at h1
    have h4 := flat9_le (ps := ps) (sub9 ps ls.length) i (k + 1) ls.length (by omega)
    rw [kids9_yes hki, List.map_append, List.flatten_append, List.length_append, List.map_cons, List.map_nil, List.flatten_cons, List.flatten_nil, List.append_nil] at h4
    rw [sub9_eq hf hi, List.length_cons] at hlen
    rw [List.length_append, List.length_cons, List.length_nil] at h1
    omega
  have HCP : Hid (∀ k, k < ls.length → w.cell? ⟨bp, op + k, none⟩ = some (.int .i64 (ps k))) := fun k hk => hcp k (ps k) (hps k hk)
  clear hcp
  clear hc c2 hsegs hints hown IH hps hpl hlen
  have hi0 : (0 : Int) ≤ (i : Int) := Int.natCast_nonneg _
  have hi1 : (i : Int) < (ls.length : Int) := by omega
  obtain ⟨vA, vC, rfl, -⟩ := HO.out.form
  have hvb : (Value.slice vA o.length vC).ownBlock ≠ some b := hwa _ rfl
  have hvp : (Value.slice vA o.length vC).ownBlock ≠ some bp := hwp _ rfl
  have HVB := Lib.hid hvb
  have HVP := Lib.hid hvp
  clear hvb hvp hwa hwp
  generalize hN : nmAt9 ls i = nm at *
  generalize hS : sizeAt ls i = sz at *
  have HN := Lib.hid hN
  have HS := Lib.hid hS
  clear hN hS
  go_enter Try.func55, Try.ntmps55
  go_wp2_with fail
  refine wp_region_held_drew (S := (fun W => W.cell? ⟨b, ob + i * 3, none⟩ = some (.string nm) ∧ W.cell? ⟨b, ob + i * 3 + 1, none⟩ = some (.int .i64 sz) ∧ Below B w W)) (by kernel_rfl) ?_ (fun hHeld => ?_)
  · exact ⟨c0, c1, (Below.refl _ _).drew⟩
  refine take_at (i := 0) (d := 13) (v := .slice vA o.length vC) rfl rfl (by kernel_rfl) (by kernel_rfl) (by kernel_rfl) (fun _ _ _ h => h) (by kernel_rfl) (by (intro w hSw; (try dsimp only at hSw); go_simp)) (by assumption) ?_
  simp only [List.setIfInBounds_toArray, List.set_cons_succ, List.set_cons_zero]
  refine take_at (i := 1) (d := 14) (v := .slice (some ⟨b, ob, none⟩) ls.length c) rfl rfl (by kernel_rfl) (by kernel_rfl) (by kernel_rfl) (fun _ _ _ h => h) (by kernel_rfl) (by (intro w hSw; (try dsimp only at hSw); go_simp)) (by assumption) ?_
  simp only [List.setIfInBounds_toArray, List.set_cons_succ, List.set_cons_zero]
  refine take_at (i := 2) (d := 15) (v := .int .i64 i) rfl rfl (by kernel_rfl) (by kernel_rfl) (by kernel_rfl) (fun _ _ _ h => h) (by kernel_rfl) (by (intro w hSw; (try dsimp only at hSw); go_simp)) (by assumption) ?_
  simp only [List.setIfInBounds_toArray, List.set_cons_succ, List.set_cons_zero]
  refine take_at (i := 3) (d := 16) (v := .pointer (some ⟨b, ob + i * 3, none⟩)) rfl rfl (by kernel_rfl) (by kernel_rfl) (by kernel_rfl) (fun _ _ _ h => h) (by kernel_rfl) (by (intro w hSw; (try dsimp only at hSw); go_simp)) (by assumption) ?_
  simp only [List.setIfInBounds_toArray, List.set_cons_succ, List.set_cons_zero]
  refine take_at (i := 4) (d := 17) (v := .pointer (some ⟨b, ob + i * 3, none⟩)) rfl rfl (by kernel_rfl) (by kernel_rfl) (by kernel_rfl) (fun _ _ _ h => h) (by kernel_rfl) (by (intro w hSw; (try dsimp only at hSw); go_simp)) (by assumption) ?_
  simp only [List.setIfInBounds_toArray, List.set_cons_succ, List.set_cons_zero]
  refine take_at (i := 5) (d := 18) (v := .string nm) rfl rfl (by kernel_rfl) (by kernel_rfl) (by kernel_rfl) (fun _ _ _ h => h) (by kernel_rfl) (by (intro w hSw; (try dsimp only at hSw); go_simp)) (by assumption) ?_
  simp only [List.setIfInBounds_toArray, List.set_cons_succ, List.set_cons_zero]
  refine take_at (i := 6) (d := 19) (v := .slice (some ⟨b, ob, none⟩) ls.length c) rfl rfl (by kernel_rfl) (by kernel_rfl) (by kernel_rfl) (fun _ _ _ h => h) (by kernel_rfl) (by (intro w hSw; (try dsimp only at hSw); go_simp)) (by assumption) ?_
  simp only [List.setIfInBounds_toArray, List.set_cons_succ, List.set_cons_zero]
  refine take_at (i := 7) (d := 20) (v := .int .i64 i) rfl rfl (by kernel_rfl) (by kernel_rfl) (by kernel_rfl) (fun _ _ _ h => h) (by kernel_rfl) (by (intro w hSw; (try dsimp only at hSw); go_simp)) (by assumption) ?_
  simp only [List.setIfInBounds_toArray, List.set_cons_succ, List.set_cons_zero]
  refine take_at (i := 8) (d := 21) (v := .pointer (some ⟨b, ob + i * 3, none⟩)) rfl rfl (by kernel_rfl) (by kernel_rfl) (by kernel_rfl) (fun _ _ _ h => h) (by kernel_rfl) (by (intro w hSw; (try dsimp only at hSw); go_simp)) (by assumption) ?_
  simp only [List.setIfInBounds_toArray, List.set_cons_succ, List.set_cons_zero]
  refine take_at (i := 9) (d := 22) (v := .pointer (some ⟨b, ob + i * 3 + 1, none⟩)) rfl rfl (by kernel_rfl) (by kernel_rfl) (by kernel_rfl) (fun _ _ _ h => h) (by kernel_rfl) (by (intro w hSw; (try dsimp only at hSw); go_simp)) (by assumption) ?_
  simp only [List.setIfInBounds_toArray, List.set_cons_succ, List.set_cons_zero]
  refine take_at (i := 10) (d := 23) (v := .int .i64 sz) rfl rfl (by kernel_rfl) (by kernel_rfl) (by kernel_rfl) (fun _ _ _ h => h) (by kernel_rfl) (by (intro w hSw; (try dsimp only at hSw); go_simp)) (by assumption) ?_
  simp only [List.setIfInBounds_toArray, List.set_cons_succ, List.set_cons_zero]
  refine take_at (i := 11) (d := 24) (v := .int .i64 p) rfl rfl (by kernel_rfl) (by kernel_rfl) (by kernel_rfl) (fun _ _ _ h => h) (by kernel_rfl) (by (intro w hSw; (try dsimp only at hSw); go_simp)) (by assumption) ?_
  simp only [List.setIfInBounds_toArray, List.set_cons_succ, List.set_cons_zero]
  refine take_at (i := 12) (d := 25) (v := .agg #[.string nm, .int .i64 sz, .int .i64 p]) rfl rfl (by kernel_rfl) (by kernel_rfl) (by kernel_rfl) (fun _ _ _ h => h) (by kernel_rfl) (by (intro w hSw; (try dsimp only at hSw); go_simp)) (by assumption) ?_
  simp only [List.setIfInBounds_toArray, List.set_cons_succ, List.set_cons_zero]
  refine wpAnyH_ready (rs := [13]) (by kernel_rfl) (by simp) ?_
  refine AllReadyH.cons rfl (fun K hK => ?_) AllReadyH.nil
  go_simp
  have hb1 : Below B w (w.drew.alloc (.cells #[.string nm, .int .i64 sz, .int .i64 p] 36)) := (Below.refl B w).drew.alloc hB _
  have hr1 : Fr9 w (w.drew.alloc (.cells #[.string nm, .int .i64 sz, .int .i64 p] 36)) (.slice vA o.length vC) := ⟨by simp, fun k hk _ => Below.heap_alloc w.drew _ k hk⟩
  refine hK.out _ _ ⟨(hr1.cell hbB HVB.out).trans c0, (hr1.cell hbB HVB.out).trans c1, hb1⟩ (fun hHeld2 => ?_)
  clear hK K hHeld hHeld2
  refine wpAnyH_ready (rs := [14]) (by kernel_rfl) (by simp) ?_
  refine AllReadyH.cons rfl (fun K hK => ?_) AllReadyH.nil
  rw [if_pos (by rfl)]
  refine wp1_append_seg (.tmp 13) (.tmp 26) rfl B (.slice vA o.length vC) o nm sz p w.drew rfl (HO.out.far fun _ _ => rfl) (by omega) hB w.heap.size rfl rfl ?_
  intro v1 w1 ho1 hb2 hf1 hm1
  have HO1 := Lib.hid ho1
  have hb3 : Below B w w1 := (Below.refl B w).drew.trans hb2
  have HB1 := Lib.hid hb3
  have hf2 : Fr9 w w1 (.slice vA o.length vC) := ⟨hf1.size, hf1.block⟩
  have hm2 : Mv9 w (.slice vA o.length vC) v1 := hm1
  have HF1 := Lib.hid hf2
  have HM1 := Lib.hid hm2
  refine hK.out _ _ ⟨(hf2.cell hbB HVB.out).trans c0, (hf2.cell hbB HVB.out).trans c1, hb3⟩ (fun hHeld => ?_)
  clear hK K ho1 hb1 hb2 hb3 hf1 hf2 hm1 hm2 hr1
  refine take_at (i := 15) (d := 0) (v := v1) rfl rfl (by kernel_rfl) (by kernel_rfl) (by kernel_rfl) (fun _ _ _ h => h) (by kernel_rfl) (by (intro w hSw; (try dsimp only at hSw); go_simp)) (by assumption) ?_
  simp only [List.setIfInBounds_toArray, List.set_cons_succ, List.set_cons_zero]
  refine wpAnyH_done (by kernel_rfl) ?_ _
  clear hHeld c0 c1
  obtain ⟨v1A, v1C, rfl, -⟩ := HO1.out.form
  have hl1 : (o ++ [(⟨nm, sz, p⟩ : Seg)]).length = o.length + 1 := by simp
  have hq1 : ((o.length + 1 : Nat) : Int) - 1 = (o.length : Nat) := by omega
  rw [hl1] at *
  generalize hO1 : o ++ [(⟨nm, sz, p⟩ : Seg)] = o1 at *
  have HO1L : Hid (o.length + 1 = o1.length) := by show _ = _; rw [← hO1]; simp
  clear hl1 hO1
  have HO2 : Hid (OwnTree w1 B (.slice v1A (o.length + 1) v1C) o1) := by
    have := HO1.out
    rw [← HO1L.out] at this
    exact this
  have HM2 : Hid (Mv9 w (.slice vA o.length vC) (.slice v1A (o.length + 1) v1C)) := by
    have h9 := HM1.out
    rw [← HO1L.out] at h9
    exact h9
  clear HO1 HM1 HPS HPL HF HLEN HN HS
  go_wp2
  go_loopw [0, 33] (fun ov iv wr => ∃ (k : Nat) (A' : Option Addr) (C' m : Nat) (oo : List Seg), iv = .int .i64 k ∧ k ≤ ls.length ∧ ov = .slice A' m C' ∧ Hid (m = oo.length) ∧ Hid (OwnTree wr B (.slice A' m C') oo) ∧ Hid (oo = (kids9 ps k i).foldl (fun o' j => build9 (nmAt9 ls) (sizeAt ls) ps ls.length f j (o.length : Nat) o') o1) ∧ Hid (Below B w wr) ∧ Hid (Fr9 w wr (.slice vA o.length vC)) ∧ Hid (Mv9 w (.slice vA o.length vC) (.slice A' m C')))
    (fun _ iv _ => ls.length - (intOf iv).toNat)
  case atStart => exact ⟨0, v1A, v1C, o.length + 1, o1, rfl, Nat.zero_le _, rfl, HO1L, HO2, rfl, HB1, HF1, HM2⟩
  case round =>
    clear HO1L HO2 HB1 HF1 HM2
    obtain ⟨k, A', C', m, oo, rfl, hk, rfl, HM, HOO, HE, HB, HFR, HMV⟩ := hrel
    have hk0 : (0 : Int) ≤ (k : Int) := Int.natCast_nonneg _
    by_cases hlt : k < ls.length
    · have hlt' : (k : Int) < (ls.length : Int) := by omega
      have c3 := HCP.out k hlt
      rw [← HFR.out.cell hbp HVP.out] at c3
      by_cases hki : ps k = (i : Int)
      · have he : (ps k == (i : Int)) = true := beq_iff_eq.2 hki
        obtain ⟨h1, h2⟩ := HLK.out k oo hlt hki HE.out
        have hown : OwnTree wr B (.slice A' m C') oo := HOO.out
        have HCALL := Lib.hid (HIH.out B k ((o.length : Nat) : Int) (.slice A' m C') oo wr h1 hlt hown h2 (segs9 HFR.out HWA.out HW.out) (ints9 HFR.out HWP.out HI.out) (HWA.out.moved HMV.out rfl hbB) (HWP.out.moved HMV.out rfl hbp) (Nat.le_trans hB HFR.out.size))
        have HE2 : Hid (build9 (nmAt9 ls) (sizeAt ls) ps ls.length f k ((o.length : Nat) : Int) oo = (kids9 ps (k + 1) i).foldl (fun o' j => build9 (nmAt9 ls) (sizeAt ls) ps ls.length f j (o.length : Nat) o') o1) := by
          show _ = _
          rw [kids9_yes hki, List.foldl_append, ← HE.out]
          rfl
        clear hown h1 h2 HE HOO hki
        generalize build9 (nmAt9 ls) (sizeAt ls) ps ls.length f k ((o.length : Nat) : Int) oo = r at *
        generalize ps k = q at *
        go_wp2_with fail
        refine Calls.mono HCALL.out ?_
        rintro e w3 ⟨v3, rfl, ho3, hb3, hf3, hm3⟩
        obtain ⟨A3, C3, rfl, -⟩ := ho3.form
        have HO3 := Lib.hid ho3
        have HB3 : Hid (Below B w w3) := HB.out.trans hb3
        have HF3 : Hid (Fr9 w w3 (.slice vA o.length vC)) := HFR.out.trans HMV.out hf3
        have HM3 : Hid (Mv9 w (.slice vA o.length vC) (.slice A3 r.length C3)) := HMV.out.trans HFR.out.size hm3
        clear ho3 hb3 hf3 hm3 HCALL HB HFR HMV c3
        go_wp2
        go_roundw
        case rel => exact ⟨k + 1, A3, C3, r.length, r, by go_num, by omega, rfl, rfl, HO3, HE2, HB3, HF3, HM3⟩
        case measure => simp [intOf]; omega
      · have he : (ps k == (i : Int)) = false := beq_eq_false_iff_ne.2 hki
        have HE2 : Hid (oo = (kids9 ps (k + 1) i).foldl (fun o' j => build9 (nmAt9 ls) (sizeAt ls) ps ls.length f j (o.length : Nat) o') o1) := by
          show _ = _
          rw [kids9_no hki]
          exact HE.out
        clear hki HE
        generalize ps k = q at *
        go_wp2
        go_roundw
        case rel => exact ⟨k + 1, A', C', m, oo, by go_num, by omega, rfl, HM, HOO, HE2, HB, HFR, HMV⟩
        case measure => simp [intOf]; omega
    · obtain rfl : k = ls.length := by omega
      go_wp2
      go_ret
      exact ⟨_, rfl, by rw [HR.out, ← HE.out]; exact HOO.out, HB.out, HFR.out, HMV.out⟩

theorem l9Build_any (ls : List Seg) (A Ap : Option Addr) (c cp : Nat) (pl : List Int) (ps : Nat → Int) (hf : Fall9 ps ls.length) (hn8 : ls.length ≤ 1000) (hpl : pl.length = ls.length) (hps : ∀ k, k < ls.length → pl[k]? = some (ps k)) : ∀ f, Built9 ls A Ap c cp pl ps f
  | 0 => fun B i p v o w h1 h2 _ _ _ _ _ _ _ => by omega
  | f + 1 => l9Build_step ls A Ap c cp pl ps hf hn8 hpl hps f (l9Build_any ls A Ap c cp pl ps hf hn8 hpl hps f)

end Go.Proofs.Ytadichddgpojpaa
/- Where a node lies: the program's own place, by the parents. -/
namespace Go.Proofs.Ytadichddgpojpaa
open Go.RowKit

/-- What place reads of the nodes. -/
def Placed (w : World) (l : List Seg) (nb : Nat → Nat) : Prop := ∀ j, j < l.length → nb j < w.heap.size ∧ w.cell? ⟨nb j, 1, none⟩ = some (.int .i64 (sizeAt l j)) ∧ w.cell? ⟨nb j, 2, none⟩ = some (.pointer (parPtr l nb j))
theorem Placed.below {w w' : World} {l : List Seg} {nb : Nat → Nat} (h : Placed w l nb) (hb : Below w.heap.size w w') : Placed w' l nb := fun j hj => by
  obtain ⟨h1, h2, h3⟩ := h j hj
  exact ⟨Nat.lt_of_lt_of_le h1 hb.size, (hb.cell (p := ⟨nb j, 1, none⟩) h1).trans h2, (hb.cell (p := ⟨nb j, 2, none⟩) h1).trans h3⟩
theorem Nodes.placed {w : World} {B g : Nat} {l : List Seg} {nb : Nat → Nat} {cv : Nat → Value} (h : Nodes w B g l.length l.length l nb cv) : Placed w l nb := fun j hj => by
  have h1 := h.node j _ hj (List.getElem?_eq_getElem hj)
  refine ⟨h1.lt, ?_, h1.cell 2⟩
  rw [sizeAt_of hj]
  exact h1.cell 1

theorem run_begin (a b : Int) (w : World) : (Instr.field 66 (.agg #[.int .i64 a, .int .i64 b]) 0).run Try.prog w = .ok (.int .i64 a) w := by kernel_rfl
theorem run_end (a b : Int) (w : World) : (Instr.field 66 (.agg #[.int .i64 a, .int .i64 b]) 1).run Try.prog w = .ok (.int .i64 b) w := by kernel_rfl

set_option maxRecDepth 100000 in
set_option maxHeartbeats 400000 in
theorem place_any (l : List Seg) (nb : Nat → Nat) (hv : validB l = true) : ∀ i, i < l.length → ∀ w, Placed w l nb →
    Calls Try.prog 59 #[.pointer (some ⟨nb i, 0, none⟩)] w fun e w' => e = .returned (.agg #[.int .i64 (begAt l i), .int .i64 (endAt l i)]) ∧ Below w.heap.size w w' := by
  refine rp_ind (valid_all hv).1.down (fun i hi hp w hw => ?_) (fun i p hi hpi hp ih w hw => ?_)
  · obtain ⟨h1, c1, c2⟩ := hw i hi
    have hpp : parPtr l nb i = none := if_pos hp
    have HB : Hid (begAt l i = 0 ∧ endAt l i = sizeAt l i) := by
      have a := begAt_root hp
      have b := endAt_beg l i
      exact ⟨a, by omega⟩
    obtain ⟨z1, z2⟩ := sizeAt_bd hv hi
    rw [hpp] at c2
    clear hw hpp hp
    rw [HB.out.1, HB.out.2]
    generalize sizeAt l i = sz at *
    go_enter Try.func59, Try.ntmps59
    go_wp2
    refine bodyPost_ret (v := .agg #[.int .i64 0, .int .i64 sz]) (by simp [results, Try.results59, go_sem]) rfl ⟨rfl, ?_⟩
    repeat (first | exact Below.refl _ _ | refine Below.setCell ?_ (by simp) _ | refine Below.alloc ?_ (by simp; try omega) _)
  · obtain ⟨h1, c1, c2⟩ := hw i hi
    have hd := (valid_all hv).1.down i hi
    have hpp : parPtr l nb i = some ⟨nb p, 0, none⟩ := by
      unfold parPtr
      rw [if_neg (by omega), hp, Int.toNat_natCast]
    have HB : Hid (begAt l i = endAt l p ∧ endAt l i = endAt l p + sizeAt l i) := by
      have a := begAt_step (valid_all hv).1.down hi hp
      have b := endAt_beg l i
      exact ⟨a, by omega⟩
    obtain ⟨z1, z2⟩ := sizeAt_bd hv hi
    obtain ⟨e1, e2, e3⟩ := place_small hv (show p < l.length by omega)
    have e0 : 0 ≤ endAt l p := by omega
    rw [hpp] at c2
    have HW := Lib.hid hw
    have HI := Lib.hid ih
    clear hw hpp hp ih hd e1 e2
    rw [HB.out.1, HB.out.2]
    clear HB
    have hz0 : w.heap.size < w.heap.size + 1 := Nat.lt_succ_self _
    have hf1 := run_end
    go_enter Try.func59, Try.ntmps59
    go_wp2_with fail
    refine (HI.out _ (HW.out.below ((Below.refl _ _).alloc (Nat.le_refl _) _))).mono ?_
    rintro e w1 ⟨rfl, hb1⟩
    have hb : Below w.heap.size w w1 := ((Below.refl _ w).alloc (Nat.le_refl _) _).trans (hb1.mono (by simp))
    rw [← hb.cell (p := ⟨nb i, 1, none⟩) h1] at c1
    rw [← hb.cell (p := ⟨nb i, 2, none⟩) h1] at c2
    have hr : Row w1 w.heap.size 66 #[.int .i64 0, .int .i64 0] := (Row.new w _ _).below hb1 (by simp)
    have r0 := hr.cell 0
    have r1 := hr.cell 1
    have f0 := hr.free 0
    have f1 := hr.free 1
    have hz := hr.lt
    have H := Lib.hid hb
    clear hb hb1 hr HW HI
    go_wp2
    refine bodyPost_ret (v := .agg #[.int .i64 (endAt l p), .int .i64 (endAt l p + sizeAt l i)]) (by simp [results, Try.results59, go_sem, r0, r1]) rfl ⟨rfl, ?_⟩
    repeat (first | exact H.out | refine Below.setCell ?_ (by simp) _ | refine Below.alloc ?_ (by simp; try omega) _)

end Go.Proofs.Ytadichddgpojpaa
/- The program's rooms: where segments begin and end, the whole room, what is saved. -/
namespace Go.Proofs.Ytadichddgpojpaa
open Go.RowKit

set_option maxRecDepth 100000 in
set_option maxHeartbeats 400000 in
theorem addressOf_any (A : Option Addr) (l : List Seg) (c : Nat) (s : ByteArray) (w : World) (hw : Segs w w.heap.size A l) (hl : l.length ≤ 1048576) (hlc : l.length ≤ c) (hcm : c ≤ 9223372036854775807) (hn : Short l) :
    Calls Try.prog 30 #[.slice A l.length c, .string s] w fun e w' => e = .returned (.int .i64 (addrB l s)) ∧ Below w.heap.size w w' := by
  have HW : Hid (Segs w w.heap.size A l) := hw
  clear hw
  cases hv : validB l with
  | false =>
    have HF : Hid (addrB l s = -1) := by
      have h1 : indexB l s = -1 := if_neg (by rw [hv]; decide)
      exact if_pos (by omega)
    go_enter Try.func30, Try.ntmps30
    go_wp2_with fail
    refine (nodesOf_bad _ _ _ _ HW.out hl hlc hcm hn hv).mono ?_
    rintro e w1 ⟨rfl, hb1⟩
    go_wp2_with fail
    refine (findNode_nil _ _).mono ?_
    rintro e w2 ⟨rfl, rfl⟩
    go_wp2
    go_ret
    exact ⟨ret_int HF.out.symm, hb1⟩
  | true =>
    have HI : Hid (indexB l s = seek l s) := if_pos hv
    rcases seek_bd l s with hi | ⟨h0, hi⟩
    · have HF : Hid (addrB l s = -1) := if_pos (by have := HI.out; omega)
      have HP : Hid (∀ nb, foundPtr l nb s = none) := fun nb => if_pos (by omega)
      clear hi
      go_enter Try.func30, Try.ntmps30
      go_wp2_with fail
      refine (nodesOf_any _ _ _ _ HW.out hl hlc hcm hn hv).mono ?_
      rintro e w1 ⟨g, nb, cv, rfl, hN, hb1⟩
      have HN := Lib.hid hN
      clear hN
      go_wp2_with fail
      refine (findNode_any _ _ _ _ _ _ _ HN.out hl).mono ?_
      rw [HP.out nb]
      rintro e w2 ⟨rfl, rfl⟩
      go_wp2
      go_ret
      exact ⟨ret_int HF.out.symm, hb1⟩
    · obtain ⟨k, hk⟩ := Int.eq_ofNat_of_zero_le h0
      have hkl : k < l.length := by omega
      have HF : Hid (addrB l s = begAt l k) := by
        show addrB l s = _
        unfold addrB
        rw [HI.out, if_neg (by omega), hk, Int.toNat_natCast]
      have HP : Hid (∀ nb, foundPtr l nb s = some ⟨nb k, 0, none⟩) := fun nb => by
        unfold foundPtr
        rw [if_neg (by omega), hk, Int.toNat_natCast]
      have HV := Lib.hid hv
      clear hk hi h0 hv
      have hfld := run_begin
      go_enter Try.func30, Try.ntmps30
      go_wp2_with fail
      refine (nodesOf_any _ _ _ _ HW.out hl hlc hcm hn HV.out).mono ?_
      rintro e w1 ⟨g, nb, cv, rfl, hN, hb1⟩
      have HN := Lib.hid hN
      clear hN
      go_wp2_with fail
      refine (findNode_any _ _ _ _ _ _ _ HN.out hl).mono ?_
      rw [HP.out nb]
      rintro e w2 ⟨rfl, rfl⟩
      go_wp2_with fail
      refine (place_any l nb HV.out k hkl _ HN.out.placed).mono ?_
      rintro e w2 ⟨rfl, hb2⟩
      have B2 := hb1.trans (hb2.mono hb1.size)
      clear hb1 hb2
      go_wp2
      go_ret
      exact ⟨ret_int HF.out.symm, B2⟩

set_option maxRecDepth 100000 in
set_option maxHeartbeats 400000 in
theorem endOf_any (A : Option Addr) (l : List Seg) (c : Nat) (s : ByteArray) (w : World) (hw : Segs w w.heap.size A l) (hl : l.length ≤ 1048576) (hlc : l.length ≤ c) (hcm : c ≤ 9223372036854775807) (hn : Short l) :
    Calls Try.prog 22 #[.slice A l.length c, .string s] w fun e w' => e = .returned (.int .i64 (endB l s)) ∧ Below w.heap.size w w' := by
  have HW : Hid (Segs w w.heap.size A l) := hw
  clear hw
  cases hv : validB l with
  | false =>
    have HF : Hid (endB l s = -1) := by
      have h1 : indexB l s = -1 := if_neg (by rw [hv]; decide)
      exact if_pos (by omega)
    go_enter Try.func22, Try.ntmps22
    go_wp2_with fail
    refine (nodesOf_bad _ _ _ _ HW.out hl hlc hcm hn hv).mono ?_
    rintro e w1 ⟨rfl, hb1⟩
    go_wp2_with fail
    refine (findNode_nil _ _).mono ?_
    rintro e w2 ⟨rfl, rfl⟩
    go_wp2
    go_ret
    exact ⟨ret_int HF.out.symm, hb1⟩
  | true =>
    have HI : Hid (indexB l s = seek l s) := if_pos hv
    rcases seek_bd l s with hi | ⟨h0, hi⟩
    · have HF : Hid (endB l s = -1) := if_pos (by have := HI.out; omega)
      have HP : Hid (∀ nb, foundPtr l nb s = none) := fun nb => if_pos (by omega)
      clear hi
      go_enter Try.func22, Try.ntmps22
      go_wp2_with fail
      refine (nodesOf_any _ _ _ _ HW.out hl hlc hcm hn hv).mono ?_
      rintro e w1 ⟨g, nb, cv, rfl, hN, hb1⟩
      have HN := Lib.hid hN
      clear hN
      go_wp2_with fail
      refine (findNode_any _ _ _ _ _ _ _ HN.out hl).mono ?_
      rw [HP.out nb]
      rintro e w2 ⟨rfl, rfl⟩
      go_wp2
      go_ret
      exact ⟨ret_int HF.out.symm, hb1⟩
    · obtain ⟨k, hk⟩ := Int.eq_ofNat_of_zero_le h0
      have hkl : k < l.length := by omega
      have HF : Hid (endB l s = endAt l k) := by
        show endB l s = _
        unfold endB
        rw [HI.out, if_neg (by omega), hk, Int.toNat_natCast]
      have HP : Hid (∀ nb, foundPtr l nb s = some ⟨nb k, 0, none⟩) := fun nb => by
        unfold foundPtr
        rw [if_neg (by omega), hk, Int.toNat_natCast]
      have HV := Lib.hid hv
      clear hk hi h0 hv
      have hfld := run_end
      go_enter Try.func22, Try.ntmps22
      go_wp2_with fail
      refine (nodesOf_any _ _ _ _ HW.out hl hlc hcm hn HV.out).mono ?_
      rintro e w1 ⟨g, nb, cv, rfl, hN, hb1⟩
      have HN := Lib.hid hN
      clear hN
      go_wp2_with fail
      refine (findNode_any _ _ _ _ _ _ _ HN.out hl).mono ?_
      rw [HP.out nb]
      rintro e w2 ⟨rfl, rfl⟩
      go_wp2_with fail
      refine (place_any l nb HV.out k hkl _ HN.out.placed).mono ?_
      rintro e w2 ⟨rfl, hb2⟩
      have B2 := hb1.trans (hb2.mono hb1.size)
      clear hb1 hb2
      go_wp2
      go_ret
      exact ⟨ret_int HF.out.symm, B2⟩

set_option maxRecDepth 100000 in
set_option maxHeartbeats 400000 in
theorem endsBehind_any (a b x y : Int) (w : World) :
    Calls Try.prog 99 #[.agg #[.int .i64 a, .int .i64 b], .agg #[.int .i64 x, .int .i64 y]] w fun e w' => e = .returned (.bool (decide (y < b))) ∧ Below w.heap.size w w' := by
  go_enter Try.func99, Try.ntmps99
  go_wp2
  go_ret
  refine ⟨ret_bool (by simp), ?_⟩
  repeat (first | exact Below.refl _ _ | refine Below.setCell ?_ (by simp) _ | refine Below.alloc ?_ (by simp; try omega) _)

/-- Of two the one that ends later, the first if neither does. -/
def laterOf (l : List Seg) (i j : Nat) : Nat := if endAt l i < endAt l j then j else i

set_option maxRecDepth 100000 in
set_option maxHeartbeats 400000 in
theorem endingLast_any (l : List Seg) (nb : Nat → Nat) (hv : validB l = true) (i j : Nat) (hi : i < l.length) (hj : j < l.length) (w : World) (hw : Placed w l nb) :
    Calls Try.prog 58 #[.pointer (some ⟨nb i, 0, none⟩), .pointer (some ⟨nb j, 0, none⟩)] w fun e w' => e = .returned (.pointer (some ⟨nb (laterOf l i j), 0, none⟩)) ∧ Below w.heap.size w w' := by
  have HW := Lib.hid hw
  have HV := Lib.hid hv
  clear hw hv
  by_cases h : endAt l i < endAt l j
  · have hd : decide (endAt l i < endAt l j) = true := decide_eq_true h
    have HP : Hid ((some ⟨nb (laterOf l i j), 0, none⟩ : Option Addr) = some ⟨nb j, 0, none⟩) := by
      show _ = _
      unfold laterOf
      rw [if_pos h]
    clear h
    go_enter Try.func58, Try.ntmps58
    go_wp2_with fail
    refine (place_any l nb HV.out j hj _ HW.out).mono ?_
    rintro e w1 ⟨rfl, hb1⟩
    go_wp2_with fail
    refine (place_any l nb HV.out i hi _ (HW.out.below hb1)).mono ?_
    rintro e w2 ⟨rfl, hb2⟩
    have B2 := hb1.trans (hb2.mono hb1.size)
    clear hb1 hb2
    go_wp2_with fail
    refine (endsBehind_any _ _ _ _ _).mono ?_
    rw [hd]
    rintro e w3 ⟨rfl, hb3⟩
    have B3 := B2.trans (hb3.mono B2.size)
    clear B2 hb3 hd
    go_wp2
    go_ret
    exact ⟨ret_ptr HP.out.symm, B3⟩
  · have hd : decide (endAt l i < endAt l j) = false := decide_eq_false h
    have HP : Hid ((some ⟨nb (laterOf l i j), 0, none⟩ : Option Addr) = some ⟨nb i, 0, none⟩) := by
      show _ = _
      unfold laterOf
      rw [if_neg h]
    clear h
    go_enter Try.func58, Try.ntmps58
    go_wp2_with fail
    refine (place_any l nb HV.out j hj _ HW.out).mono ?_
    rintro e w1 ⟨rfl, hb1⟩
    go_wp2_with fail
    refine (place_any l nb HV.out i hi _ (HW.out.below hb1)).mono ?_
    rintro e w2 ⟨rfl, hb2⟩
    have B2 := hb1.trans (hb2.mono hb1.size)
    clear hb1 hb2
    go_wp2_with fail
    refine (endsBehind_any _ _ _ _ _).mono ?_
    rw [hd]
    rintro e w3 ⟨rfl, hb3⟩
    have B3 := B2.trans (hb3.mono B2.size)
    clear B2 hb3 hd
    go_wp2
    go_ret
    exact ⟨ret_ptr HP.out.symm, B3⟩

set_option maxRecDepth 100000 in
set_option maxHeartbeats 400000 in
theorem fold_any (B g : Nat) (l : List Seg) (nb : Nat → Nat) (cv : Nat → Value) (w : World) (hN : Nodes w B g l.length l.length l nb cv) (hv : validB l = true) :
    Calls Try.prog 57 #[.slice (some ⟨g, 0, none⟩) l.length l.length, .func (.func 58) #[] #[]] w fun e w' => e = .returned (.pointer (some ⟨nb (lastIx l (l.length - 1)), 0, none⟩)) ∧ Below w.heap.size w w' := by
  have HN := Lib.hid hN
  have HV := Lib.hid hv
  obtain ⟨-, hl8, hl1⟩ := valid_all hv
  obtain ⟨cs, hrow, -, hci⟩ := hN.row
  have HC : Hid (∀ i, i < l.length → w.cell? ⟨g, i, none⟩ = some (.pointer (some ⟨nb i, 0, none⟩))) := fun i hi => by rw [hrow.cell]; exact hci i hi
  have hg := hrow.lt
  have c0 := HC.out 0 (by omega)
  clear hN hv hrow hci cs
  go_enter Try.func57, Try.ntmps57
  go_wp2
  · have H1 := Lib.hid h
    clear h
    go_loop [5, 14] (fun v i => v = .pointer (some ⟨nb 0, 0, none⟩) ∧ i = .int .i64 0) (fun _ _ => 0)
    case atStart => exact ⟨rfl, rfl⟩
    case round =>
      obtain ⟨rfl, rfl⟩ := hrel
      have HE : Hid (lastIx l (l.length - 1) = 0) := by
        show lastIx l (l.length - 1) = 0
        rw [H1.out]; rfl
      go_wp2
      go_ret
      exact ⟨ret_ptr (by rw [HE.out]), Below.refl _ _⟩
  · go_loopw [5, 14] (fun v i wr => ∃ (k : Nat), k + 1 ≤ l.length ∧ i = .int .i64 k ∧ v = .pointer (some ⟨nb (lastIx l k), 0, none⟩) ∧ Below w.heap.size w wr)
      (fun _ i _ => l.length - (intOf i).toNat)
    case atStart => exact ⟨0, by omega, rfl, rfl, Below.refl _ _⟩
    case round =>
      obtain ⟨k, hk, rfl, rfl, hb⟩ := hrel
      have hle := lastIx_le l k
      by_cases hlt : k + 1 < l.length
      · have HR : Hid (nb (lastIx l (k + 1)) = nb (laterOf l (lastIx l k) (k + 1))) := rfl
        have ck : wr.cell? ⟨g, 1 + k, none⟩ = some (.pointer (some ⟨nb (k + 1), 0, none⟩)) := by
          rw [Nat.add_comm 1 k, hb.cell (p := ⟨g, k + 1, none⟩) hg]
          exact HC.out (k + 1) hlt
        clear c0
        have hlt2 : (k : Int) < ((l.length - 1 : Nat) : Int) := by omega
        have hlt3 : decide (k < l.length - 1) = true := decide_eq_true (by omega)
        have hlt4 : k < l.length - 1 := by omega
        go_wp2_with fail
        refine (endingLast_any l nb HV.out (lastIx l k) (k + 1) (by omega) hlt _ (HN.out.placed.below hb)).mono ?_
        rintro e w1 ⟨rfl, hb1⟩
        have B1 := hb.trans (hb1.mono hb.size)
        clear hb hb1
        rw [← HR.out]
        go_wp2
        go_roundw
        case rel => exact ⟨k + 1, by omega, by go_num, rfl, B1⟩
        case measure => simp [intOf]; omega
      · obtain rfl : k = l.length - 1 := by omega
        go_wp2
        go_ret
        exact ⟨rfl, hb⟩

end Go.Proofs.Ytadichddgpojpaa
