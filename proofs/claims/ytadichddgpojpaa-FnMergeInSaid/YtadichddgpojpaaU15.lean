/- Joined: Vf Vh. -/
import Derived.Test.YtadichddgpojpaaU14
import Derived.Laws.CopyOwn
import Derived.Lib.SliceRun
import Derived.Lib.Overlaps
import Derived.Lib.AppendZerosOnto
import Derived.Deep.Upon
import Derived.Deep.RegionLaw
/- Chapter 9: the program's subtree: what is below a node, in order. -/
namespace Go.Proofs.Ytadichddgpojpaa
open Go.RowKit

theorem own_news9 {w : World} {B g n cap : Nat} {e : TypeId} {xs : List Value} (h : w.ownsRow B e 1 (.slice (some ⟨g, 0, none⟩) n cap) n xs) : ∀ j u, xs[j]? = some u → w.cell? ((⟨g, 0, none⟩ : Addr).add j) = some u := fun j u hj => by
  rw [WideShapes.add_plain]
  have hlt := (List.getElem?_eq_some_iff.1 hj).1
  show w.cell? ⟨g, 0 + j, none⟩ = some u
  rw [Nat.zero_add, World.ownsRow.cellAt h j (by have := h.1; omega)]
  exact hj
theorem ptrs9_one (nb : Nat → Nat) (L : List Nat) : ∀ u ∈ ptrsOf nb L, u.oneCell' = true := by
  intro u hu
  obtain ⟨j, _, rfl⟩ := List.mem_map.1 hu
  rfl
theorem ptrs9_len (nb : Nat → Nat) (L : List Nat) : (ptrsOf nb L).length = L.length := List.length_map _
theorem ptrs9_append (nb : Nat → Nat) (L M : List Nat) : ptrsOf nb (L ++ M) = ptrsOf nb L ++ ptrsOf nb M := List.map_append
theorem kids9_form {w : World} {B n : Nat} {v : Value} {xs : List Value} {e : TypeId} (h : w.ownsRow B e 1 v n xs) : ∃ A c, v = .slice A n c ∧ (0 < n → ∃ g, A = some ⟨g, 0, none⟩) := by
  rcases h.2 with ⟨rfl, h0⟩ | ⟨g, cap, cur, rfl, hg, hh, r⟩
  · exact ⟨none, 0, by rw [h0], fun h => by omega⟩
  · exact ⟨_, cap, rfl, fun _ => ⟨g, rfl⟩⟩

/-- A row of nodes of the call's own. -/
def SubPost9 (w : World) (nb : Nat → Nat) (L : List Nat) (e : Ending) (w' : World) : Prop :=
  ∃ g cap, e = .returned (.slice (some ⟨g, 0, none⟩) L.length cap) ∧ w'.ownsRow w.heap.size 56 1 (.slice (some ⟨g, 0, none⟩) L.length cap) L.length (ptrsOf nb L) ∧ Below w.heap.size w w'
/-- What subtree does, to a depth. -/
def Subs9 (B n : Nat) (nm : Nat → ByteArray) (sz pp : Nat → Int) (kd : Nat → List Nat) (nb : Nat → Nat) (cv : Nat → Value) (ps : Nat → Int) (f : Nat) : Prop :=
  ∀ (i : Nat) (w : World), n ≤ f + i → i < n → Mem9 w B n nm sz pp kd nb cv → (∀ j, j ∈ sub9 ps n i → kd j = kids9 ps n j) →
    Calls Try.prog 95 #[.pointer (some ⟨nb i, 0, none⟩)] w (SubPost9 w nb (sub9 ps n i))
def part9 (ps : Nat → Int) (n i k : Nat) : List Nat := i :: (((kids9 ps n i).take k).map (sub9 ps n)).flatten
theorem part9_zero (ps : Nat → Int) (n i : Nat) : part9 ps n i 0 = [i] := rfl
theorem part9_succ {ps : Nat → Int} {n i k : Nat} (h : k < (kids9 ps n i).length) : part9 ps n i (k + 1) = part9 ps n i k ++ sub9 ps n (kids9 ps n i)[k] := by
  unfold part9
  rw [List.take_succ_eq_append_getElem h, List.map_append, List.flatten_append, List.map_cons, List.map_nil, List.flatten_cons, List.flatten_nil, List.append_nil, List.cons_append]
theorem part9_all {ps : Nat → Int} {n i : Nat} (hf : Fall9 ps n) (hi : i < n) : part9 ps n i (kids9 ps n i).length = sub9 ps n i := by
  unfold part9
  rw [List.take_length, sub9_eq hf hi]
theorem part9_sub (ps : Nat → Int) (n i k : Nat) : (part9 ps n i k).Sublist (i :: ((kids9 ps n i).map (sub9 ps n)).flatten) := by
  have h : ((kids9 ps n i).map (sub9 ps n)).flatten = (((kids9 ps n i).take k).map (sub9 ps n)).flatten ++ (((kids9 ps n i).drop k).map (sub9 ps n)).flatten := by
    rw [← List.flatten_append, ← List.map_append, List.take_append_drop]
  rw [h]
  exact (List.sublist_append_left _ _).cons_cons i
theorem part9_len {ps : Nat → Int} {n i : Nat} (hf : Fall9 ps n) (hi : i < n) (k : Nat) : (part9 ps n i k).length ≤ n := by
  refine nodup9_len (n := n) ?_ fun x hx => ?_
  · have h1 := sub9_nodup hf n i (by omega) hi
    rw [sub9_eq hf hi] at h1
    have h2 := part9_sub ps n i k
    exact h1.sublist h2
  · unfold part9 at hx
    have h2 := part9_sub ps n i k
    have h3 : x ∈ sub9 ps n i := by rw [sub9_eq hf hi]; exact h2.subset hx
    exact ((in_sub9 hf hi).1 h3).1

set_option maxRecDepth 100000 in
set_option maxHeartbeats 2000000 in
theorem subtree_step (B n : Nat) (nm : Nat → ByteArray) (sz pp : Nat → Int) (kd : Nat → List Nat) (nb : Nat → Nat) (cv : Nat → Value) (ps : Nat → Int) (hf : Fall9 ps n) (hn : n ≤ 100) (f : Nat)
    (IH : Subs9 B n nm sz pp kd nb cv ps f) : Subs9 B n nm sz pp kd nb cv ps (f + 1) := by
  intro i w hfi hi hM hkd
  have HM := Lib.hid hM
  have HIH : Hid (Subs9 B n nm sz pp kd nb cv ps f) := IH
  have HK : Hid (kd i = kids9 ps n i) := hkd i ((in_sub9 hf hi).2 ⟨hi, .refl⟩)
  have HKD : Hid (∀ k (h : k < (kids9 ps n i).length), (kids9 ps n i)[k] < n ∧ n ≤ f + (kids9 ps n i)[k] ∧ ∀ j, j ∈ sub9 ps n (kids9 ps n i)[k] → kd j = kids9 ps n j) := fun k h => by
    obtain ⟨h1, h2⟩ := mem_kids9.1 (List.getElem_mem h)
    have h3 := hf _ h1
    refine ⟨h1, by omega, fun j hj => hkd j ?_⟩
    obtain ⟨h4, h5⟩ := (in_sub9 hf h1).1 hj
    exact (in_sub9 hf hi).2 ⟨h4, (Anc9.step h2 .refl).trans h5⟩
  have HP0 : Hid (part9 ps n i 0 = [i]) := rfl
  have HPS := Lib.hid (fun k (h : k < (kids9 ps n i).length) => part9_succ h)
  have HPA := Lib.hid (part9_all hf hi)
  have HPL := Lib.hid (part9_len hf hi)
  have hKL : (kids9 ps n i).length ≤ n := kids9_len ps n i
  have HKR : Hid (w.ownsRow B 56 1 (cv i) (kids9 ps n i).length (ptrsOf nb (kids9 ps n i))) := by
    have := hM.kids i hi
    rw [HK.out] at this
    exact this
  obtain ⟨A, cA, hcv, hA⟩ := kids9_form HKR.out
  have hnode := hM.node i hi
  rw [hcv] at hnode HKR
  have e3 : (w.alloc (.cells #[.pointer (some ⟨nb i, 0, none⟩)] 56)).cell? ⟨nb i, 3, none⟩ = some (.slice A (kids9 ps n i).length cA) := (hnode.alloc _).cell 3
  have HO0 : Hid ((w.alloc (.cells #[.pointer (some ⟨nb i, 0, none⟩)] 56)).ownsRow w.heap.size 56 1 (.slice (some ⟨w.heap.size, 0, none⟩) 1 1) 1 (ptrsOf nb (part9 ps n i 0))) :=
    World.ownsRow_lit (base := w.heap.size) (e := 56) (size := 1) w #[.pointer (some ⟨nb i, 0, none⟩)] 1 (Nat.le_refl _) (by simp [maxLen]) rfl
  have HL0 : Hid (1 = (part9 ps n i 0).length) := rfl
  have HB0 : Hid (Below w.heap.size w (w.alloc (.cells #[.pointer (some ⟨nb i, 0, none⟩)] 56))) := (Below.refl _ w).alloc (Nat.le_refl _) _
  clear hnode hM hkd IH hcv hf HP0
  have hwz : w.heap.size ≤ w.heap.size := Nat.le_refl _
  generalize part9 ps n i = L at *
  generalize kids9 ps n i = K at *
  generalize hS : sub9 ps n i = S at *
  obtain ⟨i0, hi0, hz0, hz1, hz2⟩ := info_parts info_ptr
  have I0 := Lib.hid hi0
  have Z0 := Lib.hid hz0
  have Z1 := Lib.hid hz1
  have Z2 := Lib.hid hz2
  clear hi0 hz0 hz1 hz2 hS
  unfold SubPost9
  go_enter Try.func95, Try.ntmps95
  go_wp2
  go_loopw [3, 13] (fun vo iv wr => ∃ (k g cap m : Nat), iv = .int .i64 k ∧ k ≤ K.length ∧ 0 < m ∧ vo = .slice (some ⟨g, 0, none⟩) m cap ∧ Hid (m = (L k).length) ∧ Hid (wr.ownsRow w.heap.size 56 1 (.slice (some ⟨g, 0, none⟩) m cap) m (ptrsOf nb (L k))) ∧ Hid (Below w.heap.size w wr))
    (fun _ iv _ => K.length - (intOf iv).toNat)
  case atStart => exact ⟨0, w.heap.size, 1, 1, rfl, Nat.zero_le _, by omega, rfl, HL0, HO0, HB0⟩
  case round =>
    clear HL0 HO0 HB0 e3
    obtain ⟨k, g, cap, m, rfl, hk, hm0, rfl, HMm, HO, HB⟩ := hrel
    have hk0 : (0 : Int) ≤ (k : Int) := Int.natCast_nonneg _
    by_cases hlt : k < K.length
    · have hlt' : (k : Int) < (K.length : Int) := by omega
      obtain ⟨gA, rfl⟩ := hA (by omega)
      obtain ⟨hj1, hj2, hj3⟩ := HKD.out k hlt
      have hcell : wr.cell? ⟨gA, k, none⟩ = some (.pointer (some ⟨nb K[k], 0, none⟩)) := by
        have h1 : w.cell? ⟨gA, k, none⟩ = (ptrsOf nb K)[k]? := HKR.out.cellAt k (by omega)
        rw [HB.out.cell (p := ⟨gA, k, none⟩) (HKR.out.lt gA rfl).2, h1]
        simp [ptrsOf, ptrTo, hlt]
      have HMr : Hid (Mem9 wr B n nm sz pp kd nb cv) := HM.out.below HB.out
      have HST := Lib.hid (HPS.out k hlt)
      have hpl := HPL.out (k + 1)
      have HCALL : Hid (Calls Try.prog 95 #[.pointer (some ⟨nb K[k], 0, none⟩)] wr (SubPost9 wr nb (sub9 ps n K[k]))) := HIH.out K[k] wr hj2 hj1 HMr.out hj3
      unfold SubPost9 at HCALL
      clear hj1 hj2 hj3
      have hmz : m + (sub9 ps n K[k]).length ≤ 100 := by
        have h1 := HMm.out
        have h2 := congrArg List.length HST.out
        rw [List.length_append] at h2
        omega
      clear hpl
      generalize sub9 ps n K[k] = Sj at *
      generalize K[k] = j at *
      go_wp2_with fail
      refine Calls.mono HCALL.out ?_
      rintro e w3 ⟨g3, cap3, rfl, ho3, hb3⟩
      have HNEW := Lib.hid (own_news9 ho3)
      have HO3 := Lib.hid (own_keep HO.out fun b hb => hb3.block b (HO.out.lt b hb).2)
      have HB3 : Hid (Below w.heap.size w w3) := HB.out.trans (hb3.mono HB.out.size)
      have HPZ : Hid ((ptrsOf nb Sj).length = Sj.length * 1) := by show _ = _; rw [ptrs9_len, Nat.mul_one]
      clear ho3 hb3 HCALL HO HB HMr
      go_wp2_with (at_builtin; go_loud (refine wpList_append_own _ rfl (.tmp 17) (.tmp 19) 54 rfl w.heap.size 56 i0 (.pointer none) 1 8 Try.underlying54 I0.out Z0.out Z1.out Z2.out rfl (by decide) (.slice (some ⟨g, 0, none⟩) m cap) m (ptrsOf nb (L k)) rfl HO3.out ⟨g3, 0, none⟩ Sj.length cap3 (ptrsOf nb Sj) rfl HPZ.out HNEW.out (ptrs9_one _ _) (by unfold maxLen; omega) (by omega) HB3.out.size ?_); intro v' w4 hown4 hgrow4 _; have HO4 := Lib.hid hown4; have HB4 := Lib.hid (HB3.out.grown hgrow4 HB3.out.size (fun k e => (HO3.out.lt k e).1)); clear hown4 hgrow4)
      obtain ⟨g4, cap4, rfl⟩ : ∃ g4 cap4, v' = .slice (some ⟨g4, 0, none⟩) (m + Sj.length) cap4 := by
        have h1 := HO4.out
        have h2 := HMm.out
        have h3 := HO3.out
        rcases kids9_form h1 with ⟨A', c', e, h4⟩
        obtain ⟨g4, rfl⟩ := h4 (by omega)
        exact ⟨g4, c', e⟩
      go_wp2
      go_roundw
      case rel => exact ⟨k + 1, g4, cap4, m + Sj.length, by go_num, by omega, by omega, rfl, by show _ = _; rw [HST.out, List.length_append, ← HMm.out], by rw [HST.out, ptrs9_append]; exact HO4.out, HB4⟩
      case measure => simp [intOf]; omega
    · obtain rfl : k = K.length := by omega
      have hm := HMm.out
      rw [HPA.out] at hm HO
      subst hm
      go_wp2
      go_ret
      exact ⟨g, cap, rfl, HO.out, HB.out⟩

theorem subtree_any (B n : Nat) (nm : Nat → ByteArray) (sz pp : Nat → Int) (kd : Nat → List Nat) (nb : Nat → Nat) (cv : Nat → Value) (ps : Nat → Int) (hf : Fall9 ps n) (hn : n ≤ 100) : ∀ f, Subs9 B n nm sz pp kd nb cv ps f
  | 0 => fun i w h1 h2 _ _ => by omega
  | f + 1 => subtree_step B n nm sz pp kd nb cv ps hf hn f (subtree_any B n nm sz pp kd nb cv ps hf hn f)

end Go.Proofs.Ytadichddgpojpaa
/- Chapter 9: slices.Replace at one element of a row of the call's own: the library's own text is walked. -/
namespace Go.Proofs.Ytadichddgpojpaa
open Go.RowKit

/-- copy into a row, and all else is as it was. -/
theorem wpList_copy_only {P : Program} {w : World} {ops : Array Oper} {rest : List Oper} {o : Oper} {a : Act} {Q : Exit → Act → World → Prop} (hgd : o.guard = none) (d s : Operand) (dT sT : TypeId)
    (ho : o.op = .call { callee := .builtin .copy, args := #[d, s], argTypes := #[dT, sT] }) (elem : TypeId) (hu : P.underlying dT = some (.slice elem)) (hsz : (P.info? elem).map (·.size) = some 1)
    (dp sp : Option Addr) (dLen dCap sLen sCap : Nat) (hd : a.eval d = .slice dp dLen dCap) (hs : a.eval s = .slice sp sLen sCap)
    (g off : Nat) (cur : List Value) (t : TypeId) (hg : w.heap[g]? = some (.cells cur.toArray t (0, 0))) (cs : List Value) (hn : cs.length = Nat.min sLen dLen)
    (hpos : 0 < cs.length → dp = some ⟨g, off, none⟩ ∧ ∃ ad, sp = some ad ∧ ∀ j v, cs[j]? = some v → w.cell? (ad.add j) = some v)
    (hfit : off + cs.length ≤ cur.length) (h1 : ∀ v ∈ cs, v.oneCell' = true)
    (h : ∀ w', Hid (w'.heap[g]? = some (.cells (splice cur off cs).toArray t (0, 0))) → Hid (Only w w' (· = g)) → wpList P ops Q rest (a.put o.dst (goInt cs.length)) w') :
    wpList P ops Q (o :: rest) a w := by
  by_cases h0 : cs.length = 0
  · obtain rfl : cs = [] := List.eq_nil_of_length_eq_zero h0
    refine wpList_copy_nothing hgd d s dT sT ho elem hu hsz dp sp dLen dCap sLen sCap hd hs (by simpa using hn.symm) ?_
    exact h w (show _ = _ by simpa [splice] using hg) ⟨rfl, rfl, rfl, Nat.le_refl _, fun _ _ _ => rfl⟩
  · obtain ⟨rfl, ad, rfl, hsrc⟩ := hpos (by omega)
    refine wpList_copy_own hgd d s dT sT ho elem hu hsz g off dLen dCap ad sLen sCap hd hs cur.toArray t hg cs hn hsrc (by simpa using hfit) h1 ?_
    exact h _ (show _ = _ by simpa [splice] using setRow_heap w g _ _ t _ hg) ⟨rfl, rfl, rfl, by simp [World.setRow], fun k _ hk => setRow_other w g k _ hk⟩
theorem step_copy_only {P : Program} {ops : Array Oper} {o : Oper} {a : Act} {w : World} {K : Act → World → Prop} {Q : Exit → Act → World → Prop} {E : Prop} (hgd : o.guard = none) (d s : Operand) (dT sT : TypeId)
    (ho : o.op = .call { callee := .builtin .copy, args := #[d, s], argTypes := #[dT, sT] }) (elem : TypeId) (hu : P.underlying dT = some (.slice elem)) (hsz : (P.info? elem).map (·.size) = some 1)
    (dp sp : Option Addr) (dLen dCap sLen sCap : Nat) (hd : a.eval d = .slice dp dLen dCap) (hs : a.eval s = .slice sp sLen sCap)
    (g off : Nat) (cur : List Value) (t : TypeId) (hg : w.heap[g]? = some (.cells cur.toArray t (0, 0))) (cs : List Value) (hn : cs.length = Nat.min sLen dLen)
    (hpos : 0 < cs.length → dp = some ⟨g, off, none⟩ ∧ ∃ ad, sp = some ad ∧ ∀ j v, cs[j]? = some v → w.cell? (ad.add j) = some v)
    (hfit : off + cs.length ≤ cur.length) (h1 : ∀ v ∈ cs, v.oneCell' = true)
    (h : ∀ w', Hid (w'.heap[g]? = some (.cells (splice cur off cs).toArray t (0, 0))) → Hid (Only w w' (· = g)) → K (a.put o.dst (goInt cs.length)) w') :
    if Region.wanted o (yielded ops a.tmps) = true then Oper.wp P o a w K Q else E := by
  have hw : Region.wanted o (yielded ops a.tmps) = true := by simp [Region.wanted, hgd]
  rw [if_pos hw]
  by_cases h0 : cs.length = 0
  · obtain rfl : cs = [] := List.eq_nil_of_length_eq_zero h0
    have hrun := run_copy_none (P := P) w dT sT o.type elem dp sp dLen dCap sLen sCap hu hsz (by simpa using hn.symm)
    unfold Oper.wp
    simp [execOp, ho, resolve, invoke, builtin, hd, hs, hrun, Result.andThen]
    exact h w (show _ = _ by simpa [splice] using hg) ⟨rfl, rfl, rfl, Nat.le_refl _, fun _ _ _ => rfl⟩
  · obtain ⟨rfl, ad, rfl, hsrc⟩ := hpos (by omega)
    have hrun := run_copy_row (P := P) w dT sT o.type elem g off dLen dCap ad sLen sCap cur.toArray t cs hu hsz hg hn hsrc (by simpa using hfit) h1
    unfold Oper.wp
    simp [execOp, ho, resolve, invoke, builtin, hd, hs, hrun, Result.andThen]
    exact h _ (show _ = _ by simpa [splice] using setRow_heap w g _ _ t _ hg) ⟨rfl, rfl, rfl, by simp [World.setRow], fun k _ hk => setRow_other w g k _ hk⟩
theorem wpList_append_nothing9 {P : Program} {w : World} {ops : Array Oper} {rest : List Oper} {o : Oper} {a : Act} {Q : Exit → Act → World → Prop} (hgd : o.guard = none) (s x : Operand) (t : TypeId)
    (ho : o.op = .call { callee := .builtin .append, args := #[s, x], argTypes := #[t, t] }) (e : TypeId) (i : TypeInfo) (ht : P.underlying t = some (.slice e)) (hi : P.info? e = some i)
    (b A : Option Addr) (n c vc : Nat) (hs : a.eval s = .slice b n c) (hx : a.eval x = .slice A 0 vc) (hA : ∀ ad, A = some ad → True) (hle : n ≤ c)
    (h : wpList P ops Q rest (a.put o.dst (.slice b n c)) w) : wpList P ops Q (o :: rest) a w := by
  refine wpList_plain hgd fun K hK => ?_
  have hrun : (Builtin.append_ #[t, t] o.type #[.slice b n c, .slice A 0 vc]).run P w = .ok (.slice b n c) w := by
    cases A with
    | none => cases b <;> simp [Builtin.append_, run_underlying ht, sizeOf, typeInfo, hi, hle, storeCells, Builtin.lenOf, Builtin.firstCells]
    | some ad => cases b <;> simp [Builtin.append_, run_underlying ht, sizeOf, typeInfo, hi, hle, storeCells, Builtin.lenOf, Builtin.firstCells, loadCells, loadCellsFrom]
  unfold Oper.wp
  simp [execOp, ho, resolve, invoke, builtin, hs, hx, hrun, Result.andThen]
  exact hK _ _ h

theorem own_prefix9 {w : World} {B b n c : Nat} {e : TypeId} {xs : List Value} (h : w.ownsRow B e 1 (.slice (some ⟨b, 0, none⟩) n c) n xs) {i : Nat} (hi : i ≤ n) : w.ownsRow B e 1 (.slice (some ⟨b, 0, none⟩) i c) i (xs.take i) := by
  refine ⟨by rw [List.length_take, h.1]; omega, ?_⟩
  rcases h.2 with ⟨h0, _⟩ | ⟨g, cap, cur, hv, hg, hh, h1, h2, h3, h4⟩
  · cases h0
  · injection hv with hv1 hv2 hv3
    injection hv1 with hv1
    injection hv1 with hv1
    subst hv1 hv3
    refine .inr ⟨b, c, cur, rfl, hg, hh, by omega, h2, h3, ?_⟩
    rw [← h4, List.take_take]
    congr 1
    omega
theorem only_grown9 {w w' : World} {b : Option Nat} (h : w.grownBy w' b) : Only w w' (fun k => some k = b) := ⟨h.os, h.tape, h.output, h.size, fun k hk hm => h.block k hk hm⟩

theorem own_past9 {w : World} {B b n c : Nat} {xs : List Value} (h : w.ownsRow B 56 1 (.slice (some ⟨b, 0, none⟩) n c) n xs) {i : Nat} (hi : n ≤ i) (u : Value) : (w.setCell ⟨b, i, none⟩ u).ownsRow B 56 1 (.slice (some ⟨b, 0, none⟩) n c) n xs := by
  refine ⟨h.1, ?_⟩
  rcases h.2 with ⟨h0, _⟩ | ⟨g, cap, cur, hv, hg, hh, h1, h2, h3, h4⟩
  · cases h0
  · injection hv with hv1 hv2 hv3
    injection hv1 with hv1
    injection hv1 with hv1
    subst hv1 hv3
    have hr : Row w b 56 cur := hh
    refine .inr ⟨b, c, _, rfl, hg, hr.put i u, h1, h2, by simpa using h3, ?_⟩
    rw [← h4, Array.toList_setIfInBounds, List.take_set_of_le (by omega)]
theorem run_clear9 (w : World) (b i c : Nat) (ty : TypeId) (hc : (w.cell? ⟨b, i, none⟩).isSome = true) (hf : w.frozen? ⟨b, i, none⟩ = false) :
    (Builtin.clear_ #[54] ty #[.slice (some ⟨b, i, none⟩) 1 c]).run Try.prog w = .ok (.tuple #[]) (w.setCell ⟨b, i, none⟩ (.pointer none)) := by
  have h := Lib.run_clear_slice (P := Try.prog) w 54 56 ty (.pointer none) Try.underlying54 Try.zeroValue56 rfl rfl b i 1 c (by omega) (fun j hj => by
    obtain rfl : j = 0 := by omega
    exact hc) (fun j hj => by
    obtain rfl : j = 0 := by omega
    exact hf)
  exact h

theorem only_drew9 {w w' : World} {may : Nat → Prop} (h : Only w w' may) : Only w w'.drew may := ⟨h.os, h.tape, h.output, h.size, h.block⟩
theorem only_trans9 {w w1 w2 : World} {may : Nat → Prop} (h : Only w w1 may) (h' : Only w1 w2 may) : Only w w2 may :=
  ⟨h'.os.trans h.os, h'.tape.trans h.tape, h'.output.trans h.output, Nat.le_trans h.size h'.size, fun k hk hm => (h'.block k (Nat.lt_of_lt_of_le hk h.size) hm).trans (h.block k hk hm)⟩
theorem only_eq9 {w w' : World} {b : Nat} (h : Only w w' (· = b)) : Only w w' (fun k => some k = some b) := ⟨h.os, h.tape, h.output, h.size, fun q hq hm => h.block q hq (fun e => hm (by rw [e]))⟩

/-- What Replace leaves. -/
def ReplPost9 (w : World) (B b : Nat) (xs : List Value) (e : Ending) (w' : World) : Prop :=
  ∃ v', e = .returned v' ∧ w'.ownsRow B 56 1 v' xs.length xs ∧ Only w w' (fun k => some k = some b) ∧ (v'.ownBlock = some b ∨ ∃ g, v'.ownBlock = some g ∧ w.heap.size ≤ g)
/-- What Replace is asked of. -/
structure Repl9 (w : World) (B b n c i m : Nat) (A : Option Addr) (vc : Nat) (xs ys : List Value) : Prop where
  own : w.ownsRow B 56 1 (.slice (some ⟨b, 0, none⟩) n c) n xs
  lt : i < n
  few : n ≤ 100
  len : ys.length = m
  few' : m ≤ 100
  le : m ≤ vc
  le' : vc ≤ 9223372036854775807
  base : B ≤ w.heap.size
  one : ∀ y ∈ ys, y.oneCell' = true
  xone : ∀ x ∈ xs, x.oneCell' = true
  from' : 0 < m → ∃ vb, A = some ⟨vb, 0, none⟩ ∧ vb ≠ b ∧ (∀ j u, ys[j]? = some u → w.cell? ((⟨vb, 0, none⟩ : Addr).add j) = some u) ∧ ∃ tB kB, w.shape? vb = some (tB, kB) ∧ kB ≠ 0

set_option maxRecDepth 100000 in
set_option maxHeartbeats 2000000 in
theorem replace9_last_none (B b n c i : Nat) (A : Option Addr) (vc : Nat) (xs : List Value) (w : World) (h : Repl9 w B b n c i 0 A vc xs []) (hin : i + 1 = n) :
    Calls Try.prog 94 #[.slice (some ⟨b, 0, none⟩) n c, .int .i64 i, .int .i64 ((i : Int) + 1), .slice A 0 vc] w (ReplPost9 w B b (xs.take i)) := by
  have HH := Lib.hid h
  have hn := h.few
  have hxl : xs.length = n := by have := h.own.1; omega
  obtain ⟨cur, hrow, hnc, hcm, hcz, hct⟩ : ∃ cur, Row w b 56 cur ∧ n ≤ c ∧ c ≤ maxLen ∧ cur.size = c ∧ cur.toList.take n = xs := by
    rcases h.own.2 with ⟨h0, _⟩ | ⟨g, cap, cur, hv, hg, hh, h1, h2, h3, h4⟩
    · cases h0
    · injection hv with hv1 hv2 hv3
      injection hv1 with hv1
      injection hv1 with hv1
      subst hv1 hv3
      exact ⟨cur, hh, h1, h2, by omega, by rw [← h4, Nat.mul_one]⟩
  have HROW := Lib.hid hrow
  have HCUR := Lib.hid hct
  have HCZ := Lib.hid hcz
  have f0 := hrow.free i
  have e0 : w.cell? ⟨b, i, none⟩ = some (cur[i]'(by omega)) := by rw [hrow.cell, Array.getElem?_eq_getElem]
  generalize cur[i]'_ = old at *
  clear h hrow hct hcz
  subst hin
  unfold maxLen at hcm
  have hci : ¬ (c = i) := by omega
  have hi0 : (0 : Int) ≤ (i : Int) := Int.natCast_nonneg _
  have hi1 : (i : Int) ≤ (i : Int) + 1 := by omega
  have hi2 : (i : Int) + 1 ≤ (c : Int) := by omega
  have hi3 : (i : Int) ≤ (c : Int) := by omega
  have he : ((i : Int) == (i : Int) + 1) = false := by rw [beq_eq_false_iff_ne]; omega
  have hl : ((i : Int) + 1 == ((i + 1 : Nat) : Int)) = true := by rw [beq_iff_eq]; omega
  obtain ⟨i0, hz, hz0, hz1, hz2⟩ := info_parts info_ptr
  have I0 := Lib.hid hz
  clear hz
  go_enter Try.func94, Try.ntmps94
  go_wp2_with (at_builtin; go_loud (refine wpList_append_nothing9 rfl (.tmp 32) (.tmp 33) 54 rfl 56 i0 Try.underlying54 I0.out _ _ _ _ _ rfl rfl (fun _ _ => trivial) (by omega) ?_))
  have hclr := run_clear9 w b i (c - i) 0 (by rw [e0]; rfl) f0
  rw [hclr]
  clear hclr
  go_wp2
  go_ret
  have hz : (xs.take i).length = i := by rw [List.length_take]; omega
  exact ⟨_, rfl, by rw [hz]; exact own_past9 (own_prefix9 HH.out.own (Nat.le_of_lt HH.out.lt)) (Nat.le_refl _) _, ⟨rfl, rfl, rfl, by simp [World.setCell], fun k _ hk => Below.heap_setCell _ _ _ _ (fun e => hk (by rw [e]))⟩, .inl rfl⟩

theorem Repl9.row {w : World} {B b n c i m : Nat} {A : Option Addr} {vc : Nat} {xs ys : List Value} (h : Repl9 w B b n c i m A vc xs ys) : ∃ cur, Row w b 56 cur ∧ n ≤ c ∧ c ≤ maxLen ∧ cur.size = c ∧ cur.toList.take n = xs := by
  rcases h.own.2 with ⟨h0, _⟩ | ⟨g, cap, cur, hv, hg, hh, h1, h2, h3, h4⟩
  · cases h0
  · injection hv with hv1 hv2 hv3
    injection hv1 with hv1
    injection hv1 with hv1
    subst hv1 hv3
    exact ⟨cur, hh, h1, h2, by omega, by rw [← h4, Nat.mul_one]⟩
theorem splice9_take {α : Type} (L : List α) (off : Nat) (cs : List α) (h : off ≤ L.length) : (splice L off cs).take (off + cs.length) = L.take off ++ cs := by
  unfold splice
  rw [← List.append_assoc, List.take_append_of_le_length (by simp; omega)]
  exact List.take_of_length_le (by simp; omega)
theorem splice9_two {α : Type} (L Y Z : List α) (i : Nat) (h : i + Y.length + Z.length ≤ L.length) : (splice (splice L i Y) (i + Y.length) Z).take (i + Y.length + Z.length) = L.take i ++ Y ++ Z := by
  rw [splice9_take _ _ _ (by rw [length_splice _ _ _ (by omega)]; omega), splice9_take _ _ _ (by omega)]
theorem splice9_back {α : Type} (L Y Z : List α) (i : Nat) (h : i + Y.length + Z.length ≤ L.length) : (splice (splice L (i + Y.length) Z) i Y).take (i + Y.length + Z.length) = L.take i ++ Y ++ Z := by
  have h1 : (splice L (i + Y.length) Z).take i = L.take i := by
    unfold splice
    rw [List.take_append_of_le_length (by simp; omega), List.take_take]
    congr 1
    omega
  have h2 : (splice L (i + Y.length) Z).drop (i + Y.length) = Z ++ L.drop (i + Y.length + Z.length) := by
    unfold splice
    rw [List.drop_append_of_le_length (by simp; omega), List.drop_of_length_le (by simp; omega), List.nil_append]
  have h3 : splice (splice L (i + Y.length) Z) i Y = (L.take i ++ Y ++ Z) ++ L.drop (i + Y.length + Z.length) := by
    show (splice L (i + Y.length) Z).take i ++ (Y ++ (splice L (i + Y.length) Z).drop (i + Y.length)) = _
    rw [h1, h2]
    simp
  rw [h3, List.take_append_of_le_length (by simp; omega)]
  exact List.take_of_length_le (by simp; omega)

set_option maxRecDepth 100000 in
set_option maxHeartbeats 2000000 in
theorem replace9_last_some (B b n c i m : Nat) (A : Option Addr) (vc : Nat) (xs ys : List Value) (w : World) (h : Repl9 w B b n c i m A vc xs ys) (hin : i + 1 = n) (hm0 : 0 < m) :
    Calls Try.prog 94 #[.slice (some ⟨b, 0, none⟩) n c, .int .i64 i, .int .i64 ((i : Int) + 1), .slice A m vc] w (ReplPost9 w B b (xs.take i ++ ys)) := by
  have HH := Lib.hid h
  have hn := h.few
  have hm := h.few'
  have hvc := h.le
  have hvc' := h.le'
  have hxl : xs.length = n := by have := h.own.1; omega
  obtain ⟨cur, hrow, hnc, hcm, hcz, hct⟩ := h.row
  obtain ⟨vb, rfl, hvb, hnew, -⟩ := h.from' hm0
  have HNEW := Lib.hid hnew
  have HLEN := Lib.hid h.len
  have HB := h.base
  have HOWN := Lib.hid (own_prefix9 h.own (Nat.le_of_lt h.lt))
  clear h hrow hct hcz hnew
  subst hin
  unfold maxLen at hcm
  have hci : ¬ (c = i) := by omega
  have hi0 : (0 : Int) ≤ (i : Int) := Int.natCast_nonneg _
  have hi1 : (i : Int) ≤ (i : Int) + 1 := by omega
  have hi2 : (i : Int) + 1 ≤ (c : Int) := by omega
  have hi3 : (i : Int) ≤ (c : Int) := by omega
  have he : ((i : Int) == (i : Int) + 1) = false := by rw [beq_eq_false_iff_ne]; omega
  have hl : ((i : Int) + 1 == ((i + 1 : Nat) : Int)) = true := by rw [beq_iff_eq]; omega
  obtain ⟨i0, hz, hz0, hz1, hz2⟩ := info_parts info_ptr
  have I0 := Lib.hid hz
  have Z0 := Lib.hid hz0
  have Z1 := Lib.hid hz1
  have Z2 := Lib.hid hz2
  have hlt : ¬ ((i : Int) + (m : Int) < (i : Int) + 1) := by omega
  have hlt2 : decide ((i : Int) + (m : Int) < (i : Int) + 1) = false := decide_eq_false hlt
  clear hz hz0 hz1 hz2
  go_enter Try.func94, Try.ntmps94
  go_wp2_with (at_builtin; go_loud (refine wpList_append_own_at _ rfl (.tmp 32) (.tmp 33) 54 rfl B 56 i0 (.pointer none) 1 8 Try.underlying54 I0.out Z0.out Z1.out Z2.out rfl (by decide) (.slice (some ⟨b, 0, none⟩) i c) i (xs.take i) rfl HOWN.out ⟨vb, 0, none⟩ m vc ys rfl (by rw [HLEN.out, Nat.mul_one]) HNEW.out HH.out.one (by unfold maxLen; omega) (by omega) HB ?_); intro v' w1 hown hgrow _ hat; obtain ⟨g1, cap1, rfl⟩ := own_form hown (by omega); have HO := Lib.hid hown; have HG := Lib.hid hgrow; have HAT := Lib.hid hat; clear hown hgrow hat)
  go_wp2
  go_ret
  have hz : (xs.take i ++ ys).length = i + m := by rw [List.length_append, List.length_take, HLEN.out]; omega
  refine ⟨_, rfl, by rw [hz]; exact HO.out, only_grown9 HG.out, ?_⟩
  rcases HAT.out with h1 | h1
  · exact .inl h1
  · exact .inr ⟨_, h1, Nat.le_refl _⟩

end Go.Proofs.Ytadichddgpojpaa
