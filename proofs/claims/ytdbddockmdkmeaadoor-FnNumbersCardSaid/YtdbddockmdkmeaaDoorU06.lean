/- Joined: Mq Hr Hu Hv Hw. -/
import Derived.Test.YtdbddockmdkmeaaDoorU05
import Derived.Test.YtdbddockmdkmeaaDoorU04
import Derived.Test.YtdbddockmdkmeaaDoorU01
import Derived.Maps.AppendAt
import Derived.OwnWalkIn
/- The reference reads numbers. -/
namespace Go.Proofs.YtdbddockmdkmeaaDoor
open Go.RowKit

set_option maxRecDepth 100000 in
/-- Numbers put behind numbers, and what else stands. -/
theorem wp_appJ12 {ops : Array Oper} {rest : List Oper} {o : Oper} {a : Act} {Q : Exit → Act → World → Prop} (hgd : o.guard = none) (S X : Operand)
    (ho : o.op = Op.call { callee := Callee.builtin Builtin.append, args := #[S, X], argTypes := #[38, 38] })
    (B : Nat) (v : Value) (ts : List Int) (W : World) (hs : a.eval S = v) (hown : Si.OwnInts W B v ts) (htl : ts.length ≤ 100000000) (hB : B ≤ W.heap.size)
    (g : Nat) (u : Int) (hx : a.eval X = .slice (some ⟨g, 0, none⟩) 1 1) (hnew : W.cell? ⟨g, 0, none⟩ = some (.int .i64 u))
    (h : ∀ v' w', Si.OwnInts w' B v' (ts ++ [u]) → Below B W w' → (∀ k, k < W.heap.size → v.ownBlock ≠ some k → w'.heap[k]? = W.heap[k]?) → (∀ k, k < W.heap.size → v.ownBlock ≠ some k → v'.ownBlock ≠ some k) → wpList Tryd.prog ops Q rest (a.put o.dst v') w') :
    wpList Tryd.prog ops Q (o :: rest) a W := by
  obtain ⟨i0, hi, hz0, hz1, hz2⟩ := info_parts info_int
  refine wpList_append_own_at W hgd S X 38 ho B 3 i0 (.int .i64 0) 1 8 Tryd.underlying38 hi hz0 hz1 hz2 rfl (by decide) v ts.length (ts.map (Value.int .i64)) hs hown ⟨g, 0, none⟩ 1 1 [.int .i64 u] hx rfl ?_ ?_ (by unfold maxLen; omega) (by omega) hB ?_
  · intro j x hj
    have hj0 : j = 0 := by have := (List.getElem?_eq_some_iff.1 hj).1; simp at this; omega
    subst hj0
    simp at hj
    subst hj
    exact hnew
  · intro x hx'
    rw [List.mem_singleton.1 hx']
    rfl
  · intro v' w' h1 h2 h3 h4
    refine h v' w' ?_ ?_ ?_ ?_
    · show w'.ownsRow B _ 1 v' (ts ++ [u]).length ((ts ++ [u]).map (Value.int .i64))
      rw [List.length_append, List.map_append]
      exact h1
    · exact (Below.refl B W).grown h2 hB (fun k e => (World.ownsRow.lt hown k e).1)
    · exact fun k hk hne => h2.block k hk (fun e => hne e.symm)
    · intro k hk hne e
      rcases h4 with h4 | h4
      · rw [h4] at e; exact hne e
      · rw [h4] at e; injection e with e; omega
theorem own_keep12 {w w' : World} {B : Nat} {e : TypeId} {size : Nat} {v : Value} {n : Nat} {xs : List Value} (h : w.ownsRow B e size v n xs) (hk : ∀ k, v.ownBlock = some k → w'.heap[k]? = w.heap[k]?) : w'.ownsRow B e size v n xs := by
  refine ⟨h.1, ?_⟩
  rcases h.2 with h0 | ⟨g, cap, cur, rfl, h1, h2, h3⟩
  · exact .inl h0
  · exact .inr ⟨g, cap, cur, rfl, h1, (hk g rfl).trans h2, h3⟩
theorem own_lt12 {w : World} {B : Nat} {e : TypeId} {size : Nat} {v : Value} {n : Nat} {xs : List Value} (h : w.ownsRow B e size v n xs) {k : Nat} (hk : v.ownBlock = some k) : B ≤ k ∧ k < w.heap.size := by
  have := World.ownsRow.lt h k hk
  omega


def vals12 (ps : List ByteArray) : List Int := ps.map fun p => (val12 p.data.toList : Int)
def allOk12 (ps : List ByteArray) : Bool := ps.all fun p => ok12 p.data.toList
/-- What ParseNumbers answers. -/
def numsRes12 (t : ByteArray) : List Int := if t = ⟨#[45]⟩ then [] else if allOk12 (cutRes t 32) = true then vals12 (cutRes t 32) else []
def numsOk12 (t : ByteArray) : Bool := if t = ⟨#[45]⟩ then true else allOk12 (cutRes t 32)
def NumsPost12 (w : World) (t : ByteArray) (e : Ending) (w' : World) : Prop :=
  ∃ v, e = .returned (.tuple #[v, .bool (numsOk12 t)]) ∧ Si.OwnInts w' w.heap.size v (numsRes12 t) ∧ Below w.heap.size w w'
theorem allOk_take {ps : List ByteArray} {k : Nat} (hk : k < ps.length) : allOk12 (ps.take (k + 1)) = (allOk12 (ps.take k) && ok12 ps[k].data.toList) := by
  unfold allOk12
  rw [List.take_succ_eq_append_getElem hk, List.all_append]
  simp
theorem allOk_false {ps : List ByteArray} {k : Nat} (h : allOk12 (ps.take k) = false) : allOk12 ps = false := by
  unfold allOk12 at h ⊢
  rw [← Bool.not_eq_true, List.all_eq_true] at h ⊢
  exact fun hm => h fun p hp => hm p (List.mem_of_mem_take hp)
theorem vals_take {ps : List ByteArray} {k : Nat} (hk : k < ps.length) : vals12 (ps.take (k + 1)) = vals12 (ps.take k) ++ [(val12 ps[k].data.toList : Int)] := by
  unfold vals12
  rw [List.take_succ_eq_append_getElem hk, List.map_append]; rfl

set_option maxRecDepth 100000 in
set_option maxHeartbeats 2000000 in
theorem specParseNumbers_any (t : ByteArray) (w : World) (ht : t.size ≤ 1048576) :
    Calls Tryd.prog 37 #[.string t] w (NumsPost12 w t) := by
  have HB1 : Hid (Below w.heap.size w (w.alloc (.cells #[] 3))) := (Below.refl _ w).alloc (Nat.le_refl _) _
  have HO1 : Hid (Si.OwnInts (w.alloc (.cells #[] 3)) w.heap.size (.slice (some ⟨w.heap.size, 0, none⟩) 0 0) []) :=
    ⟨rfl, .inr ⟨w.heap.size, 0, #[], rfl, Nat.le_refl _, heap_alloc_new _ _, Nat.le_refl _, by unfold maxLen; omega, rfl, rfl⟩⟩
  unfold NumsPost12
  by_cases h45 : t = ⟨#[45]⟩
  · have hE : Hid (numsRes12 t = [] ∧ numsOk12 t = true) := ⟨if_pos h45, if_pos h45⟩
    rw [hE.out.1, hE.out.2]
    clear hE
    subst h45
    go_enter Tryd.func37, Tryd.ntmps37
    go_wp2
    go_ret2
    exact ⟨_, rfl, HO1.out, HB1.out⟩
  · have hsb : sameB t ⟨#[45]⟩ = false := by
      rw [← Bool.not_eq_true]
      exact fun e => h45 (sameB_iff.1 e)
    have e45 : (⟨#[45]⟩ : ByteArray).toList = [45] := by
      rw [ByteArray.toList_eq]
    have hbe : (t.toList == [45]) = false := by
      have h := hsb
      unfold sameB at h
      rw [e45] at h
      exact h
    clear e45 hsb
    have HRS : Hid (numsRes12 t = if allOk12 (cutRes t 32) = true then vals12 (cutRes t 32) else []) := if_neg h45
    have HOK : Hid (numsOk12 t = allOk12 (cutRes t 32)) := if_neg h45
    have HQ := Lib.hid (fun w => l13Cut_any t 32 w ht)
    have hpl : (cutRes t 32).length ≤ t.size + 1 := (cutSt_le t 32 (t.size + 1)).2
    generalize numsRes12 t = R0 at *
    generalize numsOk12 t = K0 at *
    generalize cutRes t 32 = ps at *
    clear h45
    go_enter Tryd.func37, Tryd.ntmps37
    go_wp2_with fail
    refine Calls.mono (HQ.out _) ?_
    rintro e w2 ⟨⟨v, rfl, ho⟩, hb⟩
    rw [World.size_alloc] at ho hb
    obtain ⟨A3, cap3, rfl, -⟩ := St.textsForm ho
    have HT2 : Hid (OwnTexts w2 w.heap.size (.slice A3 ps.length cap3) ps) := (by
      refine ⟨ho.1, ?_⟩
      rcases ho.2 with h0 | ⟨g, cap, cur, h1, h2, h3⟩
      · exact .inl h0
      · exact .inr ⟨g, cap, cur, h1, by omega, h3⟩)
    have HB2 : Hid (Below w.heap.size w w2) := HB1.out.trans (hb.mono (by omega))
    have HO2 : Hid (Si.OwnInts w2 w.heap.size (.slice (some ⟨w.heap.size, 0, none⟩) 0 0) (vals12 (ps.take 0))) := own_keep12 HO1.out fun k hk => by
      injection hk with hk
      exact hb.block _ (by have : w.heap.size = k := hk; omega)
    have HD2 : Hid (∀ k, (Value.slice (some ⟨w.heap.size, 0, none⟩) 0 0).ownBlock = some k → (Value.slice A3 ps.length cap3).ownBlock ≠ some k) := fun k h1 h2 => by
      have := (own_lt12 ho h2).1
      injection h1 with h1
      have : w.heap.size = k := h1
      omega
    have HN := Lib.hid (fun s w => l13Num_any s w)
    clear ho hb HQ HO1 HB1
    go_wp2
    go_loopw [4, 16] (fun o i wr => ∃ (k : Nat), k ≤ ps.length ∧ i = .int .i64 k ∧ Hid (allOk12 (ps.take k) = true) ∧ Hid (Si.OwnInts wr w.heap.size o (vals12 (ps.take k))) ∧ Hid (OwnTexts wr w.heap.size (.slice A3 ps.length cap3) ps) ∧ Hid (∀ b, o.ownBlock = some b → (Value.slice A3 ps.length cap3).ownBlock ≠ some b) ∧ Hid (Below w.heap.size w wr))
      (fun _ i _ => ps.length - (intOf i).toNat)
    case atStart => exact ⟨0, Nat.zero_le _, rfl, Lib.hid rfl, HO2, HT2, HD2, HB2⟩
    case round =>
      obtain ⟨k, hk, rfl, HA, HO, HT, HD, HB⟩ := hrel
      clear HO2 HT2 HD2 HB2
      obtain ⟨A5, cap5, rfl, -⟩ := Si.intsForm HO.out
      by_cases hlt : k < ps.length
      · obtain ⟨A6, cap6, h6, HSS⟩ := St.textsForm HT.out
        injection h6 with h61 _ h63
        subst h61 h63
        obtain ⟨b2, o2, rfl, hB2, hcs2⟩ := HSS (by omega)
        have e1 := hcs2 k ps[k] (List.getElem?_eq_getElem hlt)
        have HAT := Lib.hid (allOk_take hlt)
        have HVT := Lib.hid (vals_take hlt)
        have hk' : (k : Int) < (ps.length : Int) := by omega
        clear hcs2 HSS
        generalize ps[k] = pc at *
        go_wp2_with fail
        refine Calls.mono (HN.out pc wr) ?_
        rintro e w3 ⟨⟨n, ok, rfl, h1, h2⟩, rfl⟩
        cases hok : ok12 pc.data.toList with
        | false =>
          rw [hok] at h1
          have HE : Hid (K0 = false ∧ R0 = []) := by
            have h := HAT.out
            rw [hok, Bool.and_false] at h
            have h3 := allOk_false h
            exact ⟨by rw [HOK.out, h3], by rw [HRS.out, if_neg (by rw [h3]; decide)]⟩
          have HO9 : Hid (Si.OwnInts (wr.alloc (.cells #[] 3)) w.heap.size (.slice (some ⟨wr.heap.size, 0, none⟩) 0 0) []) :=
            ⟨rfl, .inr ⟨wr.heap.size, 0, #[], rfl, HB.out.size, heap_alloc_new _ _, Nat.le_refl _, by unfold maxLen; omega, rfl, rfl⟩⟩
          have HB9 : Hid (Below w.heap.size w (wr.alloc (.cells #[] 3))) := HB.out.alloc HB.out.size _
          clear h2 HAT HVT hok HA HO HT HD HN
          cases ok with
          | false =>
            go_wp2
            go_ret2
            exact ⟨_, by rw [HE.out.1]; rfl, by rw [HE.out.2]; exact HO9.out, HB9.out⟩
          | true =>
            have hn0 : n < 0 := by
              rw [Bool.true_and] at h1
              have := of_decide_eq_false h1
              omega
            clear h1
            go_wp2
            go_ret2
            exact ⟨_, by rw [HE.out.1]; rfl, by rw [HE.out.2]; exact HO9.out, HB9.out⟩
        | true =>
          rw [hok] at h1
          have hn := h2 hok
          obtain ⟨rfl, hd0⟩ : ok = true ∧ decide (0 ≤ n) = true := by simpa using h1
          have hn0 : ¬ n < 0 := by have := of_decide_eq_true hd0; omega
          have HA2 : Hid (allOk12 (ps.take (k + 1)) = true) := by show _ = _; rw [HAT.out, HA.out, hok]; rfl
          have HV2 : Hid (vals12 (ps.take (k + 1)) = vals12 (ps.take k) ++ [n]) := by show _ = _; rw [HVT.out, hn]
          have htl : (vals12 (ps.take k)).length ≤ 100000000 := by
            unfold vals12
            rw [List.length_map, List.length_take]; omega
          have HT6 : Hid (Si.OwnInts (wr.alloc (.cells #[.int .i64 n] 3)) w.heap.size (.slice A5 (vals12 (ps.take k)).length cap5) (vals12 (ps.take k))) := HO.out.below ((Below.refl _ wr).alloc (Nat.le_refl _) _)
          have HN6 : Hid ((wr.alloc (.cells #[.int .i64 n] 3)).cell? ⟨wr.heap.size, 0, none⟩ = some (.int .i64 n)) := Row.cell (Row.new wr 3 #[.int .i64 n]) 0
          have HT10 : Hid (OwnTexts (wr.alloc (.cells #[.int .i64 n] 3)) w.heap.size (.slice (some ⟨b2, o2, none⟩) ps.length cap3) ps) := HT.out.below ((Below.refl _ wr).alloc (Nat.le_refl _) _)
          have HB10 : Hid (Below w.heap.size w (wr.alloc (.cells #[.int .i64 n] 3))) := HB.out.alloc HB.out.size _
          have hz := HB.out.size
          clear h1 h2 hn hd0 hok HAT HVT HA HO HT HB e1
          go_wp2_with (at_builtin; go_loud (refine wp_appJ12 rfl (.tmp 32) (.tmp 34) rfl w.heap.size _ (vals12 (ps.take k)) _ rfl HT6.out htl (by simp; omega) wr.heap.size n rfl HN6.out ?_); intro v7 w7 ho7 hb7 hk7 ha7; have HO7 := Lib.hid ho7; have HB7 := Lib.hid (HB10.out.trans hb7); have HT7 := Lib.hid (own_keep12 HT10.out fun b hb => hk7 b (own_lt12 HT10.out hb).2 fun h => HD.out b h hb); have HD7 := Lib.hid (fun b (h : v7.ownBlock = some b) (hb : (Value.slice (some ⟨b2, o2, none⟩) ps.length cap3).ownBlock = some b) => ha7 b (own_lt12 HT10.out hb).2 (fun h2 => HD.out b h2 hb) h); clear ho7 hb7 hk7 ha7 HN6 HT6 HT10 HB10)
          rw [← HV2.out] at HO7
          go_roundw
          case rel => exact ⟨k + 1, by omega, by go_num, HA2, HO7, HT7, HD7, HB7⟩
          case measure => simp [intOf]; omega
      · have hke : k = ps.length := by omega
        subst hke
        have HE : Hid (K0 = true ∧ R0 = vals12 ps) := by
          have h := HA.out
          rw [List.take_length] at h
          exact ⟨by rw [HOK.out, h], by rw [HRS.out, if_pos h]⟩
        go_wp2
        go_ret2
        exact ⟨_, by rw [HE.out.1]; rfl, by rw [HE.out.2]; have h := HO.out; rw [List.take_length] at h ⊢; exact h, HB.out⟩

end Go.Proofs.YtdbddockmdkmeaaDoor
/- The program's ParseNumbers. -/
namespace Go.Proofs.YtdbddockmdkmeaaDoor
open Go.RowKit Go.Shelf

set_option maxRecDepth 100000 in
theorem splitSeq_any (t : ByteArray) (w : World) :
    Calls Tryd.prog 90 #[.string t, .string ⟨#[32]⟩] w fun e w' => e = .returned (.func (.func 114) #[] #[.pointer (some ⟨w.heap.size + 1, 0, none⟩), .pointer (some ⟨w.heap.size, 0, none⟩), .pointer (some ⟨w.heap.size + 2, 0, none⟩)]) ∧ w' = ((w.alloc (.cells #[.string t] 9)).alloc (.cells #[.string ⟨#[32]⟩] 9)).alloc (.cells #[.int .i64 0] 3) := by
  have HQ : Hid (Calls Tryd.prog 110 #[.string t, .string ⟨#[32]⟩, .int .i64 0] w fun e w' => e = .returned (.func (.func 114) #[] #[.pointer (some ⟨w.heap.size + 1, 0, none⟩), .pointer (some ⟨w.heap.size, 0, none⟩), .pointer (some ⟨w.heap.size + 2, 0, none⟩)]) ∧ w' = ((w.alloc (.cells #[.string t] 9)).alloc (.cells #[.string ⟨#[32]⟩] 9)).alloc (.cells #[.int .i64 0] 3)) := by
    show Calls _ _ _ _ _
    go_enter Tryd.func110, Tryd.ntmps110
    go_wp2
    go_ret
    exact ⟨by simp, rfl⟩
  go_enter Tryd.func90, Tryd.ntmps90
  go_wp2_with fail
  refine HQ.out.mono ?_
  rintro e w1 ⟨rfl, rfl⟩
  clear HQ
  go_wp2
  go_ret
  exact ⟨rfl, rfl⟩
theorem boxes_new12 (t : ByteArray) (w : World) : Boxes12 (((w.alloc (.cells #[.string t] 9)).alloc (.cells #[.string ⟨#[32]⟩] 9)).alloc (.cells #[.int .i64 0] 3)) w.heap.size t := by
  refine ⟨((Row.new w _ _).alloc _).alloc _, ?_, ?_⟩
  · have h := (Row.new (w.alloc (.cells #[.string t] 9)) 9 #[.string ⟨#[32]⟩]).alloc (.cells #[.int .i64 0] 3)
    simpa using h
  · have h := Row.new ((w.alloc (.cells #[.string t] 9)).alloc (.cells #[.string ⟨#[32]⟩] 9)) 3 #[.int .i64 0]
    simpa using h

end Go.Proofs.YtdbddockmdkmeaaDoor
/- The program's ParseNumbers, whole. -/
namespace Go.Proofs.YtdbddockmdkmeaaDoor
open Go.RowKit Go.Shelf
attribute [local go_sem] Oper.semAt_some

theorem results_two12 {fn : Func} {p q : Tmp} {ty tb : TypeId} (h : fn.results = #[.cell p ty, .cell q tb]) (tmps : Array Value) (w : World) (a b : Addr) (u v : Value)
    (hp : tmps.getD p undef = .pointer (some a)) (hu : (loadVar ty a).run Tryd.prog w = .ok u w) (hq : tmps.getD q undef = .pointer (some b)) (hv : (loadVar tb b).run Tryd.prog w = .ok v w) :
    (results fn tmps).run Tryd.prog w = .ok (.tuple #[u, v]) w := by
  have hp' : tmps[p]?.getD undef = .pointer (some a) := by simpa using hp
  have hq' : tmps[q]?.getD undef = .pointer (some b) := by simpa using hq
  simp [results, h, hp', hq', asAddr, hu, hv]
theorem run_loadBool12 {w : World} {b : Addr} {x : Bool} (h : w.cell? b = some (.bool x)) : (loadVar 4 b).run Tryd.prog w = .ok (.bool x) w := by
  simp [loadVar, isAgg, go_sem, h]
theorem run_loadRow12 {w : World} {b : Addr} {v : Value} (h : w.cell? b = some v) : (loadVar 38 b).run Tryd.prog w = .ok v w := by
  simp [go_sem, h]
theorem wpListIn_appI12 {F : Fence} {nF : Nat} {w : World} {ops : Array Oper} {rest : List Oper} {o : Oper} {a : Act} {Q : Exit → Act → World → Prop} (hgd : o.guard = none) (s x : Operand)
    (ho : o.op = .call { callee := .builtin .append, args := #[s, x], argTypes := #[38, 38] })
    (base : Nat) (v : Value) (ts : List Int) (hs : a.eval s = v) (hown : Si.OwnInts w base v ts) (htl : ts.length ≤ 100000000) (hbase : base ≤ w.heap.size) (g : Nat) (u : Int) (hx : a.eval x = .slice (some ⟨g, 0, none⟩) 1 1)
    (hnew : w.cell? ⟨g, 0, none⟩ = some (.int .i64 u))
    (h : ∀ v' w', Si.OwnInts w' base v' (ts ++ [u]) → w.grownBy w' v.ownBlock → wpListIn F nF Tryd.prog ops Q rest (a.put o.dst v') w') :
    wpListIn F nF Tryd.prog ops Q (o :: rest) a w := by
  refine wpListIn_plain hgd fun K hK => ?_
  obtain ⟨i0, hi, hz0, hz1, hz2⟩ := info_parts info_int
  obtain ⟨v', w', hr, h2, h3, -, -⟩ := run_append_own_at (P := Tryd.prog) w base 38 o.type 3 i0 (.int .i64 0) 1 8 Tryd.underlying38 hi hz0 hz1 hz2 rfl (by decide) v ts.length (ts.map (Value.int .i64)) hown ⟨g, 0, none⟩ 1 1 [.int .i64 u] rfl (by
    intro j y hj
    have hj0 : j = 0 := by have := (List.getElem?_eq_some_iff.1 hj).1; simp at this; omega
    subst hj0
    simp at hj
    subst hj
    exact hnew) (by
    intro y hy
    rw [List.mem_singleton.1 hy]
    rfl) (by unfold maxLen; omega) (by omega) hbase
  have h4 : Si.OwnInts w' base v' (ts ++ [u]) := by
    show w'.ownsRow base _ 1 v' (ts ++ [u]).length ((ts ++ [u]).map (Value.int .i64))
    rw [List.length_append, List.map_append]
    exact h2
  unfold Oper.wpIn
  refine ⟨by simp [Oper.about, ho, resolve, Target.leads, Sem.run_pure], ?_⟩
  rw [Oper.semAt_plain F _ _ (by rw [ho]; intro c hc'; cases hc')]
  simp [execOp, ho, resolve, invoke, builtin, hs, hx, hr, Result.andThen]
  exact hK _ _ (h v' w' h4 h3)

theorem cutSt_size (s : ByteArray) (c : UInt8) : ∀ i, ∀ x ∈ (cutSt s c i).1, x.size ≤ s.size
  | 0, x, hx => by simp [cutSt] at hx
  | i + 1, x, hx => by
    have h : x ∈ (if (i == s.size || s.data.toList.getD i 0 == c) = true then ((cutSt s c i).1 ++ [s.extract (cutSt s c i).2 i], i + 1) else cutSt s c i).1 := hx
    split at h
    · rcases List.mem_append.1 h with h | h
      · exact cutSt_size s c i x h
      · rw [List.mem_singleton.1 h, ByteArray.size_extract]
        omega
    · exact cutSt_size s c i x h
theorem cutRes_size {s : ByteArray} {c : UInt8} {x : ByteArray} (hx : x ∈ cutRes s c) : x.size ≤ s.size := cutSt_size s c _ x hx
theorem cutRes_len (s : ByteArray) (c : UInt8) : (cutRes s c).length ≤ s.size + 1 := (cutSt_le s c (s.size + 1)).2

/-- What the loop has read: all are numbers, and lie in a row of the call's own. -/
structure Read12 (w : World) (pre : List ByteArray) (W : World) : Prop where
  row : ∃ v, Row W (w.heap.size + 2) 38 #[v] ∧ Si.OwnInts W (w.heap.size + 6) v (vals12 pre)
  all : allOk12 pre = true
  list : Row W w.heap.size 38 #[.slice none 0 0]
  ok : Row W (w.heap.size + 1) 4 #[.bool false]
  below : Below w.heap.size w W
/-- What stands where one is none. -/
structure Odd12 (w : World) (pre : List ByteArray) (W : World) : Prop where
  all : allOk12 pre = false
  list : Row W w.heap.size 38 #[.slice none 0 0]
  ok : Row W (w.heap.size + 1) 4 #[.bool false]
  below : Below w.heap.size w W
theorem row_beside12 {W W' : World} {b n0 n1 B : Nat} {t : TypeId} {cs : Array Value} {row : Option Nat} (h : Row W b t cs) (hg : W.grownBy W' row) (hb : b < n0 ∨ n1 ≤ b)
    (hr : ∀ r, row = some r → (n0 ≤ r ∧ r < n1) ∨ (B ≤ r ∧ ∃ o : Obj, W.heap[r]? = some o ∧ o.isCells = false)) : Row W' b t cs :=
  (hg.block b h.lt (fun he => by
    rcases hr b he.symm with h2 | ⟨_, o, ho, hc⟩
    · omega
    · rw [show W.heap[b]? = some (.cells cs t (0, 0)) from h] at ho
      injection ho with ho
      subst ho
      cases hc)).trans h
theorem own_beside12 {W W' : World} {n0 n1 B B0 : Nat} {v : Value} {ts : List Int} {row : Option Nat} (h : Si.OwnInts W B0 v ts) (hg : W.grownBy W' row) (hb : n1 ≤ B0)
    (hr : ∀ r, row = some r → (n0 ≤ r ∧ r < n1) ∨ (B ≤ r ∧ ∃ o : Obj, W.heap[r]? = some o ∧ o.isCells = false)) : Si.OwnInts W' B0 v ts := by
  refine own_keep12 h fun k hk => ?_
  have h1 := own_lt12 h hk
  refine hg.block k h1.2 fun he => ?_
  rcases hr k he.symm with h2 | ⟨_, o, ho, hc⟩
  · omega
  · rcases h.2 with ⟨e, _⟩ | ⟨g', cap, cur, e, _, hh, _⟩
    · rw [e] at hk; cases hk
    · rw [e] at hk
      injection hk with hk
      subst hk
      rw [hh] at ho
      injection ho with ho
      subst ho
      cases hc
theorem Read12.beside {w W W' : World} {pre : List ByteArray} {B : Nat} {row : Option Nat} (h : Read12 w pre W) (hg : W.grownBy W' row) (hB : w.heap.size ≤ B)
    (hr : ∀ r, row = some r → (w.heap.size + 3 ≤ r ∧ r < w.heap.size + 6) ∨ (B ≤ r ∧ ∃ o : Obj, W.heap[r]? = some o ∧ o.isCells = false)) : Read12 w pre W' := by
  obtain ⟨v, h1, h2⟩ := h.row
  exact ⟨⟨v, row_beside12 h1 hg (.inl (by omega)) hr, own_beside12 h2 hg (Nat.le_refl _) hr⟩, h.all, row_beside12 h.list hg (.inl (by omega)) hr, row_beside12 h.ok hg (.inl (by omega)) hr,
    h.below.grown hg h.below.size (fun k e => by rcases hr k e with h2 | h2 <;> omega)⟩
theorem Odd12.beside {w W W' : World} {pre : List ByteArray} {B : Nat} {row : Option Nat} (h : Odd12 w pre W) (hg : W.grownBy W' row) (hB : w.heap.size ≤ B)
    (hr : ∀ r, row = some r → (w.heap.size + 3 ≤ r ∧ r < w.heap.size + 6) ∨ (B ≤ r ∧ ∃ o : Obj, W.heap[r]? = some o ∧ o.isCells = false)) : Odd12 w pre W' :=
  ⟨h.all, row_beside12 h.list hg (.inl (by omega)) hr, row_beside12 h.ok hg (.inl (by omega)) hr, h.below.grown hg h.below.size (fun k e => by rcases hr k e with h2 | h2 <;> omega)⟩

end Go.Proofs.YtdbddockmdkmeaaDoor
/- The walk of the program's ParseNumbers. -/
namespace Go.Proofs.YtdbddockmdkmeaaDoor
open Go.RowKit Go.Shelf
attribute [local go_sem] Oper.semAt_some

theorem allOk_snoc12 (pre : List ByteArray) (x : ByteArray) : allOk12 (pre ++ [x]) = (allOk12 pre && ok12 x.data.toList) := by
  unfold allOk12
  rw [List.all_append]
  simp
theorem vals_snoc12 (pre : List ByteArray) (x : ByteArray) : vals12 (pre ++ [x]) = vals12 pre ++ [(val12 x.data.toList : Int)] := by
  unfold vals12
  rw [List.map_append]
  rfl
theorem allOk_cut12 {ps : List ByteArray} {k : Nat} (h : allOk12 (ps.take k) = false) : allOk12 ps = false := by
  rw [← List.take_append_drop k ps]
  unfold allOk12 at h ⊢
  rw [List.all_append, h]
  rfl

theorem own_cells12 {W : World} {B : Nat} {v : Value} {ts : List Int} (h : Si.OwnInts W B v ts) {k : Nat} (hk : v.ownBlock = some k) : ∃ c t fz, W.heap[k]? = some (.cells c t fz) := by
  rcases h.2 with ⟨e, _⟩ | ⟨g', cap, cur, e, _, hh, _⟩
  · rw [e] at hk; cases hk
  · rw [e] at hk
    injection hk with hk
    subst hk
    exact ⟨_, _, _, hh⟩
theorem own_low12 {W : World} {B B' : Nat} {v : Value} {ts : List Int} (h : Si.OwnInts W B v ts) (hB : B' ≤ B) : Si.OwnInts W B' v ts := by
  refine ⟨h.1, ?_⟩
  rcases h.2 with h0 | ⟨g', cap, cur, e, hg, r⟩
  · exact .inl h0
  · exact .inr ⟨g', cap, cur, e, by omega, r⟩
theorem step12 {w W W3 W5 : World} {pre : List ByteArray} {x : ByteArray} {v v' : Value} {o0 : Obj} (hb3 : Below W.heap.size W W3) (hz : w.heap.size + 6 ≤ W.heap.size) (hrow : Row W3 (w.heap.size + 2) 38 #[v])
    (hown : Si.OwnInts W3 (w.heap.size + 6) v (vals12 pre)) (hall : allOk12 pre = true) (hok : ok12 x.data.toList = true) (hlist : Row W3 w.heap.size 38 #[.slice none 0 0]) (hokr : Row W3 (w.heap.size + 1) 4 #[.bool false])
    (hbel : Below w.heap.size w W3) (hown5 : Si.OwnInts W5 (w.heap.size + 6) v' (vals12 pre ++ [(val12 x.data.toList : Int)])) (hg : (W3.alloc o0).grownBy W5 v.ownBlock) (B : Nat) :
    KeepsO B W (W5.setCell ⟨w.heap.size + 2, 0, none⟩ v') ∧ KeptBox (w.heap.size + 3) (w.heap.size + 6) W (W5.setCell ⟨w.heap.size + 2, 0, none⟩ v') ∧ Read12 w (pre ++ [x]) (W5.setCell ⟨w.heap.size + 2, 0, none⟩ v') := by
  have hz3 := hb3.size
  have hne : ∀ k, v.ownBlock = some k → w.heap.size + 6 ≤ k := fun k hk => (own_lt12 hown hk).1
  have hst : ∀ k, k < W3.heap.size → v.ownBlock ≠ some k → W5.heap[k]? = W3.heap[k]? := fun k hk hn => by
    have h1 := hg.block k (by simp; omega) (fun e => hn e.symm)
    exact h1.trans (Below.heap_alloc W3 _ k hk)
  have hs5 : W3.heap.size + 1 ≤ W5.heap.size := by have := hg.size; simpa using this
  have hsz : (W5.setCell ⟨w.heap.size + 2, 0, none⟩ v').heap.size = W5.heap.size := by
    have h1 := ((Below.refl 0 W5).setCell (p := ⟨w.heap.size + 2, 0, none⟩) (Nat.zero_le _) v').size
    simp [World.setCell]
  have rk : ∀ {b : Nat} {t : TypeId} {cs : Array Value}, b < w.heap.size + 6 → Row W3 b t cs → Row W5 b t cs := fun hb h => (hst _ h.lt (fun e => by have := hne _ e; omega)).trans h
  refine ⟨fun k o _ ho hc => ?_, ⟨by rw [hsz]; omega, fun k h0 h1 => ?_⟩, ?_⟩
  · have hkW := (Array.getElem?_eq_some_iff.1 ho).1
    have h3 : W3.heap[k]? = some o := (hb3.block k hkW).trans ho
    have hk2 : k ≠ w.heap.size + 2 := fun e => by
      subst e
      rw [show W3.heap[w.heap.size + 2]? = some (.cells #[v] 38 (0, 0)) from hrow] at h3
      injection h3 with h3
      subst h3
      cases hc
    have hkv : v.ownBlock ≠ some k := fun e => by
      obtain ⟨c, t, fz, hh⟩ := own_cells12 hown e
      rw [hh] at h3
      injection h3 with h3
      subst h3
      cases hc
    exact (Below.heap_setCell W5 ⟨w.heap.size + 2, 0, none⟩ v' k hk2).trans ((hst k (by omega) hkv).trans h3)
  · exact (Below.heap_setCell W5 ⟨w.heap.size + 2, 0, none⟩ v' k (by show k ≠ w.heap.size + 2; omega)).trans ((hst k (by omega) (fun e => by have := hne k e; omega)).trans (hb3.block k (by omega)))
  · refine ⟨⟨v', (rk (by omega) hrow).put 0 v', ?_⟩, ?_, (rk (by omega) hlist).far (p := ⟨w.heap.size + 2, 0, none⟩) (by show w.heap.size ≠ w.heap.size + 2; omega) _, (rk (by omega) hokr).far (p := ⟨w.heap.size + 2, 0, none⟩) (by show w.heap.size + 1 ≠ w.heap.size + 2; omega) _, ?_⟩
    · rw [vals_snoc12]
      exact own_keep12 hown5 fun k hk => Below.heap_setCell W5 ⟨w.heap.size + 2, 0, none⟩ v' k (by have := (own_lt12 hown5 hk).1; show k ≠ w.heap.size + 2; omega)
    · rw [allOk_snoc12, hall, hok]; rfl
    · exact (((hbel.alloc hbel.size o0).grown hg (by have := hbel.size; simp; omega) (fun k e => by have := hne k e; omega)).setCell (p := ⟨w.heap.size + 2, 0, none⟩) (by show w.heap.size ≤ w.heap.size + 2; omega) v')

set_option maxRecDepth 100000 in
set_option maxHeartbeats 4000000 in
theorem parseNumbers_any (t : ByteArray) (w : World) (hp : Pow12 w) (he : Errs12 w) (ht : t.size ≤ 1048576) :
    Calls Tryd.prog 36 #[.string t] w (NumsPost12 w t) := by
  have HP := Lib.hid hp
  have HE := Lib.hid he
  clear hp he
  by_cases hd : t = ⟨#[45]⟩
  · have HR : Hid (numsRes12 t = [] ∧ numsOk12 t = true) := ⟨if_pos hd, if_pos hd⟩
    subst hd
    unfold NumsPost12
    go_enter Tryd.func36, Tryd.ntmps36
    go_wp2
    have r1 : Row ((w.alloc (.cells #[.slice none 0 0] 38)).alloc (.cells #[.bool true] 4)) w.heap.size 38 #[.slice none 0 0] := (Row.new w 38 #[.slice none 0 0]).alloc (.cells #[.bool true] 4)
    have r2 : Row ((w.alloc (.cells #[.slice none 0 0] 38)).alloc (.cells #[.bool true] 4)) (w.heap.size + 1) 4 #[.bool true] := by
      have h := Row.new (w.alloc (.cells #[.slice none 0 0] 38)) 4 #[.bool true]
      rw [World.size_alloc] at h
      exact h
    have hB : Below w.heap.size w ((w.alloc (.cells #[.slice none 0 0] 38)).alloc (.cells #[.bool true] 4)) := ((Below.refl _ w).alloc (Nat.le_refl _) _).alloc (by simp) _
    refine bodyPost_ret (v := .tuple #[.slice none 0 0, .bool true]) (results_two12 (p := 2) (q := 3) rfl _ _ ⟨w.heap.size, 0, none⟩ ⟨w.heap.size + 1, 0, none⟩ _ _ (by simp) (run_loadRow12 (r1.cell 0)) (by simp) (run_loadBool12 (r2.cell 0))) rfl ?_
    exact ⟨_, by rw [HR.out.2], by rw [HR.out.1]; exact World.ownsRow_nil _ _ _ _, hB⟩
  have e45 : (⟨#[45]⟩ : ByteArray).toList = [45] := by
    rw [ByteArray.toList_eq]
  have hdl : (t.toList == [45]) = false := by
    rw [← Bool.not_eq_true, ← e45]
    intro e
    exact hd (sameB_iff.1 e)
  clear e45
  have HR : Hid (numsRes12 t = (if allOk12 (cutRes t 32) = true then vals12 (cutRes t 32) else []) ∧ numsOk12 t = allOk12 (cutRes t 32)) := ⟨if_neg hd, if_neg hd⟩
  clear hd
  refine (callsIn_wide (n := 20)).1 ?_
  refine callsIn_of_wp_marks Tryd.func36 rfl trivial ?_ rfl
  simp only [Tryd.ntmps36, List.size_toArray, List.length_cons, List.length_nil, Nat.reduceAdd, Nat.reduceSub, Array.replicate_succ, Array.replicate_zero, List.push_toArray, List.append_toArray, List.nil_append, List.cons_append]
  gi_wp2_with fail
  have hB0 : Below w.heap.size w (((w.alloc (.cells #[.slice none 0 0] 38)).alloc (.cells #[.bool false] 4)).alloc (.cells #[.slice none 0 0] 38)) := (((Below.refl _ w).alloc (Nat.le_refl _) _).alloc (by simp) _).alloc (by simp; omega) _
  have hz0 : (((w.alloc (.cells #[.slice none 0 0] 38)).alloc (.cells #[.bool false] 4)).alloc (.cells #[.slice none 0 0] 38)).heap.size = w.heap.size + 3 := by simp
  have r0 : Row (((w.alloc (.cells #[.slice none 0 0] 38)).alloc (.cells #[.bool false] 4)).alloc (.cells #[.slice none 0 0] 38)) w.heap.size 38 #[.slice none 0 0] := ((Row.new w _ _).alloc _).alloc _
  have r1 : Row (((w.alloc (.cells #[.slice none 0 0] 38)).alloc (.cells #[.bool false] 4)).alloc (.cells #[.slice none 0 0] 38)) (w.heap.size + 1) 4 #[.bool false] := by
    have h := (Row.new (w.alloc (.cells #[.slice none 0 0] 38)) 4 #[.bool false]).alloc (.cells #[.slice none 0 0] 38)
    rw [World.size_alloc] at h
    exact h
  have r2 : Row (((w.alloc (.cells #[.slice none 0 0] 38)).alloc (.cells #[.bool false] 4)).alloc (.cells #[.slice none 0 0] 38)) (w.heap.size + 2) 38 #[.slice none 0 0] := by
    have h := Row.new ((w.alloc (.cells #[.slice none 0 0] 38)).alloc (.cells #[.bool false] 4)) 38 #[.slice none 0 0]
    rw [World.size_alloc, World.size_alloc] at h
    exact h
  generalize ((w.alloc (.cells #[.slice none 0 0] 38)).alloc (.cells #[.bool false] 4)).alloc (.cells #[.slice none 0 0] 38) = W0 at *
  refine ⟨trivial, ?_⟩
  gi_at_call 90
  refine (callsIn_wide.2 (splitSeq_any _ _)).mono ?_
  rintro e w2 ⟨rfl, rfl⟩
  have hbx := boxes_new12 t W0
  have hB2 : Below w.heap.size w (((W0.alloc (.cells #[.string t] 9)).alloc (.cells #[.string ⟨#[32]⟩] 9)).alloc (.cells #[.int .i64 0] 3)) := ((hB0.alloc hB0.size _).alloc (by simp; omega) _).alloc (by simp; omega) _
  have hz2 : (((W0.alloc (.cells #[.string t] 9)).alloc (.cells #[.string ⟨#[32]⟩] 9)).alloc (.cells #[.int .i64 0] 3)).heap.size = w.heap.size + 6 := by simp [hz0]
  have hI0 : Read12 w [] (((W0.alloc (.cells #[.string t] 9)).alloc (.cells #[.string ⟨#[32]⟩] 9)).alloc (.cells #[.int .i64 0] 3)) :=
    ⟨⟨_, ((r2.alloc _).alloc _).alloc _, World.ownsRow_nil _ _ _ _⟩, rfl, ((r0.alloc _).alloc _).alloc _, ((r1.alloc _).alloc _).alloc _, hB2⟩
  rw [hz0] at hbx
  rw [hz0]
  clear r0 r1 r2 hB0 hB2
  gi_wp2
  generalize ((W0.alloc (.cells #[.string t] 9)).alloc (.cells #[.string ⟨#[32]⟩] 9)).alloc (.cells #[.int .i64 0] 3) = W2 at *
  refine wpIn_rangeFunc_Bx (n := 20) (by omega) (gf := 114) (lb := #[.pointer (some ⟨w.heap.size + 3 + 1, 0, none⟩), .pointer (some ⟨w.heap.size + 3, 0, none⟩), .pointer (some ⟨w.heap.size + 3 + 2, 0, none⟩)]) rfl (enters_of Tryd.func114 (by kernel_rfl) rfl) (split1_seq 19 t ht (w.heap.size + 3) W2 hbx) (by omega) (Below.refl _ _) (fun _ => rfl)
    (fun pre W => Read12 w pre W) (fun c pre W => c = .ret ∧ Odd12 w pre W)
    (fun _ _ _ _ h hg hr => h.beside hg (by omega) hr) (fun _ _ _ _ _ h hg hr => ⟨h.1, h.2.beside hg (by omega) hr⟩) hI0
    (fun x => { tmps := #[.string t, undef, .pointer (some ⟨w.heap.size, 0, none⟩), .pointer (some ⟨w.heap.size + 1, 0, none⟩), .pointer (some ⟨w.heap.size + 2, 0, none⟩), .string x, undef, undef, .string t, .bool false, .string t, .func (.func 114) #[] #[.pointer (some ⟨w.heap.size + 3 + 1, 0, none⟩), .pointer (some ⟨w.heap.size + 3, 0, none⟩), .pointer (some ⟨w.heap.size + 3 + 2, 0, none⟩)], .string x, undef, undef, undef, undef, undef, undef, undef, undef, undef, undef, undef, undef], defers := [] }) ?assign ?body ?done ?stop
  case assign =>
    intro l x W K hK
    gi_wp2
    exact hK
  case body =>
    rintro l pre x W hI ⟨k9, hsp⟩ hlen hWz
    have hxm : x ∈ cutRes t 32 := List.mem_of_mem_take (i := k9) (by rw [← hsp]; simp)
    have hxs := cutRes_size hxm
    have hpl : (vals12 pre).length ≤ 1048577 := by
      have := cutRes_len t 32
      unfold vals12
      rw [List.length_map]
      omega
    obtain ⟨v, hr2, hown⟩ := hI.row
    obtain ⟨A1, cap1, rfl, -⟩ := Si.intsForm hown
    have HIa := Lib.hid hI.all
    have HIl := Lib.hid hI.list
    have HIo := Lib.hid hI.ok
    have HIb := Lib.hid hI.below
    have HIr := Lib.hid hr2
    have HIw := Lib.hid hown
    have hzz : w.heap.size + 6 ≤ W.heap.size := by omega
    have HPN := Lib.hid (parseNumber_any x W (HP.out.below HIb.out) (HE.out.below HIb.out) (by omega))
    clear hI hr2 hown hsp hxm hlen
    cases hok : ok12 x.data.toList with
    | false =>
      have hnv := numV_no hok
      rw [hnv] at HPN
      clear hnv
      gi_wp2_with fail
      refine ⟨trivial, ?_⟩
      gi_at_call 91
      refine (CallsIn.inRound l (callsIn_wide.2 HPN.out)).mono ?_
      rintro e W3 ⟨rfl, hb3⟩
      have HB3 := Lib.hid hb3
      have q0 := HIl.out.below hb3 HIl.out.lt
      have q1 := HIo.out.below hb3 HIo.out.lt
      have c0 := q0.cell 0
      have c1 := q1.cell 0
      have f0 := q0.free 0
      have f1 := q1.free 0
      have HQ0 := Lib.hid q0
      have HQ1 := Lib.hid q1
      clear hb3 q0 q1 HPN
      gi_wp2
      refine ⟨?_, rfl, ?_⟩
      · intro k o hk ho hc
        have hkW := (Array.getElem?_eq_some_iff.1 ho).1
        have h3 : W3.heap[k]? = some o := (HB3.out.block k hkW).trans ho
        exact (Below.heap_setCell _ ⟨w.heap.size + 1, 0, none⟩ _ k (by show k ≠ w.heap.size + 1; omega)).trans ((Below.heap_setCell _ ⟨w.heap.size, 0, none⟩ _ k (by show k ≠ w.heap.size; omega)).trans h3)
      · refine ⟨by rw [allOk_snoc12, HIa.out, hok]; rfl, ?_, ?_, ?_⟩
        · exact (HQ0.out.put 0 (.slice none 0 0)).far (p := ⟨w.heap.size + 1, 0, none⟩) (by show w.heap.size ≠ w.heap.size + 1; omega) _
        · exact (HQ1.out.far (p := ⟨w.heap.size, 0, none⟩) (by show w.heap.size + 1 ≠ w.heap.size; omega) _).put 0 (.bool false)
        · exact ((HIb.out.trans (HB3.out.mono HIb.out.size)).setCell (p := ⟨w.heap.size, 0, none⟩) (Nat.le_refl _) _).setCell (p := ⟨w.heap.size + 1, 0, none⟩) (by show w.heap.size ≤ w.heap.size + 1; omega) _
    | true =>
      have hnv : numV x = .tuple #[.int .i64 (val12 x.data.toList : Int), .bool true] := by
        unfold numV
        rw [hok]
        rfl
      rw [hnv] at HPN
      clear hnv
      gi_wp2_with fail
      refine ⟨trivial, ?_⟩
      gi_at_call 91
      refine (CallsIn.inRound l (callsIn_wide.2 HPN.out)).mono ?_
      rintro e W3 ⟨rfl, hb3⟩
      have HB3 := Lib.hid hb3
      have q0 := HIl.out.below hb3 HIl.out.lt
      have q1 := HIo.out.below hb3 HIo.out.lt
      have q2 := HIr.out.below hb3 HIr.out.lt
      have c2 := q2.cell 0
      have HQ0 := Lib.hid q0
      have HQ1 := Lib.hid q1
      have HQ2 := Lib.hid q2
      have HOW := Lib.hid (HIw.out.below hb3)
      have hz3 := hb3.size
      have hbb : w.heap.size + 6 ≤ W3.heap.size := by omega
      have HBL := Lib.hid (HIb.out.trans (hb3.mono HIb.out.size))
      have HST := Lib.hid (fun v' W5 h1 h2 => step12 (x := x) (v' := v') (W5 := W5) (o0 := .cells #[.int .i64 (val12 x.data.toList : Int)] 3) HB3.out hzz HQ2.out HOW.out HIa.out hok HQ0.out HQ1.out HBL.out h1 h2 W2.heap.size)
      generalize (val12 x.data.toList : Int) = y at *
      have HO6 : Hid (Si.OwnInts (W3.alloc (.cells #[.int .i64 y] 3)) (w.heap.size + 6) (.slice A1 (vals12 pre).length cap1) (vals12 pre)) := HOW.out.below ((Below.refl _ W3).alloc (Nat.le_refl _) _)
      have HN6 : Hid ((W3.alloc (.cells #[.int .i64 y] 3)).cell? ⟨W3.heap.size, 0, none⟩ = some (.int .i64 y)) := Row.cell (Row.new W3 3 #[.int .i64 y]) 0
      clear hb3 q0 q1 q2 HPN
      gi_wp2_with (gi_at_builtin; refine wpListIn_appI12 rfl _ _ rfl (w.heap.size + 6) _ (vals12 pre) rfl HO6.out (by omega) (by simp; omega) W3.heap.size y rfl HN6.out ?_; intro v' W5 hown5 hg5; obtain ⟨A7, cap7, rfl, -⟩ := Si.intsForm hown5; have HST5 := Lib.hid (HST.out _ W5 hown5 hg5); have hrow5 : Row W5 (w.heap.size + 2) 38 #[.slice A1 (vals12 pre).length cap1] := (hg5.block _ (HQ2.out.alloc _).lt (fun he => by have := (own_lt12 HOW.out he.symm).1; omega)).trans (HQ2.out.alloc _); have d2 := hrow5.cell 0; have z2 := hrow5.free 0; clear hown5 hg5 hrow5 c2)
      have hl7 : (vals12 pre ++ [y]).length = (vals12 pre).length + 1 := by simp
      rw [hl7] at HST5
      exact HST5.out
  case done =>
    rintro D ys W hD hS hI hK
    subst hS
    obtain ⟨v, hr2, hown⟩ := hI.row
    obtain ⟨A1, cap1, rfl, -⟩ := Si.intsForm hown
    have HA : Hid (numsRes12 t = vals12 (cutRes t 32) ∧ numsOk12 t = true) := ⟨by rw [HR.out.1, if_pos hI.all], by rw [HR.out.2, hI.all]⟩
    have HIl := Lib.hid hI.list
    have HIo := Lib.hid hI.ok
    have HIb := Lib.hid hI.below
    have HIr := Lib.hid hr2
    have HIw := Lib.hid hown
    have HK : Hid (W.heap[D]? = some (.deferred (some []))) := hK
    have c2 := hr2.cell 0
    have c0 := hI.list.cell 0
    have c1 := hI.ok.cell 0
    have f0 := hI.list.free 0
    have f1 := hI.ok.free 0
    have hDb : w.heap.size + 6 ≤ D := by omega
    have HD := Lib.hid hDb
    clear hI hr2 hown hK
    gi_wp2
    have r0 : Row ((W.setCell ⟨w.heap.size, 0, none⟩ (.slice A1 (vals12 (cutRes t 32)).length cap1)).setCell ⟨w.heap.size + 1, 0, none⟩ (.bool true)) w.heap.size 38 #[.slice A1 (vals12 (cutRes t 32)).length cap1] := (HIl.out.put 0 (.slice A1 (vals12 (cutRes t 32)).length cap1)).far (p := ⟨w.heap.size + 1, 0, none⟩) (by show w.heap.size ≠ w.heap.size + 1; omega) _
    have r1 : Row ((W.setCell ⟨w.heap.size, 0, none⟩ (.slice A1 (vals12 (cutRes t 32)).length cap1)).setCell ⟨w.heap.size + 1, 0, none⟩ (.bool true)) (w.heap.size + 1) 4 #[.bool true] := (HIo.out.far (p := ⟨w.heap.size, 0, none⟩) (by show w.heap.size + 1 ≠ w.heap.size; omega) _).put 0 (.bool true)
    have hb6 : Below w.heap.size w ((W.setCell ⟨w.heap.size, 0, none⟩ (.slice A1 (vals12 (cutRes t 32)).length cap1)).setCell ⟨w.heap.size + 1, 0, none⟩ (.bool true)) := (HIb.out.setCell (p := ⟨w.heap.size, 0, none⟩) (Nat.le_refl _) _).setCell (p := ⟨w.heap.size + 1, 0, none⟩) (by show w.heap.size ≤ w.heap.size + 1; omega) _
    have hk6 : ((W.setCell ⟨w.heap.size, 0, none⟩ (.slice A1 (vals12 (cutRes t 32)).length cap1)).setCell ⟨w.heap.size + 1, 0, none⟩ (.bool true)).heap[D]? = some (.deferred (some [])) :=
      (Below.heap_setCell _ ⟨w.heap.size + 1, 0, none⟩ _ D (by show D ≠ w.heap.size + 1; omega)).trans ((Below.heap_setCell _ ⟨w.heap.size, 0, none⟩ _ D (by show D ≠ w.heap.size; omega)).trans HK.out)
    have ho6 : Si.OwnInts ((W.setCell ⟨w.heap.size, 0, none⟩ (.slice A1 (vals12 (cutRes t 32)).length cap1)).setCell ⟨w.heap.size + 1, 0, none⟩ (.bool true)) (w.heap.size + 6) (.slice A1 (vals12 (cutRes t 32)).length cap1) (vals12 (cutRes t 32)) :=
      own_keep12 HIw.out fun k hk => by
        have := (own_lt12 HIw.out hk).1
        exact (Below.heap_setCell _ ⟨w.heap.size + 1, 0, none⟩ _ k (by show k ≠ w.heap.size + 1; omega)).trans (Below.heap_setCell _ ⟨w.heap.size, 0, none⟩ _ k (by show k ≠ w.heap.size; omega))
    generalize (W.setCell ⟨w.heap.size, 0, none⟩ (.slice A1 (vals12 (cutRes t 32)).length cap1)).setCell ⟨w.heap.size + 1, 0, none⟩ (.bool true) = W6 at *
    refine ⟨by simp, .inl ⟨_, _, rfl, run_takeDeferred hk6, ?_⟩⟩
    have s0 : Row (W6.putObj D (.deferred none)) w.heap.size 38 #[.slice A1 (vals12 (cutRes t 32)).length cap1] := (World.putObj_heap_other (by omega)).trans r0
    have s1 : Row (W6.putObj D (.deferred none)) (w.heap.size + 1) 4 #[.bool true] := (World.putObj_heap_other (by omega)).trans r1
    refine ⟨_, results_two12 (p := 2) (q := 3) rfl _ (W6.putObj D (.deferred none)) ⟨w.heap.size, 0, none⟩ ⟨w.heap.size + 1, 0, none⟩ _ _ (by simp) (run_loadRow12 (s0.cell 0)) (by simp) (run_loadBool12 (s1.cell 0)), _, by rw [HA.out.2], ?_, ?_⟩
    · rw [HA.out.1]
      have h7 : Si.OwnInts (W6.putObj D (.deferred none)) (w.heap.size + 6) (.slice A1 (vals12 (cutRes t 32)).length cap1) (vals12 (cutRes t 32)) := own_keep12 ho6 fun k hk => by
        obtain ⟨c, ty, fz, hh⟩ := own_cells12 ho6 hk
        exact World.putObj_heap_other (fun e => by subst e; rw [hh] at hk6; injection hk6 with hk6; cases hk6)
      exact own_low12 h7 (by omega)
    · exact hb6.trans ((Below.refl w.heap.size W6).grown (grownBy_putObj' W6 D _) hb6.size (fun k e => by injection e with e; omega))
  case stop =>
    rintro D c pre W hD ⟨k9, hS⟩ ⟨rfl, hI⟩ hK
    have HA : Hid (numsRes12 t = [] ∧ numsOk12 t = false) := by
      have h1 : allOk12 (cutRes t 32) = false := allOk_cut12 (k := k9) (by rw [← hS]; exact hI.all)
      exact ⟨by rw [HR.out.1, if_neg (by rw [h1]; decide)], by rw [HR.out.2, h1]⟩
    have hk6 : W.heap[D]? = some (.deferred (some [])) := hK
    have r0 := hI.list
    have r1 := hI.ok
    have hb6 := hI.below
    have hDb : w.heap.size + 6 ≤ D := by omega
    clear hI hK hS
    gi_wp2
    refine ⟨by simp, .inl ⟨_, _, rfl, run_takeDeferred hk6, ?_⟩⟩
    have s0 : Row (W.putObj D (.deferred none)) w.heap.size 38 #[.slice none 0 0] := (World.putObj_heap_other (by omega)).trans r0
    have s1 : Row (W.putObj D (.deferred none)) (w.heap.size + 1) 4 #[.bool false] := (World.putObj_heap_other (by omega)).trans r1
    refine ⟨_, results_two12 (p := 2) (q := 3) rfl _ (W.putObj D (.deferred none)) ⟨w.heap.size, 0, none⟩ ⟨w.heap.size + 1, 0, none⟩ _ _ (by simp) (run_loadRow12 (s0.cell 0)) (by simp) (run_loadBool12 (s1.cell 0)), _, by rw [HA.out.2], ?_, ?_⟩
    · rw [HA.out.1]
      exact World.ownsRow_nil _ _ _ _
    · exact hb6.trans ((Below.refl w.heap.size W).grown (grownBy_putObj' W D _) hb6.size (fun k e => by injection e with e; omega))

end Go.Proofs.YtdbddockmdkmeaaDoor
/- The walk of the law FnExactParseNumbers. -/
namespace Go.Proofs.YtdbddockmdkmeaaDoor
open Go.RowKit

theorem split12_sum : ∀ x : List UInt8, ((split12 x).map List.length).sum + (split12 x).length = x.length + 1
  | [] => rfl
  | c :: r => by
    have ih := split12_sum r
    rw [split12_cons]
    by_cases hc : c = 32
    · rw [if_pos hc, List.map_cons, List.sum_cons, List.length_cons, List.length_cons, List.length_nil]
      omega
    · rw [if_neg hc]
      cases hs : split12 r with
      | nil => exact absurd hs (split12_ne r)
      | cons p ps =>
        rw [hs] at ih
        rw [List.map_cons, List.sum_cons, List.length_cons] at ih
        show (((([c] : List UInt8) ++ p) :: ps).map List.length).sum + ((([c] : List UInt8) ++ p) :: ps).length = (c :: r).length + 1
        rw [List.map_cons, List.sum_cons, List.length_cons, List.length_append, List.length_cons, List.length_cons, List.length_nil]
        omega
theorem sum_ge12 : ∀ ps : List (List UInt8), (∀ p ∈ ps, p ≠ []) → ps.length ≤ (ps.map List.length).sum
  | [], _ => Nat.zero_le _
  | p :: ps, h => by
    have h1 := List.length_pos_iff.2 (h p (by simp))
    have h2 := sum_ge12 ps fun q hq => h q (List.mem_cons_of_mem _ hq)
    rw [List.map_cons, List.sum_cons, List.length_cons]
    omega
theorem nums_len12 {t : ByteArray} (ht : t.size ≤ 1048576) : (numsRes12 t).length ≤ 1048576 := by
  unfold numsRes12
  split
  · simp
  · split
    · rename_i hok
      have h1 := split12_sum t.data.toList
      have h2 : (split12 t.data.toList).length ≤ ((split12 t.data.toList).map List.length).sum := sum_ge12 _ fun p hp => by
        rw [← cutRes_split] at hp
        obtain ⟨s, hs, rfl⟩ := List.mem_map.1 hp
        have h3 := List.all_eq_true.1 hok s hs
        exact (ok12_parts h3).1
      have h4 : (split12 t.data.toList).length = (cutRes t 32).length := by rw [← cutRes_split, List.length_map]
      have h5 : t.data.toList.length = t.size := rfl
      unfold vals12
      rw [List.length_map]
      omega
    · simp

end Go.Proofs.YtdbddockmdkmeaaDoor
