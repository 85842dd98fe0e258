/- The reference reads numbers. -/
import Derived.Test.YtdbddockmdkmeaaDoorMo
import Derived.Test.YtdbddockmdkmeaaDoorTi
import Derived.Test.YtdbddockmdkmeaaDoorPl
import Derived.Maps.AppendAt
namespace Go.Proofs.YtdbddockmdkmeaaDoor
open Go.RowKit

set_option maxRecDepth 100000 in
/-- Numbers put behind numbers, and what else stands. -/
theorem wp_appJ12 {ops : Array Oper} {rest : List Oper} {o : Oper} {a : Act} {Q : Exit → Act → World → Prop} (hgd : o.guard = none) (S X : Operand)
    (ho : o.op = Op.call { callee := Callee.builtin Builtin.append, args := #[S, X], argTypes := #[38, 38] })
    (B : Nat) (v : Value) (ts : List Int) (W : World) (hs : a.eval S = v) (hown : Si.OwnInts W B v ts) (htl : ts.length ≤ 100000000) (hB : B ≤ W.heap.size)
    (g : Nat) (u : Int) (hx : a.eval X = .slice (some ⟨g, 0, none⟩) 1 1) (hnew : W.cell? ⟨g, 0, none⟩ = some (.int .i64 u))
    (h : ∀ v' w', Si.OwnInts w' B v' (ts ++ [u]) → Below B W w' → (∀ k, k < W.heap.size → v.ownBlock ≠ some k → w'.heap[k]? = W.heap[k]?) → (∀ k, k < W.heap.size → v.ownBlock ≠ some k → v'.ownBlock ≠ some k) → wpList Tryd.prog ops Q rest (a.put o.dst v') w') :
    wpList Tryd.prog ops Q (o :: rest) a W := by
  obtain ⟨i0, hi, hz0, hz1, hz2⟩ := info_parts info_int
  refine wpList_append_own_at W hgd S X 38 ho B 3 i0 (.int .i64 0) 1 8 Tryd.underlying38 hi hz0 hz1 hz2 rfl (by decide) v ts.length (ts.map (Value.int .i64)) hs hown ⟨g, 0, none⟩ 1 1 [.int .i64 u] hx rfl ?_ ?_ (by unfold maxLen; omega) (by omega) hB ?_
  · intro j x hj
    have hj0 : j = 0 := by have := (List.getElem?_eq_some_iff.1 hj).1; simp at this; omega
    subst hj0
    simp at hj
    subst hj
    exact hnew
  · intro x hx'
    rw [List.mem_singleton.1 hx']
    rfl
  · intro v' w' h1 h2 h3 h4
    refine h v' w' ?_ ?_ ?_ ?_
    · show w'.ownsRow B _ 1 v' (ts ++ [u]).length ((ts ++ [u]).map (Value.int .i64))
      rw [List.length_append, List.map_append]
      exact h1
    · exact (Below.refl B W).grown h2 hB (fun k e => (World.ownsRow.lt hown k e).1)
    · exact fun k hk hne => h2.block k hk (fun e => hne e.symm)
    · intro k hk hne e
      rcases h4 with h4 | h4
      · rw [h4] at e; exact hne e
      · rw [h4] at e; injection e with e; omega
theorem own_keep12 {w w' : World} {B : Nat} {e : TypeId} {size : Nat} {v : Value} {n : Nat} {xs : List Value} (h : w.ownsRow B e size v n xs) (hk : ∀ k, v.ownBlock = some k → w'.heap[k]? = w.heap[k]?) : w'.ownsRow B e size v n xs := by
  refine ⟨h.1, ?_⟩
  rcases h.2 with h0 | ⟨g, cap, cur, rfl, h1, h2, h3⟩
  · exact .inl h0
  · exact .inr ⟨g, cap, cur, rfl, h1, (hk g rfl).trans h2, h3⟩
theorem own_lt12 {w : World} {B : Nat} {e : TypeId} {size : Nat} {v : Value} {n : Nat} {xs : List Value} (h : w.ownsRow B e size v n xs) {k : Nat} (hk : v.ownBlock = some k) : B ≤ k ∧ k < w.heap.size := by
  have := World.ownsRow.lt h k hk
  omega


def vals12 (ps : List ByteArray) : List Int := ps.map fun p => (val12 p.data.toList : Int)
def allOk12 (ps : List ByteArray) : Bool := ps.all fun p => ok12 p.data.toList
/-- What ParseNumbers answers. -/
def numsRes12 (t : ByteArray) : List Int := if t = ⟨#[45]⟩ then [] else if allOk12 (cutRes t 32) = true then vals12 (cutRes t 32) else []
def numsOk12 (t : ByteArray) : Bool := if t = ⟨#[45]⟩ then true else allOk12 (cutRes t 32)
def NumsPost12 (w : World) (t : ByteArray) (e : Ending) (w' : World) : Prop :=
  ∃ v, e = .returned (.tuple #[v, .bool (numsOk12 t)]) ∧ Si.OwnInts w' w.heap.size v (numsRes12 t) ∧ Below w.heap.size w w'
theorem allOk_take {ps : List ByteArray} {k : Nat} (hk : k < ps.length) : allOk12 (ps.take (k + 1)) = (allOk12 (ps.take k) && ok12 ps[k].data.toList) := by
  unfold allOk12
  rw [List.take_succ_eq_append_getElem hk, List.all_append]
  simp
theorem allOk_false {ps : List ByteArray} {k : Nat} (h : allOk12 (ps.take k) = false) : allOk12 ps = false := by
  unfold allOk12 at h ⊢
  rw [← Bool.not_eq_true, List.all_eq_true] at h ⊢
  exact fun hm => h fun p hp => hm p (List.mem_of_mem_take hp)
theorem vals_take {ps : List ByteArray} {k : Nat} (hk : k < ps.length) : vals12 (ps.take (k + 1)) = vals12 (ps.take k) ++ [(val12 ps[k].data.toList : Int)] := by
  unfold vals12
  rw [List.take_succ_eq_append_getElem hk, List.map_append]; rfl

set_option maxRecDepth 100000 in
set_option maxHeartbeats 2000000 in
theorem specParseNumbers_any (t : ByteArray) (w : World) (ht : t.size ≤ 1048576) :
    Calls Tryd.prog 37 #[.string t] w (NumsPost12 w t) := by
  have HB1 : Hid (Below w.heap.size w (w.alloc (.cells #[] 3))) := (Below.refl _ w).alloc (Nat.le_refl _) _
  have HO1 : Hid (Si.OwnInts (w.alloc (.cells #[] 3)) w.heap.size (.slice (some ⟨w.heap.size, 0, none⟩) 0 0) []) :=
    ⟨rfl, .inr ⟨w.heap.size, 0, #[], rfl, Nat.le_refl _, heap_alloc_new _ _, Nat.le_refl _, by unfold maxLen; omega, rfl, rfl⟩⟩
  unfold NumsPost12
  by_cases h45 : t = ⟨#[45]⟩
  · have hE : Hid (numsRes12 t = [] ∧ numsOk12 t = true) := ⟨if_pos h45, if_pos h45⟩
    rw [hE.out.1, hE.out.2]
    clear hE
    subst h45
    go_enter Tryd.func37, Tryd.ntmps37
    go_wp2
    go_ret2
    exact ⟨_, rfl, HO1.out, HB1.out⟩
  · have hsb : sameB t ⟨#[45]⟩ = false := by
      rw [← Bool.not_eq_true]
      exact fun e => h45 (sameB_iff.1 e)
    have e45 : (⟨#[45]⟩ : ByteArray).toList = [45] := by
      rw [ByteArray.toList_eq]
    have hbe : (t.toList == [45]) = false := by
      have h := hsb
      unfold sameB at h
      rw [e45] at h
      exact h
    clear e45 hsb
    have HRS : Hid (numsRes12 t = if allOk12 (cutRes t 32) = true then vals12 (cutRes t 32) else []) := if_neg h45
    have HOK : Hid (numsOk12 t = allOk12 (cutRes t 32)) := if_neg h45
    have HQ := Lib.hid (fun w => l13Cut_any t 32 w ht)
    have hpl : (cutRes t 32).length ≤ t.size + 1 := (cutSt_le t 32 (t.size + 1)).2
    generalize numsRes12 t = R0 at *
    generalize numsOk12 t = K0 at *
    generalize cutRes t 32 = ps at *
    clear h45
    go_enter Tryd.func37, Tryd.ntmps37
    go_wp2_with fail
    refine Calls.mono (HQ.out _) ?_
    rintro e w2 ⟨⟨v, rfl, ho⟩, hb⟩
    rw [World.size_alloc] at ho hb
    obtain ⟨A3, cap3, rfl, -⟩ := St.textsForm ho
    have HT2 : Hid (OwnTexts w2 w.heap.size (.slice A3 ps.length cap3) ps) := (by
      refine ⟨ho.1, ?_⟩
      rcases ho.2 with h0 | ⟨g, cap, cur, h1, h2, h3⟩
      · exact .inl h0
      · exact .inr ⟨g, cap, cur, h1, by omega, h3⟩)
    have HB2 : Hid (Below w.heap.size w w2) := HB1.out.trans (hb.mono (by omega))
    have HO2 : Hid (Si.OwnInts w2 w.heap.size (.slice (some ⟨w.heap.size, 0, none⟩) 0 0) (vals12 (ps.take 0))) := own_keep12 HO1.out fun k hk => by
      injection hk with hk
      exact hb.block _ (by have : w.heap.size = k := hk; omega)
    have HD2 : Hid (∀ k, (Value.slice (some ⟨w.heap.size, 0, none⟩) 0 0).ownBlock = some k → (Value.slice A3 ps.length cap3).ownBlock ≠ some k) := fun k h1 h2 => by
      have := (own_lt12 ho h2).1
      injection h1 with h1
      have : w.heap.size = k := h1
      omega
    have HN := Lib.hid (fun s w => l13Num_any s w)
    clear ho hb HQ HO1 HB1
    go_wp2
    go_loopw [4, 16] (fun o i wr => ∃ (k : Nat), k ≤ ps.length ∧ i = .int .i64 k ∧ Hid (allOk12 (ps.take k) = true) ∧ Hid (Si.OwnInts wr w.heap.size o (vals12 (ps.take k))) ∧ Hid (OwnTexts wr w.heap.size (.slice A3 ps.length cap3) ps) ∧ Hid (∀ b, o.ownBlock = some b → (Value.slice A3 ps.length cap3).ownBlock ≠ some b) ∧ Hid (Below w.heap.size w wr))
      (fun _ i _ => ps.length - (intOf i).toNat)
    case atStart => exact ⟨0, Nat.zero_le _, rfl, Lib.hid rfl, HO2, HT2, HD2, HB2⟩
    case round =>
      obtain ⟨k, hk, rfl, HA, HO, HT, HD, HB⟩ := hrel
      clear HO2 HT2 HD2 HB2
      obtain ⟨A5, cap5, rfl, -⟩ := Si.intsForm HO.out
      by_cases hlt : k < ps.length
      · obtain ⟨A6, cap6, h6, HSS⟩ := St.textsForm HT.out
        injection h6 with h61 _ h63
        subst h61 h63
        obtain ⟨b2, o2, rfl, hB2, hcs2⟩ := HSS (by omega)
        have e1 := hcs2 k ps[k] (List.getElem?_eq_getElem hlt)
        have HAT := Lib.hid (allOk_take hlt)
        have HVT := Lib.hid (vals_take hlt)
        have hk' : (k : Int) < (ps.length : Int) := by omega
        clear hcs2 HSS
        generalize ps[k] = pc at *
        go_wp2_with fail
        refine Calls.mono (HN.out pc wr) ?_
        rintro e w3 ⟨⟨n, ok, rfl, h1, h2⟩, rfl⟩
        cases hok : ok12 pc.data.toList with
        | false =>
          rw [hok] at h1
          have HE : Hid (K0 = false ∧ R0 = []) := by
            have h := HAT.out
            rw [hok, Bool.and_false] at h
            have h3 := allOk_false h
            exact ⟨by rw [HOK.out, h3], by rw [HRS.out, if_neg (by rw [h3]; decide)]⟩
          have HO9 : Hid (Si.OwnInts (wr.alloc (.cells #[] 3)) w.heap.size (.slice (some ⟨wr.heap.size, 0, none⟩) 0 0) []) :=
            ⟨rfl, .inr ⟨wr.heap.size, 0, #[], rfl, HB.out.size, heap_alloc_new _ _, Nat.le_refl _, by unfold maxLen; omega, rfl, rfl⟩⟩
          have HB9 : Hid (Below w.heap.size w (wr.alloc (.cells #[] 3))) := HB.out.alloc HB.out.size _
          clear h2 HAT HVT hok HA HO HT HD HN
          cases ok with
          | false =>
            go_wp2
            go_ret2
            exact ⟨_, by rw [HE.out.1]; rfl, by rw [HE.out.2]; exact HO9.out, HB9.out⟩
          | true =>
            have hn0 : n < 0 := by
              rw [Bool.true_and] at h1
              have := of_decide_eq_false h1
              omega
            clear h1
            go_wp2
            go_ret2
            exact ⟨_, by rw [HE.out.1]; rfl, by rw [HE.out.2]; exact HO9.out, HB9.out⟩
        | true =>
          rw [hok] at h1
          have hn := h2 hok
          obtain ⟨rfl, hd0⟩ : ok = true ∧ decide (0 ≤ n) = true := by simpa using h1
          have hn0 : ¬ n < 0 := by have := of_decide_eq_true hd0; omega
          have HA2 : Hid (allOk12 (ps.take (k + 1)) = true) := by show _ = _; rw [HAT.out, HA.out, hok]; rfl
          have HV2 : Hid (vals12 (ps.take (k + 1)) = vals12 (ps.take k) ++ [n]) := by show _ = _; rw [HVT.out, hn]
          have htl : (vals12 (ps.take k)).length ≤ 100000000 := by
            unfold vals12
            rw [List.length_map, List.length_take]; omega
          have HT6 : Hid (Si.OwnInts (wr.alloc (.cells #[.int .i64 n] 3)) w.heap.size (.slice A5 (vals12 (ps.take k)).length cap5) (vals12 (ps.take k))) := HO.out.below ((Below.refl _ wr).alloc (Nat.le_refl _) _)
          have HN6 : Hid ((wr.alloc (.cells #[.int .i64 n] 3)).cell? ⟨wr.heap.size, 0, none⟩ = some (.int .i64 n)) := Row.cell (Row.new wr 3 #[.int .i64 n]) 0
          have HT10 : Hid (OwnTexts (wr.alloc (.cells #[.int .i64 n] 3)) w.heap.size (.slice (some ⟨b2, o2, none⟩) ps.length cap3) ps) := HT.out.below ((Below.refl _ wr).alloc (Nat.le_refl _) _)
          have HB10 : Hid (Below w.heap.size w (wr.alloc (.cells #[.int .i64 n] 3))) := HB.out.alloc HB.out.size _
          have hz := HB.out.size
          clear h1 h2 hn hd0 hok HAT HVT HA HO HT HB e1
          go_wp2_with (at_builtin; go_loud (refine wp_appJ12 rfl (.tmp 32) (.tmp 34) rfl w.heap.size _ (vals12 (ps.take k)) _ rfl HT6.out htl (by simp; omega) wr.heap.size n rfl HN6.out ?_); intro v7 w7 ho7 hb7 hk7 ha7; have HO7 := Lib.hid ho7; have HB7 := Lib.hid (HB10.out.trans hb7); have HT7 := Lib.hid (own_keep12 HT10.out fun b hb => hk7 b (own_lt12 HT10.out hb).2 fun h => HD.out b h hb); have HD7 := Lib.hid (fun b (h : v7.ownBlock = some b) (hb : (Value.slice (some ⟨b2, o2, none⟩) ps.length cap3).ownBlock = some b) => ha7 b (own_lt12 HT10.out hb).2 (fun h2 => HD.out b h2 hb) h); clear ho7 hb7 hk7 ha7 HN6 HT6 HT10 HB10)
          rw [← HV2.out] at HO7
          go_roundw
          case rel => exact ⟨k + 1, by omega, by go_num, HA2, HO7, HT7, HD7, HB7⟩
          case measure => simp [intOf]; omega
      · have hke : k = ps.length := by omega
        subst hke
        have HE : Hid (K0 = true ∧ R0 = vals12 ps) := by
          have h := HA.out
          rw [List.take_length] at h
          exact ⟨by rw [HOK.out, h], by rw [HRS.out, if_pos h]⟩
        go_wp2
        go_ret2
        exact ⟨_, by rw [HE.out.1]; rfl, by rw [HE.out.2]; have h := HO.out; rw [List.take_length] at h ⊢; exact h, HB.out⟩

end Go.Proofs.YtdbddockmdkmeaaDoor
