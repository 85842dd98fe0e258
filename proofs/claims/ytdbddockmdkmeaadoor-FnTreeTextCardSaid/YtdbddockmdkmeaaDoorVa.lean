/- slices.Values at a slice of nodes. -/
import Derived.Test.YtdbddockmdkmeaaDoorSb
namespace Go.Proofs.YtdbddockmdkmeaaDoor
open Go.RowKit Go.Shelf
attribute [local go_sem] Oper.semAt_some

/-- The slice value 'sv' holds pointers to the nodes 'ks', in a block below n₀; or it is nil and there are none. -/
def PtrsAt (n₀ : Nat) (W : World) (sv : Value) {l : List Seg} (nb : Nat → Nat) (ks : List (Ix l)) : Prop :=
  (sv = .slice none 0 0 ∧ ks = []) ∨ ∃ b off cap, sv = .slice (some ⟨b, off, none⟩) ks.length cap ∧ b < n₀ ∧ ∀ (j : Nat) (x : Ix l), ks[j]? = some x → W.cell? ⟨b, off + j, none⟩ = some (.pointer (some ⟨nb x.1, 0, none⟩))
theorem PtrsAt.below {n₀ : Nat} {A B : World} (h : Below n₀ A B) {sv : Value} {l : List Seg} {nb : Nat → Nat} {ks : List (Ix l)} : PtrsAt n₀ A sv nb ks → PtrsAt n₀ B sv nb ks
  | .inl e => .inl e
  | .inr ⟨b, off, cap, e, hb, hc⟩ => .inr ⟨b, off, cap, e, hb, fun j x hj => (h.cell (p := ⟨b, off + j, none⟩) hb).trans (hc j x hj)⟩

set_option maxRecDepth 100000 in
set_option maxHeartbeats 2000000 in
theorem values1_in (n : Nat) (hn : 1 ≤ n) (l' Bs n₀ b off cap : Nat) {l : List Seg} (nb : Nat → Nat) (ks : List (Ix l)) (hreach : ks.length ≤ 1000) (hb : b < n₀) (J Jx : List (Ix l) → World → Prop)
    (hY : ∀ pre x W, J pre W → pre.length < ks.length → YieldAt Fence.wide (n - 1) Tryd.prog l' #[.pointer (some ⟨nb x.1, 0, none⟩)] W fun e W' =>
      (e = .returned (.bool true) ∧ J (pre ++ [x]) W' ∧ Below n₀ W W') ∨ (e = .returned (.bool false) ∧ Jx (pre ++ [x]) W'))
    (W : World) (hBs : W.cell? ⟨Bs, 0, none⟩ = some (.slice (some ⟨b, off, none⟩) ks.length cap)) (hc : ∀ (j : Nat) (x : Ix l), ks[j]? = some x → W.cell? ⟨b, off + j, none⟩ = some (.pointer (some ⟨nb x.1, 0, none⟩))) (h0 : J [] W) :
    CallsIn Fence.wide n Tryd.prog 109 #[.func (.yield l') #[] #[], .pointer (some ⟨Bs, 0, none⟩)] W fun e W' => (∃ v, e = .returned v) ∧
      ((∃ ys, ys = ks ∧ J ys W') ∨ (∃ pre, pre <+: ks ∧ Jx pre W')) := by
  refine callsIn_of_wp Tryd.func109 rfl trivial ?_ rfl
  simp only [Tryd.ntmps109, List.size_toArray, List.length_cons, List.length_nil, Nat.reduceAdd, Nat.reduceSub, Array.replicate_succ, Array.replicate_zero, List.push_toArray, List.append_toArray, List.nil_append, List.cons_append]
  have HC := Lib.hid hc
  clear hc
  gi_wp2
  gi_loopw [7] (fun i wr => ∃ k : Nat, k ≤ ks.length ∧ i = .int .i64 k ∧ J (ks.take k) wr ∧ Below n₀ W wr)
    (fun i _ => ks.length - (intOf i).toNat)
  case atStart => exact ⟨0, Nat.zero_le _, rfl, h0, Below.refl _ _⟩
  case round =>
    obtain ⟨k, hk, rfl, hJs, hnx⟩ := hrel
    by_cases hlt : k < ks.length
    · have hcx : wr.cell? ⟨b, off + k, none⟩ = some (.pointer (some ⟨nb ks[k].1, 0, none⟩)) := (hnx.cell (p := ⟨b, off + k, none⟩) hb).trans (HC.out k _ (List.getElem?_eq_getElem hlt))
      have HT : Hid (ks.take (k + 1) = ks.take k ++ [ks[k]]) := List.take_succ_eq_append_getElem hlt
      obtain ⟨fn, tmps, assign, body, hy, hR⟩ := hY _ ks[k] wr hJs (by rw [List.length_take]; omega)
      generalize ks[k] = x at *
      gi_wp2
      refine hR.mono ?_
      rintro e W3 (⟨rfl, hJ3, hk3⟩ | ⟨rfl, hJx3⟩)
      · gi_wp2
        go_roundw
        case rel => exact ⟨k + 1, by omega, by simp, by rw [HT.out]; exact hJ3, hnx.trans hk3⟩
        case measure => simp [intOf]; omega
      · gi_wp2
        refine bodyPost_ret (results_none rfl _ _ _) rfl ?_
        exact ⟨⟨_, rfl⟩, .inr ⟨_, by rw [← HT.out]; exact List.take_prefix _ _, hJx3⟩⟩
    · gi_wp2
      go_end0
      exact ⟨⟨_, rfl⟩, .inl ⟨_, List.take_of_length_le (by omega), hJs⟩⟩

set_option maxRecDepth 100000 in
set_option maxHeartbeats 1000000 in
theorem values1_nil_in (n : Nat) (l' Bs : Nat) {l : List Seg} (J : List (Ix l) → World → Prop) (W : World) (hBs : W.cell? ⟨Bs, 0, none⟩ = some (.slice none 0 0)) (h0 : J [] W) :
    CallsIn Fence.wide n Tryd.prog 109 #[.func (.yield l') #[] #[], .pointer (some ⟨Bs, 0, none⟩)] W fun e W' => (∃ v, e = .returned v) ∧ J [] W' := by
  refine callsIn_of_wp Tryd.func109 rfl trivial ?_ rfl
  simp only [Tryd.ntmps109, List.size_toArray, List.length_cons, List.length_nil, Nat.reduceAdd, Nat.reduceSub, Array.replicate_succ, Array.replicate_zero, List.push_toArray, List.append_toArray, List.nil_append, List.cons_append]
  gi_wp2
  gi_loopw [7] (fun i wr => i = .int .i64 0 ∧ J [] wr) (fun _ _ => 0)
  case atStart => exact ⟨rfl, h0⟩
  case round =>
    obtain ⟨rfl, hJs⟩ := hrel
    gi_wp2
    go_end0
    exact ⟨⟨_, rfl⟩, hJs⟩

set_option maxRecDepth 100000 in
set_option maxHeartbeats 400000 in
theorem values_any (a : Option Addr) (len cap : Nat) (w : World) :
    Calls Tryd.prog 88 #[.slice a len cap] w fun e w' => e = .returned (.func (.func 109) #[] #[.pointer (some ⟨w.heap.size, 0, none⟩)]) ∧ w' = w.alloc (.cells #[.slice a len cap] 52) := by
  go_enter Tryd.func88, Tryd.ntmps88
  go_wp2
  go_ret
  exact ⟨rfl, rfl⟩

theorem values_stops (n : Nat) (hn : 1 ≤ n) (Bs n₀ : Nat) (sv : Value) {l : List Seg} (nb : Nat → Nat) (ks : List (Ix l)) (hreach : ks.length ≤ 1000) (w : World) (hBs : Bs < w.heap.size) (hn₀ : n₀ ≤ w.heap.size)
    (hc : w.cell? ⟨Bs, 0, none⟩ = some sv) (hI : PtrsAt n₀ w sv nb ks) :
    SeqStopsK Fence.wide n Tryd.prog 109 #[.pointer (some ⟨Bs, 0, none⟩)] (fun x : Ix l => #[.pointer (some ⟨nb x.1, 0, none⟩)]) (Below n₀) (fun ys => ys = ks) (fun pre => pre <+: ks) ks.length w := fun l' J Jx W hW _ _ hY h0 => by
  have hc' := (hW.cell (p := ⟨Bs, 0, none⟩) hBs).trans hc
  rcases hI.below (hW.mono hn₀) with ⟨rfl, rfl⟩ | ⟨b, off, cap, rfl, hb, hcs⟩
  · exact (values1_nil_in n l' Bs J W hc' h0).mono fun e W' ⟨he, hj⟩ => ⟨he, .inl ⟨_, rfl, hj⟩⟩
  · exact values1_in n hn l' Bs n₀ b off cap nb ks hreach hb J Jx hY W hc' hcs h0

end Go.Proofs.YtdbddockmdkmeaaDoor

/- NamesOf and ChildrenOf: the program's and the model's. -/
namespace Go.Proofs.YtdbddockmdkmeaaDoor
open Go.RowKit Go.Shelf

theorem ret_two {a b : ByteArray} {c d : Bool} (h : a = b) (k : c = d) : Ending.returned (.tuple #[.string a, .bool c]) = .returned (.tuple #[.string b, .bool d]) := by rw [h, k]

def nmAt (l : List Seg) (j : Nat) : List UInt8 := match l[j]? with
  | some s => s.name.data.toList
  | none => []
theorem nmAt_of {l : List Seg} {j : Nat} (h : j < l.length) : nmAt l j = l[j].name.data.toList := by unfold nmAt; rw [List.getElem?_eq_getElem h]
def ixOf (l : List Seg) (js : List Nat) (h : ∀ j ∈ js, j < l.length) : List (Ix l) := js.pmap (fun j h => ⟨j, h⟩) h
theorem ixOf_len (l : List Seg) (js : List Nat) (h : ∀ j ∈ js, j < l.length) : (ixOf l js h).length = js.length := by simp [ixOf]
theorem ixOf_at {l : List Seg} {js : List Nat} {h : ∀ j ∈ js, j < l.length} {i : Nat} {x : Ix l} (hx : (ixOf l js h)[i]? = some x) : js[i]? = some x.1 := by
  unfold ixOf at hx
  rw [List.getElem?_pmap] at hx
  cases hj : js[i]? with
  | none => simp [hj] at hx
  | some j => simp [hj] at hx; rw [← hx]
theorem nameBytes_ixOf (l : List Seg) : ∀ (js : List Nat) (h : ∀ j ∈ js, j < l.length), nameBytes l (ixOf l js h) = js.flatMap (nmAt l)
  | [], _ => rfl
  | j :: js, h => by
    have h1 := nameBytes_ixOf l js (fun i hi => h i (List.mem_cons_of_mem _ hi))
    have hj : j < l.length := h j List.mem_cons_self
    show (l[j]'hj).name.data.toList ++ nameBytes l (ixOf l js _) = nmAt l j ++ js.flatMap (nmAt l)
    rw [h1, nmAt_of hj]
theorem range_names (l : List Seg) : ∀ k, k ≤ l.length → (List.range k).flatMap (nmAt l) = (seenOf l k).data.toList
  | 0, _ => rfl
  | k + 1, hk => by
    rw [List.range_succ, List.flatMap_append, range_names l k (by omega), seenOf_succ (by omega)]
    show _ = (seenOf l k ++ l[k].name).data.toList
    rw [ByteArray.data_append, Array.toList_append]
    simp [nmAt_of (show k < l.length by omega)]
theorem valid_names {l : List Seg} (h : validB l = true) : ∀ s ∈ l, s.name.size ≤ 1 := fun s hs => by
  obtain ⟨j, hj, rfl⟩ := List.getElem_of_mem hs
  obtain ⟨c, hc, _⟩ := nameOk_one ((valid_all h).1.name hj (List.getElem?_eq_getElem hj))
  rw [hc]
  exact Nat.le_refl 1

def namesStr (l : List Seg) : ByteArray := if validB l = true then seenOf l l.length else ⟨#[]⟩

set_option maxRecDepth 100000 in
set_option maxHeartbeats 400000 in
theorem namesOf_any (A : Option Addr) (l : List Seg) (c : Nat) (w : World) (hw : Segs w w.heap.size A l) (hl : l.length ≤ 1048576) (hlc : l.length ≤ c) (hcm : c ≤ 9223372036854775807) (hn : Short l) :
    Calls Tryd.prog 29 #[.slice A l.length c] w fun e w' => e = .returned (.tuple #[.string (namesStr l), .bool (validB l)]) ∧ Below w.heap.size w w' := by
  have HW : Hid (Segs w w.heap.size A l) := hw
  clear hw
  have hnil := fun (W : World) (a : Option Addr) (n c : Nat) => Lib.run_eql_slice_nil (P := Tryd.prog) W 52 57 a n c 0 0 Tryd.underlying52
  cases hv : validB l with
  | false =>
    have HF : Hid (namesStr l = ⟨#[]⟩) := if_neg (by rw [hv]; decide)
    go_enter Tryd.func29, Tryd.ntmps29
    go_wp2_with fail
    refine (nodesOf_bad _ _ _ _ HW.out hl hlc hcm hn hv).mono ?_
    rintro e w1 ⟨rfl, hb1⟩
    go_wp2
    go_ret2
    exact ⟨ret_two HF.out.symm rfl, hb1⟩
  | true =>
    have HF : Hid (namesStr l = seenOf l l.length) := if_pos hv
    have HO : Hid _ := valid_names hv
    have HL : Hid _ := valid_all hv
    have hr : ∀ j ∈ List.range l.length, j < l.length := fun j hj => List.mem_range.1 hj
    have HR := Lib.hid hr
    clear hr
    go_enter Tryd.func29, Tryd.ntmps29
    go_wp2_with fail
    refine (nodesOf_any _ _ _ _ HW.out hl hlc hcm hn hv).mono ?_
    rintro e w1 ⟨g, nb, cv, rfl, hN, hb1⟩
    have HN := Lib.hid hN
    clear hN hv
    go_wp2_with fail
    refine (values_any _ _ _ _).mono ?_
    rintro e w2 ⟨rfl, rfl⟩
    clear hnil
    go_wp2_with fail
    have hg := HN.out.row
    have hseq := values_stops (l := l) 5 (by omega) w1.heap.size (w1.heap.size + 1) (.slice (some ⟨g, 0, none⟩) l.length l.length) nb (ixOf l (List.range l.length) HR.out) (by rw [ixOf_len, List.length_range]; have := HL.out.2.1; omega)
      (w1.alloc (.cells #[.slice (some ⟨g, 0, none⟩) l.length l.length] 52)) (by simp) (by simp) (by simp) (.inr (by
        obtain ⟨cs, hrow, _, hci⟩ := hg
        refine ⟨g, 0, l.length, by rw [ixOf_len, List.length_range], Nat.lt_succ_of_lt hrow.lt, fun j x hj => ?_⟩
        have h1 := ixOf_at hj
        have hj2 : j < l.length := by have := (List.getElem?_eq_some_iff.1 h1).1; simpa using this
        rw [List.getElem?_range hj2] at h1
        injection h1 with h1
        rw [← h1, Nat.zero_add, (hrow.alloc _).cell]
        exact hci j hj2))
    have HSQ := Lib.hid hseq
    clear hseq hg
    refine (joinNames_any _ l nb (fun x => ?_) HO.out _ _ _ ?_ (enters_of Tryd.func109 (by kernel_rfl) rfl) (by rw [World.size_alloc]; exact HSQ.out)).mono ?_
    · exact ((HN.out.node x.1 _ x.2 (List.getElem?_eq_getElem x.2)).alloc _).cell 0
    · rw [ixOf_len, List.length_range]; have := HL.out.2.1; omega
    · rintro e w3 ⟨⟨xs, rfl, rfl⟩, hb3⟩
      have hb4 : Below w.heap.size w w3 := (hb1.alloc hb1.size _).trans (hb3.mono (by rw [World.size_alloc]; have := hb1.size; omega))
      have HE : Hid (namesStr l = ⟨(nameBytes l (ixOf l (List.range l.length) HR.out)).toArray⟩) := by
        show _ = _
        rw [HF.out, nameBytes_ixOf, range_names l _ (Nat.le_refl _)]
      clear hb3
      go_wp2
      go_ret2
      exact ⟨ret_two HE.out.symm rfl, hb4⟩

end Go.Proofs.YtdbddockmdkmeaaDoor
