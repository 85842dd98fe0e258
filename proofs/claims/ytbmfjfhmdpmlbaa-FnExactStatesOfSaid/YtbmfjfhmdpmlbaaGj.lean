/- All states, yielded one by one. -/
import Derived.Test.YtbmfjfhmdpmlbaaGh
import Derived.Test.YtbmfjfhmdpmlbaaGf
namespace Go.Proofs.Ytbmfjfhmdpmlbaa
open Go.RowKit Go.Shelf
attribute [local go_sem] Oper.semAt_some

/-- Nodes lie where all blocks below 'w' but one are kept. -/
theorem Nodes.kept {w w' : World} {B g m k bb : Nat} {l : List Seg} {nb : Nat → Nat} {cv : Nat → Value} (h : Nodes w B g m k l nb cv) (hk : Kept w.heap.size bb w w') (hbb : ∀ q, B ≤ q → q < w.heap.size → q ≠ bb) (hkm : k ≤ m) : Nodes w' B g m k l nb cv := by
  obtain ⟨cs, hg, hcs, hci⟩ := h.row
  refine ⟨⟨cs, hk.row hg hg.lt (hbb _ h.low.1 hg.lt) (by decide), hcs, hci⟩, fun i t hi ht => ?_, fun i t hi hi2 ht => ?_, fun i hi => ?_, h.apart, h.apartC, h.notg, h.low⟩
  · have h1 := h.node i t hi ht
    exact hk.row h1 h1.lt (hbb _ (h.low.2 i (by omega)) h1.lt) (by decide)
  · have h1 := h.fresh i t hi hi2 ht
    exact hk.row h1 h1.lt (hbb _ (h.low.2 i hi2) h1.lt) (by decide)
  · refine own_keep (h.kids i hi) fun b hb' => ?_
    have hlt := (h.kids i hi).lt b hb'
    rcases (h.kids i hi).2 with ⟨he, _⟩ | ⟨g', cap, cur, he, _, hh, _⟩
    · rw [he] at hb'
      cases hb'
    · rw [he] at hb'
      have : g' = b := by simpa [Value.ownBlock] using hb'
      subst this
      rw [hh]
      exact hk g' _ hlt.2 (hbb _ hlt.1 hlt.2) hh (fun c fz e => by injection e with _ e2; exact absurd e2 (by decide))

def stArgs (T : List Nat) : Array Value := #[bitsV fun j => decide (j ∈ T)]
theorem states_at {l : List Seg} {k : Nat} (h : k < l.length) : (statesIx l).take (k + 2) = (statesIx l).take (k + 1) ++ [rp l k] := by
  have h1 : k + 1 < (statesIx l).length := by simp [statesIx]; omega
  rw [List.take_succ_eq_append_getElem h1]
  congr 1
  simp [statesIx]
theorem states_len (l : List Seg) : (statesIx l).length = l.length + 1 := by simp [statesIx]

set_option maxRecDepth 100000 in
set_option maxHeartbeats 4000000 in
theorem states1_in (n : Nat) (hn : 1 ≤ n) (l' Bs bb B g : Nat) (l : List Seg) (nb : Nat → Nat) (cv : Nat → Value) (hv : validB l = true) (w0 : World) (hN : ∀ W', Kept w0.heap.size bb w0 W' → Nodes W' B g l.length l.length l nb cv) (hBs : Row w0 Bs 65 #[.slice (some ⟨g, 0, none⟩) l.length l.length]) (hBsb : Bs ≠ bb)
    (J Jx : List (List Nat) → World → Prop) (W : World) (hK0 : Kept w0.heap.size bb w0 W) (hJ : AbidesFrom W.heap.size J)
    (hY : ∀ pre x W1, J pre W1 → pre.length < l.length + 1 → YieldAt Fence.wide (n - 1) Try.prog l' (stArgs x) W1 fun e W' =>
      (e = .returned (.bool true) ∧ J (pre ++ [x]) W' ∧ Kept w0.heap.size bb W1 W') ∨ (e = .returned (.bool false) ∧ Jx (pre ++ [x]) W'))
    (h0 : J [] W) :
    CallsIn Fence.wide n Try.prog 151 #[.func (.yield l') #[] #[], .pointer (some ⟨Bs, 0, none⟩)] W fun e W' => (∃ v, e = .returned v) ∧
      ((∃ ys, ys = statesIx l ∧ J ys W') ∨ (∃ pre, pre <+: statesIx l ∧ Jx pre W')) := by
  have hl8 := (valid_all hv).2.1
  have hl1 := (valid_all hv).2.2
  refine callsIn_of_wp Try.func151 rfl trivial ?_ rfl
  simp only [Try.ntmps151, List.size_toArray, List.length_cons, List.length_nil, Nat.reduceAdd, Nat.reduceSub, Array.replicate_succ, Array.replicate_zero, List.push_toArray, List.append_toArray, List.nil_append, List.cons_append]
  have HN := Lib.hid hN
  have HBs := Lib.hid hBs
  have HV := Lib.hid hv
  have HJ : Hid (AbidesFrom W.heap.size J) := hJ
  have HK0 : Hid (Kept w0.heap.size bb w0 W) := hK0
  have HY : Hid (∀ pre x W1, J pre W1 → pre.length < l.length + 1 → YieldAt Fence.wide (n - 1) Try.prog l' (stArgs x) W1 fun e W' => ∃ b : Bool, e = .returned (.bool b) ∧ YP J Jx (Kept w0.heap.size bb) (pre ++ [x]) W1 b W') := fun pre x W1 h1 h2 => by
    obtain ⟨fn, tmps, assign, body, hy, hR⟩ := hY pre x W1 h1 h2
    refine ⟨fn, tmps, assign, body, hy, hR.mono ?_⟩
    rintro e W3 (⟨rfl, h3, h4⟩ | ⟨rfl, h3⟩)
    · exact ⟨true, rfl, h3, h4⟩
    · exact ⟨false, rfl, h3⟩
  have c0 : W.cell? ⟨Bs, 0, none⟩ = some (.slice (some ⟨g, 0, none⟩) l.length l.length) := (hK0.row hBs hBs.lt hBsb (by decide)).cell 0
  have hz : ((l.length : Int) == 0) = false := by rw [beq_eq_false_iff_ne]; omega
  obtain ⟨fn, tmps, assign, body, hy, hR⟩ := HY.out [] [] W h0 (by simp)
  have hy' : (Instr.yield l' #[.agg #[.bool false, .bool false, .bool false, .bool false, .bool false, .bool false, .bool false, .bool false]]).run Try.prog W = .ok (.round l' fn tmps assign body) W := hy
  have HR := Lib.hid hR
  clear hN hBs hv hJ hK0 hY hy hR
  gi_wp2
  refine HR.out.mono ?_
  rintro e W1 ⟨b, rfl, hyp⟩
  cases b with
  | false =>
    have HX := Lib.hid hyp.no
    clear hyp
    gi_wp2
    refine bodyPost_ret (results_none rfl _ _ _) rfl ?_
    refine ⟨⟨_, rfl⟩, .inr ⟨_, ?_, HX.out⟩⟩
    exact ⟨(List.range l.length).map (rp l), rfl⟩
  | true =>
    have HJ1 := Lib.hid hyp.yes.1
    have HK1 := Lib.hid (HK0.out.trans hyp.yes.2)
    have c1 : W1.cell? ⟨Bs, 0, none⟩ = some (.slice (some ⟨g, 0, none⟩) l.length l.length) := (HK1.out.row HBs.out HBs.out.lt hBsb (by decide)).cell 0
    clear hyp HR hy' c0
    gi_wp2
    gi_loopw [16] (fun i wr => ∃ k : Nat, k ≤ l.length ∧ i = .int .i64 k ∧ Hid (J ((statesIx l).take (k + 1)) wr) ∧ Hid (Kept w0.heap.size bb w0 wr))
      (fun i _ => l.length - (intOf i).toNat)
    case atStart => exact ⟨0, Nat.zero_le _, rfl, HJ1, HK1⟩
    case round =>
      obtain ⟨k, hk, rfl, HJk, HKk⟩ := hrel
      clear HJ1 HK1 c1
      have hk0 : (0 : Int) ≤ (k : Int) := Int.natCast_nonneg _
      by_cases hlt : k < l.length
      · have hlt' : (k : Int) < (l.length : Int) := by omega
        have HNk := Lib.hid (HN.out wr HKk.out)
        obtain ⟨cs, hrow, _, hci⟩ := HNk.out.row
        have gk : wr.cell? ⟨g, k, none⟩ = some (.pointer (some ⟨nb k, 0, none⟩)) := by rw [hrow.cell]; exact hci k hlt
        have cB : wr.cell? ⟨Bs, 0, none⟩ = some (.slice (some ⟨g, 0, none⟩) l.length l.length) := (HKk.out.row HBs.out HBs.out.lt hBsb (by decide)).cell 0
        clear hrow hci
        gi_wp2_with fail
        refine ⟨trivial, ?_⟩
        gi_at_call 152
        refine (callsIn_wide.2 (pathState_any B g k l nb cv _ HNk.out HV.out hlt)).mono ?_
        rintro e w2 ⟨rfl, hb2⟩
        have hJ2 : J ((statesIx l).take (k + 1)) w2 := HJ.out _ wr w2 none HJk.out (grownBy_of_below hb2) (fun r e => by cases e)
        obtain ⟨fn2, tmps2, assign2, body2, hy2, hR2⟩ := HY.out ((statesIx l).take (k + 1)) (rp l k) w2 hJ2 (by rw [List.length_take]; omega)
        unfold stArgs at hy2
        have HR2 := Lib.hid hR2
        have HK2 : Hid (Kept w0.heap.size bb w0 w2) := HKk.out.trans (Kept.of_below hb2)
        have HT := Lib.hid (states_at (l := l) hlt)
        clear hR2 hJ2 hb2
        gi_wp2
        refine HR2.out.mono ?_
        rintro e W3 ⟨b, rfl, hyp⟩
        cases b with
        | false =>
          have HX := Lib.hid hyp.no
          clear hyp
          gi_wp2
          refine bodyPost_ret (results_none rfl _ _ _) rfl ?_
          refine ⟨⟨_, rfl⟩, .inr ⟨_, ?_, HX.out⟩⟩
          rw [← HT.out]
          exact List.take_prefix _ _
        | true =>
          have HJ3 : Hid (J ((statesIx l).take (k + 1 + 1)) W3) := by
            show J _ _
            rw [HT.out]
            exact hyp.yes.1
          have HK3 := Lib.hid (HK2.out.trans hyp.yes.2)
          clear hyp hy2
          gi_wp2
          go_roundw
          case rel => exact ⟨k + 1, by omega, by simp, HJ3, HK3⟩
          case measure => simp [intOf]; omega
      · obtain rfl : k = l.length := by omega
        gi_wp2
        go_end0
        refine ⟨⟨_, rfl⟩, .inl ⟨_, rfl, ?_⟩⟩
        have h1 := HJk.out
        rw [List.take_of_length_le (by rw [states_len]; omega)] at h1
        exact h1

theorem states_stops (n : Nat) (hn : 1 ≤ n) (Bs bb B g : Nat) (l : List Seg) (nb : Nat → Nat) (cv : Nat → Value) (hv : validB l = true) (w : World) (hN : Nodes w B g l.length l.length l nb cv) (hbb : ∀ q, B ≤ q → q < w.heap.size → q ≠ bb) (hBs : Row w Bs 65 #[.slice (some ⟨g, 0, none⟩) l.length l.length]) (hBsb : Bs ≠ bb) :
    SeqStopsK Fence.wide n Try.prog 151 #[.pointer (some ⟨Bs, 0, none⟩)] stArgs (Kept w.heap.size bb) (fun ys => ys = statesIx l) (fun pre => pre <+: statesIx l) (statesIx l).length w := fun l' J Jx W hW hJ _ hY h0 =>
  states1_in n hn l' Bs bb B g l nb cv hv w (fun W' hk => hN.kept hk hbb (Nat.le_refl _)) hBs hBsb J Jx W (Kept.of_below hW) hJ (fun pre x W1 h1 h2 => hY pre x W1 h1 (by rw [states_len]; exact h2)) h0

theorem Kept.less {n₀ n₁ bb : Nat} {A B : World} (h : Kept n₀ bb A B) (hn : n₁ ≤ n₀) : Kept n₁ bb A B := fun k o h1 h2 h3 h4 => h k o (Nat.lt_of_lt_of_le h1 hn) h2 h3 h4
/-- The same where the block that a round may write is younger than the nodes. -/
theorem states_stops2 (n : Nat) (hn : 1 ≤ n) (Bs bb B g : Nat) (l : List Seg) (nb : Nat → Nat) (cv : Nat → Value) (hv : validB l = true) (w0 w : World) (hN : Nodes w0 B g l.length l.length l nb cv) (hw : Below w0.heap.size w0 w) (hbb : w0.heap.size ≤ bb) (hBs : Row w Bs 65 #[.slice (some ⟨g, 0, none⟩) l.length l.length]) (hBsb : Bs ≠ bb) :
    SeqStopsK Fence.wide n Try.prog 151 #[.pointer (some ⟨Bs, 0, none⟩)] stArgs (Kept w.heap.size bb) (fun ys => ys = statesIx l) (fun pre => pre <+: statesIx l) (statesIx l).length w := fun l' J Jx W hW hJ _ hY h0 =>
  states1_in n hn l' Bs bb B g l nb cv hv w (fun W' hk => hN.kept ((Kept.of_below hw).trans (hk.less hw.size)) (fun q _ hq => by omega) (Nat.le_refl _)) hBs hBsb J Jx W (Kept.of_below hW) hJ (fun pre x W1 h1 h2 => hY pre x W1 h1 (by rw [states_len]; exact h2)) h0

set_option maxRecDepth 100000 in
set_option maxHeartbeats 1000000 in
theorem states1_nil_in (n : Nat) (l' Bs : Nat) (J : List (List Nat) → World → Prop) (W : World) (hBs : W.cell? ⟨Bs, 0, none⟩ = some (.slice none 0 0)) (h0 : J [] W) :
    CallsIn Fence.wide n Try.prog 151 #[.func (.yield l') #[] #[], .pointer (some ⟨Bs, 0, none⟩)] W fun e W' => (∃ v, e = .returned v) ∧ J [] W' := by
  refine callsIn_of_wp Try.func151 rfl trivial ?_ rfl
  simp only [Try.ntmps151, List.size_toArray, List.length_cons, List.length_nil, Nat.reduceAdd, Nat.reduceSub, Array.replicate_succ, Array.replicate_zero, List.push_toArray, List.append_toArray, List.nil_append, List.cons_append]
  gi_wp2
  refine ⟨(fun f h => by cases h), ?_⟩
  gi_wp2
  refine bodyPost_ret (results_none rfl _ _ _) rfl ?_
  exact ⟨⟨_, rfl⟩, h0⟩
theorem states_stops_nil (n : Nat) (Bs bb : Nat) (w : World) (hBs : Row w Bs 65 #[.slice none 0 0]) :
    SeqStopsK Fence.wide n Try.prog 151 #[.pointer (some ⟨Bs, 0, none⟩)] stArgs (Kept w.heap.size bb) (fun ys => ys = []) (fun pre => pre <+: []) 0 w := fun l' J Jx W hW _ _ _ h0 => by
  refine (states1_nil_in n l' Bs J W ((hBs.below hW hBs.lt).cell 0) h0).mono ?_
  rintro e W' ⟨hv, h1⟩
  exact ⟨hv, .inl ⟨[], rfl, h1⟩⟩

set_option maxRecDepth 100000 in
set_option maxHeartbeats 400000 in
theorem statesOf_any (a : Option Addr) (len cap : Nat) (w : World) :
    Calls Try.prog 128 #[.slice a len cap] w fun e w' => e = .returned (.func (.func 151) #[] #[.pointer (some ⟨w.heap.size, 0, none⟩)]) ∧ w' = w.alloc (.cells #[.slice a len cap] 65) := by
  go_enter Try.func128, Try.ntmps128
  go_wp2
  go_ret
  exact ⟨rfl, rfl⟩

end Go.Proofs.Ytbmfjfhmdpmlbaa
