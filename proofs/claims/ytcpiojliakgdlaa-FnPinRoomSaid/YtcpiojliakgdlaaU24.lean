/- Joined: Jj Jd Jk Jm Nh Ed Ee. -/
import Derived.Test.YtcpiojliakgdlaaU22
import Derived.Test.YtcpiojliakgdlaaU23
import Derived.Test.YtcpiojliakgdlaaU21
import Derived.OrdersIn
import Derived.Test.YtcpiojliakgdlaaU17
import Derived.Test.YtcpiojliakgdlaaU18
/- The program's ways: an iterator over a queue that it makes longer itself. -/
namespace Go.Proofs.Ytcpiojliakgdlaa
open Go.RowKit Go.Shelf
attribute [local go_sem] Oper.semAt_some

end Go.Proofs.Ytcpiojliakgdlaa
/- The reference: what is reached, sorted by the tree, and what is live. -/
namespace Go.Proofs.Ytcpiojliakgdlaa
open Go.RowKit

end Go.Proofs.Ytcpiojliakgdlaa
/- What the iterator of ways keeps in memory between rounds. -/
namespace Go.Proofs.Ytcpiojliakgdlaa
open Go.RowKit Go.Shelf
attribute [local go_sem] Oper.semAt_some

/-- A box of one cell below 'n₀', or from 'D' on. -/
def BoxA (X : World) (n₀ D Bs : Nat) (v : Value) (t : TypeId) : Prop := (Bs < n₀ ∨ D ≤ Bs) ∧ Row X Bs t #[v]
theorem BoxA.cell {X : World} {n₀ D Bs : Nat} {v : Value} {t : TypeId} (h : BoxA X n₀ D Bs v t) : X.cell? ⟨Bs, 0, none⟩ = some v := h.2.cell 0
/-- What a yield leaves, by its answer. -/
def YM {α : Type} (J Jx : List α → World → Prop) (n₀ D B : Nat) (xs : List α) (W1 W' : World) : Bool → Prop
  | true => J xs W' ∧ Below n₀ W1 W' ∧ KeepsA D W1 W'
  | false => Jx xs W' ∧ KeepsA B W1 W'
theorem yieldYM {α : Type} {m l : Nat} {args : Array Value} {W1 : World} {J Jx : List α → World → Prop} {n₀ D B : Nat} {xs : List α} (h : YieldAt Fence.wide m Try.prog l args W1 fun e W' =>
      (e = .returned (.bool true) ∧ J xs W' ∧ Below n₀ W1 W' ∧ KeepsA D W1 W') ∨ (e = .returned (.bool false) ∧ Jx xs W' ∧ KeepsA B W1 W')) :
    YieldAt Fence.wide m Try.prog l args W1 fun e W' => ∃ b, e = .returned (.bool b) ∧ YM J Jx n₀ D B xs W1 W' b := by
  obtain ⟨fn, tmps, assign, body, hy, hR⟩ := h
  refine ⟨fn, tmps, assign, body, hy, hR.mono ?_⟩
  rintro e W3 (⟨rfl, h3, h4, h5⟩ | ⟨rfl, h3, h4⟩)
  · exact ⟨true, rfl, h3, h4, h5⟩
  · exact ⟨false, rfl, h3, h4⟩

end Go.Proofs.Ytcpiojliakgdlaa
/- A region that draws its order, within a round of a range over a function: what may be taken first outside of a round may be taken first inside too, where nothing is deferred. -/
namespace Go.Proofs.Ytcpiojliakgdlaa
open Go.RowKit Go.Shelf

def noDefer (ops : Array Oper) : Bool := ops.all fun o => match o.op with
  | .defer _ => false
  | _ => true
theorem noDefer_spec {ops : Array Oper} (h : noDefer ops = true) : ∀ (j : Nat) (o : Oper), ops[j]? = some o → ∀ c, o.op ≠ .defer c := fun j o hj c hc => by
  unfold noDefer at h
  rw [Array.all_eq_true] at h
  obtain ⟨hlt, he⟩ := Array.getElem?_eq_some_iff.1 hj
  have h1 := h j hlt
  rw [he, hc] at h1
  cases h1
section
variable {F : Fence} {n : Nat} {P : Program} {Q : Exit → Act → World → Prop}
theorem oper_round (hF : F.round = none) (l : Nat) {o : Oper} (hd : ∀ c, o.op ≠ .defer c) {a : Act} {w : World} {K : Act → World → Prop} (h : o.wpIn F n P a w K Q) : o.wpIn (F.inRound l) n P a w K Q := by
  unfold Oper.wpIn at *
  rw [hF, Oper.semAt_none] at h
  refine ⟨h.1, ?_⟩
  rw [show (F.inRound l).round = some l from rfl, Oper.semAt_some l _ _ hd]
  have h2 := h.2
  generalize (execOp a.eval o).run P w = r at *
  cases r with
  | ok x w' => cases x <;> exact h2
  | halt x w' => cases x <;> exact h2
theorem op_round (hF : F.round = none) (l : Nat) {ops : Array Oper} (hd : ∀ (j : Nat) (o : Oper), ops[j]? = some o → ∀ c, o.op ≠ .defer c) {i : Nat} {a : Act} {w : World} {K : Act → World → Prop} (h : wpOpIn F n P ops Q i K a w) : wpOpIn (F.inRound l) n P ops Q i K a w := by
  unfold wpOpIn at *
  cases ho : ops[i]? with
  | none => rw [ho] at h; exact h
  | some o =>
    rw [ho] at h
    simp only at h ⊢
    split at h
    · rename_i hw
      rw [if_pos hw]
      exact oper_round hF l (hd i o ho) h
    · rename_i hw
      rw [if_neg hw]
      exact h
theorem any_round (hF : F.round = none) (l : Nat) {md : Region.Mode} {ops : Array Oper} (hd : noDefer ops = true) : ∀ (fuel : Nat) (listed : Array Bool) (a : Act) (w : World), wpAnyIn F n P md ops Q fuel listed a w → wpAnyIn (F.inRound l) n P md ops Q fuel listed a w
  | 0, _, _, _, h => h
  | fuel + 1, _, _, _, h => ⟨h.1, fun i hi => op_round hF l (noDefer_spec hd) (wpOpIn_mono (fun a w h => any_round hF l hd fuel _ a w h) (h.2 i hi))⟩
end

end Go.Proofs.Ytcpiojliakgdlaa
/- Sets of segments: what chapter 8 takes from them, and the iterator over their indices. -/
namespace Go.Proofs.Ytcpiojliakgdlaa
open Go.RowKit Go.Shelf
attribute [local go_sem] Oper.semAt_some

theorem setF_andNot (f g : Nat → Bool) : bits .andNot .u64 (setF f : Int) (setF g : Int) = (setF (fun j => f j && !g j) : Int) := by
  have h1 := setF_lt f
  have h2 := setF_lt g
  have h3 := setF_lt (fun j => f j && !g j)
  have e : ((BitVec.ofInt IntKind.u64.bits (setF f : Int)) &&& ~~~(BitVec.ofInt IntKind.u64.bits (setF g : Int))).toNat = setF (fun j => f j && !g j) := by
    apply Nat.eq_of_testBit_eq
    intro i
    show ((BitVec.ofInt 64 (setF f : Int)) &&& ~~~(BitVec.ofInt 64 (setF g : Int))).toNat.testBit i = _
    rw [BitVec.ofInt_natCast, BitVec.ofInt_natCast, BitVec.testBit_toNat, BitVec.getLsbD_and, BitVec.getLsbD_not, BitVec.getLsbD_ofNat, BitVec.getLsbD_ofNat, setF_bit, setF_bit, setF_bit]
    by_cases hi : i < 8
    · rw [decide_eq_true (show i < 64 by omega), decide_eq_true hi]; simp
    · rw [decide_eq_false hi]; simp
  show IntKind.u64.wrap (((BitVec.ofInt IntKind.u64.bits (setF f : Int)) &&& ~~~(BitVec.ofInt IntKind.u64.bits (setF g : Int))).toNat : Int) = _
  rw [e]
  exact IntWalk.u64_in _ (by omega)
theorem setF_one {i : Nat} (hi : i < 8) : 2 ^ i = setF (fun j => decide (j = i)) := by
  have : i = 0 ∨ i = 1 ∨ i = 2 ∨ i = 3 ∨ i = 4 ∨ i = 5 ∨ i = 6 ∨ i = 7 := by omega
  rcases this with rfl | rfl | rfl | rfl | rfl | rfl | rfl | rfl <;> rfl

set_option maxRecDepth 100000 in
set_option maxHeartbeats 400000 in
theorem setWithout_any (f : Nat → Bool) (i : Nat) (w : World) (hi : i < 8) :
    Calls Try.prog 136 #[.int .u64 (setF f : Int), .int .i64 (i : Int)] w fun e w' => e = .returned (.int .u64 (setF (fun j => f j && !decide (j = i)) : Int)) ∧ w = w' := by
  have H1 := Lib.hid (one_shl hi)
  have H2 := Lib.hid (setF_one hi)
  have H3 := Lib.hid (setF_andNot f (fun j => decide (j = i)))
  go_enter Try.func136, Try.ntmps136
  go_wp2
  go_ret
  exact ⟨ret_u64 (show bits .andNot .u64 (setF f : Int) (IntKind.u64.wrap ((2 : Int) ^ i)) = _ by rw [H1.out, H2.out, H3.out]), rfl⟩

theorem BoxA.keep {W W' : World} {n₀ D Bs : Nat} {v : Value} {t : TypeId} (h : BoxA W n₀ D Bs v t) (hb : Below n₀ W W') (hk : KeepsA D W W') : BoxA W' n₀ D Bs v t :=
  ⟨h.1, by
    rcases h.1 with h1 | h1
    · exact (hb.block _ h1).trans h.2
    · exact hk.same _ _ h1 h.2⟩

set_option maxRecDepth 100000 in
set_option maxHeartbeats 2000000 in
theorem indices1_seq (n₀ D : Nat) (fix : Nat → Nat) (f : Nat → Bool) (hfx : ∀ x, x < 8 → f x = true → fix x = x) (Nn n Bs : Nat) (w : World) (hn₀ : n₀ ≤ w.heap.size) (hbs : BoxA w n₀ D Bs (.int .u64 (setF f : Int)) 113) (hNn : 8 ≤ Nn) :
    SeqM n 151 #[.pointer (some ⟨Bs, 0, none⟩)] (fun i : Nat => #[.int .i64 (fix i : Nat)]) n₀ D (fun ys => ys = selIx f 8) (fun ys => ys <+: selIx f 8) Nn w := by
  intro l' J Jx W hbW hDW hJ hJx hY h0
  have hn₀W : n₀ ≤ W.heap.size := Nat.le_trans hn₀ hbW.size
  have hBW : BoxA W n₀ D Bs (.int .u64 (setF f : Int)) 113 := ⟨hbs.1, (hbW.block _ hbs.2.lt).trans hbs.2⟩
  have HBW := Lib.hid hBW
  have HY : Hid (∀ pre x W1, J pre W1 → pre.length < Nn → W.heap.size ≤ W1.heap.size → YieldAt Fence.wide (n - 1) Try.prog l' #[.int .i64 (fix x : Nat)] W1 fun e W' => ∃ b, e = .returned (.bool b) ∧ YM J Jx n₀ D W.heap.size (pre ++ [x]) W1 W' b) := fun pre x W1 h1 h2 h3 => yieldYM (hY pre x W1 h1 h2 h3)
  have HJ0 : Hid (J [] W) := h0
  have HSX := Lib.hid (fun k => selIx_succ f k)
  have HSL : Hid (∀ k, k ≤ 8 → (selIx f k).length ≤ k) := fun k _ => by
    unfold selIx
    refine Nat.le_trans (List.length_filter_le _ _) ?_
    rw [List.length_range]
    exact Nat.le_refl _
  have HPF : Hid (∀ k, k ≤ 8 → selIx f k <+: selIx f 8) := fun k hk => by
    have h1 : ∀ d, selIx f k <+: selIx f (k + d) := fun d => by
      induction d with
      | zero => exact List.prefix_refl _
      | succ d ih =>
        rw [← Nat.add_assoc, selIx_succ]
        exact ih.trans (List.prefix_append _ _)
    have := h1 (8 - k)
    rwa [show k + (8 - k) = 8 by omega] at this
  clear hY h0 hJ hJx hbW hbs hBW
  refine callsIn_of_wp Try.func151 rfl trivial ?_ rfl
  simp only [Try.ntmps151, List.size_toArray, List.length_cons, List.length_nil, Nat.reduceAdd, Nat.reduceSub, Array.replicate_succ, Array.replicate_zero, List.push_toArray, List.append_toArray, List.nil_append, List.cons_append]
  gi_wp2
  gi_loopw [4] (fun i wr => ∃ k : Nat, k ≤ 8 ∧ i = .int .i64 k ∧ Hid (J (selIx f k) wr) ∧ Hid (Below n₀ W wr) ∧ Hid (KeepsA D W wr))
    (fun i _ => 8 - (intOf i).toNat)
  case atStart => exact ⟨0, Nat.zero_le _, rfl, HJ0, Below.refl _ _, KeepsA.refl _ _⟩
  case round =>
    obtain ⟨k, hk, rfl, HJk, HBk, HKk⟩ := hrel
    have hk0 : (0 : Int) ≤ (k : Int) := Int.natCast_nonneg _
    by_cases hlt : k < 8
    · have hlt' : (k : Int) < 8 := by omega
      have cB : wr.cell? ⟨Bs, 0, none⟩ = some (.int .u64 (setF f : Int)) := (HBW.out.keep HBk.out HKk.out).cell
      have HHA := Lib.hid (has_any f k wr hlt)
      cases hf : f k with
      | false =>
        have HS1 : Hid (selIx f (k + 1) = selIx f k) := by
          show _ = _
          rw [HSX.out k, hf]
          exact List.append_nil _
        rw [hf] at HHA
        gi_wp2_with fail
        refine ⟨trivial, fun h => by simp [Fence.wide] at h, ?_⟩
        refine (callsIn_wide.2 HHA.out).mono ?_
        rintro e w2 ⟨rfl, rfl⟩
        gi_wp2
        refine ⟨fun _ h => (nomatch h), ?_⟩
        gi_wp2
        go_roundw
        case rel => exact ⟨k + 1, by omega, by go_num, by rw [HS1.out]; exact HJk, HBk, HKk⟩
        case measure => simp [intOf]; omega
      | true =>
        have HS1 : Hid (selIx f (k + 1) = selIx f k ++ [k]) := by
          show _ = _
          rw [HSX.out k, hf]
          rfl
        rw [hf] at HHA
        have hyk := HY.out (selIx f k) k wr HJk.out (by have := HSL.out k hk; omega) HKk.out.size
        rw [hfx k hlt hf, ← HS1.out] at hyk
        obtain ⟨fn, tmps, assign, body, hy, hR⟩ := hyk
        have HR := Lib.hid hR
        clear hR
        gi_wp2_with fail
        refine ⟨trivial, fun h => by simp [Fence.wide] at h, ?_⟩
        refine (callsIn_wide.2 HHA.out).mono ?_
        rintro e w2 ⟨rfl, rfl⟩
        gi_wp2
        refine ⟨fun h => by simp [Fence.wide] at h, HR.out.mono ?_⟩
        rintro e W3 ⟨b, rfl, hyp⟩
        cases b with
        | false =>
          have HX := Lib.hid hyp.1
          clear hyp
          gi_wp2
          refine bodyPost_ret (results_none rfl _ _ _) rfl ?_
          exact ⟨⟨_, rfl⟩, .inr ⟨_, HPF.out (k + 1) hlt, HX.out⟩⟩
        | true =>
          have HJ3 := Lib.hid hyp.1
          have HB3 := Lib.hid (HBk.out.trans hyp.2.1)
          have HK3 := Lib.hid (HKk.out.trans hyp.2.2)
          clear hyp hy
          gi_wp2
          go_roundw
          case rel => exact ⟨k + 1, by omega, by go_num, HJ3, HB3, HK3⟩
          case measure => simp [intOf]; omega
    · obtain rfl : k = 8 := by omega
      gi_wp2
      go_end0
      refine ⟨⟨_, rfl⟩, .inl ⟨_, rfl, HJk.out⟩⟩

end Go.Proofs.Ytcpiojliakgdlaa
/- The program: which pins are valid. -/
namespace Go.Proofs.Ytcpiojliakgdlaa
open Go.RowKit Go.Shelf

theorem namesAt_size8 {l : List Seg} (hv : validB l = true) {js : List Nat} (hj : ∀ j ∈ js, j < l.length) : (namesAt l js).size = js.length := by
  have h1 := congrArg List.length (namesAt_map hv js hj)
  simpa using h1

set_option maxRecDepth 100000 in
set_option maxHeartbeats 2000000 in
theorem setNames10_any (B g : Nat) (l : List Seg) (nb : Nat → Nat) (cv : Nat → Value) (f : Nat → Bool) (w : World) (h : Nodes w B g l.length l.length l nb cv) (hv : validB l = true) :
    Calls Try.prog 137 #[.int .u64 (setF f : Int), .slice (some ⟨g, 0, none⟩) l.length l.length] w fun e w' => e = .returned (.string (namesAt l (selIx f l.length))) ∧ Below w.heap.size w w' := by
  have HN := Lib.hid h
  have HV := Lib.hid hv
  have h8 := (valid_all hv).2.1
  clear h hv
  go_enter Try.func137, Try.ntmps137
  go_wp2
  have hI0 : Lib.IsBuilderF 90 5 w.heap.size w.heap.size (Lib.byteCells (namesAt l (selIx f 0)).data.toList) (w.alloc (.cells #[.pointer none, .slice none 0 0] 90)) :=
    Lib.IsBuilderF.of (Lib.fresh_isBuilder 90 5 w)
  have hB0 : Below w.heap.size w (w.alloc (.cells #[.pointer none, .slice none 0 0] 90)) := (Below.refl _ w).alloc (Nat.le_refl _) _
  go_loopw [10] (fun i wr => ∃ k : Nat, k ≤ l.length ∧ i = .int .i64 k ∧ Hid (Lib.IsBuilderF 90 5 w.heap.size w.heap.size (Lib.byteCells (namesAt l (selIx f k)).data.toList) wr) ∧ Hid (Below w.heap.size w wr))
    (fun i _ => l.length - (intOf i).toNat)
  case atStart => exact ⟨0, Nat.zero_le _, rfl, hI0, hB0⟩
  case round =>
    clear hI0 hB0
    obtain ⟨k, hk, rfl, HI, HB⟩ := hrel
    have hk0 : (0 : Int) ≤ (k : Int) := Int.natCast_nonneg _
    have hbz := HB.out.size
    have hbw : w.heap.size < wr.heap.size := by
      obtain ⟨cb, hcb⟩ := builder_cells HI.out
      exact (Array.getElem?_eq_some_iff.1 hcb).1
    by_cases hlt : k < l.length
    · have hlt' : (k : Int) < (l.length : Int) := by omega
      obtain ⟨cs, hrow, _, hci⟩ := HN.out.row
      have gk : wr.cell? ⟨g, k, none⟩ = some (.pointer (some ⟨nb k, 0, none⟩)) := by
        rw [HB.out.cell (p := ⟨g, k, none⟩) hrow.lt, hrow.cell]
        exact hci k hlt
      have hnk := HN.out.node k _ hlt (List.getElem?_eq_getElem hlt)
      have nk : wr.cell? ⟨nb k, 0, none⟩ = some (.string l[k].name) := (HB.out.cell (p := ⟨nb k, 0, none⟩) hnk.lt).trans (hnk.cell 0)
      clear hrow hci hnk
      have HS := Lib.hid (selIx_succ f k)
      go_wp2_with fail
      refine (has_any f k _ (by omega)).mono ?_
      cases hf : f k with
      | false =>
        have HS1 : Hid (selIx f (k + 1) = selIx f k) := by
          show _ = _
          rw [HS.out, if_neg (by rw [hf]; decide), List.append_nil]
        have HI1 : Hid (Lib.IsBuilderF 90 5 w.heap.size w.heap.size (Lib.byteCells (namesAt l (selIx f (k + 1))).data.toList) wr) := by
          show Lib.IsBuilderF _ _ _ _ _ _
          rw [HS1.out]
          exact HI.out
        clear hf
        rintro e w1 ⟨rfl, rfl⟩
        go_wp2
        go_roundw
        case rel => exact ⟨k + 1, by omega, by go_num, HI1, HB⟩
        case measure => simp [intOf]; omega
      | true =>
        rintro e w1 ⟨rfl, rfl⟩
        have hlen : (Lib.byteCells (namesAt l (selIx f k)).data.toList).length = (namesAt l (selIx f k)).size := by simp [Lib.byteCells]
        have HS1 : Hid (Lib.byteCells (namesAt l (selIx f (k + 1))).data.toList = Lib.byteCells (namesAt l (selIx f k)).data.toList ++ Lib.strCells l[k].name) := by
          show _ = _
          rw [HS.out, if_pos hf, namesAt_snoc _ hlt, ByteArray.data_append, Array.toList_append]
          simp [Lib.byteCells, Lib.strCells]
        have hz1 := valid_names HV.out _ (List.getElem_mem hlt)
        have hz2 := namesAt_len (valid_names HV.out) (selIx f k)
        have hz3 := selIx_len f k
        have hl1 : (Lib.byteCells (namesAt l (selIx f k)).data.toList).length + l[k].name.size ≤ 140737488355328 := by omega
        clear hz2 hz3 hf hlen
        generalize l[k].name = nm at *
        go_wp2_with fail
        refine (writeString_any w.heap.size w.heap.size _ nm _ HI.out hl1 (by omega)).mono ?_
        rintro e w2 ⟨rfl, hI1, hb1, hk1⟩
        have HI1 : Hid (Lib.IsBuilderF 90 5 w.heap.size w.heap.size (Lib.byteCells (namesAt l (selIx f (k + 1))).data.toList) w2) := by
          show Lib.IsBuilderF _ _ _ _ _ _
          rw [HS1.out]
          exact hI1
        have HB1 := Lib.hid (HB.out.trans (hb1.mono (by omega)))
        clear hI1 hb1 hk1 gk nk
        go_wp2
        go_roundw
        case rel => exact ⟨k + 1, by omega, by go_num, HI1, HB1⟩
        case measure => simp [intOf]; omega
    · obtain rfl : k = l.length := by omega
      go_wp2_with fail
      refine (Try.Builder_String_any_k w.heap.size w.heap.size _ _ HI.out (by omega)).mono ?_
      rintro e w2 ⟨rfl, hI1, hb1, hk1⟩
      have HB1 := Lib.hid (HB.out.trans (hb1.mono (by omega)))
      clear hI1 hb1 hk1
      go_wp2
      go_ret
      exact ⟨rfl, HB1.out⟩


set_option maxRecDepth 100000 in
set_option maxHeartbeats 400000 in
theorem pinsIn_any (B g : Nat) (l : List Seg) (nb : Nat → Nat) (cv : Nat → Value) (f : Nat → Bool) (w : World) (h : Nodes w B g l.length l.length l nb cv) (hv : validB l = true) :
    Calls Try.prog 96 #[.int .u64 (setF f : Int), .slice (some ⟨g, 0, none⟩) l.length l.length] w fun e w' => e = .returned (.string (namesAt l (selIx (fun j => f j && !decide (j = 0)) l.length))) ∧ Below w.heap.size w w' := by
  have HW := Lib.hid (fun W => setWithout_any f 0 W (by decide))
  have HN := Lib.hid (setNames10_any B g l nb cv (fun j => f j && !decide (j = 0)) w h hv)
  clear h hv
  generalize namesAt l (selIx (fun j => f j && !decide (j = 0)) l.length) = z at *
  generalize (setF (fun j => f j && !decide (j = 0)) : Int) = y at *
  go_enter Try.func96, Try.ntmps96
  go_wp2_with fail
  refine (HW.out _).mono ?_
  rintro e w1 ⟨rfl, rfl⟩
  go_wp2_with fail
  refine Calls.mono HN.out ?_
  rintro e w2 ⟨rfl, hb2⟩
  go_wp2
  go_ret
  exact ⟨rfl, hb2⟩

set_option maxRecDepth 100000 in
set_option maxHeartbeats 400000 in
theorem findPins_bad (s : ByteArray) (w : World) (hs : s.size ≤ 1048576) :
    Calls Try.prog 92 #[.slice none 0 0, .string s] w fun e w' => e = .returned (.tuple #[.int .u64 0, .bool false]) ∧ w = w' := by
  have hnil := fun (W : World) (a : Option Addr) (n c : Nat) => Lib.run_eql_slice_nil (P := Try.prog) W 61 72 a n c 0 0 Try.underlying61
  have HB := Lib.hid (nodesNamed_bad s w hs)
  generalize decide (s.size = 0) = d at *
  clear hs
  go_enter Try.func92, Try.ntmps92
  go_wp2_with fail
  refine Calls.mono HB.out ?_
  rintro e w1 ⟨rfl, rfl⟩
  go_wp2
  go_ret2
  exact ⟨rfl, rfl⟩

theorem ret_stay10 {a b : Nat} {x y : Bool} (h : a = b) (k : x = y) : Ending.returned (.tuple #[.int .u64 (a : Int), .bool x]) = .returned (.tuple #[.int .u64 (b : Int), .bool y]) := by rw [h, k]
/-- What stays, as a set, where a text tells pins; else none. -/
def stay10 (l : List Seg) (s : ByteArray) : Nat := if pinOk10 l s = true then setF (memF (0 :: pinT10 l s)) else 0
theorem setF_root10 (js : List Nat) : setF (fun j => memF js j || decide (j = 0)) = setF (memF (0 :: js)) := by
  apply setF_congr
  intro j _
  unfold memF
  by_cases h : j = 0
  · simp [h]
  · simp [h]

set_option maxRecDepth 100000 in
set_option maxHeartbeats 1000000 in
theorem findPins_any (B g : Nat) (l : List Seg) (nb : Nat → Nat) (cv : Nat → Value) (s : ByteArray) (w : World) (h : Nodes w B g l.length l.length l nb cv) (hv : validB l = true) (hs : s.size ≤ 1048576) :
    Calls Try.prog 92 #[.slice (some ⟨g, 0, none⟩) l.length l.length, .string s] w fun e w' => e = .returned (.tuple #[.int .u64 (stay10 l s : Int), .bool (pinOk10 l s)]) ∧ Below w.heap.size w w' := by
  have hnil := fun (W : World) (a : Option Addr) (n c : Nat) => Lib.run_eql_slice_nil (P := Try.prog) W 61 72 a n c 0 0 Try.underlying61
  have HNN := Lib.hid (nodesNamed_any B g l nb cv s w h hv hs)
  have HN := Lib.hid h
  have HV := Lib.hid hv
  have HPI := Lib.hid (pins_impl10 hv s)
  unfold NamedEither NamedPost at HNN
  have hl0 : ¬ l.length = 0 := by have := (valid_all hv).2.2; omega
  have hjl : (namedJs l s.data.toList).length ≤ 1048576 := by
    unfold namedJs
    rw [List.length_map]
    exact (show s.size ≤ 1048576 from hs)
  have HPS : Hid (pinOk10 l s = true → setF (fun j => memF (namedJs l s.data.toList) j || decide (j = 0)) = stay10 l s) := fun hp => by
    unfold stay10
    rw [if_pos hp, setF_root10, pin_set10 hp]
  have HNO : Hid (pinOk10 l s = false → stay10 l s = 0) := fun hp => if_neg (by rw [hp]; decide)
  have HSO := Lib.hid (fun v B2 W h (hok : namedOk l s.data.toList = true) ho => setOf_any B g l nb cv (namedJs l s.data.toList) v B2 W h hv (namedJs_lt hok) hjl ho)
  have HWI := Lib.hid (fun W => with_any (memF (namedJs l s.data.toList)) 0 W (by decide))
  have HPN := Lib.hid (fun W h => pinsIn_any B g l nb cv (fun j => memF (namedJs l s.data.toList) j || decide (j = 0)) W h hv)
  have HKE : Hid (namesAt l (selIx (fun j => (memF (namedJs l s.data.toList) j || decide (j = 0)) && !decide (j = 0)) l.length) = namesAt l (selIx (kept10 (namedJs l s.data.toList)) l.length)) := rfl
  rw [HKE.out] at HPN
  clear h hv hjl HKE
  generalize hok : namedOk l s.data.toList = ok at *
  have HOK := Lib.hid hok
  clear hok
  generalize namedJs l s.data.toList = js at *
  generalize namesAt l (selIx (kept10 js) l.length) = z at *
  generalize (setF (fun j => memF js j || decide (j = 0))) = y at *
  generalize pinOk10 l s = p at *
  go_enter Try.func92, Try.ntmps92
  go_wp2_with fail
  refine Calls.mono HNN.out ?_
  rintro e w1 (⟨rfl, v, rfl, hown, hb1⟩ | ⟨rfl, rfl, hb1⟩)
  · have HO := Lib.hid hown
    have HB1 := Lib.hid hb1
    have HP : Hid (sameB z s = p) := by
      have := HPI.out
      rw [Bool.true_and] at this
      exact this
    obtain ⟨A4, n4, c4, rfl⟩ : ∃ A4 n4 c4, v = .slice A4 n4 c4 := by
      rcases hown.2 with ⟨h, _⟩ | ⟨g4, cap4, _, h, _⟩
      · exact ⟨_, _, _, h⟩
      · exact ⟨_, _, _, h⟩
    clear hown hb1 HNN HPI
    go_wp2_with fail
    refine (HSO.out _ _ _ (HN.out.below HB1.out) trivial HO.out).mono ?_
    rintro e w2 ⟨rfl, rfl⟩
    go_wp2_with fail
    refine (HWI.out _).mono ?_
    rintro e w2 ⟨rfl, rfl⟩
    go_wp2_with fail
    refine (HPN.out _ (HN.out.below HB1.out)).mono ?_
    rintro e w3 ⟨rfl, hb3⟩
    have HB3 := Lib.hid (HB1.out.trans (hb3.mono HB1.out.size))
    clear hb3 HSO HWI HPN HO
    cases hp : p with
    | false =>
      subst hp
      have hz : (z.toList == s.toList) = false := HP.out
      have HE := Lib.hid (HNO.out rfl)
      go_wp2
      go_ret2
      exact ⟨ret_stay10 HE.out.symm rfl, HB3.out⟩
    | true =>
      subst hp
      have hz : (z.toList == s.toList) = true := HP.out
      have HE := Lib.hid (HPS.out rfl)
      go_wp2
      go_ret2
      exact ⟨ret_stay10 HE.out rfl, HB3.out⟩
  · have HP : Hid (p = false) := by
      have := HPI.out
      rw [Bool.false_and] at this
      exact this.symm
    have HE := Lib.hid (HNO.out HP.out)
    clear HNN HPI
    go_wp2
    go_ret2
    exact ⟨ret_stay10 HE.out.symm HP.out.symm, hb1⟩

set_option maxRecDepth 100000 in
set_option maxHeartbeats 400000 in
theorem pinsValid_any (A : Option Addr) (l : List Seg) (c : Nat) (s : ByteArray) (w : World) (hw : Segs w w.heap.size A l) (hl : l.length ≤ 1048576) (hlc : l.length ≤ c) (hcm : c ≤ 9223372036854775807) (hn : Short l) (hs : s.size ≤ 1048576) :
    Calls Try.prog 41 #[.slice A l.length c, .string s] w fun e w' => e = .returned (.bool (pinOk10 l s)) ∧ Below w.heap.size w w' := by
  have HW : Hid (Segs w w.heap.size A l) := hw
  clear hw
  cases hv : validB l with
  | false =>
    have HF := Lib.hid (pinOk10_bad s hv)
    have HFB := Lib.hid (fun W => findPins_bad s W hs)
    go_enter Try.func41, Try.ntmps41
    go_wp2_with fail
    refine (nodesOf_bad _ _ _ _ HW.out hl hlc hcm hn hv).mono ?_
    rintro e w1 ⟨rfl, hb1⟩
    clear hv
    go_wp2_with fail
    refine (HFB.out _).mono ?_
    rintro e w2 ⟨rfl, rfl⟩
    go_wp2
    go_ret
    exact ⟨ret_bool HF.out.symm, hb1⟩
  | true =>
    have HFP := Lib.hid (fun B g nb cv W h => findPins_any B g l nb cv s W h hv hs)
    have HNO := Lib.hid (fun W h => nodesOf_any A l c W h hl hlc hcm hn hv)
    generalize pinOk10 l s = p at *
    generalize (stay10 l s : Int) = y at *
    clear hv hn
    go_enter Try.func41, Try.ntmps41
    go_wp2_with fail
    refine (HNO.out _ HW.out).mono ?_
    rintro e w1 ⟨g, nb, cv, rfl, hN, hb1⟩
    have HN := Lib.hid hN
    clear hN
    go_wp2_with fail
    refine (HFP.out _ _ _ _ _ HN.out).mono ?_
    rintro e w2 ⟨rfl, hb2⟩
    have B2 := hb1.trans (hb2.mono hb1.size)
    clear hb1 hb2
    go_wp2
    go_ret
    exact ⟨rfl, B2⟩

end Go.Proofs.Ytcpiojliakgdlaa
/- The program: the room of a tree in which segments stay. -/
namespace Go.Proofs.Ytcpiojliakgdlaa
open Go.RowKit Go.Shelf
attribute [local go_sem] Oper.semAt_some

set_option maxRecDepth 100000 in
set_option maxHeartbeats 400000 in
theorem indices10_any (f : Nat → Bool) (w : World) :
    Calls Try.prog 132 #[.int .u64 (setF f : Int)] w fun e w' => e = .returned (.func (.func 151) #[] #[.pointer (some ⟨w.heap.size, 0, none⟩)]) ∧ w' = w.alloc (.cells #[.int .u64 (setF f : Int)] 113) := by
  go_enter Try.func132, Try.ntmps132
  go_wp2
  go_ret
  exact ⟨rfl, rfl⟩

/-- What place reads of nodes whose sizes may have turned. -/
def Placed10 (w : World) (l : List Seg) (sz : Nat → Int) (nb : Nat → Nat) : Prop := ∀ j, j < l.length → nb j < w.heap.size ∧ w.cell? ⟨nb j, 1, none⟩ = some (.int .i64 (sz j)) ∧ w.cell? ⟨nb j, 2, none⟩ = some (.pointer (parPtr l nb j))
theorem Placed10.below {w w' : World} {l : List Seg} {sz : Nat → Int} {nb : Nat → Nat} (h : Placed10 w l sz nb) (hb : Below w.heap.size w w') : Placed10 w' l sz nb := fun j hj => by
  obtain ⟨h1, h2, h3⟩ := h j hj
  exact ⟨Nat.lt_of_lt_of_le h1 hb.size, (hb.cell (p := ⟨nb j, 1, none⟩) h1).trans h2, (hb.cell (p := ⟨nb j, 2, none⟩) h1).trans h3⟩
/-- Sizes of 0 to 99. -/
def Small10 (l : List Seg) (sz : Nat → Int) : Prop := ∀ j, j < l.length → 0 ≤ sz j ∧ sz j ≤ 99

theorem run_end10 (a b : Int) (w : World) : (Instr.field 84 (.agg #[.int .i64 a, .int .i64 b]) 1).run Try.prog w = .ok (.int .i64 b) w := by kernel_rfl

set_option maxRecDepth 100000 in
set_option maxHeartbeats 400000 in
theorem place10_any (l : List Seg) (sz : Nat → Int) (nb : Nat → Nat) (hv : validB l = true) (hs : Small10 l sz) : ∀ i, i < l.length → ∀ w, Placed10 w l sz nb →
    Calls Try.prog 74 #[.pointer (some ⟨nb i, 0, none⟩)] w fun e w' => e = .returned (.agg #[.int .i64 (enZ10 l sz i - sz i), .int .i64 (enZ10 l sz i)]) ∧ Below w.heap.size w w' := by
  refine rp_ind (valid_all hv).1.down (fun i hi hp w hw => ?_) (fun i p hi hpi hp ih w hw => ?_)
  · obtain ⟨h1, c1, c2⟩ := hw i hi
    have hpp : parPtr l nb i = none := if_pos hp
    have HB : Hid (enZ10 l sz i - sz i = 0 ∧ enZ10 l sz i = sz i) := by
      have a := enZ10_root (sz := sz) hp
      exact ⟨by omega, a⟩
    obtain ⟨z1, z2⟩ := hs i hi
    rw [hpp] at c2
    clear hw hpp hp
    rw [HB.out.1, HB.out.2]
    generalize sz i = sx at *
    go_enter Try.func74, Try.ntmps74
    go_wp2
    refine bodyPost_ret (v := .agg #[.int .i64 0, .int .i64 sx]) (by simp [results, Try.results74, go_sem]) rfl ⟨rfl, ?_⟩
    repeat (first | exact Below.refl _ _ | refine Below.setCell ?_ (by simp) _ | refine Below.alloc ?_ (by simp; try omega) _)
  · obtain ⟨h1, c1, c2⟩ := hw i hi
    have hd := (valid_all hv).1.down i hi
    have hpp : parPtr l nb i = some ⟨nb p, 0, none⟩ := by
      unfold parPtr
      rw [if_neg (by omega), hp, Int.toNat_natCast]
    have HB : Hid (enZ10 l sz i - sz i = enZ10 l sz p ∧ enZ10 l sz i = enZ10 l sz p + sz i) := by
      have a := enZ10_step (sz := sz) (valid_all hv).1.down hi hp
      exact ⟨by omega, a⟩
    obtain ⟨z1, z2⟩ := hs i hi
    obtain ⟨e0, e3⟩ := enZ10_small hv hs (show p < l.length by omega)
    rw [hpp] at c2
    have HW := Lib.hid hw
    have HI := Lib.hid ih
    clear hw hpp hp ih hd hs
    rw [HB.out.1, HB.out.2]
    clear HB
    have hz0 : w.heap.size < w.heap.size + 1 := Nat.lt_succ_self _
    have hf1 := run_end10
    generalize enZ10 l sz p = ep at *
    generalize sz i = sx at *
    go_enter Try.func74, Try.ntmps74
    go_wp2_with fail
    refine (HI.out _ (HW.out.below ((Below.refl _ _).alloc (Nat.le_refl _) _))).mono ?_
    rintro e w1 ⟨rfl, hb1⟩
    have hb : Below w.heap.size w w1 := ((Below.refl _ w).alloc (Nat.le_refl _) _).trans (hb1.mono (by simp))
    rw [← hb.cell (p := ⟨nb i, 1, none⟩) h1] at c1
    rw [← hb.cell (p := ⟨nb i, 2, none⟩) h1] at c2
    have hr : Row w1 w.heap.size 84 #[.int .i64 0, .int .i64 0] := (Row.new w _ _).below hb1 (by simp)
    have r0 := hr.cell 0
    have r1 := hr.cell 1
    have f0 := hr.free 0
    have f1 := hr.free 1
    have hz := hr.lt
    have H := Lib.hid hb
    clear hb hb1 hr HW HI
    go_wp2
    refine bodyPost_ret (v := .agg #[.int .i64 ep, .int .i64 (ep + sx)]) (by simp [results, Try.results74, go_sem, r0, r1]) rfl ⟨rfl, ?_⟩
    repeat (first | exact H.out | refine Below.setCell ?_ (by simp) _ | refine Below.alloc ?_ (by simp; try omega) _)

set_option maxRecDepth 100000 in
set_option maxHeartbeats 400000 in
theorem endsBehind10_any (a b x y : Int) (w : World) :
    Calls Try.prog 128 #[.agg #[.int .i64 a, .int .i64 b], .agg #[.int .i64 x, .int .i64 y]] w fun e w' => e = .returned (.bool (decide (y < b))) ∧ Below w.heap.size w w' := by
  go_enter Try.func128, Try.ntmps128
  go_wp2
  go_ret
  refine ⟨ret_bool (by simp), ?_⟩
  repeat (first | exact Below.refl _ _ | refine Below.setCell ?_ (by simp) _ | refine Below.alloc ?_ (by simp; try omega) _)

/-- Of two the one that ends later, the first if neither does. -/
def laterZ10 (l : List Seg) (sz : Nat → Int) (i j : Nat) : Nat := if enZ10 l sz i < enZ10 l sz j then j else i

set_option maxRecDepth 100000 in
set_option maxHeartbeats 400000 in
theorem endingLast10_any (l : List Seg) (sz : Nat → Int) (nb : Nat → Nat) (hv : validB l = true) (hs : Small10 l sz) (i j : Nat) (hi : i < l.length) (hj : j < l.length) (w : World) (hw : Placed10 w l sz nb) :
    Calls Try.prog 90 #[.pointer (some ⟨nb i, 0, none⟩), .pointer (some ⟨nb j, 0, none⟩)] w fun e w' => e = .returned (.pointer (some ⟨nb (laterZ10 l sz i j), 0, none⟩)) ∧ Below w.heap.size w w' := by
  have HW := Lib.hid hw
  have HPI := Lib.hid (place10_any l sz nb hv hs i hi)
  have HPJ := Lib.hid (place10_any l sz nb hv hs j hj)
  have HP : Hid ((some ⟨nb (laterZ10 l sz i j), 0, none⟩ : Option Addr) = if decide (enZ10 l sz i < enZ10 l sz j) = true then some ⟨nb j, 0, none⟩ else some ⟨nb i, 0, none⟩) := by
    show _ = _
    unfold laterZ10
    by_cases h : enZ10 l sz i < enZ10 l sz j
    · rw [if_pos h, if_pos (decide_eq_true h)]
    · rw [if_neg h, if_neg (by rw [decide_eq_true_iff]; exact h)]
  have HEB := Lib.hid (fun W => endsBehind10_any (enZ10 l sz j - sz j) (enZ10 l sz j) (enZ10 l sz i - sz i) (enZ10 l sz i) W)
  generalize decide (enZ10 l sz i < enZ10 l sz j) = d at *
  generalize enZ10 l sz j - sz j = a1 at *
  generalize enZ10 l sz i - sz i = a2 at *
  generalize enZ10 l sz j = a3 at *
  generalize enZ10 l sz i = a4 at *
  clear hw hv hs
  cases d with
  | true =>
    go_enter Try.func90, Try.ntmps90
    go_wp2_with fail
    refine (HPJ.out _ HW.out).mono ?_
    rintro e w1 ⟨rfl, hb1⟩
    go_wp2_with fail
    refine (HPI.out _ (HW.out.below hb1)).mono ?_
    rintro e w2 ⟨rfl, hb2⟩
    have B2 := hb1.trans (hb2.mono hb1.size)
    clear hb1 hb2
    go_wp2_with fail
    refine (HEB.out _).mono ?_
    rintro e w3 ⟨rfl, hb3⟩
    have B3 := B2.trans (hb3.mono B2.size)
    clear B2 hb3
    go_wp2
    go_ret
    exact ⟨ret_ptr HP.out.symm, B3⟩
  | false =>
    go_enter Try.func90, Try.ntmps90
    go_wp2_with fail
    refine (HPJ.out _ HW.out).mono ?_
    rintro e w1 ⟨rfl, hb1⟩
    go_wp2_with fail
    refine (HPI.out _ (HW.out.below hb1)).mono ?_
    rintro e w2 ⟨rfl, hb2⟩
    have B2 := hb1.trans (hb2.mono hb1.size)
    clear hb1 hb2
    go_wp2_with fail
    refine (HEB.out _).mono ?_
    rintro e w3 ⟨rfl, hb3⟩
    have B3 := B2.trans (hb3.mono B2.size)
    clear B2 hb3
    go_wp2
    go_ret
    exact ⟨ret_ptr HP.out.symm, B3⟩

/-- A row of pointers to the nodes. -/
def Rowed10 (w : World) (n g : Nat) (nb : Nat → Nat) : Prop := g < w.heap.size ∧ ∀ i, i < n → w.cell? ⟨g, i, none⟩ = some (.pointer (some ⟨nb i, 0, none⟩))
theorem Rowed10.below {w w' : World} {n g : Nat} {nb : Nat → Nat} (h : Rowed10 w n g nb) (hb : Below w.heap.size w w') : Rowed10 w' n g nb := ⟨Nat.lt_of_lt_of_le h.1 hb.size, fun i hi => (hb.cell (p := ⟨g, i, none⟩) h.1).trans (h.2 i hi)⟩

set_option maxRecDepth 100000 in
set_option maxHeartbeats 400000 in
theorem fold10_any (g : Nat) (l : List Seg) (sz : Nat → Int) (nb : Nat → Nat) (w : World) (hN : Placed10 w l sz nb) (hR : Rowed10 w l.length g nb) (hv : validB l = true) (hs : Small10 l sz) :
    Calls Try.prog 89 #[.slice (some ⟨g, 0, none⟩) l.length l.length, .func (.func 90) #[] #[]] w fun e w' => e = .returned (.pointer (some ⟨nb (lastZ10 l sz (l.length - 1)), 0, none⟩)) ∧ Below w.heap.size w w' := by
  have HN := Lib.hid hN
  have HEL := Lib.hid (fun i j hi hj W h => endingLast10_any l sz nb hv hs i j hi hj W h)
  obtain ⟨-, hl8, hl1⟩ := valid_all hv
  have HC := Lib.hid hR.2
  have hg := hR.1
  have c0 := HC.out 0 (by omega)
  clear hN hv hs hR
  go_enter Try.func89, Try.ntmps89
  go_wp2
  · have H1 := Lib.hid h
    clear h
    go_loop [5, 14] (fun v i => v = .pointer (some ⟨nb 0, 0, none⟩) ∧ i = .int .i64 0) (fun _ _ => 0)
    case atStart => exact ⟨rfl, rfl⟩
    case round =>
      obtain ⟨rfl, rfl⟩ := hrel
      have HE : Hid (lastZ10 l sz (l.length - 1) = 0) := by
        show lastZ10 l sz (l.length - 1) = 0
        rw [H1.out]; rfl
      go_wp2
      go_ret
      exact ⟨ret_ptr (by rw [HE.out]), Below.refl _ _⟩
  · go_loopw [5, 14] (fun v i wr => ∃ (k : Nat), k + 1 ≤ l.length ∧ i = .int .i64 k ∧ v = .pointer (some ⟨nb (lastZ10 l sz k), 0, none⟩) ∧ Below w.heap.size w wr)
      (fun _ i _ => l.length - (intOf i).toNat)
    case atStart => exact ⟨0, by omega, rfl, rfl, Below.refl _ _⟩
    case round =>
      obtain ⟨k, hk, rfl, rfl, hb⟩ := hrel
      have hle := lastZ10_le l sz k
      by_cases hlt : k + 1 < l.length
      · have HR : Hid (nb (lastZ10 l sz (k + 1)) = nb (laterZ10 l sz (lastZ10 l sz k) (k + 1))) := rfl
        have ck : wr.cell? ⟨g, 1 + k, none⟩ = some (.pointer (some ⟨nb (k + 1), 0, none⟩)) := by
          rw [Nat.add_comm 1 k, hb.cell (p := ⟨g, k + 1, none⟩) hg]
          exact HC.out (k + 1) hlt
        clear c0
        have hlt2 : (k : Int) < ((l.length - 1 : Nat) : Int) := by omega
        have hlt3 : decide (k < l.length - 1) = true := decide_eq_true (by omega)
        have hlt4 : k < l.length - 1 := by omega
        go_wp2_with fail
        refine (HEL.out (lastZ10 l sz k) (k + 1) (by omega) hlt _ (HN.out.below hb)).mono ?_
        rintro e w1 ⟨rfl, hb1⟩
        have B1 := hb.trans (hb1.mono hb.size)
        clear hb hb1
        rw [← HR.out]
        go_wp2
        go_roundw
        case rel => exact ⟨k + 1, by omega, by go_num, rfl, B1⟩
        case measure => simp [intOf]; omega
      · obtain rfl : k = l.length - 1 := by omega
        go_wp2
        go_ret
        exact ⟨rfl, hb⟩

/-- The sizes of some nodes that are gone over, each counted once. -/
def keptR10 (l : List Seg) : List Nat → List Nat → Int
  | _, [] => 0
  | seen, x :: xs => szZ10 l (memF seen) x + keptR10 l (seen ++ [x]) xs
theorem keptR10_snoc (l : List Seg) : ∀ (xs seen : List Nat) (x : Nat), keptR10 l seen (xs ++ [x]) = keptR10 l seen xs + szZ10 l (memF (seen ++ xs)) x
  | [], seen, x => by simp [keptR10]
  | y :: xs, seen, x => by
    show szZ10 l (memF seen) y + keptR10 l (seen ++ [y]) (xs ++ [x]) = szZ10 l (memF seen) y + keptR10 l (seen ++ [y]) xs + szZ10 l (memF (seen ++ y :: xs)) x
    rw [keptR10_snoc l xs (seen ++ [y]) x, show seen ++ [y] ++ xs = seen ++ y :: xs by simp]
    omega
theorem keptR10_bd {l : List Seg} (hv : validB l = true) : ∀ (xs seen : List Nat), (∀ x ∈ xs, x < l.length) → 0 ≤ keptR10 l seen xs ∧ keptR10 l seen xs ≤ 99 * (xs.length : Int)
  | [], _, _ => by simp [keptR10]
  | x :: xs, seen, h => by
    have h1 := keptR10_bd hv xs (seen ++ [x]) (fun y hy => h y (List.mem_cons_of_mem _ hy))
    have h2 := szZ10_bd hv (memF seen) x (h x List.mem_cons_self)
    show 0 ≤ szZ10 l (memF seen) x + keptR10 l (seen ++ [x]) xs ∧ szZ10 l (memF seen) x + keptR10 l (seen ++ [x]) xs ≤ 99 * ((xs.length + 1 : Nat) : Int)
    omega
theorem keptR10_all (l : List Seg) : ∀ (xs seen : List Nat), xs.Pairwise (· < ·) → (∀ x ∈ xs, x ∉ seen) → keptR10 l seen xs = szs l xs
  | [], _, _, _ => rfl
  | x :: xs, seen, h, hn => by
    obtain ⟨h1, h2⟩ := List.pairwise_cons.1 h
    have h3 := keptR10_all l xs (seen ++ [x]) h2 (fun y hy hm => by
      rcases List.mem_append.1 hm with hm | hm
      · exact hn y (List.mem_cons_of_mem _ hy) hm
      · have := h1 y hy
        rw [List.mem_singleton.1 hm] at this
        exact Nat.lt_irrefl _ this)
    show szZ10 l (memF seen) x + keptR10 l (seen ++ [x]) xs = sizeAt l x + szs l xs
    rw [h3]
    unfold szZ10 memF
    rw [if_neg (by rw [decide_eq_true_iff]; exact hn x List.mem_cons_self)]

/-- An index of the tree as a round is handed it. -/
def fixR10 (l : List Seg) (x : Nat) : Nat := if x < l.length then x else 0
theorem fixR10_lt {l : List Seg} (h : 0 < l.length) (x : Nat) : fixR10 l x < l.length := by
  unfold fixR10
  split
  · next h => exact h
  · exact h

/-- The tree in memory while the sizes of what stays are taken away. -/
structure Zed10 (w w1 : World) (l : List Seg) (g : Nat) (nb : Nat → Nat) (cv : Nat → Value) (xs : List Nat) (X : World) : Prop where
  low : Below w.heap.size w X
  size : w1.heap.size + 3 ≤ X.heap.size
  row : ∃ cs, Row X g 72 cs ∧ ∀ i, i < l.length → cs[i]? = some (.pointer (some ⟨nb i, 0, none⟩))
  node : ∀ j s, l[j]? = some s → Row X (nb j) 108 (nodeCells s.name (szZ10 l (memF xs) j) (parPtr l nb j) (cv j))
  box : Row X w1.heap.size 61 #[.slice (some ⟨g, 0, none⟩) l.length l.length]
  sum : Row X (w1.heap.size + 1) 3 #[.int .i64 (keptR10 l [] xs)]
/-- Where the nodes lie. -/
structure At10 (w w1 : World) (l : List Seg) (g : Nat) (nb : Nat → Nat) : Prop where
  lo : w.heap.size ≤ g ∧ ∀ j, j < l.length → w.heap.size ≤ nb j
  hi : g < w1.heap.size ∧ ∀ j, j < l.length → nb j < w1.heap.size
  apart : ∀ i j, i < l.length → j < l.length → i ≠ j → nb i ≠ nb j
  far : ∀ j, j < l.length → nb j ≠ g
  le : w.heap.size ≤ w1.heap.size
theorem Nodes.at10 {w w1 : World} {l : List Seg} {g : Nat} {nb : Nat → Nat} {cv : Nat → Value} (h : Nodes w1 w.heap.size g l.length l.length l nb cv) (hb : w.heap.size ≤ w1.heap.size) : At10 w w1 l g nb := by
  obtain ⟨cs, hrow, -, -⟩ := h.row
  refine ⟨h.low, ⟨hrow.lt, fun j hj => (h.node j _ hj (List.getElem?_eq_getElem hj)).lt⟩, h.apart, fun j hj e => ?_, hb⟩
  have h1 := h.node j _ hj (List.getElem?_eq_getElem hj)
  rw [e] at h1
  have h2 : some (Obj.cells cs 72 (0, 0)) = some (Obj.cells (nodeCells l[j].name l[j].size (parPtr l nb j) (cv j)) 108 (0, 0)) := hrow.symm.trans h1
  injection h2 with h2
  injection h2 with _ h3
  exact absurd h3 (by decide)
theorem Zed10.placed {w w1 X : World} {l : List Seg} {g : Nat} {nb : Nat → Nat} {cv : Nat → Value} {xs : List Nat} (h : Zed10 w w1 l g nb cv xs X) : Placed10 X l (szZ10 l (memF xs)) nb := fun j hj => by
  have h1 := h.node j _ (List.getElem?_eq_getElem hj)
  exact ⟨h1.lt, h1.cell 1, h1.cell 2⟩
theorem Zed10.rowed {w w1 X : World} {l : List Seg} {g : Nat} {nb : Nat → Nat} {cv : Nat → Value} {xs : List Nat} (h : Zed10 w w1 l g nb cv xs X) : Rowed10 X l.length g nb := by
  obtain ⟨cs, h1, h2⟩ := h.row
  exact ⟨h1.lt, fun i hi => (h1.cell i).trans (h2 i hi)⟩
theorem Zed10.below {w w1 X Y : World} {l : List Seg} {g : Nat} {nb : Nat → Nat} {cv : Nat → Value} {xs : List Nat} (h : Zed10 w w1 l g nb cv xs X) (ha : At10 w w1 l g nb) {B : Nat} (hb : Below B X Y) (hB : w1.heap.size + 2 ≤ B) : Zed10 w w1 l g nb cv xs Y := by
  obtain ⟨cs, h1, h2⟩ := h.row
  have h3 := ha.hi
  have h4 := ha.le
  exact ⟨h.low.trans (hb.mono (by omega)), Nat.le_trans h.size hb.size, ⟨cs, h1.below hb (by omega), h2⟩, fun j s hj => (h.node j s hj).below hb (by have := h3.2 j (List.getElem?_eq_some_iff.1 hj).1; omega), h.box.below hb (by omega), h.sum.below hb (by omega)⟩
/-- One more that stays: its size is counted, then taken away. -/
theorem Zed10.step {w w1 X : World} {l : List Seg} {g : Nat} {nb : Nat → Nat} {cv : Nat → Value} {xs : List Nat} (h : Zed10 w w1 l g nb cv xs X) (ha : At10 w w1 l g nb) {i : Nat} (hi : i < l.length) :
    Zed10 w w1 l g nb cv (xs ++ [i]) ((X.setCell ⟨w1.heap.size + 1, 0, none⟩ (.int .i64 (keptR10 l [] xs + szZ10 l (memF xs) i))).setCell ⟨nb i, 1, none⟩ (.int .i64 0)) := by
  obtain ⟨cs, h1, h2⟩ := h.row
  have h3 := ha.hi.2 i hi
  have h4 := ha.lo.2 i hi
  have h5 := ha.far i hi
  have h6 := ha.le
  have h7 := ha.hi.1
  refine ⟨(h.low.setCell (by show w.heap.size ≤ w1.heap.size + 1; omega) _).setCell (by show w.heap.size ≤ nb i; omega) _, by simp [World.setCell]; exact h.size, ⟨cs, (h1.far (by show g ≠ w1.heap.size + 1; omega) _).far (by show g ≠ nb i; omega) _, h2⟩, fun j s hj => ?_, (h.box.far (by show w1.heap.size ≠ w1.heap.size + 1; omega) _).far (by show w1.heap.size ≠ nb i; omega) _, ?_⟩
  · have hjl := (List.getElem?_eq_some_iff.1 hj).1
    have h8 := (h.node j s hj).far (p := ⟨w1.heap.size + 1, 0, none⟩) (by have := ha.hi.2 j hjl; show nb j ≠ w1.heap.size + 1; omega) (.int .i64 (keptR10 l [] xs + szZ10 l (memF xs) i))
    by_cases e : j = i
    · subst e
      have h9 := h8.put 1 (.int .i64 0)
      have h10 : szZ10 l (memF (xs ++ [j])) j = 0 := by
        unfold szZ10 memF
        rw [if_pos (by simp)]
      rw [h10]
      exact h9
    · have h9 := h8.far (p := ⟨nb i, 1, none⟩) (ha.apart j i hjl hi e) (.int .i64 0)
      have h10 : szZ10 l (memF (xs ++ [i])) j = szZ10 l (memF xs) j := by
        have h11 : memF (xs ++ [i]) j = memF xs j := by
          unfold memF
          rw [decide_eq_decide, List.mem_append, List.mem_singleton]
          exact ⟨fun h => h.elim id (fun h => absurd h e), .inl⟩
        unfold szZ10
        rw [h11]
      rw [h10]
      exact h9
  · have h8 := h.sum.put 0 (.int .i64 (keptR10 l [] xs + szZ10 l (memF xs) i))
    rw [keptR10_snoc, List.nil_append]
    exact h8.far (by show w1.heap.size + 1 ≠ nb i; omega) _

end Go.Proofs.Ytcpiojliakgdlaa
