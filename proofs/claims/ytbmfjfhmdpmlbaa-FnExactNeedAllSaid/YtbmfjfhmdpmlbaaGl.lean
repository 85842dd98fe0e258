/- impl.findState at nodes; needFor, meet; StateValid. -/
import Derived.Test.YtbmfjfhmdpmlbaaGk
namespace Go.Proofs.Ytbmfjfhmdpmlbaa
open Go.RowKit Go.Shelf

theorem ret_stOk {f g : Nat → Bool} {a b : Bool} (h : ∀ j, j < 8 → f j = g j) (k : a = b) : Ending.returned (.tuple #[bitsV f, .bool a]) = .returned (.tuple #[bitsV g, .bool b]) := by
  unfold bitsV
  rw [bits_congr h, k]
/-- The truths of a state. -/
def inT (T : List Nat) (j : Nat) : Bool := decide (j ∈ T)

theorem findState_bad (s : ByteArray) (w : World) :
    Calls Try.prog 122 #[.slice none 0 0, .string s] w fun e w' => e = .returned (.tuple #[bitsV (inT []), .bool false]) ∧ Below w.heap.size w w' := by
  refine (findState_gen none 0 0 [] (fun _ => ⟨#[]⟩) s w (fun W Bs _ hB _ => states_stops_nil 19 Bs _ W hB) (fun h => absurd h (by decide))).mono ?_
  rintro e w' ⟨rfl, hb⟩
  exact ⟨rfl, hb⟩

theorem findState_any (B g : Nat) (l : List Seg) (nb : Nat → Nat) (cv : Nat → Value) (s : ByteArray) (w : World) (h : Nodes w B g l.length l.length l nb cv) (hv : validB l = true) :
    Calls Try.prog 122 #[.slice (some ⟨g, 0, none⟩) l.length l.length, .string s] w fun e w' => e = .returned (.tuple #[bitsV (inT (stT l s)), .bool (stOk l s)]) ∧ Below w.heap.size w w' := by
  have hd := (valid_all hv).1.down
  refine (findState_gen (some ⟨g, 0, none⟩) l.length l.length (statesIx l) (fun T => namesAt l (selIx (fun j => decide (j ∈ T)) l.length)) s w
    (fun W Bs hW hB hBs => states_stops 19 (by omega) Bs _ B g l nb cv hv W (h.below hW) (fun q _ hq => by omega) hB (by have := hB.lt; omega))
    (fun _ T W hW => names_any B g l nb cv _ W (h.below hW) hv)).mono ?_
  rintro e w' ⟨rfl, hb⟩
  have e1 : foundIn (statesIx l) (fun T => namesAt l (selIx (fun j => decide (j ∈ T)) l.length)) s = stIx l s := by
    have h1 : stIx l s = (statesIx l).find? (fun T => sameB (namesAt l T) s) := if_pos hv
    rw [h1]
    refine find_cong _ (fun T hT => ?_)
    have hT' := mem_states.1 hT
    dsimp only
    rw [sel_mem (hT'.asc hd) (hT'.lt hd)]
  rw [e1]
  exact ⟨rfl, hb⟩

set_option maxRecDepth 100000 in
set_option maxHeartbeats 400000 in
theorem needFor_any (B g i : Nat) (l : List Seg) (nb : Nat → Nat) (cv : Nat → Value) (w : World) (h : Nodes w B g l.length l.length l nb cv) (hv : validB l = true) (hi : i < l.length) :
    Calls Try.prog 148 #[.slice (some ⟨g, 0, none⟩) l.length l.length, .pointer (some ⟨nb i, 0, none⟩)] w fun e w' => e = .returned (bitsV (inT (rp l i))) ∧ Below w.heap.size w w' := by
  have HN := Lib.hid h
  clear h
  go_enter Try.func148, Try.ntmps148
  go_wp2_with fail
  refine (pathState_any B g i l nb cv _ (HN.out.below ((Below.refl _ w).alloc (Nat.le_refl _) _)) hv hi).mono ?_
  rintro e w1 ⟨rfl, hb1⟩
  have hR1 : Row w1 w.heap.size 146 (bitCells fun _ => false) := (Row.new w _ _).below hb1 (by simp)
  obtain ⟨⟨d0, d1, d2, d3⟩, d4, d5, d6, d7⟩ := bits_cells hR1
  have hfz := fun j => hR1.free j
  have z0 := hfz 0
  have z1 := hfz 1
  have z2 := hfz 2
  have z3 := hfz 3
  have z4 := hfz 4
  have z5 := hfz 5
  have z6 := hfz 6
  have z7 := hfz 7
  have HRow : Hid (Row (putBits w1 w.heap.size fun j => decide (j ∈ rp l i)) w.heap.size 146 (bitCells fun j => decide (j ∈ rp l i))) := putBits_row hR1
  have HBel : Hid (Below w.heap.size w (putBits w1 w.heap.size fun j => decide (j ∈ rp l i))) := putBits_below (((Below.refl _ w).alloc (Nat.le_refl _) _).trans (hb1.mono (by simp))) (Nat.le_refl _)
  clear hR1 hfz hb1
  unfold bitsV bitCells
  go_wp2
  exact bodyPost_ret (v := bitsV (inT (rp l i))) (results_cell_row (p := 4) (ty := 146) rfl _ (putBits w1 w.heap.size fun j => decide (j ∈ rp l i)) w.heap.size 146 _ (0, 0) _ rfl HRow.out Try.underlying146 rfl (by kernel_rfl)) rfl ⟨rfl, HBel.out⟩

theorem eql_none (w : World) : (Op.equalIn 10000 111 (.agg #[.bool false, .bool false, .bool false, .bool false, .bool false, .bool false, .bool false, .bool false]) (.agg #[.bool false, .bool false, .bool false, .bool false, .bool false, .bool false, .bool false, .bool false])).run Try.prog w = .ok true w := by kernel_rfl
theorem eql_true0 (b1 b2 b3 b4 b5 b6 b7 : Bool) (w : World) : (Op.equalIn 10000 111 (.agg #[.bool true, .bool b1, .bool b2, .bool b3, .bool b4, .bool b5, .bool b6, .bool b7]) (.agg #[.bool false, .bool false, .bool false, .bool false, .bool false, .bool false, .bool false, .bool false])).run Try.prog w = .ok false w := by kernel_rfl
theorem eql_true1 (b2 b3 b4 b5 b6 b7 : Bool) (w : World) : (Op.equalIn 10000 111 (.agg #[.bool false, .bool true, .bool b2, .bool b3, .bool b4, .bool b5, .bool b6, .bool b7]) (.agg #[.bool false, .bool false, .bool false, .bool false, .bool false, .bool false, .bool false, .bool false])).run Try.prog w = .ok false w := by kernel_rfl
theorem eql_true2 (b3 b4 b5 b6 b7 : Bool) (w : World) : (Op.equalIn 10000 111 (.agg #[.bool false, .bool false, .bool true, .bool b3, .bool b4, .bool b5, .bool b6, .bool b7]) (.agg #[.bool false, .bool false, .bool false, .bool false, .bool false, .bool false, .bool false, .bool false])).run Try.prog w = .ok false w := by kernel_rfl
theorem eql_true3 (b4 b5 b6 b7 : Bool) (w : World) : (Op.equalIn 10000 111 (.agg #[.bool false, .bool false, .bool false, .bool true, .bool b4, .bool b5, .bool b6, .bool b7]) (.agg #[.bool false, .bool false, .bool false, .bool false, .bool false, .bool false, .bool false, .bool false])).run Try.prog w = .ok false w := by kernel_rfl
theorem eql_true4 (b5 b6 b7 : Bool) (w : World) : (Op.equalIn 10000 111 (.agg #[.bool false, .bool false, .bool false, .bool false, .bool true, .bool b5, .bool b6, .bool b7]) (.agg #[.bool false, .bool false, .bool false, .bool false, .bool false, .bool false, .bool false, .bool false])).run Try.prog w = .ok false w := by kernel_rfl
theorem eql_true5 (b6 b7 : Bool) (w : World) : (Op.equalIn 10000 111 (.agg #[.bool false, .bool false, .bool false, .bool false, .bool false, .bool true, .bool b6, .bool b7]) (.agg #[.bool false, .bool false, .bool false, .bool false, .bool false, .bool false, .bool false, .bool false])).run Try.prog w = .ok false w := by kernel_rfl
theorem eql_true6 (b7 : Bool) (w : World) : (Op.equalIn 10000 111 (.agg #[.bool false, .bool false, .bool false, .bool false, .bool false, .bool false, .bool true, .bool b7]) (.agg #[.bool false, .bool false, .bool false, .bool false, .bool false, .bool false, .bool false, .bool false])).run Try.prog w = .ok false w := by kernel_rfl
theorem eql_true7 (w : World) : (Op.equalIn 10000 111 (.agg #[.bool false, .bool false, .bool false, .bool false, .bool false, .bool false, .bool false, .bool true]) (.agg #[.bool false, .bool false, .bool false, .bool false, .bool false, .bool false, .bool false, .bool false])).run Try.prog w = .ok false w := by kernel_rfl
theorem eql_bools (b0 b1 b2 b3 b4 b5 b6 b7 : Bool) (w : World) : (Op.equalIn 10000 111 (.agg #[.bool b0, .bool b1, .bool b2, .bool b3, .bool b4, .bool b5, .bool b6, .bool b7]) (.agg #[.bool false, .bool false, .bool false, .bool false, .bool false, .bool false, .bool false, .bool false])).run Try.prog w = .ok (!b0 && !b1 && !b2 && !b3 && !b4 && !b5 && !b6 && !b7) w := by
  cases b0 with
  | true => exact eql_true0 b1 b2 b3 b4 b5 b6 b7 w
  | false =>
    cases b1 with
    | true => exact eql_true1 b2 b3 b4 b5 b6 b7 w
    | false =>
      cases b2 with
      | true => exact eql_true2 b3 b4 b5 b6 b7 w
      | false =>
        cases b3 with
        | true => exact eql_true3 b4 b5 b6 b7 w
        | false =>
          cases b4 with
          | true => exact eql_true4 b5 b6 b7 w
          | false =>
            cases b5 with
            | true => exact eql_true5 b6 b7 w
            | false =>
              cases b6 with
              | true => exact eql_true6 b7 w
              | false =>
                cases b7 with
                | true => exact eql_true7  w
                | false =>
                  exact eql_none w
def offB (f : Nat → Bool) : Bool := !f 0 && !f 1 && !f 2 && !f 3 && !f 4 && !f 5 && !f 6 && !f 7
theorem offB_iff (f : Nat → Bool) : offB f = true ↔ ∀ j, j < 8 → f j = false := by
  unfold offB
  simp only [Bool.and_eq_true, Bool.not_eq_true']
  constructor
  · rintro ⟨⟨⟨⟨⟨⟨⟨h0, h1⟩, h2⟩, h3⟩, h4⟩, h5⟩, h6⟩, h7⟩ j hj
    match j, hj with
    | 0, _ => exact h0
    | 1, _ => exact h1
    | 2, _ => exact h2
    | 3, _ => exact h3
    | 4, _ => exact h4
    | 5, _ => exact h5
    | 6, _ => exact h6
    | 7, _ => exact h7
  · intro h
    exact ⟨⟨⟨⟨⟨⟨⟨h 0 (by decide), h 1 (by decide)⟩, h 2 (by decide)⟩, h 3 (by decide)⟩, h 4 (by decide)⟩, h 5 (by decide)⟩, h 6 (by decide)⟩, h 7 (by decide)⟩

set_option maxRecDepth 100000 in
set_option maxHeartbeats 400000 in
theorem meet_any (T P : List Nat) (w : World) (hP : ∀ j ∈ P, j < 8) :
    Calls Try.prog 149 #[bitsV (inT P), bitsV (inT T)] w fun e w' => e = .returned (bitsV (inT (needT T P))) ∧ Below w.heap.size w w' := by
  have HL := Lib.hid (fun W => less_any (inT P) (inT T) W)
  have HE := Lib.hid (fun W => eql_bools (inT P 0 && !inT T 0) (inT P 1 && !inT T 1) (inT P 2 && !inT T 2) (inT P 3 && !inT T 3) (inT P 4 && !inT T 4) (inT P 5 && !inT T 5) (inT P 6 && !inT T 6) (inT P 7 && !inT T 7) W)
  have hiff : offB (fun j => inT P j && !inT T j) = true ↔ ∀ x ∈ P, x ∈ T := by
    rw [offB_iff]
    constructor
    · intro h x hx
      have := h x (hP x hx)
      unfold inT at this
      rw [decide_eq_true hx] at this
      simpa using this
    · intro h j _
      unfold inT
      by_cases hj : j ∈ P
      · rw [decide_eq_true (h j hj)]
        simp
      · rw [decide_eq_false hj]
        rfl
  by_cases hs : ∀ x ∈ P, x ∈ T
  · have HT : Hid (needT T P = T) := if_pos hs
    have HO : Hid (offB (fun j => inT P j && !inT T j) = true) := hiff.2 hs
    have he : ∀ W, (Op.equalIn 10000 111 (bitsV fun j => inT P j && !inT T j) (bitsV fun _ => false)).run Try.prog W = .ok true W := fun W => by
      have h1 := HE.out W
      exact h1.trans (congrArg (fun b => Result.ok b W) HO.out)
    unfold bitsV bitCells at HL he ⊢
    clear hiff hs HE
    rw [HT.out]
    have hR1 : ∀ W1, Below (w.heap.size + 1 + 1 + 1) (((w.alloc (.cells (bitCells (inT P)) 146)).alloc (.cells (bitCells (inT T)) 111)).alloc (.cells (bitCells fun _ => false) 111)) W1 → Row W1 (w.heap.size + 1 + 1) 111 (bitCells fun _ => false) ∧ Row W1 (w.heap.size + 1) 111 (bitCells (inT T)) ∧ Row W1 w.heap.size 146 (bitCells (inT P)) ∧ Below w.heap.size w W1 := fun W1 hb => by
      refine ⟨Row.below ?_ hb (by omega), Row.below ?_ hb (by omega), (((Row.new w _ _).alloc _).alloc _).below hb (by omega), ((((Below.refl _ w).alloc (Nat.le_refl _) _).alloc (by simp) _).alloc (by simp; omega) _).trans (hb.mono (by omega))⟩
      · have := Row.new ((w.alloc (.cells (bitCells (inT P)) 146)).alloc (.cells (bitCells (inT T)) 111)) 111 (bitCells fun _ => false)
        simpa using this
      · have := (Row.new (w.alloc (.cells (bitCells (inT P)) 146)) 111 (bitCells (inT T))).alloc (.cells (bitCells fun _ => false) 111)
        simpa using this
    have HR1 := Lib.hid hR1
    clear hR1
    go_enter Try.func149, Try.ntmps149
    go_wp2_with fail
    refine (HL.out _).mono ?_
    rintro e w1 ⟨rfl, hb1⟩
    rw [World.size_alloc, World.size_alloc, World.size_alloc] at hb1
    obtain ⟨r1, r2, r3, r4⟩ := HR1.out w1 hb1
    obtain ⟨⟨d0, d1, d2, d3⟩, d4, d5, d6, d7⟩ := bits_cells r1
    obtain ⟨⟨e0, e1, e2, e3⟩, e4, e5, e6, e7⟩ := bits_cells r2
    have hfz := fun j => r1.free j
    have z0 := hfz 0
    have z1 := hfz 1
    have z2 := hfz 2
    have z3 := hfz 3
    have z4 := hfz 4
    have z5 := hfz 5
    have z6 := hfz 6
    have z7 := hfz 7
    have HRow : Hid (Row (putBits w1 (w.heap.size + 1 + 1) (inT T)) (w.heap.size + 1 + 1) 111 (bitCells (inT T))) := putBits_row r1
    have HBel : Hid (Below w.heap.size w (putBits w1 (w.heap.size + 1 + 1) (inT T))) := putBits_below r4 (by omega)
    clear r1 r2 r3 r4 hfz hb1
    go_wp2
    exact bodyPost_ret (v := bitsV (inT T)) (results_cell_row (p := 4) (ty := 111) rfl _ (putBits w1 (w.heap.size + 1 + 1) (inT T)) (w.heap.size + 1 + 1) 111 _ (0, 0) _ rfl HRow.out Try.underlying111 rfl (by kernel_rfl)) rfl ⟨rfl, HBel.out⟩
  · have HT : Hid (needT T P = P) := if_neg hs
    have HO : Hid (offB (fun j => inT P j && !inT T j) = false) := Bool.eq_false_iff.2 (fun h => hs (hiff.1 h))
    have he : ∀ W, (Op.equalIn 10000 111 (bitsV fun j => inT P j && !inT T j) (bitsV fun _ => false)).run Try.prog W = .ok false W := fun W => by
      have h1 := HE.out W
      exact h1.trans (congrArg (fun b => Result.ok b W) HO.out)
    unfold bitsV bitCells at HL he ⊢
    clear hiff hs HE
    rw [HT.out]
    have hR1 : ∀ W1, Below (w.heap.size + 1 + 1 + 1) (((w.alloc (.cells (bitCells (inT P)) 146)).alloc (.cells (bitCells (inT T)) 111)).alloc (.cells (bitCells fun _ => false) 111)) W1 → Row W1 (w.heap.size + 1 + 1) 111 (bitCells fun _ => false) ∧ Row W1 (w.heap.size + 1) 111 (bitCells (inT T)) ∧ Row W1 w.heap.size 146 (bitCells (inT P)) ∧ Below w.heap.size w W1 := fun W1 hb => by
      refine ⟨Row.below ?_ hb (by omega), Row.below ?_ hb (by omega), (((Row.new w _ _).alloc _).alloc _).below hb (by omega), ((((Below.refl _ w).alloc (Nat.le_refl _) _).alloc (by simp) _).alloc (by simp; omega) _).trans (hb.mono (by omega))⟩
      · have := Row.new ((w.alloc (.cells (bitCells (inT P)) 146)).alloc (.cells (bitCells (inT T)) 111)) 111 (bitCells fun _ => false)
        simpa using this
      · have := (Row.new (w.alloc (.cells (bitCells (inT P)) 146)) 111 (bitCells (inT T))).alloc (.cells (bitCells fun _ => false) 111)
        simpa using this
    have HR1 := Lib.hid hR1
    clear hR1
    go_enter Try.func149, Try.ntmps149
    go_wp2_with fail
    refine (HL.out _).mono ?_
    rintro e w1 ⟨rfl, hb1⟩
    rw [World.size_alloc, World.size_alloc, World.size_alloc] at hb1
    obtain ⟨r1, r2, r3, r4⟩ := HR1.out w1 hb1
    obtain ⟨⟨d0, d1, d2, d3⟩, d4, d5, d6, d7⟩ := bits_cells r1
    obtain ⟨⟨e0, e1, e2, e3⟩, e4, e5, e6, e7⟩ := bits_cells r3
    have hfz := fun j => r1.free j
    have z0 := hfz 0
    have z1 := hfz 1
    have z2 := hfz 2
    have z3 := hfz 3
    have z4 := hfz 4
    have z5 := hfz 5
    have z6 := hfz 6
    have z7 := hfz 7
    have HRow : Hid (Row (putBits w1 (w.heap.size + 1 + 1) (inT P)) (w.heap.size + 1 + 1) 111 (bitCells (inT P))) := putBits_row r1
    have HBel : Hid (Below w.heap.size w (putBits w1 (w.heap.size + 1 + 1) (inT P))) := putBits_below r4 (by omega)
    clear r1 r2 r3 r4 hfz hb1
    go_wp2
    exact bodyPost_ret (v := bitsV (inT P)) (results_cell_row (p := 4) (ty := 111) rfl _ (putBits w1 (w.heap.size + 1 + 1) (inT P)) (w.heap.size + 1 + 1) 111 _ (0, 0) _ rfl HRow.out Try.underlying111 rfl (by kernel_rfl)) rfl ⟨rfl, HBel.out⟩

end Go.Proofs.Ytbmfjfhmdpmlbaa
