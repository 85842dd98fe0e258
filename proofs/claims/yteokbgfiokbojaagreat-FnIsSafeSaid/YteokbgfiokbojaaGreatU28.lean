/- Joined: Yg Yh. -/
import Derived.Test.YteokbgfiokbojaaGreatU16
import Derived.Test.YteokbgfiokbojaaGreatU19
import Derived.Test.YteokbgfiokbojaaGreatU07
import Derived.Test.YteokbgfiokbojaaGreatU27
/- The program's closure that meets a need. -/
namespace Go.Proofs.YteokbgfiokbojaaGreat
open Go.RowKit Go.Shelf
attribute [local go_sem] Oper.semAt_some

theorem run_loadNodes {w : World} {b : Addr} {a : Option Addr} {k c : Nat} (h : w.cell? b = some (.slice a k c)) : (loadVar 56 b).run Tryz.prog w = .ok (.slice a k c) w := by
  simp [go_sem, h]
theorem run_load_nodes_op {ρ : Operand → Value} {o : Oper} {x : Operand} {b : Nat} {a : Option Addr} {k c : Nat} {w : World} (ho : o.op = .load 56 x) (hx : ρ x = .pointer (some ⟨b, 0, none⟩)) (h : Row w b 56 #[.slice a k c]) :
    (execOp ρ o).run Tryz.prog w = .ok (.value (.slice a k c)) w := by
  unfold execOp
  simp only [ho, hx, Instr.loadAt, Instr.sureAddr, Sem.run_bind, Sem.run_pure, Result.andThen_ok, run_loadNodes (h.cell 0)]
theorem found_seg {l : List Seg} {nb : Nat → Nat} {c : UInt8} (hv : validB l = true) (hc : callP l c = true) : foundPtr l nb ⟨#[c]⟩ = some ⟨nb (segIx l c), 0, none⟩ := by
  have h1 := (callP_ix hc).1
  have h2 : indexB l ⟨#[c]⟩ = seek l ⟨#[c]⟩ := if_pos hv
  unfold foundPtr
  rw [if_neg (by omega), ← h2, h1, Int.toNat_natCast]
theorem load_sel {l : List Seg} (hv : validB l = true) {T P : List Nat} (hT : IsState l T) (hP : IsState l P) : selIx (fun j => inT (needT T P) j && !inT T j) l.length = loadT T P := by
  have hd := (valid_all hv).1.down
  have h1 : (fun j => inT (needT T P) j && !inT T j) = (fun j => decide (j ∈ loadT T P)) := by
    funext j
    unfold inT loadT lessT
    simp only [List.mem_filter]
    by_cases h2 : j ∈ needT T P <;> by_cases h3 : j ∈ T <;> simp [h2, h3]
  rw [h1]
  exact sel_mem (List.Pairwise.filter _ ((needT_state hT hP).asc hd)) (load_lt hd hT hP)
theorem state_sel {l : List Seg} (hv : validB l = true) {T : List Nat} (hT : IsState l T) : selIx (inT T) l.length = T := sel_mem (hT.asc (valid_all hv).1.down) (hT.lt (valid_all hv).1.down)
theorem only_bits {w w' : World} {b : Nat} (h : Only w w' (· = b)) (f : Nat → Bool) : Only w (putBits w' b f) (· = b) := (((((((h.set _ _).set _ _).set _ _).set _ _).set _ _).set _ _).set _ _).set _ _
/-- What the closure that meets needs has before it. -/
structure Held8 (w0 : World) (B g : Nat) (l : List Seg) (nb : Nat → Nat) (cv : Nat → Value) (hb nx : Nat) (T : List Nat) (W : World) : Prop where
  nodes : Nodes w0 B g l.length l.length l nb cv
  low : Below w0.heap.size w0 W
  bits : Row W hb 139 (bitCells (inT T))
  box : Row W nx 56 #[.slice (some ⟨g, 0, none⟩) l.length l.length]
  lt : w0.heap.size ≤ hb
theorem Held8.ne {w0 W : World} {B g hb nx : Nat} {l : List Seg} {nb : Nat → Nat} {cv : Nat → Value} {T : List Nat} (h : Held8 w0 B g l nb cv hb nx T W) : nx ≠ hb := fun e => by
  have h1 := h.bits
  have h2 := h.box
  rw [← e] at h1
  unfold Row at h1 h2
  rw [h1] at h2
  injection h2 with h2
  injection h2 with _ h2
  exact absurd h2 (by decide)
theorem Held8.below {w0 W W' : World} {B g hb nx : Nat} {l : List Seg} {nb : Nat → Nat} {cv : Nat → Value} {T : List Nat} (h : Held8 w0 B g l nb cv hb nx T W) (hk : Below W.heap.size W W') : Held8 w0 B g l nb cv hb nx T W' :=
  ⟨h.nodes, h.low.trans (hk.mono (Nat.le_trans h.lt (Nat.le_of_lt h.bits.lt))), h.bits.below hk h.bits.lt, h.box.below hk h.box.lt, h.lt⟩
theorem Held8.is {w0 W : World} {B g hb nx : Nat} {l : List Seg} {nb : Nat → Nat} {cv : Nat → Value} {T : List Nat} (h : Held8 w0 B g l nb cv hb nx T W) : Nodes W B g l.length l.length l nb cv := h.nodes.below h.low
theorem Held8.put {w0 W : World} {B g hb nx : Nat} {l : List Seg} {nb : Nat → Nat} {cv : Nat → Value} {T : List Nat} (h : Held8 w0 B g l nb cv hb nx T W) (U : List Nat) : Held8 w0 B g l nb cv hb nx U (putBits W hb (inT U)) :=
  ⟨h.nodes, putBits_below h.low h.lt, putBits_row h.bits, putBits_far h.box h.ne, h.lt⟩

set_option maxRecDepth 100000 in
set_option maxHeartbeats 4000000 in
theorem meetStep_any (w0 : World) (B g : Nat) (l : List Seg) (nb : Nat → Nat) (cv : Nat → Value) (hb nx : Nat) (T : List Nat) (c : UInt8) (w : World) (h : Held8 w0 B g l nb cv hb nx T w) (hv : validB l = true) (hT : IsState l T) (hc : callP l c = true) :
    Calls Tryz.prog 86 #[.string ⟨#[c]⟩, .pointer (some ⟨hb, 0, none⟩), .pointer (some ⟨nx, 0, none⟩)] w fun e w' => e = .returned (.agg #[.string (stepAt l T c).nm, .string (stepAt l T c).ld, .string (stepAt l T c).st]) ∧ Held8 w0 B g l nb cv hb nx (nextT l T c) w' ∧ Only w w' (· = hb) := by
  have HH := Lib.hid h
  have HV := Lib.hid hv
  have hlw := h.bits.lt
  have hP8 : ∀ j ∈ pathAt l c, j < 8 := fun j hj => by
    have h8 := (valid_all hv).2.1
    have := (path_is hc).lt (valid_all hv).1.down j hj
    omega
  have hl8 := (valid_all hv).2.1
  obtain ⟨W1, hW1⟩ : ∃ W1, W1 = (w.alloc (.cells #[.string ⟨#[]⟩, .string ⟨#[]⟩, .string ⟨#[]⟩] 50)).alloc (.cells #[.bool (inT T 0), .bool (inT T 1), .bool (inT T 2), .bool (inT T 3), .bool (inT T 4), .bool (inT T 5), .bool (inT T 6), .bool (inT T 7)] 139) := ⟨_, rfl⟩
  have HB1 : Hid (Below w.heap.size w W1) := by
    show Below _ _ _
    rw [hW1]
    exact ((Below.refl _ w).alloc (Nat.le_refl _) _).alloc (by simp) _
  have HA1 : Hid (Held8 w0 B g l nb cv hb nx T W1) := HH.out.below HB1.out
  have HS5 : Hid (Row W1 (w.heap.size + 1) 139 (bitCells (inT T))) := by
    have := Row.new (w.alloc (.cells #[.string ⟨#[]⟩, .string ⟨#[]⟩, .string ⟨#[]⟩] 50)) 139 (bitCells (inT T))
    rw [World.size_alloc] at this
    show Row _ _ _ _
    rw [hW1]
    exact this
  have HS4 : Hid (Row W1 w.heap.size 50 #[.string ⟨#[]⟩, .string ⟨#[]⟩, .string ⟨#[]⟩]) := by
    show Row _ _ _ _
    rw [hW1]
    exact (Row.new w _ _).alloc _
  have HO1 : Hid (Only w W1 (· = hb)) := (Only.refl w _).andBelow HB1.out
  have HW1 := Lib.hid hW1
  have HFN : Hid (∀ W, Nodes W B g l.length l.length l nb cv → Calls Tryz.prog 51 #[.slice (some ⟨g, 0, none⟩) l.length l.length, .string ⟨#[c]⟩] W fun e w' => e = .returned (.pointer (some ⟨nb (segIx l c), 0, none⟩)) ∧ W = w') := fun W hN => by
    have := findNode_any B g l nb cv ⟨#[c]⟩ W hN (by omega)
    rw [found_seg hv hc] at this
    exact this
  have HNF : Hid (∀ W, Nodes W B g l.length l.length l nb cv → Calls Tryz.prog 87 #[.slice (some ⟨g, 0, none⟩) l.length l.length, .pointer (some ⟨nb (segIx l c), 0, none⟩)] W fun e w' => e = .returned (bitsV (inT (pathAt l c))) ∧ Below W.heap.size W w') := fun W hN => needFor_any B g (segIx l c) l nb cv W hN hv (callP_ix hc).2
  have HMT : Hid (∀ W, Calls Tryz.prog 88 #[bitsV (inT (pathAt l c)), bitsV (inT T)] W fun e w' => e = .returned (bitsV (inT (nextT l T c))) ∧ Below W.heap.size W w') := fun W => meet_any T (pathAt l c) W hP8
  have HLS : Hid (∀ W, Calls Tryz.prog 89 #[bitsV (inT (nextT l T c)), bitsV (inT T)] W fun e w' => e = .returned (bitsV fun j => inT (nextT l T c) j && !inT T j) ∧ Below W.heap.size W w') := fun W => less_any (inT (nextT l T c)) (inT T) W
  have HN1 : Hid (∀ W, Nodes W B g l.length l.length l nb cv → Calls Tryz.prog 90 #[bitsV (fun j => inT (nextT l T c) j && !inT T j), .slice (some ⟨g, 0, none⟩) l.length l.length] W fun e w' => e = .returned (.string (stepAt l T c).ld) ∧ Below W.heap.size W w') := fun W hN => by
    have := names_any B g l nb cv (fun j => inT (nextT l T c) j && !inT T j) W hN hv
    rw [show selIx (fun j => inT (nextT l T c) j && !inT T j) l.length = loadT T (pathAt l c) from load_sel hv hT (path_is hc)] at this
    exact this
  have HN2 : Hid (∀ W, Nodes W B g l.length l.length l nb cv → Calls Tryz.prog 90 #[bitsV (inT (nextT l T c)), .slice (some ⟨g, 0, none⟩) l.length l.length] W fun e w' => e = .returned (.string (stepAt l T c).st) ∧ Below W.heap.size W w') := fun W hN => by
    have := names_any B g l nb cv (inT (nextT l T c)) W hN hv
    rw [state_sel hv (next_is hT hc)] at this
    exact this
  have HNM : Hid ((stepAt l T c).nm = ⟨#[c]⟩) := rfl
  have hR1 := h.bits.alloc (.cells #[.string ⟨#[]⟩, .string ⟨#[]⟩, .string ⟨#[]⟩] 50)
  clear h hv hT hc hP8 hW1
  generalize nextT l T c = U at *
  generalize pathAt l c = P at *
  generalize stepAt l T c = s at *
  generalize nb (segIx l c) = nn at *
  obtain ⟨⟨d0, d1, d2, d3⟩, d4, d5, d6, d7⟩ := bits_cells hR1
  clear hR1
  go_enter Tryz.func86, Tryz.ntmps86
  go_wp2_with fail
  clear d0 d1 d2 d3 d4 d5 d6 d7
  rw [← HW1.out]
  clear HW1
  refine wp_region_held_drew (S := (fun W => (∃ V, Held8 w0 B g l nb cv hb nx V W) ∧ Row W (w.heap.size + 1) 139 (bitCells (inT T)) ∧ Row W w.heap.size 50 #[.string ⟨#[]⟩, .string ⟨#[]⟩, .string ⟨#[]⟩] ∧ Only w W (· = hb))) (by kernel_rfl) ?_ (fun hHeld => ?_)
  · exact ⟨⟨T, HA1.out.below ((Below.refl _ W1).drew)⟩, HS5.out.below ((Below.refl _ W1).drew) HS5.out.lt, HS4.out.below ((Below.refl _ W1).drew) HS4.out.lt, HO1.out.drew'⟩
  refine take_at (i := 0) (d := 7) (v := .slice (some ⟨g, 0, none⟩) l.length l.length) rfl rfl (by kernel_rfl) (by kernel_rfl) (by kernel_rfl) (fun _ _ _ h => h) (by kernel_rfl) ((fun W hS => run_load_nodes_op rfl rfl (hS.1.elim fun V h => h.box))) (by assumption) ?_
  simp only [List.setIfInBounds_toArray, List.set_cons_succ, List.set_cons_zero]
  refine take_at (i := 1) (d := 8) (v := .slice (some ⟨g, 0, none⟩) l.length l.length) rfl rfl (by kernel_rfl) (by kernel_rfl) (by kernel_rfl) (fun _ _ _ h => h) (by kernel_rfl) ((fun W hS => run_load_nodes_op rfl rfl (hS.1.elim fun V h => h.box))) (by assumption) ?_
  simp only [List.setIfInBounds_toArray, List.set_cons_succ, List.set_cons_zero]
  refine take_at (i := 2) (d := 9) (v := .string ⟨#[c]⟩) rfl rfl (by kernel_rfl) (by kernel_rfl) (by kernel_rfl) (fun _ _ _ h => h) (by kernel_rfl) (by (intro w hSw; (try dsimp only at hSw); go_simp)) (by assumption) ?_
  simp only [List.setIfInBounds_toArray, List.set_cons_succ, List.set_cons_zero]
  refine take_at (i := 5) (d := 12) (v := bitsV (inT T)) rfl rfl (by kernel_rfl) (by kernel_rfl) (by kernel_rfl) (fun _ _ _ h => h) (by kernel_rfl) ((fun W hS => run_load_state_op rfl rfl hS.2.1)) (by assumption) ?_
  simp only [List.setIfInBounds_toArray, List.set_cons_succ, List.set_cons_zero]
  refine wpAnyH_ready (rs := [3]) (by kernel_rfl) (by simp) ?_
  refine AllReadyH.cons rfl (fun K hK => ?_) AllReadyH.nil
  go_simp
  obtain ⟨V, hV⟩ := hHeld.1
  refine (HFN.out _ hV.is).mono ?_
  rintro e W3 ⟨rfl, rfl⟩
  have hs3 := hHeld
  clear hHeld hV V
  refine hK.out _ _ hs3 (fun hHeld => ?_)
  clear hK K hs3
  refine wpAnyH_ready (rs := [4]) (by kernel_rfl) (by simp) ?_
  refine AllReadyH.cons rfl (fun K hK => ?_) AllReadyH.nil
  go_simp
  obtain ⟨V, hV⟩ := hHeld.1
  refine (HNF.out _ hV.is).mono ?_
  rintro e W4 ⟨rfl, hb4⟩
  have hs4 : (∃ V, Held8 w0 B g l nb cv hb nx V W4) ∧ Row W4 (w.heap.size + 1) 139 (bitCells (inT T)) ∧ Row W4 w.heap.size 50 #[.string ⟨#[]⟩, .string ⟨#[]⟩, .string ⟨#[]⟩] ∧ Only w W4 (· = hb) := ⟨⟨V, hV.below hb4⟩, hHeld.2.1.below hb4 hHeld.2.1.lt, hHeld.2.2.1.below hb4 hHeld.2.2.1.lt, hHeld.2.2.2.andBelow hb4⟩
  clear hHeld hV hb4 V
  refine hK.out _ _ hs4 (fun hHeld => ?_)
  clear hK K hs4
  refine wpAnyH_ready (rs := [6]) (by kernel_rfl) (by simp) ?_
  refine AllReadyH.cons rfl (fun K hK => ?_) AllReadyH.nil
  go_simp
  obtain ⟨V, hV⟩ := hHeld.1
  refine (HMT.out _).mono ?_
  rintro e W5 ⟨rfl, hb5⟩
  have hs5 : (∃ V, Held8 w0 B g l nb cv hb nx V W5) ∧ Row W5 (w.heap.size + 1) 139 (bitCells (inT T)) ∧ Row W5 w.heap.size 50 #[.string ⟨#[]⟩, .string ⟨#[]⟩, .string ⟨#[]⟩] ∧ Only w W5 (· = hb) := ⟨⟨V, hV.below hb5⟩, hHeld.2.1.below hb5 hHeld.2.1.lt, hHeld.2.2.1.below hb5 hHeld.2.2.1.lt, hHeld.2.2.2.andBelow hb5⟩
  clear hHeld hV hb5 V
  refine hK.out _ _ hs5 (fun hHeld => ?_)
  clear hK K hs5
  obtain ⟨V, hV⟩ := hHeld.1
  have HA5 := Lib.hid (hV.put U)
  have HS55 : Hid (Row (putBits W5 hb (inT U)) (w.heap.size + 1) 139 (bitCells (inT T))) := putBits_far hHeld.2.1 (by omega)
  have HS45 : Hid (Row (putBits W5 hb (inT U)) w.heap.size 50 #[.string ⟨#[]⟩, .string ⟨#[]⟩, .string ⟨#[]⟩]) := putBits_far hHeld.2.2.1 (by omega)
  have HO5 := Lib.hid (only_bits hHeld.2.2.2 (inT U))
  have hbb := hV.bits
  obtain ⟨⟨d0, d1, d2, d3⟩, d4, d5, d6, d7⟩ := bits_cells hbb
  have hfz := fun j => hbb.free j
  have z0 := hfz 0
  have z1 := hfz 1
  have z2 := hfz 2
  have z3 := hfz 3
  have z4 := hfz 4
  have z5 := hfz 5
  have z6 := hfz 6
  have z7 := hfz 7
  clear hfz hbb hV hHeld
  unfold bitsV bitCells
  refine wpAnyH_ready (rs := [7]) (by kernel_rfl) (by simp) ?_
  refine AllReadyH.cons rfl (fun K hK => ?_) AllReadyH.nil
  go_simp
  clear d0 d1 d2 d3 d4 d5 d6 d7 z0 z1 z2 z3 z4 z5 z6 z7
  refine hK.out _ (putBits W5 hb (inT U)) ⟨⟨U, HA5.out⟩, HS55.out, HS45.out, HO5.out⟩ (fun hHeld => ?_)
  clear hK K hHeld
  refine wpAnyH_done (by kernel_rfl) ?_ _
  generalize putBits W5 hb (inT U) = W6 at *
  go_wp2_with fail
  refine wp_region_held_drew (S := (fun W => Held8 w0 B g l nb cv hb nx U W ∧ Row W (w.heap.size + 1) 139 (bitCells (inT T)) ∧ (∃ x y z, Row W w.heap.size 50 #[.string x, .string y, .string z]) ∧ Only w W (· = hb))) (by kernel_rfl) ?_ (fun hHeld => ?_)
  · exact ⟨HA5.out.below ((Below.refl _ W6).drew), HS55.out.below ((Below.refl _ W6).drew) HS55.out.lt, ⟨_, _, _, HS45.out.below ((Below.refl _ W6).drew) HS45.out.lt⟩, HO5.out.drew'⟩
  refine take_at (i := 0) (d := 14) (v := .string ⟨#[c]⟩) rfl rfl (by kernel_rfl) (by kernel_rfl) (by kernel_rfl) (fun _ _ _ h => h) (by kernel_rfl) (by (intro w hSw; (try dsimp only at hSw); go_simp)) (by assumption) ?_
  simp only [List.setIfInBounds_toArray, List.set_cons_succ, List.set_cons_zero]
  refine take_at (i := 1) (d := 15) (v := bitsV (inT U)) rfl rfl (by kernel_rfl) (by kernel_rfl) (by kernel_rfl) (fun _ _ _ h => h) (by kernel_rfl) ((fun W hS => run_load_state_op rfl rfl hS.1.bits)) (by assumption) ?_
  simp only [List.setIfInBounds_toArray, List.set_cons_succ, List.set_cons_zero]
  refine take_at (i := 2) (d := 16) (v := bitsV (inT T)) rfl rfl (by kernel_rfl) (by kernel_rfl) (by kernel_rfl) (fun _ _ _ h => h) (by kernel_rfl) ((fun W hS => run_load_state_op rfl rfl hS.2.1)) (by assumption) ?_
  simp only [List.setIfInBounds_toArray, List.set_cons_succ, List.set_cons_zero]
  refine take_at (i := 4) (d := 18) (v := .slice (some ⟨g, 0, none⟩) l.length l.length) rfl rfl (by kernel_rfl) (by kernel_rfl) (by kernel_rfl) (fun _ _ _ h => h) (by kernel_rfl) ((fun W hS => run_load_nodes_op rfl rfl hS.1.box)) (by assumption) ?_
  simp only [List.setIfInBounds_toArray, List.set_cons_succ, List.set_cons_zero]
  refine take_at (i := 6) (d := 20) (v := bitsV (inT U)) rfl rfl (by kernel_rfl) (by kernel_rfl) (by kernel_rfl) (fun _ _ _ h => h) (by kernel_rfl) ((fun W hS => run_load_state_op rfl rfl hS.1.bits)) (by assumption) ?_
  simp only [List.setIfInBounds_toArray, List.set_cons_succ, List.set_cons_zero]
  refine take_at (i := 7) (d := 21) (v := .slice (some ⟨g, 0, none⟩) l.length l.length) rfl rfl (by kernel_rfl) (by kernel_rfl) (by kernel_rfl) (fun _ _ _ h => h) (by kernel_rfl) ((fun W hS => run_load_nodes_op rfl rfl hS.1.box)) (by assumption) ?_
  simp only [List.setIfInBounds_toArray, List.set_cons_succ, List.set_cons_zero]
  refine wpAnyH_ready (rs := [3]) (by kernel_rfl) (by simp) ?_
  refine AllReadyH.cons rfl (fun K hK => ?_) AllReadyH.nil
  go_simp
  refine (HLS.out _).mono ?_
  rintro e W7 ⟨rfl, hb7⟩
  have hs7 : Held8 w0 B g l nb cv hb nx U W7 ∧ Row W7 (w.heap.size + 1) 139 (bitCells (inT T)) ∧ (∃ x y z, Row W7 w.heap.size 50 #[.string x, .string y, .string z]) ∧ Only w W7 (· = hb) := ⟨hHeld.1.below hb7, hHeld.2.1.below hb7 hHeld.2.1.lt, hHeld.2.2.1.elim fun x h => h.elim fun y h => h.elim fun z h => ⟨x, y, z, h.below hb7 h.lt⟩, hHeld.2.2.2.andBelow hb7⟩
  clear hHeld hb7
  refine hK.out _ _ hs7 (fun hHeld => ?_)
  clear hK K hs7
  refine wpAnyH_ready (rs := [5]) (by kernel_rfl) (by simp) ?_
  refine AllReadyH.cons rfl (fun K hK => ?_) AllReadyH.nil
  go_simp
  refine (HN1.out _ hHeld.1.is).mono ?_
  rintro e W8 ⟨rfl, hb8⟩
  have hs8 : Held8 w0 B g l nb cv hb nx U W8 ∧ Row W8 (w.heap.size + 1) 139 (bitCells (inT T)) ∧ (∃ x y z, Row W8 w.heap.size 50 #[.string x, .string y, .string z]) ∧ Only w W8 (· = hb) := ⟨hHeld.1.below hb8, hHeld.2.1.below hb8 hHeld.2.1.lt, hHeld.2.2.1.elim fun x h => h.elim fun y h => h.elim fun z h => ⟨x, y, z, h.below hb8 h.lt⟩, hHeld.2.2.2.andBelow hb8⟩
  clear hHeld hb8
  refine hK.out _ _ hs8 (fun hHeld => ?_)
  clear hK K hs8
  refine wpAnyH_ready (rs := [8]) (by kernel_rfl) (by simp) ?_
  refine AllReadyH.cons rfl (fun K hK => ?_) AllReadyH.nil
  go_simp
  refine (HN2.out _ hHeld.1.is).mono ?_
  rintro e W9 ⟨rfl, hb9⟩
  have hs9 : Held8 w0 B g l nb cv hb nx U W9 ∧ Row W9 (w.heap.size + 1) 139 (bitCells (inT T)) ∧ (∃ x y z, Row W9 w.heap.size 50 #[.string x, .string y, .string z]) ∧ Only w W9 (· = hb) := ⟨hHeld.1.below hb9, hHeld.2.1.below hb9 hHeld.2.1.lt, hHeld.2.2.1.elim fun x h => h.elim fun y h => h.elim fun z h => ⟨x, y, z, h.below hb9 h.lt⟩, hHeld.2.2.2.andBelow hb9⟩
  clear hHeld hb9
  refine hK.out _ _ hs9 (fun hHeld => ?_)
  clear hK K hs9
  refine take_at (i := 9) (d := 23) (v := .agg #[.string ⟨#[c]⟩, .string s.ld, .string s.st]) rfl rfl (by kernel_rfl) (by kernel_rfl) (by kernel_rfl) (fun _ _ _ h => h) (by kernel_rfl) (by (intro w hSw; (try dsimp only at hSw); go_simp)) (by assumption) ?_
  simp only [List.setIfInBounds_toArray, List.set_cons_succ, List.set_cons_zero]
  obtain ⟨hh9, hq9, ⟨x, y, z, hr9⟩, ho9⟩ := hHeld
  have e0 := hr9.cell 0
  have e1 := hr9.cell 1
  have e2 := hr9.cell 2
  simp at e0 e1 e2
  have f0 := hr9.free 0
  have f1 := hr9.free 1
  have f2 := hr9.free 2
  have hbw : Below w.heap.size W9 (((W9.setCell ⟨w.heap.size, 0, none⟩ (.string ⟨#[c]⟩)).setCell ⟨w.heap.size, 1, none⟩ (.string s.ld)).setCell ⟨w.heap.size, 2, none⟩ (.string s.st)) :=
    (((Below.refl w.heap.size W9).setCell (Nat.le_refl _) _).setCell (Nat.le_refl _) _).setCell (Nat.le_refl _) _
  have HRX : Hid (Row (((W9.setCell ⟨w.heap.size, 0, none⟩ (.string ⟨#[c]⟩)).setCell ⟨w.heap.size, 1, none⟩ (.string s.ld)).setCell ⟨w.heap.size, 2, none⟩ (.string s.st)) w.heap.size 50 #[.string ⟨#[c]⟩, .string s.ld, .string s.st]) := ((hr9.put 0 _).put 1 _).put 2 _
  have hnx9 := hh9.box.lt
  have hne9 := hh9.ne
  have HAX : Hid (Held8 w0 B g l nb cv hb nx U (((W9.setCell ⟨w.heap.size, 0, none⟩ (.string ⟨#[c]⟩)).setCell ⟨w.heap.size, 1, none⟩ (.string s.ld)).setCell ⟨w.heap.size, 2, none⟩ (.string s.st))) := by
    have hxq : nx ≠ w.heap.size := fun e => by
      have h1 := hh9.box
      rw [e] at h1
      unfold Row at h1 hr9
      rw [h1] at hr9
      injection hr9 with hr9
      injection hr9 with _ hr9
      exact absurd hr9 (by decide)
    exact ⟨hh9.nodes, hh9.low.trans (hbw.mono (Nat.le_trans HH.out.lt (Nat.le_of_lt hlw))), ((hh9.bits.far (by show hb ≠ w.heap.size; omega) _).far (by show hb ≠ w.heap.size; omega) _).far (by show hb ≠ w.heap.size; omega) _, ((hh9.box.far hxq _).far hxq _).far hxq _, hh9.lt⟩
  have HOX : Hid (Only w (((W9.setCell ⟨w.heap.size, 0, none⟩ (.string ⟨#[c]⟩)).setCell ⟨w.heap.size, 1, none⟩ (.string s.ld)).setCell ⟨w.heap.size, 2, none⟩ (.string s.st)) (· = hb)) := ho9.andLow hbw
  have HQX : Hid (Row (((W9.setCell ⟨w.heap.size, 0, none⟩ (.string ⟨#[c]⟩)).setCell ⟨w.heap.size, 1, none⟩ (.string s.ld)).setCell ⟨w.heap.size, 2, none⟩ (.string s.st)) (w.heap.size + 1) 139 (bitCells (inT T))) := ((hq9.far (by show w.heap.size + 1 ≠ w.heap.size; omega) _).far (by show w.heap.size + 1 ≠ w.heap.size; omega) _).far (by show w.heap.size + 1 ≠ w.heap.size; omega) _
  clear hh9 hq9 hr9 ho9 hbw hnx9 hne9
  refine wpAnyH_ready (rs := [10]) (by kernel_rfl) (by simp) ?_
  refine AllReadyH.cons rfl (fun K hK => ?_) AllReadyH.nil
  go_simp
  clear e0 e1 e2 f0 f1 f2
  refine hK.out _ _ ⟨HAX.out, HQX.out, ⟨_, _, _, HRX.out⟩, HOX.out⟩ (fun hHeld => ?_)
  clear hK K hHeld
  refine wpAnyH_done (by kernel_rfl) ?_ _
  go_wp2
  rw [HNM.out]
  exact bodyPost_ret (v := .agg #[.string ⟨#[c]⟩, .string s.ld, .string s.st]) (results_cell_row (p := 4) (ty := 50) rfl _ _ w.heap.size 50 _ (0, 0) _ rfl HRX.out Tryz.underlying50 rfl (by kernel_rfl)) rfl ⟨rfl, HAX.out, HOX.out⟩

end Go.Proofs.YteokbgfiokbojaaGreat
/- A range over a function whose iterator writes a state of its own between two rounds. -/
namespace Go.Proofs.YteokbgfiokbojaaGreat
open Go.RowKit Go.Shelf

/-- What may be written beside: what is no row of cells, or a state of loading. -/
def RowS (A : World) (r : Nat) : Prop := ∃ o : Obj, A.heap[r]? = some o ∧ (o.isCells = false ∨ ∃ c fz, o = .cells c 139 fz)
def OwnFromS {β : Type} (B : Nat) (I : β → World → Prop) : Prop := ∀ s W W' row, I s W → W.grownBy W' row → (∀ r, row = some r → B ≤ r ∧ RowS W r) → I s W'
theorem OwnFromS.plain {β : Type} {B : Nat} {I : β → World → Prop} (h : OwnFromS B I) : OwnFrom B I := fun s W W' row hs hg hr => h s W W' row hs hg (fun r e => ⟨(hr r e).1, (hr r e).2.elim fun o ho => ⟨o, ho.1, .inl ho.2⟩⟩)
theorem RowS.ne {W : World} {r b : Nat} {t : TypeId} {cs : Array Value} {fz : Nat × Nat} (h : RowS W r) (hb : W.heap[b]? = some (.cells cs t fz)) (ht : t ≠ 139) : r ≠ b := fun e => by
  subst e
  obtain ⟨o, ho, hc⟩ := h
  rw [hb] at ho
  injection ho with ho
  rcases hc with hc | ⟨c, fz', hc⟩
  · subst ho; cases hc
  · rw [← ho] at hc
    injection hc with _ hc
    exact ht hc
theorem row_grownS {W W' : World} {b : Nat} {t : TypeId} {cs : Array Value} {row : Option Nat} (h : Row W b t cs) (hg : W.grownBy W' row) (hr : ∀ r, row = some r → RowS W r) (ht : t ≠ 139) : Row W' b t cs :=
  (hg.block b h.lt (fun he => (hr b he.symm).ne (h : W.heap[b]? = some (.cells cs t (0, 0))) ht rfl)).trans h
theorem BoxAt.grownS {W W' : World} {n₀ D Bs : Nat} {v : Value} {t : TypeId} {row : Option Nat} (h : BoxAt W n₀ D Bs v t) (hg : W.grownBy W' row) (hr : ∀ r, row = some r → RowS W r) (ht : t ≠ 139) : BoxAt W' n₀ D Bs v t :=
  ⟨h.1, h.2.1, row_grownS (h.2.2 : Row W Bs t #[v]) hg hr ht⟩
theorem grown_of_only {W W' : World} {b : Nat} (h : Only W W' (· = b)) : W.grownBy W' (some b) := ⟨h.os, h.tape, h.output, h.size, fun k hk hne => h.block k hk (fun e => hne (by rw [e]))⟩

/-- An iterator's contract, where the iterator writes states of its own between rounds: the rounds that go on keep all from 'D' on (and what lies below 'n₀'), a round that says 'no more' keeps what the iterator itself has laid. -/
def SeqS {α : Type} (n : Nat) (g : Nat) (lb : Array Value) (encs : α → Array Value) (n₀ D : Nat) (S Sp : List α → Prop) (N : Nat) (w : World) : Prop :=
  ∀ (l : Nat) (J Jx : List α → World → Prop) (W : World), Below w.heap.size w W → D ≤ W.heap.size → OwnFromS W.heap.size J → OwnFromS W.heap.size Jx →
    (∀ pre x W1, J pre W1 → pre.length < N → W.heap.size ≤ W1.heap.size → YieldAt Fence.wide (n - 1) Tryz.prog l (encs x) W1 fun e W' =>
      (e = .returned (.bool true) ∧ J (pre ++ [x]) W' ∧ Below n₀ W1 W' ∧ KeepsN D W1 W') ∨ (e = .returned (.bool false) ∧ Jx (pre ++ [x]) W' ∧ KeepsN W.heap.size W1 W')) →
    J [] W →
    CallsIn Fence.wide n Tryz.prog g (#[.func (.yield l) #[] #[]] ++ lb) W fun e W' => (∃ v, e = .returned v) ∧ ((∃ xs, S xs ∧ J xs W') ∨ (∃ pre, Sp pre ∧ Jx pre W'))

end Go.Proofs.YteokbgfiokbojaaGreat
