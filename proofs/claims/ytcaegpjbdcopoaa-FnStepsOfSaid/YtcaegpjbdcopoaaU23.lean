/- Joined: Gm Yg. -/
import Derived.Test.YtcaegpjbdcopoaaU22
import Derived.Test.YtcaegpjbdcopoaaU01
import Derived.Test.YtcaegpjbdcopoaaU18
import Derived.Test.YtcaegpjbdcopoaaU08
/- impl.meetNeed: the states ahead of a need and behind it. -/
namespace Go.Proofs.Ytcaegpjbdcopoaa
open Go.RowKit Go.Shelf

theorem results_two_states {fn : Func} {p q r : Tmp} {ty tz : TypeId} (h : fn.results = #[.cell p ty, .cell q tz, .tmp r]) (tmps : Array Value) (w : World) (a b : Addr) (u v : Value)
    (hp : tmps.getD p undef = .pointer (some a)) (hu : (loadVar ty a).run Try.prog w = .ok u w) (hq : tmps.getD q undef = .pointer (some b)) (hv : (loadVar tz b).run Try.prog w = .ok v w) :
    (results fn tmps).run Try.prog w = .ok (.tuple #[u, v, tmps.getD r undef]) w := by
  have hp' : tmps[p]?.getD undef = .pointer (some a) := by simpa using hp
  have hq' : tmps[q]?.getD undef = .pointer (some b) := by simpa using hq
  simp [results, h, hp', hq', asAddr, hu, hv]
theorem run_load_state_op {ρ : Operand → Value} {o : Oper} {x : Operand} {b : Nat} {f : Nat → Bool} {w : World} (ho : o.op = .load 80 x) (hx : ρ x = .pointer (some ⟨b, 0, none⟩)) (h : Row w b 80 (bitCells f)) :
    (execOp ρ o).run Try.prog w = .ok (.value (bitsV f)) w := by
  unfold execOp
  simp only [ho, hx, Instr.loadAt, Instr.sureAddr, Sem.run_bind, Sem.run_pure, Result.andThen_ok, run_loadState h]

set_option maxRecDepth 100000 in
set_option maxHeartbeats 400000 in
theorem meetNeed_bad (s t : ByteArray) (w : World) :
    Calls Try.prog 50 #[.slice none 0 0, .string s, .string t] w fun e w' => e = .returned (.tuple #[bitsV (inT []), bitsV (inT []), .bool false]) ∧ Below w.heap.size w w' := by
  have HF := Lib.hid (fun W => findState_bad s W)
  unfold bitsV bitCells at HF
  have hR : ∀ W1, Below (w.heap.size + 1 + 1) ((w.alloc (.cells (bitCells fun _ => false) 80)).alloc (.cells (bitCells fun _ => false) 80)) W1 → Row W1 w.heap.size 80 (bitCells fun _ => false) ∧ Row W1 (w.heap.size + 1) 80 (bitCells fun _ => false) ∧ Below w.heap.size w W1 := fun W1 hb => by
    refine ⟨((Row.new w _ _).alloc _).below hb (by omega), Row.below ?_ hb (by omega), (((Below.refl _ w).alloc (Nat.le_refl _) _).alloc (by simp) _).trans (hb.mono (by omega))⟩
    have := Row.new (w.alloc (.cells (bitCells fun _ => false) 80)) 80 (bitCells fun _ => false)
    simpa using this
  have HR := Lib.hid hR
  clear hR
  go_enter Try.func50, Try.ntmps50
  go_wp2_with fail
  refine (HF.out _).mono ?_
  rintro e w1 ⟨rfl, hb1⟩
  rw [World.size_alloc, World.size_alloc] at hb1
  obtain ⟨r1, r2, r3⟩ := HR.out w1 hb1
  obtain ⟨⟨d0, d1, d2, d3⟩, d4, d5, d6, d7⟩ := bits_cells r1
  obtain ⟨⟨e0, e1, e2, e3⟩, e4, e5, e6, e7⟩ := bits_cells r2
  have hfz := fun j => r1.free j
  have z0 := hfz 0
  have z1 := hfz 1
  have z2 := hfz 2
  have z3 := hfz 3
  have z4 := hfz 4
  have z5 := hfz 5
  have z6 := hfz 6
  have z7 := hfz 7
  have hfy := fun j => r2.free j
  have y0 := hfy 0
  have y1 := hfy 1
  have y2 := hfy 2
  have y3 := hfy 3
  have y4 := hfy 4
  have y5 := hfy 5
  have y6 := hfy 6
  have y7 := hfy 7
  have HRow : Hid (Row (putBits (putBits (putBits w1 w.heap.size (inT [])) w.heap.size fun _ => false) (w.heap.size + 1) fun _ => false) w.heap.size 80 (bitCells fun _ => false)) := putBits_far (putBits_row (putBits_row r1)) (by omega)
  have HRow2 : Hid (Row (putBits (putBits (putBits w1 w.heap.size (inT [])) w.heap.size fun _ => false) (w.heap.size + 1) fun _ => false) (w.heap.size + 1) 80 (bitCells fun _ => false)) := putBits_row (putBits_far (putBits_far r2 (by omega)) (by omega))
  have HBel : Hid (Below w.heap.size w (putBits (putBits (putBits w1 w.heap.size (inT [])) w.heap.size fun _ => false) (w.heap.size + 1) fun _ => false)) := putBits_below (putBits_below (putBits_below r3 (Nat.le_refl _)) (Nat.le_refl _)) (by omega)
  clear hfz hfy hb1 r1 r2 r3
  go_wp2_with fail
  refine (findNode_nil _ _).mono ?_
  rintro e w2 ⟨rfl, rfl⟩
  go_wp2
  exact bodyPost_ret (v := .tuple #[bitsV fun _ => false, bitsV fun _ => false, .bool false]) (results_two_states (p := 6) (q := 7) (r := 8) (ty := 80) (tz := 80) rfl _ (putBits (putBits (putBits w1 w.heap.size (inT [])) w.heap.size fun _ => false) (w.heap.size + 1) fun _ => false) ⟨w.heap.size, 0, none⟩ ⟨w.heap.size + 1, 0, none⟩ _ _ rfl (run_loadState HRow.out) rfl (run_loadState HRow2.out)) rfl ⟨rfl, HBel.out⟩

set_option maxRecDepth 100000 in
set_option maxHeartbeats 1000000 in
theorem meetNeed_no (B g : Nat) (l : List Seg) (nb : Nat → Nat) (cv : Nat → Value) (s t : ByteArray) (w : World) (h : Nodes w B g l.length l.length l nb cv) (hv : validB l = true) (hno : needOk l s t = false) :
    Calls Try.prog 50 #[.slice (some ⟨g, 0, none⟩) l.length l.length, .string s, .string t] w fun e w' => e = .returned (.tuple #[bitsV (inT []), bitsV (inT []), .bool false]) ∧ Below w.heap.size w w' := by
  have h8 := (valid_all hv).2.1
  have HN := Lib.hid h
  have hR : ∀ W1, Below (w.heap.size + 1 + 1) ((w.alloc (.cells (bitCells fun _ => false) 80)).alloc (.cells (bitCells fun _ => false) 80)) W1 → Row W1 w.heap.size 80 (bitCells fun _ => false) ∧ Row W1 (w.heap.size + 1) 80 (bitCells fun _ => false) ∧ Below w.heap.size w W1 := fun W1 hb => by
    refine ⟨((Row.new w _ _).alloc _).below hb (by omega), Row.below ?_ hb (by omega), (((Below.refl _ w).alloc (Nat.le_refl _) _).alloc (by simp) _).trans (hb.mono (by omega))⟩
    have := Row.new (w.alloc (.cells (bitCells fun _ => false) 80)) 80 (bitCells fun _ => false)
    simpa using this
  have HR := Lib.hid hR
  have HF := Lib.hid (fun W hW => findState_any B g l nb cv s W hW hv)
  have HN0 : Hid (Nodes ((w.alloc (.cells (bitCells fun _ => false) 80)).alloc (.cells (bitCells fun _ => false) 80)) B g l.length l.length l nb cv) := h.below (((Below.refl _ w).alloc (Nat.le_refl _) _).alloc (by simp) _)
  have hcase : stOk l s = false ∨ (stOk l s = true ∧ ∀ nb, foundPtr l nb t = none) := by
    unfold needOk at hno
    cases hq : stOk l s with
    | false => exact .inl rfl
    | true =>
      rw [hq, Bool.true_and] at hno
      have h1 : ¬ 0 ≤ indexB l t := of_decide_eq_false hno
      have h2 : indexB l t = seek l t := if_pos hv
      exact .inr ⟨rfl, fun nb => if_pos (by omega)⟩
  generalize hsk : stOk l s = ok at *
  clear hR h hno hsk
  unfold bitCells at HN0
  go_enter Try.func50, Try.ntmps50
  go_wp2_with fail
  refine (HF.out _ HN0.out).mono ?_
  unfold bitsV bitCells
  rintro e w1 ⟨rfl, hb1⟩
  rw [World.size_alloc, World.size_alloc] at hb1
  obtain ⟨r1, r2, r3⟩ := HR.out w1 hb1
  obtain ⟨⟨d0, d1, d2, d3⟩, d4, d5, d6, d7⟩ := bits_cells r1
  have hfz := fun j => r1.free j
  have z0 := hfz 0
  have z1 := hfz 1
  have z2 := hfz 2
  have z3 := hfz 3
  have z4 := hfz 4
  have z5 := hfz 5
  have z6 := hfz 6
  have z7 := hfz 7
  clear hfz
  have q1 := putBits_row (f := inT (stT l s)) r1
  have q2 := putBits_far (f := inT (stT l s)) (b := w.heap.size) r2 (by omega)
  have q3 := putBits_below (f := inT (stT l s)) r3 (Nat.le_refl w.heap.size)
  have HNW := Lib.hid (HN.out.below q3)
  generalize hW2 : putBits w1 w.heap.size (inT (stT l s)) = W2 at *
  have HFN : Hid (Calls Try.prog 76 #[.slice (some ⟨g, 0, none⟩) l.length l.length, .string t] (putBits w1 w.heap.size (inT (stT l s))) fun e w' => e = .returned (.pointer (foundPtr l nb t)) ∧ W2 = w') := by
    rw [hW2]
    exact findNode_any _ _ _ _ _ _ _ HNW.out (by omega)
  have Q1 := Lib.hid q1
  have Q2 := Lib.hid q2
  have Q3 := Lib.hid q3
  clear hb1 r1 r2 r3 q1 q2 q3 hW2
  generalize stT l s = T at *
  go_wp2_with fail
  refine HFN.out.mono ?_
  rintro e w2 ⟨rfl, rfl⟩
  clear HFN d0 d1 d2 d3 d4 d5 d6 d7 z0 z1 z2 z3 z4 z5 z6 z7
  have q1 := Q1.out
  have q2 := Q2.out
  obtain ⟨⟨d0, d1, d2, d3⟩, d4, d5, d6, d7⟩ := bits_cells q1
  have hfz := fun j => q1.free j
  have z0 := hfz 0
  have z1 := hfz 1
  have z2 := hfz 2
  have z3 := hfz 3
  have z4 := hfz 4
  have z5 := hfz 5
  have z6 := hfz 6
  have z7 := hfz 7
  clear hfz
  obtain ⟨⟨e0, e1, e2, e3⟩, e4, e5, e6, e7⟩ := bits_cells q2
  have hfy := fun j => q2.free j
  have y0 := hfy 0
  have y1 := hfy 1
  have y2 := hfy 2
  have y3 := hfy 3
  have y4 := hfy 4
  have y5 := hfy 5
  have y6 := hfy 6
  have y7 := hfy 7
  clear hfy
  have HRow : Hid (Row (putBits (putBits W2 w.heap.size fun _ => false) (w.heap.size + 1) fun _ => false) w.heap.size 80 (bitCells fun _ => false)) := putBits_far (putBits_row q1) (by omega)
  have HRow2 : Hid (Row (putBits (putBits W2 w.heap.size fun _ => false) (w.heap.size + 1) fun _ => false) (w.heap.size + 1) 80 (bitCells fun _ => false)) := putBits_row (putBits_far q2 (by omega))
  have HBel : Hid (Below w.heap.size w (putBits (putBits W2 w.heap.size fun _ => false) (w.heap.size + 1) fun _ => false)) := putBits_below (putBits_below Q3.out (Nat.le_refl _)) (by omega)
  clear q1 q2
  rcases hcase with rfl | ⟨rfl, hfp⟩
  · go_wp2
    exact bodyPost_ret (v := .tuple #[bitsV fun _ => false, bitsV fun _ => false, .bool false]) (results_two_states (p := 6) (q := 7) (r := 8) (ty := 80) (tz := 80) rfl _ (putBits (putBits W2 w.heap.size fun _ => false) (w.heap.size + 1) fun _ => false) ⟨w.heap.size, 0, none⟩ ⟨w.heap.size + 1, 0, none⟩ _ _ rfl (run_loadState HRow.out) rfl (run_loadState HRow2.out)) rfl ⟨rfl, HBel.out⟩
  · have HFP := Lib.hid (hfp nb)
    clear hfp
    rw [HFP.out]
    go_wp2
    exact bodyPost_ret (v := .tuple #[bitsV fun _ => false, bitsV fun _ => false, .bool false]) (results_two_states (p := 6) (q := 7) (r := 8) (ty := 80) (tz := 80) rfl _ (putBits (putBits W2 w.heap.size fun _ => false) (w.heap.size + 1) fun _ => false) ⟨w.heap.size, 0, none⟩ ⟨w.heap.size + 1, 0, none⟩ _ _ rfl (run_loadState HRow.out) rfl (run_loadState HRow2.out)) rfl ⟨rfl, HBel.out⟩

set_option maxRecDepth 100000 in
set_option maxHeartbeats 1000000 in
theorem meetNeed_yes (B g : Nat) (l : List Seg) (nb : Nat → Nat) (cv : Nat → Value) (s t : ByteArray) (w : World) (h : Nodes w B g l.length l.length l nb cv) (hv : validB l = true) (hyes : needOk l s t = true) :
    Calls Try.prog 50 #[.slice (some ⟨g, 0, none⟩) l.length l.length, .string s, .string t] w fun e w' => e = .returned (.tuple #[bitsV (inT (stT l s)), bitsV (inT (needT (stT l s) (pathIx l t))), .bool true]) ∧ Below w.heap.size w w' := by
  have h8 := (valid_all hv).2.1
  have HN := Lib.hid h
  have hR : ∀ W1, Below (w.heap.size + 1 + 1) ((w.alloc (.cells (bitCells fun _ => false) 80)).alloc (.cells (bitCells fun _ => false) 80)) W1 → Row W1 w.heap.size 80 (bitCells fun _ => false) ∧ Row W1 (w.heap.size + 1) 80 (bitCells fun _ => false) ∧ Below w.heap.size w W1 := fun W1 hb => by
    refine ⟨((Row.new w _ _).alloc _).below hb (by omega), Row.below ?_ hb (by omega), (((Below.refl _ w).alloc (Nat.le_refl _) _).alloc (by simp) _).trans (hb.mono (by omega))⟩
    have := Row.new (w.alloc (.cells (bitCells fun _ => false) 80)) 80 (bitCells fun _ => false)
    simpa using this
  have HR := Lib.hid hR
  have HF := Lib.hid (fun W hW => findState_any B g l nb cv s W hW hv)
  have HN0 : Hid (Nodes ((w.alloc (.cells (bitCells fun _ => false) 80)).alloc (.cells (bitCells fun _ => false) 80)) B g l.length l.length l nb cv) := h.below (((Below.refl _ w).alloc (Nat.le_refl _) _).alloc (by simp) _)
  obtain ⟨hok, h0⟩ := needOk_parts hyes
  have hi := index_lt h0
  have HFP : Hid (foundPtr l nb t = some ⟨nb (indexB l t).toNat, 0, none⟩) := by
    have h2 : indexB l t = seek l t := if_pos hv
    show foundPtr l nb t = _
    unfold foundPtr
    rw [if_neg (by omega), h2]
  have HPX : Hid (pathIx l t = rp l (indexB l t).toNat) := rfl
  have HP8 : Hid (∀ j ∈ rp l (indexB l t).toNat, j < 8) := fun j hj => by
    have := rootPath_lt (valid_all hv).1.down _ _ hi j hj
    omega
  have HV := Lib.hid hv
  clear hR h hyes h0
  rw [HPX.out]
  generalize (indexB l t).toNat = i at *
  unfold bitCells at HN0
  go_enter Try.func50, Try.ntmps50
  go_wp2_with fail
  refine (HF.out _ HN0.out).mono ?_
  unfold bitsV bitCells
  rw [hok]
  rintro e w1 ⟨rfl, hb1⟩
  clear hok
  rw [World.size_alloc, World.size_alloc] at hb1
  obtain ⟨r1, r2, r3⟩ := HR.out w1 hb1
  obtain ⟨⟨d0, d1, d2, d3⟩, d4, d5, d6, d7⟩ := bits_cells r1
  have hfz := fun j => r1.free j
  have z0 := hfz 0
  have z1 := hfz 1
  have z2 := hfz 2
  have z3 := hfz 3
  have z4 := hfz 4
  have z5 := hfz 5
  have z6 := hfz 6
  have z7 := hfz 7
  clear hfz
  have q1 := putBits_row (f := inT (stT l s)) r1
  have q2 := putBits_far (f := inT (stT l s)) (b := w.heap.size) r2 (by omega)
  have q3 := putBits_below (f := inT (stT l s)) r3 (Nat.le_refl w.heap.size)
  have HNW := Lib.hid (HN.out.below q3)
  generalize hW2 : putBits w1 w.heap.size (inT (stT l s)) = W2 at *
  have HFN : Hid (Calls Try.prog 76 #[.slice (some ⟨g, 0, none⟩) l.length l.length, .string t] (putBits w1 w.heap.size (inT (stT l s))) fun e w' => e = .returned (.pointer (foundPtr l nb t)) ∧ W2 = w') := by
    rw [hW2]
    exact findNode_any _ _ _ _ _ _ _ HNW.out (by omega)
  have Q1 := Lib.hid q1
  have Q2 := Lib.hid q2
  have Q3 := Lib.hid q3
  clear hb1 r1 r2 r3 q1 q2 q3 hW2
  go_wp2_with fail
  refine HFN.out.mono ?_
  rintro e w2 ⟨rfl, rfl⟩
  clear HFN d0 d1 d2 d3 d4 d5 d6 d7 z0 z1 z2 z3 z4 z5 z6 z7
  rw [HFP.out]
  go_wp2
  refine wp_region_held_drew (S := (fun W => Row W w.heap.size 80 (bitCells (inT (stT l s))) ∧ (∃ f2, Row W (w.heap.size + 1) 80 (bitCells f2)) ∧ Below w.heap.size w W ∧ Nodes W B g l.length l.length l nb cv)) (by kernel_rfl) ?_ (fun hHeld => ?_)
  · exact ⟨Q1.out, ⟨_, Q2.out⟩, Q3.out.drew, HNW.out.below ((Below.refl _ _).drew)⟩
  refine take_at (i := 0) (d := 27) (v := bitsV (inT (stT l s))) rfl rfl (by kernel_rfl) (by kernel_rfl) (by kernel_rfl) (fun _ _ _ h => h) (by kernel_rfl) ((fun W hS => run_load_state_op rfl rfl hS.1)) (by assumption) ?_
  simp only [List.setIfInBounds_toArray, List.set_cons_succ, List.set_cons_zero]
  refine take_at (i := 1) (d := 28) (v := .slice (some ⟨g, 0, none⟩) l.length l.length) rfl rfl (by kernel_rfl) (by kernel_rfl) (by kernel_rfl) (fun _ _ _ h => h) (by kernel_rfl) (by (intro w hSw; (try dsimp only at hSw); go_simp)) (by assumption) ?_
  simp only [List.setIfInBounds_toArray, List.set_cons_succ, List.set_cons_zero]
  refine take_at (i := 2) (d := 29) (v := .pointer (some ⟨nb i, 0, none⟩)) rfl rfl (by kernel_rfl) (by kernel_rfl) (by kernel_rfl) (fun _ _ _ h => h) (by kernel_rfl) (by (intro w hSw; (try dsimp only at hSw); go_simp)) (by assumption) ?_
  simp only [List.setIfInBounds_toArray, List.set_cons_succ, List.set_cons_zero]
  refine take_at (i := 4) (d := 31) (v := bitsV (inT (stT l s))) rfl rfl (by kernel_rfl) (by kernel_rfl) (by kernel_rfl) (fun _ _ _ h => h) (by kernel_rfl) ((fun W hS => run_load_state_op rfl rfl hS.1)) (by assumption) ?_
  simp only [List.setIfInBounds_toArray, List.set_cons_succ, List.set_cons_zero]
  refine wpAnyH_ready (rs := [3]) (by kernel_rfl) (by simp) ?_
  refine AllReadyH.cons rfl (fun K hK => ?_) AllReadyH.nil
  go_simp
  refine (needFor_any B g i l nb cv _ hHeld.2.2.2 HV.out hi).mono ?_
  rintro e W3 ⟨rfl, hb3⟩
  have hs3 : Row W3 w.heap.size 80 (bitCells (inT (stT l s))) ∧ (∃ f2, Row W3 (w.heap.size + 1) 80 (bitCells f2)) ∧ Below w.heap.size w W3 ∧ Nodes W3 B g l.length l.length l nb cv := ⟨hHeld.1.below hb3 hHeld.1.lt, (hHeld.2.1.elim fun f2 h => ⟨f2, h.below hb3 h.lt⟩), hHeld.2.2.1.trans (hb3.mono hHeld.2.2.1.size), hHeld.2.2.2.below hb3⟩
  clear hb3 hHeld
  refine hK.out _ _ hs3 (fun hHeld => ?_)
  clear hK K hs3
  refine wpAnyH_ready (rs := [5]) (by kernel_rfl) (by simp) ?_
  refine AllReadyH.cons rfl (fun K hK => ?_) AllReadyH.nil
  go_simp
  refine (meet_any (stT l s) (rp l i) _ HP8.out).mono ?_
  rintro e W4 ⟨rfl, hb4⟩
  have hs4 : Row W4 w.heap.size 80 (bitCells (inT (stT l s))) ∧ (∃ f2, Row W4 (w.heap.size + 1) 80 (bitCells f2)) ∧ Below w.heap.size w W4 ∧ Nodes W4 B g l.length l.length l nb cv := ⟨hHeld.1.below hb4 hHeld.1.lt, (hHeld.2.1.elim fun f2 h => ⟨f2, h.below hb4 h.lt⟩), hHeld.2.2.1.trans (hb4.mono hHeld.2.2.1.size), hHeld.2.2.2.below hb4⟩
  clear hb4 hHeld
  refine hK.out _ _ hs4 (fun hHeld => ?_)
  clear hK K hs4
  obtain ⟨f2, hr2'⟩ := hHeld.2.1
  obtain ⟨⟨d0, d1, d2, d3⟩, d4, d5, d6, d7⟩ := bits_cells hHeld.1
  have hfz := fun j => hHeld.1.free j
  have z0 := hfz 0
  have z1 := hfz 1
  have z2 := hfz 2
  have z3 := hfz 3
  have z4 := hfz 4
  have z5 := hfz 5
  have z6 := hfz 6
  have z7 := hfz 7
  clear hfz
  obtain ⟨⟨e0, e1, e2, e3⟩, e4, e5, e6, e7⟩ := bits_cells hr2'
  have hfy := fun j => hr2'.free j
  have y0 := hfy 0
  have y1 := hfy 1
  have y2 := hfy 2
  have y3 := hfy 3
  have y4 := hfy 4
  have y5 := hfy 5
  have y6 := hfy 6
  have y7 := hfy 7
  clear hfy
  unfold bitsV bitCells
  refine wpAnyH_ready (rs := [6]) (by kernel_rfl) (by simp) ?_
  refine AllReadyH.cons rfl (fun K hK => ?_) AllReadyH.nil
  go_simp
  have hs5 : Row (putBits W4 w.heap.size (inT (stT l s))) w.heap.size 80 (bitCells (inT (stT l s))) ∧ (∃ f2, Row (putBits W4 w.heap.size (inT (stT l s))) (w.heap.size + 1) 80 (bitCells f2)) ∧ Below w.heap.size w (putBits W4 w.heap.size (inT (stT l s))) ∧ Nodes (putBits W4 w.heap.size (inT (stT l s))) B g l.length l.length l nb cv := ⟨putBits_row hHeld.1, ⟨_, putBits_far hr2' (by omega)⟩, putBits_below hHeld.2.2.1 (Nat.le_refl _), HN.out.below (putBits_below hHeld.2.2.1 (Nat.le_refl _))⟩
  clear hHeld hr2' d0 d1 d2 d3 d4 d5 d6 d7 z0 z1 z2 z3 z4 z5 z6 z7 e0 e1 e2 e3 e4 e5 e6 e7 y0 y1 y2 y3 y4 y5 y6 y7
  refine hK.out _ (putBits W4 w.heap.size (inT (stT l s))) hs5 (fun hHeld => ?_)
  clear hK K hs5
  generalize putBits W4 w.heap.size (inT (stT l s)) = W5 at *
  have hr1 : Row W5 w.heap.size 80 (bitCells (inT (stT l s))) := hHeld.1
  obtain ⟨f3, hr2⟩ : ∃ f2, Row W5 (w.heap.size + 1) 80 (bitCells f2) := hHeld.2.1
  have R1 := Lib.hid (putBits_far (f := inT (needT (stT l s) (rp l i))) (b := w.heap.size + 1) hr1 (by omega))
  have R2 := Lib.hid (putBits_row (f := inT (needT (stT l s) (rp l i))) hr2)
  have R3 := Lib.hid (putBits_below (f := inT (needT (stT l s) (rp l i))) (b := w.heap.size + 1) hHeld.2.2.1 (by omega))
  have R4 := Lib.hid (HN.out.below R3.out)
  obtain ⟨⟨e0, e1, e2, e3⟩, e4, e5, e6, e7⟩ := bits_cells hr2
  have hfy := fun j => hr2.free j
  have y0 := hfy 0
  have y1 := hfy 1
  have y2 := hfy 2
  have y3 := hfy 3
  have y4 := hfy 4
  have y5 := hfy 5
  have y6 := hfy 6
  have y7 := hfy 7
  clear hfy
  clear hr1 hr2 hHeld
  refine wpAnyH_ready (rs := [7]) (by kernel_rfl) (by simp) ?_
  refine AllReadyH.cons rfl (fun K hK => ?_) AllReadyH.nil
  go_simp
  refine hK.out _ (putBits W5 (w.heap.size + 1) (inT (needT (stT l s) (rp l i)))) ⟨R1.out, ⟨_, R2.out⟩, R3.out, R4.out⟩ (fun hHeld => ?_)
  clear hK K
  refine take_at (i := 8) (d := 8) (v := .bool true) rfl rfl (by kernel_rfl) (by kernel_rfl) (by kernel_rfl) (fun _ _ _ h => h) (by kernel_rfl) (by (intro w hSw; (try dsimp only at hSw); go_simp)) (by assumption) ?_
  simp only [List.setIfInBounds_toArray, List.set_cons_succ, List.set_cons_zero]
  refine wpAnyH_done (by kernel_rfl) ?_ _
  go_wp2
  exact bodyPost_ret (v := .tuple #[bitsV (inT (stT l s)), bitsV (inT (needT (stT l s) (rp l i))), .bool true]) (results_two_states (p := 6) (q := 7) (r := 8) (ty := 80) (tz := 80) rfl _ (putBits W5 (w.heap.size + 1) (inT (needT (stT l s) (rp l i)))) ⟨w.heap.size, 0, none⟩ ⟨w.heap.size + 1, 0, none⟩ _ _ rfl (run_loadState R1.out) rfl (run_loadState R2.out)) rfl ⟨rfl, R3.out⟩

end Go.Proofs.Ytcaegpjbdcopoaa
/- The program's closure that meets a need. -/
namespace Go.Proofs.Ytcaegpjbdcopoaa
open Go.RowKit Go.Shelf
attribute [local go_sem] Oper.semAt_some

theorem run_loadNodes {w : World} {b : Addr} {a : Option Addr} {k c : Nat} (h : w.cell? b = some (.slice a k c)) : (loadVar 77 b).run Try.prog w = .ok (.slice a k c) w := by
  simp [go_sem, h]
theorem run_load_nodes_op {ρ : Operand → Value} {o : Oper} {x : Operand} {b : Nat} {a : Option Addr} {k c : Nat} {w : World} (ho : o.op = .load 77 x) (hx : ρ x = .pointer (some ⟨b, 0, none⟩)) (h : Row w b 77 #[.slice a k c]) :
    (execOp ρ o).run Try.prog w = .ok (.value (.slice a k c)) w := by
  unfold execOp
  simp only [ho, hx, Instr.loadAt, Instr.sureAddr, Sem.run_bind, Sem.run_pure, Result.andThen_ok, run_loadNodes (h.cell 0)]
theorem found_seg {l : List Seg} {nb : Nat → Nat} {c : UInt8} (hv : validB l = true) (hc : callP l c = true) : foundPtr l nb ⟨#[c]⟩ = some ⟨nb (segIx l c), 0, none⟩ := by
  have h1 := (callP_ix hc).1
  have h2 : indexB l ⟨#[c]⟩ = seek l ⟨#[c]⟩ := if_pos hv
  unfold foundPtr
  rw [if_neg (by omega), ← h2, h1, Int.toNat_natCast]
theorem load_sel {l : List Seg} (hv : validB l = true) {T P : List Nat} (hT : IsState l T) (hP : IsState l P) : selIx (fun j => inT (needT T P) j && !inT T j) l.length = loadT T P := by
  have hd := (valid_all hv).1.down
  have h1 : (fun j => inT (needT T P) j && !inT T j) = (fun j => decide (j ∈ loadT T P)) := by
    funext j
    unfold inT loadT lessT
    simp only [List.mem_filter]
    by_cases h2 : j ∈ needT T P <;> by_cases h3 : j ∈ T <;> simp [h2, h3]
  rw [h1]
  exact sel_mem (List.Pairwise.filter _ ((needT_state hT hP).asc hd)) (load_lt hd hT hP)
theorem state_sel {l : List Seg} (hv : validB l = true) {T : List Nat} (hT : IsState l T) : selIx (inT T) l.length = T := sel_mem (hT.asc (valid_all hv).1.down) (hT.lt (valid_all hv).1.down)
theorem only_bits {w w' : World} {b : Nat} (h : Only w w' (· = b)) (f : Nat → Bool) : Only w (putBits w' b f) (· = b) := (((((((h.set _ _).set _ _).set _ _).set _ _).set _ _).set _ _).set _ _).set _ _
theorem only_bits_new {w w' : World} {b q : Nat} (h : Only w w' (· = b)) (hq : w.heap.size ≤ q) (f : Nat → Bool) : Only w (putBits w' q f) (· = b) := h.andLow (putBits_below (Below.refl _ w') hq)

/-- What the closure that meets needs has before it. -/
structure Held8 (w0 : World) (B g : Nat) (l : List Seg) (nb : Nat → Nat) (cv : Nat → Value) (hb nx : Nat) (T : List Nat) (W : World) : Prop where
  nodes : Nodes w0 B g l.length l.length l nb cv
  low : Below w0.heap.size w0 W
  bits : Row W hb 80 (bitCells (inT T))
  box : Row W nx 77 #[.slice (some ⟨g, 0, none⟩) l.length l.length]
  lt : w0.heap.size ≤ hb
theorem Held8.ne {w0 W : World} {B g hb nx : Nat} {l : List Seg} {nb : Nat → Nat} {cv : Nat → Value} {T : List Nat} (h : Held8 w0 B g l nb cv hb nx T W) : nx ≠ hb := fun e => by
  have h1 := h.bits
  have h2 := h.box
  rw [← e] at h1
  unfold Row at h1 h2
  rw [h1] at h2
  injection h2 with h2
  injection h2 with _ h2
  exact absurd h2 (by decide)
theorem Held8.below {w0 W W' : World} {B g hb nx : Nat} {l : List Seg} {nb : Nat → Nat} {cv : Nat → Value} {T : List Nat} (h : Held8 w0 B g l nb cv hb nx T W) (hk : Below W.heap.size W W') : Held8 w0 B g l nb cv hb nx T W' :=
  ⟨h.nodes, h.low.trans (hk.mono (Nat.le_trans h.lt (Nat.le_of_lt h.bits.lt))), h.bits.below hk h.bits.lt, h.box.below hk h.box.lt, h.lt⟩
theorem Held8.is {w0 W : World} {B g hb nx : Nat} {l : List Seg} {nb : Nat → Nat} {cv : Nat → Value} {T : List Nat} (h : Held8 w0 B g l nb cv hb nx T W) : Nodes W B g l.length l.length l nb cv := h.nodes.below h.low
theorem Held8.put {w0 W : World} {B g hb nx : Nat} {l : List Seg} {nb : Nat → Nat} {cv : Nat → Value} {T : List Nat} (h : Held8 w0 B g l nb cv hb nx T W) (U : List Nat) : Held8 w0 B g l nb cv hb nx U (putBits W hb (inT U)) :=
  ⟨h.nodes, putBits_below h.low h.lt, putBits_row h.bits, putBits_far h.box h.ne, h.lt⟩

set_option maxRecDepth 100000 in
set_option maxHeartbeats 4000000 in
theorem meetStep_any (w0 : World) (B g : Nat) (l : List Seg) (nb : Nat → Nat) (cv : Nat → Value) (hb nx : Nat) (T : List Nat) (c : UInt8) (w : World) (h : Held8 w0 B g l nb cv hb nx T w) (hv : validB l = true) (hT : IsState l T) (hc : callP l c = true) :
    Calls Try.prog 91 #[.string ⟨#[c]⟩, .pointer (some ⟨hb, 0, none⟩), .pointer (some ⟨nx, 0, none⟩)] w fun e w' => e = .returned (.agg #[.string (stepAt l T c).nm, .string (stepAt l T c).ld, .string (stepAt l T c).st]) ∧ Held8 w0 B g l nb cv hb nx (nextT l T c) w' ∧ Only w w' (· = hb) := by
  have HH := Lib.hid h
  have HV := Lib.hid hv
  have hlw := h.bits.lt
  have hP8 : ∀ j ∈ pathAt l c, j < 8 := fun j hj => by
    have h8 := (valid_all hv).2.1
    have := (path_is hc).lt (valid_all hv).1.down j hj
    omega
  have hl8 := (valid_all hv).2.1
  obtain ⟨W1, hW1⟩ : ∃ W1, W1 = (w.alloc (.cells #[.string ⟨#[]⟩, .string ⟨#[]⟩, .string ⟨#[]⟩] 35)).alloc (.cells #[.bool (inT T 0), .bool (inT T 1), .bool (inT T 2), .bool (inT T 3), .bool (inT T 4), .bool (inT T 5), .bool (inT T 6), .bool (inT T 7)] 80) := ⟨_, rfl⟩
  have HB1 : Hid (Below w.heap.size w W1) := by
    show Below _ _ _
    rw [hW1]
    exact ((Below.refl _ w).alloc (Nat.le_refl _) _).alloc (by simp) _
  have HA1 : Hid (Held8 w0 B g l nb cv hb nx T W1) := HH.out.below HB1.out
  have HS5 : Hid (Row W1 (w.heap.size + 1) 80 (bitCells (inT T))) := by
    have := Row.new (w.alloc (.cells #[.string ⟨#[]⟩, .string ⟨#[]⟩, .string ⟨#[]⟩] 35)) 80 (bitCells (inT T))
    rw [World.size_alloc] at this
    show Row _ _ _ _
    rw [hW1]
    exact this
  have HS4 : Hid (Row W1 w.heap.size 35 #[.string ⟨#[]⟩, .string ⟨#[]⟩, .string ⟨#[]⟩]) := by
    show Row _ _ _ _
    rw [hW1]
    exact (Row.new w _ _).alloc _
  have HO1 : Hid (Only w W1 (· = hb)) := (Only.refl w _).andBelow HB1.out
  have HW1 := Lib.hid hW1
  have HFN : Hid (∀ W, Nodes W B g l.length l.length l nb cv → Calls Try.prog 76 #[.slice (some ⟨g, 0, none⟩) l.length l.length, .string ⟨#[c]⟩] W fun e w' => e = .returned (.pointer (some ⟨nb (segIx l c), 0, none⟩)) ∧ W = w') := fun W hN => by
    have := findNode_any B g l nb cv ⟨#[c]⟩ W hN (by omega)
    rw [found_seg hv hc] at this
    exact this
  have HNF : Hid (∀ W, Nodes W B g l.length l.length l nb cv → Calls Try.prog 77 #[.slice (some ⟨g, 0, none⟩) l.length l.length, .pointer (some ⟨nb (segIx l c), 0, none⟩)] W fun e w' => e = .returned (bitsV (inT (pathAt l c))) ∧ Below W.heap.size W w') := fun W hN => needFor_any B g (segIx l c) l nb cv W hN hv (callP_ix hc).2
  have HMT : Hid (∀ W, Calls Try.prog 78 #[bitsV (inT (pathAt l c)), bitsV (inT T)] W fun e w' => e = .returned (bitsV (inT (nextT l T c))) ∧ Below W.heap.size W w') := fun W => meet_any T (pathAt l c) W hP8
  have HLS : Hid (∀ W, Calls Try.prog 52 #[bitsV (inT (nextT l T c)), bitsV (inT T)] W fun e w' => e = .returned (bitsV fun j => inT (nextT l T c) j && !inT T j) ∧ Below W.heap.size W w') := fun W => less_any (inT (nextT l T c)) (inT T) W
  have HN1 : Hid (∀ W, Nodes W B g l.length l.length l nb cv → Calls Try.prog 51 #[bitsV (fun j => inT (nextT l T c) j && !inT T j), .slice (some ⟨g, 0, none⟩) l.length l.length] W fun e w' => e = .returned (.string (stepAt l T c).ld) ∧ Below W.heap.size W w') := fun W hN => by
    have := names_any B g l nb cv (fun j => inT (nextT l T c) j && !inT T j) W hN hv
    rw [show selIx (fun j => inT (nextT l T c) j && !inT T j) l.length = loadT T (pathAt l c) from load_sel hv hT (path_is hc)] at this
    exact this
  have HN2 : Hid (∀ W, Nodes W B g l.length l.length l nb cv → Calls Try.prog 51 #[bitsV (inT (nextT l T c)), .slice (some ⟨g, 0, none⟩) l.length l.length] W fun e w' => e = .returned (.string (stepAt l T c).st) ∧ Below W.heap.size W w') := fun W hN => by
    have := names_any B g l nb cv (inT (nextT l T c)) W hN hv
    rw [state_sel hv (next_is hT hc)] at this
    exact this
  have HNM : Hid ((stepAt l T c).nm = ⟨#[c]⟩) := rfl
  have hR1 := h.bits.alloc (.cells #[.string ⟨#[]⟩, .string ⟨#[]⟩, .string ⟨#[]⟩] 35)
  clear h hv hT hc hP8 hW1
  generalize nextT l T c = U at *
  generalize pathAt l c = P at *
  generalize stepAt l T c = s at *
  generalize nb (segIx l c) = nn at *
  obtain ⟨⟨d0, d1, d2, d3⟩, d4, d5, d6, d7⟩ := bits_cells hR1
  clear hR1
  go_enter Try.func91, Try.ntmps91
  go_wp2_with fail
  clear d0 d1 d2 d3 d4 d5 d6 d7
  rw [← HW1.out]
  clear HW1
  refine wp_region_held_drew (S := (fun W => (∃ V, Held8 w0 B g l nb cv hb nx V W) ∧ Row W (w.heap.size + 1) 80 (bitCells (inT T)) ∧ Row W w.heap.size 35 #[.string ⟨#[]⟩, .string ⟨#[]⟩, .string ⟨#[]⟩] ∧ Only w W (· = hb))) (by kernel_rfl) ?_ (fun hHeld => ?_)
  · exact ⟨⟨T, HA1.out.below ((Below.refl _ W1).drew)⟩, HS5.out.below ((Below.refl _ W1).drew) HS5.out.lt, HS4.out.below ((Below.refl _ W1).drew) HS4.out.lt, HO1.out.drew'⟩
  refine take_at (i := 0) (d := 7) (v := .slice (some ⟨g, 0, none⟩) l.length l.length) rfl rfl (by kernel_rfl) (by kernel_rfl) (by kernel_rfl) (fun _ _ _ h => h) (by kernel_rfl) ((fun W hS => run_load_nodes_op rfl rfl (hS.1.elim fun V h => h.box))) (by assumption) ?_
  simp only [List.setIfInBounds_toArray, List.set_cons_succ, List.set_cons_zero]
  refine take_at (i := 1) (d := 8) (v := .slice (some ⟨g, 0, none⟩) l.length l.length) rfl rfl (by kernel_rfl) (by kernel_rfl) (by kernel_rfl) (fun _ _ _ h => h) (by kernel_rfl) ((fun W hS => run_load_nodes_op rfl rfl (hS.1.elim fun V h => h.box))) (by assumption) ?_
  simp only [List.setIfInBounds_toArray, List.set_cons_succ, List.set_cons_zero]
  refine take_at (i := 2) (d := 9) (v := .string ⟨#[c]⟩) rfl rfl (by kernel_rfl) (by kernel_rfl) (by kernel_rfl) (fun _ _ _ h => h) (by kernel_rfl) (by (intro w hSw; (try dsimp only at hSw); go_simp)) (by assumption) ?_
  simp only [List.setIfInBounds_toArray, List.set_cons_succ, List.set_cons_zero]
  refine take_at (i := 5) (d := 12) (v := bitsV (inT T)) rfl rfl (by kernel_rfl) (by kernel_rfl) (by kernel_rfl) (fun _ _ _ h => h) (by kernel_rfl) ((fun W hS => run_load_state_op rfl rfl hS.2.1)) (by assumption) ?_
  simp only [List.setIfInBounds_toArray, List.set_cons_succ, List.set_cons_zero]
  refine wpAnyH_ready (rs := [3]) (by kernel_rfl) (by simp) ?_
  refine AllReadyH.cons rfl (fun K hK => ?_) AllReadyH.nil
  go_simp
  obtain ⟨V, hV⟩ := hHeld.1
  refine (HFN.out _ hV.is).mono ?_
  rintro e W3 ⟨rfl, rfl⟩
  have hs3 := hHeld
  clear hHeld hV V
  refine hK.out _ _ hs3 (fun hHeld => ?_)
  clear hK K hs3
  refine wpAnyH_ready (rs := [4]) (by kernel_rfl) (by simp) ?_
  refine AllReadyH.cons rfl (fun K hK => ?_) AllReadyH.nil
  go_simp
  obtain ⟨V, hV⟩ := hHeld.1
  refine (HNF.out _ hV.is).mono ?_
  rintro e W4 ⟨rfl, hb4⟩
  have hs4 : (∃ V, Held8 w0 B g l nb cv hb nx V W4) ∧ Row W4 (w.heap.size + 1) 80 (bitCells (inT T)) ∧ Row W4 w.heap.size 35 #[.string ⟨#[]⟩, .string ⟨#[]⟩, .string ⟨#[]⟩] ∧ Only w W4 (· = hb) := ⟨⟨V, hV.below hb4⟩, hHeld.2.1.below hb4 hHeld.2.1.lt, hHeld.2.2.1.below hb4 hHeld.2.2.1.lt, hHeld.2.2.2.andBelow hb4⟩
  clear hHeld hV hb4 V
  refine hK.out _ _ hs4 (fun hHeld => ?_)
  clear hK K hs4
  refine wpAnyH_ready (rs := [6]) (by kernel_rfl) (by simp) ?_
  refine AllReadyH.cons rfl (fun K hK => ?_) AllReadyH.nil
  go_simp
  obtain ⟨V, hV⟩ := hHeld.1
  refine (HMT.out _).mono ?_
  rintro e W5 ⟨rfl, hb5⟩
  have hs5 : (∃ V, Held8 w0 B g l nb cv hb nx V W5) ∧ Row W5 (w.heap.size + 1) 80 (bitCells (inT T)) ∧ Row W5 w.heap.size 35 #[.string ⟨#[]⟩, .string ⟨#[]⟩, .string ⟨#[]⟩] ∧ Only w W5 (· = hb) := ⟨⟨V, hV.below hb5⟩, hHeld.2.1.below hb5 hHeld.2.1.lt, hHeld.2.2.1.below hb5 hHeld.2.2.1.lt, hHeld.2.2.2.andBelow hb5⟩
  clear hHeld hV hb5 V
  refine hK.out _ _ hs5 (fun hHeld => ?_)
  clear hK K hs5
  obtain ⟨V, hV⟩ := hHeld.1
  have HA5 := Lib.hid (hV.put U)
  have HS55 : Hid (Row (putBits W5 hb (inT U)) (w.heap.size + 1) 80 (bitCells (inT T))) := putBits_far hHeld.2.1 (by omega)
  have HS45 : Hid (Row (putBits W5 hb (inT U)) w.heap.size 35 #[.string ⟨#[]⟩, .string ⟨#[]⟩, .string ⟨#[]⟩]) := putBits_far hHeld.2.2.1 (by omega)
  have HO5 := Lib.hid (only_bits hHeld.2.2.2 (inT U))
  have hbb := hV.bits
  obtain ⟨⟨d0, d1, d2, d3⟩, d4, d5, d6, d7⟩ := bits_cells hbb
  have hfz := fun j => hbb.free j
  have z0 := hfz 0
  have z1 := hfz 1
  have z2 := hfz 2
  have z3 := hfz 3
  have z4 := hfz 4
  have z5 := hfz 5
  have z6 := hfz 6
  have z7 := hfz 7
  clear hfz hbb hV hHeld
  unfold bitsV bitCells
  refine wpAnyH_ready (rs := [7]) (by kernel_rfl) (by simp) ?_
  refine AllReadyH.cons rfl (fun K hK => ?_) AllReadyH.nil
  go_simp
  clear d0 d1 d2 d3 d4 d5 d6 d7 z0 z1 z2 z3 z4 z5 z6 z7
  refine hK.out _ (putBits W5 hb (inT U)) ⟨⟨U, HA5.out⟩, HS55.out, HS45.out, HO5.out⟩ (fun hHeld => ?_)
  clear hK K hHeld
  refine wpAnyH_done (by kernel_rfl) ?_ _
  generalize putBits W5 hb (inT U) = W6 at *
  go_wp2_with fail
  refine wp_region_held_drew (S := (fun W => Held8 w0 B g l nb cv hb nx U W ∧ Row W (w.heap.size + 1) 80 (bitCells (inT T)) ∧ (∃ x y z, Row W w.heap.size 35 #[.string x, .string y, .string z]) ∧ Only w W (· = hb))) (by kernel_rfl) ?_ (fun hHeld => ?_)
  · exact ⟨HA5.out.below ((Below.refl _ W6).drew), HS55.out.below ((Below.refl _ W6).drew) HS55.out.lt, ⟨_, _, _, HS45.out.below ((Below.refl _ W6).drew) HS45.out.lt⟩, HO5.out.drew'⟩
  refine take_at (i := 0) (d := 14) (v := .string ⟨#[c]⟩) rfl rfl (by kernel_rfl) (by kernel_rfl) (by kernel_rfl) (fun _ _ _ h => h) (by kernel_rfl) (by (intro w hSw; (try dsimp only at hSw); go_simp)) (by assumption) ?_
  simp only [List.setIfInBounds_toArray, List.set_cons_succ, List.set_cons_zero]
  refine take_at (i := 1) (d := 15) (v := bitsV (inT U)) rfl rfl (by kernel_rfl) (by kernel_rfl) (by kernel_rfl) (fun _ _ _ h => h) (by kernel_rfl) ((fun W hS => run_load_state_op rfl rfl hS.1.bits)) (by assumption) ?_
  simp only [List.setIfInBounds_toArray, List.set_cons_succ, List.set_cons_zero]
  refine take_at (i := 2) (d := 16) (v := bitsV (inT T)) rfl rfl (by kernel_rfl) (by kernel_rfl) (by kernel_rfl) (fun _ _ _ h => h) (by kernel_rfl) ((fun W hS => run_load_state_op rfl rfl hS.2.1)) (by assumption) ?_
  simp only [List.setIfInBounds_toArray, List.set_cons_succ, List.set_cons_zero]
  refine take_at (i := 4) (d := 18) (v := .slice (some ⟨g, 0, none⟩) l.length l.length) rfl rfl (by kernel_rfl) (by kernel_rfl) (by kernel_rfl) (fun _ _ _ h => h) (by kernel_rfl) ((fun W hS => run_load_nodes_op rfl rfl hS.1.box)) (by assumption) ?_
  simp only [List.setIfInBounds_toArray, List.set_cons_succ, List.set_cons_zero]
  refine take_at (i := 6) (d := 20) (v := bitsV (inT U)) rfl rfl (by kernel_rfl) (by kernel_rfl) (by kernel_rfl) (fun _ _ _ h => h) (by kernel_rfl) ((fun W hS => run_load_state_op rfl rfl hS.1.bits)) (by assumption) ?_
  simp only [List.setIfInBounds_toArray, List.set_cons_succ, List.set_cons_zero]
  refine take_at (i := 7) (d := 21) (v := .slice (some ⟨g, 0, none⟩) l.length l.length) rfl rfl (by kernel_rfl) (by kernel_rfl) (by kernel_rfl) (fun _ _ _ h => h) (by kernel_rfl) ((fun W hS => run_load_nodes_op rfl rfl hS.1.box)) (by assumption) ?_
  simp only [List.setIfInBounds_toArray, List.set_cons_succ, List.set_cons_zero]
  refine wpAnyH_ready (rs := [3]) (by kernel_rfl) (by simp) ?_
  refine AllReadyH.cons rfl (fun K hK => ?_) AllReadyH.nil
  go_simp
  refine (HLS.out _).mono ?_
  rintro e W7 ⟨rfl, hb7⟩
  have hs7 : Held8 w0 B g l nb cv hb nx U W7 ∧ Row W7 (w.heap.size + 1) 80 (bitCells (inT T)) ∧ (∃ x y z, Row W7 w.heap.size 35 #[.string x, .string y, .string z]) ∧ Only w W7 (· = hb) := ⟨hHeld.1.below hb7, hHeld.2.1.below hb7 hHeld.2.1.lt, hHeld.2.2.1.elim fun x h => h.elim fun y h => h.elim fun z h => ⟨x, y, z, h.below hb7 h.lt⟩, hHeld.2.2.2.andBelow hb7⟩
  clear hHeld hb7
  refine hK.out _ _ hs7 (fun hHeld => ?_)
  clear hK K hs7
  refine wpAnyH_ready (rs := [5]) (by kernel_rfl) (by simp) ?_
  refine AllReadyH.cons rfl (fun K hK => ?_) AllReadyH.nil
  go_simp
  refine (HN1.out _ hHeld.1.is).mono ?_
  rintro e W8 ⟨rfl, hb8⟩
  have hs8 : Held8 w0 B g l nb cv hb nx U W8 ∧ Row W8 (w.heap.size + 1) 80 (bitCells (inT T)) ∧ (∃ x y z, Row W8 w.heap.size 35 #[.string x, .string y, .string z]) ∧ Only w W8 (· = hb) := ⟨hHeld.1.below hb8, hHeld.2.1.below hb8 hHeld.2.1.lt, hHeld.2.2.1.elim fun x h => h.elim fun y h => h.elim fun z h => ⟨x, y, z, h.below hb8 h.lt⟩, hHeld.2.2.2.andBelow hb8⟩
  clear hHeld hb8
  refine hK.out _ _ hs8 (fun hHeld => ?_)
  clear hK K hs8
  refine wpAnyH_ready (rs := [8]) (by kernel_rfl) (by simp) ?_
  refine AllReadyH.cons rfl (fun K hK => ?_) AllReadyH.nil
  go_simp
  refine (HN2.out _ hHeld.1.is).mono ?_
  rintro e W9 ⟨rfl, hb9⟩
  have hs9 : Held8 w0 B g l nb cv hb nx U W9 ∧ Row W9 (w.heap.size + 1) 80 (bitCells (inT T)) ∧ (∃ x y z, Row W9 w.heap.size 35 #[.string x, .string y, .string z]) ∧ Only w W9 (· = hb) := ⟨hHeld.1.below hb9, hHeld.2.1.below hb9 hHeld.2.1.lt, hHeld.2.2.1.elim fun x h => h.elim fun y h => h.elim fun z h => ⟨x, y, z, h.below hb9 h.lt⟩, hHeld.2.2.2.andBelow hb9⟩
  clear hHeld hb9
  refine hK.out _ _ hs9 (fun hHeld => ?_)
  clear hK K hs9
  refine take_at (i := 9) (d := 23) (v := .agg #[.string ⟨#[c]⟩, .string s.ld, .string s.st]) rfl rfl (by kernel_rfl) (by kernel_rfl) (by kernel_rfl) (fun _ _ _ h => h) (by kernel_rfl) (by (intro w hSw; (try dsimp only at hSw); go_simp)) (by assumption) ?_
  simp only [List.setIfInBounds_toArray, List.set_cons_succ, List.set_cons_zero]
  obtain ⟨hh9, hq9, ⟨x, y, z, hr9⟩, ho9⟩ := hHeld
  have e0 := hr9.cell 0
  have e1 := hr9.cell 1
  have e2 := hr9.cell 2
  simp at e0 e1 e2
  have f0 := hr9.free 0
  have f1 := hr9.free 1
  have f2 := hr9.free 2
  have hbw : Below w.heap.size W9 (((W9.setCell ⟨w.heap.size, 0, none⟩ (.string ⟨#[c]⟩)).setCell ⟨w.heap.size, 1, none⟩ (.string s.ld)).setCell ⟨w.heap.size, 2, none⟩ (.string s.st)) :=
    (((Below.refl w.heap.size W9).setCell (Nat.le_refl _) _).setCell (Nat.le_refl _) _).setCell (Nat.le_refl _) _
  have HRX : Hid (Row (((W9.setCell ⟨w.heap.size, 0, none⟩ (.string ⟨#[c]⟩)).setCell ⟨w.heap.size, 1, none⟩ (.string s.ld)).setCell ⟨w.heap.size, 2, none⟩ (.string s.st)) w.heap.size 35 #[.string ⟨#[c]⟩, .string s.ld, .string s.st]) := ((hr9.put 0 _).put 1 _).put 2 _
  have hnx9 := hh9.box.lt
  have hne9 := hh9.ne
  have HAX : Hid (Held8 w0 B g l nb cv hb nx U (((W9.setCell ⟨w.heap.size, 0, none⟩ (.string ⟨#[c]⟩)).setCell ⟨w.heap.size, 1, none⟩ (.string s.ld)).setCell ⟨w.heap.size, 2, none⟩ (.string s.st))) := by
    have hxq : nx ≠ w.heap.size := fun e => by
      have h1 := hh9.box
      rw [e] at h1
      unfold Row at h1 hr9
      rw [h1] at hr9
      injection hr9 with hr9
      injection hr9 with _ hr9
      exact absurd hr9 (by decide)
    exact ⟨hh9.nodes, hh9.low.trans (hbw.mono (Nat.le_trans HH.out.lt (Nat.le_of_lt hlw))), ((hh9.bits.far (by show hb ≠ w.heap.size; omega) _).far (by show hb ≠ w.heap.size; omega) _).far (by show hb ≠ w.heap.size; omega) _, ((hh9.box.far hxq _).far hxq _).far hxq _, hh9.lt⟩
  have HOX : Hid (Only w (((W9.setCell ⟨w.heap.size, 0, none⟩ (.string ⟨#[c]⟩)).setCell ⟨w.heap.size, 1, none⟩ (.string s.ld)).setCell ⟨w.heap.size, 2, none⟩ (.string s.st)) (· = hb)) := ho9.andLow hbw
  have HQX : Hid (Row (((W9.setCell ⟨w.heap.size, 0, none⟩ (.string ⟨#[c]⟩)).setCell ⟨w.heap.size, 1, none⟩ (.string s.ld)).setCell ⟨w.heap.size, 2, none⟩ (.string s.st)) (w.heap.size + 1) 80 (bitCells (inT T))) := ((hq9.far (by show w.heap.size + 1 ≠ w.heap.size; omega) _).far (by show w.heap.size + 1 ≠ w.heap.size; omega) _).far (by show w.heap.size + 1 ≠ w.heap.size; omega) _
  clear hh9 hq9 hr9 ho9 hbw hnx9 hne9
  refine wpAnyH_ready (rs := [10]) (by kernel_rfl) (by simp) ?_
  refine AllReadyH.cons rfl (fun K hK => ?_) AllReadyH.nil
  go_simp
  clear e0 e1 e2 f0 f1 f2
  refine hK.out _ _ ⟨HAX.out, HQX.out, ⟨_, _, _, HRX.out⟩, HOX.out⟩ (fun hHeld => ?_)
  clear hK K hHeld
  refine wpAnyH_done (by kernel_rfl) ?_ _
  go_wp2
  rw [HNM.out]
  exact bodyPost_ret (v := .agg #[.string ⟨#[c]⟩, .string s.ld, .string s.st]) (results_cell_row (p := 4) (ty := 35) rfl _ _ w.heap.size 35 _ (0, 0) _ rfl HRX.out Try.underlying35 rfl (by kernel_rfl)) rfl ⟨rfl, HAX.out, HOX.out⟩

end Go.Proofs.Ytcaegpjbdcopoaa
