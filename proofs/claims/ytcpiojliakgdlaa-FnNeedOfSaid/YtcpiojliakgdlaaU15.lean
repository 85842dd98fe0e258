/- Joined: Gm Gn. -/
import Derived.Test.YtcpiojliakgdlaaU14
import Derived.Test.YtcpiojliakgdlaaU03
/- impl.meetNeed: the states ahead of a need and behind it. -/
namespace Go.Proofs.Ytcpiojliakgdlaa
open Go.RowKit Go.Shelf

theorem results_two_states {fn : Func} {p q r : Tmp} {ty tz : TypeId} (h : fn.results = #[.cell p ty, .cell q tz, .tmp r]) (tmps : Array Value) (w : World) (a b : Addr) (u v : Value)
    (hp : tmps.getD p undef = .pointer (some a)) (hu : (loadVar ty a).run Try.prog w = .ok u w) (hq : tmps.getD q undef = .pointer (some b)) (hv : (loadVar tz b).run Try.prog w = .ok v w) :
    (results fn tmps).run Try.prog w = .ok (.tuple #[u, v, tmps.getD r undef]) w := by
  have hp' : tmps[p]?.getD undef = .pointer (some a) := by simpa using hp
  have hq' : tmps[q]?.getD undef = .pointer (some b) := by simpa using hq
  simp [results, h, hp', hq', asAddr, hu, hv]
theorem run_load_state_op {ρ : Operand → Value} {o : Oper} {x : Operand} {b : Nat} {f : Nat → Bool} {w : World} (ho : o.op = .load 64 x) (hx : ρ x = .pointer (some ⟨b, 0, none⟩)) (h : Row w b 64 (bitCells f)) :
    (execOp ρ o).run Try.prog w = .ok (.value (bitsV f)) w := by
  unfold execOp
  simp only [ho, hx, Instr.loadAt, Instr.sureAddr, Sem.run_bind, Sem.run_pure, Result.andThen_ok, run_loadState h]

set_option maxRecDepth 100000 in
set_option maxHeartbeats 400000 in
theorem meetNeed_bad (s t : ByteArray) (w : World) :
    Calls Try.prog 62 #[.slice none 0 0, .string s, .string t] w fun e w' => e = .returned (.tuple #[bitsV (inT []), bitsV (inT []), .bool false]) ∧ Below w.heap.size w w' := by
  have HF := Lib.hid (fun W => findState_bad s W)
  unfold bitsV bitCells at HF
  have hR : ∀ W1, Below (w.heap.size + 1 + 1) ((w.alloc (.cells (bitCells fun _ => false) 64)).alloc (.cells (bitCells fun _ => false) 64)) W1 → Row W1 w.heap.size 64 (bitCells fun _ => false) ∧ Row W1 (w.heap.size + 1) 64 (bitCells fun _ => false) ∧ Below w.heap.size w W1 := fun W1 hb => by
    refine ⟨((Row.new w _ _).alloc _).below hb (by omega), Row.below ?_ hb (by omega), (((Below.refl _ w).alloc (Nat.le_refl _) _).alloc (by simp) _).trans (hb.mono (by omega))⟩
    have := Row.new (w.alloc (.cells (bitCells fun _ => false) 64)) 64 (bitCells fun _ => false)
    simpa using this
  have HR := Lib.hid hR
  clear hR
  go_enter Try.func62, Try.ntmps62
  go_wp2_with fail
  refine (HF.out _).mono ?_
  rintro e w1 ⟨rfl, hb1⟩
  rw [World.size_alloc, World.size_alloc] at hb1
  obtain ⟨r1, r2, r3⟩ := HR.out w1 hb1
  obtain ⟨⟨d0, d1, d2, d3⟩, d4, d5, d6, d7⟩ := bits_cells r1
  obtain ⟨⟨e0, e1, e2, e3⟩, e4, e5, e6, e7⟩ := bits_cells r2
  have hfz := fun j => r1.free j
  have z0 := hfz 0
  have z1 := hfz 1
  have z2 := hfz 2
  have z3 := hfz 3
  have z4 := hfz 4
  have z5 := hfz 5
  have z6 := hfz 6
  have z7 := hfz 7
  have hfy := fun j => r2.free j
  have y0 := hfy 0
  have y1 := hfy 1
  have y2 := hfy 2
  have y3 := hfy 3
  have y4 := hfy 4
  have y5 := hfy 5
  have y6 := hfy 6
  have y7 := hfy 7
  have HRow : Hid (Row (putBits (putBits (putBits w1 w.heap.size (inT [])) w.heap.size fun _ => false) (w.heap.size + 1) fun _ => false) w.heap.size 64 (bitCells fun _ => false)) := putBits_far (putBits_row (putBits_row r1)) (by omega)
  have HRow2 : Hid (Row (putBits (putBits (putBits w1 w.heap.size (inT [])) w.heap.size fun _ => false) (w.heap.size + 1) fun _ => false) (w.heap.size + 1) 64 (bitCells fun _ => false)) := putBits_row (putBits_far (putBits_far r2 (by omega)) (by omega))
  have HBel : Hid (Below w.heap.size w (putBits (putBits (putBits w1 w.heap.size (inT [])) w.heap.size fun _ => false) (w.heap.size + 1) fun _ => false)) := putBits_below (putBits_below (putBits_below r3 (Nat.le_refl _)) (Nat.le_refl _)) (by omega)
  clear hfz hfy hb1 r1 r2 r3
  go_wp2_with fail
  refine (findNode_nil _ _).mono ?_
  rintro e w2 ⟨rfl, rfl⟩
  go_wp2
  exact bodyPost_ret (v := .tuple #[bitsV fun _ => false, bitsV fun _ => false, .bool false]) (results_two_states (p := 6) (q := 7) (r := 8) (ty := 64) (tz := 64) rfl _ (putBits (putBits (putBits w1 w.heap.size (inT [])) w.heap.size fun _ => false) (w.heap.size + 1) fun _ => false) ⟨w.heap.size, 0, none⟩ ⟨w.heap.size + 1, 0, none⟩ _ _ rfl (run_loadState HRow.out) rfl (run_loadState HRow2.out)) rfl ⟨rfl, HBel.out⟩

set_option maxRecDepth 100000 in
set_option maxHeartbeats 1000000 in
theorem meetNeed_no (B g : Nat) (l : List Seg) (nb : Nat → Nat) (cv : Nat → Value) (s t : ByteArray) (w : World) (h : Nodes w B g l.length l.length l nb cv) (hv : validB l = true) (hno : needOk l s t = false) :
    Calls Try.prog 62 #[.slice (some ⟨g, 0, none⟩) l.length l.length, .string s, .string t] w fun e w' => e = .returned (.tuple #[bitsV (inT []), bitsV (inT []), .bool false]) ∧ Below w.heap.size w w' := by
  have h8 := (valid_all hv).2.1
  have HN := Lib.hid h
  have hR : ∀ W1, Below (w.heap.size + 1 + 1) ((w.alloc (.cells (bitCells fun _ => false) 64)).alloc (.cells (bitCells fun _ => false) 64)) W1 → Row W1 w.heap.size 64 (bitCells fun _ => false) ∧ Row W1 (w.heap.size + 1) 64 (bitCells fun _ => false) ∧ Below w.heap.size w W1 := fun W1 hb => by
    refine ⟨((Row.new w _ _).alloc _).below hb (by omega), Row.below ?_ hb (by omega), (((Below.refl _ w).alloc (Nat.le_refl _) _).alloc (by simp) _).trans (hb.mono (by omega))⟩
    have := Row.new (w.alloc (.cells (bitCells fun _ => false) 64)) 64 (bitCells fun _ => false)
    simpa using this
  have HR := Lib.hid hR
  have HF := Lib.hid (fun W hW => findState_any B g l nb cv s W hW hv)
  have HN0 : Hid (Nodes ((w.alloc (.cells (bitCells fun _ => false) 64)).alloc (.cells (bitCells fun _ => false) 64)) B g l.length l.length l nb cv) := h.below (((Below.refl _ w).alloc (Nat.le_refl _) _).alloc (by simp) _)
  have hcase : stOk l s = false ∨ (stOk l s = true ∧ ∀ nb, foundPtr l nb t = none) := by
    unfold needOk at hno
    cases hq : stOk l s with
    | false => exact .inl rfl
    | true =>
      rw [hq, Bool.true_and] at hno
      have h1 : ¬ 0 ≤ indexB l t := of_decide_eq_false hno
      have h2 : indexB l t = seek l t := if_pos hv
      exact .inr ⟨rfl, fun nb => if_pos (by omega)⟩
  generalize hsk : stOk l s = ok at *
  clear hR h hno hsk
  unfold bitCells at HN0
  go_enter Try.func62, Try.ntmps62
  go_wp2_with fail
  refine (HF.out _ HN0.out).mono ?_
  unfold bitsV bitCells
  rintro e w1 ⟨rfl, hb1⟩
  rw [World.size_alloc, World.size_alloc] at hb1
  obtain ⟨r1, r2, r3⟩ := HR.out w1 hb1
  obtain ⟨⟨d0, d1, d2, d3⟩, d4, d5, d6, d7⟩ := bits_cells r1
  have hfz := fun j => r1.free j
  have z0 := hfz 0
  have z1 := hfz 1
  have z2 := hfz 2
  have z3 := hfz 3
  have z4 := hfz 4
  have z5 := hfz 5
  have z6 := hfz 6
  have z7 := hfz 7
  clear hfz
  have q1 := putBits_row (f := inT (stT l s)) r1
  have q2 := putBits_far (f := inT (stT l s)) (b := w.heap.size) r2 (by omega)
  have q3 := putBits_below (f := inT (stT l s)) r3 (Nat.le_refl w.heap.size)
  have HNW := Lib.hid (HN.out.below q3)
  generalize hW2 : putBits w1 w.heap.size (inT (stT l s)) = W2 at *
  have HFN : Hid (Calls Try.prog 68 #[.slice (some ⟨g, 0, none⟩) l.length l.length, .string t] (putBits w1 w.heap.size (inT (stT l s))) fun e w' => e = .returned (.pointer (foundPtr l nb t)) ∧ W2 = w') := by
    rw [hW2]
    exact findNode_any _ _ _ _ _ _ _ HNW.out (by omega)
  have Q1 := Lib.hid q1
  have Q2 := Lib.hid q2
  have Q3 := Lib.hid q3
  clear hb1 r1 r2 r3 q1 q2 q3 hW2
  generalize stT l s = T at *
  go_wp2_with fail
  refine HFN.out.mono ?_
  rintro e w2 ⟨rfl, rfl⟩
  clear HFN d0 d1 d2 d3 d4 d5 d6 d7 z0 z1 z2 z3 z4 z5 z6 z7
  have q1 := Q1.out
  have q2 := Q2.out
  obtain ⟨⟨d0, d1, d2, d3⟩, d4, d5, d6, d7⟩ := bits_cells q1
  have hfz := fun j => q1.free j
  have z0 := hfz 0
  have z1 := hfz 1
  have z2 := hfz 2
  have z3 := hfz 3
  have z4 := hfz 4
  have z5 := hfz 5
  have z6 := hfz 6
  have z7 := hfz 7
  clear hfz
  obtain ⟨⟨e0, e1, e2, e3⟩, e4, e5, e6, e7⟩ := bits_cells q2
  have hfy := fun j => q2.free j
  have y0 := hfy 0
  have y1 := hfy 1
  have y2 := hfy 2
  have y3 := hfy 3
  have y4 := hfy 4
  have y5 := hfy 5
  have y6 := hfy 6
  have y7 := hfy 7
  clear hfy
  have HRow : Hid (Row (putBits (putBits W2 w.heap.size fun _ => false) (w.heap.size + 1) fun _ => false) w.heap.size 64 (bitCells fun _ => false)) := putBits_far (putBits_row q1) (by omega)
  have HRow2 : Hid (Row (putBits (putBits W2 w.heap.size fun _ => false) (w.heap.size + 1) fun _ => false) (w.heap.size + 1) 64 (bitCells fun _ => false)) := putBits_row (putBits_far q2 (by omega))
  have HBel : Hid (Below w.heap.size w (putBits (putBits W2 w.heap.size fun _ => false) (w.heap.size + 1) fun _ => false)) := putBits_below (putBits_below Q3.out (Nat.le_refl _)) (by omega)
  clear q1 q2
  rcases hcase with rfl | ⟨rfl, hfp⟩
  · go_wp2
    exact bodyPost_ret (v := .tuple #[bitsV fun _ => false, bitsV fun _ => false, .bool false]) (results_two_states (p := 6) (q := 7) (r := 8) (ty := 64) (tz := 64) rfl _ (putBits (putBits W2 w.heap.size fun _ => false) (w.heap.size + 1) fun _ => false) ⟨w.heap.size, 0, none⟩ ⟨w.heap.size + 1, 0, none⟩ _ _ rfl (run_loadState HRow.out) rfl (run_loadState HRow2.out)) rfl ⟨rfl, HBel.out⟩
  · have HFP := Lib.hid (hfp nb)
    clear hfp
    rw [HFP.out]
    go_wp2
    exact bodyPost_ret (v := .tuple #[bitsV fun _ => false, bitsV fun _ => false, .bool false]) (results_two_states (p := 6) (q := 7) (r := 8) (ty := 64) (tz := 64) rfl _ (putBits (putBits W2 w.heap.size fun _ => false) (w.heap.size + 1) fun _ => false) ⟨w.heap.size, 0, none⟩ ⟨w.heap.size + 1, 0, none⟩ _ _ rfl (run_loadState HRow.out) rfl (run_loadState HRow2.out)) rfl ⟨rfl, HBel.out⟩

set_option maxRecDepth 100000 in
set_option maxHeartbeats 1000000 in
theorem meetNeed_yes (B g : Nat) (l : List Seg) (nb : Nat → Nat) (cv : Nat → Value) (s t : ByteArray) (w : World) (h : Nodes w B g l.length l.length l nb cv) (hv : validB l = true) (hyes : needOk l s t = true) :
    Calls Try.prog 62 #[.slice (some ⟨g, 0, none⟩) l.length l.length, .string s, .string t] w fun e w' => e = .returned (.tuple #[bitsV (inT (stT l s)), bitsV (inT (needT (stT l s) (pathIx l t))), .bool true]) ∧ Below w.heap.size w w' := by
  have h8 := (valid_all hv).2.1
  have HN := Lib.hid h
  have hR : ∀ W1, Below (w.heap.size + 1 + 1) ((w.alloc (.cells (bitCells fun _ => false) 64)).alloc (.cells (bitCells fun _ => false) 64)) W1 → Row W1 w.heap.size 64 (bitCells fun _ => false) ∧ Row W1 (w.heap.size + 1) 64 (bitCells fun _ => false) ∧ Below w.heap.size w W1 := fun W1 hb => by
    refine ⟨((Row.new w _ _).alloc _).below hb (by omega), Row.below ?_ hb (by omega), (((Below.refl _ w).alloc (Nat.le_refl _) _).alloc (by simp) _).trans (hb.mono (by omega))⟩
    have := Row.new (w.alloc (.cells (bitCells fun _ => false) 64)) 64 (bitCells fun _ => false)
    simpa using this
  have HR := Lib.hid hR
  have HF := Lib.hid (fun W hW => findState_any B g l nb cv s W hW hv)
  have HN0 : Hid (Nodes ((w.alloc (.cells (bitCells fun _ => false) 64)).alloc (.cells (bitCells fun _ => false) 64)) B g l.length l.length l nb cv) := h.below (((Below.refl _ w).alloc (Nat.le_refl _) _).alloc (by simp) _)
  obtain ⟨hok, h0⟩ := needOk_parts hyes
  have hi := index_lt h0
  have HFP : Hid (foundPtr l nb t = some ⟨nb (indexB l t).toNat, 0, none⟩) := by
    have h2 : indexB l t = seek l t := if_pos hv
    show foundPtr l nb t = _
    unfold foundPtr
    rw [if_neg (by omega), h2]
  have HPX : Hid (pathIx l t = rp l (indexB l t).toNat) := rfl
  have HP8 : Hid (∀ j ∈ rp l (indexB l t).toNat, j < 8) := fun j hj => by
    have := rootPath_lt (valid_all hv).1.down _ _ hi j hj
    omega
  have HV := Lib.hid hv
  clear hR h hyes h0
  rw [HPX.out]
  generalize (indexB l t).toNat = i at *
  unfold bitCells at HN0
  go_enter Try.func62, Try.ntmps62
  go_wp2_with fail
  refine (HF.out _ HN0.out).mono ?_
  unfold bitsV bitCells
  rw [hok]
  rintro e w1 ⟨rfl, hb1⟩
  clear hok
  rw [World.size_alloc, World.size_alloc] at hb1
  obtain ⟨r1, r2, r3⟩ := HR.out w1 hb1
  obtain ⟨⟨d0, d1, d2, d3⟩, d4, d5, d6, d7⟩ := bits_cells r1
  have hfz := fun j => r1.free j
  have z0 := hfz 0
  have z1 := hfz 1
  have z2 := hfz 2
  have z3 := hfz 3
  have z4 := hfz 4
  have z5 := hfz 5
  have z6 := hfz 6
  have z7 := hfz 7
  clear hfz
  have q1 := putBits_row (f := inT (stT l s)) r1
  have q2 := putBits_far (f := inT (stT l s)) (b := w.heap.size) r2 (by omega)
  have q3 := putBits_below (f := inT (stT l s)) r3 (Nat.le_refl w.heap.size)
  have HNW := Lib.hid (HN.out.below q3)
  generalize hW2 : putBits w1 w.heap.size (inT (stT l s)) = W2 at *
  have HFN : Hid (Calls Try.prog 68 #[.slice (some ⟨g, 0, none⟩) l.length l.length, .string t] (putBits w1 w.heap.size (inT (stT l s))) fun e w' => e = .returned (.pointer (foundPtr l nb t)) ∧ W2 = w') := by
    rw [hW2]
    exact findNode_any _ _ _ _ _ _ _ HNW.out (by omega)
  have Q1 := Lib.hid q1
  have Q2 := Lib.hid q2
  have Q3 := Lib.hid q3
  clear hb1 r1 r2 r3 q1 q2 q3 hW2
  go_wp2_with fail
  refine HFN.out.mono ?_
  rintro e w2 ⟨rfl, rfl⟩
  clear HFN d0 d1 d2 d3 d4 d5 d6 d7 z0 z1 z2 z3 z4 z5 z6 z7
  rw [HFP.out]
  go_wp2
  refine wp_region_held_drew (S := (fun W => Row W w.heap.size 64 (bitCells (inT (stT l s))) ∧ (∃ f2, Row W (w.heap.size + 1) 64 (bitCells f2)) ∧ Below w.heap.size w W ∧ Nodes W B g l.length l.length l nb cv)) (by kernel_rfl) ?_ (fun hHeld => ?_)
  · exact ⟨Q1.out, ⟨_, Q2.out⟩, Q3.out.drew, HNW.out.below ((Below.refl _ _).drew)⟩
  refine take_at (i := 0) (d := 27) (v := bitsV (inT (stT l s))) rfl rfl (by kernel_rfl) (by kernel_rfl) (by kernel_rfl) (fun _ _ _ h => h) (by kernel_rfl) ((fun W hS => run_load_state_op rfl rfl hS.1)) (by assumption) ?_
  simp only [List.setIfInBounds_toArray, List.set_cons_succ, List.set_cons_zero]
  refine take_at (i := 1) (d := 28) (v := .slice (some ⟨g, 0, none⟩) l.length l.length) rfl rfl (by kernel_rfl) (by kernel_rfl) (by kernel_rfl) (fun _ _ _ h => h) (by kernel_rfl) (by (intro w hSw; (try dsimp only at hSw); go_simp)) (by assumption) ?_
  simp only [List.setIfInBounds_toArray, List.set_cons_succ, List.set_cons_zero]
  refine take_at (i := 2) (d := 29) (v := .pointer (some ⟨nb i, 0, none⟩)) rfl rfl (by kernel_rfl) (by kernel_rfl) (by kernel_rfl) (fun _ _ _ h => h) (by kernel_rfl) (by (intro w hSw; (try dsimp only at hSw); go_simp)) (by assumption) ?_
  simp only [List.setIfInBounds_toArray, List.set_cons_succ, List.set_cons_zero]
  refine take_at (i := 4) (d := 31) (v := bitsV (inT (stT l s))) rfl rfl (by kernel_rfl) (by kernel_rfl) (by kernel_rfl) (fun _ _ _ h => h) (by kernel_rfl) ((fun W hS => run_load_state_op rfl rfl hS.1)) (by assumption) ?_
  simp only [List.setIfInBounds_toArray, List.set_cons_succ, List.set_cons_zero]
  refine wpAnyH_ready (rs := [3]) (by kernel_rfl) (by simp) ?_
  refine AllReadyH.cons rfl (fun K hK => ?_) AllReadyH.nil
  go_simp
  refine (needFor_any B g i l nb cv _ hHeld.2.2.2 HV.out hi).mono ?_
  rintro e W3 ⟨rfl, hb3⟩
  have hs3 : Row W3 w.heap.size 64 (bitCells (inT (stT l s))) ∧ (∃ f2, Row W3 (w.heap.size + 1) 64 (bitCells f2)) ∧ Below w.heap.size w W3 ∧ Nodes W3 B g l.length l.length l nb cv := ⟨hHeld.1.below hb3 hHeld.1.lt, (hHeld.2.1.elim fun f2 h => ⟨f2, h.below hb3 h.lt⟩), hHeld.2.2.1.trans (hb3.mono hHeld.2.2.1.size), hHeld.2.2.2.below hb3⟩
  clear hb3 hHeld
  refine hK.out _ _ hs3 (fun hHeld => ?_)
  clear hK K hs3
  refine wpAnyH_ready (rs := [5]) (by kernel_rfl) (by simp) ?_
  refine AllReadyH.cons rfl (fun K hK => ?_) AllReadyH.nil
  go_simp
  refine (meet_any (stT l s) (rp l i) _ HP8.out).mono ?_
  rintro e W4 ⟨rfl, hb4⟩
  have hs4 : Row W4 w.heap.size 64 (bitCells (inT (stT l s))) ∧ (∃ f2, Row W4 (w.heap.size + 1) 64 (bitCells f2)) ∧ Below w.heap.size w W4 ∧ Nodes W4 B g l.length l.length l nb cv := ⟨hHeld.1.below hb4 hHeld.1.lt, (hHeld.2.1.elim fun f2 h => ⟨f2, h.below hb4 h.lt⟩), hHeld.2.2.1.trans (hb4.mono hHeld.2.2.1.size), hHeld.2.2.2.below hb4⟩
  clear hb4 hHeld
  refine hK.out _ _ hs4 (fun hHeld => ?_)
  clear hK K hs4
  obtain ⟨f2, hr2'⟩ := hHeld.2.1
  obtain ⟨⟨d0, d1, d2, d3⟩, d4, d5, d6, d7⟩ := bits_cells hHeld.1
  have hfz := fun j => hHeld.1.free j
  have z0 := hfz 0
  have z1 := hfz 1
  have z2 := hfz 2
  have z3 := hfz 3
  have z4 := hfz 4
  have z5 := hfz 5
  have z6 := hfz 6
  have z7 := hfz 7
  clear hfz
  obtain ⟨⟨e0, e1, e2, e3⟩, e4, e5, e6, e7⟩ := bits_cells hr2'
  have hfy := fun j => hr2'.free j
  have y0 := hfy 0
  have y1 := hfy 1
  have y2 := hfy 2
  have y3 := hfy 3
  have y4 := hfy 4
  have y5 := hfy 5
  have y6 := hfy 6
  have y7 := hfy 7
  clear hfy
  unfold bitsV bitCells
  refine wpAnyH_ready (rs := [6]) (by kernel_rfl) (by simp) ?_
  refine AllReadyH.cons rfl (fun K hK => ?_) AllReadyH.nil
  go_simp
  have hs5 : Row (putBits W4 w.heap.size (inT (stT l s))) w.heap.size 64 (bitCells (inT (stT l s))) ∧ (∃ f2, Row (putBits W4 w.heap.size (inT (stT l s))) (w.heap.size + 1) 64 (bitCells f2)) ∧ Below w.heap.size w (putBits W4 w.heap.size (inT (stT l s))) ∧ Nodes (putBits W4 w.heap.size (inT (stT l s))) B g l.length l.length l nb cv := ⟨putBits_row hHeld.1, ⟨_, putBits_far hr2' (by omega)⟩, putBits_below hHeld.2.2.1 (Nat.le_refl _), HN.out.below (putBits_below hHeld.2.2.1 (Nat.le_refl _))⟩
  clear hHeld hr2' d0 d1 d2 d3 d4 d5 d6 d7 z0 z1 z2 z3 z4 z5 z6 z7 e0 e1 e2 e3 e4 e5 e6 e7 y0 y1 y2 y3 y4 y5 y6 y7
  refine hK.out _ (putBits W4 w.heap.size (inT (stT l s))) hs5 (fun hHeld => ?_)
  clear hK K hs5
  generalize putBits W4 w.heap.size (inT (stT l s)) = W5 at *
  have hr1 : Row W5 w.heap.size 64 (bitCells (inT (stT l s))) := hHeld.1
  obtain ⟨f3, hr2⟩ : ∃ f2, Row W5 (w.heap.size + 1) 64 (bitCells f2) := hHeld.2.1
  have R1 := Lib.hid (putBits_far (f := inT (needT (stT l s) (rp l i))) (b := w.heap.size + 1) hr1 (by omega))
  have R2 := Lib.hid (putBits_row (f := inT (needT (stT l s) (rp l i))) hr2)
  have R3 := Lib.hid (putBits_below (f := inT (needT (stT l s) (rp l i))) (b := w.heap.size + 1) hHeld.2.2.1 (by omega))
  have R4 := Lib.hid (HN.out.below R3.out)
  obtain ⟨⟨e0, e1, e2, e3⟩, e4, e5, e6, e7⟩ := bits_cells hr2
  have hfy := fun j => hr2.free j
  have y0 := hfy 0
  have y1 := hfy 1
  have y2 := hfy 2
  have y3 := hfy 3
  have y4 := hfy 4
  have y5 := hfy 5
  have y6 := hfy 6
  have y7 := hfy 7
  clear hfy
  clear hr1 hr2 hHeld
  refine wpAnyH_ready (rs := [7]) (by kernel_rfl) (by simp) ?_
  refine AllReadyH.cons rfl (fun K hK => ?_) AllReadyH.nil
  go_simp
  refine hK.out _ (putBits W5 (w.heap.size + 1) (inT (needT (stT l s) (rp l i)))) ⟨R1.out, ⟨_, R2.out⟩, R3.out, R4.out⟩ (fun hHeld => ?_)
  clear hK K
  refine take_at (i := 8) (d := 8) (v := .bool true) rfl rfl (by kernel_rfl) (by kernel_rfl) (by kernel_rfl) (fun _ _ _ h => h) (by kernel_rfl) (by (intro w hSw; (try dsimp only at hSw); go_simp)) (by assumption) ?_
  simp only [List.setIfInBounds_toArray, List.set_cons_succ, List.set_cons_zero]
  refine wpAnyH_done (by kernel_rfl) ?_ _
  go_wp2
  exact bodyPost_ret (v := .tuple #[bitsV (inT (stT l s)), bitsV (inT (needT (stT l s) (rp l i))), .bool true]) (results_two_states (p := 6) (q := 7) (r := 8) (ty := 64) (tz := 64) rfl _ (putBits W5 (w.heap.size + 1) (inT (needT (stT l s) (rp l i)))) ⟨w.heap.size, 0, none⟩ ⟨w.heap.size + 1, 0, none⟩ _ _ rfl (run_loadState R1.out) rfl (run_loadState R2.out)) rfl ⟨rfl, R3.out⟩

end Go.Proofs.Ytcpiojliakgdlaa
/- impl.StateValid, DropsOf, NeedOf. -/
namespace Go.Proofs.Ytcpiojliakgdlaa
open Go.RowKit Go.Shelf

set_option maxRecDepth 100000 in
set_option maxHeartbeats 400000 in
theorem stateValid_any (A : Option Addr) (l : List Seg) (c : Nat) (s : ByteArray) (w : World) (hw : Segs w w.heap.size A l) (hl : l.length ≤ 1048576) (hlc : l.length ≤ c) (hcm : c ≤ 9223372036854775807) (hn : Short l) :
    Calls Try.prog 21 #[.slice A l.length c, .string s] w fun e w' => e = .returned (.bool (stOk l s)) ∧ Below w.heap.size w w' := by
  have HW : Hid (Segs w w.heap.size A l) := hw
  clear hw
  cases hv : validB l with
  | false =>
    have HF := Lib.hid (stOk_bad s hv)
    go_enter Try.func21, Try.ntmps21
    go_wp2_with fail
    refine (nodesOf_bad _ _ _ _ HW.out hl hlc hcm hn hv).mono ?_
    rintro e w1 ⟨rfl, hb1⟩
    go_wp2_with fail
    refine (findState_bad _ _).mono ?_
    unfold bitsV bitCells
    rintro e w2 ⟨rfl, hb2⟩
    have B2 := hb1.trans (hb2.mono hb1.size)
    clear hb1 hb2
    go_wp2
    go_ret
    exact ⟨ret_bool HF.out.symm, B2.alloc B2.size _⟩
  | true =>
    have HV := Lib.hid hv
    clear hv
    go_enter Try.func21, Try.ntmps21
    go_wp2_with fail
    refine (nodesOf_any _ _ _ _ HW.out hl hlc hcm hn HV.out).mono ?_
    rintro e w1 ⟨g, nb, cv, rfl, hN, hb1⟩
    have HN := Lib.hid hN
    clear hN
    go_wp2_with fail
    refine (findState_any _ _ _ _ _ _ _ HN.out HV.out).mono ?_
    unfold bitsV bitCells
    rintro e w2 ⟨rfl, hb2⟩
    have B2 := hb1.trans (hb2.mono hb1.size)
    clear hb1 hb2
    go_wp2
    go_ret
    exact ⟨rfl, B2.alloc B2.size _⟩

theorem less_in (T U : List Nat) : ∀ j, (inT T j && !inT U j) = inT (lessT T U) j := fun j => by
  unfold inT lessT
  rw [Bool.eq_iff_iff]
  simp [List.mem_filter]
/-- The names of what is in one state and not in another. -/
theorem namesIn_any (B g : Nat) (l : List Seg) (nb : Nat → Nat) (cv : Nat → Value) (T : List Nat) (w : World) (h : Nodes w B g l.length l.length l nb cv) (hv : validB l = true) (ha : T.Pairwise (· < ·)) (hl : ∀ j ∈ T, j < l.length) :
    Calls Try.prog 63 #[bitsV (inT T), .slice (some ⟨g, 0, none⟩) l.length l.length] w fun e w' => e = .returned (.string (namesAt l T)) ∧ Below w.heap.size w w' := by
  refine (names_any B g l nb cv (inT T) w h hv).mono ?_
  rintro e w' ⟨rfl, hb⟩
  exact ⟨by rw [show selIx (inT T) l.length = T from sel_mem ha hl], hb⟩
theorem lessIn_any (T U : List Nat) (w : World) :
    Calls Try.prog 64 #[bitsV (inT T), bitsV (inT U)] w fun e w' => e = .returned (bitsV (inT (lessT T U))) ∧ Below w.heap.size w w' := by
  refine (less_any (inT T) (inT U) w).mono ?_
  rintro e w' ⟨rfl, hb⟩
  refine ⟨?_, hb⟩
  unfold bitsV
  rw [bits_congr (fun j _ => less_in T U j)]
theorem less_asc {T U : List Nat} (h : T.Pairwise (· < ·)) : (lessT T U).Pairwise (· < ·) := List.Pairwise.filter _ h

set_option maxRecDepth 100000 in
set_option maxHeartbeats 400000 in
theorem dropsOf_any (A : Option Addr) (l : List Seg) (c : Nat) (s t : ByteArray) (w : World) (hw : Segs w w.heap.size A l) (hl : l.length ≤ 1048576) (hlc : l.length ≤ c) (hcm : c ≤ 9223372036854775807) (hn : Short l) :
    Calls Try.prog 15 #[.slice A l.length c, .string s, .string t] w fun e w' => e = .returned (.tuple #[.string (dropStr l s t), .bool (needOk l s t)]) ∧ Below w.heap.size w w' := by
  have HW : Hid (Segs w w.heap.size A l) := hw
  clear hw
  cases hv : validB l with
  | false =>
    have HF : Hid (dropStr l s t = ⟨#[]⟩ ∧ needOk l s t = false) := by
      have h1 : needOk l s t = false := by unfold needOk; rw [stOk_bad s hv]; rfl
      refine ⟨?_, h1⟩
      unfold dropStr dropIx
      rw [if_neg (by rw [h1]; decide)]
      rfl
    go_enter Try.func15, Try.ntmps15
    go_wp2_with fail
    refine (nodesOf_bad _ _ _ _ HW.out hl hlc hcm hn hv).mono ?_
    rintro e w1 ⟨rfl, hb1⟩
    go_wp2_with fail
    refine (meetNeed_bad _ _ _).mono ?_
    unfold bitsV bitCells
    rintro e w2 ⟨rfl, hb2⟩
    have B2 := hb1.trans (hb2.mono hb1.size)
    clear hb1 hb2 hv
    go_wp2
    go_ret2
    exact ⟨ret_two HF.out.1.symm HF.out.2.symm, (B2.alloc B2.size _).alloc (by have := B2.size; simp; omega) _⟩
  | true =>
    have HV := Lib.hid hv
    cases hq : needOk l s t with
    | false =>
      have HQ := Lib.hid hq
      have HF : Hid (dropStr l s t = ⟨#[]⟩) := by
        show dropStr l s t = _
        unfold dropStr dropIx
        rw [if_neg (by rw [hq]; decide)]
        rfl
      clear hv hq
      go_enter Try.func15, Try.ntmps15
      go_wp2_with fail
      refine (nodesOf_any _ _ _ _ HW.out hl hlc hcm hn HV.out).mono ?_
      rintro e w1 ⟨g, nb, cv, rfl, hN, hb1⟩
      have HN := Lib.hid hN
      clear hN
      go_wp2_with fail
      refine (meetNeed_no _ _ _ _ _ _ _ _ HN.out HV.out HQ.out).mono ?_
      unfold bitsV bitCells
      rintro e w2 ⟨rfl, hb2⟩
      have B2 := hb1.trans (hb2.mono hb1.size)
      clear hb1 hb2
      go_wp2
      go_ret2
      exact ⟨ret_two HF.out.symm rfl, (B2.alloc B2.size _).alloc (by have := B2.size; simp; omega) _⟩
    | true =>
      have HQ := Lib.hid hq
      obtain ⟨_, hT, hTn, hP, hPn⟩ := need_states hq
      have hd := (valid_all hv).1.down
      have HF : Hid (dropStr l s t = namesAt l (lessT (stT l s) (needT (stT l s) (pathIx l t)))) := by
        show dropStr l s t = _
        unfold dropStr dropIx
        rw [if_pos hq]
        rfl
      have HA : Hid ((lessT (stT l s) (needT (stT l s) (pathIx l t))).Pairwise (· < ·) ∧ ∀ j ∈ lessT (stT l s) (needT (stT l s) (pathIx l t)), j < l.length) := ⟨less_asc (hT.asc hd), less_lt (hT.lt hd)⟩
      have HL := Lib.hid (fun W => lessIn_any (stT l s) (needT (stT l s) (pathIx l t)) W)
      clear hv hq hT hTn hP hPn hd
      go_enter Try.func15, Try.ntmps15
      go_wp2_with fail
      refine (nodesOf_any _ _ _ _ HW.out hl hlc hcm hn HV.out).mono ?_
      rintro e w1 ⟨g, nb, cv, rfl, hN, hb1⟩
      have HN := Lib.hid hN
      clear hN
      go_wp2_with fail
      refine (meetNeed_yes _ _ _ _ _ _ _ _ HN.out HV.out HQ.out).mono ?_
      rintro e w2 ⟨rfl, hb2⟩
      have B2 := hb1.trans (hb2.mono hb1.size)
      have HN2 := Lib.hid (HN.out.below hb2)
      clear hb1 hb2
      have HNM := Lib.hid (fun W hW => namesIn_any w.heap.size g l nb cv (lessT (stT l s) (needT (stT l s) (pathIx l t))) W hW HV.out HA.out.1 HA.out.2)
      unfold bitsV bitCells at HL HNM ⊢
      go_wp2_with fail
      refine (HL.out _).mono ?_
      rintro e w3 ⟨rfl, hb3⟩
      have hb23 : Below w2.heap.size w2 w3 := (((Below.refl _ w2).alloc (Nat.le_refl _) _).alloc (by simp) _).trans (hb3.mono (by simp; omega))
      have HN3 := Lib.hid (HN2.out.below hb23)
      have B3 := B2.trans (hb23.mono B2.size)
      clear hb3 hb23
      go_wp2_with fail
      refine (HNM.out _ HN3.out).mono ?_
      rintro e w4 ⟨rfl, hb4⟩
      have B4 := B3.trans (hb4.mono B3.size)
      clear hb4
      go_wp2
      go_ret2
      exact ⟨ret_two HF.out.symm rfl, B4⟩

set_option maxRecDepth 100000 in
set_option maxHeartbeats 2000000 in
theorem needOf_any (A : Option Addr) (l : List Seg) (c : Nat) (s t : ByteArray) (w : World) (hw : Segs w w.heap.size A l) (hl : l.length ≤ 1048576) (hlc : l.length ≤ c) (hcm : c ≤ 9223372036854775807) (hn : Short l) :
    Calls Try.prog 13 #[.slice A l.length c, .string s, .string t] w fun e w' => e = .returned (.tuple #[.string (afterStr l s t), .string (loadStr l s t), .bool (needOk l s t)]) ∧ Below w.heap.size w w' := by
  have HW : Hid (Segs w w.heap.size A l) := hw
  clear hw
  cases hv : validB l with
  | false =>
    have HF : Hid (afterStr l s t = ⟨#[]⟩ ∧ loadStr l s t = ⟨#[]⟩ ∧ needOk l s t = false) := by
      have h1 : needOk l s t = false := by unfold needOk; rw [stOk_bad s hv]; rfl
      unfold afterStr loadStr afterIx loadIx
      rw [if_neg (by rw [h1]; decide), if_neg (by rw [h1]; decide)]
      exact ⟨rfl, rfl, h1⟩
    go_enter Try.func13, Try.ntmps13
    go_wp2_with fail
    refine (nodesOf_bad _ _ _ _ HW.out hl hlc hcm hn hv).mono ?_
    rintro e w1 ⟨rfl, hb1⟩
    go_wp2_with fail
    refine (meetNeed_bad _ _ _).mono ?_
    unfold bitsV bitCells
    rintro e w2 ⟨rfl, hb2⟩
    have B2 := hb1.trans (hb2.mono hb1.size)
    clear hb1 hb2 hv
    go_wp2
    go_ret3
    exact ⟨ret_three HF.out.1.symm HF.out.2.1.symm HF.out.2.2.symm, (B2.alloc B2.size _).alloc (by have := B2.size; simp; omega) _⟩
  | true =>
    have HV := Lib.hid hv
    cases hq : needOk l s t with
    | false =>
      have HQ := Lib.hid hq
      have HF : Hid (afterStr l s t = ⟨#[]⟩ ∧ loadStr l s t = ⟨#[]⟩) := by
        unfold afterStr loadStr afterIx loadIx
        rw [if_neg (by rw [hq]; decide), if_neg (by rw [hq]; decide)]
        exact ⟨rfl, rfl⟩
      clear hv hq
      go_enter Try.func13, Try.ntmps13
      go_wp2_with fail
      refine (nodesOf_any _ _ _ _ HW.out hl hlc hcm hn HV.out).mono ?_
      rintro e w1 ⟨g, nb, cv, rfl, hN, hb1⟩
      have HN := Lib.hid hN
      clear hN
      go_wp2_with fail
      refine (meetNeed_no _ _ _ _ _ _ _ _ HN.out HV.out HQ.out).mono ?_
      unfold bitsV bitCells
      rintro e w2 ⟨rfl, hb2⟩
      have B2 := hb1.trans (hb2.mono hb1.size)
      clear hb1 hb2
      go_wp2
      go_ret3
      exact ⟨ret_three HF.out.1.symm HF.out.2.symm rfl, (B2.alloc B2.size _).alloc (by have := B2.size; simp; omega) _⟩
    | true =>
      have HQ := Lib.hid hq
      obtain ⟨_, hT, hTn, hP, hPn⟩ := need_states hq
      have hd := (valid_all hv).1.down
      have HF : Hid (afterStr l s t = namesAt l (needT (stT l s) (pathIx l t)) ∧ loadStr l s t = namesAt l (lessT (needT (stT l s) (pathIx l t)) (stT l s))) := by
        unfold afterStr loadStr afterIx loadIx
        rw [if_pos hq, if_pos hq]
        exact ⟨rfl, rfl⟩
      have hU := needT_state hT hP
      have HA : Hid ((needT (stT l s) (pathIx l t)).Pairwise (· < ·) ∧ ∀ j ∈ needT (stT l s) (pathIx l t), j < l.length) := ⟨hU.asc hd, hU.lt hd⟩
      have HA2 : Hid ((lessT (needT (stT l s) (pathIx l t)) (stT l s)).Pairwise (· < ·) ∧ ∀ j ∈ lessT (needT (stT l s) (pathIx l t)) (stT l s), j < l.length) := ⟨less_asc (hU.asc hd), less_lt (hU.lt hd)⟩
      clear hv hq hT hTn hP hPn hd hU
      go_enter Try.func13, Try.ntmps13
      go_wp2_with fail
      refine (nodesOf_any _ _ _ _ HW.out hl hlc hcm hn HV.out).mono ?_
      rintro e w1 ⟨g, nb, cv, rfl, hN, hb1⟩
      have HN := Lib.hid hN
      clear hN
      go_wp2_with fail
      refine (meetNeed_yes _ _ _ _ _ _ _ _ HN.out HV.out HQ.out).mono ?_
      rintro e w2 ⟨rfl, hb2⟩
      have B2 := hb1.trans (hb2.mono hb1.size)
      have HN2 := Lib.hid (HN.out.below hb2)
      clear hb1 hb2
      have hb2' : Below w2.heap.size w2 ((w2.alloc (.cells (bitCells (inT (stT l s))) 64)).alloc (.cells (bitCells (inT (needT (stT l s) (pathIx l t)))) 64)) := ((Below.refl _ w2).alloc (Nat.le_refl _) _).alloc (by simp) _
      have HS0 : Hid (Row ((w2.alloc (.cells (bitCells (inT (stT l s))) 64)).alloc (.cells (bitCells (inT (needT (stT l s) (pathIx l t)))) 64)).drew w2.heap.size 64 (bitCells (inT (stT l s))) ∧ Row ((w2.alloc (.cells (bitCells (inT (stT l s))) 64)).alloc (.cells (bitCells (inT (needT (stT l s) (pathIx l t)))) 64)).drew (w2.heap.size + 1) 64 (bitCells (inT (needT (stT l s) (pathIx l t)))) ∧ Nodes ((w2.alloc (.cells (bitCells (inT (stT l s))) 64)).alloc (.cells (bitCells (inT (needT (stT l s) (pathIx l t)))) 64)).drew w.heap.size g l.length l.length l nb cv ∧ Below w.heap.size w ((w2.alloc (.cells (bitCells (inT (stT l s))) 64)).alloc (.cells (bitCells (inT (needT (stT l s) (pathIx l t)))) 64)).drew) := by
        refine ⟨(Row.new w2 _ _).alloc _, ?_, HN2.out.below hb2'.drew, (B2.trans (hb2'.mono B2.size)).drew⟩
        have := Row.new (w2.alloc (.cells (bitCells (inT (stT l s))) 64)) 64 (bitCells (inT (needT (stT l s) (pathIx l t))))
        rw [World.size_alloc] at this
        exact this
      clear hb2'
      unfold bitsV bitCells
      go_wp2_with fail
      refine wp_region_held_drew (S := (fun W => Row W w2.heap.size 64 (bitCells (inT (stT l s))) ∧ Row W (w2.heap.size + 1) 64 (bitCells (inT (needT (stT l s) (pathIx l t)))) ∧ Nodes W w.heap.size g l.length l.length l nb cv ∧ Below w.heap.size w W)) (by kernel_rfl) ?_ (fun hHeld => ?_)
      · exact HS0.out
      refine take_at (i := 0) (d := 25) (v := bitsV (inT (needT (stT l s) (pathIx l t)))) rfl rfl (by kernel_rfl) (by kernel_rfl) (by kernel_rfl) (fun _ _ _ h => h) (by kernel_rfl) ((fun W hS => run_load_state_op rfl rfl hS.2.1)) (by assumption) ?_
      simp only [List.setIfInBounds_toArray, List.set_cons_succ, List.set_cons_zero]
      refine take_at (i := 1) (d := 26) (v := .slice (some ⟨g, 0, none⟩) l.length l.length) rfl rfl (by kernel_rfl) (by kernel_rfl) (by kernel_rfl) (fun _ _ _ h => h) (by kernel_rfl) (by (intro w hSw; (try dsimp only at hSw); go_simp)) (by assumption) ?_
      simp only [List.setIfInBounds_toArray, List.set_cons_succ, List.set_cons_zero]
      refine take_at (i := 3) (d := 28) (v := bitsV (inT (needT (stT l s) (pathIx l t)))) rfl rfl (by kernel_rfl) (by kernel_rfl) (by kernel_rfl) (fun _ _ _ h => h) (by kernel_rfl) ((fun W hS => run_load_state_op rfl rfl hS.2.1)) (by assumption) ?_
      simp only [List.setIfInBounds_toArray, List.set_cons_succ, List.set_cons_zero]
      refine take_at (i := 4) (d := 29) (v := bitsV (inT (stT l s))) rfl rfl (by kernel_rfl) (by kernel_rfl) (by kernel_rfl) (fun _ _ _ h => h) (by kernel_rfl) ((fun W hS => run_load_state_op rfl rfl hS.1)) (by assumption) ?_
      simp only [List.setIfInBounds_toArray, List.set_cons_succ, List.set_cons_zero]
      refine take_at (i := 6) (d := 31) (v := .slice (some ⟨g, 0, none⟩) l.length l.length) rfl rfl (by kernel_rfl) (by kernel_rfl) (by kernel_rfl) (fun _ _ _ h => h) (by kernel_rfl) (by (intro w hSw; (try dsimp only at hSw); go_simp)) (by assumption) ?_
      simp only [List.setIfInBounds_toArray, List.set_cons_succ, List.set_cons_zero]
      refine wpAnyH_ready (rs := [2]) (by kernel_rfl) (by simp) ?_
      refine AllReadyH.cons rfl (fun K hK => ?_) AllReadyH.nil
      go_simp
      refine (namesIn_any w.heap.size g l nb cv (needT (stT l s) (pathIx l t)) _ hHeld.2.2.1 HV.out HA.out.1 HA.out.2).mono ?_
      rintro e W3 ⟨rfl, hb3⟩
      have hs3 : Row W3 w2.heap.size 64 (bitCells (inT (stT l s))) ∧ Row W3 (w2.heap.size + 1) 64 (bitCells (inT (needT (stT l s) (pathIx l t)))) ∧ Nodes W3 w.heap.size g l.length l.length l nb cv ∧ Below w.heap.size w W3 := ⟨hHeld.1.below hb3 hHeld.1.lt, hHeld.2.1.below hb3 hHeld.2.1.lt, hHeld.2.2.1.below hb3, hHeld.2.2.2.trans (hb3.mono hHeld.2.2.2.size)⟩
      clear hb3 hHeld
      refine hK.out _ _ hs3 (fun hHeld => ?_)
      clear hK K hs3
      refine wpAnyH_ready (rs := [5]) (by kernel_rfl) (by simp) ?_
      refine AllReadyH.cons rfl (fun K hK => ?_) AllReadyH.nil
      go_simp
      refine (lessIn_any (needT (stT l s) (pathIx l t)) (stT l s) _).mono ?_
      rintro e W4 ⟨rfl, hb4⟩
      have hs4 : Row W4 w2.heap.size 64 (bitCells (inT (stT l s))) ∧ Row W4 (w2.heap.size + 1) 64 (bitCells (inT (needT (stT l s) (pathIx l t)))) ∧ Nodes W4 w.heap.size g l.length l.length l nb cv ∧ Below w.heap.size w W4 := ⟨hHeld.1.below hb4 hHeld.1.lt, hHeld.2.1.below hb4 hHeld.2.1.lt, hHeld.2.2.1.below hb4, hHeld.2.2.2.trans (hb4.mono hHeld.2.2.2.size)⟩
      clear hb4 hHeld
      refine hK.out _ _ hs4 (fun hHeld => ?_)
      clear hK K hs4
      refine wpAnyH_ready (rs := [7]) (by kernel_rfl) (by simp) ?_
      refine AllReadyH.cons rfl (fun K hK => ?_) AllReadyH.nil
      go_simp
      refine (namesIn_any w.heap.size g l nb cv (lessT (needT (stT l s) (pathIx l t)) (stT l s)) _ hHeld.2.2.1 HV.out HA2.out.1 HA2.out.2).mono ?_
      rintro e W5 ⟨rfl, hb5⟩
      have hs5 : Row W5 w2.heap.size 64 (bitCells (inT (stT l s))) ∧ Row W5 (w2.heap.size + 1) 64 (bitCells (inT (needT (stT l s) (pathIx l t)))) ∧ Nodes W5 w.heap.size g l.length l.length l nb cv ∧ Below w.heap.size w W5 := ⟨hHeld.1.below hb5 hHeld.1.lt, hHeld.2.1.below hb5 hHeld.2.1.lt, hHeld.2.2.1.below hb5, hHeld.2.2.2.trans (hb5.mono hHeld.2.2.2.size)⟩
      clear hb5 hHeld
      refine hK.out _ _ hs5 (fun hHeld => ?_)
      clear hK K hs5
      refine take_at (i := 8) (d := 6) (v := .string (namesAt l (needT (stT l s) (pathIx l t)))) rfl rfl (by kernel_rfl) (by kernel_rfl) (by kernel_rfl) (fun _ _ _ h => h) (by kernel_rfl) (by (intro w hSw; (try dsimp only at hSw); go_simp)) (by assumption) ?_
      simp only [List.setIfInBounds_toArray, List.set_cons_succ, List.set_cons_zero]
      refine take_at (i := 9) (d := 7) (v := .string (namesAt l (lessT (needT (stT l s) (pathIx l t)) (stT l s)))) rfl rfl (by kernel_rfl) (by kernel_rfl) (by kernel_rfl) (fun _ _ _ h => h) (by kernel_rfl) (by (intro w hSw; (try dsimp only at hSw); go_simp)) (by assumption) ?_
      simp only [List.setIfInBounds_toArray, List.set_cons_succ, List.set_cons_zero]
      refine take_at (i := 10) (d := 8) (v := .bool true) rfl rfl (by kernel_rfl) (by kernel_rfl) (by kernel_rfl) (fun _ _ _ h => h) (by kernel_rfl) (by (intro w hSw; (try dsimp only at hSw); go_simp)) (by assumption) ?_
      simp only [List.setIfInBounds_toArray, List.set_cons_succ, List.set_cons_zero]
      refine wpAnyH_done (by kernel_rfl) ?_ _
      go_wp2
      go_ret3
      exact ⟨ret_three HF.out.1.symm HF.out.2.symm rfl, hHeld.2.2.2⟩

end Go.Proofs.Ytcpiojliakgdlaa
