/- Joined: Ek. -/
import Derived.Test.YtcpiojliakgdlaaU28
/- The program: all that is loaded in a run in which segments stay. -/
namespace Go.Proofs.Ytcpiojliakgdlaa
open Go.RowKit Go.Shelf

theorem run_load_state10 {ρ : Operand → Value} {o : Oper} {x : Operand} {b : Nat} {f : Nat → Bool} {w : World} (ho : o.op = .load 64 x) (hx : ρ x = .pointer (some ⟨b, 0, none⟩)) (h : Row w b 64 (bitCells f)) :
    (execOp ρ o).run Try.prog w = .ok (.value (bitsV f)) w := by
  unfold execOp
  simp only [ho, hx, Instr.loadAt, Instr.sureAddr, Sem.run_bind, Sem.run_pure, Result.andThen_ok, run_loadState h]
theorem run_loadNeed10 {w : World} {b : Nat} {f : Nat → Bool} (h : Row w b 142 (bitCells f)) : (loadVar 142 ⟨b, 0, none⟩).run Try.prog w = .ok (bitsV f) w :=
  run_loadVar_row w b 142 142 (bitCells f) (0, 0) _ h Try.underlying142 rfl (by kernel_rfl)
theorem run_load_need10 {ρ : Operand → Value} {o : Oper} {x : Operand} {b : Nat} {f : Nat → Bool} {w : World} (ho : o.op = .load 142 x) (hx : ρ x = .pointer (some ⟨b, 0, none⟩)) (h : Row w b 142 (bitCells f)) :
    (execOp ρ o).run Try.prog w = .ok (.value (bitsV f)) w := by
  unfold execOp
  simp only [ho, hx, Instr.loadAt, Instr.sureAddr, Sem.run_bind, Sem.run_pure, Result.andThen_ok, run_loadNeed10 h]
theorem without_in10 (l : List Seg) (T : List Nat) (j : Nat) : (fun i => inT (rp l j) i && !memF (0 :: T) i) = inT (pathT10 l T j) := by
  funext i
  unfold inT pathT10 memF
  rw [Bool.eq_iff_iff, decide_eq_true_iff, outT10_mem, Bool.and_eq_true, decide_eq_true_iff, Bool.not_eq_true', decide_eq_false_iff_not]

/-- What the loop over the needs keeps. -/
structure Ldg10 (w : World) (l : List Seg) (g : Nat) (v : Value) (H : Nat) (T : List Nat) (bs : List Value) (W : World) : Prop where
  run : Row W w.heap.size 132 #[.slice (some ⟨g, 0, none⟩) l.length l.length, v]
  held : Row W H 64 (bitCells (inT T))
  text : Lib.IsBuilderF 90 5 (w.heap.size + 1) (w.heap.size + 1) bs W
  below : Below w.heap.size w W
  low : w.heap.size + 1 < H
theorem Ldg10.below' {w W W' : World} {l : List Seg} {g : Nat} {v : Value} {H : Nat} {T : List Nat} {bs : List Value} (h : Ldg10 w l g v H T bs W) (hb : Below W.heap.size W W') : Ldg10 w l g v H T bs W' :=
  ⟨h.run.below hb h.run.lt, h.held.below hb h.held.lt, isB_own _ _ _ _ 0 (fun _ : List Unit => bs) [] W W' none h.text (grownBy_of_below hb) (fun r e => by cases e), h.below.trans (hb.mono h.below.size), h.low⟩
theorem Ldg10.far {w W : World} {l : List Seg} {g : Nat} {v : Value} {H : Nat} {T : List Nat} {bs : List Value} (h : Ldg10 w l g v H T bs W) {b : Nat} {f0 : Nat → Bool} (hr : Row W b 64 (bitCells f0)) (hb : w.heap.size + 1 < b) (f : Nat → Bool) :
    Lib.IsBuilderF 90 5 (w.heap.size + 1) (w.heap.size + 1) bs (putBits W b f) ∧ Row (putBits W b f) w.heap.size 132 #[.slice (some ⟨g, 0, none⟩) l.length l.length, v] ∧ Below w.heap.size w (putBits W b f) := by
  refine ⟨?_, putBits_far h.run (by omega), putBits_below h.below (by omega)⟩
  have key : ∀ p, Lib.BuilderAtF 90 5 (w.heap.size + 1) (w.heap.size + 1) p bs W → Lib.BuilderAtF 90 5 (w.heap.size + 1) (w.heap.size + 1) p bs (putBits W b f) := fun p hp => by
    obtain ⟨h1, v, h2, h3, h4⟩ := hp
    refine ⟨h1, v, (putBits_block W b _ (by omega)).trans h2, ⟨h3.1, ?_⟩, h4⟩
    rcases h3.2 with h5 | ⟨g, cap, cur, fz, hv, hg, hh, r⟩
    · exact .inl h5
    · refine .inr ⟨g, cap, cur, fz, hv, hg, (putBits_block W b _ (fun e => ?_)).trans hh, r⟩
      subst e
      have h6 : W.heap[g]? = some (.cells _ 64 (0, 0)) := hr
      rw [hh] at h6
      injection h6 with h6
      injection h6 with _ h7
      exact absurd h7 (by decide)
  exact h.text.elim (fun x => .inl (key _ x)) (fun x => .inr (key _ x))
theorem Ldg10.put {w W : World} {l : List Seg} {g : Nat} {v : Value} {H : Nat} {T : List Nat} {bs : List Value} (h : Ldg10 w l g v H T bs W) (U : List Nat) : Ldg10 w l g v H U bs (putBits W H (inT U)) := by
  obtain ⟨h1, h2, h3⟩ := h.far h.held h.low (inT U)
  exact ⟨h2, putBits_row h.held, h1, h3, h.low⟩
theorem Ldg10.aside {w W : World} {l : List Seg} {g : Nat} {v : Value} {H : Nat} {T : List Nat} {bs : List Value} (h : Ldg10 w l g v H T bs W) {b : Nat} {f0 : Nat → Bool} (hr : Row W b 64 (bitCells f0)) (hb : w.heap.size + 1 < b) (hne : b ≠ H) (f : Nat → Bool) : Ldg10 w l g v H T bs (putBits W b f) := by
  obtain ⟨h1, h2, h3⟩ := h.far hr hb f
  exact ⟨h2, putBits_far h.held (fun e => hne e.symm), h1, h3, h.low⟩
theorem Ldg10.wrote {w W W' : World} {l : List Seg} {g : Nat} {v : Value} {H : Nat} {T : List Nat} {bs bs' : List Value} (h : Ldg10 w l g v H T bs W) (hI : Lib.IsBuilderF 90 5 (w.heap.size + 1) (w.heap.size + 1) bs' W') (hb : Below (w.heap.size + 1) W W') (hk : Lib.OthersKept 5 (some (w.heap.size + 1)) W W') : Ldg10 w l g v H T bs' W' :=
  ⟨h.run.below hb (by omega), kept_row hk h.held (by have := h.low; omega) (by decide), hI, h.below.trans (hb.mono (by omega)), h.low⟩

set_option maxRecDepth 100000 in
set_option maxHeartbeats 8000000 in
theorem runLoads_any (B g : Nat) (l : List Seg) (nb : Nat → Nat) (cv : Nat → Value) (B' : Nat) (v : Value) (js T : List Nat) (w : World) (hN : Nodes w B g l.length l.length l nb cv) (hv : validB l = true) (hT : Pins10 l T) (hO : OwnNeeds10 w B' l v js) (hj : ∀ j ∈ js, j < l.length) (hjl : js.length ≤ 161) :
    Calls Try.prog 109 #[.agg #[.slice (some ⟨g, 0, none⟩) l.length l.length, v], .int .u64 (setF (memF (0 :: T)) : Int)] w fun e w' => e = .returned (.string (namesAt l (loads10 l T js))) ∧ Below w.heap.size w w' := by
  have h8 := (valid_all hv).2.1
  have h0 : 0 < l.length := by have := (valid_all hv).2.2; omega
  have HN := Lib.hid hN
  have HV := Lib.hid hv
  have HD : Hid (Down l l.length) := (valid_all hv).1.down
  have HO := Lib.hid hO
  have HJ := Lib.hid hj
  have HSN := Lib.hid (fun W h => setNames10_any B g l nb cv (memF (0 :: T)) W h hv)
  have hsel : selIx (memF (0 :: T)) l.length = 0 :: T := sel_mem (hT.all h0).1 (hT.all h0).2
  rw [hsel] at HSN
  have HWO := Lib.hid (fun j W => needWithout_any (inT (rp l j)) (memF (0 :: T)) W)
  have HWI := Lib.hid (fun j => without_in10 l T j)
  have hTz : (namesAt l (0 :: T)).size ≤ 9 := by
    rw [namesAt_size8 hv (hT.all h0).2, List.length_cons]
    rcases hT.len with h | h
    · omega
    · rw [h]; decide
  have H0 : Hid (namesAt l (loads10 l T (js.take 0)) = namesAt l (0 :: T)) := by
    show _ = _
    have : loads10 l T (js.take 0) = 0 :: T := by
      show (0 :: T) ++ [] = 0 :: T
      rw [List.append_nil]
    rw [this]
  have HTK := Lib.hid (fun k (hk : k < js.length) => loads10_take (l := l) (T := T) hk)
  have HLZ : Hid (∀ k, (namesAt l (loads10 l T (js.take k))).size ≤ 10000) := fun k => by
    obtain ⟨a1, a2⟩ := loads10_lt hv hT (js := js.take k) (fun j hj' => hj j (List.mem_of_mem_take hj'))
    rw [namesAt_size8 hv a1]
    rw [List.length_take] at a2
    omega
  have HHP : Hid (∀ k, IsPin10 l T (heldP10 l T [] (js.take k))) := fun k => heldP10_pin _ (isPin10_nil l T) (fun j hj' => hj j (List.mem_of_mem_take hj'))
  obtain ⟨A4, c4, rfl⟩ := hO.form
  clear hN hv hT hO hj hsel
  generalize hF : memF (0 :: T) = f at *
  have HF := Lib.hid hF
  clear hF
  generalize namesAt l (0 :: T) = n0 at *
  go_enter Try.func109, Try.ntmps109
  have HBox : Hid (Row ((w.alloc (.cells #[.slice (some ⟨g, 0, none⟩) l.length l.length, .slice A4 js.length c4] 132)).alloc (.cells #[.pointer none, .slice none 0 0] 90)) w.heap.size 132 #[.slice (some ⟨g, 0, none⟩) l.length l.length, .slice A4 js.length c4]) := (Row.new w _ _).alloc _
  have hI0 : Lib.IsBuilderF 90 5 (w.heap.size + 1) (w.heap.size + 1) [] ((w.alloc (.cells #[.slice (some ⟨g, 0, none⟩) l.length l.length, .slice A4 js.length c4] 132)).alloc (.cells #[.pointer none, .slice none 0 0] 90)) := by
    have h1 := Lib.IsBuilderF.of (Lib.fresh_isBuilder 90 5 (w.alloc (.cells #[.slice (some ⟨g, 0, none⟩) l.length l.length, .slice A4 js.length c4] 132)))
    rw [World.size_alloc] at h1
    exact h1
  have HI0 := Lib.hid hI0
  have HB0 : Hid (Below w.heap.size w ((w.alloc (.cells #[.slice (some ⟨g, 0, none⟩) l.length l.length, .slice A4 js.length c4] 132)).alloc (.cells #[.pointer none, .slice none 0 0] 90))) := ((Below.refl _ w).alloc (Nat.le_refl _) _).alloc (by simp) _
  have HZ0 : Hid (((w.alloc (.cells #[.slice (some ⟨g, 0, none⟩) l.length l.length, .slice A4 js.length c4] 132)).alloc (.cells #[.pointer none, .slice none 0 0] 90)).heap.size = w.heap.size + 2) := by
    show _ = _
    simp
  clear hI0
  go_wp2_with fail
  refine (HSN.out _ (HN.out.below HB0.out)).mono ?_
  rintro e w1 ⟨rfl, hb1⟩
  have HI1 : Hid (Lib.IsBuilderF 90 5 (w.heap.size + 1) (w.heap.size + 1) [] w1) := isB_own _ _ _ _ 0 (fun _ : List Unit => ([] : List Value)) [] _ w1 none HI0.out (grownBy_of_below hb1) (fun r e => by cases e)
  have HB1 := Lib.hid (HB0.out.trans (hb1.mono HB0.out.size))
  have HBox1 := Lib.hid (HBox.out.below hb1 (by rw [HZ0.out]; omega))
  have HZ1 : Hid (w.heap.size + 2 ≤ w1.heap.size) := by show _ ≤ _; have := hb1.size; rw [HZ0.out] at this; exact this
  clear hb1 HI0 HB0 HBox HZ0
  go_wp2_with fail
  refine (writeString_any (w.heap.size + 1) (w.heap.size + 1) _ n0 _ HI1.out (by show 0 + n0.size ≤ _; omega) (by have := HZ1.out; omega)).mono ?_
  rintro e w2 ⟨rfl, hI2, hb2, hk2⟩
  have HI2 := Lib.hid hI2
  have HB2 := Lib.hid (HB1.out.trans (hb2.mono (by omega)))
  have HBox2 := Lib.hid (HBox1.out.below hb2 (by omega))
  have HZ2 : Hid (w.heap.size + 2 ≤ w2.heap.size) := by show _ ≤ _; have := hb2.size; have := HZ1.out; omega
  clear hI2 hb2 hk2 HI1 HB1 HBox1 HZ1
  have hL0 : Ldg10 w l g (.slice A4 js.length c4) w2.heap.size [] ([] ++ Lib.strCells n0) (w2.alloc (.cells (bitCells fun _ => false) 64)) := by
    have hb : Below w2.heap.size w2 (w2.alloc (.cells (bitCells fun _ => false) 64)) := (Below.refl _ w2).alloc (Nat.le_refl _) _
    refine ⟨HBox2.out.below hb HBox2.out.lt, ?_, isB_own _ _ _ _ 0 (fun _ : List Unit => ([] ++ Lib.strCells n0 : List Value)) [] w2 _ none HI2.out (grownBy_of_below hb) (fun r e => by cases e), HB2.out.trans (hb.mono HB2.out.size), by have := HZ2.out; omega⟩
    have h1 := Row.new w2 64 (bitCells fun _ => false)
    rw [bits_congr (f := inT []) (g := fun _ => false) (fun j _ => by unfold inT; simp)]
    exact h1
  have HL0 := Lib.hid hL0
  unfold bitCells at HL0
  clear hL0 HI2 HB2
  have hcb := HBox2.out.cell 1
  have hcl : w2.cell? ⟨w.heap.size, 1, none⟩ = some (.slice A4 js.length c4) := hcb
  have HCB : Hid ((w2.alloc (.cells #[.bool false, .bool false, .bool false, .bool false, .bool false, .bool false, .bool false, .bool false] 64)).cell? ⟨w.heap.size, 1, none⟩ = some (.slice A4 js.length c4)) := HL0.out.run.cell 1
  have hcb3 := HCB.out
  clear hcb
  go_wp2
  have HZ3 : Hid ([] ++ Lib.strCells n0 = Lib.byteCells (namesAt l (loads10 l T (js.take 0))).data.toList) := by
    show _ = _
    rw [H0.out, List.nil_append]
    simp [Lib.byteCells, Lib.strCells]
  go_loopw [18] (fun i wr => ∃ k : Nat, k ≤ js.length ∧ i = .int .i64 k ∧ Hid (Ldg10 w l g (.slice A4 js.length c4) w2.heap.size (heldP10 l T [] (js.take k)) (Lib.byteCells (namesAt l (loads10 l T (js.take k))).data.toList) wr))
    (fun i _ => js.length - (intOf i).toNat)
  case atStart => exact ⟨0, Nat.zero_le _, rfl, by rw [← HZ3.out]; exact HL0⟩
  case round =>
    obtain ⟨k, hk, rfl, HLk⟩ := hrel
    clear HL0 HZ3 HCB hcl HBox2 hcb3
    have hk0 : (0 : Int) ≤ (k : Int) := Int.natCast_nonneg _
    by_cases hlt : k < js.length
    · have hlt' : (k : Int) < (js.length : Int) := by omega
      obtain ⟨q, cap, hq⟩ : ∃ q cap, (Value.slice A4 js.length c4) = .slice (some ⟨q, 0, none⟩) js.length cap := by
        rcases HO.out.2 with ⟨h1, h2⟩ | ⟨q, cap, _, h1, _⟩
        · omega
        · exact ⟨q, cap, h1⟩
      injection hq with hq1 _ hq3
      subst hq1
      subst hq3
      have hql : q < w.heap.size := (World.ownsRow.lt HO.out q rfl).2
      have hcell : ∀ i, i < 8 → wr.cell? ⟨q, k * 8 + i, none⟩ = some (.bool (inT (rp l js[k]) i)) := fun i hi => (HLk.out.below.cell (p := ⟨q, k * 8 + i, none⟩) hql).trans (HO.out.cell (List.getElem?_eq_getElem hlt) hi)
      have e0 := hcell 0 (by decide)
      have e1 := hcell 1 (by decide)
      have e2 := hcell 2 (by decide)
      have e3 := hcell 3 (by decide)
      have e4 := hcell 4 (by decide)
      have e5 := hcell 5 (by decide)
      have e6 := hcell 6 (by decide)
      have e7 := hcell 7 (by decide)
      simp only [Nat.add_zero] at e0
      clear hcell
      obtain ⟨t1, t2⟩ := HTK.out k hlt
      have hjk := HJ.out _ (List.getElem_mem hlt)
      have hP1 := HHP.out k
      have hPP := isPin10_path l T hjk
      have hU := isPin10_need hP1 hPP
      have HP8 : Hid (∀ x ∈ pathT10 l T js[k], x < 8) := fun x hx => by have := isPin10_lt HD.out hPP x hx; omega
      have HLo : Hid ((lessT (needT (heldP10 l T [] (js.take k)) (pathT10 l T js[k])) (heldP10 l T [] (js.take k))).Pairwise (· < ·) ∧ ∀ x ∈ lessT (needT (heldP10 l T [] (js.take k)) (pathT10 l T js[k])) (heldP10 l T [] (js.take k)), x < l.length) := ⟨less_asc (isPin10_asc HD.out hU), less_lt (isPin10_lt HD.out hU)⟩
      have hzl : (namesAt l (lessT (needT (heldP10 l T [] (js.take k)) (pathT10 l T js[k])) (heldP10 l T [] (js.take k)))).size ≤ 8 := by
        rw [namesAt_size8 HV.out HLo.out.2]
        have h1 := less_len (needT (heldP10 l T [] (js.take k)) (pathT10 l T js[k])) (heldP10 l T [] (js.take k))
        have h2 := isPin10_len hU
        omega
      have HRT := Lib.hid t2
      have HRL : Hid (Lib.byteCells (namesAt l (loads10 l T (js.take (k + 1)))).data.toList = Lib.byteCells (namesAt l (loads10 l T (js.take k))).data.toList ++ Lib.strCells (namesAt l (lessT (needT (heldP10 l T [] (js.take k)) (pathT10 l T js[k])) (heldP10 l T [] (js.take k))))) := by
        show _ = _
        rw [t1, namesAt_append10, ByteArray.data_append, Array.toList_append]
        simp [Lib.byteCells, Lib.strCells, loadT]
      have hLkz : (Lib.byteCells (namesAt l (loads10 l T (js.take k))).data.toList).length = (namesAt l (loads10 l T (js.take k))).size := by simp [Lib.byteCells]
      have hzL := HLZ.out k
      have HME := Lib.hid (fun W => meet_any (heldP10 l T [] (js.take k)) (pathT10 l T js[k]) W HP8.out)
      have HLS := Lib.hid (fun W => lessIn_any (needT (heldP10 l T [] (js.take k)) (pathT10 l T js[k])) (heldP10 l T [] (js.take k)) W)
      have HNS := Lib.hid (fun W hW => namesIn_any B g l nb cv (lessT (needT (heldP10 l T [] (js.take k)) (pathT10 l T js[k])) (heldP10 l T [] (js.take k))) W hW HV.out HLo.out.1 HLo.out.2)
      have HWK := Lib.hid (HWO.out js[k])
      rw [HWI.out js[k]] at HWK
      clear t1 t2 hP1 hPP hU HLo HP8
      generalize namesAt l (lessT (needT (heldP10 l T [] (js.take k)) (pathT10 l T js[k])) (heldP10 l T [] (js.take k))) = nm at *
      generalize lessT (needT (heldP10 l T [] (js.take k)) (pathT10 l T js[k])) (heldP10 l T [] (js.take k)) = Lk at *
      generalize needT (heldP10 l T [] (js.take k)) (pathT10 l T js[k]) = Uk at *
      generalize heldP10 l T [] (js.take k) = Hk at *
      generalize pathT10 l T js[k] = Pk at *
      generalize Lib.byteCells (namesAt l (loads10 l T (js.take k))).data.toList = bk at *
      generalize js[k] = j at *
      obtain ⟨fj, hfj⟩ : ∃ fj, fj = inT (rp l j) := ⟨_, rfl⟩
      rw [← hfj] at e0 e1 e2 e3 e4 e5 e6 e7 HWK
      clear hfj
      have hb8 : Below wr.heap.size wr (wr.alloc (.cells (bitCells fj) 142)) := (Below.refl _ wr).alloc (Nat.le_refl _) _
      obtain ⟨W1, hW1⟩ : ∃ W1, W1 = wr.alloc (.cells (bitCells fj) 142) := ⟨_, rfl⟩
      have HL1 : Hid (Ldg10 w l g (.slice (some ⟨q, 0, none⟩) js.length c4) w2.heap.size Hk bk W1.drew) := by
        show Ldg10 _ _ _ _ _ _ _ _
        rw [hW1]
        exact HLk.out.below' hb8.drew
      have HR8 : Hid (Row W1.drew wr.heap.size 142 (bitCells fj)) := by
        show Row _ _ _ _
        rw [hW1]
        exact Row.new wr _ _
      have HZW : Hid (w2.heap.size < W1.heap.size ∧ w.heap.size + 1 < W1.heap.size ∧ wr.heap.size < W1.heap.size) := by
        have h1 := HLk.out.held.lt
        have h2 := HLk.out.low
        have h3 : W1.heap.size = wr.heap.size + 1 := by rw [hW1]; simp
        exact ⟨by omega, by omega, by omega⟩
      unfold bitCells at hW1
      go_wp2_with fail
      rw [← hW1]
      clear hW1 hb8 e0 e1 e2 e3 e4 e5 e6 e7 HLk
      refine wp_region_held_drew (S := (fun W => Below W1.heap.size W1.drew W)) (by kernel_rfl) ?_ (fun hHeld => ?_)
      · exact Below.refl _ _
      refine take_at (i := 0) (d := 22) (v := bitsV fj) rfl rfl (by kernel_rfl) (by kernel_rfl) (by kernel_rfl) (fun _ _ _ h => h) (by kernel_rfl) ((fun W hS => run_load_need10 rfl rfl (HR8.out.below hS HZW.out.2.2))) (by assumption) ?_
      simp only [List.setIfInBounds_toArray, List.set_cons_succ, List.set_cons_zero]
      refine take_at (i := 1) (d := 23) (v := .int .u64 (setF f : Int)) rfl rfl (by kernel_rfl) (by kernel_rfl) (by kernel_rfl) (fun _ _ _ h => h) (by kernel_rfl) (by (intro w hSw; (try dsimp only at hSw); go_simp)) (by assumption) ?_
      simp only [List.setIfInBounds_toArray, List.set_cons_succ, List.set_cons_zero]
      refine take_at (i := 3) (d := 25) (v := bitsV (inT Hk)) rfl rfl (by kernel_rfl) (by kernel_rfl) (by kernel_rfl) (fun _ _ _ h => h) (by kernel_rfl) ((fun W hS => run_load_state10 rfl rfl (HL1.out.held.below hS HZW.out.1))) (by assumption) ?_
      simp only [List.setIfInBounds_toArray, List.set_cons_succ, List.set_cons_zero]
      have HB_0 : Hid (Below W1.heap.size W1.drew W1.drew) := Below.refl _ _
      refine wpAnyH_ready (rs := [2, 5]) (by kernel_rfl) (by simp) ?_
      refine AllReadyH.cons rfl (fun K hK => ?_) (AllReadyH.cons rfl (fun K hK => ?_) AllReadyH.nil)
      ·
        go_simp
        refine Calls.mono (HWK.out _) ?_
        rintro e v2 ⟨rfl, hb⟩
        have HL_2 := Lib.hid (HL1.out.below' hb)
        have HB_2 : Hid (Below W1.heap.size W1.drew v2) := HB_0.out.trans (hb.mono HB_0.out.size)
        clear hb hHeld
        refine hK.out _ _ HB_2.out (fun hHeld => ?_)
        clear hK K
        refine wpAnyH_ready (rs := [4, 5]) (by kernel_rfl) (by simp) ?_
        refine AllReadyH.cons rfl (fun K hK => ?_) (AllReadyH.cons rfl (fun K hK => ?_) AllReadyH.nil)
        ·
          go_simp
          refine Calls.mono (HME.out _) ?_
          rintro e v4 ⟨rfl, hb⟩
          have HL_4 := Lib.hid (HL_2.out.below' hb)
          have HB_4 : Hid (Below W1.heap.size W1.drew v4) := HB_2.out.trans (hb.mono HB_2.out.size)
          clear hb hHeld
          refine hK.out _ _ HB_4.out (fun hHeld => ?_)
          clear hK K
          refine wpAnyH_ready (rs := [5]) (by kernel_rfl) (by simp) ?_
          refine AllReadyH.cons rfl (fun K hK => ?_) AllReadyH.nil
          obtain ⟨v5, hv5⟩ : ∃ v5, v5 = World.alloc v4 (.cells (bitCells fun _ => false) 64) := ⟨_, rfl⟩
          have HL_5 : Hid (Ldg10 w l g (.slice (some ⟨q, 0, none⟩) js.length c4) w2.heap.size Hk bk v5) := by
            show Ldg10 _ _ _ _ _ _ _ _
            rw [hv5]
            exact HL_4.out.below' ((Below.refl _ _).alloc (Nat.le_refl _) _)
          have HB_5 : Hid (Below W1.heap.size W1.drew v5) := by
            show Below _ _ _
            rw [hv5]
            exact HB_4.out.alloc HB_4.out.size _
          obtain ⟨a, ha⟩ : ∃ a, a = (World.heap v4).size := ⟨_, rfl⟩
          have HA_5 : Hid (Row v5 a 64 (bitCells fun _ => false)) := by
            show Row _ _ _ _
            rw [hv5, ha]
            exact Row.new _ _ _
          have HAZ : Hid (W1.heap.size ≤ a) := by
            show _ ≤ _
            rw [ha]
            exact HB_4.out.size
          unfold bitCells at hv5
          go_simp
          rw [← hv5, ← ha]
          clear hHeld hv5 ha
          refine hK.out _ _ HB_5.out (fun hHeld => ?_)
          clear hK K
          have HLa := Lib.hid (HL_5.out.aside (b := a) HA_5.out (by have := HAZ.out; have := HZW.out; omega) (by have := HAZ.out; have := HZW.out; omega) (inT Uk))
          have HRa := Lib.hid (putBits_row (f := inT Uk) HA_5.out)
          have HBa := Lib.hid (putBits_below (f := inT Uk) HB_5.out (show W1.heap.size ≤ a from HAZ.out))
          obtain ⟨⟨d0, d1, d2, d3⟩, d4, d5, d6, d7⟩ := bits_cells HA_5.out
          have hfz := fun i => HA_5.out.free i
          have z0 := hfz 0
          have z1 := hfz 1
          have z2 := hfz 2
          have z3 := hfz 3
          have z4 := hfz 4
          have z5 := hfz 5
          have z6 := hfz 6
          have z7 := hfz 7
          clear hfz hHeld
          refine wpAnyH_ready (rs := [6]) (by kernel_rfl) (by simp) ?_
          refine AllReadyH.cons rfl (fun K hK => ?_) AllReadyH.nil
          unfold bitsV bitCells
          go_simp
          refine hK.out _ (putBits v5 a (inT Uk)) HBa.out (fun hHeld => ?_)
          clear hK K hHeld d0 d1 d2 d3 d4 d5 d6 d7 z0 z1 z2 z3 z4 z5 z6 z7
          refine wpAnyH_done (by kernel_rfl) ?_ _
          generalize putBits v5 a (inT Uk) = W9 at *
          clear HB_0 HL_2 HB_2 HL_4 HB_4 HL_5 HB_5 HA_5 HBa HL1 HR8
          have HL9 := Lib.hid (HLa.out.below' ((Below.refl _ W9).drew))
          have HR9 : Hid (Row W9.drew a 64 (bitCells (inT Uk))) := HRa.out
          clear HLa HRa
          have HSH : Hid (a ≠ w2.heap.size ∧ a ≠ w.heap.size + 1) := by have := HAZ.out; have := HZW.out; exact ⟨by omega, by omega⟩
          go_wp2_with fail
          refine wp_region_held_drew (S := (fun W => Row W a 64 (bitCells (inT Uk)) ∧ Row W w2.heap.size 64 (bitCells (inT Hk)) ∧ Row W w.heap.size 132 #[.slice (some ⟨g, 0, none⟩) l.length l.length, .slice (some ⟨q, 0, none⟩) js.length c4])) (by kernel_rfl) ?_ (fun hHeld => ?_)
          · exact ⟨HR9.out, HL9.out.held, HL9.out.run⟩
          refine take_at (i := 0) (d := 27) (v := bitsV (inT Uk)) rfl rfl (by kernel_rfl) (by kernel_rfl) (by kernel_rfl) (fun _ _ _ h => h) (by kernel_rfl) ((fun W hS => run_load_state10 rfl rfl hS.1)) (by assumption) ?_
          simp only [List.setIfInBounds_toArray, List.set_cons_succ, List.set_cons_zero]
          refine take_at (i := 1) (d := 28) (v := bitsV (inT Hk)) rfl rfl (by kernel_rfl) (by kernel_rfl) (by kernel_rfl) (fun _ _ _ h => h) (by kernel_rfl) ((fun W hS => run_load_state10 rfl rfl hS.2.1)) (by assumption) ?_
          simp only [List.setIfInBounds_toArray, List.set_cons_succ, List.set_cons_zero]
          refine take_at (i := 3) (d := 30) (v := .pointer (some ⟨w.heap.size, 0, none⟩)) rfl rfl (by kernel_rfl) (by kernel_rfl) (by kernel_rfl) (fun _ _ _ h => h) (by kernel_rfl) (by (intro w hSw; (try dsimp only at hSw); go_simp)) (by assumption) ?_
          simp only [List.setIfInBounds_toArray, List.set_cons_succ, List.set_cons_zero]
          refine take_at (i := 4) (d := 31) (v := .slice (some ⟨g, 0, none⟩) l.length l.length) rfl rfl (by kernel_rfl) (by kernel_rfl) (by kernel_rfl) (fun _ _ _ h => h) (by kernel_rfl) ((by (intro W hS; have hcu := hS.2.2.cell 0; go_simp))) (by assumption) ?_
          simp only [List.setIfInBounds_toArray, List.set_cons_succ, List.set_cons_zero]
          refine wpAnyH_ready (rs := [2]) (by kernel_rfl) (by simp) ?_
          refine AllReadyH.cons rfl (fun K hK => ?_) AllReadyH.nil
          go_simp
          refine Calls.mono (HLS.out _) ?_
          rintro e w10 ⟨rfl, hb⟩
          have HL10 := Lib.hid (HL9.out.below' hb)
          have HR10 := Lib.hid (HR9.out.below hb HR9.out.lt)
          clear hb hHeld HL9 HR9
          refine hK.out _ _ ⟨HR10.out, HL10.out.held, HL10.out.run⟩ (fun hHeld => ?_)
          clear hK K
          refine wpAnyH_ready (rs := [5]) (by kernel_rfl) (by simp) ?_
          refine AllReadyH.cons rfl (fun K hK => ?_) AllReadyH.nil
          go_simp
          refine Calls.mono (HNS.out _ (HN.out.below HL10.out.below)) ?_
          rintro e w11 ⟨rfl, hb⟩
          have HL11 := Lib.hid (HL10.out.below' hb)
          have HR11 := Lib.hid (HR10.out.below hb HR10.out.lt)
          clear hb hHeld HL10 HR10
          refine hK.out _ _ ⟨HR11.out, HL11.out.held, HL11.out.run⟩ (fun hHeld => ?_)
          clear hK K
          refine wpAnyH_ready (rs := [6]) (by kernel_rfl) (by simp) ?_
          refine AllReadyH.cons rfl (fun K hK => ?_) AllReadyH.nil
          go_simp
          refine Calls.mono (writeString_any (w.heap.size + 1) (w.heap.size + 1) _ nm _ HL11.out.text (by omega) (by have := HL11.out.low; have := HL11.out.held.lt; omega)) ?_
          rintro e w12 ⟨rfl, hI, hb, hk2⟩
          have HL12 := Lib.hid (HL11.out.wrote hI hb hk2)
          have HR12 := Lib.hid (kept_row hk2 HR11.out HSH.out.2 (by decide))
          clear hI hb hk2 hHeld HL11 HR11
          refine hK.out _ _ ⟨HR12.out, HL12.out.held, HL12.out.run⟩ (fun hHeld => ?_)
          clear hK K hHeld
          refine wpAnyH_done (by kernel_rfl) ?_ _
          obtain ⟨⟨d0, d1, d2, d3⟩, d4, d5, d6, d7⟩ := bits_cells HL12.out.held
          have hfz := fun i => HL12.out.held.free i
          have z0 := hfz 0
          have z1 := hfz 1
          have z2 := hfz 2
          have z3 := hfz 3
          have z4 := hfz 4
          have z5 := hfz 5
          have z6 := hfz 6
          have z7 := hfz 7
          clear hfz
          obtain ⟨⟨e0, e1, e2, e3⟩, e4, e5, e6, e7⟩ := bits_cells HR12.out
          have HL13 : Hid (Ldg10 w l g (.slice (some ⟨q, 0, none⟩) js.length c4) w2.heap.size (heldP10 l T [] (js.take (k + 1))) (Lib.byteCells (namesAt l (loads10 l T (js.take (k + 1)))).data.toList) (putBits w12 w2.heap.size (inT Uk))) := by
            show Ldg10 _ _ _ _ _ _ _ _
            rw [HRT.out, HRL.out]
            exact HL12.out.put _
          clear HL12 HR12
          go_wp2
          go_roundw
          case rel => exact ⟨k + 1, by omega, by go_num, HL13⟩
          case measure => simp [intOf]; omega
        ·
          obtain ⟨v5, hv5⟩ : ∃ v5, v5 = World.alloc v2 (.cells (bitCells fun _ => false) 64) := ⟨_, rfl⟩
          have HL_5 : Hid (Ldg10 w l g (.slice (some ⟨q, 0, none⟩) js.length c4) w2.heap.size Hk bk v5) := by
            show Ldg10 _ _ _ _ _ _ _ _
            rw [hv5]
            exact HL_2.out.below' ((Below.refl _ _).alloc (Nat.le_refl _) _)
          have HB_5 : Hid (Below W1.heap.size W1.drew v5) := by
            show Below _ _ _
            rw [hv5]
            exact HB_2.out.alloc HB_2.out.size _
          obtain ⟨a, ha⟩ : ∃ a, a = (World.heap v2).size := ⟨_, rfl⟩
          have HA_5 : Hid (Row v5 a 64 (bitCells fun _ => false)) := by
            show Row _ _ _ _
            rw [hv5, ha]
            exact Row.new _ _ _
          have HAZ : Hid (W1.heap.size ≤ a) := by
            show _ ≤ _
            rw [ha]
            exact HB_2.out.size
          unfold bitCells at hv5
          go_simp
          rw [← hv5, ← ha]
          clear hHeld hv5 ha
          refine hK.out _ _ HB_5.out (fun hHeld => ?_)
          clear hK K
          refine wpAnyH_ready (rs := [4]) (by kernel_rfl) (by simp) ?_
          refine AllReadyH.cons rfl (fun K hK => ?_) AllReadyH.nil
          go_simp
          refine Calls.mono (HME.out _) ?_
          rintro e v4 ⟨rfl, hb⟩
          have HL_4 := Lib.hid (HL_5.out.below' hb)
          have HB_4 : Hid (Below W1.heap.size W1.drew v4) := HB_5.out.trans (hb.mono HB_5.out.size)
          have HA_4 := Lib.hid (HA_5.out.below hb HA_5.out.lt)
          clear hb hHeld
          refine hK.out _ _ HB_4.out (fun hHeld => ?_)
          clear hK K
          have HLa := Lib.hid (HL_4.out.aside (b := a) HA_4.out (by have := HAZ.out; have := HZW.out; omega) (by have := HAZ.out; have := HZW.out; omega) (inT Uk))
          have HRa := Lib.hid (putBits_row (f := inT Uk) HA_4.out)
          have HBa := Lib.hid (putBits_below (f := inT Uk) HB_4.out (show W1.heap.size ≤ a from HAZ.out))
          obtain ⟨⟨d0, d1, d2, d3⟩, d4, d5, d6, d7⟩ := bits_cells HA_4.out
          have hfz := fun i => HA_4.out.free i
          have z0 := hfz 0
          have z1 := hfz 1
          have z2 := hfz 2
          have z3 := hfz 3
          have z4 := hfz 4
          have z5 := hfz 5
          have z6 := hfz 6
          have z7 := hfz 7
          clear hfz hHeld
          refine wpAnyH_ready (rs := [6]) (by kernel_rfl) (by simp) ?_
          refine AllReadyH.cons rfl (fun K hK => ?_) AllReadyH.nil
          unfold bitsV bitCells
          go_simp
          refine hK.out _ (putBits v4 a (inT Uk)) HBa.out (fun hHeld => ?_)
          clear hK K hHeld d0 d1 d2 d3 d4 d5 d6 d7 z0 z1 z2 z3 z4 z5 z6 z7
          refine wpAnyH_done (by kernel_rfl) ?_ _
          generalize putBits v4 a (inT Uk) = W9 at *
          clear HB_0 HL_2 HB_2 HL_5 HB_5 HA_5 HL_4 HB_4 HA_4 HBa HL1 HR8
          have HL9 := Lib.hid (HLa.out.below' ((Below.refl _ W9).drew))
          have HR9 : Hid (Row W9.drew a 64 (bitCells (inT Uk))) := HRa.out
          clear HLa HRa
          have HSH : Hid (a ≠ w2.heap.size ∧ a ≠ w.heap.size + 1) := by have := HAZ.out; have := HZW.out; exact ⟨by omega, by omega⟩
          go_wp2_with fail
          refine wp_region_held_drew (S := (fun W => Row W a 64 (bitCells (inT Uk)) ∧ Row W w2.heap.size 64 (bitCells (inT Hk)) ∧ Row W w.heap.size 132 #[.slice (some ⟨g, 0, none⟩) l.length l.length, .slice (some ⟨q, 0, none⟩) js.length c4])) (by kernel_rfl) ?_ (fun hHeld => ?_)
          · exact ⟨HR9.out, HL9.out.held, HL9.out.run⟩
          refine take_at (i := 0) (d := 27) (v := bitsV (inT Uk)) rfl rfl (by kernel_rfl) (by kernel_rfl) (by kernel_rfl) (fun _ _ _ h => h) (by kernel_rfl) ((fun W hS => run_load_state10 rfl rfl hS.1)) (by assumption) ?_
          simp only [List.setIfInBounds_toArray, List.set_cons_succ, List.set_cons_zero]
          refine take_at (i := 1) (d := 28) (v := bitsV (inT Hk)) rfl rfl (by kernel_rfl) (by kernel_rfl) (by kernel_rfl) (fun _ _ _ h => h) (by kernel_rfl) ((fun W hS => run_load_state10 rfl rfl hS.2.1)) (by assumption) ?_
          simp only [List.setIfInBounds_toArray, List.set_cons_succ, List.set_cons_zero]
          refine take_at (i := 3) (d := 30) (v := .pointer (some ⟨w.heap.size, 0, none⟩)) rfl rfl (by kernel_rfl) (by kernel_rfl) (by kernel_rfl) (fun _ _ _ h => h) (by kernel_rfl) (by (intro w hSw; (try dsimp only at hSw); go_simp)) (by assumption) ?_
          simp only [List.setIfInBounds_toArray, List.set_cons_succ, List.set_cons_zero]
          refine take_at (i := 4) (d := 31) (v := .slice (some ⟨g, 0, none⟩) l.length l.length) rfl rfl (by kernel_rfl) (by kernel_rfl) (by kernel_rfl) (fun _ _ _ h => h) (by kernel_rfl) ((by (intro W hS; have hcu := hS.2.2.cell 0; go_simp))) (by assumption) ?_
          simp only [List.setIfInBounds_toArray, List.set_cons_succ, List.set_cons_zero]
          refine wpAnyH_ready (rs := [2]) (by kernel_rfl) (by simp) ?_
          refine AllReadyH.cons rfl (fun K hK => ?_) AllReadyH.nil
          go_simp
          refine Calls.mono (HLS.out _) ?_
          rintro e w10 ⟨rfl, hb⟩
          have HL10 := Lib.hid (HL9.out.below' hb)
          have HR10 := Lib.hid (HR9.out.below hb HR9.out.lt)
          clear hb hHeld HL9 HR9
          refine hK.out _ _ ⟨HR10.out, HL10.out.held, HL10.out.run⟩ (fun hHeld => ?_)
          clear hK K
          refine wpAnyH_ready (rs := [5]) (by kernel_rfl) (by simp) ?_
          refine AllReadyH.cons rfl (fun K hK => ?_) AllReadyH.nil
          go_simp
          refine Calls.mono (HNS.out _ (HN.out.below HL10.out.below)) ?_
          rintro e w11 ⟨rfl, hb⟩
          have HL11 := Lib.hid (HL10.out.below' hb)
          have HR11 := Lib.hid (HR10.out.below hb HR10.out.lt)
          clear hb hHeld HL10 HR10
          refine hK.out _ _ ⟨HR11.out, HL11.out.held, HL11.out.run⟩ (fun hHeld => ?_)
          clear hK K
          refine wpAnyH_ready (rs := [6]) (by kernel_rfl) (by simp) ?_
          refine AllReadyH.cons rfl (fun K hK => ?_) AllReadyH.nil
          go_simp
          refine Calls.mono (writeString_any (w.heap.size + 1) (w.heap.size + 1) _ nm _ HL11.out.text (by omega) (by have := HL11.out.low; have := HL11.out.held.lt; omega)) ?_
          rintro e w12 ⟨rfl, hI, hb, hk2⟩
          have HL12 := Lib.hid (HL11.out.wrote hI hb hk2)
          have HR12 := Lib.hid (kept_row hk2 HR11.out HSH.out.2 (by decide))
          clear hI hb hk2 hHeld HL11 HR11
          refine hK.out _ _ ⟨HR12.out, HL12.out.held, HL12.out.run⟩ (fun hHeld => ?_)
          clear hK K hHeld
          refine wpAnyH_done (by kernel_rfl) ?_ _
          obtain ⟨⟨d0, d1, d2, d3⟩, d4, d5, d6, d7⟩ := bits_cells HL12.out.held
          have hfz := fun i => HL12.out.held.free i
          have z0 := hfz 0
          have z1 := hfz 1
          have z2 := hfz 2
          have z3 := hfz 3
          have z4 := hfz 4
          have z5 := hfz 5
          have z6 := hfz 6
          have z7 := hfz 7
          clear hfz
          obtain ⟨⟨e0, e1, e2, e3⟩, e4, e5, e6, e7⟩ := bits_cells HR12.out
          have HL13 : Hid (Ldg10 w l g (.slice (some ⟨q, 0, none⟩) js.length c4) w2.heap.size (heldP10 l T [] (js.take (k + 1))) (Lib.byteCells (namesAt l (loads10 l T (js.take (k + 1)))).data.toList) (putBits w12 w2.heap.size (inT Uk))) := by
            show Ldg10 _ _ _ _ _ _ _ _
            rw [HRT.out, HRL.out]
            exact HL12.out.put _
          clear HL12 HR12
          go_wp2
          go_roundw
          case rel => exact ⟨k + 1, by omega, by go_num, HL13⟩
          case measure => simp [intOf]; omega
      ·
        obtain ⟨v5, hv5⟩ : ∃ v5, v5 = World.alloc W1.drew (.cells (bitCells fun _ => false) 64) := ⟨_, rfl⟩
        have HL_5 : Hid (Ldg10 w l g (.slice (some ⟨q, 0, none⟩) js.length c4) w2.heap.size Hk bk v5) := by
          show Ldg10 _ _ _ _ _ _ _ _
          rw [hv5]
          exact HL1.out.below' ((Below.refl _ _).alloc (Nat.le_refl _) _)
        have HB_5 : Hid (Below W1.heap.size W1.drew v5) := by
          show Below _ _ _
          rw [hv5]
          exact HB_0.out.alloc HB_0.out.size _
        obtain ⟨a, ha⟩ : ∃ a, a = (World.heap W1.drew).size := ⟨_, rfl⟩
        have HA_5 : Hid (Row v5 a 64 (bitCells fun _ => false)) := by
          show Row _ _ _ _
          rw [hv5, ha]
          exact Row.new _ _ _
        have HAZ : Hid (W1.heap.size ≤ a) := by
          show _ ≤ _
          rw [ha]
          exact HB_0.out.size
        have hv6 : v5 = (World.alloc W1 (.cells (bitCells fun _ => false) 64)).drew := hv5
        have hb6 : a = W1.heap.size := ha
        unfold bitCells at hv6
        go_simp
        rw [← hv6, ← hb6]
        clear hHeld hv5 ha hv6 hb6
        refine hK.out _ _ HB_5.out (fun hHeld => ?_)
        clear hK K
        refine wpAnyH_ready (rs := [2]) (by kernel_rfl) (by simp) ?_
        refine AllReadyH.cons rfl (fun K hK => ?_) AllReadyH.nil
        go_simp
        refine Calls.mono (HWK.out _) ?_
        rintro e v2 ⟨rfl, hb⟩
        have HL_2 := Lib.hid (HL_5.out.below' hb)
        have HB_2 : Hid (Below W1.heap.size W1.drew v2) := HB_5.out.trans (hb.mono HB_5.out.size)
        have HA_2 := Lib.hid (HA_5.out.below hb HA_5.out.lt)
        clear hb hHeld
        refine hK.out _ _ HB_2.out (fun hHeld => ?_)
        clear hK K
        refine wpAnyH_ready (rs := [4]) (by kernel_rfl) (by simp) ?_
        refine AllReadyH.cons rfl (fun K hK => ?_) AllReadyH.nil
        go_simp
        refine Calls.mono (HME.out _) ?_
        rintro e v4 ⟨rfl, hb⟩
        have HL_4 := Lib.hid (HL_2.out.below' hb)
        have HB_4 : Hid (Below W1.heap.size W1.drew v4) := HB_2.out.trans (hb.mono HB_2.out.size)
        have HA_4 := Lib.hid (HA_2.out.below hb HA_2.out.lt)
        clear hb hHeld
        refine hK.out _ _ HB_4.out (fun hHeld => ?_)
        clear hK K
        have HLa := Lib.hid (HL_4.out.aside (b := a) HA_4.out (by have := HAZ.out; have := HZW.out; omega) (by have := HAZ.out; have := HZW.out; omega) (inT Uk))
        have HRa := Lib.hid (putBits_row (f := inT Uk) HA_4.out)
        have HBa := Lib.hid (putBits_below (f := inT Uk) HB_4.out (show W1.heap.size ≤ a from HAZ.out))
        obtain ⟨⟨d0, d1, d2, d3⟩, d4, d5, d6, d7⟩ := bits_cells HA_4.out
        have hfz := fun i => HA_4.out.free i
        have z0 := hfz 0
        have z1 := hfz 1
        have z2 := hfz 2
        have z3 := hfz 3
        have z4 := hfz 4
        have z5 := hfz 5
        have z6 := hfz 6
        have z7 := hfz 7
        clear hfz hHeld
        refine wpAnyH_ready (rs := [6]) (by kernel_rfl) (by simp) ?_
        refine AllReadyH.cons rfl (fun K hK => ?_) AllReadyH.nil
        unfold bitsV bitCells
        go_simp
        refine hK.out _ (putBits v4 a (inT Uk)) HBa.out (fun hHeld => ?_)
        clear hK K hHeld d0 d1 d2 d3 d4 d5 d6 d7 z0 z1 z2 z3 z4 z5 z6 z7
        refine wpAnyH_done (by kernel_rfl) ?_ _
        generalize putBits v4 a (inT Uk) = W9 at *
        clear HB_0 HL_5 HB_5 HA_5 HL_2 HB_2 HA_2 HL_4 HB_4 HA_4 HBa HL1 HR8
        have HL9 := Lib.hid (HLa.out.below' ((Below.refl _ W9).drew))
        have HR9 : Hid (Row W9.drew a 64 (bitCells (inT Uk))) := HRa.out
        clear HLa HRa
        have HSH : Hid (a ≠ w2.heap.size ∧ a ≠ w.heap.size + 1) := by have := HAZ.out; have := HZW.out; exact ⟨by omega, by omega⟩
        go_wp2_with fail
        refine wp_region_held_drew (S := (fun W => Row W a 64 (bitCells (inT Uk)) ∧ Row W w2.heap.size 64 (bitCells (inT Hk)) ∧ Row W w.heap.size 132 #[.slice (some ⟨g, 0, none⟩) l.length l.length, .slice (some ⟨q, 0, none⟩) js.length c4])) (by kernel_rfl) ?_ (fun hHeld => ?_)
        · exact ⟨HR9.out, HL9.out.held, HL9.out.run⟩
        refine take_at (i := 0) (d := 27) (v := bitsV (inT Uk)) rfl rfl (by kernel_rfl) (by kernel_rfl) (by kernel_rfl) (fun _ _ _ h => h) (by kernel_rfl) ((fun W hS => run_load_state10 rfl rfl hS.1)) (by assumption) ?_
        simp only [List.setIfInBounds_toArray, List.set_cons_succ, List.set_cons_zero]
        refine take_at (i := 1) (d := 28) (v := bitsV (inT Hk)) rfl rfl (by kernel_rfl) (by kernel_rfl) (by kernel_rfl) (fun _ _ _ h => h) (by kernel_rfl) ((fun W hS => run_load_state10 rfl rfl hS.2.1)) (by assumption) ?_
        simp only [List.setIfInBounds_toArray, List.set_cons_succ, List.set_cons_zero]
        refine take_at (i := 3) (d := 30) (v := .pointer (some ⟨w.heap.size, 0, none⟩)) rfl rfl (by kernel_rfl) (by kernel_rfl) (by kernel_rfl) (fun _ _ _ h => h) (by kernel_rfl) (by (intro w hSw; (try dsimp only at hSw); go_simp)) (by assumption) ?_
        simp only [List.setIfInBounds_toArray, List.set_cons_succ, List.set_cons_zero]
        refine take_at (i := 4) (d := 31) (v := .slice (some ⟨g, 0, none⟩) l.length l.length) rfl rfl (by kernel_rfl) (by kernel_rfl) (by kernel_rfl) (fun _ _ _ h => h) (by kernel_rfl) ((by (intro W hS; have hcu := hS.2.2.cell 0; go_simp))) (by assumption) ?_
        simp only [List.setIfInBounds_toArray, List.set_cons_succ, List.set_cons_zero]
        refine wpAnyH_ready (rs := [2]) (by kernel_rfl) (by simp) ?_
        refine AllReadyH.cons rfl (fun K hK => ?_) AllReadyH.nil
        go_simp
        refine Calls.mono (HLS.out _) ?_
        rintro e w10 ⟨rfl, hb⟩
        have HL10 := Lib.hid (HL9.out.below' hb)
        have HR10 := Lib.hid (HR9.out.below hb HR9.out.lt)
        clear hb hHeld HL9 HR9
        refine hK.out _ _ ⟨HR10.out, HL10.out.held, HL10.out.run⟩ (fun hHeld => ?_)
        clear hK K
        refine wpAnyH_ready (rs := [5]) (by kernel_rfl) (by simp) ?_
        refine AllReadyH.cons rfl (fun K hK => ?_) AllReadyH.nil
        go_simp
        refine Calls.mono (HNS.out _ (HN.out.below HL10.out.below)) ?_
        rintro e w11 ⟨rfl, hb⟩
        have HL11 := Lib.hid (HL10.out.below' hb)
        have HR11 := Lib.hid (HR10.out.below hb HR10.out.lt)
        clear hb hHeld HL10 HR10
        refine hK.out _ _ ⟨HR11.out, HL11.out.held, HL11.out.run⟩ (fun hHeld => ?_)
        clear hK K
        refine wpAnyH_ready (rs := [6]) (by kernel_rfl) (by simp) ?_
        refine AllReadyH.cons rfl (fun K hK => ?_) AllReadyH.nil
        go_simp
        refine Calls.mono (writeString_any (w.heap.size + 1) (w.heap.size + 1) _ nm _ HL11.out.text (by omega) (by have := HL11.out.low; have := HL11.out.held.lt; omega)) ?_
        rintro e w12 ⟨rfl, hI, hb, hk2⟩
        have HL12 := Lib.hid (HL11.out.wrote hI hb hk2)
        have HR12 := Lib.hid (kept_row hk2 HR11.out HSH.out.2 (by decide))
        clear hI hb hk2 hHeld HL11 HR11
        refine hK.out _ _ ⟨HR12.out, HL12.out.held, HL12.out.run⟩ (fun hHeld => ?_)
        clear hK K hHeld
        refine wpAnyH_done (by kernel_rfl) ?_ _
        obtain ⟨⟨d0, d1, d2, d3⟩, d4, d5, d6, d7⟩ := bits_cells HL12.out.held
        have hfz := fun i => HL12.out.held.free i
        have z0 := hfz 0
        have z1 := hfz 1
        have z2 := hfz 2
        have z3 := hfz 3
        have z4 := hfz 4
        have z5 := hfz 5
        have z6 := hfz 6
        have z7 := hfz 7
        clear hfz
        obtain ⟨⟨e0, e1, e2, e3⟩, e4, e5, e6, e7⟩ := bits_cells HR12.out
        have HL13 : Hid (Ldg10 w l g (.slice (some ⟨q, 0, none⟩) js.length c4) w2.heap.size (heldP10 l T [] (js.take (k + 1))) (Lib.byteCells (namesAt l (loads10 l T (js.take (k + 1)))).data.toList) (putBits w12 w2.heap.size (inT Uk))) := by
          show Ldg10 _ _ _ _ _ _ _ _
          rw [HRT.out, HRL.out]
          exact HL12.out.put _
        clear HL12 HR12
        go_wp2
        go_roundw
        case rel => exact ⟨k + 1, by omega, by go_num, HL13⟩
        case measure => simp [intOf]; omega
    · obtain rfl : k = js.length := by omega
      rw [List.take_length] at HLk
      have hzw5 := HLk.out.below.size
      go_wp2_with fail
      refine (Try.Builder_String_any_k (w.heap.size + 1) (w.heap.size + 1) _ _ HLk.out.text (by have := HLk.out.low; have := HLk.out.held.lt; omega)).mono ?_
      rintro e w6 ⟨rfl, _, hb6, _⟩
      have HB6 := Lib.hid (HLk.out.below.trans (hb6.mono (by omega)))
      clear hb6
      go_wp2
      go_ret
      exact ⟨rfl, HB6.out⟩

end Go.Proofs.Ytcpiojliakgdlaa
