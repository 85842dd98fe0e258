/- Joined: Vw Ff Fl Ko. -/
import Derived.Test.YtcpiojliakgdlaaGreatDoorU16
import Derived.Test.YtcpiojliakgdlaaGreatDoorU22
import Derived.Test.YtcpiojliakgdlaaGreatDoorU18
import Derived.Test.YtcpiojliakgdlaaGreatDoorU11
import Derived.Test.YtcpiojliakgdlaaGreatDoorU17
import Derived.Test.YtcpiojliakgdlaaGreatDoorU21
import Derived.Test.YtcpiojliakgdlaaGreatDoorU14
import Derived.Test.YtcpiojliakgdlaaGreatDoorSh
/- Chapter 9: how much a segment can grow: the reference. -/
namespace Go.Proofs.YtcpiojliakgdlaaGreatDoor
open Go.RowKit

theorem hasPath9 {l : List Seg} (hv : validB l = true) {i k : Nat} (hk : k < l.length) : hasB (pathOf l k) (i : Int) = decide (i ∈ rp l k) := by
  have hd := (valid_all hv).1.down
  have HP : pathOf l k = (rp l k).map fun j : Nat => (j : Int) := rootPath_chain hd (k + 1) k hk (by omega)
  rw [HP]
  unfold hasB
  rw [Bool.eq_iff_iff, List.any_eq_true, decide_eq_true_iff]
  constructor
  · rintro ⟨x, hx, he⟩
    obtain ⟨j, hj, rfl⟩ := List.mem_map.1 hx
    have := beq_iff_eq.1 he
    obtain rfl : j = i := by omega
    exact hj
  · intro h
    exact ⟨(i : Int), List.mem_map.2 ⟨i, h, rfl⟩, beq_self_eq_true _⟩
theorem pathLen9 {l : List Seg} (hv : validB l = true) {k : Nat} (hk : k < l.length) : (pathOf l k).length ≤ 9 := by
  have hd := (valid_all hv).1.down
  have HP : pathOf l k = (rp l k).map fun j : Nat => (j : Int) := rootPath_chain hd (k + 1) k hk (by omega)
  have hl8 := (valid_all hv).2.1
  have hz : (rp l k).length ≤ k + 1 := rootPath_len l (k + 1) k
  rw [HP, List.length_map]
  omega

set_option maxRecDepth 100000 in
set_option maxHeartbeats 400000 in
theorem l9Below_any (A : Option Addr) (l : List Seg) (c i k : Nat) (w : World) (hw : Segs w w.heap.size A l) (hv : validB l = true) (hk : k < l.length) :
    Calls Tryz.prog 36 #[.slice A l.length c, .int .i64 k, .int .i64 i] w fun e w' => e = .returned (.bool (decide (i ∈ rp l k))) ∧ Below w.heap.size w w' := by
  have HW : Hid (Segs w w.heap.size A l) := hw
  have HD := Lib.hid (valid_all hv).1.down
  have hl8 := (valid_all hv).2.1
  have HP := Lib.hid (hasPath9 (i := i) hv hk)
  have HL := Lib.hid (pathLen9 hv hk)
  clear hw hv
  generalize decide (i ∈ rp l k) = q at *
  go_enter Tryz.func36, Tryz.ntmps36
  go_wp2_with fail
  refine (l1Path_any _ _ _ _ _ HW.out (by omega) hk (HD.out.mono (by omega))).mono ?_
  rintro e w1 ⟨g, cap, rfl, hown, hb1⟩
  have HO := Lib.hid hown
  have HB := Lib.hid hb1
  clear hown hb1
  have HC := Lib.hid (l1Has_any g cap w.heap.size (pathOf l k) (i : Int) w1 HO.out (by have := HL.out; omega))
  rw [HP.out] at HC
  generalize pathOf l k = xs at *
  go_wp2_with fail
  refine Calls.mono HC.out ?_
  rintro e w2 ⟨rfl, rfl⟩
  go_wp2
  go_ret
  exact ⟨rfl, HB.out⟩

set_option maxRecDepth 100000 in
set_option maxHeartbeats 4000000 in
theorem specRoomLeft_any (A : Option Addr) (l : List Seg) (c : Nat) (s : ByteArray) (w : World) (hw : Segs w w.heap.size A l) (hl : l.length ≤ 1048576) (hn : Short l) :
    Calls Tryz.prog 12 #[.slice A l.length c, .string s] w fun e w' => e = .returned (.int .i64 (leftB l s)) ∧ Below w.heap.size w w' := by
  have HW : Hid (Segs w w.heap.size A l) := hw
  clear hw
  by_cases hneg : indexB l s < 0
  · have HF := Lib.hid (left_neg hneg)
    rw [HF.out]
    go_enter Tryz.func12, Tryz.ntmps12
    go_wp2_with fail
    refine (l1Index_any _ _ _ _ _ HW.out hl hn).mono ?_
    rintro e w1 ⟨rfl, hb1⟩
    have HB1 := Lib.hid hb1
    clear hb1
    generalize indexB l s = q at *
    go_wp2
    go_ret
    exact ⟨rfl, HB1.out⟩
  · obtain ⟨hv, hi⟩ := index9_valid (l := l) (s := s) (by omega)
    have HV := Lib.hid hv
    have HI : Hid (indexB l s = ((ix9 l s : Nat) : Int)) := by show _ = _; unfold ix9; omega
    have hl8 := (valid_all hv).2.1
    have HF : Hid (leftB l s = min (roomTo l l.length - deepTo l (ix9 l s) l.length) (99 - sizeAt l (ix9 l s))) := by
      show _ = _
      unfold leftB
      rw [if_neg hneg]
    rw [HF.out]
    clear HF
    generalize ix9 l s = i at *
    have hi1 : ¬ (i : Int) < 0 := by omega
    obtain ⟨dp, HDP⟩ : ∃ d, Hid (deepTo l i l.length = d) := ⟨_, rfl⟩
    obtain ⟨rm, HRM⟩ : ∃ d, Hid (roomTo l l.length = d) := ⟨_, rfl⟩
    obtain ⟨zk, HZK⟩ : ∃ d, Hid (sizeAt l i = d) := ⟨_, rfl⟩
    rw [HDP.out, HRM.out, HZK.out]
    go_enter Tryz.func12, Tryz.ntmps12
    go_wp2_with fail
    refine (l1Index_any _ _ _ _ _ HW.out hl hn).mono ?_
    rw [HI.out]
    rintro e w1 ⟨rfl, hb1⟩
    have HB1 := Lib.hid hb1
    clear hb1
    go_wp2
    go_loopw [6, 7, 15] (fun dv _ kv wr => ∃ (k : Nat) (n : Int), k ≤ l.length ∧ kv = .int .i64 k ∧ dv = .int .i64 n ∧ Hid (deepTo l i k = n) ∧ Hid (Below w.heap.size w wr))
      (fun _ _ kv _ => l.length - (intOf kv).toNat)
    case atStart => exact ⟨0, 0, Nat.zero_le _, rfl, rfl, rfl, HB1.out⟩
    case round =>
      obtain ⟨k, n, hk, rfl, rfl, HN, HB⟩ := hrel
      by_cases hlt : k < l.length
      · have HR : Hid (deepTo l i (k + 1) = if i ∈ rp l k then max n (endAt l k) else n) := by
          show _ = _
          rw [deepTo, HN.out]
        obtain ⟨n1, n2, n3⟩ := place_small HV.out hlt
        have hr := deepTo_bd HV.out i k hk
        rw [HN.out] at hr
        obtain ⟨r1, r2⟩ := hr
        have he0 : 0 ≤ endAt l k := by omega
        have HCB : Hid (∀ W, Below w.heap.size w W → Calls Tryz.prog 36 #[.slice A l.length c, .int .i64 k, .int .i64 i] W fun e w' => e = .returned (.bool (decide (i ∈ rp l k))) ∧ Below W.heap.size W w') := fun W hb => l9Below_any A l c i k W ((HW.out.below hb).more hb.size) HV.out hlt
        have HCE : Hid (∀ W, Below w.heap.size w W → Calls Tryz.prog 37 #[.slice A l.length c, .int .i64 k] W fun e w' => e = .returned (.int .i64 (endAt l k)) ∧ Below W.heap.size W w') := fun W hb => l2End_any A l c k W ((HW.out.below hb).more hb.size) HV.out hlt
        clear n1 n2 HN
        by_cases hin : i ∈ rp l k
        · rw [if_pos hin] at HR
          rw [decide_eq_true hin] at HCB
          clear hin
          go_wp2_with fail
          refine (HCB.out _ HB.out).mono ?_
          rintro e w2 ⟨rfl, hb2⟩
          have HB2 : Hid (Below w.heap.size w w2) := HB.out.trans (hb2.mono HB.out.size)
          clear hb2
          go_wp2_with fail
          refine (HCE.out _ HB2.out).mono ?_
          rintro e w3 ⟨rfl, hb3⟩
          have HB3 : Hid (Below w.heap.size w w3) := HB2.out.trans (hb3.mono HB2.out.size)
          clear hb3 HCB HCE
          generalize endAt l k = en at *
          go_wp2
          all_goals go_roundw
          all_goals first
            | exact ⟨k + 1, _, by omega, by go_num, rfl, by rw [HR.out]; omega, HB3⟩
            | exact ⟨k + 1, _, by omega, by go_num, rfl, HR, HB3⟩
            | (simp [intOf]; omega)
        · rw [if_neg hin] at HR
          rw [decide_eq_false hin] at HCB
          clear hin
          go_wp2_with fail
          refine (HCB.out _ HB.out).mono ?_
          rintro e w2 ⟨rfl, hb2⟩
          have HB2 : Hid (Below w.heap.size w w2) := HB.out.trans (hb2.mono HB.out.size)
          clear hb2 HCB HCE
          go_wp2
          all_goals go_roundw
          all_goals first
            | exact ⟨k + 1, _, by omega, by go_num, rfl, HR, HB2⟩
            | (simp [intOf]; omega)
      · obtain rfl : k = l.length := by omega
        obtain ⟨b, o, rfl, hbb, hc⟩ := HW.out (by omega)
        have hsz : sizeAt l i = l[i].size := by unfold sizeAt; rw [List.getElem?_eq_getElem hi]
        have hcs := (hc i l[i] (List.getElem?_eq_getElem hi)).2.1
        rw [← hsz] at hcs
        clear hsz
        have hdb := deepTo_bd HV.out i l.length (Nat.le_refl _)
        have hrb := roomTo_bd HV.out l.length (Nat.le_refl _)
        have hzk := sizeAt_bd HV.out hi
        have HCR : Hid (∀ W, Below w.heap.size w W → Calls Tryz.prog 38 #[.slice (some ⟨b, o, none⟩) l.length c] W fun e w' => e = .returned (.int .i64 (roomTo l l.length)) ∧ Below W.heap.size W w') := fun W hb => l2Room_any _ l c W ((HW.out.below hb).more hb.size) HV.out
        obtain rfl : n = dp := HN.out.symm.trans HDP.out
        rw [HN.out] at hdb
        rw [HRM.out] at hrb HCR
        rw [HZK.out] at hzk hcs
        have hil : (i : Int) < (l.length : Int) := by omega
        have hi0 : (0 : Int) ≤ (i : Int) := Int.natCast_nonneg _
        have HCS := Lib.hid hcs
        clear hc hcs
        have hwz : IntKind.i64.wrap (99 - zk) = 99 - zk := IntWalk.i64_in _ (by omega)
        have hwd : IntKind.i64.wrap (rm - n) = rm - n := IntWalk.i64_in _ (by omega)
        have HCC : Hid (∀ W, Below w.heap.size w W → W.cell? ⟨b, o + i * 3 + 1, none⟩ = some (.int .i64 zk)) := fun W hb => (hb.cell (p := ⟨b, o + i * 3 + 1, none⟩) hbb).trans HCS.out
        go_wp2_with fail
        refine wp_region_held_drew (S := (fun W => W.cell? ⟨b, o + i * 3 + 1, none⟩ = some (.int .i64 zk) ∧ Below w.heap.size w W)) (by kernel_rfl) ?_ (fun hHeld => ?_)
        · exact ⟨HCC.out _ HB.out.drew, HB.out.drew⟩
        refine take_at (i := 0) (d := 28) (v := .slice (some ⟨b, o, none⟩) l.length c) rfl rfl (by kernel_rfl) (by kernel_rfl) (by kernel_rfl) (fun _ _ _ h => h) (by kernel_rfl) (by (intro w hSw; (try dsimp only at hSw); go_simp)) (by assumption) ?_
        simp only [List.setIfInBounds_toArray, List.set_cons_succ, List.set_cons_zero]
        refine take_at (i := 2) (d := 30) (v := .int .i64 n) rfl rfl (by kernel_rfl) (by kernel_rfl) (by kernel_rfl) (fun _ _ _ h => h) (by kernel_rfl) (by (intro w hSw; (try dsimp only at hSw); go_simp)) (by assumption) ?_
        simp only [List.setIfInBounds_toArray, List.set_cons_succ, List.set_cons_zero]
        refine take_at (i := 4) (d := 32) (v := .slice (some ⟨b, o, none⟩) l.length c) rfl rfl (by kernel_rfl) (by kernel_rfl) (by kernel_rfl) (fun _ _ _ h => h) (by kernel_rfl) (by (intro w hSw; (try dsimp only at hSw); go_simp)) (by assumption) ?_
        simp only [List.setIfInBounds_toArray, List.set_cons_succ, List.set_cons_zero]
        refine take_at (i := 5) (d := 33) (v := .int .i64 i) rfl rfl (by kernel_rfl) (by kernel_rfl) (by kernel_rfl) (fun _ _ _ h => h) (by kernel_rfl) (by (intro w hSw; (try dsimp only at hSw); go_simp)) (by assumption) ?_
        simp only [List.setIfInBounds_toArray, List.set_cons_succ, List.set_cons_zero]
        refine take_at (i := 6) (d := 34) (v := .pointer (some ⟨b, o + i * 3, none⟩)) rfl rfl (by kernel_rfl) (by kernel_rfl) (by kernel_rfl) (fun _ _ _ h => h) (by kernel_rfl) (by (intro w hSw; (try dsimp only at hSw); go_simp)) (by assumption) ?_
        simp only [List.setIfInBounds_toArray, List.set_cons_succ, List.set_cons_zero]
        refine take_at (i := 7) (d := 35) (v := .pointer (some ⟨b, o + i * 3 + 1, none⟩)) rfl rfl (by kernel_rfl) (by kernel_rfl) (by kernel_rfl) (fun _ _ _ h => h) (by kernel_rfl) (by (intro w hSw; (try dsimp only at hSw); go_simp)) (by assumption) ?_
        simp only [List.setIfInBounds_toArray, List.set_cons_succ, List.set_cons_zero]
        refine take_at (i := 8) (d := 36) (v := .int .i64 zk) rfl rfl (by kernel_rfl) (by kernel_rfl) (by kernel_rfl) (fun _ _ _ h => h) (by kernel_rfl) (by (intro w hSw; (try dsimp only at hSw); go_simp)) (by assumption) ?_
        simp only [List.setIfInBounds_toArray, List.set_cons_succ, List.set_cons_zero]
        refine take_at (i := 9) (d := 37) (v := .int .i64 (99 - zk)) rfl rfl (by kernel_rfl) (by kernel_rfl) (by kernel_rfl) (fun _ _ _ h => h) (by kernel_rfl) (by (intro w hSw; (try dsimp only at hSw); go_simp)) (by assumption) ?_
        simp only [List.setIfInBounds_toArray, List.set_cons_succ, List.set_cons_zero]
        refine wpAnyH_ready (rs := [1]) (by kernel_rfl) (by simp) ?_
        refine AllReadyH.cons rfl (fun K hK => ?_) AllReadyH.nil
        go_simp
        refine Calls.mono (HCR.out _ (And.right (by assumption))) ?_
        rintro e w4 ⟨rfl, hb4⟩
        have HB4 : Hid (Below w.heap.size w w4) := HB.out.drew.trans (hb4.mono HB.out.drew.size)
        refine hK.out _ _ ⟨HCC.out _ HB4.out, HB4.out⟩ (fun hHeld => ?_)
        clear hK K
        refine take_at (i := 3) (d := 31) (v := .int .i64 (rm - n)) rfl rfl (by kernel_rfl) (by kernel_rfl) (by kernel_rfl) (fun _ _ _ h => h) (by kernel_rfl) (by (intro w hSw; (try dsimp only at hSw); go_simp)) (by assumption) ?_
        simp only [List.setIfInBounds_toArray, List.set_cons_succ, List.set_cons_zero]
        refine wpAnyH_ready (rs := [10]) (by kernel_rfl) (by simp) ?_
        refine AllReadyH.cons rfl (fun K hK => ?_) AllReadyH.nil
        go_simp
        refine hK.out _ _ ⟨HCC.out _ HB4.out, HB4.out⟩ (fun hHeld => ?_)
        clear hK K
        refine wpAnyH_ready (rs := [11]) (by kernel_rfl) (by simp) ?_
        refine AllReadyH.cons rfl (fun K hK => ?_) AllReadyH.nil
        go_simp
        refine hK.out _ _ ⟨HCC.out _ HB4.out, HB4.out⟩ (fun hHeld => ?_)
        clear hK K
        refine wpAnyH_done (by kernel_rfl) ?_ _
        go_wp2
        go_ret
        exact ⟨rfl, HB4.out⟩

end Go.Proofs.YtcpiojliakgdlaaGreatDoor
/- The program's readTrace by its contract. -/
namespace Go.Proofs.YtcpiojliakgdlaaGreatDoor
open Go.RowKit

/-- What readTrace has done. -/
def TracePost (w : World) (R : Option Forest) (e : Ending) (w' : World) : Prop :=
  ∃ v, e = .returned (.tuple #[v, .bool R.isSome]) ∧ ((∃ f, R = some f ∧ SliceIs w' (fun q => w.heap.size ≤ q ∧ q < w'.heap.size) v f) ∨ (R = none ∧ v = .slice none 0 0)) ∧ Below w.heap.size w w'

theorem Nodes.known {w : World} {B g b : Nat} {l : List Seg} {nb : Nat → Nat} {cv : Nat → Value} (h : Nodes w B g l.length l.length l nb cv) (hb : w.heap.size ≤ b) : Known w b g l nb := by
  obtain ⟨cs, hrow, _, hci⟩ := h.row
  refine ⟨Nat.lt_of_lt_of_le hrow.lt hb, fun i x hx => ?_⟩
  have hi := (List.getElem?_eq_some_iff.1 hx).1
  have hn := h.node i x hi hx
  exact ⟨Nat.lt_of_lt_of_le hn.lt hb, by rw [hrow.cell]; exact hci i hi, hn.cell 0⟩

/-- Where the reader has given up: what the deferred closure leaves. -/
theorem trace_died (R : Option Forest) (w w1 : World) (m : ByteArray) (x : Value) (hx : ∃ A n c, x = .slice A n c) (y : Bool) (hp : R = none) (hb : Below w.heap.size w w1) (h1 : Row w1 w.heap.size 85 #[x]) (h2 : Row w1 (w.heap.size + 1) 4 #[.bool y]) (tmps : Array Value)
    (ht2 : tmps[4]?.getD undef = .pointer (some ⟨w.heap.size, 0, none⟩)) (ht3 : tmps[5]?.getD undef = .pointer (some ⟨w.heap.size + 1, 0, none⟩)) :
    bodyPostD Tryz.prog Tryz.f56 (TracePost w R) (Exit.panic [{ v := .iface 9 (.string m), recovered := false }]) { tmps := tmps, defers := [{ target := Target.fn (Fn.func 72) #[.pointer (some ⟨w.heap.size, 0, none⟩), .pointer (some ⟨w.heap.size + 1, 0, none⟩)], args := #[] }] } w1 := by
  refine leaves_cons (f := 72) (args := #[.pointer (some ⟨w.heap.size, 0, none⟩), .pointer (some ⟨w.heap.size + 1, 0, none⟩)]) (by simp) (by simp [go_sem]) ?_
  refine (traceCatch_panicking w.heap.size x y m w1 h1 hx h2).mono ?_
  rintro e u' w'' ⟨rfl, rfl, rfl⟩
  have r1 : Row ((w1.setCell ⟨w.heap.size, 0, none⟩ (.slice none 0 0)).setCell ⟨w.heap.size + 1, 0, none⟩ (.bool false)) w.heap.size 85 #[.slice none 0 0] := (h1.put 0 _).far (p := ⟨w.heap.size + 1, 0, none⟩) (show w.heap.size ≠ w.heap.size + 1 by omega) _
  have r2 : Row ((w1.setCell ⟨w.heap.size, 0, none⟩ (.slice none 0 0)).setCell ⟨w.heap.size + 1, 0, none⟩ (.bool false)) (w.heap.size + 1) 4 #[.bool false] := (h2.far (p := ⟨w.heap.size, 0, none⟩) (show w.heap.size + 1 ≠ w.heap.size by omega) _).put 0 _
  have hb2 : Below w.heap.size w ((w1.setCell ⟨w.heap.size, 0, none⟩ (.slice none 0 0)).setCell ⟨w.heap.size + 1, 0, none⟩ (.bool false)) := (hb.setCell (Nat.le_refl _) _).setCell (by simp) _
  generalize (w1.setCell ⟨w.heap.size, 0, none⟩ (.slice none 0 0)).setCell ⟨w.heap.size + 1, 0, none⟩ (.bool false) = W3 at *
  have e1 : W3.cell? ⟨w.heap.size, 0, none⟩ = some (.slice none 0 0) := r1.cell 0
  have e2 : W3.cell? ⟨w.heap.size + 1, 0, none⟩ = some (.bool false) := r2.cell 0
  have HP : TracePost w R (.returned (.tuple #[.slice none 0 0, .bool false])) W3 := ⟨_, by rw [hp]; rfl, .inr ⟨hp, rfl⟩, hb2⟩
  simp [Leaves, settle, results, Tryz.results56, go_sem, e1, e2, ht2, ht3]
  exact HP

/-- The world behind the two results' cells. -/
def WtwoF (w : World) : World := (w.alloc (.cells #[.slice none 0 0] 85)).alloc (.cells #[.bool false] 4)
theorem WtwoF_below (w : World) : Below w.heap.size w (WtwoF w) := ((Below.refl _ w).alloc (Nat.le_refl _) _).alloc (by simp) _
theorem WtwoF_one (w : World) : Row (WtwoF w) w.heap.size 85 #[.slice none 0 0] := (Row.new _ _ _).alloc _
theorem WtwoF_two (w : World) : Row (WtwoF w) (w.heap.size + 1) 4 #[.bool false] := by
  have := Row.new (w.alloc (.cells #[.slice none 0 0] 85)) 4 #[.bool false]
  rw [World.size_alloc] at this
  exact this

/-- No calls, false. -/
theorem trace_none (w w1 : World) (hb : Below w.heap.size w w1) (h1 : Row w1 w.heap.size 85 #[.slice none 0 0]) (h2 : Row w1 (w.heap.size + 1) 4 #[.bool false]) :
    let W := (w1.setCell ⟨w.heap.size, 0, none⟩ (.slice none 0 0)).setCell ⟨w.heap.size + 1, 0, none⟩ (.bool false)
    W.cell? ⟨w.heap.size, 0, none⟩ = some (.slice none 0 0) ∧ W.cell? ⟨w.heap.size + 1, 0, none⟩ = some (.bool false) ∧ TracePost w none (.returned (.tuple #[.slice none 0 0, .bool false])) W := by
  have r1 : Row ((w1.setCell ⟨w.heap.size, 0, none⟩ (.slice none 0 0)).setCell ⟨w.heap.size + 1, 0, none⟩ (.bool false)) w.heap.size 85 #[.slice none 0 0] := (h1.put 0 _).far (p := ⟨w.heap.size + 1, 0, none⟩) (show w.heap.size ≠ w.heap.size + 1 by omega) _
  have r2 : Row ((w1.setCell ⟨w.heap.size, 0, none⟩ (.slice none 0 0)).setCell ⟨w.heap.size + 1, 0, none⟩ (.bool false)) (w.heap.size + 1) 4 #[.bool false] := (h2.far (p := ⟨w.heap.size, 0, none⟩) (show w.heap.size + 1 ≠ w.heap.size by omega) _).put 0 _
  exact ⟨r1.cell 0, r2.cell 0, _, rfl, .inr ⟨rfl, rfl⟩, (hb.setCell (Nat.le_refl _) _).setCell (by simp) _⟩

set_option maxRecDepth 100000 in
set_option maxHeartbeats 4000000 in
theorem readTrace_bad (A : Option Addr) (l : List Seg) (c : Nat) (t : ByteArray) (w : World) (hw : Segs w w.heap.size A l) (hl : l.length ≤ 1048576) (hlc : l.length ≤ c) (hcm : c ≤ 9223372036854775807) (hn : Short l) (ht : t.size ≤ 1048576)
    (hv : (validB l && decide (t.size ≤ 80)) = false) :
    Calls Tryz.prog 56 #[.slice A l.length c, .string t] w (TracePost w none) := by
  have hnil := fun (W : World) (a : Option Addr) (n c : Nat) => Lib.run_eql_slice_nil (P := Tryz.prog) W 41 43 a n c 0 0 Tryz.underlying41
  have HW : Hid (Segs (WtwoF w) (WtwoF w).heap.size A l) := (hw.below (WtwoF_below w)).more (WtwoF_below w).size
  have HB : Hid (Below w.heap.size w (WtwoF w)) := WtwoF_below w
  have HR1 := Lib.hid (WtwoF_one w)
  have HR2 := Lib.hid (WtwoF_two w)
  have HWE : Hid (WtwoF w = (w.alloc (.cells #[.slice none 0 0] 85)).alloc (.cells #[.bool false] 4)) := rfl
  clear hw
  cases hvl : validB l with
  | false =>
    have HV := Lib.hid hvl
    clear hv hvl
    go_enter Tryz.func56, Tryz.ntmps56
    go_wp2_with fail
    rw [← HWE.out]
    generalize WtwoF w = W1 at *
    refine (nodesOf_bad A l c W1 HW.out hl hlc hcm hn HV.out).mono ?_
    rintro e w1 ⟨rfl, hb1⟩
    have hx1 := HR1.out.below hb1 HR1.out.lt
    have hx2 := HR2.out.below hb1 HR2.out.lt
    have HE := Lib.hid (trace_none w w1 (HB.out.trans (hb1.mono HB.out.size)) hx1 hx2)
    have c1 : w1.cell? ⟨w.heap.size, 0, none⟩ = some (.slice none 0 0) := hx1.cell 0
    have z1 : w1.frozen? ⟨w.heap.size, 0, none⟩ = false := hx1.free 0
    have c2 : w1.cell? ⟨w.heap.size + 1, 0, none⟩ = some (.bool false) := hx2.cell 0
    have z2 : w1.frozen? ⟨w.heap.size + 1, 0, none⟩ = false := hx2.free 0
    clear hb1 hx1 hx2 HWE
    go_wp2
    obtain ⟨d1, d2, hp⟩ := HE.out
    exact bodyPost_ret (v := .tuple #[.slice none 0 0, .bool false]) (by simp [results, Tryz.results56, go_sem, d1, d2]) rfl hp
  | true =>
    have ht80 : decide (t.size ≤ 80) = false := by rw [hvl, Bool.true_and] at hv; exact hv
    have h80 : 80 < t.size := by have := of_decide_eq_false ht80; omega
    have h80' : (80 : Int) < (t.size : Int) := by omega
    have hb80 : decide (80 < t.size) = true := decide_eq_true h80
    have HV := Lib.hid hvl
    clear hv hvl ht80
    go_enter Tryz.func56, Tryz.ntmps56
    go_wp2_with fail
    rw [← HWE.out]
    generalize WtwoF w = W1 at *
    refine (nodesOf_any A l c W1 HW.out hl hlc hcm hn HV.out).mono ?_
    rintro e w1 ⟨g, nb, cv, rfl, hN, hb1⟩
    have hx1 := HR1.out.below hb1 HR1.out.lt
    have hx2 := HR2.out.below hb1 HR2.out.lt
    have HE := Lib.hid (trace_none w w1 (HB.out.trans (hb1.mono HB.out.size)) hx1 hx2)
    have c1 : w1.cell? ⟨w.heap.size, 0, none⟩ = some (.slice none 0 0) := hx1.cell 0
    have z1 : w1.frozen? ⟨w.heap.size, 0, none⟩ = false := hx1.free 0
    have c2 : w1.cell? ⟨w.heap.size + 1, 0, none⟩ = some (.bool false) := hx2.cell 0
    have z2 : w1.frozen? ⟨w.heap.size + 1, 0, none⟩ = false := hx2.free 0
    clear hb1 hx1 hx2 HWE hN
    go_wp2
    obtain ⟨d1, d2, hp⟩ := HE.out
    exact bodyPost_ret (v := .tuple #[.slice none 0 0, .bool false]) (by simp [results, Tryz.results56, go_sem, d1, d2]) rfl hp

set_option maxRecDepth 100000 in
set_option maxHeartbeats 4000000 in
theorem readTrace_good (A : Option Addr) (l : List Seg) (c : Nat) (t : ByteArray) (w : World) (hw : Segs w w.heap.size A l) (hl : l.length ≤ 1048576) (hlc : l.length ≤ c) (hcm : c ≤ 9223372036854775807) (hn : Short l) (ht : t.size ≤ 80)
    (hv : validB l = true) :
    Calls Tryz.prog 56 #[.slice A l.length c, .string t] w (TracePost w (whole (calls (callP l) 8 t.data.toList))) := by
  have hmf : ∀ (fn : Fn) (first cap : Array Value) (w : World), (Instr.makeFunc fn first cap).run Tryz.prog w = .ok (.func fn first cap) w := fun _ _ _ _ => rfl
  have hnil := fun (W : World) (a : Option Addr) (n c : Nat) => Lib.run_eql_slice_nil (P := Tryz.prog) W 41 43 a n c 0 0 Tryz.underlying41
  have HW : Hid (Segs (WtwoF w) (WtwoF w).heap.size A l) := (hw.below (WtwoF_below w)).more (WtwoF_below w).size
  have HB : Hid (Below w.heap.size w (WtwoF w)) := WtwoF_below w
  have HR1 := Lib.hid (WtwoF_one w)
  have HR2 := Lib.hid (WtwoF_two w)
  have HWE : Hid (WtwoF w = (w.alloc (.cells #[.slice none 0 0] 85)).alloc (.cells #[.bool false] 4)) := rfl
  have HV := Lib.hid hv
  have h80 : ¬ 80 < t.size := by omega
  have h80' : ¬ (80 : Int) < (t.size : Int) := by omega
  have hb80 : decide (80 < t.size) = false := decide_eq_false h80
  have htl : (⟨t.data.toList.toArray⟩ : ByteArray) = t := rfl
  have HTL := Lib.hid htl
  clear hw hv htl
  go_enter_defers Tryz.func56, Tryz.ntmps56
  go_wp2_with fail
  rw [← HWE.out]
  generalize WtwoF w = W1 at *
  refine (nodesOf_any A l c W1 HW.out hl hlc hcm hn HV.out).mono ?_
  rintro e w1 ⟨g, nb, cv, rfl, hN, hb1⟩
  have hbw := HB.out.trans (hb1.mono HB.out.size)
  have HX1 := Lib.hid ((HR1.out.below hb1 HR1.out.lt).alloc (.cells #[.slice (some ⟨g, 0, none⟩) l.length l.length, .string t] 105))
  have HX2 := Lib.hid ((HR2.out.below hb1 HR2.out.lt).alloc (.cells #[.slice (some ⟨g, 0, none⟩) l.length l.length, .string t] 105))
  have HR3 := Lib.hid (Row.new w1 105 #[.slice (some ⟨g, 0, none⟩) l.length l.length, .string t])
  have HKN := Lib.hid ((hN.known (Nat.le_refl _)).below ((Below.refl _ w1).alloc (Nat.le_refl _) (.cells #[.slice (some ⟨g, 0, none⟩) l.length l.length, .string t] 105)))
  have HBW := Lib.hid (hbw.alloc hbw.size (.cells #[.slice (some ⟨g, 0, none⟩) l.length l.length, .string t] 105))
  have hz1 : w.heap.size + 1 < w1.heap.size := (HR2.out.below hb1 HR2.out.lt).lt
  have hsz : w.heap.size ≤ (w1.alloc (.cells #[.slice (some ⟨g, 0, none⟩) l.length l.length, .string t] 105)).heap.size := HBW.out.size
  clear hb1 hbw hN HR1 HR2 HB HW HWE
  go_wp2_with fail
  generalize hWr : w1.alloc (.cells #[.slice (some ⟨g, 0, none⟩) l.length l.length, .string t] 105) = W3 at *
  clear hWr
  have HQ := Lib.hid (readOutermost_any w1.heap.size g l nb HV.out t.data.toList W3 (by simp; omega) HKN.out HR3.out)
  refine Calls.mono HQ.out ?_
  generalize whole (calls (callP l) 8 t.data.toList) = R at *
  rintro e w2 ⟨(⟨f, v, hR, rfl, hof⟩ | ⟨hR, m, rfl⟩), ho2⟩
  · have hx1 := HX1.out.only ho2 (by omega)
    have hx2 := HX2.out.only ho2 (by omega)
    have HB2 := Lib.hid (Only.below HBW.out ho2 hsz (fun k hk e => by omega))
    obtain ⟨A', cap', rfl, hsl⟩ := hof.slice
    have c1 : w2.cell? ⟨w.heap.size, 0, none⟩ = some (.slice none 0 0) := hx1.cell 0
    have z1 : w2.frozen? ⟨w.heap.size, 0, none⟩ = false := hx1.free 0
    have c2 : w2.cell? ⟨w.heap.size + 1, 0, none⟩ = some (.bool false) := hx2.cell 0
    have z2 : w2.frozen? ⟨w.heap.size + 1, 0, none⟩ = false := hx2.free 0
    have HX1' := Lib.hid hx1
    have HX2' := Lib.hid hx2
    have HOF := Lib.hid hof
    have HR := Lib.hid hR
    have HXL := Lib.hid HX2.out.lt
    clear hx1 hx2 hsl hof hR ho2 HX1 HX2 HR3 HKN HBW HQ
    go_wp2
    refine leaves_cons (f := 72) (args := #[.pointer (some ⟨w.heap.size, 0, none⟩), .pointer (some ⟨w.heap.size + 1, 0, none⟩)]) (by simp) (by simp [go_sem]) ?_
    refine (traceCatch_idle ⟨w.heap.size, 0, none⟩ ⟨w.heap.size + 1, 0, none⟩ _).mono ?_
    rintro e u' w'' ⟨rfl, rfl, rfl⟩
    have r1 : Row ((w2.setCell ⟨w.heap.size, 0, none⟩ (.slice A' f.len cap')).setCell ⟨w.heap.size + 1, 0, none⟩ (.bool true)) w.heap.size 85 #[.slice A' f.len cap'] := (HX1'.out.put 0 _).far (p := ⟨w.heap.size + 1, 0, none⟩) (show w.heap.size ≠ w.heap.size + 1 by omega) _
    have r2 : Row ((w2.setCell ⟨w.heap.size, 0, none⟩ (.slice A' f.len cap')).setCell ⟨w.heap.size + 1, 0, none⟩ (.bool true)) (w.heap.size + 1) 4 #[.bool true] := (HX2'.out.far (p := ⟨w.heap.size, 0, none⟩) (show w.heap.size + 1 ≠ w.heap.size by omega) _).put 0 _
    have hb2 : Below w.heap.size w ((w2.setCell ⟨w.heap.size, 0, none⟩ (.slice A' f.len cap')).setCell ⟨w.heap.size + 1, 0, none⟩ (.bool true)) := (HB2.out.setCell (Nat.le_refl _) _).setCell (by simp) _
    have hT : SliceIs ((w2.setCell ⟨w.heap.size, 0, none⟩ (.slice A' f.len cap')).setCell ⟨w.heap.size + 1, 0, none⟩ (.bool true)) (fun q => w.heap.size ≤ q ∧ q < ((w2.setCell ⟨w.heap.size, 0, none⟩ (.slice A' f.len cap')).setCell ⟨w.heap.size + 1, 0, none⟩ (.bool true)).heap.size) (.slice A' f.len cap') f := by
      refine HOF.out.slice.keep fun q hq => ⟨⟨by omega, by simpa [World.setCell] using hq.2⟩, ?_⟩
      have hw1 : w.heap.size + 1 < W3.heap.size := HXL.out
      exact (Below.heap_setCell _ ⟨w.heap.size + 1, 0, none⟩ _ q (by show q ≠ w.heap.size + 1; omega)).trans (Below.heap_setCell w2 ⟨w.heap.size, 0, none⟩ _ q (by show q ≠ w.heap.size; omega))
    have HPP : ∀ W : World, SliceIs W (fun q => w.heap.size ≤ q ∧ q < W.heap.size) (.slice A' f.len cap') f → Below w.heap.size w W → TracePost w R (.returned (.tuple #[.slice A' f.len cap', .bool true])) W := fun W h1 h2 => ⟨_, by rw [HR.out]; rfl, .inl ⟨f, HR.out, h1⟩, h2⟩
    have HPQ := Lib.hid (HPP _ hT hb2)
    clear hT hb2 HPP
    generalize (w2.setCell ⟨w.heap.size, 0, none⟩ (.slice A' f.len cap')).setCell ⟨w.heap.size + 1, 0, none⟩ (.bool true) = W4 at *
    have e1 : W4.cell? ⟨w.heap.size, 0, none⟩ = some (.slice A' f.len cap') := r1.cell 0
    have e2 : W4.cell? ⟨w.heap.size + 1, 0, none⟩ = some (.bool true) := r2.cell 0
    simp [Leaves, settle, results, Tryz.results56, go_sem, e1, e2]
    exact HPQ.out
  · have hx1 := HX1.out.only ho2 (by omega)
    have hx2 := HX2.out.only ho2 (by omega)
    have hB2 := Only.below HBW.out ho2 hsz (fun k hk e => by omega)
    have HD := Lib.hid (fun tmps h2 h3 => trace_died R w w2 m _ ⟨_, _, _, rfl⟩ _ hR hB2 hx1 hx2 tmps h2 h3)
    clear hx1 hx2 hB2 ho2 hR HQ
    go_wp2
    exact HD.out _ rfl rfl

/-- readTrace: the calls of a trace. -/
theorem readTrace_any (A : Option Addr) (l : List Seg) (c : Nat) (t : ByteArray) (w : World) (hw : Segs w w.heap.size A l) (hl : l.length ≤ 1048576) (hlc : l.length ≤ c) (hcm : c ≤ 9223372036854775807) (hn : Short l) (ht : t.size ≤ 1048576) :
    Calls Tryz.prog 56 #[.slice A l.length c, .string t] w (TracePost w (traceB l t.data.toList)) := by
  have hlen : t.data.toList.length = t.size := by simp
  rw [traceB_eq, hlen]
  cases hv : (validB l && decide (t.size ≤ 80)) with
  | false =>
    rw [if_neg (by decide)]
    exact readTrace_bad A l c t w hw hl hlc hcm hn ht hv
  | true =>
    rw [if_pos rfl]
    simp only [Bool.and_eq_true, decide_eq_true_eq] at hv
    exact readTrace_good A l c t w hw hl hlc hcm hn hv.2 hv.1

end Go.Proofs.YtcpiojliakgdlaaGreatDoor
/- The program's TraceValid. -/
namespace Go.Proofs.YtcpiojliakgdlaaGreatDoor
open Go.RowKit

set_option maxRecDepth 100000 in
set_option maxHeartbeats 400000 in
theorem traceValid_any (A : Option Addr) (l : List Seg) (c : Nat) (t : ByteArray) (w : World) (hw : Segs w w.heap.size A l) (hl : l.length ≤ 1048576) (hlc : l.length ≤ c) (hcm : c ≤ 9223372036854775807) (hn : Short l) (ht : t.size ≤ 1048576) :
    Calls Tryz.prog 33 #[.slice A l.length c, .string t] w fun e w' => e = .returned (.bool (traceB l t.data.toList).isSome) ∧ Below w.heap.size w w' := by
  have HQ := Lib.hid (readTrace_any A l c t w hw hl hlc hcm hn ht)
  clear hw hn
  generalize traceB l t.data.toList = R at *
  go_enter Tryz.func33, Tryz.ntmps33
  go_wp2_with fail
  refine Calls.mono HQ.out ?_
  rintro e w2 ⟨v, rfl, -, hb⟩
  go_wp2
  go_ret
  exact ⟨rfl, hb⟩

end Go.Proofs.YtcpiojliakgdlaaGreatDoor
/- Chapter 9: NamesIn on both sides. -/
namespace Go.Proofs.YtcpiojliakgdlaaGreatDoor
open Go.RowKit

theorem namesOk9_parts {l : List Seg} {t s x : ByteArray} (h : namesOk9 l t s x = true) : (traceB l t.data.toList).isSome = true ∧ 0 ≤ indexB l s ∧ 0 ≤ indexB l x := by
  unfold namesOk9 at h
  rw [Bool.and_eq_true, Bool.and_eq_true] at h
  exact ⟨h.1.1, of_decide_eq_true h.1.2, of_decide_eq_true h.2⟩

set_option maxRecDepth 100000 in
set_option maxHeartbeats 4000000 in
theorem specNamesIn9_any (A : Option Addr) (l : List Seg) (c : Nat) (t s x : ByteArray) (w : World) (hw : Segs w w.heap.size A l) (hl : l.length ≤ 1048576) (hn : Short l) (ht : t.size ≤ 1048576) :
    Calls Tryz.prog 11 #[.slice A l.length c, .string t, .string s, .string x] w fun e w' => e = .returned (.tuple #[.string (namesIn9 l t s x), .bool (namesOk9 l t s x)]) ∧ Below w.heap.size w w' := by
  have HCT := Lib.hid (specTraceValid_any A l c t w hw hl hn ht)
  have HCI : Hid (∀ y W, Below w.heap.size w W → Calls Tryz.prog 28 #[.slice A l.length c, .string y] W fun e w' => e = .returned (.int .i64 (indexB l y)) ∧ Below W.heap.size W w') := fun y W hb => l1Index_any A l c y W ((hw.below hb).more hb.size) hl hn
  have HOK : Hid (namesOk9 l t s x = ((traceB l t.data.toList).isSome && decide (0 ≤ indexB l s) && decide (0 ≤ indexB l x))) := rfl
  have HOFF := Lib.hid (fun h => namesIn9_off (l := l) (t := t) (s := s) (x := x) h)
  have HON : Hid (namesOk9 l t s x = true → namesIn9 l t s x = bytes9 (t.data.toList.map (sw9 (hd9 s) (hd9 x)))) := fun h => if_pos h
  have HST : Hid (namesOk9 l t s x = true → ∀ k, k < t.size → _) := fun h => step9 t s x (one9 (namesOk9_parts h).2.1) (one9 (namesOk9_parts h).2.2)
  clear hw
  obtain ⟨tv, HTV⟩ : ∃ b, Hid ((traceB l t.data.toList).isSome = b) := ⟨_, rfl⟩
  obtain ⟨i, HI⟩ : ∃ b, Hid (indexB l s = b) := ⟨_, rfl⟩
  obtain ⟨j, HJ⟩ : ∃ b, Hid (indexB l x = b) := ⟨_, rfl⟩
  rw [HTV.out, HI.out, HJ.out] at HOK
  rw [HTV.out] at HCT
  have HCI1 := Lib.hid (HCI.out s)
  have HCI2 := Lib.hid (HCI.out x)
  rw [HI.out] at HCI1
  rw [HJ.out] at HCI2
  clear HCI HTV HI HJ
  have HX1 : Hid (namesOk9 l t s x = true → x.size = 1) := fun h => by
    rw [one9 (namesOk9_parts h).2.2]
    rfl
  generalize namesOk9 l t s x = ok at *
  generalize namesIn9 l t s x = res at *
  have hgo : ok = false → tv = false ∨ i < 0 ∨ j < 0 := fun h => by
    have h1 := HOK.out
    rw [h] at h1
    cases htv : tv with
    | false => exact .inl rfl
    | true =>
      rw [htv] at h1
      by_cases h2 : i < 0
      · exact .inr (.inl h2)
      · by_cases h3 : j < 0
        · exact .inr (.inr h3)
        · rw [decide_eq_true (show 0 ≤ i by omega), decide_eq_true (show 0 ≤ j by omega)] at h1
          cases h1
  cases hok : ok with
  | false =>
    obtain rfl : res = ⟨#[]⟩ := HOFF.out hok
    have h3 := hgo hok
    clear hgo HOK HOFF HON HST hok
    cases tv with
    | false =>
      go_enter Tryz.func11, Tryz.ntmps11
      go_wp2_with fail
      refine Calls.mono HCT.out ?_
      rintro e w1 ⟨rfl, hb1⟩
      go_wp2
      go_ret2
      exact ⟨rfl, hb1⟩
    | true =>
      by_cases hi : i < 0
      · go_enter Tryz.func11, Tryz.ntmps11
        go_wp2_with fail
        refine Calls.mono HCT.out ?_
        rintro e w1 ⟨rfl, hb1⟩
        go_wp2_with fail
        refine Calls.mono (HCI1.out w1 hb1) ?_
        rintro e w2 ⟨rfl, hb2⟩
        have HB2 := Lib.hid (hb1.trans (hb2.mono hb1.size))
        go_wp2
        go_ret2
        exact ⟨rfl, HB2.out⟩
      · have hj : j < 0 := by
          rcases h3 with h | h | h
          · cases h
          · omega
          · exact h
        have hi' : 0 ≤ i := by omega
        clear h3
        go_enter Tryz.func11, Tryz.ntmps11
        go_wp2_with fail
        refine Calls.mono HCT.out ?_
        rintro e w1 ⟨rfl, hb1⟩
        go_wp2_with fail
        refine Calls.mono (HCI1.out w1 hb1) ?_
        rintro e w2 ⟨rfl, hb2⟩
        have HB2 := Lib.hid (hb1.trans (hb2.mono hb1.size))
        go_wp2_with fail
        refine Calls.mono (HCI2.out w2 HB2.out) ?_
        rintro e w3 ⟨rfl, hb3⟩
        have HB3 := Lib.hid (HB2.out.trans (hb3.mono HB2.out.size))
        go_wp2
        go_ret2
        exact ⟨rfl, HB3.out⟩
  | true =>
    have h1 := HOK.out
    rw [hok] at h1
    have h2 := h1.symm
    rw [Bool.and_eq_true, Bool.and_eq_true] at h2
    obtain ⟨⟨htv, hi⟩, hj⟩ := h2
    have hi := of_decide_eq_true hi
    have hj := of_decide_eq_true hj
    subst htv
    have HS := Lib.hid (HST.out hok)
    obtain ⟨U, HU⟩ : ∃ U : Nat → ByteArray, Hid (∀ k, bytes9 ((t.data.toList.take k).map (sw9 (hd9 s) (hd9 x))) = U k) := ⟨_, fun _ => rfl⟩
    have HS2 : Hid (∀ k, k < t.size → (((t.extract k (k + 1)).toList == s.toList) = true ∧ U k ++ x = U (k + 1)) ∨ (((t.extract k (k + 1)).toList == s.toList) = false ∧ U k ++ t.extract k (k + 1) = U (k + 1))) := fun k hk => by
      have h := HS.out k hk
      rw [HU.out, HU.out] at h
      exact h
    have HE : Hid (U t.size = res) := by
      show _ = _
      rw [HON.out hok, ← HU.out, size9, List.take_length]
    have HE0 : Hid (U 0 = ⟨#[]⟩) := by
      show _ = _
      rw [← HU.out]
      rfl
    have HUZ : Hid (∀ k, (U k).size ≤ t.size) := fun k => by
      rw [← HU.out, size9, size9 t]
      unfold bytes9
      simp
      omega
    have hx1 := HX1.out hok
    clear hgo HOK HOFF HON HST HS HU h1 hok HX1
    go_enter Tryz.func11, Tryz.ntmps11
    go_wp2_with fail
    refine Calls.mono HCT.out ?_
    rintro e w1 ⟨rfl, hb1⟩
    go_wp2_with fail
    refine Calls.mono (HCI1.out w1 hb1) ?_
    rintro e w2 ⟨rfl, hb2⟩
    have HB2 := Lib.hid (hb1.trans (hb2.mono hb1.size))
    go_wp2_with fail
    refine Calls.mono (HCI2.out w2 HB2.out) ?_
    rintro e w3 ⟨rfl, hb3⟩
    have HB3 := Lib.hid (HB2.out.trans (hb3.mono HB2.out.size))
    clear hb1 hb2 hb3 HB2 HCT HCI1 HCI2
    go_wp2
    go_loopw [10, 11, 30] (fun ov _ iv wr => ∃ k : Nat, k ≤ t.size ∧ iv = .int .i64 k ∧ ov = .string (U k) ∧ Hid (Below w.heap.size w wr))
      (fun _ _ iv _ => t.size - (intOf iv).toNat)
    case atStart => exact ⟨0, Nat.zero_le _, rfl, by rw [HE0.out], HB3⟩
    case round =>
      obtain ⟨k, hk, rfl, rfl, HBr⟩ := hrel
      by_cases hlt : k < t.size
      · have hlt' : (k : Int) < (t.size : Int) := by omega
        have hk0 : (0 : Int) ≤ (k : Int) := Int.natCast_nonneg _
        have hq : ((k : Int) + 1).toNat = k + 1 := by omega
        have hz1 : (U k).size + x.size ≤ 9223372036854775807 := by have := HUZ.out k; omega
        have hz2 : (U k).size + (t.extract k (k + 1)).size ≤ 9223372036854775807 := by
          have := HUZ.out k
          rw [ByteArray.size_extract]
          omega
        rcases HS2.out k hlt with ⟨hb, hu⟩ | ⟨hb, hu⟩
        · have HU2 := Lib.hid hu
          clear hu
          go_wp2
          go_roundw
          case rel => exact ⟨k + 1, by omega, by go_num, by rw [← HU2.out], HBr⟩
          case measure => simp [intOf]; omega
        · have HU2 := Lib.hid hu
          clear hu
          go_wp2
          go_roundw
          case rel => exact ⟨k + 1, by omega, by go_num, by rw [← HU2.out], HBr⟩
          case measure => simp [intOf]; omega
      · obtain rfl : k = t.size := by omega
        go_wp2
        go_ret2
        exact ⟨by rw [← HE.out]; rfl, HBr.out⟩

theorem found9_ptr {l : List Seg} {nb : Nat → Nat} {s : ByteArray} (hv : validB l = true) (h : 0 ≤ indexB l s) : foundPtr l nb s = some ⟨nb (indexB l s).toNat, 0, none⟩ := by
  have h1 : indexB l s = seek l s := if_pos hv
  unfold foundPtr
  rw [if_neg (by omega), h1]
theorem gone9_ptr {l : List Seg} {nb : Nat → Nat} {s : ByteArray} (hv : validB l = true) (h : indexB l s < 0) : foundPtr l nb s = none := by
  have h1 : indexB l s = seek l s := if_pos hv
  unfold foundPtr
  rw [if_pos (by omega)]

set_option maxRecDepth 100000 in
set_option maxHeartbeats 4000000 in
theorem implNamesIn9_any (A : Option Addr) (l : List Seg) (c : Nat) (t s x : ByteArray) (m : Int) (w : World) (hw : Segs w w.heap.size A l) (hl : l.length ≤ 1048576) (hlc : l.length ≤ c) (hcm : c ≤ 9223372036854775807) (hn : Short l) (ht : t.size ≤ 1048576) (hm : w.cell? ⟨0, 0, none⟩ = some (.int .i64 m)) (hz : 0 < w.heap.size) :
    Calls Tryz.prog 10 #[.slice A l.length c, .string t, .string s, .string x] w fun e w' => e = .returned (.tuple #[.string (namesIn9 l t s x), .bool (namesOk9 l t s x)]) ∧ Below w.heap.size w w' := by
  have HW : Hid (Segs w w.heap.size A l) := hw
  have HM := Lib.hid hm
  have HOK : Hid (namesOk9 l t s x = ((traceB l t.data.toList).isSome && decide (0 ≤ indexB l s) && decide (0 ≤ indexB l x))) := rfl
  have HOFF := Lib.hid (fun h => namesIn9_off (l := l) (t := t) (s := s) (x := x) h)
  have HON : Hid (namesOk9 l t s x = true → namesIn9 l t s x = bytes9 (t.data.toList.map (sw9 (hd9 s) (hd9 x)))) := fun h => if_pos h
  have HCT : Hid (∀ W, Below w.heap.size w W → Calls Tryz.prog 33 #[.slice A l.length c, .string t] W fun e w' => e = .returned (.bool (traceB l t.data.toList).isSome) ∧ Below W.heap.size W w') := fun W hb => traceValid_any A l c t W ((hw.below hb).more hb.size) hl hlc hcm hn ht
  clear hw hm
  cases hv : validB l with
  | false =>
    have hin : indexB l s < 0 := by
      have : indexB l s = -1 := if_neg (by rw [hv]; decide)
      omega
    have hok : namesOk9 l t s x = false := by
      rw [HOK.out, decide_eq_false (show ¬ 0 ≤ indexB l s by omega)]
      simp
    rw [HOFF.out hok, hok]
    clear HOK HOFF HON HCT hin hok
    go_enter Tryz.func10, Tryz.ntmps10
    go_wp2_with fail
    refine (findTwo_bad _ _ _ _ _ _ HW.out hl hlc hcm hn hv).mono ?_
    rintro e w1 ⟨rfl, hb1⟩
    have HB1 := Lib.hid hb1
    go_wp2
    go_ret2
    exact ⟨rfl, HB1.out⟩
  | true =>
    have HCF : Hid (Calls Tryz.prog 32 #[.slice A l.length c, .string s, .string x] w fun e w' => ∃ p q, e = .returned (.tuple #[.pointer p, .pointer q]) ∧ (∀ h : 0 ≤ indexB l s, ∃ b, p = some ⟨b, 0, none⟩) ∧ (indexB l s < 0 → p = none) ∧ (0 ≤ indexB l x → ∃ b, q = some ⟨b, 0, none⟩) ∧ (indexB l x < 0 → q = none) ∧ Below w.heap.size w w') := by
      refine (findTwo_any A l c s x w HW.out hl hlc hcm hn hv).mono ?_
      rintro e w1 ⟨g, nb, cv, rfl, -, hb⟩
      exact ⟨_, _, rfl, fun h => ⟨_, found9_ptr hv h⟩, fun h => gone9_ptr hv h, fun h => ⟨_, found9_ptr hv h⟩, fun h => gone9_ptr hv h, hb⟩
    have HC1 : Hid (0 ≤ indexB l s → s = ⟨#[hd9 s]⟩) := fun h => one9 h
    have HC2 : Hid (0 ≤ indexB l x → x = ⟨#[hd9 x]⟩) := fun h => one9 h
    by_cases hi : indexB l s < 0
    · have hok : namesOk9 l t s x = false := by
        rw [HOK.out, decide_eq_false (show ¬ 0 ≤ indexB l s by omega)]
        simp
      rw [HOFF.out hok, hok]
      clear HOK HOFF HON HCT hok HC1 HC2
      go_enter Tryz.func10, Tryz.ntmps10
      go_wp2_with fail
      refine Calls.mono HCF.out ?_
      rintro e w1 ⟨p, q, rfl, -, h0, -, -, hb1⟩
      obtain rfl := h0 hi
      have HB1 := Lib.hid hb1
      go_wp2
      go_ret2
      exact ⟨rfl, HB1.out⟩
    · by_cases hj : indexB l x < 0
      · have hok : namesOk9 l t s x = false := by
          rw [HOK.out, decide_eq_false (show ¬ 0 ≤ indexB l x by omega)]
          simp
        rw [HOFF.out hok, hok]
        clear HOK HOFF HON HCT hok HC1 HC2
        go_enter Tryz.func10, Tryz.ntmps10
        go_wp2_with fail
        refine Calls.mono HCF.out ?_
        rintro e w1 ⟨p, q, rfl, h1, -, -, h0, hb1⟩
        obtain rfl := h0 hj
        obtain ⟨b, rfl⟩ := h1 (by omega)
        have HB1 := Lib.hid hb1
        clear h1 h0
        go_wp2
        go_ret2
        exact ⟨rfl, HB1.out⟩
      · have hok : namesOk9 l t s x = (traceB l t.data.toList).isSome := by
          rw [HOK.out, decide_eq_true (show 0 ≤ indexB l s by omega), decide_eq_true (show 0 ≤ indexB l x by omega)]
          simp
        have hs1 := HC1.out (by omega)
        have hx1 := HC2.out (by omega)
        have HCR : Hid (∀ W, W.cell? ⟨0, 0, none⟩ = some (.int .i64 m) → Calls Tryz.prog 34 #[.string t, .string s, .string x] W fun e w' => e = .returned (.string (bytes9 (t.data.toList.map (sw9 (hd9 s) (hd9 x))))) ∧ Below W.heap.size W w') := fun W h0 => by
          have hs2 : s.size = 1 := by rw [hs1]; rfl
          have hx2 : x.size = 1 := by rw [hx1]; rfl
          have hcnt := Lib.countB_le s (by omega) t.size t (Nat.le_refl _)
          have h1 := Tryz.strings_ReplaceAll t s x m W (by omega) h0 (by omega) (by rw [hx2]; omega)
          have e1 : s.data.toList = [hd9 s] := by
            have := congrArg (fun b : ByteArray => b.data.toList) hs1
            exact this
          have e2 : x.data.toList = [hd9 x] := by
            have := congrArg (fun b : ByteArray => b.data.toList) hx1
            exact this
          rw [e1, e2, replAll9] at h1
          exact h1
        cases htv : (traceB l t.data.toList).isSome with
        | false =>
          rw [htv] at hok HCT
          rw [HOFF.out hok, hok]
          clear HOK HOFF HON hok HC1 HC2 HCR hs1 hx1
          go_enter Tryz.func10, Tryz.ntmps10
          go_wp2_with fail
          refine Calls.mono HCF.out ?_
          rintro e w1 ⟨p, q, rfl, h1, -, h2, -, hb1⟩
          obtain ⟨b, rfl⟩ := h1 (by omega)
          obtain ⟨b2, rfl⟩ := h2 (by omega)
          have HB1 := Lib.hid hb1
          clear h1 h2 hb1
          go_wp2_with fail
          refine Calls.mono (HCT.out w1 HB1.out) ?_
          rintro e w2 ⟨rfl, hb2⟩
          have HB2 := Lib.hid (HB1.out.trans (hb2.mono HB1.out.size))
          clear hb2
          go_wp2
          go_ret2
          exact ⟨rfl, HB2.out⟩
        | true =>
          rw [htv] at hok HCT
          rw [HON.out hok, hok]
          generalize bytes9 (t.data.toList.map (sw9 (hd9 s) (hd9 x))) = res at *
          clear HOK HOFF HON hok HC1 HC2 hs1 hx1
          go_enter Tryz.func10, Tryz.ntmps10
          go_wp2_with fail
          refine Calls.mono HCF.out ?_
          rintro e w1 ⟨p, q, rfl, h1, -, h2, -, hb1⟩
          obtain ⟨b, rfl⟩ := h1 (by omega)
          obtain ⟨b2, rfl⟩ := h2 (by omega)
          have HB1 := Lib.hid hb1
          clear h1 h2 hb1
          go_wp2_with fail
          refine Calls.mono (HCT.out w1 HB1.out) ?_
          rintro e w2 ⟨rfl, hb2⟩
          have HB2 := Lib.hid (HB1.out.trans (hb2.mono HB1.out.size))
          clear hb2
          have hm2 := (HB2.out.cell (p := ⟨0, 0, none⟩) hz).trans HM.out
          go_wp2_with fail
          refine Calls.mono (HCR.out w2 hm2) ?_
          rintro e w3 ⟨rfl, hb3⟩
          have HB3 := Lib.hid (HB2.out.trans (hb3.mono HB2.out.size))
          clear hb3
          go_wp2
          go_ret2
          exact ⟨rfl, HB3.out⟩

end Go.Proofs.YtcpiojliakgdlaaGreatDoor
