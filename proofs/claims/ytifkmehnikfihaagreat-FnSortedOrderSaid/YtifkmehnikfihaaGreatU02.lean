/- Joined: Tv Sn Ts Tt Ix. -/
import Derived.Test.YtifkmehnikfihaaGreatU01
import Derived.Deep.RegionWith
import Derived.Deep.RegionHeld3
import Derived.BigQuiet
import Derived.WalkSmall
import Derived.Deep.QuietTactic
/- impl.TreeValid is 'validB'. -/
namespace Go.Proofs.YtifkmehnikfihaaGreat
open Go.RowKit

theorem segOk_of {l : List Seg} {k : Nat} (hk : k < l.length) : segOk l k = (nameOk l[k].name && !takenB (l.take k) l[k].name && sizeOk l[k].size && parOk l k) := by
  unfold segOk
  rw [List.getElem?_eq_getElem hk]
theorem Segs.take {w : World} {B : Nat} {A : Option Addr} {l : List Seg} (h : Segs w B A l) (k : Nat) : Segs w B A (l.take k) := fun hl => by
  obtain ⟨b, o, e, hB, hc⟩ := h (by have := List.length_take_le k l; have : (l.take k).length ≤ l.length := List.length_take_le' k l; omega)
  refine ⟨b, o, e, hB, fun j s hj => hc j s ?_⟩
  rw [List.getElem?_take] at hj
  split at hj
  · exact hj
  · cases hj
theorem AllOk.succ {l : List Seg} {k : Nat} (h : AllOk l k) (hk : segOk l k = true) : AllOk l (k + 1) := fun j hj => by
  rcases Nat.lt_or_ge j k with hlt | hge
  · exact h j hlt
  · obtain rfl : j = k := by omega
    exact hk

theorem quietB {P : Program} {f : FuncId} {args : Array Value} {w : World} {b v : Bool} (h : Calls P f args w fun e w' => e = .returned (.bool b) ∧ w = w') (hb : b = v) :
    Calls P f args w fun e w' => e = .returned (.bool v) ∧ w' = w := h.mono fun _ _ ⟨he, hw⟩ => ⟨by rw [he, hb], hw.symm⟩

theorem nameTaken_take (A : Option Addr) (l : List Seg) (c k : Nat) (s : ByteArray) (w0 w : World) (hw : Segs w0 w0.heap.size A l) (hb : Below w0.heap.size w0 w) (hk : k ≤ l.length) (hl : l.length ≤ 1048576) {v : Bool} (hv : takenB (l.take k) s = v) :
    Calls Tryz.prog 166 #[.slice A k c, .string s] w fun e w' => e = .returned (.bool v) ∧ Below w.heap.size w w' := by
  have h := nameTaken_any A (l.take k) c s w (((hw.take k).below hb).more hb.size) (by rw [List.length_take]; omega)
  rw [List.length_take, Nat.min_eq_left hk, hv] at h
  exact h
theorem parentFits_at (A : Option Addr) (l : List Seg) (c k : Nat) (w0 w : World) (hw : Segs w0 w0.heap.size A l) (hb : Below w0.heap.size w0 w) (hk : k < l.length) (hl : l.length ≤ 1048576) (hd : AllOk l k) {v : Bool} (hv : parOk l k = v) :
    Calls Tryz.prog 168 #[.slice A l.length c, .int .i64 k] w fun e w' => e = .returned (.bool v) ∧ w = w' := by
  have h := parentFits_any A l c k w ((hw.below hb).more hb.size) hl hk hd.down
  rw [hv] at h
  exact h

set_option maxRecDepth 100000 in
set_option maxHeartbeats 1000000 in
theorem treeValid_any (A : Option Addr) (l : List Seg) (c : Nat) (w : World) (hw : Segs w w.heap.size A l) (hl : l.length ≤ 1048576) (hlc : l.length ≤ c) (hcm : c ≤ 9223372036854775807) (hn : Short l) :
    Calls Tryz.prog 102 #[.slice A l.length c] w fun e w' => e = .returned (.bool (validB l)) ∧ Below w.heap.size w w' := by
  by_cases h1 : l.length < 1
  · have HF : Hid (validB l = false) := by
      show validB l = false
      unfold validB
      rw [decide_eq_false (by omega)]; rfl
    go_enter Tryz.func102, Tryz.ntmps102
    go_wp2
    go_ret
    exact ⟨ret_bool HF.out.symm, Below.refl _ _⟩
  by_cases h2 : 8 < l.length
  · have HF : Hid (validB l = false) := by
      show validB l = false
      unfold validB
      rw [decide_eq_false (p := l.length ≤ 8) (by omega), Bool.and_false]; rfl
    go_enter Tryz.func102, Tryz.ntmps102
    go_wp2
    go_ret
    exact ⟨ret_bool HF.out.symm, Below.refl _ _⟩
  have HW : Hid (Segs w w.heap.size A l) := hw
  clear hw
  have q1 : decide ((l.length : Int) < 1) = false := decide_eq_false (by omega)
  have q2 : decide (8 < (l.length : Int)) = false := decide_eq_false (by omega)
  go_enter Tryz.func102, Tryz.ntmps102
  go_wp2
  go_loopw [15] (fun i wr => ∃ (k : Nat), k ≤ l.length ∧ i = .int .i64 k ∧ Hid (AllOk l k) ∧ Below w.heap.size w wr)
    (fun i _ => l.length - (intOf i).toNat)
  case atStart => exact ⟨0, Nat.zero_le _, rfl, fun j hj => absurd hj (by omega), Below.refl _ _⟩
  case round =>
    obtain ⟨k, hk, rfl, HA, hb⟩ := hrel
    by_cases hlt : k < l.length
    · obtain ⟨b, o, rfl, hB, hc⟩ := HW.out (by omega)
      obtain ⟨c0, c1, c2⟩ := hc k l[k] (List.getElem?_eq_getElem hlt)
      clear hc
      rw [← hb.cell hB] at c0 c1 c2
      have HO : Hid _ := segOk_of hlt
      have hk0 : (0 : Int) ≤ (k : Int) := Int.natCast_nonneg _
      have hkc : (k : Int) ≤ (c : Int) := by omega
      have hkl : (k : Int) < (l.length : Int) := by omega
      have HS : Hid _ := hn l[k] (List.getElem_mem hlt)
      generalize l[k] = x at *
      have HT : Hid (takenB (l.take k) x.name = takenB (l.take k) x.name) := rfl
      have hbG : Below w.heap.size w (wr.alloc (.cells #[.string x.name, .int .i64 x.size, .int .i64 x.par] 34)) := hb.alloc hb.size _
      have HR : Hid (Row (wr.alloc (.cells #[.string x.name, .int .i64 x.size, .int .i64 x.par] 34)) wr.heap.size 34 #[.string x.name, .int .i64 x.size, .int .i64 x.par]) := Row.new _ _ _
      cases hN : nameOk x.name with
      | false =>
        have HB : Hid (validB l = false) := validB_bad hlt (by rw [HO.out, hN]; rfl)
        go_wp2_with fail
        have e0 := HR.out.cell 0
        have e1 := HR.out.cell 1
        have hG := HR.out.lt
        generalize wr.heap.size = G at *
        generalize wr.alloc (.cells #[.string x.name, .int .i64 x.size, .int .i64 x.par] 34) = W1 at *
        simp at e0 e1
        go_quiet ((go_at_call 165; exact Calls.quiet_of_same (quietB (nameValid_any _ _ HS.out) hN)))
        go_wp2
        go_ret
        exact ⟨ret_bool HB.out.symm, below_drewN hbG _⟩
      | true =>
        have e0 := HR.out.cell 0
        have e1 := HR.out.cell 1
        have hG := HR.out.lt
        have hGw : w.heap.size ≤ wr.heap.size := hb.size
        cases hT : takenB (l.take k) x.name with
        | true =>
          have HB : Hid (validB l = false) := validB_bad hlt (by rw [HO.out, hN, hT]; rfl)
          go_wp2_with fail
          generalize wr.heap.size = G at *
          generalize wr.alloc (.cells #[.string x.name, .int .i64 x.size, .int .i64 x.par] 34) = W1 at *
          simp at e0 e1
          first
            | (go_region_with (first
                | (go_at_call 165; refine (nameValid_any _ _ HS.out).mono ?_; rw [hN]; rintro e w' ⟨rfl, rfl⟩)
                | (go_at_call 166; refine (nameTaken_take _ _ _ _ _ _ _ HW.out hbG.drew (by omega) hl hT).mono ?_; rintro e w2 ⟨rfl, hb2⟩)))
            | skip
          all_goals
            have hb3 : Below w.heap.size w w2 := hbG.drew.trans (hb2.mono hbG.drew.size)
            clear hb2 hbG
            go_wp2
            go_ret
            exact ⟨ret_bool HB.out.symm, hb3⟩
        | false =>
          cases hS : sizeOk x.size with
          | false =>
            have HB : Hid (validB l = false) := validB_bad hlt (by rw [HO.out, hN, hT, hS]; rfl)
            go_wp2_with fail
            generalize wr.heap.size = G at *
            generalize wr.alloc (.cells #[.string x.name, .int .i64 x.size, .int .i64 x.par] 34) = W1 at *
            simp at e0 e1
            first
              | (go_region_with (first
                  | (go_at_call 165; refine (nameValid_any _ _ HS.out).mono ?_; rw [hN]; rintro e w' ⟨rfl, rfl⟩)
                  | (go_at_call 167; refine (sizeValid_any _ _).mono ?_; rw [hS]; rintro e w' ⟨rfl, rfl⟩)
                  | (go_at_call 166; refine (nameTaken_take _ _ _ _ _ _ _ HW.out hbG.drew (by omega) hl hT).mono ?_; rintro e w2 ⟨rfl, hb2⟩; have f1 := (hb2.cell (p := ⟨G, 1, none⟩) hG).trans e1)))
              | skip
            all_goals
              have hb3 : Below w.heap.size w w2 := hbG.drew.trans (hb2.mono hbG.drew.size)
              clear hb2 hbG
              go_wp2
              go_ret
              exact ⟨ret_bool HB.out.symm, hb3⟩
          | true =>
            cases hP : parOk l k with
            | false =>
              have HB : Hid (validB l = false) := validB_bad hlt (by rw [HO.out, hP, Bool.and_false])
              go_wp2_with fail
              generalize wr.heap.size = G at *
              generalize wr.alloc (.cells #[.string x.name, .int .i64 x.size, .int .i64 x.par] 34) = W1 at *
              simp at e0 e1
              go_region_held3 (fun w' => w'.cell? ⟨G, 0, none⟩ = some (.string x.name) ∧ w'.cell? ⟨G, 1, none⟩ = some (.int .i64 x.size) ∧ G < w'.heap.size ∧ Below w.heap.size w w')
                (first | (go_split_ands; exact ⟨(hb2.cell (by assumption)).trans (by assumption), (hb2.cell (by assumption)).trans (by assumption), Nat.lt_of_lt_of_le (by assumption) hb2.size, Below.trans (by assumption) (hb2.mono (Below.size (by assumption)))⟩) | (go_split_ands; exact ⟨by assumption, by assumption, by assumption, by assumption⟩) | (go_split_ands; exact ⟨e0, e1, hG, hbG.drew⟩))
                (first
                  | (go_at_call 165; refine (nameValid_any _ _ HS.out).mono ?_; rw [hN]; rintro e w' ⟨rfl, rfl⟩)
                  | (go_at_call 167; refine (sizeValid_any _ _).mono ?_; rw [hS]; rintro e w' ⟨rfl, rfl⟩)
                  | (go_at_call 168; go_split_ands; refine (parentFits_at _ _ _ _ _ _ HW.out (by assumption) hlt hl HA.out hP).mono ?_; rintro e w' ⟨rfl, rfl⟩)
                  | (go_at_call 166; go_split_ands; refine (nameTaken_take _ _ _ _ _ _ _ HW.out (by assumption) (by omega) hl hT).mono ?_; rintro e w2 ⟨rfl, hb2⟩))
              go_split_ands
              have hb3 : Below w.heap.size w w2 := by assumption
              go_wp2
              go_ret
              exact ⟨ret_bool HB.out.symm, hb3⟩
            | true =>
              have HB : Hid (AllOk l (k + 1)) := HA.out.succ (by rw [HO.out, hN, hT, hS, hP]; rfl)
              go_wp2_with fail
              generalize wr.heap.size = G at *
              generalize wr.alloc (.cells #[.string x.name, .int .i64 x.size, .int .i64 x.par] 34) = W1 at *
              simp at e0 e1
              go_region_held3 (fun w' => w'.cell? ⟨G, 0, none⟩ = some (.string x.name) ∧ w'.cell? ⟨G, 1, none⟩ = some (.int .i64 x.size) ∧ G < w'.heap.size ∧ Below w.heap.size w w')
                (first | (go_split_ands; exact ⟨(hb2.cell (by assumption)).trans (by assumption), (hb2.cell (by assumption)).trans (by assumption), Nat.lt_of_lt_of_le (by assumption) hb2.size, Below.trans (by assumption) (hb2.mono (Below.size (by assumption)))⟩) | (go_split_ands; exact ⟨by assumption, by assumption, by assumption, by assumption⟩) | (go_split_ands; exact ⟨e0, e1, hG, hbG.drew⟩))
                (first
                  | (go_at_call 165; refine (nameValid_any _ _ HS.out).mono ?_; rw [hN]; rintro e w' ⟨rfl, rfl⟩)
                  | (go_at_call 167; refine (sizeValid_any _ _).mono ?_; rw [hS]; rintro e w' ⟨rfl, rfl⟩)
                  | (go_at_call 168; go_split_ands; refine (parentFits_at _ _ _ _ _ _ HW.out (by assumption) hlt hl HA.out hP).mono ?_; rintro e w' ⟨rfl, rfl⟩)
                  | (go_at_call 166; go_split_ands; refine (nameTaken_take _ _ _ _ _ _ _ HW.out (by assumption) (by omega) hl hT).mono ?_; rintro e w2 ⟨rfl, hb2⟩))
              go_split_ands
              have hb3 : Below w.heap.size w w2 := by assumption
              go_wp2
              go_roundw
              case rel => exact ⟨k + 1, by omega, by go_num, HB, hb3⟩
              case measure => simp [intOf]; omega
    · have HB : Hid (validB l = true) := by
        obtain rfl : k = l.length := by omega
        show validB l = true
        rw [validB_all HA.out, decide_eq_true (by omega), decide_eq_true (by omega)]; rfl
      go_wp2
      go_ret
      exact ⟨ret_bool HB.out.symm, hb⟩

end Go.Proofs.YtifkmehnikfihaaGreat
/- The names that were seen. -/
namespace Go.Proofs.YtifkmehnikfihaaGreat
open Go.RowKit

/-- The names of the first 'k' segments, one behind the other. -/
def seenOf (l : List Seg) (k : Nat) : ByteArray := ⟨((l.take k).flatMap (fun s => s.name.data.toList)).toArray⟩
theorem seenOf_zero (l : List Seg) : seenOf l 0 = ⟨#[]⟩ := rfl
theorem seenOf_succ {l : List Seg} {k : Nat} (hk : k < l.length) : seenOf l (k + 1) = seenOf l k ++ l[k].name := by
  apply WideShapes.bytes_inj
  show _ = (seenOf l k ++ l[k].name).data.toList
  rw [ByteArray.data_append, Array.toList_append]
  show ((l.take (k + 1)).flatMap (fun s => s.name.data.toList)) = ((l.take k).flatMap (fun s => s.name.data.toList)) ++ _
  rw [List.take_succ_eq_append_getElem hk, List.flatMap_append, List.flatMap_cons, List.flatMap_nil, List.append_nil]
theorem AllOk.name {l : List Seg} {k j : Nat} (h : AllOk l k) (hj : j < k) {s : Seg} (hs : l[j]? = some s) : nameOk s.name = true := by
  have := h j hj
  unfold segOk at this
  rw [hs] at this
  simp only [Bool.and_eq_true] at this
  exact this.1.1.1
theorem mem_take_name {l : List Seg} {k : Nat} (h : AllOk l k) {s : Seg} (hs : s ∈ l.take k) : nameOk s.name = true := by
  obtain ⟨j, hj, rfl⟩ := List.getElem_of_mem hs
  have hjk : j < k := by rw [List.length_take] at hj; omega
  refine h.name hjk ?_
  rw [List.getElem_take]
  exact List.getElem?_eq_getElem _
theorem seenOf_len {l : List Seg} {k : Nat} (h : AllOk l k) : (seenOf l k).size ≤ l.length := by
  show ((l.take k).flatMap (fun s => s.name.data.toList)).toArray.size ≤ _
  rw [List.size_toArray, List.length_flatMap]
  have h1 : ∀ s ∈ l.take k, (s.name.data.toList).length = 1 := fun s hs => by
    obtain ⟨c, hc, _⟩ := nameOk_one (mem_take_name h hs)
    rw [hc]; rfl
  have h2 : ((l.take k).map fun s => s.name.data.toList.length) = (l.take k).map fun _ => 1 := List.map_congr_left h1
  rw [h2, List.map_const', List.sum_replicate_nat, Nat.mul_one]
  exact List.length_take_le' k l
theorem seenOf_mem {l : List Seg} {k : Nat} (h : AllOk l k) (c : UInt8) : c ∈ (seenOf l k).data.toList ↔ takenB (l.take k) ⟨#[c]⟩ = true := by
  unfold takenB seenOf
  rw [List.any_eq_true]
  show c ∈ ((l.take k).flatMap (fun s => s.name.data.toList)) ↔ _
  rw [List.mem_flatMap]
  constructor
  · rintro ⟨s, hs, hc⟩
    refine ⟨s, hs, sameB_iff.2 ?_⟩
    obtain ⟨d, hd, _⟩ := nameOk_one (mem_take_name h hs)
    rw [hd] at hc ⊢
    have : c = d := by simpa using hc
    rw [this]
  · rintro ⟨s, hs, hc⟩
    exact ⟨s, hs, by rw [sameB_iff.1 hc]; simp⟩
theorem find_seen {l : List Seg} {k : Nat} (h : AllOk l k) (c : UInt8) : decide (0 ≤ findB (seenOf l k) c) = takenB (l.take k) ⟨#[c]⟩ := by
  rw [Bool.eq_iff_iff, decide_eq_true_iff, findB_lo, seenOf_mem h]

end Go.Proofs.YtifkmehnikfihaaGreat
/- spec.TreeValid is 'validB'. -/
namespace Go.Proofs.YtifkmehnikfihaaGreat
open Go.RowKit

theorem l1Path_at (A : Option Addr) (l : List Seg) (c k : Nat) (q : Int) (w0 w : World) (hq : q = (k : Int) - 1) (hw : Segs w0 w0.heap.size A l) (hb : Below w0.heap.size w0 w) (hl : l.length ≤ 1048576) (hk : k < l.length) (h0 : 0 < k) (hd : AllOk l k) :
    Calls Tryz.prog 184 #[.slice A l.length c, .int .i64 q] w (IntsPost w (pathOf l (k - 1))) := by
  rw [hq, show ((k : Int) - 1) = ((k - 1 : Nat) : Int) by omega]
  exact l1Path_any A l c (k - 1) w ((hw.below hb).more hb.size) hl (by omega) (hd.down.mono (by omega))
theorem parOk_has {l : List Seg} {k : Nat} (h0 : 0 < k) : hasB (pathOf l (k - 1)) (parAt l k) = parOk l k := by
  unfold parOk pathOf
  rw [hasB_reverse, if_neg (by omega), show k - 1 + 1 = k by omega, show ((k - 1 : Nat) : Int) = (k : Int) - 1 by omega]

set_option maxRecDepth 100000 in
set_option maxHeartbeats 4000000 in
theorem specTreeValid_any (A : Option Addr) (l : List Seg) (c : Nat) (w : World) (hw : Segs w w.heap.size A l) (hl : l.length ≤ 1048576) (hn : Short l) :
    Calls Tryz.prog 129 #[.slice A l.length c] w fun e w' => e = .returned (.bool (validB l)) ∧ Below w.heap.size w w' := by
  have HW : Hid (Segs w w.heap.size A l) := hw
  clear hw
  go_enter Tryz.func129, Tryz.ntmps129
  go_wp2
  go_loopw [3, 8] (fun s i wr => ∃ (k : Nat), k ≤ l.length ∧ i = .int .i64 k ∧ s = .string (seenOf l k) ∧ Hid (AllOk l k) ∧ Below w.heap.size w wr)
    (fun _ i _ => l.length - (intOf i).toNat)
  case atStart => exact ⟨0, Nat.zero_le _, rfl, rfl, fun j hj => absurd hj (by omega), Below.refl _ _⟩
  case round =>
    obtain ⟨k, hk, rfl, rfl, HA, hb⟩ := hrel
    by_cases hlt : k < l.length
    · obtain ⟨b, o, rfl, hB, hc⟩ := HW.out (by omega)
      obtain ⟨c0, c1, c2⟩ := hc k l[k] (List.getElem?_eq_getElem hlt)
      clear hc
      rw [← hb.cell hB] at c0 c1 c2
      have HO : Hid _ := segOk_of hlt
      have HS : Hid _ := hn l[k] (List.getElem_mem hlt)
      have HP : Hid _ := parAt_of (List.getElem?_eq_getElem hlt)
      have HQ : Hid _ := seenOf_succ hlt
      have hlen : (seenOf l k).size ≤ 1048576 := Nat.le_trans (seenOf_len HA.out) hl
      have hk0 : (0 : Int) ≤ (k : Int) := Int.natCast_nonneg _
      have hkl : (k : Int) < (l.length : Int) := by omega
      generalize l[k] = x at *
      obtain ⟨nm, sz, pa⟩ := x
      dsimp only at c0 c1 c2 HO HS HP HQ
      have hbG : Below w.heap.size w (wr.alloc (.cells #[.string nm, .int .i64 sz, .int .i64 pa] 34)) := hb.alloc hb.size _
      have HR : Hid (Row (wr.alloc (.cells #[.string nm, .int .i64 sz, .int .i64 pa] 34)) wr.heap.size 34 #[.string nm, .int .i64 sz, .int .i64 pa]) := Row.new _ _ _
      cases hN : nameOk nm with
      | false =>
        have HB : Hid (validB l = false) := validB_bad hlt (by rw [HO.out, hN]; rfl)
        go_wp2_with fail
        refine (l1Name_any _ _ HS.out).mono ?_
        rw [hN]
        rintro e w' ⟨rfl, rfl⟩
        go_wp2_with fail
        go_ret
        exact ⟨ret_bool HB.out.symm, hbG⟩
      | true =>
        obtain ⟨ch, rfl, _⟩ := nameOk_one hN
        have HF : Hid _ := find_seen HA.out ch
        have H1 := at_one ch
        go_wp2_with fail
        refine (l1Name_any _ _ HS.out).mono ?_
        rw [hN]
        rintro e w' ⟨rfl, rfl⟩
        cases hT : takenB (l.take k) ⟨#[ch]⟩ with
        | true =>
          have HB : Hid (validB l = false) := validB_bad hlt (by rw [HO.out, hN, hT]; rfl)
          have hf : 0 ≤ findB (seenOf l k) ch := of_decide_eq_true (HF.out.trans hT)
          go_wp2_with fail
          refine (l13Find_any _ _ _ (by simp [maxLen]; omega)).mono ?_
          rintro e w' ⟨rfl, rfl⟩
          go_wp2_with fail
          go_ret
          exact ⟨ret_bool HB.out.symm, hbG⟩
        | false =>
          have hf : ¬ 0 ≤ findB (seenOf l k) ch := of_decide_eq_false (HF.out.trans hT)
          cases hZ : sizeOk sz with
          | false =>
            have HB : Hid (validB l = false) := validB_bad hlt (by rw [HO.out, hN, hT, hZ]; rfl)
            go_wp2_with fail
            refine (l13Find_any _ _ _ (by simp [maxLen]; omega)).mono ?_
            rintro e w' ⟨rfl, rfl⟩
            go_wp2_with fail
            refine (l1In_any _ _ _ _).mono ?_
            rw [show inB sz 1 99 = false from hZ]
            rintro e w' ⟨rfl, rfl⟩
            go_wp2_with fail
            go_ret
            exact ⟨ret_bool HB.out.symm, hbG⟩
          | true =>
            have HK : Hid (segOk l k = parOk l k) := by
              show _ = _
              rw [HO.out, hN, hT, hZ]; rfl
            have HF' := Lib.hid hf
            clear hf
            go_wp2_with fail
            refine (l13Find_any _ _ _ (by simp [maxLen]; omega)).mono ?_
            rintro e w' ⟨rfl, rfl⟩
            have hf := HF'.out
            go_wp2_with fail
            refine (l1In_any _ _ _ _).mono ?_
            rw [show inB sz 1 99 = true from hZ]
            rintro e w' ⟨rfl, rfl⟩
            go_wp2_with fail
            have hs2 : ((seenOf l k) ++ (⟨#[ch]⟩ : ByteArray)) = seenOf l (k + 1) := HQ.out.symm
            have e2 := HR.out.cell 2
            have hG := HR.out.lt
            clear hf hs2
            have hpa : ((pa : Int) == parAt l k) = true := by rw [HP.out]; simp
            clear hpa
            generalize wr.heap.size = G at *
            generalize wr.alloc (.cells #[.string ⟨#[ch]⟩, .int .i64 sz, .int .i64 pa] 34) = W1 at *
            simp at e2
            generalize hfb : decide (0 ≤ findB (seenOf l k) ch) = fb
            clear hfb
            by_cases h0 : (k : Int) ≤ 0
            · have hz : ((k : Int) == 0) = true := by rw [beq_iff_eq]; omega
              cases hm : (pa != -1) with
              | true =>
                have HB : Hid (validB l = false) := validB_bad hlt (by
                  obtain rfl : k = 0 := by omega
                  rw [HK.out]
                  show (parAt l 0 == -1) = false
                  rw [HP.out, beq_eq_false_iff_ne]
                  exact bne_iff_ne.1 hm)
                refine wp_region_quiet_lit (by kernel_rfl) (by kernel_rfl) ?_
                repeat (first | go_big_quiet_step (fail) | (refine wpQuiet_skip (by rfl) ?_; simp only [Act.put, List.setIfInBounds_toArray, List.set_cons_zero, List.set_cons_succ]))
                refine wpQuiet_nil ?_
                rintro _ ⟨nq, rfl⟩
                go_wp2
                go_ret
                exact ⟨ret_bool HB.out.symm, below_drewN hbG _⟩
              | false =>
                have HB : Hid (AllOk l (k + 1)) := HA.out.succ (by
                  obtain rfl : k = 0 := by omega
                  rw [HK.out]
                  show (parAt l 0 == -1) = true
                  rw [HP.out]
                  simpa using hm)
                have hd : decide (0 < k) = false := decide_eq_false (by omega)
                refine wp_region_quiet_lit (by kernel_rfl) (by kernel_rfl) ?_
                repeat (first | go_big_quiet_step (fail) | (refine wpQuiet_skip (by rfl) ?_; simp only [Act.put, List.setIfInBounds_toArray, List.set_cons_zero, List.set_cons_succ]))
                refine wpQuiet_nil ?_
                rintro _ ⟨nq, rfl⟩
                go_wp2
                go_roundw
                case rel => exact ⟨k + 1, by omega, by go_num, by rw [HQ.out], HB, below_drewN hbG _⟩
                case measure => simp [intOf]; omega
            · have hz : ((k : Int) == 0) = false := by rw [beq_eq_false_iff_ne]; omega
              have h1 : 0 < (k : Int) := by omega
              have HH : Hid _ := parOk_has (l := l) (k := k) (by omega)
              rw [HP.out] at HH
              have hd : decide (0 < k) = true := decide_eq_true (by omega)
              have hkn : 0 < k := by omega
              have HL : Hid ((pathOf l (k - 1)).length ≤ 2097152) := by
                show (chain l (k - 1 + 1) ((k - 1 : Nat) : Int)).reverse.length ≤ _
                rw [List.length_reverse]
                have := chain_len l (k - 1 + 1) ((k - 1 : Nat) : Int)
                omega
              have HV : Hid (hasB (pathOf l (k - 1)) pa = parOk l k) := HH
              clear hd
              refine wp_region_held_drew (S := (fun w' => w'.cell? ⟨G, 2, none⟩ = some (.int .i64 pa) ∧ Below w.heap.size w w')) (by kernel_rfl) ?_ (fun hHeld => ?_)
              · exact ⟨e2, hbG.drew⟩
              refine take_at (i := 0) (d := 35) (v := .int .i64 k) rfl rfl (by kernel_rfl) (by kernel_rfl) (by kernel_rfl) (fun _ _ _ h => h) (by kernel_rfl) (by (intro w hSw; (try dsimp only at hSw); go_simp)) (by assumption) ?_
              simp only [List.setIfInBounds_toArray, List.set_cons_succ, List.set_cons_zero]
              refine take_at (i := 1) (d := 36) (v := .bool false) rfl rfl (by kernel_rfl) (by kernel_rfl) (by kernel_rfl) (fun _ _ _ h => h) (by kernel_rfl) (by (intro w hSw; (try dsimp only at hSw); go_simp)) (by assumption) ?_
              simp only [List.setIfInBounds_toArray, List.set_cons_succ, List.set_cons_zero]
              refine take_at (i := 2) (d := 37) (v := .bool false) rfl rfl (by kernel_rfl) (by kernel_rfl) (by kernel_rfl) (fun _ _ _ h => h) (by kernel_rfl) (by (intro w hSw; (try dsimp only at hSw); go_simp)) (by assumption) ?_
              simp only [List.setIfInBounds_toArray, List.set_cons_succ, List.set_cons_zero]
              refine skip_at (i := 3) (d := 38) rfl rfl (by kernel_rfl) (by kernel_rfl) (by kernel_rfl) (fun _ _ _ h => h) (by kernel_rfl) (by assumption) ?_
              simp only [List.setIfInBounds_toArray, List.set_cons_succ, List.set_cons_zero]
              refine skip_at (i := 4) (d := 39) rfl rfl (by kernel_rfl) (by kernel_rfl) (by kernel_rfl) (fun _ _ _ h => h) (by kernel_rfl) (by assumption) ?_
              simp only [List.setIfInBounds_toArray, List.set_cons_succ, List.set_cons_zero]
              refine skip_at (i := 5) (d := 40) rfl rfl (by kernel_rfl) (by kernel_rfl) (by kernel_rfl) (fun _ _ _ h => h) (by kernel_rfl) (by assumption) ?_
              simp only [List.setIfInBounds_toArray, List.set_cons_succ, List.set_cons_zero]
              refine take_at (i := 6) (d := 41) (v := .bool false) rfl rfl (by kernel_rfl) (by kernel_rfl) (by kernel_rfl) (fun _ _ _ h => h) (by kernel_rfl) (by (intro w hSw; (try dsimp only at hSw); go_simp)) (by assumption) ?_
              simp only [List.setIfInBounds_toArray, List.set_cons_succ, List.set_cons_zero]
              refine take_at (i := 7) (d := 42) (v := .bool false) rfl rfl (by kernel_rfl) (by kernel_rfl) (by kernel_rfl) (fun _ _ _ h => h) (by kernel_rfl) (by (intro w hSw; (try dsimp only at hSw); go_simp)) (by assumption) ?_
              simp only [List.setIfInBounds_toArray, List.set_cons_succ, List.set_cons_zero]
              refine take_at (i := 8) (d := 43) (v := .int .i64 k) rfl rfl (by kernel_rfl) (by kernel_rfl) (by kernel_rfl) (fun _ _ _ h => h) (by kernel_rfl) (by (intro w hSw; (try dsimp only at hSw); go_simp)) (by assumption) ?_
              simp only [List.setIfInBounds_toArray, List.set_cons_succ, List.set_cons_zero]
              refine take_at (i := 9) (d := 44) (v := .bool true) rfl rfl (by kernel_rfl) (by kernel_rfl) (by kernel_rfl) (fun _ _ _ h => h) (by kernel_rfl) (by (intro w hSw; (try dsimp only at hSw); go_simp)) (by assumption) ?_
              simp only [List.setIfInBounds_toArray, List.set_cons_succ, List.set_cons_zero]
              refine take_at (i := 10) (d := 45) (v := .bool true) rfl rfl (by kernel_rfl) (by kernel_rfl) (by kernel_rfl) (fun _ _ _ h => h) (by kernel_rfl) (by (intro w hSw; (try dsimp only at hSw); go_simp)) (by assumption) ?_
              simp only [List.setIfInBounds_toArray, List.set_cons_succ, List.set_cons_zero]
              refine take_at (i := 11) (d := 46) (v := .slice (some ⟨b, o, none⟩) l.length c) rfl rfl (by kernel_rfl) (by kernel_rfl) (by kernel_rfl) (fun _ _ _ h => h) (by kernel_rfl) (by (intro w hSw; (try dsimp only at hSw); go_simp)) (by assumption) ?_
              simp only [List.setIfInBounds_toArray, List.set_cons_succ, List.set_cons_zero]
              refine take_at (i := 12) (d := 47) (v := .int .i64 k) rfl rfl (by kernel_rfl) (by kernel_rfl) (by kernel_rfl) (fun _ _ _ h => h) (by kernel_rfl) (by (intro w hSw; (try dsimp only at hSw); go_simp)) (by assumption) ?_
              simp only [List.setIfInBounds_toArray, List.set_cons_succ, List.set_cons_zero]
              refine take_at (i := 15) (d := 50) (v := .pointer (some ⟨G, 2, none⟩)) rfl rfl (by kernel_rfl) (by kernel_rfl) (by kernel_rfl) (fun _ _ _ h => h) (by kernel_rfl) (by (intro w hSw; (try dsimp only at hSw); go_simp)) (by assumption) ?_
              simp only [List.setIfInBounds_toArray, List.set_cons_succ, List.set_cons_zero]
              refine take_at (i := 13) (d := 48) (v := .int .i64 ((k : Int) - 1)) rfl rfl (by kernel_rfl) (by kernel_rfl) (by kernel_rfl) (fun _ _ _ h => h) (by kernel_rfl) (fun _ _ => run_sub_op rfl rfl rfl (IntWalk.i64_in _ (by omega)) _) (by assumption) ?_
              simp only [List.setIfInBounds_toArray, List.set_cons_succ, List.set_cons_zero]
              refine take_at (i := 16) (d := 51) (v := .int .i64 pa) rfl rfl (by kernel_rfl) (by kernel_rfl) (by kernel_rfl) (fun _ _ _ h => h) (by kernel_rfl) (by (intro w hSw; (try dsimp only at hSw); go_simp)) (by assumption) ?_
              simp only [List.setIfInBounds_toArray, List.set_cons_succ, List.set_cons_zero]
              refine wpAnyH_ready (rs := [14]) (by kernel_rfl) (by simp) ?_
              refine AllReadyH.cons rfl (fun K hK => ?_) AllReadyH.nil
              go_simp
              refine (l1Path_at _ _ _ _ _ _ _ (by rfl) HW.out hHeld.2 hl hlt hkn HA.out).mono ?_
              rintro e w2 ⟨g2, cp2, rfl, hown, hb2⟩
              have hs2 : w2.cell? ⟨G, 2, none⟩ = some (.int .i64 pa) ∧ Below w.heap.size w w2 := ⟨(hb2.cell (p := ⟨G, 2, none⟩) hG).trans hHeld.1, hHeld.2.trans (hb2.mono hHeld.2.size)⟩
              have HO2 := Lib.hid hown
              clear hown hb2 hHeld
              refine hK.out _ _ hs2 (fun hHeld => ?_)
              clear hK K hs2
              refine wpAnyH_ready (rs := [17]) (by kernel_rfl) (by simp) ?_
              refine AllReadyH.cons rfl (fun K hK => ?_) AllReadyH.nil
              go_simp
              refine (l1Has_any _ _ _ _ _ _ HO2.out HL.out).mono ?_
              rw [HV.out]
              rintro e w' ⟨rfl, rfl⟩
              refine hK.out _ _ hHeld (fun hHeld => ?_)
              clear hK K
              refine take_at (i := 18) (d := 53) (v := .bool (!parOk l k)) rfl rfl (by kernel_rfl) (by kernel_rfl) (by kernel_rfl) (fun _ _ _ h => h) (by kernel_rfl) (by (intro w hSw; (try dsimp only at hSw); go_simp)) (by assumption) ?_
              simp only [List.setIfInBounds_toArray, List.set_cons_succ, List.set_cons_zero]
              refine take_at (i := 19) (d := 54) (v := .bool (!parOk l k)) rfl rfl (by kernel_rfl) (by kernel_rfl) (by kernel_rfl) (fun _ _ _ h => h) (by kernel_rfl) (by (intro w hSw; (try dsimp only at hSw); go_simp)) (by assumption) ?_
              simp only [List.setIfInBounds_toArray, List.set_cons_succ, List.set_cons_zero]
              refine take_at (i := 20) (d := 55) (v := .bool (!parOk l k)) rfl rfl (by kernel_rfl) (by kernel_rfl) (by kernel_rfl) (fun _ _ _ h => h) (by kernel_rfl) (by (intro w hSw; (try dsimp only at hSw); go_simp)) (by assumption) ?_
              simp only [List.setIfInBounds_toArray, List.set_cons_succ, List.set_cons_zero]
              refine wpAnyH_done (by kernel_rfl) ?_ _
              have hb3 : Below w.heap.size w w2 := hHeld.2
              clear hHeld hbG
              cases hp : parOk l k with
              | false =>
                have HB : Hid (validB l = false) := validB_bad hlt (by rw [HK.out, hp])
                clear hp
                go_wp2
                go_ret
                exact ⟨ret_bool HB.out.symm, hb3⟩
              | true =>
                have HB : Hid (AllOk l (k + 1)) := HA.out.succ (by rw [HK.out, hp])
                clear hp
                go_wp2
                go_roundw
                case rel => exact ⟨k + 1, by omega, by go_num, by rw [HQ.out], HB, hb3⟩
                case measure => simp [intOf]; omega
    · go_wp2_with fail
      refine (l1In_any _ _ _ _).mono ?_
      rintro e w' ⟨rfl, rfl⟩
      go_wp2
      go_ret
      refine ⟨ret_bool ?_, hb⟩
      obtain rfl : k = l.length := by omega
      rw [validB_all HA.out]
      unfold inB
      congr 1 <;> (apply decide_eq_decide.2; omega)

end Go.Proofs.YtifkmehnikfihaaGreat
/- Totals of sizes: the program's and the model's. -/
namespace Go.Proofs.YtifkmehnikfihaaGreat
open Go.RowKit

def sumTo (l : List Seg) (k : Nat) : Int := ((l.take k).map Seg.size).sum
theorem sumTo_succ {l : List Seg} {k : Nat} (hk : k < l.length) : sumTo l (k + 1) = sumTo l k + l[k].size := by
  unfold sumTo
  rw [List.take_succ_eq_append_getElem hk, List.map_append, List.sum_append_int]
  simp
theorem valid_all {l : List Seg} (h : validB l = true) : AllOk l l.length ∧ l.length ≤ 8 ∧ 1 ≤ l.length := by
  unfold validB at h
  simp only [Bool.and_eq_true, decide_eq_true_eq] at h
  exact ⟨allB_iff.1 h.2, h.1.2, h.1.1⟩
theorem valid_size {l : List Seg} (h : validB l = true) {k : Nat} (hk : k < l.length) : 1 ≤ l[k].size ∧ l[k].size ≤ 99 := by
  have := (valid_all h).1 k hk
  rw [segOk_of hk] at this
  simp only [Bool.and_eq_true] at this
  have hs := this.1.2
  unfold sizeOk at hs
  simp only [Bool.and_eq_true, decide_eq_true_eq] at hs
  exact hs
theorem sumTo_le {l : List Seg} (h : validB l = true) : ∀ k : Nat, k ≤ l.length → 0 ≤ sumTo l k ∧ sumTo l k ≤ 99 * k
  | 0, _ => by simp [sumTo]
  | k + 1, hk => by
    have h1 := sumTo_le h k (by omega)
    have h2 := valid_size h (show k < l.length by omega)
    rw [sumTo_succ (by omega)]
    omega
def totalB (l : List Seg) : Int := if validB l = true then sumTo l l.length else -1

set_option maxRecDepth 100000 in
set_option maxHeartbeats 400000 in
theorem totalSize_any (A : Option Addr) (l : List Seg) (c : Nat) (w : World) (hw : Segs w w.heap.size A l) (hl : l.length ≤ 1048576) (hlc : l.length ≤ c) (hcm : c ≤ 9223372036854775807) (hn : Short l) :
    Calls Tryz.prog 44 #[.slice A l.length c] w fun e w' => e = .returned (.int .i64 (totalB l)) ∧ Below w.heap.size w w' := by
  have HW : Hid (Segs w w.heap.size A l) := hw
  clear hw
  cases hv : validB l with
  | false =>
    have HF : Hid (totalB l = -1) := if_neg (by rw [hv]; decide)
    go_enter Tryz.func44, Tryz.ntmps44
    go_wp2_with fail
    refine (treeValid_any _ _ _ _ HW.out hl hlc hcm hn).mono ?_
    rw [hv]
    rintro e w1 ⟨rfl, hb1⟩
    go_wp2
    go_ret
    exact ⟨ret_int HF.out.symm, hb1⟩
  | true =>
    have HF : Hid (totalB l = sumTo l l.length) := if_pos hv
    go_enter Tryz.func44, Tryz.ntmps44
    go_wp2_with fail
    refine (treeValid_any _ _ _ _ HW.out hl hlc hcm hn).mono ?_
    rw [hv]
    rintro e w1 ⟨rfl, hb1⟩
    have hl8 := (valid_all hv).2.1
    have HV := Lib.hid hv
    clear hv
    go_wp2
    go_loopw [3, 11] (fun s i wr => ∃ (k : Nat) (n : Int), k ≤ l.length ∧ i = .int .i64 k ∧ s = .int .i64 n ∧ Hid (n = sumTo l k) ∧ Below w.heap.size w wr)
      (fun _ i _ => l.length - (intOf i).toNat)
    case atStart => exact ⟨0, 0, Nat.zero_le _, rfl, rfl, rfl, hb1⟩
    case round =>
      obtain ⟨k, n, hk, rfl, rfl, HN, hb⟩ := hrel
      clear hb1
      by_cases hlt : k < l.length
      · obtain ⟨b, o, rfl, hB, hc⟩ := HW.out (by omega)
        obtain ⟨c0, c1, c2⟩ := hc k l[k] (List.getElem?_eq_getElem hlt)
        clear hc
        rw [← hb.cell hB] at c0 c1 c2
        have HS : Hid _ := sumTo_succ hlt
        have hz := valid_size HV.out hlt
        have hn0 : 0 ≤ n ∧ n ≤ 99 * (k : Int) := by rw [HN.out]; exact sumTo_le HV.out k hk
        obtain ⟨z1, z2⟩ := hz
        obtain ⟨n1, n2⟩ := hn0
        have n3 : n ≤ 800 := by omega
        clear n2
        generalize l[k] = x at *
        have HX : Hid (n + x.size = sumTo l (k + 1)) := by rw [HS.out, ← HN.out]; rfl
        clear HS HN
        go_wp2
        go_roundw
        case rel => exact ⟨k + 1, _, by omega, by go_num, rfl, HX, hb.alloc hb.size _⟩
        case measure => simp [intOf]; omega
      · obtain rfl : k = l.length := by omega
        go_wp2
        go_ret
        exact ⟨ret_int (by rw [HF.out]; exact HN.out), hb⟩

end Go.Proofs.YtifkmehnikfihaaGreat
/- Which segment has a name: the model's side. -/
namespace Go.Proofs.YtifkmehnikfihaaGreat
open Go.RowKit

def seekFrom (s : ByteArray) : List Seg → Nat → Int
  | [], _ => -1
  | x :: l, k => if sameB x.name s = true then (k : Int) else seekFrom s l (k + 1)
def seek (l : List Seg) (s : ByteArray) : Int := seekFrom s l 0
theorem seekFrom_bd (s : ByteArray) : ∀ (l : List Seg) (k : Nat), seekFrom s l k = -1 ∨ ((k : Int) ≤ seekFrom s l k ∧ seekFrom s l k < k + l.length)
  | [], k => .inl rfl
  | x :: l, k => by
    unfold seekFrom
    by_cases h : sameB x.name s = true
    · rw [if_pos h]; right; simp only [List.length_cons]; omega
    · rw [if_neg h]
      rcases seekFrom_bd s l (k + 1) with h1 | h1
      · exact .inl h1
      · right; simp only [List.length_cons]; omega
theorem seek_bd (l : List Seg) (s : ByteArray) : seek l s = -1 ∨ (0 ≤ seek l s ∧ seek l s < l.length) := by
  have := seekFrom_bd s l 0
  simpa [seek] using this
theorem seekFrom_drop (l : List Seg) (s : ByteArray) (k : Nat) (hk : k < l.length) : seekFrom s (l.drop k) k = if sameB l[k].name s = true then (k : Int) else seekFrom s (l.drop (k + 1)) (k + 1) := by
  rw [List.drop_eq_getElem_cons hk]
  rfl
theorem seekFrom_name (s : ByteArray) : ∀ (l : List Seg) (k j : Nat), seekFrom s l k = ((k + j : Nat) : Int) → ∃ x, l[j]? = some x ∧ x.name = s
  | [], k, j, h => by simp [seekFrom] at h; omega
  | x :: l, k, j, h => by
    unfold seekFrom at h
    by_cases hx : sameB x.name s = true
    · rw [if_pos hx] at h
      obtain rfl : j = 0 := by omega
      exact ⟨x, rfl, sameB_iff.1 hx⟩
    · rw [if_neg hx] at h
      rcases seekFrom_bd s l (k + 1) with h1 | h1
      · omega
      · obtain ⟨j', rfl⟩ : ∃ j', j = j' + 1 := ⟨j - 1, by omega⟩
        obtain ⟨y, hy, hn⟩ := seekFrom_name s l (k + 1) j' (by rw [h]; omega)
        exact ⟨y, by simpa using hy, hn⟩
theorem seek_name {l : List Seg} {s : ByteArray} {j : Nat} (h : seek l s = (j : Int)) : ∃ x, l[j]? = some x ∧ x.name = s :=
  seekFrom_name s l 0 j (by rw [Nat.zero_add]; exact h)

/-- The index of a name within a valid list, or -1. -/
def indexB (l : List Seg) (s : ByteArray) : Int := if validB l = true then seek l s else -1

set_option maxRecDepth 100000 in
set_option maxHeartbeats 400000 in
theorem l1Index_any (A : Option Addr) (l : List Seg) (c : Nat) (s : ByteArray) (w : World) (hw : Segs w w.heap.size A l) (hl : l.length ≤ 1048576) (hn : Short l) :
    Calls Tryz.prog 79 #[.slice A l.length c, .string s] w fun e w' => e = .returned (.int .i64 (indexB l s)) ∧ Below w.heap.size w w' := by
  have HW : Hid (Segs w w.heap.size A l) := hw
  clear hw
  cases hv : validB l with
  | false =>
    have HF : Hid (indexB l s = -1) := if_neg (by rw [hv]; decide)
    go_enter Tryz.func79, Tryz.ntmps79
    go_wp2_with fail
    refine (specTreeValid_any _ _ _ _ HW.out hl hn).mono ?_
    rw [hv]
    rintro e w1 ⟨rfl, hb1⟩
    go_wp2
    go_ret
    exact ⟨ret_int HF.out.symm, hb1⟩
  | true =>
    have HF : Hid (indexB l s = seek l s) := if_pos hv
    go_enter Tryz.func79, Tryz.ntmps79
    go_wp2_with fail
    refine (specTreeValid_any _ _ _ _ HW.out hl hn).mono ?_
    rw [hv]
    rintro e w1 ⟨rfl, hb1⟩
    clear hv
    go_wp2
    go_loopw [12] (fun i wr => ∃ (k : Nat), k ≤ l.length ∧ i = .int .i64 k ∧ Hid (seek l s = seekFrom s (l.drop k) k) ∧ Below w.heap.size w wr)
      (fun i _ => l.length - (intOf i).toNat)
    case atStart => exact ⟨0, Nat.zero_le _, rfl, rfl, hb1⟩
    case round =>
      obtain ⟨k, hk, rfl, HN, hb⟩ := hrel
      clear hb1
      by_cases hlt : k < l.length
      · obtain ⟨b, o, rfl, hB, hc⟩ := HW.out (by omega)
        obtain ⟨c0, c1, c2⟩ := hc k l[k] (List.getElem?_eq_getElem hlt)
        clear hc
        rw [← hb.cell hB] at c0 c1 c2
        have HD : Hid _ := seekFrom_drop l s k hlt
        generalize l[k] = x at *
        cases ht : (x.name.toList == s.toList) with
        | true =>
          have HE : Hid (indexB l s = k) := by
            show _ = _
            rw [HF.out, HN.out, HD.out]
            exact if_pos ht
          go_wp2
          go_ret
          exact ⟨ret_int HE.out.symm, hb.alloc hb.size _⟩
        | false =>
          have HE : Hid (seek l s = seekFrom s (l.drop (k + 1)) (k + 1)) := by
            show _ = _
            rw [HN.out, HD.out]
            exact if_neg (by rw [show sameB x.name s = false from ht]; decide)
          go_wp2
          go_roundw
          case rel => exact ⟨k + 1, by omega, by go_num, HE, hb.alloc hb.size _⟩
          case measure => simp [intOf]; omega
      · go_wp2
        go_ret
        exact ⟨ret_int (by rw [HF.out, HN.out, List.drop_of_length_le (by omega)]; rfl), hb⟩

def sizeAt (l : List Seg) (i : Nat) : Int := match l[i]? with
  | some s => s.size
  | none => -1
def sizeB (l : List Seg) (s : ByteArray) : Int := if indexB l s < 0 then -1 else sizeAt l (indexB l s).toNat
theorem sizeAt_of {l : List Seg} {k : Nat} (h : k < l.length) : sizeAt l k = l[k].size := by unfold sizeAt; rw [List.getElem?_eq_getElem h]
theorem indexB_bd (l : List Seg) (s : ByteArray) : indexB l s = -1 ∨ (0 ≤ indexB l s ∧ indexB l s < l.length) := by
  unfold indexB
  split
  · exact seek_bd l s
  · exact .inl rfl

end Go.Proofs.YtifkmehnikfihaaGreat
