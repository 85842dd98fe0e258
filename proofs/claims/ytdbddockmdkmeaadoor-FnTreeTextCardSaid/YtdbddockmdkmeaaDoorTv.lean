/- impl.TreeValid is 'validB'. -/
import Derived.Test.YtdbddockmdkmeaaDoorPl
import Derived.Deep.RegionWith
import Derived.Deep.RegionHeld3
import Derived.BigQuiet
import Derived.WalkSmall
import Derived.Deep.QuietTactic
namespace Go.Proofs.YtdbddockmdkmeaaDoor
open Go.RowKit

theorem segOk_of {l : List Seg} {k : Nat} (hk : k < l.length) : segOk l k = (nameOk l[k].name && !takenB (l.take k) l[k].name && sizeOk l[k].size && parOk l k) := by
  unfold segOk
  rw [List.getElem?_eq_getElem hk]
theorem Segs.take {w : World} {B : Nat} {A : Option Addr} {l : List Seg} (h : Segs w B A l) (k : Nat) : Segs w B A (l.take k) := fun hl => by
  obtain ⟨b, o, e, hB, hc⟩ := h (by have := List.length_take_le k l; have : (l.take k).length ≤ l.length := List.length_take_le' k l; omega)
  refine ⟨b, o, e, hB, fun j s hj => hc j s ?_⟩
  rw [List.getElem?_take] at hj
  split at hj
  · exact hj
  · cases hj
theorem AllOk.succ {l : List Seg} {k : Nat} (h : AllOk l k) (hk : segOk l k = true) : AllOk l (k + 1) := fun j hj => by
  rcases Nat.lt_or_ge j k with hlt | hge
  · exact h j hlt
  · obtain rfl : j = k := by omega
    exact hk

theorem quietB {P : Program} {f : FuncId} {args : Array Value} {w : World} {b v : Bool} (h : Calls P f args w fun e w' => e = .returned (.bool b) ∧ w = w') (hb : b = v) :
    Calls P f args w fun e w' => e = .returned (.bool v) ∧ w' = w := h.mono fun _ _ ⟨he, hw⟩ => ⟨by rw [he, hb], hw.symm⟩

theorem nameTaken_take (A : Option Addr) (l : List Seg) (c k : Nat) (s : ByteArray) (w0 w : World) (hw : Segs w0 w0.heap.size A l) (hb : Below w0.heap.size w0 w) (hk : k ≤ l.length) (hl : l.length ≤ 1048576) {v : Bool} (hv : takenB (l.take k) s = v) :
    Calls Tryd.prog 57 #[.slice A k c, .string s] w fun e w' => e = .returned (.bool v) ∧ Below w.heap.size w w' := by
  have h := nameTaken_any A (l.take k) c s w (((hw.take k).below hb).more hb.size) (by rw [List.length_take]; omega)
  rw [List.length_take, Nat.min_eq_left hk, hv] at h
  exact h
theorem parentFits_at (A : Option Addr) (l : List Seg) (c k : Nat) (w0 w : World) (hw : Segs w0 w0.heap.size A l) (hb : Below w0.heap.size w0 w) (hk : k < l.length) (hl : l.length ≤ 1048576) (hd : AllOk l k) {v : Bool} (hv : parOk l k = v) :
    Calls Tryd.prog 59 #[.slice A l.length c, .int .i64 k] w fun e w' => e = .returned (.bool v) ∧ w = w' := by
  have h := parentFits_any A l c k w ((hw.below hb).more hb.size) hl hk hd.down
  rw [hv] at h
  exact h

set_option maxRecDepth 100000 in
set_option maxHeartbeats 1000000 in
theorem treeValid_any (A : Option Addr) (l : List Seg) (c : Nat) (w : World) (hw : Segs w w.heap.size A l) (hl : l.length ≤ 1048576) (hlc : l.length ≤ c) (hcm : c ≤ 9223372036854775807) (hn : Short l) :
    Calls Tryd.prog 14 #[.slice A l.length c] w fun e w' => e = .returned (.bool (validB l)) ∧ Below w.heap.size w w' := by
  by_cases h1 : l.length < 1
  · have HF : Hid (validB l = false) := by
      show validB l = false
      unfold validB
      rw [decide_eq_false (by omega)]; rfl
    go_enter Tryd.func14, Tryd.ntmps14
    go_wp2
    go_ret
    exact ⟨ret_bool HF.out.symm, Below.refl _ _⟩
  by_cases h2 : 8 < l.length
  · have HF : Hid (validB l = false) := by
      show validB l = false
      unfold validB
      rw [decide_eq_false (p := l.length ≤ 8) (by omega), Bool.and_false]; rfl
    go_enter Tryd.func14, Tryd.ntmps14
    go_wp2
    go_ret
    exact ⟨ret_bool HF.out.symm, Below.refl _ _⟩
  have HW : Hid (Segs w w.heap.size A l) := hw
  clear hw
  have q1 : decide ((l.length : Int) < 1) = false := decide_eq_false (by omega)
  have q2 : decide (8 < (l.length : Int)) = false := decide_eq_false (by omega)
  go_enter Tryd.func14, Tryd.ntmps14
  go_wp2
  go_loopw [15] (fun i wr => ∃ (k : Nat), k ≤ l.length ∧ i = .int .i64 k ∧ Hid (AllOk l k) ∧ Below w.heap.size w wr)
    (fun i _ => l.length - (intOf i).toNat)
  case atStart => exact ⟨0, Nat.zero_le _, rfl, fun j hj => absurd hj (by omega), Below.refl _ _⟩
  case round =>
    obtain ⟨k, hk, rfl, HA, hb⟩ := hrel
    by_cases hlt : k < l.length
    · obtain ⟨b, o, rfl, hB, hc⟩ := HW.out (by omega)
      obtain ⟨c0, c1, c2⟩ := hc k l[k] (List.getElem?_eq_getElem hlt)
      clear hc
      rw [← hb.cell hB] at c0 c1 c2
      have HO : Hid _ := segOk_of hlt
      have hk0 : (0 : Int) ≤ (k : Int) := Int.natCast_nonneg _
      have hkc : (k : Int) ≤ (c : Int) := by omega
      have hkl : (k : Int) < (l.length : Int) := by omega
      have HS : Hid _ := hn l[k] (List.getElem_mem hlt)
      generalize l[k] = x at *
      have HT : Hid (takenB (l.take k) x.name = takenB (l.take k) x.name) := rfl
      have hbG : Below w.heap.size w (wr.alloc (.cells #[.string x.name, .int .i64 x.size, .int .i64 x.par] 66)) := hb.alloc hb.size _
      have HR : Hid (Row (wr.alloc (.cells #[.string x.name, .int .i64 x.size, .int .i64 x.par] 66)) wr.heap.size 66 #[.string x.name, .int .i64 x.size, .int .i64 x.par]) := Row.new _ _ _
      cases hN : nameOk x.name with
      | false =>
        have HB : Hid (validB l = false) := validB_bad hlt (by rw [HO.out, hN]; rfl)
        go_wp2_with fail
        have e0 := HR.out.cell 0
        have e1 := HR.out.cell 1
        have hG := HR.out.lt
        generalize wr.heap.size = G at *
        generalize wr.alloc (.cells #[.string x.name, .int .i64 x.size, .int .i64 x.par] 66) = W1 at *
        simp at e0 e1
        go_quiet ((go_at_call 56; exact Calls.quiet_of_same (quietB (nameValid_any _ _ HS.out) hN)))
        go_wp2
        go_ret
        exact ⟨ret_bool HB.out.symm, below_drewN hbG _⟩
      | true =>
        have e0 := HR.out.cell 0
        have e1 := HR.out.cell 1
        have hG := HR.out.lt
        have hGw : w.heap.size ≤ wr.heap.size := hb.size
        cases hT : takenB (l.take k) x.name with
        | true =>
          have HB : Hid (validB l = false) := validB_bad hlt (by rw [HO.out, hN, hT]; rfl)
          go_wp2_with fail
          generalize wr.heap.size = G at *
          generalize wr.alloc (.cells #[.string x.name, .int .i64 x.size, .int .i64 x.par] 66) = W1 at *
          simp at e0 e1
          first
            | (go_region_with (first
                | (go_at_call 56; refine (nameValid_any _ _ HS.out).mono ?_; rw [hN]; rintro e w' ⟨rfl, rfl⟩)
                | (go_at_call 57; refine (nameTaken_take _ _ _ _ _ _ _ HW.out hbG.drew (by omega) hl hT).mono ?_; rintro e w2 ⟨rfl, hb2⟩)))
            | skip
          all_goals
            have hb3 : Below w.heap.size w w2 := hbG.drew.trans (hb2.mono hbG.drew.size)
            clear hb2 hbG
            go_wp2
            go_ret
            exact ⟨ret_bool HB.out.symm, hb3⟩
        | false =>
          cases hS : sizeOk x.size with
          | false =>
            have HB : Hid (validB l = false) := validB_bad hlt (by rw [HO.out, hN, hT, hS]; rfl)
            go_wp2_with fail
            generalize wr.heap.size = G at *
            generalize wr.alloc (.cells #[.string x.name, .int .i64 x.size, .int .i64 x.par] 66) = W1 at *
            simp at e0 e1
            first
              | (go_region_with (first
                  | (go_at_call 56; refine (nameValid_any _ _ HS.out).mono ?_; rw [hN]; rintro e w' ⟨rfl, rfl⟩)
                  | (go_at_call 58; refine (sizeValid_any _ _).mono ?_; rw [hS]; rintro e w' ⟨rfl, rfl⟩)
                  | (go_at_call 57; refine (nameTaken_take _ _ _ _ _ _ _ HW.out hbG.drew (by omega) hl hT).mono ?_; rintro e w2 ⟨rfl, hb2⟩; have f1 := (hb2.cell (p := ⟨G, 1, none⟩) hG).trans e1)))
              | skip
            all_goals
              have hb3 : Below w.heap.size w w2 := hbG.drew.trans (hb2.mono hbG.drew.size)
              clear hb2 hbG
              go_wp2
              go_ret
              exact ⟨ret_bool HB.out.symm, hb3⟩
          | true =>
            cases hP : parOk l k with
            | false =>
              have HB : Hid (validB l = false) := validB_bad hlt (by rw [HO.out, hP, Bool.and_false])
              go_wp2_with fail
              generalize wr.heap.size = G at *
              generalize wr.alloc (.cells #[.string x.name, .int .i64 x.size, .int .i64 x.par] 66) = W1 at *
              simp at e0 e1
              go_region_held3 (fun w' => w'.cell? ⟨G, 0, none⟩ = some (.string x.name) ∧ w'.cell? ⟨G, 1, none⟩ = some (.int .i64 x.size) ∧ G < w'.heap.size ∧ Below w.heap.size w w')
                (first | (go_split_ands; exact ⟨(hb2.cell (by assumption)).trans (by assumption), (hb2.cell (by assumption)).trans (by assumption), Nat.lt_of_lt_of_le (by assumption) hb2.size, Below.trans (by assumption) (hb2.mono (Below.size (by assumption)))⟩) | (go_split_ands; exact ⟨by assumption, by assumption, by assumption, by assumption⟩) | (go_split_ands; exact ⟨e0, e1, hG, hbG.drew⟩))
                (first
                  | (go_at_call 56; refine (nameValid_any _ _ HS.out).mono ?_; rw [hN]; rintro e w' ⟨rfl, rfl⟩)
                  | (go_at_call 58; refine (sizeValid_any _ _).mono ?_; rw [hS]; rintro e w' ⟨rfl, rfl⟩)
                  | (go_at_call 59; go_split_ands; refine (parentFits_at _ _ _ _ _ _ HW.out (by assumption) hlt hl HA.out hP).mono ?_; rintro e w' ⟨rfl, rfl⟩)
                  | (go_at_call 57; go_split_ands; refine (nameTaken_take _ _ _ _ _ _ _ HW.out (by assumption) (by omega) hl hT).mono ?_; rintro e w2 ⟨rfl, hb2⟩))
              go_split_ands
              have hb3 : Below w.heap.size w w2 := by assumption
              go_wp2
              go_ret
              exact ⟨ret_bool HB.out.symm, hb3⟩
            | true =>
              have HB : Hid (AllOk l (k + 1)) := HA.out.succ (by rw [HO.out, hN, hT, hS, hP]; rfl)
              go_wp2_with fail
              generalize wr.heap.size = G at *
              generalize wr.alloc (.cells #[.string x.name, .int .i64 x.size, .int .i64 x.par] 66) = W1 at *
              simp at e0 e1
              go_region_held3 (fun w' => w'.cell? ⟨G, 0, none⟩ = some (.string x.name) ∧ w'.cell? ⟨G, 1, none⟩ = some (.int .i64 x.size) ∧ G < w'.heap.size ∧ Below w.heap.size w w')
                (first | (go_split_ands; exact ⟨(hb2.cell (by assumption)).trans (by assumption), (hb2.cell (by assumption)).trans (by assumption), Nat.lt_of_lt_of_le (by assumption) hb2.size, Below.trans (by assumption) (hb2.mono (Below.size (by assumption)))⟩) | (go_split_ands; exact ⟨by assumption, by assumption, by assumption, by assumption⟩) | (go_split_ands; exact ⟨e0, e1, hG, hbG.drew⟩))
                (first
                  | (go_at_call 56; refine (nameValid_any _ _ HS.out).mono ?_; rw [hN]; rintro e w' ⟨rfl, rfl⟩)
                  | (go_at_call 58; refine (sizeValid_any _ _).mono ?_; rw [hS]; rintro e w' ⟨rfl, rfl⟩)
                  | (go_at_call 59; go_split_ands; refine (parentFits_at _ _ _ _ _ _ HW.out (by assumption) hlt hl HA.out hP).mono ?_; rintro e w' ⟨rfl, rfl⟩)
                  | (go_at_call 57; go_split_ands; refine (nameTaken_take _ _ _ _ _ _ _ HW.out (by assumption) (by omega) hl hT).mono ?_; rintro e w2 ⟨rfl, hb2⟩))
              go_split_ands
              have hb3 : Below w.heap.size w w2 := by assumption
              go_wp2
              go_roundw
              case rel => exact ⟨k + 1, by omega, by go_num, HB, hb3⟩
              case measure => simp [intOf]; omega
    · have HB : Hid (validB l = true) := by
        obtain rfl : k = l.length := by omega
        show validB l = true
        rw [validB_all HA.out, decide_eq_true (by omega), decide_eq_true (by omega)]; rfl
      go_wp2
      go_ret
      exact ⟨ret_bool HB.out.symm, hb⟩

end Go.Proofs.YtdbddockmdkmeaaDoor
