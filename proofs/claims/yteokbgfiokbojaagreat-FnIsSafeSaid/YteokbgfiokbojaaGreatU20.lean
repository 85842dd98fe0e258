/- Joined: Bd Bf. -/
import Derived.Test.YteokbgfiokbojaaGreatU19
import Derived.Deep.RegionWith
import Derived.WalkMore
import Derived.Lib.SlicesCompact
import Derived.Sort.OwnSorted
import Derived.Test.YteokbgfiokbojaaGreatU01
/- ChainLies on both sides. -/
namespace Go.Proofs.YteokbgfiokbojaaGreat
open Go.RowKit Go.Shelf

set_option maxRecDepth 100000 in
set_option maxHeartbeats 1000000 in
theorem specChainLies_any (A : Option Addr) (l : List Seg) (c : Nat) (s : ByteArray) (w : World) (hw : Segs w w.heap.size A l) (hl : l.length ≤ 1048576) (hn : Short l) (hs : s.size ≤ 1048576) :
    Calls Tryz.prog 21 #[.slice A l.length c, .string s] w fun e w' => e = .returned (.bool (liesB l s)) ∧ Below w.heap.size w w' := by
  have HW : Hid (Segs w w.heap.size A l) := hw
  have HL := Lib.hid (fun W a b h => specLie_any A l c a b W h hl hn)
  have HTV := Lib.hid (fun W h => specTreeValid_any A l c W h hl hn)
  clear hw hn
  go_enter Tryz.func21, Tryz.ntmps21
  go_wp2
  go_loopw [9] (fun i wr => ∃ k : Nat, k ≤ s.size ∧ i = .int .i64 k ∧ Hid (liesUp l s k = true) ∧ Hid (Below w.heap.size w wr))
    (fun i _ => s.size - (intOf i).toNat)
  case atStart => exact ⟨0, Nat.zero_le _, rfl, rfl, Below.refl _ _⟩
  case round =>
    obtain ⟨k, hk, rfl, HK, HB⟩ := hrel
    have hk0 : (0 : Int) ≤ (k : Int) := Int.natCast_nonneg _
    by_cases hlt : k < s.size
    · have hlt' : (k : Int) < (s.size : Int) := by omega
      have hk1 : (k : Int) + 1 ≤ (s.size : Int) := by omega
      go_wp2
      go_loopw [14] (fun i wr => ∃ j : Nat, j ≤ k + 1 ∧ i = .int .i64 j ∧ Hid (liesTo l s k j = true) ∧ Hid (Below w.heap.size w wr))
        (fun i _ => k + 1 - (intOf i).toNat)
      case atStart => exact ⟨0, Nat.zero_le _, rfl, rfl, HB⟩
      case round =>
        obtain ⟨j, hj, rfl, HJ, HB2⟩ := hrel
        have hj0 : (0 : Int) ≤ (j : Int) := Int.natCast_nonneg _
        by_cases hltj : j < k + 1
        · have hj1 : (j : Int) + 1 ≤ (s.size : Int) := by omega
          have hj2 : (j : Int) < (s.size : Int) := by omega
          have hj3 : (j : Int) < (k : Int) + 1 := by omega
          have HX := Lib.hid (liesTo_succ l s k j)
          obtain ⟨j1, hj1e⟩ : ∃ j1 : Nat, j1 = j + 1 := ⟨_, rfl⟩
          obtain ⟨k1, hk1e⟩ : ∃ k1 : Nat, k1 = k + 1 := ⟨_, rfl⟩
          have hwj : IntKind.i64.wrap ((j : Int) + 1) = (j1 : Int) := (IntWalk.i64_in _ (by omega)).trans (by omega)
          have hwk : IntKind.i64.wrap ((k : Int) + 1) = (k1 : Int) := (IntWalk.i64_in _ (by omega)).trans (by omega)
          have hjj : (j : Int) ≤ (j1 : Int) := by omega
          have hkk : (k : Int) ≤ (k1 : Int) := by omega
          have hjs : (j1 : Int) ≤ (s.size : Int) := by omega
          have hks : (k1 : Int) ≤ (s.size : Int) := by omega
          have HJE := Lib.hid hj1e
          have HKE := Lib.hid hk1e
          clear hj1e hk1e
          cases hd : lieB l (s.extract j (j + 1)) (s.extract k (k + 1)) with
          | false =>
            have HF : Hid (liesB l s = false) := liesB_false hlt (liesTo_false hltj hd)
            have HLC : Hid (Calls Tryz.prog 45 #[.slice A l.length c, .string (s.extract j j1), .string (s.extract k k1)] wr.drew fun e w' => e = .returned (.bool false) ∧ Below wr.drew.heap.size wr.drew w') := by
              have := HL.out wr.drew (s.extract j (j + 1)) (s.extract k (k + 1)) ((HW.out.below HB2.out.drew).more HB2.out.drew.size)
              rw [HJE.out, HKE.out]
              rwa [hd] at this
            clear hd HX HL
            go_wp2_with fail
            go_region_with (go_at_call 45; refine Calls.mono HLC.out ?_; rintro e w3 ⟨rfl, hb3⟩)
            have HB3 : Hid (Below w.heap.size w w3) := HB2.out.drew.trans (hb3.mono HB2.out.drew.size)
            clear hb3
            go_wp2
            go_ret
            exact ⟨ret_bool HF.out.symm, HB3.out⟩
          | true =>
            have HJ1 : Hid (liesTo l s k (j + 1) = true) := by
              show _ = _
              rw [HX.out, HJ.out, hd]; rfl
            have HLC : Hid (Calls Tryz.prog 45 #[.slice A l.length c, .string (s.extract j j1), .string (s.extract k k1)] wr.drew fun e w' => e = .returned (.bool true) ∧ Below wr.drew.heap.size wr.drew w') := by
              have := HL.out wr.drew (s.extract j (j + 1)) (s.extract k (k + 1)) ((HW.out.below HB2.out.drew).more HB2.out.drew.size)
              rw [HJE.out, HKE.out]
              rwa [hd] at this
            clear hd HX
            go_wp2_with fail
            go_region_with (go_at_call 45; refine Calls.mono HLC.out ?_; rintro e w3 ⟨rfl, hb3⟩)
            have HB3 : Hid (Below w.heap.size w w3) := HB2.out.drew.trans (hb3.mono HB2.out.drew.size)
            have hje := HJE.out
            subst hje
            clear hb3 HLC
            go_wp2
            go_roundw
            case rel => exact ⟨j + 1, by omega, by go_num, HJ1, HB3⟩
            case measure => simp [intOf]; omega
        · obtain rfl : j = k + 1 := by omega
          have HK1 : Hid (liesUp l s (k + 1) = true) := by
            show _ = _
            rw [liesUp_succ, HK.out, HJ.out]; rfl
          go_wp2
          go_roundw
          case rel => exact ⟨k + 1, by omega, by go_num, HK1, HB2⟩
          case measure => simp [intOf]; omega
    · obtain rfl : k = s.size := by omega
      have HF : Hid (liesB l s = validB l) := by
        show (liesUp l s s.size && validB l) = _
        rw [HK.out, Bool.true_and]
      go_wp2_with fail
      refine (HTV.out _ ((HW.out.below HB.out).more HB.out.size)).mono ?_
      rintro e w3 ⟨rfl, hb3⟩
      have HB3 : Hid (Below w.heap.size w w3) := HB.out.trans (hb3.mono HB.out.size)
      clear hb3
      go_wp2
      go_ret
      exact ⟨ret_bool HF.out.symm, HB3.out⟩

/-- The set of the first of some indices. -/
def memF (js : List Nat) (j : Nat) : Bool := decide (j ∈ js)
theorem memF_snoc (js : List Nat) (i : Nat) : setF (fun j => memF js j || decide (j = i)) = setF (memF (js ++ [i])) := by
  apply setF_congr
  intro j _
  unfold memF
  rw [Bool.eq_iff_iff, Bool.or_eq_true, decide_eq_true_eq, decide_eq_true_eq, decide_eq_true_eq, List.mem_append, List.mem_singleton]

set_option maxRecDepth 100000 in
set_option maxHeartbeats 1000000 in
theorem setOf_any (B g : Nat) (l : List Seg) (nb : Nat → Nat) (cv : Nat → Value) (js : List Nat) (v : Value) (B2 : Nat) (w : World) (h : Nodes w B g l.length l.length l nb cv) (hv : validB l = true) (hj : ∀ j ∈ js, j < l.length) (hjl : js.length ≤ 1048576)
    (hown : w.ownsRow B2 92 1 v js.length (ptrsOf nb js)) :
    Calls Tryz.prog 34 #[.slice (some ⟨g, 0, none⟩) l.length l.length, v] w fun e w' => e = .returned (.int .u64 (setF (memF js) : Int)) ∧ w = w' := by
  have h8 := (valid_all hv).2.1
  have HIX := Lib.hid (fun i (hi : i < l.length) => indexAll_any B g i l nb cv w h (by omega) hi)
  have HO := Lib.hid hown
  have HJ := Lib.hid hj
  clear h hv
  obtain ⟨a, cap, rfl⟩ : ∃ a cap, v = .slice a js.length cap := by
    rcases hown.2 with ⟨rfl, h0⟩ | ⟨g', cap, cur, rfl, _⟩
    · exact ⟨none, 0, by rw [h0]⟩
    · exact ⟨_, cap, rfl⟩
  clear hown hj
  have H0 : Hid (setF (memF (js.take 0)) = 0) := rfl
  go_enter Tryz.func34, Tryz.ntmps34
  go_wp2
  go_loop [5, 10] (fun o i => ∃ k : Nat, k ≤ js.length ∧ i = .int .i64 k ∧ o = .int .u64 (setF (memF (js.take k)) : Int))
    (fun _ i => js.length - (intOf i).toNat)
  case atStart => exact ⟨0, Nat.zero_le _, rfl, rfl⟩
  case round =>
    obtain ⟨k, hk, rfl, rfl⟩ := hrel
    have hk0 : (0 : Int) ≤ (k : Int) := Int.natCast_nonneg _
    by_cases hlt : k < js.length
    · have hlt' : (k : Int) < (js.length : Int) := by omega
      obtain ⟨g', cap', hv'⟩ := own_form HO.out (by omega)
      injection hv' with hA _ hc
      subst hA hc
      have c0 : w.cell? ⟨g', k, none⟩ = some (.pointer (some ⟨nb js[k], 0, none⟩)) := by
        rw [HO.out.cellAt k (by omega)]
        simp [ptrsOf, ptrTo, hlt]
      have hjk := HJ.out js[k] (List.getElem_mem hlt)
      have HS : Hid (js.take (k + 1) = js.take k ++ [js[k]]) := List.take_succ_eq_append_getElem hlt
      have HN := Lib.hid (HIX.out js[k] hjk)
      generalize js[k] = i at *
      have hi8 : i < 8 := by omega
      have HX := Lib.hid (memF_snoc (js.take k) i)
      go_wp2_with fail
      refine HN.out.mono ?_
      rintro e w1 ⟨rfl, rfl⟩
      go_wp2_with fail
      refine (with_any _ i _ hi8).mono ?_
      rintro e w1 ⟨rfl, rfl⟩
      go_wp2
      go_round
      case rel => exact ⟨k + 1, by omega, by go_num, by rw [HX.out, HS.out]⟩
      case measure => simp [intOf]; omega
    · obtain rfl : k = js.length := by omega
      rw [List.take_length]
      go_wp2
      go_ret
      exact ⟨rfl, rfl⟩

/-- Whether no two of the first segments that are in a set lie apart. -/
def togeRow (l : List Seg) (f : Nat → Bool) (i n : Nat) : Bool := (List.range n).all fun j => !(f i && f j && decide (kindIx l i j = 2))
def togeUp (l : List Seg) (f : Nat → Bool) (n : Nat) : Bool := (List.range n).all fun i => togeRow l f i i
theorem togeRow_succ (l : List Seg) (f : Nat → Bool) (i n : Nat) : togeRow l f i (n + 1) = (togeRow l f i n && !(f i && f n && decide (kindIx l i n = 2))) := by
  unfold togeRow
  rw [List.range_succ, List.all_append]
  simp
theorem togeUp_succ (l : List Seg) (f : Nat → Bool) (n : Nat) : togeUp l f (n + 1) = (togeUp l f n && togeRow l f n n) := by
  unfold togeUp
  rw [List.range_succ, List.all_append]
  simp
theorem toge_no {l : List Seg} {f : Nat → Bool} {i j : Nat} (hi : i < l.length) (hj : j < i) (h1 : f i = true) (h2 : f j = true) (hk : kindIx l i j = 2) : togeB l f = false := by
  rw [Bool.eq_false_iff]
  intro h
  have := all_range.1 (all_range.1 h i hi) j hj
  rw [h1, h2, hk] at this
  cases this

set_option maxRecDepth 100000 in
set_option maxHeartbeats 2000000 in
theorem liesTogether_any (B g : Nat) (l : List Seg) (nb : Nat → Nat) (cv : Nat → Value) (f : Nat → Bool) (w : World) (h : Nodes w B g l.length l.length l nb cv) (hv : validB l = true) :
    Calls Tryz.prog 35 #[.int .u64 (setF f : Int), .slice (some ⟨g, 0, none⟩) l.length l.length] w fun e w' => e = .returned (.bool (togeB l f)) ∧ Below w.heap.size w w' := by
  have h8 := (valid_all hv).2.1
  have HN := Lib.hid h
  obtain ⟨cs, hrow, -, hci⟩ := h.row
  have HC : Hid (∀ i, i < l.length → w.cell? ⟨g, i, none⟩ = some (.pointer (some ⟨nb i, 0, none⟩))) := fun i hi => by rw [hrow.cell]; exact hci i hi
  have hg := hrow.lt
  have HK := Lib.hid (fun i j W hb hi hj => kindOfCall_any B g i j l nb cv W (HN.out.below (w' := W) hb) hv hi hj)
  clear h hv hrow hci cs HN
  go_enter Tryz.func35, Tryz.ntmps35
  go_wp2
  go_step3
  go_wp2
  go_step3
  go_wp2
  go_loopw [5, 12] (fun o i wr => ∃ k : Nat, k ≤ l.length ∧ i = .int .i64 k ∧ o = .bool true ∧ Hid (togeUp l f k = true) ∧ Hid (Below w.heap.size w wr))
    (fun _ i _ => l.length - (intOf i).toNat)
  case atStart => exact ⟨0, Nat.zero_le _, rfl, rfl, rfl, Below.refl _ _⟩
  case round =>
    obtain ⟨k, hk, rfl, rfl, HU, HB⟩ := hrel
    have hk0 : (0 : Int) ≤ (k : Int) := Int.natCast_nonneg _
    by_cases hlt : k < l.length
    · have hlt' : (k : Int) < (l.length : Int) := by omega
      have hkl : (k : Int) ≤ (l.length : Int) := by omega
      have ck : wr.cell? ⟨g, k, none⟩ = some (.pointer (some ⟨nb k, 0, none⟩)) := (HB.out.cell (p := ⟨g, k, none⟩) hg).trans (HC.out k hlt)
      go_wp2
      go_loopw [5, 21] (fun o i wr => ∃ j : Nat, j ≤ k ∧ i = .int .i64 j ∧ o = .bool true ∧ Hid (togeRow l f k j = true) ∧ Hid (Below w.heap.size w wr))
        (fun _ i _ => k - (intOf i).toNat)
      case atStart => exact ⟨0, Nat.zero_le _, rfl, rfl, rfl, HB⟩
      case round =>
        obtain ⟨j, hj, rfl, rfl, HR, HB2⟩ := hrel
        clear ck
        have hj0 : (0 : Int) ≤ (j : Int) := Int.natCast_nonneg _
        by_cases hltj : j < k
        · have hltj' : (j : Int) < (k : Int) := by omega
          have cj : wr.cell? ⟨g, j, none⟩ = some (.pointer (some ⟨nb j, 0, none⟩)) := (HB2.out.cell (p := ⟨g, j, none⟩) hg).trans (HC.out j (by omega))
          have HX := Lib.hid (togeRow_succ l f k j)
          have HNO : Hid (f k = true → f j = true → kindIx l k j = 2 → togeB l f = false) := fun h1 h2 h3 => toge_no hlt hltj h1 h2 h3
          go_wp2_with fail
          refine (has_any f k _ (by omega)).mono ?_
          cases h1 : f k with
          | false =>
            rintro e w1 ⟨rfl, rfl⟩
            have HR1 : Hid (togeRow l f k (j + 1) = true) := by
              show _ = _
              rw [HX.out, HR.out, h1]; rfl
            clear h1 HX HNO
            go_wp2
            go_roundw
            case rel => exact ⟨j + 1, by omega, by go_num, rfl, HR1, HB2⟩
            case measure => simp [intOf]; omega
          | true =>
            rintro e w1 ⟨rfl, rfl⟩
            go_wp2_with fail
            refine (has_any f j _ (by omega)).mono ?_
            cases h2 : f j with
            | false =>
              rintro e w1 ⟨rfl, rfl⟩
              have HR1 : Hid (togeRow l f k (j + 1) = true) := by
                show _ = _
                rw [HX.out, HR.out, h2, Bool.and_false]; rfl
              clear h1 h2 HX HNO
              go_wp2
              go_roundw
              case rel => exact ⟨j + 1, by omega, by go_num, rfl, HR1, HB2⟩
              case measure => simp [intOf]; omega
            | true =>
              rintro e w1 ⟨rfl, rfl⟩
              go_wp2_with fail
              refine (HK.out k j _ HB2.out (by omega) (by omega)).mono ?_
              have HR1 : Hid (¬ kindIx l k j = 2 → togeRow l f k (j + 1) = true) := fun h3 => by
                rw [HX.out, HR.out, h1, h2, decide_eq_false h3]; rfl
              have HNO1 : Hid (kindIx l k j = 2 → togeB l f = false) := HNO.out h1 h2
              clear h1 h2 HX HNO
              generalize kindIx l k j = q at *
              rintro e w1 ⟨rfl, hb1⟩
              have HB3 : Hid (Below w.heap.size w w1) := HB2.out.trans (hb1.mono HB2.out.size)
              clear hb1
              by_cases hq : q = 2
              · subst hq
                have HF : Hid (togeB l f = false) := HNO1.out rfl
                clear HNO1 HR1
                go_wp2
                rw [Exit.noGoto_ret]
                go_ret
                exact ⟨ret_bool HF.out.symm, HB3.out⟩
              · have HR2 : Hid (togeRow l f k (j + 1) = true) := HR1.out hq
                have hq2 : (q == 2) = false := by simpa using hq
                clear HNO1 HR1 hq
                go_wp2
                go_roundw
                case rel => exact ⟨j + 1, by omega, by go_num, rfl, HR2, HB3⟩
                case measure => simp [intOf]; omega
        · obtain rfl : j = k := by omega
          have HU1 : Hid (togeUp l f (j + 1) = true) := by
            show _ = _
            rw [togeUp_succ, HU.out, HR.out]; rfl
          go_wp2
          go_roundw
          case rel => exact ⟨j + 1, by omega, by go_num, rfl, HU1, HB2⟩
          case measure => simp [intOf]; omega
    · obtain rfl : k = l.length := by omega
      have HF : Hid (togeB l f = true) := HU.out
      go_wp2
      rw [Exit.noGoto_ret]
      go_ret
      exact ⟨ret_bool HF.out.symm, HB.out⟩

set_option maxRecDepth 100000 in
set_option maxHeartbeats 1000000 in
theorem chainLies_any (A : Option Addr) (l : List Seg) (c : Nat) (s : ByteArray) (w : World) (hw : Segs w w.heap.size A l) (hl : l.length ≤ 1048576) (hlc : l.length ≤ c) (hcm : c ≤ 9223372036854775807) (hn : Short l) (hs : s.size ≤ 1048576) :
    Calls Tryz.prog 13 #[.slice A l.length c, .string s] w fun e w' => e = .returned (.bool (liesB l s)) ∧ Below w.heap.size w w' := by
  have HW : Hid (Segs w w.heap.size A l) := hw
  have hnil := fun (W : World) (a : Option Addr) (n c : Nat) => Lib.run_eql_slice_nil (P := Tryz.prog) W 56 92 a n c 0 0 Tryz.underlying56
  clear hw
  cases hv : validB l with
  | false =>
    have HF : Hid (liesB l s = false) := liesB_bad hv s
    go_enter Tryz.func13, Tryz.ntmps13
    go_wp2_with fail
    refine (nodesOf_bad _ _ _ _ HW.out hl hlc hcm hn hv).mono ?_
    rintro e w1 ⟨rfl, hb1⟩
    go_wp2_with fail
    refine (nodesNamed_bad s _ hs).mono ?_
    generalize decide (s.size = 0) = d
    rintro e w2 ⟨rfl, rfl⟩
    go_wp2
    all_goals go_ret
    all_goals exact ⟨ret_bool HF.out.symm, hb1⟩
  | true =>
    have HV := Lib.hid hv
    have h8 := (valid_all hv).2.1
    have HY : Hid (namedOk l s.data.toList = true → liesB l s = togeB l (memF (namedJs l s.data.toList))) := fun h => liesB_named hv h
    have HN0 : Hid (namedOk l s.data.toList = false → liesB l s = false) := fun h => liesB_unnamed hv h
    have HJL : Hid (namedOk l s.data.toList = true → ∀ j ∈ namedJs l s.data.toList, j < l.length) := fun h => namedJs_lt h
    have HJS : Hid ((namedJs l s.data.toList).length ≤ 1048576) := by
      show _ ≤ _
      unfold namedJs
      rw [List.length_map]
      simpa using hs
    clear hv
    go_enter Tryz.func13, Tryz.ntmps13
    go_wp2_with fail
    refine (nodesOf_any _ _ _ _ HW.out hl hlc hcm hn HV.out).mono ?_
    rintro e w1 ⟨g, nb, cv, rfl, hN, hb1⟩
    have HN := Lib.hid hN
    have HB1 := Lib.hid hb1
    clear hN hb1
    go_wp2_with fail
    refine (nodesNamed_any _ _ _ _ _ _ _ HN.out HV.out hs).mono ?_
    rintro e w2 (⟨hok, v, rfl, hown, hb2⟩ | ⟨hok, rfl, hb2⟩)
    · have HF : Hid (liesB l s = togeB l (memF (namedJs l s.data.toList))) := HY.out hok
      have HJ := Lib.hid (HJL.out hok)
      have HN2 := Lib.hid (HN.out.below hb2)
      have HB2 : Hid (Below w.heap.size w w2) := HB1.out.trans (hb2.mono HB1.out.size)
      have HO := Lib.hid hown
      clear hok hb2 hown HY HN0 HJL HN HB1
      generalize namedJs l s.data.toList = js at *
      go_wp2_with fail
      refine (setOf_any _ _ _ _ _ _ _ _ _ HN2.out HV.out HJ.out HJS.out HO.out).mono ?_
      rintro e w3 ⟨rfl, rfl⟩
      go_wp2_with fail
      refine (liesTogether_any _ _ _ _ _ _ _ HN2.out HV.out).mono ?_
      rintro e w4 ⟨rfl, hb4⟩
      have HB4 : Hid (Below w.heap.size w w4) := HB2.out.trans (hb4.mono HB2.out.size)
      clear hb4
      go_wp2
      go_ret
      exact ⟨ret_bool HF.out.symm, HB4.out⟩
    · have HF : Hid (liesB l s = false) := HN0.out hok
      have HB2 : Hid (Below w.heap.size w w2) := HB1.out.trans (hb2.mono HB1.out.size)
      clear hok hb2 HY HN0 HJL
      go_wp2
      all_goals go_ret
      all_goals exact ⟨ret_bool HF.out.symm, HB2.out⟩

end Go.Proofs.YteokbgfiokbojaaGreat
/- Texts put into their places one by one, and sorted and compacted at once: plain. -/
namespace Go.Proofs.YteokbgfiokbojaaGreat
open Go.RowKit

abbrev Txt := List UInt8
/-- One text in its place. -/
def putB (L : List Txt) (s : Txt) : List Txt :=
  if (L.dropWhile fun x => decide (x < s)).head? = some s then L else L.takeWhile (fun x => decide (x < s)) ++ s :: L.dropWhile (fun x => decide (x < s))
def putAll (L : List Txt) (xs : List Txt) : List Txt := xs.foldl putB L
theorem putAll_snoc (L xs : List Txt) (s : Txt) : putAll L (xs ++ [s]) = putB (putAll L xs) s := by unfold putAll; rw [List.foldl_append]; rfl
theorem take_drop_while {p : Txt → Bool} (L : List Txt) : L.takeWhile p ++ L.dropWhile p = L := List.takeWhile_append_dropWhile
theorem takeWhile_all {p : Txt → Bool} : ∀ (L : List Txt), ∀ x ∈ L.takeWhile p, p x = true
  | [], x, h => by cases h
  | y :: L, x, h => by
    rw [List.takeWhile_cons] at h
    by_cases hy : p y = true
    · rw [if_pos hy] at h
      rcases List.mem_cons.1 h with rfl | h
      · exact hy
      · exact takeWhile_all L x h
    · rw [if_neg hy] at h
      cases h
theorem dropWhile_head {p : Txt → Bool} : ∀ (L : List Txt) (y : Txt) (r : List Txt), L.dropWhile p = y :: r → p y = false
  | [], y, r, h => by cases h
  | z :: L, y, r, h => by
    rw [List.dropWhile_cons] at h
    by_cases hz : p z = true
    · rw [if_pos hz] at h
      exact dropWhile_head L y r h
    · rw [if_neg hz] at h
      injection h with h1 _
      subst h1
      simpa using hz
theorem txt_tri (x y : Txt) : x < y ∨ x = y ∨ y < x := by
  by_cases h1 : x < y
  · exact .inl h1
  · by_cases h2 : y < x
    · exact .inr (.inr h2)
    · exact .inr (.inl (List.le_antisymm (List.not_lt.1 h2) (List.not_lt.1 h1)))
theorem txt_irr (x : Txt) : ¬ x < x := List.lt_irrefl x
theorem txt_trans {x y z : Txt} (h1 : x < y) (h2 : y < z) : x < z := List.lt_trans h1 h2
theorem putB_mem (L : List Txt) (s x : Txt) : x ∈ putB L s ↔ x ∈ L ∨ x = s := by
  have e := take_drop_while (p := fun x => decide (x < s)) L
  unfold putB
  by_cases h : (L.dropWhile fun x => decide (x < s)).head? = some s
  · rw [if_pos h]
    constructor
    · exact .inl
    · rintro (h' | rfl)
      · exact h'
      · have h2 : x ∈ L.dropWhile fun y => decide (y < x) := List.mem_of_mem_head? h
        rw [← e]
        exact List.mem_append.2 (.inr h2)
  · rw [if_neg h]
    constructor
    · intro h'
      rcases List.mem_append.1 h' with h' | h'
      · exact .inl (by rw [← e]; exact List.mem_append.2 (.inl h'))
      · rcases List.mem_cons.1 h' with h' | h'
        · exact .inr h'
        · exact .inl (by rw [← e]; exact List.mem_append.2 (.inr h'))
    · rintro (h' | rfl)
      · rw [← e] at h'
        rcases List.mem_append.1 h' with h' | h'
        · exact List.mem_append.2 (.inl h')
        · exact List.mem_append.2 (.inr (List.mem_cons_of_mem _ h'))
      · exact List.mem_append.2 (.inr List.mem_cons_self)
theorem putB_sorted {L : List Txt} (hL : L.Pairwise (· < ·)) (s : Txt) : (putB L s).Pairwise (· < ·) := by
  have e := take_drop_while (p := fun x => decide (x < s)) L
  unfold putB
  by_cases h : (L.dropWhile fun x => decide (x < s)).head? = some s
  · rw [if_pos h]; exact hL
  · rw [if_neg h]
    rw [← e, List.pairwise_append] at hL
    obtain ⟨h1, h2, h3⟩ := hL
    have hlo : ∀ x ∈ L.takeWhile (fun x => decide (x < s)), x < s := fun x hx => of_decide_eq_true (takeWhile_all (p := fun x => decide (x < s)) L x hx)
    have hhi : ∀ x ∈ L.dropWhile (fun x => decide (x < s)), s < x := by
      cases hd : L.dropWhile (fun x => decide (x < s)) with
      | nil => intro x hx; cases hx
      | cons y r =>
        rw [hd] at h h2
        have hy := of_decide_eq_false (dropWhile_head (p := fun x => decide (x < s)) L y r hd)
        have hsy : s < y := by
          rcases txt_tri y s with h' | h' | h'
          · exact absurd h' hy
          · exact absurd (by rw [h']; rfl) h
          · exact h'
        intro x hx
        rcases List.mem_cons.1 hx with rfl | hx
        · exact hsy
        · exact txt_trans hsy ((List.pairwise_cons.1 h2).1 x hx)
    rw [List.pairwise_append]
    refine ⟨h1, List.pairwise_cons.2 ⟨hhi, h2⟩, fun a ha b hb => ?_⟩
    rcases List.mem_cons.1 hb with rfl | hb
    · exact hlo a ha
    · exact h3 a ha b hb
theorem putB_len (L : List Txt) (s : Txt) : (putB L s).length ≤ L.length + 1 := by
  have e := congrArg List.length (take_drop_while (p := fun x => decide (x < s)) L)
  rw [List.length_append] at e
  unfold putB
  split
  · omega
  · rw [List.length_append, List.length_cons]; omega
theorem putAll_len : ∀ (xs L : List Txt), (putAll L xs).length ≤ L.length + xs.length
  | [], L => Nat.le_refl _
  | x :: xs, L => by
    have h1 := putAll_len xs (putB L x)
    have h2 := putB_len L x
    show (putAll (putB L x) xs).length ≤ _
    rw [List.length_cons]
    omega
theorem putAll_sorted : ∀ (xs L : List Txt), L.Pairwise (· < ·) → (putAll L xs).Pairwise (· < ·)
  | [], _, h => h
  | x :: xs, L, h => putAll_sorted xs (putB L x) (putB_sorted h x)
theorem putAll_mem : ∀ (xs L : List Txt) (x : Txt), x ∈ putAll L xs ↔ x ∈ L ∨ x ∈ xs
  | [], L, x => by simp [putAll]
  | y :: xs, L, x => by
    show x ∈ putAll (putB L y) xs ↔ _
    rw [putAll_mem xs (putB L y) x, putB_mem, List.mem_cons]
    constructor
    · rintro ((h | h) | h)
      · exact .inl h
      · exact .inr (.inl h)
      · exact .inr (.inr h)
    · rintro (h | h | h)
      · exact .inl (.inl h)
      · exact .inl (.inr h)
      · exact .inr h
/-- Two rows that ascend and have the same texts are one. -/
theorem asc_txt : ∀ {a b : List Txt}, a.Pairwise (· < ·) → b.Pairwise (· < ·) → (∀ x, x ∈ a ↔ x ∈ b) → a = b
  | [], [], _, _, _ => rfl
  | [], y :: b, _, _, h => by
    have := (h y).2 List.mem_cons_self
    cases this
  | x :: a, [], _, _, h => by
    have := (h x).1 List.mem_cons_self
    cases this
  | x :: a, y :: b, ha, hb, h => by
    have ha' := List.pairwise_cons.1 ha
    have hb' := List.pairwise_cons.1 hb
    have hxy : x = y := by
      have h1 := (h x).1 List.mem_cons_self
      have h2 := (h y).2 List.mem_cons_self
      rcases List.mem_cons.1 h1 with e | e
      · exact e
      · rcases List.mem_cons.1 h2 with e2 | e2
        · exact e2.symm
        · exact absurd (txt_trans (hb'.1 x e) (ha'.1 y e2)) (txt_irr y)
    subst hxy
    rw [asc_txt ha'.2 hb'.2]
    intro z
    constructor
    · intro hz
      have := ha'.1 z hz
      rcases List.mem_cons.1 ((h z).1 (List.mem_cons_of_mem _ hz)) with e | e
      · subst e; exact absurd this (txt_irr z)
      · exact e
    · intro hz
      have := hb'.1 z hz
      rcases List.mem_cons.1 ((h z).2 (List.mem_cons_of_mem _ hz)) with e | e
      · subst e; exact absurd this (txt_irr z)
      · exact e

/-- What compacting leaves of a row in which equal ones lie together: each once. -/
theorem upTo_sorted (d : Array Txt) (hd : d.toList.Pairwise (· ≤ ·)) : ∀ m, m ≤ d.size → (Lib.compactUpTo d m).Pairwise (· < ·) ∧ (∀ x, x ∈ Lib.compactUpTo d m ↔ ∃ j, j < m ∧ d[j]! = x) := by
  have hle : ∀ i j, i < j → j < d.size → d[i]! ≤ d[j]! := fun i j hij hj => by
    have := List.pairwise_iff_getElem.1 hd i j (by simpa using (by omega : i < d.size)) (by simpa using hj) hij
    rw [getElem!_pos d i (by omega), getElem!_pos d j hj]
    simpa using this
  intro m
  induction m with
  | zero =>
    intro _
    refine ⟨List.Pairwise.nil, fun x => ?_⟩
    constructor
    · intro h; cases h
    · rintro ⟨j, hj, _⟩; omega
  | succ m ih =>
    intro hm
    obtain ⟨h1, h2⟩ := ih (by omega)
    rw [Lib.compactUpTo_succ]
    by_cases hk : Lib.keeps d m = true
    · rw [if_pos hk]
      constructor
      · rw [List.pairwise_append]
        refine ⟨h1, List.pairwise_singleton _ _, fun a ha b hb => ?_⟩
        rw [List.mem_singleton] at hb
        subst hb
        obtain ⟨j, hj, rfl⟩ := (h2 a).1 ha
        have hm0 : ¬ m = 0 := by omega
        have hne : d[m]! ≠ d[m - 1]! := by
          unfold Lib.keeps at hk
          have := of_decide_eq_true hk
          rcases this with h | h
          · exact absurd h hm0
          · exact h
        have hl1 : d[m - 1]! ≤ d[m]! := hle (m - 1) m (by omega) (by omega)
        have hl2 : d[m - 1]! < d[m]! := by
          rcases txt_tri d[m - 1]! d[m]! with h | h | h
          · exact h
          · exact absurd h.symm hne
          · exact absurd h (List.not_lt.2 hl1)
        by_cases hj1 : j = m - 1
        · rw [hj1]; exact hl2
        · have hl3 := hle j (m - 1) (by omega) (by omega)
          rcases txt_tri d[j]! d[m - 1]! with h | h | h
          · exact txt_trans h hl2
          · rw [h]; exact hl2
          · exact absurd h (List.not_lt.2 hl3)
      · intro x
        rw [List.mem_append, h2, List.mem_singleton]
        constructor
        · rintro (⟨j, hj, e⟩ | e)
          · exact ⟨j, by omega, e⟩
          · exact ⟨m, by omega, e.symm⟩
        · rintro ⟨j, hj, e⟩
          by_cases hjm : j = m
          · subst hjm; exact .inr e.symm
          · exact .inl ⟨j, by omega, e⟩
    · rw [if_neg hk, List.append_nil]
      refine ⟨h1, fun x => ?_⟩
      rw [h2]
      have hk' : ¬ (m = 0 ∨ d[m]! ≠ d[m - 1]!) := fun h => hk (decide_eq_true h)
      have hm0 : ¬ m = 0 := fun h => hk' (.inl h)
      have he : d[m]! = d[m - 1]! := Classical.byContradiction fun h => hk' (.inr h)
      constructor
      · rintro ⟨j, hj, e⟩; exact ⟨j, by omega, e⟩
      · rintro ⟨j, hj, e⟩
        by_cases hjm : j = m
        · subst hjm; exact ⟨j - 1, by omega, by rw [← he]; exact e⟩
        · exact ⟨j, by omega, e⟩
/-- Sorted and compacted is put in one by one. -/
theorem compact_sort (xs : List Txt) : Lib.compact (xs.mergeSort fun x y => decide (x ≤ y)) = putAll [] xs := by
  have tr : ∀ a b c : Txt, decide (a ≤ b) = true → decide (b ≤ c) = true → decide (a ≤ c) = true := fun a b c h1 h2 => decide_eq_true (List.le_trans (of_decide_eq_true h1) (of_decide_eq_true h2))
  have hto : ∀ a b : Txt, (decide (a ≤ b) || decide (b ≤ a)) = true := fun a b => by
    rw [Bool.or_eq_true, decide_eq_true_eq, decide_eq_true_eq]
    exact List.le_total a b
  have hp : (xs.mergeSort fun x y => decide (x ≤ y)).Pairwise (· ≤ ·) := (List.pairwise_mergeSort tr hto xs).imp (fun {a b} h => of_decide_eq_true h)
  have hm : ∀ x, x ∈ (xs.mergeSort fun x y => decide (x ≤ y)) ↔ x ∈ xs := fun x => (List.mergeSort_perm xs _).mem_iff
  generalize (xs.mergeSort fun x y => decide (x ≤ y)) = ss at *
  obtain ⟨h1, h2⟩ := upTo_sorted ss.toArray (by simpa using hp) ss.length (by simp)
  refine asc_txt h1 (putAll_sorted xs [] List.Pairwise.nil) fun x => ?_
  rw [show (x ∈ Lib.compact ss ↔ x ∈ putAll [] xs) = (x ∈ Lib.compactUpTo ss.toArray ss.length ↔ x ∈ putAll [] xs) from rfl, h2, putAll_mem, ← hm]
  constructor
  · rintro ⟨j, hj, e⟩
    refine .inr ?_
    rw [← e, getElem!_pos ss.toArray j (by simpa using hj)]
    simp
  · rintro (h | h)
    · cases h
    · obtain ⟨j, hj, e⟩ := List.getElem_of_mem h
      refine ⟨j, hj, ?_⟩
      rw [getElem!_pos ss.toArray j (by simpa using hj)]
      simpa using e

end Go.Proofs.YteokbgfiokbojaaGreat
