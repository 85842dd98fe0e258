/- The reference's text of a tree. -/
import Derived.Test.YtdbddockmdkmeaaDoorMu
import Derived.Test.YtdbddockmdkmeaaDoorMk
import Derived.Test.YtdbddockmdkmeaaDoorMb
import Derived.Test.YtdbddockmdkmeaaDoorTs
import Derived.Test.YtdbddockmdkmeaaDoorVa
namespace Go.Proofs.YtdbddockmdkmeaaDoor
open Go.RowKit

/-- The texts of the children among the first segments. -/
def inner8 (l : List Seg) (f i k : Nat) : ByteArray := txt12 (joinC ((kidsOf l i k).map (textT l f)))
theorem inner8_no {l : List Seg} {f i k : Nat} (h : parAt l k ≠ (i : Int)) : inner8 l f i (k + 1) = inner8 l f i k := by
  unfold inner8
  rw [kidsOf_succ, if_neg h, List.append_nil]
theorem inner8_yes {l : List Seg} {f i k : Nat} (h : parAt l k = (i : Int)) : inner8 l f i (k + 1) = if kidsOf l i k = [] then txt12 (textT l f k) else inner8 l f i k ++ ⟨#[44]⟩ ++ txt12 (textT l f k) := by
  unfold inner8
  rw [kidsOf_succ, if_pos h, List.map_append]
  show txt12 (joinC (_ ++ [textT l f k])) = _
  rw [joinC_snoc]
  by_cases h0 : kidsOf l i k = []
  · rw [if_pos h0, if_pos (by rw [h0]; rfl)]
  · rw [if_neg h0, if_neg (by simpa using h0)]
    show _ = txt12 _ ++ txt12 [44] ++ txt12 _
    rw [txt12_app, txt12_app, List.append_assoc]
    rfl
theorem inner8_size {l : List Seg} (hv : validB l = true) (f i k : Nat) (hk : k ≤ l.length) : (inner8 l f i k).size ≤ 16 * 8 ^ f := by
  have hp : 1 ≤ 8 ^ f := Nat.pos_of_ne_zero (by simp)
  have hs : (kidsOf l i k).length ≤ 8 := Nat.le_trans (kidsOf_len l i k) (Nat.le_trans hk (valid_all hv).2.1)
  have h4 := joinC_len (2 * 8 ^ f - 2) ((kidsOf l i k).map (textT l f)) (fun x hx => by
    obtain ⟨j, hj, rfl⟩ := List.mem_map.1 hx
    have h9 := kidsOf_lt hj
    have := textT_len hv f j (by omega)
    omega)
  rw [List.length_map] at h4
  have h5 : (kidsOf l i k).length * (2 * 8 ^ f - 2 + 1) ≤ 8 * (2 * 8 ^ f - 2 + 1) := Nat.mul_le_mul_right _ hs
  unfold inner8
  rw [txt12_size]
  omega
theorem emptyB8 (z : ByteArray) : z.toList.isEmpty = true ↔ z = ⟨#[]⟩ := by
  constructor
  · intro e
    have h0 : z.toList = [] := List.isEmpty_iff.1 e
    exact sameB_iff.1 (by
      unfold sameB
      rw [h0]
      unfold ByteArray.toList ByteArray.toList.loop
      decide)
  · intro e
    subst e
    unfold ByteArray.toList ByteArray.toList.loop
    decide
theorem txt12_nil {x : List UInt8} : txt12 x = ⟨#[]⟩ ↔ x = [] := by
  constructor
  · intro h
    have := congrArg ByteArray.size h
    rw [txt12_size] at this
    exact List.eq_nil_of_length_eq_zero this
  · intro h; subst h; rfl
theorem joinC_nil {xs : List (List UInt8)} (h : ∀ x ∈ xs, x ≠ []) : joinC xs = [] ↔ xs = [] := by
  cases xs with
  | nil => simp [joinC]
  | cons x r =>
    constructor
    · intro e
      exact absurd (List.append_eq_nil_iff.1 e).1 (h x (by simp))
    · intro e; cases e
/-- Nothing is written exactly if no child is among the first. -/
theorem inner8_empty {l : List Seg} (hv : validB l = true) {f i k : Nat} (hk : k ≤ l.length) (hf : l.length ≤ i + (f + 1)) : (inner8 l f i k).toList.isEmpty = decide (kidsOf l i k = []) := by
  have h1 : (inner8 l f i k = ⟨#[]⟩) ↔ kidsOf l i k = [] := by
    unfold inner8
    rw [txt12_nil, joinC_nil (fun x hx => by
      obtain ⟨j, hj, rfl⟩ := List.mem_map.1 hx
      have h9 := kidsOf_lt hj
      have h2 := kidsOf_par hj
      have h3 := (AllOk.down (valid_all hv).1) j (by omega)
      obtain ⟨g, rfl⟩ : ∃ g, f = g + 1 := ⟨f - 1, by omega⟩
      exact textT_ne l g j)]
    simp
  by_cases h : kidsOf l i k = []
  · rw [decide_eq_true h]; exact (emptyB8 _).2 (h1.2 h)
  · rw [decide_eq_false h, ← Bool.not_eq_true]; exact fun e => h (h1.1 ((emptyB8 _).1 e))

set_option maxRecDepth 100000 in
set_option maxHeartbeats 1000000 in
theorem l1Text_any (A : Option Addr) (l : List Seg) (c : Nat) (hv : validB l = true) : ∀ f i, i < l.length → l.length ≤ i + f → f ≤ 8 → ∀ w, Segs w w.heap.size A l →
    Calls Tryd.prog 55 #[.slice A l.length c, .int .i64 i] w fun e w' => e = .returned (.string (txt12 (textT l f i))) ∧ Below w.heap.size w w'
  | 0, i, hi, hf, _, _, _ => absurd hf (by omega)
  | f + 1, i, hi, hf, h8, w, hw => by
    have HW : Hid (Segs w w.heap.size A l) := hw
    have IH : Hid (∀ k, i < k → k < l.length → ∀ w, Segs w w.heap.size A l → Calls Tryd.prog 55 #[.slice A l.length c, .int .i64 k] w fun e w' => e = .returned (.string (txt12 (textT l f k))) ∧ Below w.heap.size w w') :=
      fun k h1 h2 w' hw' => l1Text_any A l c hv f k h2 (by omega) (by omega) w' hw'
    have hl8 := (valid_all hv).2.1
    have hp8 : 8 ^ f ≤ 2097152 := Nat.le_trans (Nat.pow_le_pow_right (by decide) (by omega : f ≤ 7)) (by decide)
    have HDN := Lib.hid (AllOk.down (valid_all hv).1)
    have HSZ := Lib.hid (fun k hk => inner8_size hv f i k hk)
    have HEM := Lib.hid (fun k hk => inner8_empty hv (k := k) hk hf)
    have HTL := Lib.hid (fun k hk => textT_len hv f k hk)
    obtain ⟨b, o, rfl, hB, hc⟩ := HW.out (by omega)
    obtain ⟨c0, c1, c2⟩ := hc i l[i] (List.getElem?_eq_getElem hi)
    clear hc
    have hx1 := sizeAt_in hv hi
    have hxs := sizeAt_of hi
    have hnl : l[i].name.size = 1 := by
      have := nameB_len hv hi
      unfold nameB at this
      rw [List.getElem?_eq_getElem hi] at this
      exact this
    have hil := itoa_99 hx1.1 hx1.2
    have HTX : Hid (txt12 (textT l (f + 1) i) = l[i].name ++ txt12 (Lib.itoa l[i].size) ++ (if kidsOf l i l.length = [] then ⟨#[]⟩ else ⟨#[40]⟩ ++ inner8 l f i l.length ++ ⟨#[41]⟩)) := by
      show _ = _
      rw [textT_succ, ← hxs]
      have e1 : l[i].name = txt12 (nameB l i) := by
        unfold nameB
        rw [List.getElem?_eq_getElem hi]
        rfl
      rw [e1, txt12_app]
      split
      · rw [List.append_nil]; rw [← txt12_app]; show _ = _ ++ txt12 []; rw [txt12_app, txt12_app, List.append_nil]
      · show _ = _ ++ (txt12 [40] ++ txt12 _ ++ txt12 [41])
        rw [txt12_app, txt12_app, txt12_app]
        simp
    rw [hxs] at hx1 hil
    obtain ⟨hx0, hx9⟩ := hx1
    clear hxs
    have HQ := Lib.hid (fun w => l13Dec_any l[i].size w (by omega) (by omega))
    obtain ⟨y, HY⟩ : ∃ y, Hid (y = txt12 (Lib.itoa l[i].size)) := ⟨_, Lib.hid rfl⟩
    have hys : y.size ≤ 2 := by rw [HY.out, txt12_size]; exact hil
    rw [← HY.out] at HQ HTX
    generalize l[i] = s at *
    have hsz1 : s.name.size + y.size ≤ 9223372036854775807 := by omega
    have hi0 : (0 : Int) ≤ (i : Int) := Int.natCast_nonneg _
    have hi1 : (i : Int) < (l.length : Int) := by omega
    obtain ⟨q1, HQ1⟩ : ∃ q, Hid (q = s.name ++ y) := ⟨_, Lib.hid rfl⟩
    have hq1 : q1.size ≤ 3 := by rw [HQ1.out, ByteArray.size_append]; omega
    rw [← HQ1.out] at HTX
    clear HY
    go_enter Tryd.func55, Tryd.ntmps55
    go_wp2_with fail
    refine wp_region_held_drew (S := (fun w' => w'.cell? ⟨b, o + i * 3, none⟩ = some (.string s.name) ∧ w'.cell? ⟨b, o + i * 3 + 1, none⟩ = some (.int .i64 s.size) ∧ Below w.heap.size w w')) (by kernel_rfl) ?_ (fun hHeld => ?_)
    · exact ⟨c0, c1, (Below.refl _ _).drew⟩
    refine take_at (i := 0) (d := 9) (v := .slice (some ⟨b, o, none⟩) l.length c) rfl rfl (by kernel_rfl) (by kernel_rfl) (by kernel_rfl) (fun _ _ _ h => h) (by kernel_rfl) (by (intro w hSw; (try dsimp only at hSw); go_simp)) (by assumption) ?_
    simp only [List.setIfInBounds_toArray, List.set_cons_succ, List.set_cons_zero]
    refine take_at (i := 1) (d := 10) (v := .int .i64 i) rfl rfl (by kernel_rfl) (by kernel_rfl) (by kernel_rfl) (fun _ _ _ h => h) (by kernel_rfl) (by (intro w hSw; (try dsimp only at hSw); go_simp)) (by assumption) ?_
    simp only [List.setIfInBounds_toArray, List.set_cons_succ, List.set_cons_zero]
    refine take_at (i := 2) (d := 11) (v := .pointer (some ⟨b, o + i * 3, none⟩)) rfl rfl (by kernel_rfl) (by kernel_rfl) (by kernel_rfl) (fun _ _ _ h => h) (by kernel_rfl) (by (intro w hSw; (try dsimp only at hSw); go_simp)) (by assumption) ?_
    simp only [List.setIfInBounds_toArray, List.set_cons_succ, List.set_cons_zero]
    refine take_at (i := 3) (d := 12) (v := .pointer (some ⟨b, o + i * 3, none⟩)) rfl rfl (by kernel_rfl) (by kernel_rfl) (by kernel_rfl) (fun _ _ _ h => h) (by kernel_rfl) (by (intro w hSw; (try dsimp only at hSw); go_simp)) (by assumption) ?_
    simp only [List.setIfInBounds_toArray, List.set_cons_succ, List.set_cons_zero]
    refine take_at (i := 4) (d := 13) (v := .string s.name) rfl rfl (by kernel_rfl) (by kernel_rfl) (by kernel_rfl) (fun _ _ _ h => h) (by kernel_rfl) (by (intro w hSw; (try dsimp only at hSw); go_simp)) (by assumption) ?_
    simp only [List.setIfInBounds_toArray, List.set_cons_succ, List.set_cons_zero]
    refine take_at (i := 5) (d := 14) (v := .slice (some ⟨b, o, none⟩) l.length c) rfl rfl (by kernel_rfl) (by kernel_rfl) (by kernel_rfl) (fun _ _ _ h => h) (by kernel_rfl) (by (intro w hSw; (try dsimp only at hSw); go_simp)) (by assumption) ?_
    simp only [List.setIfInBounds_toArray, List.set_cons_succ, List.set_cons_zero]
    refine take_at (i := 6) (d := 15) (v := .int .i64 i) rfl rfl (by kernel_rfl) (by kernel_rfl) (by kernel_rfl) (fun _ _ _ h => h) (by kernel_rfl) (by (intro w hSw; (try dsimp only at hSw); go_simp)) (by assumption) ?_
    simp only [List.setIfInBounds_toArray, List.set_cons_succ, List.set_cons_zero]
    refine take_at (i := 7) (d := 16) (v := .pointer (some ⟨b, o + i * 3, none⟩)) rfl rfl (by kernel_rfl) (by kernel_rfl) (by kernel_rfl) (fun _ _ _ h => h) (by kernel_rfl) (by (intro w hSw; (try dsimp only at hSw); go_simp)) (by assumption) ?_
    simp only [List.setIfInBounds_toArray, List.set_cons_succ, List.set_cons_zero]
    refine take_at (i := 8) (d := 17) (v := .pointer (some ⟨b, o + i * 3 + 1, none⟩)) rfl rfl (by kernel_rfl) (by kernel_rfl) (by kernel_rfl) (fun _ _ _ h => h) (by kernel_rfl) (by (intro w hSw; (try dsimp only at hSw); go_simp)) (by assumption) ?_
    simp only [List.setIfInBounds_toArray, List.set_cons_succ, List.set_cons_zero]
    refine take_at (i := 9) (d := 18) (v := .int .i64 s.size) rfl rfl (by kernel_rfl) (by kernel_rfl) (by kernel_rfl) (fun _ _ _ h => h) (by kernel_rfl) (by (intro w hSw; (try dsimp only at hSw); go_simp)) (by assumption) ?_
    simp only [List.setIfInBounds_toArray, List.set_cons_succ, List.set_cons_zero]
    refine wpAnyH_ready (rs := [10]) (by kernel_rfl) (by simp) ?_
    refine AllReadyH.cons rfl (fun K hK => ?_) AllReadyH.nil
    go_simp
    refine (HQ.out _).mono ?_
    rintro e w2 ⟨rfl, hb2⟩
    have hs2 : w2.cell? ⟨b, o + i * 3, none⟩ = some (.string s.name) ∧ w2.cell? ⟨b, o + i * 3 + 1, none⟩ = some (.int .i64 s.size) ∧ Below w.heap.size w w2 := ⟨(hb2.cell (p := ⟨b, o + i * 3, none⟩) (Nat.lt_of_lt_of_le hB hHeld.2.2.size)).trans hHeld.1, (hb2.cell (p := ⟨b, o + i * 3 + 1, none⟩) (Nat.lt_of_lt_of_le hB hHeld.2.2.size)).trans hHeld.2.1, hHeld.2.2.trans (hb2.mono hHeld.2.2.size)⟩
    clear hb2 hHeld
    refine hK.out _ _ hs2 (fun hHeld => ?_)
    clear hK K hs2
    refine take_at (i := 11) (d := 20) (v := .string q1) rfl rfl (by kernel_rfl) (by kernel_rfl) (by kernel_rfl) (fun _ _ _ h => h) (by kernel_rfl) ((by (intro W hS; rw [HQ1.out]; go_simp; omega))) (by assumption) ?_
    simp only [List.setIfInBounds_toArray, List.set_cons_succ, List.set_cons_zero]
    refine take_at (i := 12) (d := 5) (v := .string q1) rfl rfl (by kernel_rfl) (by kernel_rfl) (by kernel_rfl) (fun _ _ _ h => h) (by kernel_rfl) (by (intro w hSw; (try dsimp only at hSw); go_simp)) (by assumption) ?_
    simp only [List.setIfInBounds_toArray, List.set_cons_succ, List.set_cons_zero]
    refine wpAnyH_done (by kernel_rfl) ?_ _
    have HB3 := Lib.hid hHeld.2.2
    clear hHeld HQ HQ1 hsz1
    go_wp2
    go_loopw [6, 23] (fun t i' wr => ∃ (k : Nat) (z : ByteArray), k ≤ l.length ∧ i' = .int .i64 k ∧ t = .string z ∧ Hid (z = inner8 l f i k) ∧ Hid (Below w.heap.size w wr))
      (fun _ i' _ => l.length - (intOf i').toNat)
    case atStart => exact ⟨0, _, Nat.zero_le _, rfl, rfl, Lib.hid rfl, HB3⟩
    case round =>
      obtain ⟨k, z, hk, rfl, rfl, HZ, HB⟩ := hrel
      clear HB3
      by_cases hlt : k < l.length
      · obtain ⟨b', o', hbo, hB', hc⟩ := HW.out (by omega)
        cases hbo
        obtain ⟨d0, d1, d2⟩ := hc k l[k] (List.getElem?_eq_getElem hlt)
        clear hc
        rw [← HB.out.cell hB] at d0 d1 d2
        have HP : Hid _ := parAt_of (List.getElem?_eq_getElem hlt)
        have HDk := Lib.hid (HDN.out k hlt)
        by_cases hp : parAt l k = (i : Int)
        · have HQ : Hid _ := inner8_yes (f := f) hp
          rw [← HZ.out] at HQ
          have ht : ((l[k].par : Int) != (i : Int)) = false := by rw [← HP.out, hp]; simp
          have hik : i < k := by have := HDk.out; omega
          have HE := Lib.hid (HEM.out k hk)
          have hzs : z.size ≤ 33554432 := by
            have := HSZ.out k hk
            rw [HZ.out]; omega
          have htl := HTL.out k hlt
          rw [← HZ.out] at HE
          obtain ⟨u, HU⟩ : ∃ u, Hid (u = txt12 (textT l f k)) := ⟨_, Lib.hid rfl⟩
          have hus : u.size ≤ 4194304 := by rw [HU.out, txt12_size]; omega
          have HC := Lib.hid (fun w hw => IH.out k hik hlt w hw)
          rw [← HU.out] at HQ HC
          clear hp HP HDk htl HZ
          generalize l[k] = x at *
          by_cases hkn : kidsOf l i k = []
          · rw [decide_eq_true hkn] at HE
            rw [if_pos hkn] at HQ
            have hz0 : z = ⟨#[]⟩ := (emptyB8 z).1 HE.out
            subst hz0
            clear HE hkn
            go_wp2_with fail
            refine (HC.out _ ((HW.out.below (HB.out.alloc HB.out.size _)).more (HB.out.alloc HB.out.size _).size)).mono ?_
            rintro e w4 ⟨rfl, hb4⟩
            have HB4 := Lib.hid ((HB.out.alloc HB.out.size (.cells #[.string x.name, .int .i64 x.size, .int .i64 x.par] 66)).trans (hb4.mono (HB.out.alloc HB.out.size _).size))
            clear hb4
            go_wp2
            go_roundw
            case rel => exact ⟨k + 1, _, by omega, by go_num, rfl, Lib.hid (by rw [HQ.out]; exact nil_app12 _), HB4⟩
            case measure => simp [intOf]; omega
          · rw [decide_eq_false hkn] at HE
            rw [if_neg hkn] at HQ
            have hne := HE.out
            have hsz : z.size + (⟨#[44]⟩ : ByteArray).size ≤ 9223372036854775807 := by rw [one12]; omega
            have hs44 : (z ++ (⟨#[44]⟩ : ByteArray)).size = z.size + 1 := by rw [ByteArray.size_append, one12]
            have hsz2 : (z ++ (⟨#[44]⟩ : ByteArray)).size + u.size ≤ 9223372036854775807 := by omega
            clear HE hkn
            go_wp2_with fail
            refine (HC.out _ ((HW.out.below (HB.out.alloc HB.out.size _)).more (HB.out.alloc HB.out.size _).size)).mono ?_
            rintro e w4 ⟨rfl, hb4⟩
            have HB4 := Lib.hid ((HB.out.alloc HB.out.size (.cells #[.string x.name, .int .i64 x.size, .int .i64 x.par] 66)).trans (hb4.mono (HB.out.alloc HB.out.size _).size))
            clear hb4
            go_wp2
            go_roundw
            case rel => exact ⟨k + 1, _, by omega, by go_num, rfl, Lib.hid HQ.out.symm, HB4⟩
            case measure => simp [intOf]; omega
        · have HQ : Hid _ := inner8_no (f := f) hp
          have ht : ((l[k].par : Int) != (i : Int)) = true := by rw [← HP.out]; simpa using hp
          have HB4 := Lib.hid (HB.out.alloc HB.out.size (.cells #[.string l[k].name, .int .i64 l[k].size, .int .i64 l[k].par] 66))
          rw [← HZ.out] at HQ
          clear hp HP HDk HZ
          generalize l[k] = x at *
          go_wp2
          go_roundw
          case rel => exact ⟨k + 1, _, by omega, by go_num, rfl, Lib.hid HQ.out.symm, HB4⟩
          case measure => simp [intOf]; omega
      · obtain rfl : k = l.length := by omega
        have HE := Lib.hid (HEM.out l.length (Nat.le_refl _))
        have hzs : z.size ≤ 33554432 := by
          have := HSZ.out l.length (Nat.le_refl _)
          rw [HZ.out]; omega
        rw [← HZ.out] at HE HTX
        by_cases hkn : kidsOf l i l.length = []
        · rw [decide_eq_true hkn] at HE
          rw [if_pos hkn] at HTX
          have hz0 : z = ⟨#[]⟩ := (emptyB8 z).1 HE.out
          subst hz0
          have HF : Hid (q1 = txt12 (textT l (f + 1) i)) := by
            show _ = _
            rw [HTX.out]
            show _ = q1 ++ txt12 []
            apply ByteArray.ext
            simp [txt12]
          clear HE hkn HTX
          go_wp2
          go_ret
          exact ⟨by rw [HF.out]; rfl, HB.out⟩
        · rw [decide_eq_false hkn] at HE
          rw [if_neg hkn] at HTX
          have hne := HE.out
          have hs40 : q1.size + (⟨#[40]⟩ : ByteArray).size ≤ 9223372036854775807 := by rw [one12]; omega
          have hs41 : (q1 ++ (⟨#[40]⟩ : ByteArray)).size + z.size ≤ 9223372036854775807 := by rw [ByteArray.size_append, one12]; omega
          have hs42 : (q1 ++ (⟨#[40]⟩ : ByteArray) ++ z).size + (⟨#[41]⟩ : ByteArray).size ≤ 9223372036854775807 := by rw [ByteArray.size_append, ByteArray.size_append, one12, one12]; omega
          have HF : Hid (q1 ++ ⟨#[40]⟩ ++ z ++ ⟨#[41]⟩ = txt12 (textT l (f + 1) i)) := by
            show _ = _
            rw [HTX.out, ByteArray.append_assoc, ByteArray.append_assoc, ByteArray.append_assoc]
          clear HE hkn HTX
          go_wp2
          go_ret
          exact ⟨by rw [HF.out]; rfl, HB.out⟩

end Go.Proofs.YtdbddockmdkmeaaDoor
