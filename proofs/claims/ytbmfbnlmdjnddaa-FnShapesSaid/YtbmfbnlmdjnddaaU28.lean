/- Joined: Ii Il. -/
import Derived.Test.YtbmfbnlmdjnddaaU19
import Derived.Test.YtbmfbnlmdjnddaaU24
import Derived.Test.YtbmfbnlmdjnddaaU27
import Derived.Test.YtbmfbnlmdjnddaaU02
import Derived.Test.YtbmfbnlmdjnddaaU05
/- Draws of chapter 7: pairs of a valid tree. -/
namespace Go.Proofs.Ytbmfbnlmdjnddaa
open Go.RowKit

def PairsDrawn (b P : Nat) (w : World) (n q : Nat) (e : Ending) (w' : World) : Prop :=
  ∃ (v : Value) (L : List Txt), e = .returned v ∧ SolidTexts w' w.heap.size v (L.map strOf) ∧ L.length ≤ n ∧ (∀ x ∈ L, x.length = 2) ∧ Only w w' (· = b) ∧ Rd w' b (P + q)

set_option maxRecDepth 100000 in
set_option maxHeartbeats 4000000 in
theorem l7Good_any (b P : Nat) (A : Option Addr) (l : List Seg) (c : Nat) (w : World) (hr : Rd w b P) (hP : P ≤ 1000) (hw : Segs w w.heap.size A l) (hA : ∀ g o, A = some ⟨g, o, none⟩ → b < g) (hv : validB l = true) :
    Calls Try.prog 84 #[.pointer (some ⟨b, 0, none⟩), .slice A l.length c] w (PairsDrawn b P w 9 40) := by
  have HW : Hid (Segs w w.heap.size A l) := hw
  have HA := Lib.hid hA
  have HV := Lib.hid hv
  have h8 := (valid_all hv).2.1
  have h1 := (valid_all hv).2.2
  have HR := fun o o2 => Lib.hid ((hr.alloc o).alloc o2)
  have HN := Lib.hid (nums_new (w.alloc (.cells #[] 9)) b 3 [4, 5, 3, 7, 2, 0, 9] (by have := hr.lt; simp; omega))
  have HS0 : Hid (SolidTexts (w.alloc (.cells #[] 9)) w.heap.size (.slice (some ⟨w.heap.size, 0, none⟩) 0 0) []) := ⟨OwnTexts.empty w (Nat.le_refl _), fun h => by cases h⟩
  have hbl := hr.lt
  clear hw hv hr hA
  unfold PairsDrawn
  go_enter Try.func84, Try.ntmps84
  go_wp2_with fail
  refine (num_any b P (w.heap.size + 1) 0 7 7 (· ∈ [4, 5, 3, 7, 2, 0, 9]) _ (HR _ _).out (by omega) (by omega) (by omega) (by have := HN.out; simpa using this)).mono ?_
  rintro e w1 ⟨n, rfl, hn, ho, hr1⟩
  have HO1 : Hid (Only w w1 (· = b)) := ho.fresh.fresh
  have HR1 := Lib.hid hr1
  have HS1 : Hid (SolidTexts w1 w.heap.size (.slice (some ⟨w.heap.size, 0, none⟩) 0 0) []) := ⟨HS0.out.1.far (fun g hg => by
    injection hg with hg
    rw [← hg]
    show w1.heap[w.heap.size]? = _
    exact (ho.block w.heap.size (by simp; omega) (by omega)).trans (Below.heap_alloc _ _ _ (by simp))), HS0.out.2⟩
  obtain ⟨m, rfl, hm⟩ : ∃ m : Nat, n = (m : Int) ∧ m ≤ 9 := by
    have h9 : ∀ x ∈ ([4, 5, 3, 7, 2, 0, 9] : List Int), 0 ≤ x ∧ x ≤ 9 := by decide
    obtain ⟨k, hk⟩ := Int.eq_ofNat_of_zero_le (h9 n hn).1
    exact ⟨k, hk, by have := (h9 n hn).2; omega⟩
  clear ho hr1 hn HS0 HN HR
  obtain ⟨b9, o, rfl, hB, hc⟩ := HW.out (by omega)
  have hb9 : b ≠ b9 := by have := HA.out b9 o rfl; omega
  have HCELL : Hid (∀ W i, Only w W (· = b) → (hi : i < l.length) → W.cell? ⟨b9, o + i * 3, none⟩ = some (.string ⟨#[byteOf l i]⟩)) := fun W i hoW hi => by
    have h0 : W.heap[b9]? = w.heap[b9]? := hoW.block b9 hB (fun e => hb9 e.symm)
    have h1 : W.cell? ⟨b9, o + i * 3, none⟩ = w.cell? ⟨b9, o + i * 3, none⟩ := by simp only [World.cell?, h0]
    have h2 := (hc i l[i] (List.getElem?_eq_getElem hi)).1
    rw [h1, h2, (nmAt_one HV.out hi).2]
  clear hc hB
  go_wp2
  go_loopw [5, 13] (fun ov iv wr => ∃ (k : Nat) (vo : Value) (L : List Txt), k ≤ m ∧ iv = .int .i64 k ∧ vo = ov ∧ Hid (SolidTexts wr w.heap.size vo (L.map strOf)) ∧ L.length ≤ k ∧ Hid (∀ x ∈ L, x.length = 2) ∧ Hid (Only w wr (· = b)) ∧ Hid (Rd wr b (P + 1 + 4 * k)))
    (fun _ iv _ => m - (intOf iv).toNat)
  case atStart => exact ⟨0, _, [], Nat.zero_le _, rfl, rfl, HS1, Nat.zero_le _, (fun x hx => absurd hx (by simp)), HO1, HR1⟩
  case round =>
    obtain ⟨k, vo, L, hk, rfl, rfl, HS, hL, H2, HO, HRD⟩ := hrel
    clear HS1 HO1 HR1
    have hk0 : (0 : Int) ≤ (k : Int) := Int.natCast_nonneg _
    by_cases hlt : k < m
    · have hlt' : (k : Int) < (m : Int) := by omega
      go_wp2_with fail
      refine (draw_any b (P + 1 + 4 * k) l.length wr HRD.out (by omega) (by omega) (by omega)).mono ?_
      rintro e w2 ⟨i0, rfl, ⟨hi0, hi1⟩, ho2, hr2⟩
      obtain ⟨i, rfl⟩ := Int.eq_ofNat_of_zero_le hi0
      have hi : i < l.length := by have := hi1 (by omega); omega
      have HR2 := Lib.hid hr2
      have HO2 : Hid (Only w w2 (· = b)) := HO.out.trans ho2
      have HS2 : Hid (SolidTexts w2 w.heap.size vo (L.map strOf)) := ⟨HS.out.1.far (fun g hg => ho2.block g (World.ownsRow.lt HS.out.1 g hg).2 (by have := (World.ownsRow.lt HS.out.1 g hg).1; omega)), HS.out.2⟩
      clear hr2 ho2 hi1 HO HS HRD
      go_wp2_with fail
      refine (draw_any b (P + 1 + 4 * k + 1) l.length w2 HR2.out (by omega) (by omega) (by omega)).mono ?_
      rintro e w3 ⟨j0, rfl, ⟨hj0, hj1⟩, ho3, hr3⟩
      obtain ⟨j, rfl⟩ := Int.eq_ofNat_of_zero_le hj0
      have hj : j < l.length := by have := hj1 (by omega); omega
      have HR3 := Lib.hid hr3
      have HO3 : Hid (Only w w3 (· = b)) := HO2.out.trans ho3
      have HS3 : Hid (SolidTexts w3 w.heap.size vo (L.map strOf)) := ⟨HS2.out.1.far (fun g hg => ho3.block g (World.ownsRow.lt HS2.out.1 g hg).2 (by have := (World.ownsRow.lt HS2.out.1 g hg).1; omega)), HS2.out.2⟩
      clear hr3 ho3 hj1 HO2 HS2 HR2
      go_wp2_with fail
      refine (draw_any b (P + 1 + 4 * k + 2) 3 w3 HR3.out (by omega) (by omega) (by omega)).mono ?_
      rintro e w4 ⟨x, rfl, ⟨hx0, -⟩, ho4, hr4⟩
      have HR4 := Lib.hid hr4
      have HO4 : Hid (Only w w4 (· = b)) := HO3.out.trans ho4
      have HS4 : Hid (SolidTexts w4 w.heap.size vo (L.map strOf)) := ⟨HS3.out.1.far (fun g hg => ho4.block g (World.ownsRow.lt HS3.out.1 g hg).2 (by have := (World.ownsRow.lt HS3.out.1 g hg).1; omega)), HS3.out.2⟩
      clear hr4 ho4 HO3 HS3 HR3
      by_cases hx : 0 < x
      · by_cases hji : j < i
        · have hji' : (j : Int) < (i : Int) := by omega
          have he' : ¬ (j : Int) = (i : Int) := by omega
          have he2 : ((j : Int) == (i : Int)) = false := beq_eq_false_iff_ne.2 he'
          have ca := HCELL.out w4 j HO4.out hj
          have cb := HCELL.out w4 i HO4.out hi
          have HPT := Lib.hid (l4Put_any w.heap.size vo L [byteOf l j, byteOf l i] w4.drew ⟨HS4.out.1.far (fun _ _ => rfl), HS4.out.2⟩ HO4.out.size (by omega))
          unfold PutPost at HPT
          have HC : Hid ((⟨#[byteOf l j]⟩ : ByteArray) ++ ⟨#[byteOf l i]⟩ = strOf [byteOf l j, byteOf l i]) := rfl
          have HPL := Lib.hid (putAll_len [[byteOf l j, byteOf l i]] L)
          have HPM := Lib.hid (fun y => putAll_mem [[byteOf l j, byteOf l i]] L y)
          have hza : (⟨#[byteOf l j]⟩ : ByteArray).size = 1 := rfl
          have hzb : (⟨#[byteOf l i]⟩ : ByteArray).size = 1 := rfl
          have hia : ((j : Nat) : Int) < (l.length : Int) := by omega
          have hib : ((i : Nat) : Int) < (l.length : Int) := by omega
          generalize (⟨#[byteOf l j]⟩ : ByteArray) = sa at *
          generalize (⟨#[byteOf l i]⟩ : ByteArray) = sb at *
          go_wp2_with fail
          go_still_tail 12, (by kernel_rfl)
          change wpList _ _ _ _ _ w4.drew
          go_wp2_with fail
          rw [HC.out]
          refine Calls.mono HPT.out ?_
          rintro e w6 ⟨v6, rfl, hs6, hb6⟩
          have HS6 := Lib.hid hs6
          have HO6 : Hid (Only w w6 (· = b)) := HO4.out.drew'.andBelow hb6
          have HR6 : Hid (Rd w6 b (P + 1 + 4 * (k + 1))) := ((HR4.out.below ((Below.refl _ _).drew)).below hb6).weak (by omega)
          have H26 : Hid (∀ y ∈ putB L [byteOf l j, byteOf l i], y.length = 2) := fun y hy => by
            rcases (HPM.out y).1 hy with h | h
            · exact H2.out y h
            · rw [List.mem_singleton.1 h]; rfl
          have hl6 : (putB L [byteOf l j, byteOf l i]).length ≤ k + 1 := Nat.le_trans HPL.out (by simp; omega)
          clear hs6 hb6 HPT HPL HPM
          go_wp2
          go_roundw
          case rel => exact ⟨k + 1, v6, _, by omega, by go_num, rfl, HS6, hl6, H26, HO6, HR6⟩
          case measure => simp [intOf]; omega
        · have hji' : ¬ (j : Int) < (i : Int) := by omega
          by_cases he : i = j
          · subst he
            go_wp2_with fail
            refine (draw_any b (P + 1 + 4 * k + 3) 6 w4 HR4.out (by omega) (by omega) (by omega)).mono ?_
            rintro e w5 ⟨y, rfl, ⟨hy0, -⟩, ho5, hr5⟩
            have HR5 := Lib.hid hr5
            have HO5 : Hid (Only w w5 (· = b)) := HO4.out.trans ho5
            have HS5 : Hid (SolidTexts w5 w.heap.size vo (L.map strOf)) := ⟨HS4.out.1.far (fun g hg => ho5.block g (World.ownsRow.lt HS4.out.1 g hg).2 (by have := (World.ownsRow.lt HS4.out.1 g hg).1; omega)), HS4.out.2⟩
            clear hr5 ho5 HO4 HS4 HR4
            by_cases hy : y = 0
            · subst hy
              have ca := HCELL.out w5 i HO5.out hi
              have cb := HCELL.out w5 i HO5.out hi
              have HPT := Lib.hid (l4Put_any w.heap.size vo L [byteOf l i, byteOf l i] w5.drew ⟨HS5.out.1.far (fun _ _ => rfl), HS5.out.2⟩ HO5.out.size (by omega))
              unfold PutPost at HPT
              have HC : Hid ((⟨#[byteOf l i]⟩ : ByteArray) ++ ⟨#[byteOf l i]⟩ = strOf [byteOf l i, byteOf l i]) := rfl
              have HPL := Lib.hid (putAll_len [[byteOf l i, byteOf l i]] L)
              have HPM := Lib.hid (fun y => putAll_mem [[byteOf l i, byteOf l i]] L y)
              have hza : (⟨#[byteOf l i]⟩ : ByteArray).size = 1 := rfl
              have hzb : (⟨#[byteOf l i]⟩ : ByteArray).size = 1 := rfl
              have hia : ((i : Nat) : Int) < (l.length : Int) := by omega
              have hib : ((i : Nat) : Int) < (l.length : Int) := by omega
              generalize (⟨#[byteOf l i]⟩ : ByteArray) = sa at *
              go_wp2_with fail
              go_still_tail 12, (by kernel_rfl)
              change wpList _ _ _ _ _ w5.drew
              go_wp2_with fail
              rw [HC.out]
              refine Calls.mono HPT.out ?_
              rintro e w6 ⟨v6, rfl, hs6, hb6⟩
              have HS6 := Lib.hid hs6
              have HO6 : Hid (Only w w6 (· = b)) := HO5.out.drew'.andBelow hb6
              have HR6 : Hid (Rd w6 b (P + 1 + 4 * (k + 1))) := ((HR5.out.below ((Below.refl _ _).drew)).below hb6).weak (by omega)
              have H26 : Hid (∀ y ∈ putB L [byteOf l i, byteOf l i], y.length = 2) := fun y hy => by
                rcases (HPM.out y).1 hy with h | h
                · exact H2.out y h
                · rw [List.mem_singleton.1 h]; rfl
              have hl6 : (putB L [byteOf l i, byteOf l i]).length ≤ k + 1 := Nat.le_trans HPL.out (by simp; omega)
              clear hs6 hb6 HPT HPL HPM
              go_wp2
              go_roundw
              case rel => exact ⟨k + 1, v6, _, by omega, by go_num, rfl, HS6, hl6, H26, HO6, HR6⟩
              case measure => simp [intOf]; omega
            · have hy' : (y == 0) = false := beq_eq_false_iff_ne.2 hy
              have HR6 : Hid (Rd w5 b (P + 1 + 4 * (k + 1))) := HR5.out.weak (by omega)
              go_wp2
              go_roundw
              case rel => exact ⟨k + 1, vo, L, by omega, by go_num, rfl, HS5, by omega, H2, HO5, HR6⟩
              case measure => simp [intOf]; omega
          · have he' : ¬ (i : Int) = (j : Int) := by omega
            have he2 : ((i : Int) == (j : Int)) = false := beq_eq_false_iff_ne.2 he'
            have ca := HCELL.out w4 i HO4.out hi
            have cb := HCELL.out w4 j HO4.out hj
            have HPT := Lib.hid (l4Put_any w.heap.size vo L [byteOf l i, byteOf l j] w4.drew ⟨HS4.out.1.far (fun _ _ => rfl), HS4.out.2⟩ HO4.out.size (by omega))
            unfold PutPost at HPT
            have HC : Hid ((⟨#[byteOf l i]⟩ : ByteArray) ++ ⟨#[byteOf l j]⟩ = strOf [byteOf l i, byteOf l j]) := rfl
            have HPL := Lib.hid (putAll_len [[byteOf l i, byteOf l j]] L)
            have HPM := Lib.hid (fun y => putAll_mem [[byteOf l i, byteOf l j]] L y)
            have hza : (⟨#[byteOf l i]⟩ : ByteArray).size = 1 := rfl
            have hzb : (⟨#[byteOf l j]⟩ : ByteArray).size = 1 := rfl
            have hia : ((i : Nat) : Int) < (l.length : Int) := by omega
            have hib : ((j : Nat) : Int) < (l.length : Int) := by omega
            generalize (⟨#[byteOf l i]⟩ : ByteArray) = sa at *
            generalize (⟨#[byteOf l j]⟩ : ByteArray) = sb at *
            go_wp2_with fail
            go_still_tail 12, (by kernel_rfl)
            change wpList _ _ _ _ _ w4.drew
            go_wp2_with fail
            rw [HC.out]
            refine Calls.mono HPT.out ?_
            rintro e w6 ⟨v6, rfl, hs6, hb6⟩
            have HS6 := Lib.hid hs6
            have HO6 : Hid (Only w w6 (· = b)) := HO4.out.drew'.andBelow hb6
            have HR6 : Hid (Rd w6 b (P + 1 + 4 * (k + 1))) := ((HR4.out.below ((Below.refl _ _).drew)).below hb6).weak (by omega)
            have H26 : Hid (∀ y ∈ putB L [byteOf l i, byteOf l j], y.length = 2) := fun y hy => by
              rcases (HPM.out y).1 hy with h | h
              · exact H2.out y h
              · rw [List.mem_singleton.1 h]; rfl
            have hl6 : (putB L [byteOf l i, byteOf l j]).length ≤ k + 1 := Nat.le_trans HPL.out (by simp; omega)
            clear hs6 hb6 HPT HPL HPM
            go_wp2
            go_roundw
            case rel => exact ⟨k + 1, v6, _, by omega, by go_num, rfl, HS6, hl6, H26, HO6, HR6⟩
            case measure => simp [intOf]; omega
      · by_cases he : i = j
        · subst he
          go_wp2_with fail
          refine (draw_any b (P + 1 + 4 * k + 3) 6 w4 HR4.out (by omega) (by omega) (by omega)).mono ?_
          rintro e w5 ⟨y, rfl, ⟨hy0, -⟩, ho5, hr5⟩
          have HR5 := Lib.hid hr5
          have HO5 : Hid (Only w w5 (· = b)) := HO4.out.trans ho5
          have HS5 : Hid (SolidTexts w5 w.heap.size vo (L.map strOf)) := ⟨HS4.out.1.far (fun g hg => ho5.block g (World.ownsRow.lt HS4.out.1 g hg).2 (by have := (World.ownsRow.lt HS4.out.1 g hg).1; omega)), HS4.out.2⟩
          clear hr5 ho5 HO4 HS4 HR4
          by_cases hy : y = 0
          · subst hy
            have ca := HCELL.out w5 i HO5.out hi
            have cb := HCELL.out w5 i HO5.out hi
            have HPT := Lib.hid (l4Put_any w.heap.size vo L [byteOf l i, byteOf l i] w5.drew ⟨HS5.out.1.far (fun _ _ => rfl), HS5.out.2⟩ HO5.out.size (by omega))
            unfold PutPost at HPT
            have HC : Hid ((⟨#[byteOf l i]⟩ : ByteArray) ++ ⟨#[byteOf l i]⟩ = strOf [byteOf l i, byteOf l i]) := rfl
            have HPL := Lib.hid (putAll_len [[byteOf l i, byteOf l i]] L)
            have HPM := Lib.hid (fun y => putAll_mem [[byteOf l i, byteOf l i]] L y)
            have hza : (⟨#[byteOf l i]⟩ : ByteArray).size = 1 := rfl
            have hzb : (⟨#[byteOf l i]⟩ : ByteArray).size = 1 := rfl
            have hia : ((i : Nat) : Int) < (l.length : Int) := by omega
            have hib : ((i : Nat) : Int) < (l.length : Int) := by omega
            generalize (⟨#[byteOf l i]⟩ : ByteArray) = sa at *
            go_wp2_with fail
            go_still_tail 12, (by kernel_rfl)
            change wpList _ _ _ _ _ w5.drew
            go_wp2_with fail
            rw [HC.out]
            refine Calls.mono HPT.out ?_
            rintro e w6 ⟨v6, rfl, hs6, hb6⟩
            have HS6 := Lib.hid hs6
            have HO6 : Hid (Only w w6 (· = b)) := HO5.out.drew'.andBelow hb6
            have HR6 : Hid (Rd w6 b (P + 1 + 4 * (k + 1))) := ((HR5.out.below ((Below.refl _ _).drew)).below hb6).weak (by omega)
            have H26 : Hid (∀ y ∈ putB L [byteOf l i, byteOf l i], y.length = 2) := fun y hy => by
              rcases (HPM.out y).1 hy with h | h
              · exact H2.out y h
              · rw [List.mem_singleton.1 h]; rfl
            have hl6 : (putB L [byteOf l i, byteOf l i]).length ≤ k + 1 := Nat.le_trans HPL.out (by simp; omega)
            clear hs6 hb6 HPT HPL HPM
            go_wp2
            go_roundw
            case rel => exact ⟨k + 1, v6, _, by omega, by go_num, rfl, HS6, hl6, H26, HO6, HR6⟩
            case measure => simp [intOf]; omega
          · have hy' : (y == 0) = false := beq_eq_false_iff_ne.2 hy
            have HR6 : Hid (Rd w5 b (P + 1 + 4 * (k + 1))) := HR5.out.weak (by omega)
            go_wp2
            go_roundw
            case rel => exact ⟨k + 1, vo, L, by omega, by go_num, rfl, HS5, by omega, H2, HO5, HR6⟩
            case measure => simp [intOf]; omega
        · have he' : ¬ (i : Int) = (j : Int) := by omega
          have he2 : ((i : Int) == (j : Int)) = false := beq_eq_false_iff_ne.2 he'
          have ca := HCELL.out w4 i HO4.out hi
          have cb := HCELL.out w4 j HO4.out hj
          have HPT := Lib.hid (l4Put_any w.heap.size vo L [byteOf l i, byteOf l j] w4.drew ⟨HS4.out.1.far (fun _ _ => rfl), HS4.out.2⟩ HO4.out.size (by omega))
          unfold PutPost at HPT
          have HC : Hid ((⟨#[byteOf l i]⟩ : ByteArray) ++ ⟨#[byteOf l j]⟩ = strOf [byteOf l i, byteOf l j]) := rfl
          have HPL := Lib.hid (putAll_len [[byteOf l i, byteOf l j]] L)
          have HPM := Lib.hid (fun y => putAll_mem [[byteOf l i, byteOf l j]] L y)
          have hza : (⟨#[byteOf l i]⟩ : ByteArray).size = 1 := rfl
          have hzb : (⟨#[byteOf l j]⟩ : ByteArray).size = 1 := rfl
          have hia : ((i : Nat) : Int) < (l.length : Int) := by omega
          have hib : ((j : Nat) : Int) < (l.length : Int) := by omega
          generalize (⟨#[byteOf l i]⟩ : ByteArray) = sa at *
          generalize (⟨#[byteOf l j]⟩ : ByteArray) = sb at *
          go_wp2_with fail
          go_still_tail 12, (by kernel_rfl)
          change wpList _ _ _ _ _ w4.drew
          go_wp2_with fail
          rw [HC.out]
          refine Calls.mono HPT.out ?_
          rintro e w6 ⟨v6, rfl, hs6, hb6⟩
          have HS6 := Lib.hid hs6
          have HO6 : Hid (Only w w6 (· = b)) := HO4.out.drew'.andBelow hb6
          have HR6 : Hid (Rd w6 b (P + 1 + 4 * (k + 1))) := ((HR4.out.below ((Below.refl _ _).drew)).below hb6).weak (by omega)
          have H26 : Hid (∀ y ∈ putB L [byteOf l i, byteOf l j], y.length = 2) := fun y hy => by
            rcases (HPM.out y).1 hy with h | h
            · exact H2.out y h
            · rw [List.mem_singleton.1 h]; rfl
          have hl6 : (putB L [byteOf l i, byteOf l j]).length ≤ k + 1 := Nat.le_trans HPL.out (by simp; omega)
          clear hs6 hb6 HPT HPL HPM
          go_wp2
          go_roundw
          case rel => exact ⟨k + 1, v6, _, by omega, by go_num, rfl, HS6, hl6, H26, HO6, HR6⟩
          case measure => simp [intOf]; omega
    · obtain rfl : k = m := by omega
      have HR9 : Hid (Rd wr b (P + 40)) := HRD.out.weak (by omega)
      go_wp2
      go_ret
      exact ⟨vo, L, rfl, HS.out, by omega, H2.out, HO.out, HR9.out⟩

end Go.Proofs.Ytbmfbnlmdjnddaa
/- Draws of chapter 7: pairs that go down. -/
namespace Go.Proofs.Ytbmfbnlmdjnddaa
open Go.RowKit

set_option maxRecDepth 100000 in
set_option maxHeartbeats 4000000 in
theorem l7Down_any (b P : Nat) (A : Option Addr) (l : List Seg) (c : Nat) (w : World) (hr : Rd w b P) (hP : P ≤ 1000) (hw : Segs w w.heap.size A l) (hA : ∀ g o, A = some ⟨g, o, none⟩ → b < g) (hv : validB l = true) :
    Calls Try.prog 85 #[.pointer (some ⟨b, 0, none⟩), .slice A l.length c] w (PairsDrawn b P w 9 40) := by
  have HW : Hid (Segs w w.heap.size A l) := hw
  have HA := Lib.hid hA
  have HV := Lib.hid hv
  have h8 := (valid_all hv).2.1
  have h1 := (valid_all hv).2.2
  have HDN : Hid (Down l l.length) := (valid_all hv).1.down
  have HRD0 := Lib.hid (hr.alloc (.cells #[] 9))
  have HS0 : Hid (SolidTexts (w.alloc (.cells #[] 9)) w.heap.size (.slice (some ⟨w.heap.size, 0, none⟩) 0 0) []) := ⟨OwnTexts.empty w (Nat.le_refl _), fun h => by cases h⟩
  have HO0 : Hid (Only w (w.alloc (.cells #[] 9)) (· = b)) := (Only.refl w _).andBelow ((Below.refl _ w).alloc (Nat.le_refl _) _)
  have hbl := hr.lt
  clear hw hv hr hA
  unfold PairsDrawn
  obtain ⟨b9, o, rfl, hB, hc⟩ := HW.out (by omega)
  have hb9 : b ≠ b9 := by have := HA.out b9 o rfl; omega
  have HCELL : Hid (∀ W i, Only w W (· = b) → (hi : i < l.length) → W.cell? ⟨b9, o + i * 3, none⟩ = some (.string ⟨#[byteOf l i]⟩) ∧ W.cell? ⟨b9, o + i * 3 + 1, none⟩ = some (.int .i64 l[i].size) ∧ W.cell? ⟨b9, o + i * 3 + 2, none⟩ = some (.int .i64 (parAt l i))) := fun W i hoW hi => by
    have h0 : W.heap[b9]? = w.heap[b9]? := hoW.block b9 hB (fun e => hb9 e.symm)
    have h3 : ∀ q, W.cell? ⟨b9, q, none⟩ = w.cell? ⟨b9, q, none⟩ := fun q => by simp only [World.cell?, h0]
    obtain ⟨e1, e2, e3⟩ := hc i l[i] (List.getElem?_eq_getElem hi)
    have h5 : parAt l i = l[i].par := by unfold parAt; rw [List.getElem?_eq_getElem hi]
    rw [h3, h3, h3, e1, e2, e3, (nmAt_one HV.out hi).2, h5]
    exact ⟨rfl, rfl, rfl⟩
  clear hc hB
  go_enter Try.func85, Try.ntmps85
  go_wp2
  go_loopw [5, 12] (fun ov iv wr => ∃ (k : Nat) (vo : Value) (L : List Txt), k ≤ l.length ∧ iv = .int .i64 k ∧ vo = ov ∧ Hid (SolidTexts wr w.heap.size vo (L.map strOf)) ∧ L.length ≤ k ∧ Hid (∀ x ∈ L, x.length = 2) ∧ Hid (Only w wr (· = b)) ∧ Hid (Rd wr b (P + 2 * k)))
    (fun _ iv _ => l.length - (intOf iv).toNat)
  case atStart => exact ⟨0, _, [], Nat.zero_le _, rfl, rfl, HS0, Nat.zero_le _, (fun x hx => absurd hx (by simp)), HO0, HRD0⟩
  case round =>
    obtain ⟨k, vo, L, hk, rfl, rfl, HS, hL, H2, HO, HRD⟩ := hrel
    clear HS0 HO0 HRD0
    have hk0 : (0 : Int) ≤ (k : Int) := Int.natCast_nonneg _
    by_cases hlt : k < l.length
    · have hlt' : (k : Int) < (l.length : Int) := by omega
      obtain ⟨e1, e2, e3⟩ := HCELL.out wr k HO.out hlt
      have hwl := HO.out.size
      have HOa : Hid (Only w (wr.alloc (.cells #[.string ⟨#[byteOf l k]⟩, .int .i64 l[k].size, .int .i64 (parAt l k)] 69)) (· = b)) := HO.out.andBelow ((Below.refl _ wr).alloc (Nat.le_refl _) _)
      have HRa := Lib.hid (HRD.out.alloc (.cells #[.string ⟨#[byteOf l k]⟩, .int .i64 l[k].size, .int .i64 (parAt l k)] 69))
      have HSa : Hid (SolidTexts (wr.alloc (.cells #[.string ⟨#[byteOf l k]⟩, .int .i64 l[k].size, .int .i64 (parAt l k)] 69)) w.heap.size vo (L.map strOf)) := ⟨HS.out.1.below ((Below.refl _ wr).alloc (Nat.le_refl _) _), HS.out.2⟩
      have HNEW : Hid (∀ W, Only (wr.alloc (.cells #[.string ⟨#[byteOf l k]⟩, .int .i64 l[k].size, .int .i64 (parAt l k)] 69)) W (· = b) → W.cell? ⟨wr.heap.size, 0, none⟩ = some (.string ⟨#[byteOf l k]⟩) ∧ W.cell? ⟨wr.heap.size, 2, none⟩ = some (.int .i64 (parAt l k))) := fun W ho => by
        have h0 : W.heap[wr.heap.size]? = (wr.alloc (.cells #[.string ⟨#[byteOf l k]⟩, .int .i64 l[k].size, .int .i64 (parAt l k)] 69)).heap[wr.heap.size]? := ho.block _ (by simp) (by omega)
        have hc0 := fun i => (Row.new wr 69 #[.string ⟨#[byteOf l k]⟩, .int .i64 l[k].size, .int .i64 (parAt l k)]).cell i
        have h3 : ∀ q, W.cell? ⟨wr.heap.size, q, none⟩ = (wr.alloc (.cells #[.string ⟨#[byteOf l k]⟩, .int .i64 l[k].size, .int .i64 (parAt l k)] 69)).cell? ⟨wr.heap.size, q, none⟩ := fun q => by simp only [World.cell?, h0]
        rw [h3, h3, hc0, hc0]
        exact ⟨rfl, rfl⟩
      clear HS HO HRD
      by_cases hk1 : 0 < k
      · have hk1' : (0 : Int) < (k : Int) := by omega
        obtain ⟨j, hj⟩ := Int.eq_ofNat_of_zero_le (par_nonneg (valid_all HV.out).1 hlt hk1)
        have hjk : j < k := by have := HDN.out k hlt; omega
        rw [hj] at e3 HOa HRa HSa HNEW
        have hjl : j < l.length := by omega
        have HPA : Hid (pathOf l j = (rp l j).map fun q : Nat => (q : Int)) := rootPath_chain HDN.out (j + 1) j hjl (by omega)
        have HLT : Hid (∀ q ∈ rp l j, q < l.length) := rootPath_lt HDN.out (j + 1) j hjl
        have HRL : Hid ((rp l j).length ≤ j + 1) := rootPath_len l (j + 1) j
        generalize l[k].size = sz at *
        generalize hwa : wr.alloc (.cells #[.string ⟨#[byteOf l k]⟩, .int .i64 sz, .int .i64 (j : Int)] 69) = wa at *
        go_wp2_with fail
        refine (draw_any b (P + 2 * k) 5 wa HRa.out (by omega) (by omega) (by omega)).mono ?_
        rintro e w3 ⟨x, rfl, ⟨hx0, -⟩, ho3, hr3⟩
        have HO3 : Hid (Only w w3 (· = b)) := HOa.out.trans ho3
        have HR3 := Lib.hid hr3
        have HOA3 := Lib.hid ho3
        have HS3 : Hid (SolidTexts w3 w.heap.size vo (L.map strOf)) := ⟨HSa.out.1.far (fun g hg => ho3.block g (World.ownsRow.lt HSa.out.1 g hg).2 (by have := (World.ownsRow.lt HSa.out.1 g hg).1; omega)), HSa.out.2⟩
        have cn2 := (HNEW.out w3 ho3).2
        clear hr3 ho3 HRa HOa HSa
        by_cases hx : 0 < x
        · have HSG : Hid (Segs w3 w3.heap.size (some ⟨b9, o, none⟩) l) := HW.out.farO HO3.out HA.out
          have HLP := Lib.hid (l1Path_any (some ⟨b9, o, none⟩) l c j w3 HSG.out (by omega) hjl (fun q hq => HDN.out q (by omega)))
          rw [HPA.out] at HLP
          unfold IntsPost at HLP
          rw [List.length_map] at HLP
          have hrpos : 0 < (rp l j).length := by unfold rp rootPath; rw [List.length_append]; simp
          go_wp2_with fail
          refine Calls.mono HLP.out ?_
          rintro e w4 ⟨g, cap, rfl, hown, hb4⟩
          have hgl := World.ownsRow.lt hown g rfl
          have HO4 : Hid (Only w w4 (· = b)) := HO3.out.andBelow hb4
          have HOA4 : Hid (Only wa w4 (· = b)) := HOA3.out.andBelow hb4
          have HR4 : Hid (Rd w4.drew b (P + 2 * k + 1)) := (HR3.out.below hb4).below ((Below.refl _ _).drew)
          have HS4 : Hid (SolidTexts w4 w.heap.size vo (L.map strOf)) := ⟨HS3.out.1.below hb4, HS3.out.2⟩
          have hbg : b ≠ g := by have := HO3.out.size; omega
          have HAF : Hid (∀ (W : World) (v : Int), Only w4.drew W (· = b) → 0 ≤ v → (0 < ((rp l j).length : Int) → v < ((rp l j).length : Int)) → ∃ q r : Nat, v = (q : Int) ∧ ((0 : Int) ≤ (q : Int) ∧ (q : Int) < ((rp l j).length : Int)) ∧ ((0 : Int) ≤ (r : Int) ∧ (r : Int) < (l.length : Int)) ∧ W.cell? ⟨g, q, none⟩ = some (.int .i64 (r : Int)) ∧ W.cell? ⟨b9, o + r * 3, none⟩ = some (.string ⟨#[byteOf l r]⟩) ∧ W.cell? ⟨wr.heap.size, 0, none⟩ = some (.string ⟨#[byteOf l k]⟩)) := fun W v ho h0 hv => by
            obtain ⟨q, rfl⟩ := Int.eq_ofNat_of_zero_le h0
            have hq : q < (rp l j).length := by have := hv (by omega); omega
            have h1 : w4.cell? ⟨g, q, none⟩ = some (.int .i64 (((rp l j)[q] : Nat) : Int)) := by
              have h2 := hown.cellAt q (by omega)
              rw [h2, List.getElem?_map, List.getElem?_map, List.getElem?_eq_getElem hq]
              rfl
            have h3 : W.heap[g]? = w4.heap[g]? := ho.block g hgl.2 (fun e => hbg e.symm)
            have h4 : W.cell? ⟨g, q, none⟩ = w4.cell? ⟨g, q, none⟩ := by simp only [World.cell?, h3]
            have hr := HLT.out (rp l j)[q] (List.getElem_mem hq)
            exact ⟨q, (rp l j)[q], rfl, ⟨by omega, by omega⟩, ⟨by omega, by omega⟩, h4.trans h1, (HCELL.out W _ (HO4.out.drew'.trans ho) hr).1, (HNEW.out W (HOA4.out.drew'.trans ho)).1⟩
          have cn4 := (HNEW.out w4 HOA4.out).1
          have HPTS := Lib.hid (fun W r h hz => l4Put_any w.heap.size vo L [byteOf l r, byteOf l k] W h hz (by omega))
          unfold PutPost at HPTS
          have HCC : Hid (∀ r, (⟨#[byteOf l r]⟩ : ByteArray) ++ ⟨#[byteOf l k]⟩ = strOf [byteOf l r, byteOf l k]) := fun r => rfl
          have hz1 : ∀ u : UInt8, (⟨#[u]⟩ : ByteArray).size = 1 := fun u => rfl
          clear hown hb4 hgl HLP HSG HS3 HR3 HO3
          have hnn : (rp l j).length ≤ 100 := by have := HRL.out; omega
          generalize (rp l j).length = nn at *
          go_wp2_with fail
          go_region_with (first
            | (go_at_call 59; refine (draw_any b (P + 2 * k + 1) nn w4.drew HR4.out (by omega) (by omega) (by omega)).mono ?_; rintro e w5 ⟨v, rfl, ⟨hv0, hv1⟩, ho5, hr5⟩; obtain ⟨q, r, rfl, ⟨hq0, hq1⟩, ⟨hr0, hr1⟩, cp, ct, cs⟩ := HAF.out w5 v ho5 hv0 hv1)
            | (go_at_call 88; rw [HCC.out r]; refine Calls.mono (HPTS.out w5 r ⟨HS4.out.1.far (fun g' hg => ho5.block g' (World.ownsRow.lt HS4.out.1 g' hg).2 (by have := (World.ownsRow.lt HS4.out.1 g' hg).1; omega)), HS4.out.2⟩ (by have h1 := HO4.out.size; have h2 := ho5.size; exact Nat.le_trans h1 h2)) ?_; rintro e w6 ⟨v6, rfl, hs6, hb6⟩))
          all_goals
            have HO6 : Hid (Only w w6 (· = b)) := (HO4.out.drew'.trans ho5).andBelow hb6
            have HR6 : Hid (Rd w6 b (P + 2 * (k + 1))) := (hr5.below hb6).weak (by omega)
            have HS6 := Lib.hid hs6
            have H26 : Hid (∀ y ∈ putB L [byteOf l r, byteOf l k], y.length = 2) := fun y hy => by
              rcases (putB_mem L _ y).1 hy with h | h
              · exact H2.out y h
              · rw [h]; rfl
            have hl6 : (putB L [byteOf l r, byteOf l k]).length ≤ k + 1 := Nat.le_trans (putB_len _ _) (by omega)
            clear hs6 hb6 ho5 hr5 HPTS HAF cp ct cs
            go_wp2
            go_roundw
            case rel => exact ⟨k + 1, v6, _, by omega, by go_num, rfl, HS6, hl6, H26, HO6, HR6⟩
            case measure => simp [intOf]; omega
        · go_wp2
          go_roundw
          case rel => exact ⟨k + 1, vo, L, by omega, by go_num, rfl, HS3, by omega, H2, HO3, HR3.out.weak (by omega)⟩
          case measure => simp [intOf]; omega
      · have hk2 : ¬ (0 : Int) < (k : Int) := by omega
        go_wp2
        go_roundw
        case rel => exact ⟨k + 1, vo, L, by omega, by go_num, rfl, HSa, by omega, H2, HOa, HRa.out.weak (by omega)⟩
        case measure => simp [intOf]; omega
    · obtain rfl : k = l.length := by omega
      have HR9 : Hid (Rd wr b (P + 40)) := HRD.out.weak (by omega)
      go_wp2
      go_ret
      exact ⟨vo, L, rfl, HS.out, by omega, H2.out, HO.out, HR9.out⟩

end Go.Proofs.Ytbmfbnlmdjnddaa
