/- Joined: Il Im Iu. -/
import Derived.Test.YtbmfbnlmdjnddaaGreatU33
import Derived.Test.YtbmfbnlmdjnddaaGreatU02
import Derived.Test.YtbmfbnlmdjnddaaGreatU06
import Derived.Test.YtbmfbnlmdjnddaaGreatU03
/- Draws of chapter 7: pairs that go down. -/
namespace Go.Proofs.YtbmfbnlmdjnddaaGreat
open Go.RowKit

set_option maxRecDepth 100000 in
set_option maxHeartbeats 4000000 in
theorem l7Down_any (b P : Nat) (A : Option Addr) (l : List Seg) (c : Nat) (w : World) (hr : Rd w b P) (hP : P ≤ 1000) (hw : Segs w w.heap.size A l) (hA : ∀ g o, A = some ⟨g, o, none⟩ → b < g) (hv : validB l = true) :
    Calls Tryz.prog 141 #[.pointer (some ⟨b, 0, none⟩), .slice A l.length c] w (PairsDrawn b P w 9 40) := by
  have HW : Hid (Segs w w.heap.size A l) := hw
  have HA := Lib.hid hA
  have HV := Lib.hid hv
  have h8 := (valid_all hv).2.1
  have h1 := (valid_all hv).2.2
  have HDN : Hid (Down l l.length) := (valid_all hv).1.down
  have HRD0 := Lib.hid (hr.alloc (.cells #[] 9))
  have HS0 : Hid (SolidTexts (w.alloc (.cells #[] 9)) w.heap.size (.slice (some ⟨w.heap.size, 0, none⟩) 0 0) []) := ⟨OwnTexts.empty w (Nat.le_refl _), fun h => by cases h⟩
  have HO0 : Hid (Only w (w.alloc (.cells #[] 9)) (· = b)) := (Only.refl w _).andBelow ((Below.refl _ w).alloc (Nat.le_refl _) _)
  have hbl := hr.lt
  clear hw hv hr hA
  unfold PairsDrawn
  obtain ⟨b9, o, rfl, hB, hc⟩ := HW.out (by omega)
  have hb9 : b ≠ b9 := by have := HA.out b9 o rfl; omega
  have HCELL : Hid (∀ W i, Only w W (· = b) → (hi : i < l.length) → W.cell? ⟨b9, o + i * 3, none⟩ = some (.string ⟨#[byteOf l i]⟩) ∧ W.cell? ⟨b9, o + i * 3 + 1, none⟩ = some (.int .i64 l[i].size) ∧ W.cell? ⟨b9, o + i * 3 + 2, none⟩ = some (.int .i64 (parAt l i))) := fun W i hoW hi => by
    have h0 : W.heap[b9]? = w.heap[b9]? := hoW.block b9 hB (fun e => hb9 e.symm)
    have h3 : ∀ q, W.cell? ⟨b9, q, none⟩ = w.cell? ⟨b9, q, none⟩ := fun q => by simp only [World.cell?, h0]
    obtain ⟨e1, e2, e3⟩ := hc i l[i] (List.getElem?_eq_getElem hi)
    have h5 : parAt l i = l[i].par := by unfold parAt; rw [List.getElem?_eq_getElem hi]
    rw [h3, h3, h3, e1, e2, e3, (nmAt_one HV.out hi).2, h5]
    exact ⟨rfl, rfl, rfl⟩
  clear hc hB
  go_enter Tryz.func141, Tryz.ntmps141
  go_wp2
  go_loopw [5, 12] (fun ov iv wr => ∃ (k : Nat) (vo : Value) (L : List Txt), k ≤ l.length ∧ iv = .int .i64 k ∧ vo = ov ∧ Hid (SolidTexts wr w.heap.size vo (L.map strOf)) ∧ L.length ≤ k ∧ Hid (∀ x ∈ L, x.length = 2) ∧ Hid (Only w wr (· = b)) ∧ Hid (Rd wr b (P + 2 * k)))
    (fun _ iv _ => l.length - (intOf iv).toNat)
  case atStart => exact ⟨0, _, [], Nat.zero_le _, rfl, rfl, HS0, Nat.zero_le _, (fun x hx => absurd hx (by simp)), HO0, HRD0⟩
  case round =>
    obtain ⟨k, vo, L, hk, rfl, rfl, HS, hL, H2, HO, HRD⟩ := hrel
    clear HS0 HO0 HRD0
    have hk0 : (0 : Int) ≤ (k : Int) := Int.natCast_nonneg _
    by_cases hlt : k < l.length
    · have hlt' : (k : Int) < (l.length : Int) := by omega
      obtain ⟨e1, e2, e3⟩ := HCELL.out wr k HO.out hlt
      have hwl := HO.out.size
      have HOa : Hid (Only w (wr.alloc (.cells #[.string ⟨#[byteOf l k]⟩, .int .i64 l[k].size, .int .i64 (parAt l k)] 51)) (· = b)) := HO.out.andBelow ((Below.refl _ wr).alloc (Nat.le_refl _) _)
      have HRa := Lib.hid (HRD.out.alloc (.cells #[.string ⟨#[byteOf l k]⟩, .int .i64 l[k].size, .int .i64 (parAt l k)] 51))
      have HSa : Hid (SolidTexts (wr.alloc (.cells #[.string ⟨#[byteOf l k]⟩, .int .i64 l[k].size, .int .i64 (parAt l k)] 51)) w.heap.size vo (L.map strOf)) := ⟨HS.out.1.below ((Below.refl _ wr).alloc (Nat.le_refl _) _), HS.out.2⟩
      have HNEW : Hid (∀ W, Only (wr.alloc (.cells #[.string ⟨#[byteOf l k]⟩, .int .i64 l[k].size, .int .i64 (parAt l k)] 51)) W (· = b) → W.cell? ⟨wr.heap.size, 0, none⟩ = some (.string ⟨#[byteOf l k]⟩) ∧ W.cell? ⟨wr.heap.size, 2, none⟩ = some (.int .i64 (parAt l k))) := fun W ho => by
        have h0 : W.heap[wr.heap.size]? = (wr.alloc (.cells #[.string ⟨#[byteOf l k]⟩, .int .i64 l[k].size, .int .i64 (parAt l k)] 51)).heap[wr.heap.size]? := ho.block _ (by simp) (by omega)
        have hc0 := fun i => (Row.new wr 51 #[.string ⟨#[byteOf l k]⟩, .int .i64 l[k].size, .int .i64 (parAt l k)]).cell i
        have h3 : ∀ q, W.cell? ⟨wr.heap.size, q, none⟩ = (wr.alloc (.cells #[.string ⟨#[byteOf l k]⟩, .int .i64 l[k].size, .int .i64 (parAt l k)] 51)).cell? ⟨wr.heap.size, q, none⟩ := fun q => by simp only [World.cell?, h0]
        rw [h3, h3, hc0, hc0]
        exact ⟨rfl, rfl⟩
      clear HS HO HRD
      by_cases hk1 : 0 < k
      · have hk1' : (0 : Int) < (k : Int) := by omega
        obtain ⟨j, hj⟩ := Int.eq_ofNat_of_zero_le (par_nonneg (valid_all HV.out).1 hlt hk1)
        have hjk : j < k := by have := HDN.out k hlt; omega
        rw [hj] at e3 HOa HRa HSa HNEW
        have hjl : j < l.length := by omega
        have HPA : Hid (pathOf l j = (rp l j).map fun q : Nat => (q : Int)) := rootPath_chain HDN.out (j + 1) j hjl (by omega)
        have HLT : Hid (∀ q ∈ rp l j, q < l.length) := rootPath_lt HDN.out (j + 1) j hjl
        have HRL : Hid ((rp l j).length ≤ j + 1) := rootPath_len l (j + 1) j
        generalize l[k].size = sz at *
        generalize hwa : wr.alloc (.cells #[.string ⟨#[byteOf l k]⟩, .int .i64 sz, .int .i64 (j : Int)] 51) = wa at *
        go_wp2_with fail
        refine (draw_any b (P + 2 * k) 5 wa HRa.out (by omega) (by omega) (by omega)).mono ?_
        rintro e w3 ⟨x, rfl, ⟨hx0, -⟩, ho3, hr3⟩
        have HO3 : Hid (Only w w3 (· = b)) := HOa.out.trans ho3
        have HR3 := Lib.hid hr3
        have HOA3 := Lib.hid ho3
        have HS3 : Hid (SolidTexts w3 w.heap.size vo (L.map strOf)) := ⟨HSa.out.1.far (fun g hg => ho3.block g (World.ownsRow.lt HSa.out.1 g hg).2 (by have := (World.ownsRow.lt HSa.out.1 g hg).1; omega)), HSa.out.2⟩
        have cn2 := (HNEW.out w3 ho3).2
        clear hr3 ho3 HRa HOa HSa
        by_cases hx : 0 < x
        · have HSG : Hid (Segs w3 w3.heap.size (some ⟨b9, o, none⟩) l) := HW.out.farO HO3.out HA.out
          have HLP := Lib.hid (l1Path_any (some ⟨b9, o, none⟩) l c j w3 HSG.out (by omega) hjl (fun q hq => HDN.out q (by omega)))
          rw [HPA.out] at HLP
          unfold IntsPost at HLP
          rw [List.length_map] at HLP
          have hrpos : 0 < (rp l j).length := by unfold rp rootPath; rw [List.length_append]; simp
          go_wp2_with fail
          refine Calls.mono HLP.out ?_
          rintro e w4 ⟨g, cap, rfl, hown, hb4⟩
          have hgl := World.ownsRow.lt hown g rfl
          have HO4 : Hid (Only w w4 (· = b)) := HO3.out.andBelow hb4
          have HOA4 : Hid (Only wa w4 (· = b)) := HOA3.out.andBelow hb4
          have HR4 : Hid (Rd w4.drew b (P + 2 * k + 1)) := (HR3.out.below hb4).below ((Below.refl _ _).drew)
          have HS4 : Hid (SolidTexts w4 w.heap.size vo (L.map strOf)) := ⟨HS3.out.1.below hb4, HS3.out.2⟩
          have hbg : b ≠ g := by have := HO3.out.size; omega
          have HAF : Hid (∀ (W : World) (v : Int), Only w4.drew W (· = b) → 0 ≤ v → (0 < ((rp l j).length : Int) → v < ((rp l j).length : Int)) → ∃ q r : Nat, v = (q : Int) ∧ ((0 : Int) ≤ (q : Int) ∧ (q : Int) < ((rp l j).length : Int)) ∧ ((0 : Int) ≤ (r : Int) ∧ (r : Int) < (l.length : Int)) ∧ W.cell? ⟨g, q, none⟩ = some (.int .i64 (r : Int)) ∧ W.cell? ⟨b9, o + r * 3, none⟩ = some (.string ⟨#[byteOf l r]⟩) ∧ W.cell? ⟨wr.heap.size, 0, none⟩ = some (.string ⟨#[byteOf l k]⟩)) := fun W v ho h0 hv => by
            obtain ⟨q, rfl⟩ := Int.eq_ofNat_of_zero_le h0
            have hq : q < (rp l j).length := by have := hv (by omega); omega
            have h1 : w4.cell? ⟨g, q, none⟩ = some (.int .i64 (((rp l j)[q] : Nat) : Int)) := by
              have h2 := hown.cellAt q (by omega)
              rw [h2, List.getElem?_map, List.getElem?_map, List.getElem?_eq_getElem hq]
              rfl
            have h3 : W.heap[g]? = w4.heap[g]? := ho.block g hgl.2 (fun e => hbg e.symm)
            have h4 : W.cell? ⟨g, q, none⟩ = w4.cell? ⟨g, q, none⟩ := by simp only [World.cell?, h3]
            have hr := HLT.out (rp l j)[q] (List.getElem_mem hq)
            exact ⟨q, (rp l j)[q], rfl, ⟨by omega, by omega⟩, ⟨by omega, by omega⟩, h4.trans h1, (HCELL.out W _ (HO4.out.drew'.trans ho) hr).1, (HNEW.out W (HOA4.out.drew'.trans ho)).1⟩
          have cn4 := (HNEW.out w4 HOA4.out).1
          have HPTS := Lib.hid (fun W r h hz => l4Put_any w.heap.size vo L [byteOf l r, byteOf l k] W h hz (by omega))
          unfold PutPost at HPTS
          have HCC : Hid (∀ r, (⟨#[byteOf l r]⟩ : ByteArray) ++ ⟨#[byteOf l k]⟩ = strOf [byteOf l r, byteOf l k]) := fun r => rfl
          have hz1 : ∀ u : UInt8, (⟨#[u]⟩ : ByteArray).size = 1 := fun u => rfl
          clear hown hb4 hgl HLP HSG HS3 HR3 HO3
          have hnn : (rp l j).length ≤ 100 := by have := HRL.out; omega
          generalize (rp l j).length = nn at *
          go_wp2_with fail
          go_region_with (first
            | (go_at_call 60; refine (draw_any b (P + 2 * k + 1) nn w4.drew HR4.out (by omega) (by omega) (by omega)).mono ?_; rintro e w5 ⟨v, rfl, ⟨hv0, hv1⟩, ho5, hr5⟩; obtain ⟨q, r, rfl, ⟨hq0, hq1⟩, ⟨hr0, hr1⟩, cp, ct, cs⟩ := HAF.out w5 v ho5 hv0 hv1)
            | (go_at_call 142; rw [HCC.out r]; refine Calls.mono (HPTS.out w5 r ⟨HS4.out.1.far (fun g' hg => ho5.block g' (World.ownsRow.lt HS4.out.1 g' hg).2 (by have := (World.ownsRow.lt HS4.out.1 g' hg).1; omega)), HS4.out.2⟩ (by have h1 := HO4.out.size; have h2 := ho5.size; exact Nat.le_trans h1 h2)) ?_; rintro e w6 ⟨v6, rfl, hs6, hb6⟩))
          all_goals
            have HO6 : Hid (Only w w6 (· = b)) := (HO4.out.drew'.trans ho5).andBelow hb6
            have HR6 : Hid (Rd w6 b (P + 2 * (k + 1))) := (hr5.below hb6).weak (by omega)
            have HS6 := Lib.hid hs6
            have H26 : Hid (∀ y ∈ putB L [byteOf l r, byteOf l k], y.length = 2) := fun y hy => by
              rcases (putB_mem L _ y).1 hy with h | h
              · exact H2.out y h
              · rw [h]; rfl
            have hl6 : (putB L [byteOf l r, byteOf l k]).length ≤ k + 1 := Nat.le_trans (putB_len _ _) (by omega)
            clear hs6 hb6 ho5 hr5 HPTS HAF cp ct cs
            go_wp2
            go_roundw
            case rel => exact ⟨k + 1, v6, _, by omega, by go_num, rfl, HS6, hl6, H26, HO6, HR6⟩
            case measure => simp [intOf]; omega
        · go_wp2
          go_roundw
          case rel => exact ⟨k + 1, vo, L, by omega, by go_num, rfl, HS3, by omega, H2, HO3, HR3.out.weak (by omega)⟩
          case measure => simp [intOf]; omega
      · have hk2 : ¬ (0 : Int) < (k : Int) := by omega
        go_wp2
        go_roundw
        case rel => exact ⟨k + 1, vo, L, by omega, by go_num, rfl, HSa, by omega, H2, HOa, HRa.out.weak (by omega)⟩
        case measure => simp [intOf]; omega
    · obtain rfl : k = l.length := by omega
      have HR9 : Hid (Rd wr b (P + 40)) := HRD.out.weak (by omega)
      go_wp2
      go_ret
      exact ⟨vo, L, rfl, HS.out, by omega, H2.out, HO.out, HR9.out⟩

end Go.Proofs.YtbmfbnlmdjnddaaGreat
/- Draws of chapter 7: a tree and pairs. -/
namespace Go.Proofs.YtbmfbnlmdjnddaaGreat
open Go.RowKit

def PairsSome (b P : Nat) (w : World) (e : Ending) (w' : World) : Prop :=
  ∃ (A : Option Addr) (l : List Seg) (c : Nat) (A2 : Option Addr) (ts : List ByteArray) (c2 : Nat), e = .returned (.tuple #[.slice A (List.length l) c, .slice A2 (List.length ts) c2]) ∧ (Segs w' w'.heap.size A l ∧ ∀ g o, A = some ⟨g, o, none⟩ → b < g) ∧ (l.length ≤ 9 ∧ l.length ≤ c ∧ c ≤ 9223372036854775807) ∧ (∀ s ∈ l, s.name.size ≤ 8) ∧ (St.Strs w' w'.heap.size A2 ts ∧ ∀ g o, A2 = some ⟨g, o, none⟩ → b < g) ∧ ts.length ≤ 100 ∧ (∀ x ∈ ts, x.size ≤ 1000) ∧ Only w w' (· = b) ∧ Rd w' b (P + 500)

set_option maxRecDepth 100000 in
/-- append of texts to a row of texts of the call's own. -/
theorem wp_append_txts {ops : Array Oper} {rest : List Oper} {o : Oper} {a : Act} {Q : Exit → Act → World → Prop} (hgd : o.guard = none) (S X : Operand)
    (ho : o.op = Op.call { callee := Callee.builtin Builtin.append, args := #[S, X], argTypes := #[29, 29] })
    (B : Nat) (v : Value) (ts : List ByteArray) (W : World) (hs : a.eval S = v) (hown : OwnTexts W B v ts) (htl : ts.length ≤ 1000) (hB : B ≤ W.heap.size)
    (g off m c : Nat) (us : List ByteArray) (hx : a.eval X = .slice (some ⟨g, off, none⟩) m c) (hm : us.length = m) (hul : us.length ≤ 1000)
    (hnew : ∀ j x, us[j]? = some x → W.cell? ⟨g, off + j, none⟩ = some (.string x))
    (h : ∀ v' w', OwnTexts w' B v' (ts ++ us) → Below B W w' → (∀ k, k < W.heap.size → v.ownBlock ≠ some k → w'.heap[k]? = W.heap[k]?) → (v' = .slice none 0 0 ↔ v = .slice none 0 0 ∧ m = 0) → wpList Tryz.prog ops Q rest (a.put o.dst v') w') :
    wpList Tryz.prog ops Q (o :: rest) a W := by
  obtain ⟨i0, hi, hz0, hz1, hz2⟩ := info_parts info_str
  refine wpList_append_own W hgd S X 29 ho B 9 i0 (.string ByteArray.empty) 1 16 Tryz.underlying29 hi hz0 hz1 hz2 rfl (by decide) v ts.length (ts.map Value.string) hs hown ⟨g, off, none⟩ m c (us.map Value.string) hx (by rw [List.length_map, hm, Nat.mul_one]) ?_ ?_ (by unfold maxLen; omega) (by omega) hB ?_
  · intro j u hj
    rw [List.getElem?_map] at hj
    rw [Addr.add_lit]
    cases hu : us[j]? with
    | none => rw [hu] at hj; cases hj
    | some x =>
      rw [hu] at hj
      injection hj with hj
      rw [← hj]
      exact hnew j x hu
  · intro u hu
    obtain ⟨x, _, rfl⟩ := List.mem_map.1 hu
    rfl
  · intro v' w' h1 h2 h3
    refine h v' w' ?_ ?_ ?_ h3
    · show w'.ownsRow B _ 1 v' (ts ++ us).length ((ts ++ us).map Value.string)
      rw [List.length_append, List.map_append, hm]
      exact h1
    · exact (Below.refl B W).grown h2 hB (fun k e => (World.ownsRow.lt hown k e).1)
    · exact fun k hk hne => h2.block k hk (fun e => hne e.symm)

set_option maxRecDepth 100000 in
set_option maxHeartbeats 4000000 in
theorem l7Some_any (hgood : GoodSaid) (b P : Nat) (w : World) (hr : Rd w b P) (hP : P ≤ 10) :
    Calls Tryz.prog 73 #[.pointer (some ⟨b, 0, none⟩)] w (PairsSome b P w) := by
  have HL1 := Lib.hid (l1Some_plain b P w hr (by omega) (fun w h => hgood b P w (by omega) h))
  have hbl := hr.lt
  unfold SomePost at HL1
  clear hr
  unfold PairsSome
  go_enter Tryz.func73, Tryz.ntmps73
  go_wp2_with fail
  refine Calls.mono HL1.out ?_
  rintro e w1 ⟨A, l, c, rfl, ⟨hs1, hA⟩, ⟨hl9, hlc, hcm⟩, hnm, ho1, hr1⟩
  have hsh : Short l := fun x hx => by have := hnm x hx; unfold maxLen; omega
  have HS1 := Lib.hid hs1
  have HA := Lib.hid hA
  have HNM := Lib.hid hnm
  have HO1 := Lib.hid ho1
  have HR1 := Lib.hid hr1
  have HTV := Lib.hid (specTreeValid_any A l c w1 hs1 (by omega) hsh)
  clear hs1 hA hnm ho1 hr1 hsh HL1
  cases hv : validB l with
  | false =>
    rw [hv] at HTV
    go_wp2_with fail
    refine Calls.mono HTV.out ?_
    rintro e w2 ⟨rfl, hb2⟩
    have hS2 : Segs (w2.alloc (.cells #[.string ⟨#[65, 66]⟩] 9)) (w2.alloc (.cells #[.string ⟨#[65, 66]⟩] 9)).heap.size A l := ((HS1.out.below hb2).more hb2.size).below ((Below.refl _ w2).alloc (Nat.le_refl _) _) |>.more (by simp)
    have HS2 := Lib.hid hS2
    have HO2 : Hid (Only w (w2.alloc (.cells #[.string ⟨#[65, 66]⟩] 9)) (· = b)) := (HO1.out.andBelow hb2).andBelow ((Below.refl _ w2).alloc (Nat.le_refl _) _)
    have HR2 := Lib.hid (((HR1.out.below hb2).alloc (.cells #[.string ⟨#[65, 66]⟩] 9)).weak (Q := P + 500) (by omega))
    have HT2 := Lib.hid (strsOf (OwnTexts.one w2 (Nat.le_refl _) ⟨#[65, 66]⟩))
    have hbw : b < w2.heap.size := (HR1.out.below hb2).lt
    clear hb2 hS2 HTV
    go_wp2
    go_ret2
    exact ⟨A, l, c, some ⟨w2.heap.size, 0, none⟩, [⟨#[65, 66]⟩], 1, rfl, ⟨HS2.out, HA.out⟩, ⟨hl9, hlc, hcm⟩, HNM.out, ⟨HT2.out, fun g o e => by injection e with e; injection e with e; omega⟩, by simp, fun x hx => by rw [List.mem_singleton.1 hx]; exact (by decide : 2 ≤ 1000), HO2.out, HR2.out⟩
  | true =>
    rw [hv] at HTV
    go_wp2_with fail
    refine Calls.mono HTV.out ?_
    rintro e w2 ⟨rfl, hb2⟩
    have HS2 : Hid (Segs w2 w2.heap.size A l) := (HS1.out.below hb2).more hb2.size
    have HO2 : Hid (Only w w2 (· = b)) := HO1.out.andBelow hb2
    have HR2 := Lib.hid (HR1.out.below hb2)
    have HGD := Lib.hid (l7Good_any b (P + 50) A l c w2 HR2.out (by omega) HS2.out HA.out hv)
    unfold PairsDrawn at HGD
    clear hb2 HS1 HO1 HR1 HTV
    go_wp2_with fail
    refine Calls.mono HGD.out ?_
    rintro e w3 ⟨v3, L3, rfl, hs3, hl3, h23, ho3, hr3⟩
    have HS3 : Hid (Segs w3 w3.heap.size A l) := HS2.out.farO ho3 HA.out
    have HO3 : Hid (Only w w3 (· = b)) := HO2.out.trans ho3
    have HR3 := Lib.hid hr3
    have HP3 := Lib.hid hs3
    have H23 := Lib.hid h23
    have hb3 : b < w2.heap.size := HR2.out.lt
    have HZ2 : Hid (w.heap.size ≤ w2.heap.size) := HO2.out.size
    clear hs3 h23 ho3 hr3 HGD HS2 HO2 HR2
    go_wp2_with fail
    refine (draw_any b (P + 50 + 40) 3 w3 HR3.out (by omega) (by omega) (by omega)).mono ?_
    rintro e w4 ⟨x, rfl, ⟨hx0, -⟩, ho4, hr4⟩
    have HS4 : Hid (Segs w4 w4.heap.size A l) := HS3.out.farO ho4 HA.out
    have HO4 : Hid (Only w w4 (· = b)) := HO3.out.trans ho4
    have HR4 := Lib.hid hr4
    have HP4 : Hid (SolidTexts w4 w2.heap.size v3 (L3.map strOf)) := ⟨HP3.out.1.far (fun g hg => ho4.block g (World.ownsRow.lt HP3.out.1 g hg).2 (by have := (World.ownsRow.lt HP3.out.1 g hg).1; omega)), HP3.out.2⟩
    clear ho4 hr4 HP3 HS3 HO3 HR3
    by_cases hx : x = 0
    case' pos =>
      subst hx
      have HDW := Lib.hid (l7Down_any b (P + 50 + 40 + 1) A l c w4 HR4.out (by omega) HS4.out HA.out hv)
      unfold PairsDrawn at HDW
      go_wp2_with fail
      refine Calls.mono HDW.out ?_
      rintro e w5 ⟨v5, L5, rfl, hs5, hl5, h25, ho5, hr5⟩
      have HS5 : Hid (Segs w5 w5.heap.size A l) := HS4.out.farO ho5 HA.out
      have HO5 : Hid (Only w w5 (· = b)) := HO4.out.trans ho5
      have HR5 : Hid (Rd w5 b (P + 131)) := hr5.weak (by omega)
      have HP5 : Hid (SolidTexts w5 w.heap.size v5 (L5.map strOf)) := ⟨own_low hs5.1 HO4.out.size, hs5.2⟩
      have H25 := Lib.hid h25
      clear hs5 h25 ho5 hr5 HDW HS4 HO4 HR4 HP4 H23 hl3
    case' neg =>
      have hx' : (x == 0) = false := beq_eq_false_iff_ne.2 hx
      have HS5 := HS4
      have HO5 := HO4
      have HR5 : Hid (Rd w4 b (P + 131)) := HR4.out.weak (by omega)
      have HP5 : Hid (SolidTexts w4 w.heap.size v3 (L3.map strOf)) := ⟨own_low HP4.out.1 HZ2.out, HP4.out.2⟩
      have H25 := H23
      have hl5 := hl3
      obtain ⟨w5, hw5⟩ : ∃ w5, w5 = w4 := ⟨_, rfl⟩
      obtain ⟨v5, hv5⟩ : ∃ v5, v5 = v3 := ⟨_, rfl⟩
      obtain ⟨L5, hL5⟩ : ∃ L5, L5 = L3 := ⟨_, rfl⟩
      subst hw5 hv5 hL5
      clear HS4 HO4 HR4 HP4 H23 hl3
    all_goals
      have hv0 := hv
      clear hv
      go_wp2_with fail
      refine (draw_any b (P + 131) 20 w5 HR5.out (by omega) (by omega) (by omega)).mono ?_
      rintro e w6 ⟨y, rfl, ⟨hy0, -⟩, ho6, hr6⟩
      have HS6 : Hid (Segs w6 w6.heap.size A l) := HS5.out.farO ho6 HA.out
      have HO6 : Hid (Only w w6 (· = b)) := HO5.out.trans ho6
      have HR6 := Lib.hid hr6
      have HP6 : Hid (SolidTexts w6 w.heap.size v5 (L5.map strOf)) := ⟨HP5.out.1.far (fun g hg => ho6.block g (World.ownsRow.lt HP5.out.1 g hg).2 (by have := (World.ownsRow.lt HP5.out.1 g hg).1; omega)), HP5.out.2⟩
      clear ho6 hr6 HP5 HS5 HO5 HR5
      obtain ⟨g5, cap5, rfl⟩ := HP6.out.form
      by_cases hy : y = 0
      · subst hy
        have hA6 := hbl
        have hbw6 : b < w6.heap.size := HR6.out.lt
        have HC5 : Hid (∀ j x, (L5.map strOf)[j]? = some x → (w6.alloc (.cells #[] 9)).cell? ⟨g5, 0 + j, none⟩ = some (.string x)) := fun j x hj => by
          have h1 := strsOf HP6.out.1
          obtain ⟨b9, o9, e9, hB9, hc9⟩ := h1 (by have := (List.getElem?_eq_some_iff.1 hj).1; omega)
          injection e9 with e9
          injection e9 with e1 e2
          subst e1 e2
          exact Lib.cell?_alloc_some _ (hc9 j x hj)
        have hlm : (L5.map strOf).length = L5.length := List.length_map _
        have hl50 : (L5.map strOf).length ≤ 9 := by rw [hlm]; exact hl5
        have H2S : Hid (∀ x ∈ L5.map strOf, x.size ≤ 1000) := fun x hx => by obtain ⟨u, hu, rfl⟩ := List.mem_map.1 hx; rw [str_size, H25.out u hu]; decide
        generalize L5.map strOf = us at *
        have HE0 := Lib.hid (OwnTexts.empty (B := w6.heap.size) w6 (Nat.le_refl _))
        go_wp2_with (at_builtin; go_loud (refine wp_append_txts rfl (.tmp 33) (.tmp 34) rfl w6.heap.size (.slice (some ⟨w6.heap.size, 0, none⟩) 0 0) [] _ rfl HE0.out (by simp) (by simp) g5 0 L5.length cap5 us rfl hlm (by omega) HC5.out ?_); intro v7 w7 ho7 hb7 _ _; have HO7 := Lib.hid ho7; have HB7 : Hid (Below w6.heap.size w6 w7) := ((Below.refl _ w6).alloc (Nat.le_refl _) _).trans hb7; clear ho7 hb7 HC5 HE0)
        rw [List.nil_append] at HO7
        have HR7 := Lib.hid ((HR6.out.below HB7.out).alloc (.cells #[.string ⟨#[65, 65]⟩, .string ⟨#[72, 88]⟩, .string ⟨#[]⟩, .string ⟨#[65]⟩, .string ⟨#[72, 72]⟩] 9))
        have HX7 := Lib.hid (texts_new w7 b 9 [⟨#[65, 65]⟩, ⟨#[72, 88]⟩, ⟨#[]⟩, ⟨#[65]⟩, ⟨#[72, 72]⟩] (HR6.out.below HB7.out).lt)
        refine (of_any b (P + 132) w7.heap.size 0 5 5 _ _ HR7.out (by omega) (by omega) (by omega) HX7.out).mono ?_
        rintro e w8 ⟨z, rfl, hz, ho8, hr8⟩
        have hzs : z.size ≤ 1000 := by
          have h9 : ∀ x ∈ ([⟨#[65, 65]⟩, ⟨#[72, 88]⟩, ⟨#[]⟩, ⟨#[65]⟩, ⟨#[72, 72]⟩] : List ByteArray), x.size ≤ 1000 := by decide
          exact h9 z hz
        have HO8 : Hid (Only w7 w8 (· = b)) := ho8.fresh
        have HR8 := Lib.hid hr8
        have HT8 : Hid (OwnTexts w8 w6.heap.size v7 us) := HO7.out.far (fun g hg => HO8.out.block g (World.ownsRow.lt HO7.out g hg).2 (by have := (World.ownsRow.lt HO7.out g hg).1; omega))
        clear ho8 hr8 hz HX7 HR7 HO7
        have HN9 : Hid (∀ j x, ([z] : List ByteArray)[j]? = some x → (w8.alloc (.cells #[.string z] 9)).cell? ⟨w8.heap.size, 0 + j, none⟩ = some (.string x)) := fun j x hj => by
          cases j with
          | zero =>
            injection hj with hj
            rw [← hj]
            exact (Row.new w8 9 #[.string z]).cell 0
          | succ j => cases hj
        have HT9 : Hid (OwnTexts (w8.alloc (.cells #[.string z] 9)) w6.heap.size v7 us) := HT8.out.below ((Below.refl _ w8).alloc (Nat.le_refl _) _)
        go_wp2_with (at_builtin; go_loud (refine wp_append_txts rfl (.tmp 35) (.tmp 39) rfl w6.heap.size v7 us _ rfl HT9.out (by omega) (by have := HB7.out.size; have := HO8.out.size; simp; omega) w8.heap.size 0 1 1 [z] rfl rfl (by simp) HN9.out ?_); intro v9 w9 ho9 hb9 _ _; have HO9 := Lib.hid ho9; have HB9 : Hid (Below w6.heap.size w8 w9) := ((Below.refl _ w8).alloc (by have := HB7.out.size; have := HO8.out.size; omega) _).trans hb9; clear ho9 hb9 HN9 HT9)
        obtain ⟨A9, cap9, rfl, hs9⟩ := St.textsForm HO9.out
        have HY69 : Hid (Only w6 w9 (· = b)) := ⟨HB9.out.os.trans (HO8.out.os.trans HB7.out.os), HB9.out.tape.trans (HO8.out.tape.trans HB7.out.tape), HB9.out.output.trans (HO8.out.output.trans HB7.out.output), Nat.le_trans HB7.out.size (Nat.le_trans HO8.out.size HB9.out.size), fun k hk hn => (HB9.out.block k hk).trans ((HO8.out.block k (Nat.lt_of_lt_of_le hk HB7.out.size) hn).trans (HB7.out.block k hk))⟩
        have HY9 : Hid (Only w w9 (· = b)) := HO6.out.trans HY69.out
        have HS9 : Hid (Segs w9 w9.heap.size A l) := HS6.out.farO HY69.out HA.out
        have HR9 : Hid (Rd w9 b (P + 500)) := (HR8.out.belowB HB9.out hbw6).weak (by omega)
        have HA9 : Hid (∀ g o, A9 = some ⟨g, o, none⟩ → b < g) := fun g o e => by
          subst e
          have := (World.ownsRow.lt HO9.out g rfl).1
          omega
        have HX9 : Hid (St.Strs w9 w9.heap.size A9 (us ++ [z])) := hs9
        have HZ9 : Hid ((us ++ [z]).length ≤ 100) := by show _ ≤ _; rw [List.length_append]; simp; omega
        have HZS : Hid (∀ x ∈ us ++ [z], x.size ≤ 1000) := fun x hx => by
          rcases List.mem_append.1 hx with hx | hx
          · exact H2S.out x hx
          · rw [List.mem_singleton.1 hx]; exact hzs
        clear hs9 HY69 HR8 HS6 HO6
        generalize us ++ [z] = us2 at *
        go_wp2
        go_ret2
        exact ⟨A, l, c, A9, us2, cap9, rfl, ⟨HS9.out, HA.out⟩, ⟨hl9, hlc, hcm⟩, HNM.out, ⟨HX9.out, HA9.out⟩, HZ9.out, HZS.out, HY9.out, HR9.out⟩
      · have hy' : (y == 0) = false := beq_eq_false_iff_ne.2 hy
        by_cases hy1 : y = 1
        · subst hy1
          have hbw6 : b < w6.heap.size := HR6.out.lt
          have HR6a := Lib.hid ((HR6.out.alloc (.cells #[] 9)).alloc (.cells #[.int .i64 20, .int .i64 21] 3))
          have HN6 := Lib.hid (nums_new (w6.alloc (.cells #[] 9)) b 3 [20, 21] (by simp; omega))
          have HS0 : Hid (SolidTexts (w6.alloc (.cells #[] 9)) w6.heap.size (.slice (some ⟨w6.heap.size, 0, none⟩) 0 0) []) := ⟨OwnTexts.empty w6 (Nat.le_refl _), fun h => by cases h⟩
          have HV0 := Lib.hid hv0
          clear HP6 HR6
          go_wp2_with fail
          refine (num_any b (P + 132) (w6.heap.size + 1) 0 2 2 (· ∈ [20, 21]) _ HR6a.out (by omega) (by omega) (by omega) (by have := HN6.out; simpa using this)).mono ?_
          rintro e w7 ⟨n0, rfl, hn0, ho7, hr7⟩
          obtain ⟨n, rfl, hn21⟩ : ∃ n : Nat, n0 = (n : Int) ∧ n ≤ 21 := by
            have h9 : ∀ x ∈ ([20, 21] : List Int), 0 ≤ x ∧ x ≤ 21 := by decide
            obtain ⟨k, hk⟩ := Int.eq_ofNat_of_zero_le (h9 n0 hn0).1
            exact ⟨k, hk, by have := (h9 n0 hn0).2; omega⟩
          have HO7 : Hid (Only w6 w7 (· = b)) := ho7.fresh.fresh
          have HR7 := Lib.hid hr7
          have HS7 : Hid (SolidTexts w7 w6.heap.size (.slice (some ⟨w6.heap.size, 0, none⟩) 0 0) []) := ⟨HS0.out.1.far (fun g hg => by
            injection hg with hg
            rw [← hg]
            exact (ho7.block w6.heap.size (by simp; omega) (by omega)).trans (Below.heap_alloc _ _ _ (by simp))), HS0.out.2⟩
          have HW7 : Hid (Segs w7 w7.heap.size A l) := HS6.out.farO HO7.out HA.out
          clear ho7 hr7 hn0 HS0 HN6 HR6a HS6
          have h1l := (valid_all HV0.out).2.2
          obtain ⟨b9, o, rfl, hB, hc⟩ := HW7.out (by omega)
          have HCELL : Hid (∀ W i, Below w7.heap.size w7 W → (hi : i < l.length) → ∃ s : Seg, W.cell? ⟨b9, o + i * 3, none⟩ = some (.string ⟨#[byteOf l i]⟩) ∧ W.cell? ⟨b9, o + i * 3 + 1, none⟩ = some (.int .i64 s.size) ∧ W.cell? ⟨b9, o + i * 3 + 2, none⟩ = some (.int .i64 s.par)) := fun W i hb hi => by
            obtain ⟨e1, e2, e3⟩ := hc i l[i] (List.getElem?_eq_getElem hi)
            refine ⟨l[i], ?_, ?_, ?_⟩
            · rw [hb.cell (p := ⟨b9, o + i * 3, none⟩) hB, e1, (nmAt_one HV0.out hi).2]
            · rw [hb.cell (p := ⟨b9, o + i * 3 + 1, none⟩) hB, e2]
            · rw [hb.cell (p := ⟨b9, o + i * 3 + 2, none⟩) hB, e3]
          clear hc hB
          go_wp2
          go_loopw [6, 49] (fun ov iv wr => ∃ (k : Nat) (vo : Value) (L : List Txt), k ≤ l.length ∧ iv = .int .i64 k ∧ vo = ov ∧ Hid (SolidTexts wr w6.heap.size vo (L.map strOf)) ∧ L.length ≤ n ∧ Hid (∀ x ∈ L, x.length = 2) ∧ Hid (Below w7.heap.size w7 wr))
            (fun _ iv _ => l.length - (intOf iv).toNat)
          case atStart => exact ⟨0, _, [], Nat.zero_le _, rfl, rfl, HS7, Nat.zero_le _, (fun x hx => absurd hx (by simp)), Below.refl _ _⟩
          case round =>
            obtain ⟨k, vo, L, hk, rfl, rfl, HS, hL, H2, HB⟩ := hrel
            clear HS7
            have hk0 : (0 : Int) ≤ (k : Int) := Int.natCast_nonneg _
            by_cases hlt : k < l.length
            · have hlt' : (k : Int) < (l.length : Int) := by omega
              obtain ⟨s1, e1, e2, e3⟩ := HCELL.out wr k HB.out hlt
              have HSa : Hid (SolidTexts (wr.alloc (.cells #[.string ⟨#[byteOf l k]⟩, .int .i64 s1.size, .int .i64 s1.par] 51)) w6.heap.size vo (L.map strOf)) := ⟨HS.out.1.below ((Below.refl _ wr).alloc (Nat.le_refl _) _), HS.out.2⟩
              have HBa := Lib.hid (HB.out.alloc HB.out.size (.cells #[.string ⟨#[byteOf l k]⟩, .int .i64 s1.size, .int .i64 s1.par] 51))
              have HRW := Lib.hid (Row.new wr 51 #[.string ⟨#[byteOf l k]⟩, .int .i64 s1.size, .int .i64 s1.par])
              have hw7r := HB.out.size
              clear HS HB
              have HD0 : Hid (∀ W, Below (wr.heap.size + 1) (wr.alloc (.cells #[.string ⟨#[byteOf l k]⟩, .int .i64 s1.size, .int .i64 s1.par] 51)) W → W.cell? ⟨wr.heap.size, 0, none⟩ = some (.string ⟨#[byteOf l k]⟩)) := fun W hb => (hb.cell (p := ⟨wr.heap.size, 0, none⟩) (Nat.lt_succ_self _)).trans (HRW.out.cell 0)
              clear HRW
              go_wp2
              clear e1 e2 e3
              generalize hwa : wr.alloc (.cells #[.string ⟨#[byteOf l k]⟩, .int .i64 s1.size, .int .i64 s1.par] 51) = wa at *
              have HWA : Hid (wr.heap.size + 1 = wa.heap.size) := by rw [← hwa]; show _ = _; simp
              clear hwa
              generalize wr.heap.size = gs at *
              go_loopw [6, 55] (fun ov iv wi => ∃ (m : Nat) (vo2 : Value) (L2 : List Txt), m ≤ l.length ∧ iv = .int .i64 m ∧ vo2 = ov ∧ Hid (SolidTexts wi w6.heap.size vo2 (L2.map strOf)) ∧ L2.length ≤ n ∧ Hid (∀ x ∈ L2, x.length = 2) ∧ Hid (Below wa.heap.size wa wi))
                (fun _ iv _ => l.length - (intOf iv).toNat)
              case atStart => exact ⟨0, _, L, Nat.zero_le _, rfl, rfl, HSa, hL, H2, Below.refl _ _⟩
              case round =>
                obtain ⟨m, vo2, L2, hm, rfl, rfl, HS2, hL2, H22, HBI⟩ := hrel
                clear HSa
                have hm0 : (0 : Int) ≤ (m : Int) := Int.natCast_nonneg _
                have HB7I : Hid (Below w7.heap.size w7 wr) := HBa.out.trans (HBI.out.mono (by have := HWA.out; omega))
                by_cases hltm : m < l.length
                · have hltm' : (m : Int) < (l.length : Int) := by omega
                  obtain ⟨s2, e1, e2, e3⟩ := HCELL.out wr m HB7I.out hltm
                  have d0 := HD0.out wr (HBI.out.mono (by rw [HWA.out]; exact Nat.le_refl _))
                  have hszi : gs + 1 ≤ wr.heap.size := by have := HBI.out.size; have := HWA.out; omega
                  have HSi : Hid (SolidTexts (wr.alloc (.cells #[.string ⟨#[byteOf l m]⟩, .int .i64 s2.size, .int .i64 s2.par] 51)) w6.heap.size vo2 (L2.map strOf)) := ⟨HS2.out.1.below ((Below.refl _ wr).alloc (Nat.le_refl _) _), HS2.out.2⟩
                  have HBi := Lib.hid (HBI.out.alloc HBI.out.size (.cells #[.string ⟨#[byteOf l m]⟩, .int .i64 s2.size, .int .i64 s2.par] 51))
                  have d1 := HD0.out _ (HBi.out.mono (by rw [HWA.out]; exact Nat.le_refl _))
                  obtain ⟨g2, cap2, rfl⟩ := HS2.out.form
                  have hlm2 : (L2.map strOf).length = L2.length := List.length_map _
                  rw [hlm2] at HSi HS2 ⊢
                  by_cases hn2 : L2.length < n
                  · have hn2' : (L2.length : Int) < (n : Int) := by omega
                    have HPT := Lib.hid (l4Put_any w6.heap.size (.slice (some ⟨g2, 0, none⟩) L2.length cap2) L2 [byteOf l k, byteOf l m] _ HSi.out (by have := HO7.out.size; have := HB7I.out.size; simp; omega) (by omega))
                    unfold PutPost at HPT
                    have HC : Hid ((⟨#[byteOf l k]⟩ : ByteArray) ++ ⟨#[byteOf l m]⟩ = strOf [byteOf l k, byteOf l m]) := rfl
                    have HPL := Lib.hid (putB_len L2 [byteOf l k, byteOf l m])
                    have HPM := Lib.hid (fun y => putB_mem L2 [byteOf l k, byteOf l m] y)
                    have hza : (⟨#[byteOf l k]⟩ : ByteArray).size = 1 := rfl
                    have hzb : (⟨#[byteOf l m]⟩ : ByteArray).size = 1 := rfl
                    clear hlm2 HS2 HSi HBI HB7I
                    generalize (⟨#[byteOf l k]⟩ : ByteArray) = sa at *
                    generalize (⟨#[byteOf l m]⟩ : ByteArray) = sb at *
                    go_wp2_with fail
                    rw [HC.out]
                    refine Calls.mono HPT.out ?_
                    rintro e w9 ⟨v9, rfl, hs9, hb9⟩
                    have HS9 := Lib.hid hs9
                    have HB9 : Hid (Below wa.heap.size wa w9) := HBi.out.trans (hb9.mono HBi.out.size)
                    have H29 : Hid (∀ y ∈ putB L2 [byteOf l k, byteOf l m], y.length = 2) := fun y hy => by
                      rcases (HPM.out y).1 hy with h | h
                      · exact H22.out y h
                      · rw [h]; rfl
                    have hl9' : (putB L2 [byteOf l k, byteOf l m]).length ≤ n := Nat.le_trans HPL.out (by omega)
                    clear hs9 hb9 HPT HPL HPM HBi
                    go_wp2
                    go_roundw
                    case rel => exact ⟨m + 1, v9, _, by omega, by go_num, rfl, HS9, hl9', H29, HB9⟩
                    case measure => simp [intOf]; omega
                  · have hn2' : ¬ (L2.length : Int) < (n : Int) := by omega
                    clear hlm2 HS2 HBI HB7I
                    go_wp2
                    go_roundw
                    case rel => exact ⟨m + 1, _, L2, by omega, by go_num, rfl, HSi, hL2, H22, HBi⟩
                    case measure => simp [intOf]; omega
                · obtain rfl : m = l.length := by omega
                  go_wp2
                  go_roundw
                  case rel => exact ⟨k + 1, vo2, L2, by omega, by go_num, rfl, HS2, hL2, H22, HB7I⟩
                  case measure => simp [intOf]; omega
            · obtain rfl : k = l.length := by omega
              have HY7 : Hid (Only w6 wr (· = b)) := HO7.out.andBelow HB.out
              have HY9 : Hid (Only w wr (· = b)) := HO6.out.trans HY7.out
              have HS9 := Lib.hid ((HW7.out.below HB.out).more HB.out.size)
              have HR9 : Hid (Rd wr b (P + 500)) := (HR7.out.below HB.out).weak (by omega)
              obtain ⟨g9, cap9, rfl⟩ := HS.out.form
              have HLM : Hid ((L.map strOf).length = L.length) := List.length_map _
              have H2S : Hid (∀ x ∈ L.map strOf, x.size ≤ 1000) := fun x hx => by obtain ⟨u, hu, rfl⟩ := List.mem_map.1 hx; rw [str_size, H2.out u hu]; decide
              have HX9 := Lib.hid (strsOf HS.out.1)
              have HA9 : Hid (b < g9) := by have := (World.ownsRow.lt HS.out.1 g9 rfl).1; show _ < _; omega
              clear HS
              go_wp2
              go_ret2
              exact ⟨_, l, c, _, L.map strOf, cap9, rfl, ⟨HS9.out, HA.out⟩, ⟨hl9, hlc, hcm⟩, HNM.out, ⟨HX9.out, fun g o e => by injection e with e; injection e with e; rw [← e]; exact HA9.out⟩, by rw [HLM.out]; omega, H2S.out, HY9.out, HR9.out⟩
        · have hy1' : (y == 1) = false := beq_eq_false_iff_ne.2 hy1
          go_wp2
          go_ret2
          exact ⟨A, l, c, some ⟨g5, 0, none⟩, L5.map strOf, cap5, by rw [List.length_map]; rfl, ⟨HS6.out, HA.out⟩, ⟨hl9, hlc, hcm⟩, HNM.out, ⟨strsOf HP6.out.1, fun g o e => by injection e with e; injection e with e; rw [← e]; have := (World.ownsRow.lt HP6.out.1 g5 rfl).1; omega⟩, by rw [List.length_map]; omega, fun x hx => by obtain ⟨u, hu, rfl⟩ := List.mem_map.1 hx; rw [str_size, H25.out u hu]; decide, HO6.out, HR6.out.weak (by omega)⟩

end Go.Proofs.YtbmfbnlmdjnddaaGreat
/- Draws of a tree and pairs: what they leave. -/
namespace Go.Proofs.YtbmfbnlmdjnddaaGreat
open Go.RowKit

/-- A tree and pairs that are drawn. -/
def PairsHad (w : World) (e : Ending) (w' : World) : Prop :=
  ∃ (A : Option Addr) (l : List Seg) (c : Nat) (A2 : Option Addr) (ts : List ByteArray) (c2 : Nat), e = .returned (.tuple #[.slice A (List.length l) c, .slice A2 (List.length ts) c2]) ∧ TreeHas w' A l c ∧ St.Strs w' w'.heap.size A2 ts ∧ ts.length ≤ 100 ∧ (∀ x ∈ ts, x.size ≤ 1000) ∧ Below w.heap.size w w'

set_option maxRecDepth 100000 in
set_option maxHeartbeats 1000000 in
theorem drawTogether_any (hgood : GoodSaid) (A0 : Option Addr) (n c0 : Nat) (w : World) (hn : n ≤ c0) (hx : ∀ b, w.heap.size ≤ b → Bytes w b A0 n) :
    Calls Tryz.prog 18 #[.slice A0 n c0] w (PairsHad w) := by
  have HO := Lib.hid (l13Open_any A0 n c0 w hn hx)
  have HP := Lib.hid (fun b w h => l7Some_any hgood b 0 w h (Nat.zero_le _))
  clear hx hgood
  unfold PairsHad
  go_enter Tryz.func18, Tryz.ntmps18
  go_wp2_with fail
  refine Calls.mono HO.out ?_
  rintro e w1 ⟨b, rfl, hbb, hr, hb1⟩
  have HB1 := Lib.hid hb1
  have HPP := Lib.hid (HP.out b w1 hr)
  unfold PairsSome at HPP
  clear hr hb1 HP HO
  go_wp2_with fail
  refine Calls.mono HPP.out ?_
  rintro e w2 ⟨A, l, c, A2, ts, c2, rfl, ⟨hs, -⟩, hl, hsh, ⟨ht, -⟩, htl, hts, ho, -⟩
  have HT : Hid (TreeHas w2 A l c) := ⟨hs, hl, hsh⟩
  have HS := Lib.hid ht
  have HTS := Lib.hid hts
  have HB2 := Lib.hid (only_below HB1.out hbb ho)
  clear hs hl hsh ht hts ho HPP
  go_wp2
  refine bodyPost_ret (v := .tuple #[.slice A l.length c, .slice A2 ts.length c2]) (by simp [results, Tryz.results18, go_sem]) rfl ?_
  exact ⟨A, l, c, A2, ts, c2, rfl, HT.out, HS.out, htl, HTS.out, HB2.out⟩

end Go.Proofs.YtbmfbnlmdjnddaaGreat
