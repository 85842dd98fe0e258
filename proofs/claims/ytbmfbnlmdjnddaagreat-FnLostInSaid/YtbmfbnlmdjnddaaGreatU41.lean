/- Joined: Cd. -/
import Derived.Test.YtbmfbnlmdjnddaaGreatU22
import Derived.Test.YtbmfbnlmdjnddaaGreatU18
import Derived.Test.YtbmfbnlmdjnddaaGreatU40
import Derived.Test.YtbmfbnlmdjnddaaGreatU29
/- The law FnLostIn: its walk. -/
namespace Go.Proofs.YtbmfbnlmdjnddaaGreat
open Go.RowKit

theorem bytes_laterL {w w' : World} {A : Option Addr} {m : Nat} (h : ∀ b, w.heap.size ≤ b → Bytes w b A m) (hb : Below w.heap.size w w') : ∀ b, w'.heap.size ≤ b → Bytes w' b A m := fun b hbb h0 => by
  have hz := hb.size
  obtain ⟨g, o, rfl, hne, hlt, hx⟩ := h b (by omega) h0
  refine ⟨g, o, rfl, hne, by omega, fun i hi => ?_⟩
  obtain ⟨x, hc, hx2⟩ := hx i hi
  exact ⟨x, (hb.cell (p := ⟨g, o + i, none⟩) hlt).trans hc, hx2⟩
theorem lostRes_few {l : List Seg} (h9 : l.length ≤ 9) (t : ByteArray) : (lostRes l t).size ≤ 9 := by
  unfold lostRes
  cases hR : traceB l t.data.toList with
  | none => exact Nat.zero_le _
  | some f =>
    have hv := (traceB_some hR).1
    have h1 := namesAt_len (l := l) (fun s hs => by obtain ⟨c, h, -⟩ := nameOk_one (validB_names hv hs); rw [h]; exact Nat.le_refl _) (selIx (lostF l (chainsB [rootB l] f)) l.length)
    have h2 := selIx_len (lostF l (chainsB [rootB l] f)) l.length
    show (namesAt l _).size ≤ 9
    omega

set_option maxRecDepth 100000 in
set_option maxHeartbeats 16000000 in
theorem lostLaw_any (hgood : GoodSaid) (A0 : Option Addr) (n c0 : Nat) (A2 : Option Addr) (n2 c2 : Nat) (w : World) (hn : n ≤ c0) (hm : n ≤ maxLen) (hx : ∀ b, w.heap.size ≤ b → Bytes w b A0 n) (hn2 : n2 ≤ c2) (hm2 : n2 ≤ maxLen) (hx2 : ∀ b, w.heap.size ≤ b → Bytes w b A2 n2) :
    Calls Tryz.prog 3 #[.slice A0 n c0, .slice A2 n2 c2] w fun e w' => e = .returned (.bool true) ∧ Below w.heap.size w w' := by
  unfold maxLen at hm hm2
  by_cases hbig : 1048576 < n
  · clear hx hx2 hgood
    go_enter Tryz.func3, Tryz.ntmps3
    go_wp2
    go_ret
    exact ⟨rfl, Below.refl _ _⟩
  by_cases hbig2 : 1048576 < n2
  · clear hx hx2 hgood
    go_enter Tryz.func3, Tryz.ntmps3
    go_wp2
    go_ret
    exact ⟨rfl, Below.refl _ _⟩
  have HD := Lib.hid (drawLostIn_plain hgood A0 n c0 w hn hx)
  have HD2 := Lib.hid (fun w' (hb : Below w.heap.size w w') => drawChainLies_plain hgood A2 n2 c2 w' hn2 (bytes_laterL hx2 hb))
  clear hx hx2 hgood
  go_enter Tryz.func3, Tryz.ntmps3
  go_wp2_with fail
  refine Calls.mono HD.out ?_
  rintro e w1 ⟨A, l, c, t, rfl, ⟨hS, ⟨hl9, hlc, hcm⟩, hsh⟩, htz, hb1⟩
  have hl : l.length ≤ 1048576 := by omega
  have ht : t.size ≤ 1048576 := by omega
  have HSH := Lib.hid (fun s hs => Nat.le_trans (hsh s hs) (by decide) : Short l)
  have HS1 : Hid (Segs w1 w1.heap.size A l) := hS
  have HB1 : Hid (Below w.heap.size w w1) := hb1
  have C1 := Lib.hid (fun W h => lostIn_any A l c t W h hl hlc hcm HSH.out ht)
  have C2 := Lib.hid (fun W h => specLostIn_any A l c t W h hl HSH.out ht)
  have C3 := Lib.hid (fun W h => implChainsOf_any A l c t W h hl hlc hcm HSH.out ht)
  have C4 := Lib.hid (fun W b v h => lieTogether_any A l c b v W h hl hlc hcm HSH.out)
  unfold ChainsResPost at C3
  rw [chainsRes_xs] at C3
  have hL9 := lostRes_few hl9 t
  have hx80 := xsRes_len l t
  have HALL : Hid (∀ i, i < (lostRes l t).size → inLost l (xsRes l t) ((lostRes l t).extract i (i + 1)) (xsRes l t).length = true) := fun i hi => inLost_all hi
  have HTWO : Hid (∀ x ∈ xsRes l t, (∃ y u v, x = y ++ [u, v]) ∧ x.length ≤ 9) := fun x hx => xsRes_two x hx
  have HNO : Hid ((traceB l t.data.toList).isSome = false → lostRes l t = ⟨#[]⟩) := fun h => by
    cases hR : traceB l t.data.toList with
    | none => unfold lostRes; rw [hR]
    | some f => rw [hR] at h; cases h
  clear hS hb1 HD hsh
  generalize (traceB l t.data.toList).isSome = d at *
  generalize lostRes l t = L at *
  generalize xsRes l t = xs at *
  go_wp2_with fail
  refine (C1.out _ HS1.out).mono ?_
  rintro e w2 ⟨rfl, hb⟩
  have HS2 : Hid (Segs w2 w2.heap.size A l) := (HS1.out.below hb).more hb.size
  have HB2 : Hid (Below w.heap.size w w2) := HB1.out.trans (hb.mono HB1.out.size)
  clear hb HS1 HB1 C1
  go_wp2_with fail
  refine (C2.out _ HS2.out).mono ?_
  rintro e w3 ⟨rfl, hb⟩
  have HS3 : Hid (Segs w3 w3.heap.size A l) := (HS2.out.below hb).more hb.size
  have HB3 : Hid (Below w.heap.size w w3) := HB2.out.trans (hb.mono HB2.out.size)
  clear hb HS2 HB2 C2
  go_wp2_with fail
  refine Calls.mono (HD2.out _ HB3.out) ?_
  rintro e w4 ⟨A', l', c', t', rfl, ⟨hS', ⟨hl9', hlc', hcm'⟩, hsh'⟩, htz', hb⟩
  have hl' : l'.length ≤ 1048576 := by omega
  have ht' : t'.size ≤ 1048576 := by omega
  have HSH' := Lib.hid (fun s hs => Nat.le_trans (hsh' s hs) (by decide) : Short l')
  have HS4 : Hid (Segs w4 w4.heap.size A l) := (HS3.out.below hb).more hb.size
  have HT4 : Hid (Segs w4 w4.heap.size A' l') := hS'
  have HB4 : Hid (Below w.heap.size w w4) := HB3.out.trans (hb.mono HB3.out.size)
  have D1 := Lib.hid (fun W h => chainLies_any A' l' c' t' W h hl' hlc' hcm' HSH'.out ht')
  have D2 := Lib.hid (fun W h => specChainLies_any A' l' c' t' W h hl' HSH'.out ht')
  have D3 := Lib.hid (fun W h => stateValid_any A' l' c' t' W h hl' hlc' hcm' HSH'.out)
  have HSL : Hid (stOk l' t' = true → liesB l' t' = true) := fun h => state_lies h
  clear hS' hb hsh' HD2 HS3 HB3
  generalize liesB l' t' = li at *
  generalize stOk l' t' = sv at *
  go_wp2_with fail
  refine (D1.out _ HT4.out).mono ?_
  rintro e w5 ⟨rfl, hb⟩
  have HS5 : Hid (Segs w5 w5.heap.size A l) := (HS4.out.below hb).more hb.size
  have HT5 : Hid (Segs w5 w5.heap.size A' l') := (HT4.out.below hb).more hb.size
  have HB5 : Hid (Below w.heap.size w w5) := HB4.out.trans (hb.mono HB4.out.size)
  clear hb HS4 HT4 HB4 D1
  go_wp2_with fail
  refine (D2.out _ HT5.out).mono ?_
  rintro e w6 ⟨rfl, hb⟩
  have HS6 : Hid (Segs w6 w6.heap.size A l) := (HS5.out.below hb).more hb.size
  have HT6 : Hid (Segs w6 w6.heap.size A' l') := (HT5.out.below hb).more hb.size
  have HB6 : Hid (Below w.heap.size w w6) := HB5.out.trans (hb.mono HB5.out.size)
  clear hb HS5 HT5 HB5 D2
  go_wp2_with fail
  refine (D3.out _ HT6.out).mono ?_
  rintro e w7 ⟨rfl, hb⟩
  have HS7 : Hid (Segs w7 w7.heap.size A l) := (HS6.out.below hb).more hb.size
  have HB7 : Hid (Below w.heap.size w w7) := HB6.out.trans (hb.mono HB6.out.size)
  clear hb HS6 HT6 HB6 D3
  have hgo : Hid ((sv && !li) = false) := by
    show _ = _
    cases hs : sv with
    | false => rfl
    | true => rw [HSL.out hs]; rfl
  cases d with
  | false =>
    have hl0 := HNO.out rfl
    subst hl0
    clear HALL HTWO C3 C4
    cases sv with
    | false =>
      go_wp2
      go_ret
      exact ⟨rfl, HB7.out⟩
    | true =>
      have hli := HSL.out rfl
      subst hli
      go_wp2
      go_ret
      exact ⟨rfl, HB7.out⟩
  | true =>
    cases sv with
    | false =>
      go_wp2_with fail
      refine Calls.mono (C3.out _ HS7.out) ?_
      rintro e w8 ⟨v8, rfl, ho, hb⟩
      obtain ⟨A8, cap8, rfl, -⟩ := St.textsForm ho
      have HLN : Hid ((xs.map strOf).length = xs.length) := List.length_map _
      have HTC : Hid (∀ k (hk : k < xs.length), (xs.map strOf)[k]? = some (strOf xs[k])) := fun k hk => by rw [List.getElem?_map, List.getElem?_eq_getElem hk]; rfl
      generalize xs.map strOf = ts at *
      have htx : ts.length ≤ 80 := by have := HLN.out; omega
      have HO8 := Lib.hid ho
      have HS8 : Hid (Segs w8 w8.heap.size A l) := (HS7.out.below hb).more hb.size
      have HB8 : Hid (Below w.heap.size w w8) := HB7.out.trans (hb.mono HB7.out.size)
      clear hb ho HS7 HB7 C3
      go_wp2
      go_loopw [87] (fun i wr => ∃ k : Nat, k ≤ L.size ∧ i = .int .i64 k ∧ Hid (Below w8.heap.size w8 wr)) (fun i _ => L.size - (intOf i).toNat)
      case atStart => exact ⟨0, Nat.zero_le _, rfl, Lib.hid (Below.refl _ _)⟩
      case round =>
        obtain ⟨k, hk, rfl, HBk⟩ := hrel
        have hk0 : (0 : Int) ≤ (k : Int) := Int.natCast_nonneg _
        by_cases hlt : k < L.size
        · have hlt' : (k : Int) < (L.size : Int) := by omega
          have hlt1 : (k : Int) + 1 ≤ (L.size : Int) := by omega
          have HAL := Lib.hid (HALL.out k hlt)
          have HIP := Lib.hid (fun j (hj : j < xs.length) => inLost_succ l xs (L.extract k (k + 1)) hj)
          have hip0 : inLost l xs (L.extract k (k + 1)) 0 = false := rfl
          have C5 := Lib.hid (fun W v h => C4.out W (L.extract k (k + 1)) v h)
          generalize inLost l xs (L.extract k (k + 1)) = ip at *
          go_wp2
          go_loopw [17, 92] (fun o i wr => ∃ j : Nat, j ≤ xs.length ∧ i = .int .i64 j ∧ o = .bool (ip j) ∧ Hid (Below w8.heap.size w8 wr)) (fun _ i _ => xs.length - (intOf i).toNat)
          case atStart => exact ⟨0, Nat.zero_le _, rfl, by rw [hip0], HBk⟩
          case round =>
            obtain ⟨j, hj, rfl, rfl, HBj⟩ := hrel
            have hj0 : (0 : Int) ≤ (j : Int) := Int.natCast_nonneg _
            by_cases hltj : j < xs.length
            · have hltj' : (j : Int) < (ts.length : Int) := by have := HLN.out; omega
              obtain ⟨b2, o2, hA2, hB2, hc2⟩ := strsOf (HO8.out.below HBj.out) (by omega)
              subst hA2
              have cj := hc2 j _ (HTC.out j hltj)
              have hsz1 : (strOf xs[j]).size = xs[j].length := str_size _
              obtain ⟨htw, hx9⟩ := HTWO.out xs[j] (List.getElem_mem hltj)
              have hlast := str_lastB htw
              have hz1 : 1 ≤ (strOf xs[j]).size := by
                obtain ⟨y, u, v, e⟩ := htw
                rw [hsz1, e]
                simp
              have hz9 : (strOf xs[j]).size ≤ 9 := by omega
              have h3 : ((strOf xs[j]).size : Int) - 1 = (((strOf xs[j]).size - 1 : Nat) : Int) := by omega
              have HS := Lib.hid (HIP.out j hltj)
              clear hc2 hsz1 hx9 htw
              generalize (⟨#[lastB xs[j]]⟩ : ByteArray) = lb at *
              generalize strOf xs[j] = z at *
              cases hip : ip j with
              | true =>
                have HS1 : Hid (ip (j + 1) = true) := by show _ = _; rw [HS.out, hip]; rfl
                clear hip HS
                go_wp2_with fail
                go_quiet (fail)
                go_wp2
                go_roundw
                case rel => exact ⟨j + 1, by omega, by go_num, by rw [HS1.out], Lib.hid (below_drewN HBj.out _)⟩
                case measure => simp [intOf]; omega
              | false =>
                have HS1 : Hid (ip (j + 1) = (hasT z (L.extract k (k + 1)) && !lieB l (L.extract k (k + 1)) lb)) := by show _ = _; rw [HS.out, hip]; rfl
                clear hip HS
                obtain ⟨k1, hk1e⟩ : ∃ k1 : Nat, k1 = k + 1 := ⟨_, rfl⟩
                obtain ⟨z1, hz1e⟩ : ∃ z1 : Nat, z1 = z.size - 1 := ⟨_, rfl⟩
                have hwk : IntKind.i64.wrap ((k : Int) + 1) = (k1 : Int) := (IntWalk.i64_in _ (by omega)).trans (by omega)
                have hwz : IntKind.i64.wrap ((z.size : Int) - 1) = (z1 : Int) := (IntWalk.i64_in _ (by omega)).trans (by omega)
                have hkk : (k : Int) ≤ (k1 : Int) := by omega
                have hkL : (k1 : Int) ≤ (L.size : Int) := by omega
                have hzz : (z1 : Int) ≤ (z.size : Int) := by omega
                rw [← hk1e] at HS1
                rw [← hz1e] at hlast
                have HSC := Lib.hid (fun W => soHas_same z (L.extract k k1) W (by omega))
                have HBd : Hid (Below w8.heap.size w8 wr.drew) := Lib.hid HBj.out.drew
                have HLC : Hid (∀ wa, Below w8.heap.size w8 wa → Calls Tryz.prog 17 #[.slice A l.length c, .string (L.extract k k1), .string (z.extract z1 z.size)] wa fun e w' => e = .returned (.bool (lieB l (L.extract k k1) lb)) ∧ Below wa.heap.size wa w') := fun wa hB => by
                  rw [hlast, hk1e]
                  exact C5.out wa lb ((HS8.out.below hB).more hB.size)
                have HKE := Lib.hid hk1e
                clear hk1e hz1e hlast C5 hlt1 h3
                cases hh : hasT z (L.extract k k1) with
                | false =>
                  have HS2 : Hid (ip (j + 1) = false) := by show _ = _; rw [HS1.out, hh]; rfl
                  rw [hh] at HSC
                  clear hh HS1 HLC
                  go_wp2_with fail
                  go_quiet (first | (go_at_call 16; exact Calls.quiet_of_same (HSC.out _)))
                  have HBa : Hid (Below w8.heap.size w8 (wr.drewN nq)) := below_drewN HBj.out nq
                  generalize wr.drewN nq = wa at *
                  have hke := HKE.out
                  subst hke
                  clear HSC HBd
                  go_wp2
                  go_roundw
                  case rel => exact ⟨j + 1, by omega, by go_num, by rw [HS2.out], HBa⟩
                  case measure => simp [intOf]; omega
                | true =>
                  have HS2 : Hid (ip (j + 1) = !lieB l (L.extract k k1) lb) := by show _ = _; rw [HS1.out, hh]; rfl
                  rw [hh] at HSC
                  clear hh HS1
                  generalize lieB l (L.extract k k1) lb = lz at *
                  go_wp2_with fail
                  refine wp_region_held_drew (S := (fun w' => Below w8.heap.size w8 w')) (by kernel_rfl) ?_ (fun hHeld => ?_)
                  · exact HBd.out
                  refine take_at (i := 0) (d := 96) (v := .bool false) rfl rfl (by kernel_rfl) (by kernel_rfl) (by kernel_rfl) (fun _ _ _ h => h) (by kernel_rfl) (by (intro w hSw; (try dsimp only at hSw); go_simp)) (by assumption) ?_
                  simp only [List.setIfInBounds_toArray, List.set_cons_succ, List.set_cons_zero]
                  refine take_at (i := 1) (d := 97) (v := .bool false) rfl rfl (by kernel_rfl) (by kernel_rfl) (by kernel_rfl) (fun _ _ _ h => h) (by kernel_rfl) (by (intro w hSw; (try dsimp only at hSw); go_simp)) (by assumption) ?_
                  simp only [List.setIfInBounds_toArray, List.set_cons_succ, List.set_cons_zero]
                  refine take_at (i := 2) (d := 98) (v := .string z) rfl rfl (by kernel_rfl) (by kernel_rfl) (by kernel_rfl) (fun _ _ _ h => h) (by kernel_rfl) (by (intro w hSw; (try dsimp only at hSw); go_simp)) (by assumption) ?_
                  simp only [List.setIfInBounds_toArray, List.set_cons_succ, List.set_cons_zero]
                  refine take_at (i := 3) (d := 99) (v := .string L) rfl rfl (by kernel_rfl) (by kernel_rfl) (by kernel_rfl) (fun _ _ _ h => h) (by kernel_rfl) (by (intro w hSw; (try dsimp only at hSw); go_simp)) (by assumption) ?_
                  simp only [List.setIfInBounds_toArray, List.set_cons_succ, List.set_cons_zero]
                  refine take_at (i := 4) (d := 100) (v := .int .i64 k) rfl rfl (by kernel_rfl) (by kernel_rfl) (by kernel_rfl) (fun _ _ _ h => h) (by kernel_rfl) (by (intro w hSw; (try dsimp only at hSw); go_simp)) (by assumption) ?_
                  simp only [List.setIfInBounds_toArray, List.set_cons_succ, List.set_cons_zero]
                  refine take_at (i := 5) (d := 101) (v := .int .i64 k) rfl rfl (by kernel_rfl) (by kernel_rfl) (by kernel_rfl) (fun _ _ _ h => h) (by kernel_rfl) (by (intro w hSw; (try dsimp only at hSw); go_simp)) (by assumption) ?_
                  simp only [List.setIfInBounds_toArray, List.set_cons_succ, List.set_cons_zero]
                  refine take_at (i := 6) (d := 102) (v := .int .i64 (k1 : Int)) rfl rfl (by kernel_rfl) (by kernel_rfl) (by kernel_rfl) (fun _ _ _ h => h) (by kernel_rfl) (fun _ _ => run_add_op rfl rfl rfl hwk _) (by assumption) ?_
                  simp only [List.setIfInBounds_toArray, List.set_cons_succ, List.set_cons_zero]
                  refine take_at (i := 7) (d := 103) (v := .string (L.extract k k1)) rfl rfl (by kernel_rfl) (by kernel_rfl) (by kernel_rfl) (fun _ _ _ h => h) (by kernel_rfl) (by (intro w hSw; (try dsimp only at hSw); go_simp)) (by assumption) ?_
                  simp only [List.setIfInBounds_toArray, List.set_cons_succ, List.set_cons_zero]
                  refine wpAnyH_ready (rs := [8]) (by kernel_rfl) (by simp) ?_
                  refine AllReadyH.cons rfl (fun K hK => ?_) AllReadyH.nil
                  go_simp
                  refine (HSC.out _).mono ?_
                  rintro e wx ⟨rfl, rfl⟩
                  refine hK.out _ _ hHeld (fun hHeld => ?_)
                  clear hK K
                  refine take_at (i := 9) (d := 105) (v := .bool true) rfl rfl (by kernel_rfl) (by kernel_rfl) (by kernel_rfl) (fun _ _ _ h => h) (by kernel_rfl) (by (intro w hSw; (try dsimp only at hSw); go_simp)) (by assumption) ?_
                  simp only [List.setIfInBounds_toArray, List.set_cons_succ, List.set_cons_zero]
                  refine take_at (i := 10) (d := 106) (v := .slice A l.length c) rfl rfl (by kernel_rfl) (by kernel_rfl) (by kernel_rfl) (fun _ _ _ h => h) (by kernel_rfl) (by (intro w hSw; (try dsimp only at hSw); go_simp)) (by assumption) ?_
                  simp only [List.setIfInBounds_toArray, List.set_cons_succ, List.set_cons_zero]
                  refine take_at (i := 11) (d := 107) (v := .string L) rfl rfl (by kernel_rfl) (by kernel_rfl) (by kernel_rfl) (fun _ _ _ h => h) (by kernel_rfl) (by (intro w hSw; (try dsimp only at hSw); go_simp)) (by assumption) ?_
                  simp only [List.setIfInBounds_toArray, List.set_cons_succ, List.set_cons_zero]
                  refine take_at (i := 12) (d := 108) (v := .int .i64 k) rfl rfl (by kernel_rfl) (by kernel_rfl) (by kernel_rfl) (fun _ _ _ h => h) (by kernel_rfl) (by (intro w hSw; (try dsimp only at hSw); go_simp)) (by assumption) ?_
                  simp only [List.setIfInBounds_toArray, List.set_cons_succ, List.set_cons_zero]
                  refine take_at (i := 13) (d := 109) (v := .int .i64 k) rfl rfl (by kernel_rfl) (by kernel_rfl) (by kernel_rfl) (fun _ _ _ h => h) (by kernel_rfl) (by (intro w hSw; (try dsimp only at hSw); go_simp)) (by assumption) ?_
                  simp only [List.setIfInBounds_toArray, List.set_cons_succ, List.set_cons_zero]
                  refine take_at (i := 14) (d := 110) (v := .int .i64 (k1 : Int)) rfl rfl (by kernel_rfl) (by kernel_rfl) (by kernel_rfl) (fun _ _ _ h => h) (by kernel_rfl) (fun _ _ => run_add_op rfl rfl rfl hwk _) (by assumption) ?_
                  simp only [List.setIfInBounds_toArray, List.set_cons_succ, List.set_cons_zero]
                  refine take_at (i := 15) (d := 111) (v := .string (L.extract k k1)) rfl rfl (by kernel_rfl) (by kernel_rfl) (by kernel_rfl) (fun _ _ _ h => h) (by kernel_rfl) (by (intro w hSw; (try dsimp only at hSw); go_simp)) (by assumption) ?_
                  simp only [List.setIfInBounds_toArray, List.set_cons_succ, List.set_cons_zero]
                  refine take_at (i := 16) (d := 112) (v := .string z) rfl rfl (by kernel_rfl) (by kernel_rfl) (by kernel_rfl) (fun _ _ _ h => h) (by kernel_rfl) (by (intro w hSw; (try dsimp only at hSw); go_simp)) (by assumption) ?_
                  simp only [List.setIfInBounds_toArray, List.set_cons_succ, List.set_cons_zero]
                  refine take_at (i := 17) (d := 113) (v := .string z) rfl rfl (by kernel_rfl) (by kernel_rfl) (by kernel_rfl) (fun _ _ _ h => h) (by kernel_rfl) (by (intro w hSw; (try dsimp only at hSw); go_simp)) (by assumption) ?_
                  simp only [List.setIfInBounds_toArray, List.set_cons_succ, List.set_cons_zero]
                  refine take_at (i := 18) (d := 114) (v := .int .i64 z.size) rfl rfl (by kernel_rfl) (by kernel_rfl) (by kernel_rfl) (fun _ _ _ h => h) (by kernel_rfl) (by (intro w hSw; (try dsimp only at hSw); go_simp)) (by assumption) ?_
                  simp only [List.setIfInBounds_toArray, List.set_cons_succ, List.set_cons_zero]
                  refine take_at (i := 19) (d := 115) (v := .int .i64 (z1 : Int)) rfl rfl (by kernel_rfl) (by kernel_rfl) (by kernel_rfl) (fun _ _ _ h => h) (by kernel_rfl) (fun _ _ => run_sub_op rfl rfl rfl hwz _) (by assumption) ?_
                  simp only [List.setIfInBounds_toArray, List.set_cons_succ, List.set_cons_zero]
                  refine take_at (i := 20) (d := 116) (v := .string (z.extract z1 z.size)) rfl rfl (by kernel_rfl) (by kernel_rfl) (by kernel_rfl) (fun _ _ _ h => h) (by kernel_rfl) (by (intro w hSw; (try dsimp only at hSw); go_simp)) (by assumption) ?_
                  simp only [List.setIfInBounds_toArray, List.set_cons_succ, List.set_cons_zero]
                  refine wpAnyH_ready (rs := [21]) (by kernel_rfl) (by simp) ?_
                  refine AllReadyH.cons rfl (fun K hK => ?_) AllReadyH.nil
                  go_simp
                  refine (HLC.out _ hHeld).mono ?_
                  rintro e wb ⟨rfl, hb2⟩
                  have hs2 : Below w8.heap.size w8 wb := hHeld.trans (hb2.mono hHeld.size)
                  clear hb2 hHeld
                  refine hK.out _ _ hs2 (fun hHeld => ?_)
                  clear hK K hs2
                  refine take_at (i := 22) (d := 118) (v := .bool (!lz)) rfl rfl (by kernel_rfl) (by kernel_rfl) (by kernel_rfl) (fun _ _ _ h => h) (by kernel_rfl) (by (intro w hSw; (try dsimp only at hSw); go_simp)) (by assumption) ?_
                  simp only [List.setIfInBounds_toArray, List.set_cons_succ, List.set_cons_zero]
                  refine take_at (i := 23) (d := 119) (v := .bool (!lz)) rfl rfl (by kernel_rfl) (by kernel_rfl) (by kernel_rfl) (fun _ _ _ h => h) (by kernel_rfl) (by (intro w hSw; (try dsimp only at hSw); go_simp)) (by assumption) ?_
                  simp only [List.setIfInBounds_toArray, List.set_cons_succ, List.set_cons_zero]
                  refine take_at (i := 24) (d := 120) (v := .bool (!lz)) rfl rfl (by kernel_rfl) (by kernel_rfl) (by kernel_rfl) (fun _ _ _ h => h) (by kernel_rfl) (by (intro w hSw; (try dsimp only at hSw); go_simp)) (by assumption) ?_
                  simp only [List.setIfInBounds_toArray, List.set_cons_succ, List.set_cons_zero]
                  refine take_at (i := 25) (d := 17) (v := .bool (!lz)) rfl rfl (by kernel_rfl) (by kernel_rfl) (by kernel_rfl) (fun _ _ _ h => h) (by kernel_rfl) (by (intro w hSw; (try dsimp only at hSw); go_simp)) (by assumption) ?_
                  simp only [List.setIfInBounds_toArray, List.set_cons_succ, List.set_cons_zero]
                  refine wpAnyH_done (by kernel_rfl) ?_ _
                  have HBb : Hid (Below w8.heap.size w8 wb) := hHeld
                  clear hHeld
                  have hke := HKE.out
                  subst hke
                  clear HSC HBd HLC
                  go_wp2
                  go_roundw
                  case rel => exact ⟨j + 1, by omega, by go_num, by rw [HS2.out], HBb⟩
                  case measure => simp [intOf]; omega
            · obtain rfl : j = xs.length := by omega
              have hnj : ¬ ((xs.length : Nat) : Int) < (ts.length : Int) := by have := HLN.out; omega
              rw [HAL.out]
              go_wp2
              go_roundw
              case rel => exact ⟨k + 1, by omega, by go_num, HBj⟩
              case measure => simp [intOf]; omega
        · obtain rfl : k = L.size := by omega
          go_wp2
          go_ret
          exact ⟨rfl, HB8.out.trans (HBk.out.mono HB8.out.size)⟩
    | true =>
      have hli : li = true := HSL.out rfl
      subst hli
      go_wp2_with fail
      refine Calls.mono (C3.out _ HS7.out) ?_
      rintro e w8 ⟨v8, rfl, ho, hb⟩
      obtain ⟨A8, cap8, rfl, -⟩ := St.textsForm ho
      have HLN : Hid ((xs.map strOf).length = xs.length) := List.length_map _
      have HTC : Hid (∀ k (hk : k < xs.length), (xs.map strOf)[k]? = some (strOf xs[k])) := fun k hk => by rw [List.getElem?_map, List.getElem?_eq_getElem hk]; rfl
      generalize xs.map strOf = ts at *
      have htx : ts.length ≤ 80 := by have := HLN.out; omega
      have HO8 := Lib.hid ho
      have HS8 : Hid (Segs w8 w8.heap.size A l) := (HS7.out.below hb).more hb.size
      have HB8 : Hid (Below w.heap.size w w8) := HB7.out.trans (hb.mono HB7.out.size)
      clear hb ho HS7 HB7 C3
      go_wp2
      go_loopw [87] (fun i wr => ∃ k : Nat, k ≤ L.size ∧ i = .int .i64 k ∧ Hid (Below w8.heap.size w8 wr)) (fun i _ => L.size - (intOf i).toNat)
      case atStart => exact ⟨0, Nat.zero_le _, rfl, Lib.hid (Below.refl _ _)⟩
      case round =>
        obtain ⟨k, hk, rfl, HBk⟩ := hrel
        have hk0 : (0 : Int) ≤ (k : Int) := Int.natCast_nonneg _
        by_cases hlt : k < L.size
        · have hlt' : (k : Int) < (L.size : Int) := by omega
          have hlt1 : (k : Int) + 1 ≤ (L.size : Int) := by omega
          have HAL := Lib.hid (HALL.out k hlt)
          have HIP := Lib.hid (fun j (hj : j < xs.length) => inLost_succ l xs (L.extract k (k + 1)) hj)
          have hip0 : inLost l xs (L.extract k (k + 1)) 0 = false := rfl
          have C5 := Lib.hid (fun W v h => C4.out W (L.extract k (k + 1)) v h)
          generalize inLost l xs (L.extract k (k + 1)) = ip at *
          go_wp2
          go_loopw [17, 92] (fun o i wr => ∃ j : Nat, j ≤ xs.length ∧ i = .int .i64 j ∧ o = .bool (ip j) ∧ Hid (Below w8.heap.size w8 wr)) (fun _ i _ => xs.length - (intOf i).toNat)
          case atStart => exact ⟨0, Nat.zero_le _, rfl, by rw [hip0], HBk⟩
          case round =>
            obtain ⟨j, hj, rfl, rfl, HBj⟩ := hrel
            have hj0 : (0 : Int) ≤ (j : Int) := Int.natCast_nonneg _
            by_cases hltj : j < xs.length
            · have hltj' : (j : Int) < (ts.length : Int) := by have := HLN.out; omega
              obtain ⟨b2, o2, hA2, hB2, hc2⟩ := strsOf (HO8.out.below HBj.out) (by omega)
              subst hA2
              have cj := hc2 j _ (HTC.out j hltj)
              have hsz1 : (strOf xs[j]).size = xs[j].length := str_size _
              obtain ⟨htw, hx9⟩ := HTWO.out xs[j] (List.getElem_mem hltj)
              have hlast := str_lastB htw
              have hz1 : 1 ≤ (strOf xs[j]).size := by
                obtain ⟨y, u, v, e⟩ := htw
                rw [hsz1, e]
                simp
              have hz9 : (strOf xs[j]).size ≤ 9 := by omega
              have h3 : ((strOf xs[j]).size : Int) - 1 = (((strOf xs[j]).size - 1 : Nat) : Int) := by omega
              have HS := Lib.hid (HIP.out j hltj)
              clear hc2 hsz1 hx9 htw
              generalize (⟨#[lastB xs[j]]⟩ : ByteArray) = lb at *
              generalize strOf xs[j] = z at *
              cases hip : ip j with
              | true =>
                have HS1 : Hid (ip (j + 1) = true) := by show _ = _; rw [HS.out, hip]; rfl
                clear hip HS
                go_wp2_with fail
                go_quiet (fail)
                go_wp2
                go_roundw
                case rel => exact ⟨j + 1, by omega, by go_num, by rw [HS1.out], Lib.hid (below_drewN HBj.out _)⟩
                case measure => simp [intOf]; omega
              | false =>
                have HS1 : Hid (ip (j + 1) = (hasT z (L.extract k (k + 1)) && !lieB l (L.extract k (k + 1)) lb)) := by show _ = _; rw [HS.out, hip]; rfl
                clear hip HS
                obtain ⟨k1, hk1e⟩ : ∃ k1 : Nat, k1 = k + 1 := ⟨_, rfl⟩
                obtain ⟨z1, hz1e⟩ : ∃ z1 : Nat, z1 = z.size - 1 := ⟨_, rfl⟩
                have hwk : IntKind.i64.wrap ((k : Int) + 1) = (k1 : Int) := (IntWalk.i64_in _ (by omega)).trans (by omega)
                have hwz : IntKind.i64.wrap ((z.size : Int) - 1) = (z1 : Int) := (IntWalk.i64_in _ (by omega)).trans (by omega)
                have hkk : (k : Int) ≤ (k1 : Int) := by omega
                have hkL : (k1 : Int) ≤ (L.size : Int) := by omega
                have hzz : (z1 : Int) ≤ (z.size : Int) := by omega
                rw [← hk1e] at HS1
                rw [← hz1e] at hlast
                have HSC := Lib.hid (fun W => soHas_same z (L.extract k k1) W (by omega))
                have HBd : Hid (Below w8.heap.size w8 wr.drew) := Lib.hid HBj.out.drew
                have HLC : Hid (∀ wa, Below w8.heap.size w8 wa → Calls Tryz.prog 17 #[.slice A l.length c, .string (L.extract k k1), .string (z.extract z1 z.size)] wa fun e w' => e = .returned (.bool (lieB l (L.extract k k1) lb)) ∧ Below wa.heap.size wa w') := fun wa hB => by
                  rw [hlast, hk1e]
                  exact C5.out wa lb ((HS8.out.below hB).more hB.size)
                have HKE := Lib.hid hk1e
                clear hk1e hz1e hlast C5 hlt1 h3
                cases hh : hasT z (L.extract k k1) with
                | false =>
                  have HS2 : Hid (ip (j + 1) = false) := by show _ = _; rw [HS1.out, hh]; rfl
                  rw [hh] at HSC
                  clear hh HS1 HLC
                  go_wp2_with fail
                  go_quiet (first | (go_at_call 16; exact Calls.quiet_of_same (HSC.out _)))
                  have HBa : Hid (Below w8.heap.size w8 (wr.drewN nq)) := below_drewN HBj.out nq
                  generalize wr.drewN nq = wa at *
                  have hke := HKE.out
                  subst hke
                  clear HSC HBd
                  go_wp2
                  go_roundw
                  case rel => exact ⟨j + 1, by omega, by go_num, by rw [HS2.out], HBa⟩
                  case measure => simp [intOf]; omega
                | true =>
                  have HS2 : Hid (ip (j + 1) = !lieB l (L.extract k k1) lb) := by show _ = _; rw [HS1.out, hh]; rfl
                  rw [hh] at HSC
                  clear hh HS1
                  generalize lieB l (L.extract k k1) lb = lz at *
                  go_wp2_with fail
                  refine wp_region_held_drew (S := (fun w' => Below w8.heap.size w8 w')) (by kernel_rfl) ?_ (fun hHeld => ?_)
                  · exact HBd.out
                  refine take_at (i := 0) (d := 96) (v := .bool false) rfl rfl (by kernel_rfl) (by kernel_rfl) (by kernel_rfl) (fun _ _ _ h => h) (by kernel_rfl) (by (intro w hSw; (try dsimp only at hSw); go_simp)) (by assumption) ?_
                  simp only [List.setIfInBounds_toArray, List.set_cons_succ, List.set_cons_zero]
                  refine take_at (i := 1) (d := 97) (v := .bool false) rfl rfl (by kernel_rfl) (by kernel_rfl) (by kernel_rfl) (fun _ _ _ h => h) (by kernel_rfl) (by (intro w hSw; (try dsimp only at hSw); go_simp)) (by assumption) ?_
                  simp only [List.setIfInBounds_toArray, List.set_cons_succ, List.set_cons_zero]
                  refine take_at (i := 2) (d := 98) (v := .string z) rfl rfl (by kernel_rfl) (by kernel_rfl) (by kernel_rfl) (fun _ _ _ h => h) (by kernel_rfl) (by (intro w hSw; (try dsimp only at hSw); go_simp)) (by assumption) ?_
                  simp only [List.setIfInBounds_toArray, List.set_cons_succ, List.set_cons_zero]
                  refine take_at (i := 3) (d := 99) (v := .string L) rfl rfl (by kernel_rfl) (by kernel_rfl) (by kernel_rfl) (fun _ _ _ h => h) (by kernel_rfl) (by (intro w hSw; (try dsimp only at hSw); go_simp)) (by assumption) ?_
                  simp only [List.setIfInBounds_toArray, List.set_cons_succ, List.set_cons_zero]
                  refine take_at (i := 4) (d := 100) (v := .int .i64 k) rfl rfl (by kernel_rfl) (by kernel_rfl) (by kernel_rfl) (fun _ _ _ h => h) (by kernel_rfl) (by (intro w hSw; (try dsimp only at hSw); go_simp)) (by assumption) ?_
                  simp only [List.setIfInBounds_toArray, List.set_cons_succ, List.set_cons_zero]
                  refine take_at (i := 5) (d := 101) (v := .int .i64 k) rfl rfl (by kernel_rfl) (by kernel_rfl) (by kernel_rfl) (fun _ _ _ h => h) (by kernel_rfl) (by (intro w hSw; (try dsimp only at hSw); go_simp)) (by assumption) ?_
                  simp only [List.setIfInBounds_toArray, List.set_cons_succ, List.set_cons_zero]
                  refine take_at (i := 6) (d := 102) (v := .int .i64 (k1 : Int)) rfl rfl (by kernel_rfl) (by kernel_rfl) (by kernel_rfl) (fun _ _ _ h => h) (by kernel_rfl) (fun _ _ => run_add_op rfl rfl rfl hwk _) (by assumption) ?_
                  simp only [List.setIfInBounds_toArray, List.set_cons_succ, List.set_cons_zero]
                  refine take_at (i := 7) (d := 103) (v := .string (L.extract k k1)) rfl rfl (by kernel_rfl) (by kernel_rfl) (by kernel_rfl) (fun _ _ _ h => h) (by kernel_rfl) (by (intro w hSw; (try dsimp only at hSw); go_simp)) (by assumption) ?_
                  simp only [List.setIfInBounds_toArray, List.set_cons_succ, List.set_cons_zero]
                  refine wpAnyH_ready (rs := [8]) (by kernel_rfl) (by simp) ?_
                  refine AllReadyH.cons rfl (fun K hK => ?_) AllReadyH.nil
                  go_simp
                  refine (HSC.out _).mono ?_
                  rintro e wx ⟨rfl, rfl⟩
                  refine hK.out _ _ hHeld (fun hHeld => ?_)
                  clear hK K
                  refine take_at (i := 9) (d := 105) (v := .bool true) rfl rfl (by kernel_rfl) (by kernel_rfl) (by kernel_rfl) (fun _ _ _ h => h) (by kernel_rfl) (by (intro w hSw; (try dsimp only at hSw); go_simp)) (by assumption) ?_
                  simp only [List.setIfInBounds_toArray, List.set_cons_succ, List.set_cons_zero]
                  refine take_at (i := 10) (d := 106) (v := .slice A l.length c) rfl rfl (by kernel_rfl) (by kernel_rfl) (by kernel_rfl) (fun _ _ _ h => h) (by kernel_rfl) (by (intro w hSw; (try dsimp only at hSw); go_simp)) (by assumption) ?_
                  simp only [List.setIfInBounds_toArray, List.set_cons_succ, List.set_cons_zero]
                  refine take_at (i := 11) (d := 107) (v := .string L) rfl rfl (by kernel_rfl) (by kernel_rfl) (by kernel_rfl) (fun _ _ _ h => h) (by kernel_rfl) (by (intro w hSw; (try dsimp only at hSw); go_simp)) (by assumption) ?_
                  simp only [List.setIfInBounds_toArray, List.set_cons_succ, List.set_cons_zero]
                  refine take_at (i := 12) (d := 108) (v := .int .i64 k) rfl rfl (by kernel_rfl) (by kernel_rfl) (by kernel_rfl) (fun _ _ _ h => h) (by kernel_rfl) (by (intro w hSw; (try dsimp only at hSw); go_simp)) (by assumption) ?_
                  simp only [List.setIfInBounds_toArray, List.set_cons_succ, List.set_cons_zero]
                  refine take_at (i := 13) (d := 109) (v := .int .i64 k) rfl rfl (by kernel_rfl) (by kernel_rfl) (by kernel_rfl) (fun _ _ _ h => h) (by kernel_rfl) (by (intro w hSw; (try dsimp only at hSw); go_simp)) (by assumption) ?_
                  simp only [List.setIfInBounds_toArray, List.set_cons_succ, List.set_cons_zero]
                  refine take_at (i := 14) (d := 110) (v := .int .i64 (k1 : Int)) rfl rfl (by kernel_rfl) (by kernel_rfl) (by kernel_rfl) (fun _ _ _ h => h) (by kernel_rfl) (fun _ _ => run_add_op rfl rfl rfl hwk _) (by assumption) ?_
                  simp only [List.setIfInBounds_toArray, List.set_cons_succ, List.set_cons_zero]
                  refine take_at (i := 15) (d := 111) (v := .string (L.extract k k1)) rfl rfl (by kernel_rfl) (by kernel_rfl) (by kernel_rfl) (fun _ _ _ h => h) (by kernel_rfl) (by (intro w hSw; (try dsimp only at hSw); go_simp)) (by assumption) ?_
                  simp only [List.setIfInBounds_toArray, List.set_cons_succ, List.set_cons_zero]
                  refine take_at (i := 16) (d := 112) (v := .string z) rfl rfl (by kernel_rfl) (by kernel_rfl) (by kernel_rfl) (fun _ _ _ h => h) (by kernel_rfl) (by (intro w hSw; (try dsimp only at hSw); go_simp)) (by assumption) ?_
                  simp only [List.setIfInBounds_toArray, List.set_cons_succ, List.set_cons_zero]
                  refine take_at (i := 17) (d := 113) (v := .string z) rfl rfl (by kernel_rfl) (by kernel_rfl) (by kernel_rfl) (fun _ _ _ h => h) (by kernel_rfl) (by (intro w hSw; (try dsimp only at hSw); go_simp)) (by assumption) ?_
                  simp only [List.setIfInBounds_toArray, List.set_cons_succ, List.set_cons_zero]
                  refine take_at (i := 18) (d := 114) (v := .int .i64 z.size) rfl rfl (by kernel_rfl) (by kernel_rfl) (by kernel_rfl) (fun _ _ _ h => h) (by kernel_rfl) (by (intro w hSw; (try dsimp only at hSw); go_simp)) (by assumption) ?_
                  simp only [List.setIfInBounds_toArray, List.set_cons_succ, List.set_cons_zero]
                  refine take_at (i := 19) (d := 115) (v := .int .i64 (z1 : Int)) rfl rfl (by kernel_rfl) (by kernel_rfl) (by kernel_rfl) (fun _ _ _ h => h) (by kernel_rfl) (fun _ _ => run_sub_op rfl rfl rfl hwz _) (by assumption) ?_
                  simp only [List.setIfInBounds_toArray, List.set_cons_succ, List.set_cons_zero]
                  refine take_at (i := 20) (d := 116) (v := .string (z.extract z1 z.size)) rfl rfl (by kernel_rfl) (by kernel_rfl) (by kernel_rfl) (fun _ _ _ h => h) (by kernel_rfl) (by (intro w hSw; (try dsimp only at hSw); go_simp)) (by assumption) ?_
                  simp only [List.setIfInBounds_toArray, List.set_cons_succ, List.set_cons_zero]
                  refine wpAnyH_ready (rs := [21]) (by kernel_rfl) (by simp) ?_
                  refine AllReadyH.cons rfl (fun K hK => ?_) AllReadyH.nil
                  go_simp
                  refine (HLC.out _ hHeld).mono ?_
                  rintro e wb ⟨rfl, hb2⟩
                  have hs2 : Below w8.heap.size w8 wb := hHeld.trans (hb2.mono hHeld.size)
                  clear hb2 hHeld
                  refine hK.out _ _ hs2 (fun hHeld => ?_)
                  clear hK K hs2
                  refine take_at (i := 22) (d := 118) (v := .bool (!lz)) rfl rfl (by kernel_rfl) (by kernel_rfl) (by kernel_rfl) (fun _ _ _ h => h) (by kernel_rfl) (by (intro w hSw; (try dsimp only at hSw); go_simp)) (by assumption) ?_
                  simp only [List.setIfInBounds_toArray, List.set_cons_succ, List.set_cons_zero]
                  refine take_at (i := 23) (d := 119) (v := .bool (!lz)) rfl rfl (by kernel_rfl) (by kernel_rfl) (by kernel_rfl) (fun _ _ _ h => h) (by kernel_rfl) (by (intro w hSw; (try dsimp only at hSw); go_simp)) (by assumption) ?_
                  simp only [List.setIfInBounds_toArray, List.set_cons_succ, List.set_cons_zero]
                  refine take_at (i := 24) (d := 120) (v := .bool (!lz)) rfl rfl (by kernel_rfl) (by kernel_rfl) (by kernel_rfl) (fun _ _ _ h => h) (by kernel_rfl) (by (intro w hSw; (try dsimp only at hSw); go_simp)) (by assumption) ?_
                  simp only [List.setIfInBounds_toArray, List.set_cons_succ, List.set_cons_zero]
                  refine take_at (i := 25) (d := 17) (v := .bool (!lz)) rfl rfl (by kernel_rfl) (by kernel_rfl) (by kernel_rfl) (fun _ _ _ h => h) (by kernel_rfl) (by (intro w hSw; (try dsimp only at hSw); go_simp)) (by assumption) ?_
                  simp only [List.setIfInBounds_toArray, List.set_cons_succ, List.set_cons_zero]
                  refine wpAnyH_done (by kernel_rfl) ?_ _
                  have HBb : Hid (Below w8.heap.size w8 wb) := hHeld
                  clear hHeld
                  have hke := HKE.out
                  subst hke
                  clear HSC HBd HLC
                  go_wp2
                  go_roundw
                  case rel => exact ⟨j + 1, by omega, by go_num, by rw [HS2.out], HBb⟩
                  case measure => simp [intOf]; omega
            · obtain rfl : j = xs.length := by omega
              have hnj : ¬ ((xs.length : Nat) : Int) < (ts.length : Int) := by have := HLN.out; omega
              rw [HAL.out]
              go_wp2
              go_roundw
              case rel => exact ⟨k + 1, by omega, by go_num, HBj⟩
              case measure => simp [intOf]; omega
        · obtain rfl : k = L.size := by omega
          go_wp2
          go_ret
          exact ⟨rfl, HB8.out.trans (HBk.out.mono HB8.out.size)⟩

end Go.Proofs.YtbmfbnlmdjnddaaGreat
