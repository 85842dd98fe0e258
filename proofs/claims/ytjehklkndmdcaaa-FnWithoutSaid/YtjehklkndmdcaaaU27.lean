/- Joined: Xf. -/
import Derived.Test.YtjehklkndmdcaaaU26
import Derived.Test.YtjehklkndmdcaaaU12
/- The law FnWithout: its walk. -/
namespace Go.Proofs.Ytjehklkndmdcaaa
open Go.RowKit

theorem bytes_laterU {w w' : World} {A : Option Addr} {m : Nat} (h : ∀ b, w.heap.size ≤ b → Bytes w b A m) (hb : Below w.heap.size w w') : ∀ b, w'.heap.size ≤ b → Bytes w' b A m := fun b hbb h0 => by
  have hz := hb.size
  obtain ⟨g, o, rfl, hne, hlt, hx⟩ := h b (by omega) h0
  refine ⟨g, o, rfl, hne, by omega, fun i hi => ?_⟩
  obtain ⟨x, hc, hx2⟩ := hx i hi
  exact ⟨x, (hb.cell (p := ⟨g, o + i, none⟩) hlt).trans hc, hx2⟩

set_option maxRecDepth 100000 in
set_option maxHeartbeats 1000000 in
theorem drawTwice_plain (hgood : GoodSaid) (A0 : Option Addr) (n c0 : Nat) (w : World) (hn : n ≤ c0) (hx : ∀ b, w.heap.size ≤ b → Bytes w b A0 n) :
    Calls Try.prog 16 #[.slice A0 n c0] w fun e w' => ∃ A l c x, e = .returned (.tuple #[.slice A (List.length l) c, .string x]) ∧ TreeHas w' A l c ∧ x.size ≤ 82 ∧ Below w.heap.size w w' := by
  have HO := Lib.hid (drawTraceValid_plain hgood A0 n c0 w hn hx)
  clear hx hgood
  go_enter Try.func16, Try.ntmps16
  go_wp2_with fail
  refine Calls.mono HO.out ?_
  rintro e w1 ⟨A, l, c, x, rfl, hT, hxx, hb⟩
  have HT := Lib.hid hT
  have HX := Lib.hid hxx
  have HB := Lib.hid hb
  clear hT hxx hb HO
  go_wp2
  refine bodyPost_ret (v := .tuple #[.slice A l.length c, .string x]) (by simp [results, Try.results16, go_sem]) rfl ?_
  exact ⟨A, l, c, x, rfl, HT.out, HX.out, HB.out⟩

set_option maxRecDepth 100000 in
set_option maxHeartbeats 16000000 in
theorem withoutLaw_any (hgood : GoodSaid) (A0 : Option Addr) (n c0 : Nat) (A2 : Option Addr) (n2 c2 : Nat) (w : World) (hn : n ≤ c0) (hm : n ≤ maxLen) (hx : ∀ b, w.heap.size ≤ b → Bytes w b A0 n) (hn2 : n2 ≤ c2) (hm2 : n2 ≤ maxLen) (hx2 : ∀ b, w.heap.size ≤ b → Bytes w b A2 n2) :
    Calls Try.prog 4 #[.slice A0 n c0, .slice A2 n2 c2] w fun e w' => e = .returned (.bool true) ∧ Below w.heap.size w w' := by
  unfold maxLen at hm hm2
  by_cases hbig : 1048576 < n
  · clear hx hx2 hgood
    go_enter Try.func4, Try.ntmps4
    go_wp2
    go_ret
    exact ⟨rfl, Below.refl _ _⟩
  by_cases hbig2 : 1048576 < n2
  · clear hx hx2 hgood
    go_enter Try.func4, Try.ntmps4
    go_wp2
    go_ret
    exact ⟨rfl, Below.refl _ _⟩
  have HD := Lib.hid (drawWithout_plain hgood A0 n c0 w hn hx)
  have HD2 := Lib.hid (fun w' (hb : Below w.heap.size w w') => drawTwice_plain hgood A2 n2 c2 w' hn2 (bytes_laterU hx2 hb))
  clear hx hx2 hgood
  go_enter Try.func4, Try.ntmps4
  go_wp2_with fail
  refine Calls.mono HD.out ?_
  rintro e w1 ⟨A, l, c, t, m, rfl, ⟨hS, ⟨hl9, hlc, hcm⟩, hsh⟩, htz, hmz, hb1⟩
  have hl : l.length ≤ 1048576 := by omega
  have ht : t.size ≤ 1048576 := by omega
  have HSH := Lib.hid (fun s hs => Nat.le_trans (hsh s hs) (by decide) : Short l)
  have HS1 : Hid (Segs w1 w1.heap.size A l) := hS
  have HB1 : Hid (Below w.heap.size w w1) := hb1
  have C1 := Lib.hid (fun w h => without_any A l c t m w h hl hlc hcm HSH.out ht)
  have C2 := Lib.hid (fun w h => specWithout_any A l c t m w h hl HSH.out ht)
  have C3 := Lib.hid (fun x (hx : x.size ≤ 80) w h => without_any A l c x m w h hl hlc hcm HSH.out (by omega))
  have C4 := Lib.hid (fun x (hx : x.size ≤ 80) w h => traceValid_any A l c x w h hl hlc hcm HSH.out (by omega))
  have C5 := Lib.hid (fun x (hx : x.size ≤ 82) w h => implCountCalls_any A l c x w h hl hlc hcm HSH.out (by omega))
  have HOKN : Hid (withoutOk l t m = false → withoutRes l t m = ⟨#[]⟩) := fun h => lessN_said h
  have HOKY : Hid (withoutOk l t m = true → ∃ x : ByteArray, withoutRes l t m = x ∧ withoutOk l t m = true ∧ (traceB l x.data.toList).isSome = true ∧ withoutRes l x m = x ∧ withoutOk l x m = true ∧ x.size ≤ 80 ∧ countRes l x ≤ countRes l t ∧ hasT x m = false ∧ (hasT t m = true ∨ x = t)) := fun h => by
    unfold withoutOk at h
    simp only [Bool.and_eq_true, decide_eq_true_eq] at h
    obtain ⟨f, hf⟩ := Option.isSome_iff_exists.1 h.1
    exact less_said hf h.2
  have HEX : Hid (∃ x, withoutRes l t m = x) := ⟨_, rfl⟩
  clear hS hb1 HD hsh
  cases hok : withoutOk l t m with
  | false =>
    have hnone := HOKN.out hok
    rw [hok, hnone] at C1 C2
    clear HOKN HOKY HEX C3 C4 C5
    go_wp2_with fail
    refine (C1.out _ HS1.out).mono ?_
    rintro e w2 ⟨rfl, hb⟩
    have HS2 : Hid (Segs w2 w2.heap.size A l) := (HS1.out.below hb).more hb.size
    have HB2 : Hid (Below w.heap.size w w2) := HB1.out.trans (hb.mono HB1.out.size)
    clear hb HS1 HB1 
    go_wp2_with fail
    refine (C2.out _ HS2.out).mono ?_
    rintro e w3 ⟨rfl, hb⟩
    have HS3 : Hid (Segs w3 w3.heap.size A l) := (HS2.out.below hb).more hb.size
    have HB3 : Hid (Below w.heap.size w w3) := HB2.out.trans (hb.mono HB2.out.size)
    clear hb HS2 HB2 
    go_wp2_with fail
    refine Calls.mono (HD2.out _ HB3.out) ?_
    rintro e w4 ⟨A', l', c', t', rfl, ⟨hS', ⟨hl9', hlc', hcm'⟩, hsh'⟩, htz', hb⟩
    have hl' : l'.length ≤ 1048576 := by omega
    have ht' : t'.size ≤ 1048576 := by omega
    have HSH' := Lib.hid (fun s hs => Nat.le_trans (hsh' s hs) (by decide) : Short l')
    have HS4 : Hid (Segs w4 w4.heap.size A l) := (HS3.out.below hb).more hb.size
    have HT4 : Hid (Segs w4 w4.heap.size A' l') := hS'
    have HB4 : Hid (Below w.heap.size w w4) := HB3.out.trans (hb.mono HB3.out.size)
    have D1 := Lib.hid (fun w h => twice_any A' l' c' t' w h hl' hlc' hcm' HSH'.out ht')
    have D2 := Lib.hid (fun w h => specTwice_any A' l' c' t' w h hl' HSH'.out ht')
    have D3 := Lib.hid (fun x (hx : x.size ≤ 82) w h => implCountCalls_any A' l' c' x w h hl' hlc' hcm' HSH'.out (by omega))
    have D4 := Lib.hid (fun x (hx : x.size ≤ 82) w h => implDepthOf_any A' l' c' x w h hl' hlc' hcm' HSH'.out (by omega))
    have HTW : Hid (twiceOk l' t' = true → (twiceRes l' t').size ≤ 80 ∧ ∃ k : Nat, k ≤ 80 ∧ countRes l' t' = k ∧ countRes l' (twiceRes l' t') = ((2 * k : Nat) : Int) ∧ depthRes l' (twiceRes l' t') = depthRes l' t') := fun h => twice_said h
    clear hS' hb hsh' HD2 HS3 HB3
    cases hto : twiceOk l' t' with
    | false =>
      rw [hto] at D1 D2
      clear HTW D3 D4
      generalize twiceRes l' t' = tw at *
      go_wp2_with fail
      refine (D1.out _ HT4.out).mono ?_
      rintro e w5 ⟨rfl, hb⟩
      have HS5 : Hid (Segs w5 w5.heap.size A l) := (HS4.out.below hb).more hb.size
      have HT5 : Hid (Segs w5 w5.heap.size A' l') := (HT4.out.below hb).more hb.size
      have HB5 : Hid (Below w.heap.size w w5) := HB4.out.trans (hb.mono HB4.out.size)
      clear hb HS4 HB4 HT4
      go_wp2_with fail
      refine (D2.out _ HT5.out).mono ?_
      rintro e w6 ⟨rfl, hb⟩
      have HS6 : Hid (Segs w6 w6.heap.size A l) := (HS5.out.below hb).more hb.size
      have HT6 : Hid (Segs w6 w6.heap.size A' l') := (HT5.out.below hb).more hb.size
      have HB6 : Hid (Below w.heap.size w w6) := HB5.out.trans (hb.mono HB5.out.size)
      clear hb HS5 HB5 HT5
      go_wp2
      go_ret
      exact ⟨rfl, HB6.out⟩
    | true =>
      rw [hto] at D1 D2
      obtain ⟨hz80, k, hk80, hck, hc2, hdd⟩ := HTW.out hto
      clear HTW
      have E1 := Lib.hid (D3.out (twiceRes l' t') (by omega))
      have E2 := Lib.hid (D3.out t' htz')
      have E3 := Lib.hid (D4.out (twiceRes l' t') (by omega))
      have E4 := Lib.hid (D4.out t' htz')
      rw [hc2] at E1
      rw [hck] at E2
      rw [hdd] at E3
      clear D3 D4 hc2 hck hdd
      generalize twiceRes l' t' = tw at *
      generalize depthRes l' t' = dp at *
      have hmul : IntKind.i64.wrap (2 * (k : Int)) = ((2 * k : Nat) : Int) := (IntWalk.i64_in _ (by omega)).trans (by omega)
      generalize 2 * k = k2 at *
      go_wp2_with fail
      refine (D1.out _ HT4.out).mono ?_
      rintro e w5 ⟨rfl, hb⟩
      have HS5 : Hid (Segs w5 w5.heap.size A l) := (HS4.out.below hb).more hb.size
      have HT5 : Hid (Segs w5 w5.heap.size A' l') := (HT4.out.below hb).more hb.size
      have HB5 : Hid (Below w.heap.size w w5) := HB4.out.trans (hb.mono HB4.out.size)
      clear hb HS4 HB4 HT4
      go_wp2_with fail
      refine (D2.out _ HT5.out).mono ?_
      rintro e w6 ⟨rfl, hb⟩
      have HS6 : Hid (Segs w6 w6.heap.size A l) := (HS5.out.below hb).more hb.size
      have HT6 : Hid (Segs w6 w6.heap.size A' l') := (HT5.out.below hb).more hb.size
      have HB6 : Hid (Below w.heap.size w w6) := HB5.out.trans (hb.mono HB5.out.size)
      clear hb HS5 HB5 HT5
      go_wp2_with fail
      refine (E1.out _ HT6.out).mono ?_
      rintro e w7 ⟨rfl, hb⟩
      have HS7 : Hid (Segs w7 w7.heap.size A l) := (HS6.out.below hb).more hb.size
      have HT7 : Hid (Segs w7 w7.heap.size A' l') := (HT6.out.below hb).more hb.size
      have HB7 : Hid (Below w.heap.size w w7) := HB6.out.trans (hb.mono HB6.out.size)
      clear hb HS6 HB6 HT6
      go_wp2_with fail
      refine (E2.out _ HT7.out).mono ?_
      rintro e w8 ⟨rfl, hb⟩
      have HS8 : Hid (Segs w8 w8.heap.size A l) := (HS7.out.below hb).more hb.size
      have HT8 : Hid (Segs w8 w8.heap.size A' l') := (HT7.out.below hb).more hb.size
      have HB8 : Hid (Below w.heap.size w w8) := HB7.out.trans (hb.mono HB7.out.size)
      clear hb HS7 HB7 HT7
      go_wp2_with fail
      refine (E3.out _ HT8.out).mono ?_
      rintro e w9 ⟨rfl, hb⟩
      have HS9 : Hid (Segs w9 w9.heap.size A l) := (HS8.out.below hb).more hb.size
      have HT9 : Hid (Segs w9 w9.heap.size A' l') := (HT8.out.below hb).more hb.size
      have HB9 : Hid (Below w.heap.size w w9) := HB8.out.trans (hb.mono HB8.out.size)
      clear hb HS8 HB8 HT8
      go_wp2_with fail
      refine (E4.out _ HT9.out).mono ?_
      rintro e w10 ⟨rfl, hb⟩
      have HS10 : Hid (Segs w10 w10.heap.size A l) := (HS9.out.below hb).more hb.size
      have HT10 : Hid (Segs w10 w10.heap.size A' l') := (HT9.out.below hb).more hb.size
      have HB10 : Hid (Below w.heap.size w w10) := HB9.out.trans (hb.mono HB9.out.size)
      clear hb HS9 HB9 HT9
      go_wp2
      go_ret
      exact ⟨rfl, HB10.out⟩
  | true =>
    obtain ⟨x, hx1, -, htv, hx2, hx3, hx80, hcc, hno, hor⟩ := HOKY.out hok
    rw [hok, hx1] at C1 C2
    have C3 := Lib.hid (C3.out x hx80)
    rw [hx2, hx3] at C3
    have C4 := Lib.hid (C4.out x hx80)
    rw [htv] at C4
    have C5x := Lib.hid (C5.out x (by omega))
    have C5t := Lib.hid (C5.out t htz)
    clear HOKN HOKY HEX hok hx1 hx2 hx3 htv C5
    generalize countRes l x = cx at *
    generalize countRes l t = ct at *
    go_wp2_with fail
    refine (C1.out _ HS1.out).mono ?_
    rintro e w2 ⟨rfl, hb⟩
    have HS2 : Hid (Segs w2 w2.heap.size A l) := (HS1.out.below hb).more hb.size
    have HB2 : Hid (Below w.heap.size w w2) := HB1.out.trans (hb.mono HB1.out.size)
    clear hb HS1 HB1 
    go_wp2_with fail
    refine (C2.out _ HS2.out).mono ?_
    rintro e w3 ⟨rfl, hb⟩
    have HS3 : Hid (Segs w3 w3.heap.size A l) := (HS2.out.below hb).more hb.size
    have HB3 : Hid (Below w.heap.size w w3) := HB2.out.trans (hb.mono HB2.out.size)
    clear hb HS2 HB2 
    go_wp2_with fail
    refine Calls.mono (HD2.out _ HB3.out) ?_
    rintro e w4 ⟨A', l', c', t', rfl, ⟨hS', ⟨hl9', hlc', hcm'⟩, hsh'⟩, htz', hb⟩
    have hl' : l'.length ≤ 1048576 := by omega
    have ht' : t'.size ≤ 1048576 := by omega
    have HSH' := Lib.hid (fun s hs => Nat.le_trans (hsh' s hs) (by decide) : Short l')
    have HS4 : Hid (Segs w4 w4.heap.size A l) := (HS3.out.below hb).more hb.size
    have HT4 : Hid (Segs w4 w4.heap.size A' l') := hS'
    have HB4 : Hid (Below w.heap.size w w4) := HB3.out.trans (hb.mono HB3.out.size)
    have D1 := Lib.hid (fun w h => twice_any A' l' c' t' w h hl' hlc' hcm' HSH'.out ht')
    have D2 := Lib.hid (fun w h => specTwice_any A' l' c' t' w h hl' HSH'.out ht')
    have D3 := Lib.hid (fun x (hx : x.size ≤ 82) w h => implCountCalls_any A' l' c' x w h hl' hlc' hcm' HSH'.out (by omega))
    have D4 := Lib.hid (fun x (hx : x.size ≤ 82) w h => implDepthOf_any A' l' c' x w h hl' hlc' hcm' HSH'.out (by omega))
    have HTW : Hid (twiceOk l' t' = true → (twiceRes l' t').size ≤ 80 ∧ ∃ k : Nat, k ≤ 80 ∧ countRes l' t' = k ∧ countRes l' (twiceRes l' t') = ((2 * k : Nat) : Int) ∧ depthRes l' (twiceRes l' t') = depthRes l' t') := fun h => twice_said h
    clear hS' hb hsh' HD2 HS3 HB3
    cases hto : twiceOk l' t' with
    | false =>
      rw [hto] at D1 D2
      clear HTW D3 D4
      generalize twiceRes l' t' = tw at *
      go_wp2_with fail
      refine (D1.out _ HT4.out).mono ?_
      rintro e w5 ⟨rfl, hb⟩
      have HS5 : Hid (Segs w5 w5.heap.size A l) := (HS4.out.below hb).more hb.size
      have HT5 : Hid (Segs w5 w5.heap.size A' l') := (HT4.out.below hb).more hb.size
      have HB5 : Hid (Below w.heap.size w w5) := HB4.out.trans (hb.mono HB4.out.size)
      clear hb HS4 HB4 HT4
      go_wp2_with fail
      refine (D2.out _ HT5.out).mono ?_
      rintro e w6 ⟨rfl, hb⟩
      have HS6 : Hid (Segs w6 w6.heap.size A l) := (HS5.out.below hb).more hb.size
      have HT6 : Hid (Segs w6 w6.heap.size A' l') := (HT5.out.below hb).more hb.size
      have HB6 : Hid (Below w.heap.size w w6) := HB5.out.trans (hb.mono HB5.out.size)
      clear hb HS5 HB5 HT5
      go_wp2_with fail
      refine (C3.out _ HS6.out).mono ?_
      rintro e w7 ⟨rfl, hb⟩
      have HS7 : Hid (Segs w7 w7.heap.size A l) := (HS6.out.below hb).more hb.size
      have HB7 : Hid (Below w.heap.size w w7) := HB6.out.trans (hb.mono HB6.out.size)
      clear hb HS6 HB6 
      go_wp2_with fail
      refine (C4.out _ HS7.out).mono ?_
      rintro e w8 ⟨rfl, hb⟩
      have HS8 : Hid (Segs w8 w8.heap.size A l) := (HS7.out.below hb).more hb.size
      have HB8 : Hid (Below w.heap.size w w8) := HB7.out.trans (hb.mono HB7.out.size)
      clear hb HS7 HB7 
      go_wp2_with fail
      refine (soHas_any x m w8 (by omega)).mono ?_
      rw [hno]
      rintro e w9 ⟨rfl, hb⟩
      have HS9 : Hid (Segs w9 w9.heap.size A l) := (HS8.out.below hb).more hb.size
      have HB9 : Hid (Below w.heap.size w w9) := HB8.out.trans (hb.mono HB8.out.size)
      clear hb HS8 HB8 
      go_wp2_with fail
      refine (soHas_any t m w9 (by omega)).mono ?_
      rintro e w10 ⟨rfl, hb⟩
      have HS10 : Hid (Segs w10 w10.heap.size A l) := (HS9.out.below hb).more hb.size
      have HB10 : Hid (Below w.heap.size w w10) := HB9.out.trans (hb.mono HB9.out.size)
      clear hb HS9 HB9 
      rcases hor with hor | hor
      · rw [hor]
        go_wp2_with fail
        refine (C5x.out _ HS10.out).mono ?_
        rintro e w11 ⟨rfl, hb⟩
        have HS11 : Hid (Segs w11 w11.heap.size A l) := (HS10.out.below hb).more hb.size
        have HB11 : Hid (Below w.heap.size w w11) := HB10.out.trans (hb.mono HB10.out.size)
        clear hb HS10 HB10 
        go_wp2_with fail
        refine (C5t.out _ HS11.out).mono ?_
        rintro e w12 ⟨rfl, hb⟩
        have HS12 : Hid (Segs w12 w12.heap.size A l) := (HS11.out.below hb).more hb.size
        have HB12 : Hid (Below w.heap.size w w12) := HB11.out.trans (hb.mono HB11.out.size)
        clear hb HS11 HB11 
        go_wp2
        go_ret
        exact ⟨rfl, HB12.out⟩
      · cases hh : hasT t m with
        | true =>
          have hxt : (x.toList == t.toList) = true := by rw [hor]; exact beq_self_eq_true _
          clear hor hh
          go_wp2_with fail
          refine (C5x.out _ HS10.out).mono ?_
          rintro e w11 ⟨rfl, hb⟩
          have HS11 : Hid (Segs w11 w11.heap.size A l) := (HS10.out.below hb).more hb.size
          have HB11 : Hid (Below w.heap.size w w11) := HB10.out.trans (hb.mono HB10.out.size)
          clear hb HS10 HB10 
          go_wp2_with fail
          refine (C5t.out _ HS11.out).mono ?_
          rintro e w12 ⟨rfl, hb⟩
          have HS12 : Hid (Segs w12 w12.heap.size A l) := (HS11.out.below hb).more hb.size
          have HB12 : Hid (Below w.heap.size w w12) := HB11.out.trans (hb.mono HB11.out.size)
          clear hb HS11 HB11 
          go_wp2
          go_ret
          exact ⟨rfl, HB12.out⟩
        | false =>
          have hxt : (x.toList == t.toList) = true := by rw [hor]; exact beq_self_eq_true _
          clear hor hh
          go_wp2_with fail
          refine (C5x.out _ HS10.out).mono ?_
          rintro e w11 ⟨rfl, hb⟩
          have HS11 : Hid (Segs w11 w11.heap.size A l) := (HS10.out.below hb).more hb.size
          have HB11 : Hid (Below w.heap.size w w11) := HB10.out.trans (hb.mono HB10.out.size)
          clear hb HS10 HB10 
          go_wp2_with fail
          refine (C5t.out _ HS11.out).mono ?_
          rintro e w12 ⟨rfl, hb⟩
          have HS12 : Hid (Segs w12 w12.heap.size A l) := (HS11.out.below hb).more hb.size
          have HB12 : Hid (Below w.heap.size w w12) := HB11.out.trans (hb.mono HB11.out.size)
          clear hb HS11 HB11 
          go_wp2
          go_ret
          exact ⟨rfl, HB12.out⟩
    | true =>
      rw [hto] at D1 D2
      obtain ⟨hz80, k, hk80, hck, hc2, hdd⟩ := HTW.out hto
      clear HTW
      have E1 := Lib.hid (D3.out (twiceRes l' t') (by omega))
      have E2 := Lib.hid (D3.out t' htz')
      have E3 := Lib.hid (D4.out (twiceRes l' t') (by omega))
      have E4 := Lib.hid (D4.out t' htz')
      rw [hc2] at E1
      rw [hck] at E2
      rw [hdd] at E3
      clear D3 D4 hc2 hck hdd
      generalize twiceRes l' t' = tw at *
      generalize depthRes l' t' = dp at *
      have hmul : IntKind.i64.wrap (2 * (k : Int)) = ((2 * k : Nat) : Int) := (IntWalk.i64_in _ (by omega)).trans (by omega)
      generalize 2 * k = k2 at *
      go_wp2_with fail
      refine (D1.out _ HT4.out).mono ?_
      rintro e w5 ⟨rfl, hb⟩
      have HS5 : Hid (Segs w5 w5.heap.size A l) := (HS4.out.below hb).more hb.size
      have HT5 : Hid (Segs w5 w5.heap.size A' l') := (HT4.out.below hb).more hb.size
      have HB5 : Hid (Below w.heap.size w w5) := HB4.out.trans (hb.mono HB4.out.size)
      clear hb HS4 HB4 HT4
      go_wp2_with fail
      refine (D2.out _ HT5.out).mono ?_
      rintro e w6 ⟨rfl, hb⟩
      have HS6 : Hid (Segs w6 w6.heap.size A l) := (HS5.out.below hb).more hb.size
      have HT6 : Hid (Segs w6 w6.heap.size A' l') := (HT5.out.below hb).more hb.size
      have HB6 : Hid (Below w.heap.size w w6) := HB5.out.trans (hb.mono HB5.out.size)
      clear hb HS5 HB5 HT5
      go_wp2_with fail
      refine (E1.out _ HT6.out).mono ?_
      rintro e w7 ⟨rfl, hb⟩
      have HS7 : Hid (Segs w7 w7.heap.size A l) := (HS6.out.below hb).more hb.size
      have HT7 : Hid (Segs w7 w7.heap.size A' l') := (HT6.out.below hb).more hb.size
      have HB7 : Hid (Below w.heap.size w w7) := HB6.out.trans (hb.mono HB6.out.size)
      clear hb HS6 HB6 HT6
      go_wp2_with fail
      refine (E2.out _ HT7.out).mono ?_
      rintro e w8 ⟨rfl, hb⟩
      have HS8 : Hid (Segs w8 w8.heap.size A l) := (HS7.out.below hb).more hb.size
      have HT8 : Hid (Segs w8 w8.heap.size A' l') := (HT7.out.below hb).more hb.size
      have HB8 : Hid (Below w.heap.size w w8) := HB7.out.trans (hb.mono HB7.out.size)
      clear hb HS7 HB7 HT7
      go_wp2_with fail
      refine (E3.out _ HT8.out).mono ?_
      rintro e w9 ⟨rfl, hb⟩
      have HS9 : Hid (Segs w9 w9.heap.size A l) := (HS8.out.below hb).more hb.size
      have HT9 : Hid (Segs w9 w9.heap.size A' l') := (HT8.out.below hb).more hb.size
      have HB9 : Hid (Below w.heap.size w w9) := HB8.out.trans (hb.mono HB8.out.size)
      clear hb HS8 HB8 HT8
      go_wp2_with fail
      refine (E4.out _ HT9.out).mono ?_
      rintro e w10 ⟨rfl, hb⟩
      have HS10 : Hid (Segs w10 w10.heap.size A l) := (HS9.out.below hb).more hb.size
      have HT10 : Hid (Segs w10 w10.heap.size A' l') := (HT9.out.below hb).more hb.size
      have HB10 : Hid (Below w.heap.size w w10) := HB9.out.trans (hb.mono HB9.out.size)
      clear hb HS9 HB9 HT9
      go_wp2_with fail
      refine (C3.out _ HS10.out).mono ?_
      rintro e w11 ⟨rfl, hb⟩
      have HS11 : Hid (Segs w11 w11.heap.size A l) := (HS10.out.below hb).more hb.size
      have HB11 : Hid (Below w.heap.size w w11) := HB10.out.trans (hb.mono HB10.out.size)
      clear hb HS10 HB10 
      go_wp2_with fail
      refine (C4.out _ HS11.out).mono ?_
      rintro e w12 ⟨rfl, hb⟩
      have HS12 : Hid (Segs w12 w12.heap.size A l) := (HS11.out.below hb).more hb.size
      have HB12 : Hid (Below w.heap.size w w12) := HB11.out.trans (hb.mono HB11.out.size)
      clear hb HS11 HB11 
      go_wp2_with fail
      refine (soHas_any x m w12 (by omega)).mono ?_
      rw [hno]
      rintro e w13 ⟨rfl, hb⟩
      have HS13 : Hid (Segs w13 w13.heap.size A l) := (HS12.out.below hb).more hb.size
      have HB13 : Hid (Below w.heap.size w w13) := HB12.out.trans (hb.mono HB12.out.size)
      clear hb HS12 HB12 
      go_wp2_with fail
      refine (soHas_any t m w13 (by omega)).mono ?_
      rintro e w14 ⟨rfl, hb⟩
      have HS14 : Hid (Segs w14 w14.heap.size A l) := (HS13.out.below hb).more hb.size
      have HB14 : Hid (Below w.heap.size w w14) := HB13.out.trans (hb.mono HB13.out.size)
      clear hb HS13 HB13 
      rcases hor with hor | hor
      · rw [hor]
        go_wp2_with fail
        refine (C5x.out _ HS14.out).mono ?_
        rintro e w15 ⟨rfl, hb⟩
        have HS15 : Hid (Segs w15 w15.heap.size A l) := (HS14.out.below hb).more hb.size
        have HB15 : Hid (Below w.heap.size w w15) := HB14.out.trans (hb.mono HB14.out.size)
        clear hb HS14 HB14 
        go_wp2_with fail
        refine (C5t.out _ HS15.out).mono ?_
        rintro e w16 ⟨rfl, hb⟩
        have HS16 : Hid (Segs w16 w16.heap.size A l) := (HS15.out.below hb).more hb.size
        have HB16 : Hid (Below w.heap.size w w16) := HB15.out.trans (hb.mono HB15.out.size)
        clear hb HS15 HB15 
        go_wp2
        go_ret
        exact ⟨rfl, HB16.out⟩
      · cases hh : hasT t m with
        | true =>
          have hxt : (x.toList == t.toList) = true := by rw [hor]; exact beq_self_eq_true _
          clear hor hh
          go_wp2_with fail
          refine (C5x.out _ HS14.out).mono ?_
          rintro e w15 ⟨rfl, hb⟩
          have HS15 : Hid (Segs w15 w15.heap.size A l) := (HS14.out.below hb).more hb.size
          have HB15 : Hid (Below w.heap.size w w15) := HB14.out.trans (hb.mono HB14.out.size)
          clear hb HS14 HB14 
          go_wp2_with fail
          refine (C5t.out _ HS15.out).mono ?_
          rintro e w16 ⟨rfl, hb⟩
          have HS16 : Hid (Segs w16 w16.heap.size A l) := (HS15.out.below hb).more hb.size
          have HB16 : Hid (Below w.heap.size w w16) := HB15.out.trans (hb.mono HB15.out.size)
          clear hb HS15 HB15 
          go_wp2
          go_ret
          exact ⟨rfl, HB16.out⟩
        | false =>
          have hxt : (x.toList == t.toList) = true := by rw [hor]; exact beq_self_eq_true _
          clear hor hh
          go_wp2_with fail
          refine (C5x.out _ HS14.out).mono ?_
          rintro e w15 ⟨rfl, hb⟩
          have HS15 : Hid (Segs w15 w15.heap.size A l) := (HS14.out.below hb).more hb.size
          have HB15 : Hid (Below w.heap.size w w15) := HB14.out.trans (hb.mono HB14.out.size)
          clear hb HS14 HB14 
          go_wp2_with fail
          refine (C5t.out _ HS15.out).mono ?_
          rintro e w16 ⟨rfl, hb⟩
          have HS16 : Hid (Segs w16 w16.heap.size A l) := (HS15.out.below hb).more hb.size
          have HB16 : Hid (Below w.heap.size w w16) := HB15.out.trans (hb.mono HB15.out.size)
          clear hb HS15 HB15 
          go_wp2
          go_ret
          exact ⟨rfl, HB16.out⟩

end Go.Proofs.Ytjehklkndmdcaaa
