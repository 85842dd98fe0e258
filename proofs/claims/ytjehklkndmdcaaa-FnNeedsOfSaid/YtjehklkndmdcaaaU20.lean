/- Joined: Xc. -/
import Derived.Test.YtjehklkndmdcaaaU09
import Derived.Test.YtjehklkndmdcaaaU12
import Derived.Test.YtjehklkndmdcaaaU15
import Derived.Test.YtjehklkndmdcaaaU16
import Derived.Test.YtjehklkndmdcaaaU18
import Derived.Test.YtjehklkndmdcaaaU19
/- The law FnNeedsOf: its walk. -/
namespace Go.Proofs.Ytjehklkndmdcaaa
open Go.RowKit

theorem bytes_laterN {w w' : World} {A : Option Addr} {m : Nat} (h : ∀ b, w.heap.size ≤ b → Bytes w b A m) (hb : Below w.heap.size w w') : ∀ b, w'.heap.size ≤ b → Bytes w' b A m := fun b hbb h0 => by
  have hz := hb.size
  obtain ⟨g, o, rfl, hne, hlt, hx⟩ := h b (by omega) h0
  refine ⟨g, o, rfl, hne, by omega, fun i hi => ?_⟩
  obtain ⟨x, hc, hx2⟩ := hx i hi
  exact ⟨x, (hb.cell (p := ⟨g, o + i, none⟩) hlt).trans hc, hx2⟩
theorem countRes_some {l : List Seg} {t : ByteArray} {f : Forest} (h : traceB l t.data.toList = some f) : countRes l t = f.size := by
  unfold countRes
  rw [h]

set_option maxRecDepth 100000 in
set_option maxHeartbeats 8000000 in
theorem needsLaw_any (hgood : GoodSaid) (A0 : Option Addr) (n c0 : Nat) (A2 : Option Addr) (n2 c2 : Nat) (w : World) (hn : n ≤ c0) (hm : n ≤ maxLen) (hx : ∀ b, w.heap.size ≤ b → Bytes w b A0 n) (hn2 : n2 ≤ c2) (hm2 : n2 ≤ maxLen) (hx2 : ∀ b, w.heap.size ≤ b → Bytes w b A2 n2) :
    Calls Try.prog 3 #[.slice A0 n c0, .slice A2 n2 c2] w fun e w' => e = .returned (.bool true) ∧ Below w.heap.size w w' := by
  unfold maxLen at hm hm2
  by_cases hbig : 1048576 < n
  · clear hx hx2 hgood
    go_enter Try.func3, Try.ntmps3
    go_wp2
    go_ret
    exact ⟨rfl, Below.refl _ _⟩
  by_cases hbig2 : 1048576 < n2
  · clear hx hx2 hgood
    go_enter Try.func3, Try.ntmps3
    go_wp2
    go_ret
    exact ⟨rfl, Below.refl _ _⟩
  have HD := Lib.hid (drawNeedsOf_plain hgood A0 n c0 w hn hx)
  have HD2 := Lib.hid (fun w' (hb : Below w.heap.size w w') => drawTraceValid_plain hgood A2 n2 c2 w' hn2 (bytes_laterN hx2 hb))
  clear hx hx2 hgood
  go_enter Try.func3, Try.ntmps3
  go_wp2_with fail
  refine Calls.mono HD.out ?_
  rintro e w1 ⟨A, l, c, t, rfl, ⟨hS, ⟨hl9, hlc, hcm⟩, hsh⟩, htz, hb1⟩
  have hl : l.length ≤ 1048576 := by omega
  have ht : t.size ≤ 1048576 := by omega
  have HSH := Lib.hid (fun s hs => Nat.le_trans (hsh s hs) (by decide) : Short l)
  have HS1 : Hid (Segs w1 w1.heap.size A l) := hS
  have HB1 : Hid (Below w.heap.size w w1) := hb1
  have C1 := Lib.hid (fun w h => needsOf_any A l c t w h hl hlc hcm HSH.out ht)
  have C2 := Lib.hid (fun w h => specNeedsOf_any A l c t w h hl HSH.out ht)
  have C3 := Lib.hid (fun w h => implCountCalls_any A l c t w h hl hlc hcm HSH.out ht)
  have C4 := Lib.hid (fun w h => specCountCalls_any A l c t w h hl HSH.out ht)
  have C5 := Lib.hid (fun w h => traceValid_any A l c t w h hl hlc hcm HSH.out ht)
  have HNO : Hid (traceB l t.data.toList = none → needsRes l t = ⟨#[]⟩ ∧ countRes l t = -1) := fun h => by
    unfold needsRes countRes
    rw [h]
    exact ⟨rfl, rfl⟩
  have HYES : Hid (∀ f, traceB l t.data.toList = some f → validB l = true ∧ f.size ≤ 80 ∧ countRes l t = f.size ∧ (needsRes l t).size = 2 * f.size + 1 ∧ (needsRes l t).extract 0 1 = ⟨#[rootB l]⟩ ∧ (needsRes l t).extract (2 * f.size) (2 * f.size + 1) = ⟨#[rootB l]⟩) := fun f h => by
    obtain ⟨h1, h2, h3⟩ := needs_said h
    exact ⟨(traceB_some h).1, (traceB_size h).1, countRes_some h, h1, h2, h3⟩
  clear hS hb1 HD hsh
  generalize needsRes l t = nd at *
  generalize countRes l t = cn at *
  cases hR : traceB l t.data.toList with
  | none =>
    obtain ⟨hnd, hcn⟩ := HNO.out hR
    subst hnd
    subst hcn
    rw [hR] at C1 C2 C5
    clear HNO HYES
    simp only [Option.isSome_none] at C1 C2 C5
    go_wp2_with fail
    refine (C1.out _ HS1.out).mono ?_
    rintro e w2 ⟨rfl, hb⟩
    have HS2 : Hid (Segs w2 w2.heap.size A l) := (HS1.out.below hb).more hb.size
    have HB2 : Hid (Below w.heap.size w w2) := HB1.out.trans (hb.mono HB1.out.size)
    clear hb HS1 HB1  C1
    go_wp2_with fail
    refine (C2.out _ HS2.out).mono ?_
    rintro e w3 ⟨rfl, hb⟩
    have HS3 : Hid (Segs w3 w3.heap.size A l) := (HS2.out.below hb).more hb.size
    have HB3 : Hid (Below w.heap.size w w3) := HB2.out.trans (hb.mono HB2.out.size)
    clear hb HS2 HB2  C2
    go_wp2_with fail
    refine (C3.out _ HS3.out).mono ?_
    rintro e w4 ⟨rfl, hb⟩
    have HS4 : Hid (Segs w4 w4.heap.size A l) := (HS3.out.below hb).more hb.size
    have HB4 : Hid (Below w.heap.size w w4) := HB3.out.trans (hb.mono HB3.out.size)
    clear hb HS3 HB3  C3
    go_wp2_with fail
    refine Calls.mono (HD2.out _ HB4.out) ?_
    rintro e w5 ⟨A', l', c', t', rfl, ⟨hS', ⟨hl9', hlc', hcm'⟩, hsh'⟩, htz', hb⟩
    have hl' : l'.length ≤ 1048576 := by omega
    have ht' : t'.size ≤ 1048576 := by omega
    have HSH' := Lib.hid (fun s hs => Nat.le_trans (hsh' s hs) (by decide) : Short l')
    have HS5 : Hid (Segs w5 w5.heap.size A l) := (HS4.out.below hb).more hb.size
    have HT5 : Hid (Segs w5 w5.heap.size A' l') := hS'
    have HB5 : Hid (Below w.heap.size w w5) := HB4.out.trans (hb.mono HB4.out.size)
    have D1 := Lib.hid (fun w h => traceValid_any A' l' c' t' w h hl' hlc' hcm' HSH'.out ht')
    have D2 := Lib.hid (fun w h => specTraceValid_any A' l' c' t' w h hl' HSH'.out ht')
    clear hS' hb hsh' HD2 HS4 HB4
    generalize (traceB l' t'.data.toList).isSome = d' at *
    go_wp2_with fail
    refine (C4.out _ HS5.out).mono ?_
    rintro e w6 ⟨rfl, hb⟩
    have HS6 : Hid (Segs w6 w6.heap.size A l) := (HS5.out.below hb).more hb.size
    have HT6 : Hid (Segs w6 w6.heap.size A' l') := (HT5.out.below hb).more hb.size
    have HB6 : Hid (Below w.heap.size w w6) := HB5.out.trans (hb.mono HB5.out.size)
    clear hb HS5 HB5 HT5 
    go_wp2_with fail
    refine (D1.out _ HT6.out).mono ?_
    rintro e w7 ⟨rfl, hb⟩
    have HS7 : Hid (Segs w7 w7.heap.size A l) := (HS6.out.below hb).more hb.size
    have HT7 : Hid (Segs w7 w7.heap.size A' l') := (HT6.out.below hb).more hb.size
    have HB7 : Hid (Below w.heap.size w w7) := HB6.out.trans (hb.mono HB6.out.size)
    clear hb HS6 HB6 HT6 
    go_wp2_with fail
    refine (D2.out _ HT7.out).mono ?_
    rintro e w8 ⟨rfl, hb⟩
    have HS8 : Hid (Segs w8 w8.heap.size A l) := (HS7.out.below hb).more hb.size
    have HT8 : Hid (Segs w8 w8.heap.size A' l') := (HT7.out.below hb).more hb.size
    have HB8 : Hid (Below w.heap.size w w8) := HB7.out.trans (hb.mono HB7.out.size)
    clear hb HS7 HB7 HT7 
    go_wp2_with fail
    refine (C5.out _ HS8.out).mono ?_
    rintro e w9 ⟨rfl, hb⟩
    have HS9 : Hid (Segs w9 w9.heap.size A l) := (HS8.out.below hb).more hb.size
    have HT9 : Hid (Segs w9 w9.heap.size A' l') := (HT8.out.below hb).more hb.size
    have HB9 : Hid (Below w.heap.size w w9) := HB8.out.trans (hb.mono HB8.out.size)
    clear hb HS8 HB8 HT8 
    go_wp2_with fail
    refine (C4.out _ HS9.out).mono ?_
    rintro e w10 ⟨rfl, hb⟩
    have HS10 : Hid (Segs w10 w10.heap.size A l) := (HS9.out.below hb).more hb.size
    have HT10 : Hid (Segs w10 w10.heap.size A' l') := (HT9.out.below hb).more hb.size
    have HB10 : Hid (Below w.heap.size w w10) := HB9.out.trans (hb.mono HB9.out.size)
    clear hb HS9 HB9 HT9 
    go_wp2_with fail
    refine (D1.out _ HT10.out).mono ?_
    rintro e w11 ⟨rfl, hb⟩
    have HS11 : Hid (Segs w11 w11.heap.size A l) := (HS10.out.below hb).more hb.size
    have HT11 : Hid (Segs w11 w11.heap.size A' l') := (HT10.out.below hb).more hb.size
    have HB11 : Hid (Below w.heap.size w w11) := HB10.out.trans (hb.mono HB10.out.size)
    clear hb HS10 HB10 HT10 
    go_wp2_with fail
    refine (D2.out _ HT11.out).mono ?_
    rintro e w12 ⟨rfl, hb⟩
    have HS12 : Hid (Segs w12 w12.heap.size A l) := (HS11.out.below hb).more hb.size
    have HT12 : Hid (Segs w12 w12.heap.size A' l') := (HT11.out.below hb).more hb.size
    have HB12 : Hid (Below w.heap.size w w12) := HB11.out.trans (hb.mono HB11.out.size)
    clear hb HS11 HB11 HT11 
    go_wp2_with fail
    refine (C5.out _ HS12.out).mono ?_
    rintro e w13 ⟨rfl, hb⟩
    have HS13 : Hid (Segs w13 w13.heap.size A l) := (HS12.out.below hb).more hb.size
    have HT13 : Hid (Segs w13 w13.heap.size A' l') := (HT12.out.below hb).more hb.size
    have HB13 : Hid (Below w.heap.size w w13) := HB12.out.trans (hb.mono HB12.out.size)
    clear hb HS12 HB12 HT12 
    go_wp2
    go_ret
    exact ⟨rfl, HB13.out⟩
  | some f =>
    obtain ⟨hv, hf80, hcn, hns, hn1, hn2'⟩ := HYES.out f hR
    obtain ⟨s0, hs0, hs0n⟩ := root_name hv
    rw [hR] at C1 C2 C5
    clear HNO HYES
    simp only [Option.isSome_some] at C1 C2 C5
    subst hcn
    have HL0 : Hid (1 ≤ l.length) := (List.getElem?_eq_some_iff.1 hs0).1
    clear hR
    generalize rootB l = rb at *
    generalize hfz : f.size = z at *
    clear hfz
    go_wp2_with fail
    refine (C1.out _ HS1.out).mono ?_
    rintro e w2 ⟨rfl, hb⟩
    have HS2 : Hid (Segs w2 w2.heap.size A l) := (HS1.out.below hb).more hb.size
    have HB2 : Hid (Below w.heap.size w w2) := HB1.out.trans (hb.mono HB1.out.size)
    clear hb HS1 HB1  C1
    go_wp2_with fail
    refine (C2.out _ HS2.out).mono ?_
    rintro e w3 ⟨rfl, hb⟩
    have HS3 : Hid (Segs w3 w3.heap.size A l) := (HS2.out.below hb).more hb.size
    have HB3 : Hid (Below w.heap.size w w3) := HB2.out.trans (hb.mono HB2.out.size)
    clear hb HS2 HB2  C2
    go_wp2_with fail
    refine (C3.out _ HS3.out).mono ?_
    rintro e w4 ⟨rfl, hb⟩
    have HS4 : Hid (Segs w4 w4.heap.size A l) := (HS3.out.below hb).more hb.size
    have HB4 : Hid (Below w.heap.size w w4) := HB3.out.trans (hb.mono HB3.out.size)
    clear hb HS3 HB3  C3
    go_wp2_with fail
    refine Calls.mono (HD2.out _ HB4.out) ?_
    rintro e w5 ⟨A', l', c', t', rfl, ⟨hS', ⟨hl9', hlc', hcm'⟩, hsh'⟩, htz', hb⟩
    have hl' : l'.length ≤ 1048576 := by omega
    have ht' : t'.size ≤ 1048576 := by omega
    have HSH' := Lib.hid (fun s hs => Nat.le_trans (hsh' s hs) (by decide) : Short l')
    have HS5 : Hid (Segs w5 w5.heap.size A l) := (HS4.out.below hb).more hb.size
    have HT5 : Hid (Segs w5 w5.heap.size A' l') := hS'
    have HB5 : Hid (Below w.heap.size w w5) := HB4.out.trans (hb.mono HB4.out.size)
    have D1 := Lib.hid (fun w h => traceValid_any A' l' c' t' w h hl' hlc' hcm' HSH'.out ht')
    have D2 := Lib.hid (fun w h => specTraceValid_any A' l' c' t' w h hl' HSH'.out ht')
    clear hS' hb hsh' HD2 HS4 HB4
    generalize (traceB l' t'.data.toList).isSome = d' at *
    go_wp2_with fail
    refine (C4.out _ HS5.out).mono ?_
    rintro e w6 ⟨rfl, hb⟩
    have HS6 : Hid (Segs w6 w6.heap.size A l) := (HS5.out.below hb).more hb.size
    have HT6 : Hid (Segs w6 w6.heap.size A' l') := (HT5.out.below hb).more hb.size
    have HB6 : Hid (Below w.heap.size w w6) := HB5.out.trans (hb.mono HB5.out.size)
    clear hb HS5 HB5 HT5 
    go_wp2_with fail
    refine (D1.out _ HT6.out).mono ?_
    rintro e w7 ⟨rfl, hb⟩
    have HS7 : Hid (Segs w7 w7.heap.size A l) := (HS6.out.below hb).more hb.size
    have HT7 : Hid (Segs w7 w7.heap.size A' l') := (HT6.out.below hb).more hb.size
    have HB7 : Hid (Below w.heap.size w w7) := HB6.out.trans (hb.mono HB6.out.size)
    clear hb HS6 HB6 HT6 
    go_wp2_with fail
    refine (D2.out _ HT7.out).mono ?_
    rintro e w8 ⟨rfl, hb⟩
    have HS8 : Hid (Segs w8 w8.heap.size A l) := (HS7.out.below hb).more hb.size
    have HT8 : Hid (Segs w8 w8.heap.size A' l') := (HT7.out.below hb).more hb.size
    have HB8 : Hid (Below w.heap.size w w8) := HB7.out.trans (hb.mono HB7.out.size)
    clear hb HS7 HB7 HT7 
    go_wp2_with fail
    refine (C5.out _ HS8.out).mono ?_
    rintro e w9 ⟨rfl, hb⟩
    have HS9 : Hid (Segs w9 w9.heap.size A l) := (HS8.out.below hb).more hb.size
    have HT9 : Hid (Segs w9 w9.heap.size A' l') := (HT8.out.below hb).more hb.size
    have HB9 : Hid (Below w.heap.size w w9) := HB8.out.trans (hb.mono HB8.out.size)
    clear hb HS8 HB8 HT8 
    obtain ⟨g, o, rfl, hg, hc⟩ := HS9.out HL0.out
    obtain ⟨e0, -, -⟩ := hc 0 s0 hs0
    rw [hs0n, Nat.zero_mul, Nat.add_zero] at e0
    have hl1 : (0 : Int) < (l.length : Int) := by have := HL0.out; omega
    clear hc hs0 hs0n HS9 HT9 C4 C5 D1 D2
    have hz1 : IntKind.i64.wrap (2 * (z : Int)) = 2 * (z : Int) := IntWalk.i64_in _ (by omega)
    have hz2 : IntKind.i64.wrap (2 * (z : Int) + 1) = ((2 * z + 1 : Nat) : Int) := (IntWalk.i64_in _ (by omega)).trans (by omega)
    go_wp2
    go_ret
    exact ⟨rfl, HB9.out⟩

end Go.Proofs.Ytjehklkndmdcaaa
