/- Joined: Ac. -/
import Derived.Test.YtafpefjjeddmeaaU30
import Derived.Test.YtafpefjjeddmeaaU33
/- The law FnChainsOf: its walk. -/
namespace Go.Proofs.Ytafpefjjeddmeaa
open Go.RowKit

set_option maxRecDepth 100000 in
set_option maxHeartbeats 16000000 in
theorem chainsLaw_any (hgood : GoodSaid) (A0 : Option Addr) (n c0 : Nat) (w : World) (hn : n ≤ c0) (hm : n ≤ maxLen) (hx : ∀ b, w.heap.size ≤ b → Bytes w b A0 n) :
    Calls Try.prog 3 #[.slice A0 n c0] w fun e w' => e = .returned (.bool true) ∧ Below w.heap.size w w' := by
  unfold maxLen at hm
  by_cases hbig : 1048576 < n
  · clear hx hgood
    go_enter Try.func3, Try.ntmps3
    go_wp2
    go_ret
    exact ⟨rfl, Below.refl _ _⟩
  have HD := Lib.hid (drawChainsOf_plain hgood A0 n c0 w hn hx)
  clear hx hgood
  go_enter Try.func3, Try.ntmps3
  go_wp2_with fail
  refine Calls.mono HD.out ?_
  rintro e w1 ⟨A, l, c, t, rfl, ⟨hS, ⟨hl9, hlc, hcm⟩, hsh⟩, htz, hb1⟩
  have hl : l.length ≤ 1048576 := by omega
  have ht : t.size ≤ 1048576 := by omega
  have HSH := Lib.hid (fun s hs => Nat.le_trans (hsh s hs) (by decide) : Short l)
  have HS1 : Hid (Segs w1 w1.heap.size A l) := hS
  have HB1 : Hid (Below w.heap.size w w1) := hb1
  have C1 := Lib.hid (fun W h => implChainsOf_any A l c t W h hl hlc hcm HSH.out ht)
  have C2 := Lib.hid (fun W h => specChainsOf_any A l c t W h hl HSH.out ht)
  have C3 := Lib.hid (fun W h => implPairsOf_any A l c t W h hl hlc hcm HSH.out ht)
  have C4 := Lib.hid (fun W h => specPairsOf_any A l c t W h hl HSH.out ht)
  have C5 := Lib.hid (fun W h => callsOf_any A l c t W h hl hlc hcm HSH.out ht)
  have C6 := Lib.hid (fun W h => specCallsOf_any A l c t W h hl HSH.out ht)
  have C7 := Lib.hid (fun W h => implDepthOf_any A l c t W h hl hlc hcm HSH.out ht)
  have C8 := Lib.hid (fun W h => specDepthOf_any A l c t W h hl HSH.out ht)
  have C9 := Lib.hid (fun W h => implCountCalls_any A l c t W h hl hlc hcm HSH.out ht)
  unfold ChainsResPost at C1 C2
  unfold PairsPost pairsRes at C3 C4
  unfold CallsResPost at C5 C6
  rw [chainsRes_xs] at C1 C2
  have hx80 := xsRes_len l t
  have hp80 : (putAll [] ((xsRes l t).map twoB)).length ≤ (xsRes l t).length := by
    have h1 := putAll_len ((xsRes l t).map twoB) []
    rw [List.length_map] at h1
    simpa using h1
  have hc80 : (callsRes l t).length ≤ 1000 := by
    unfold callsRes
    cases traceB l t.data.toList with
    | none => exact Nat.zero_le _
    | some f => show (cntRow l _).length ≤ _; rw [cntRow_len]; omega
  have HTL : Hid (((xsRes l t).map strOf).length = (xsRes l t).length) := List.length_map _
  have HPL : Hid (((putAll [] ((xsRes l t).map twoB)).map strOf).length = (putAll [] ((xsRes l t).map twoB)).length) := List.length_map _
  have HY : Hid ((traceB l t.data.toList).isSome = true → ∃ f, traceB l t.data.toList = some f) := fun h => by
    cases hR : traceB l t.data.toList with
    | none => rw [hR] at h; cases h
    | some f => exact ⟨f, rfl⟩
  clear hS hb1 HD hsh
  obtain ⟨xs, hxs⟩ : ∃ xs, xs = xsRes l t := ⟨_, rfl⟩
  obtain ⟨P, hP⟩ : ∃ P, P = putAll [] ((xsRes l t).map twoB) := ⟨_, rfl⟩
  rw [← hP] at C3 C4 hp80 HPL
  rw [← hxs] at C1 C2 hx80 hp80 HTL
  have HXS := Lib.hid hxs
  have HP := Lib.hid hP
  clear hxs hP
  obtain ⟨ts, hts⟩ : ∃ ts, ts = xs.map strOf := ⟨_, rfl⟩
  obtain ⟨ps, hps⟩ : ∃ ps, ps = P.map strOf := ⟨_, rfl⟩
  rw [← hts] at C1 C2 HTL
  rw [← hps] at C3 C4 HPL
  have HTS := Lib.hid hts
  have HPS := Lib.hid hps
  have htx : ts.length ≤ 80 := by have h1 := HTL.out; omega
  have hpx : ps.length ≤ ts.length := by have h1 := HTL.out; have h2 := HPL.out; omega
  clear hts hps
  obtain ⟨cs, hcs⟩ : ∃ cs, cs = callsRes l t := ⟨_, rfl⟩
  rw [← hcs] at C5 C6 hc80
  have HCS := Lib.hid hcs
  clear hcs
  obtain ⟨dp, hdp⟩ : ∃ dp, dp = depthRes l t := ⟨_, rfl⟩
  rw [← hdp] at C7 C8
  have HDP := Lib.hid hdp
  clear hdp
  obtain ⟨cn, hcn⟩ : ∃ cn, cn = countRes l t := ⟨_, rfl⟩
  rw [← hcn] at C9
  have HCN := Lib.hid hcn
  clear hcn
  obtain ⟨d, hd⟩ : ∃ d, d = (traceB l t.data.toList).isSome := ⟨_, rfl⟩
  rw [← hd] at C1 C2 C3 C4 C5 C6 HY
  have HDD := Lib.hid hd
  clear hd
  go_wp2_with fail
  refine Calls.mono (C1.out _ HS1.out) ?_
  rintro e w2 ⟨v2, rfl, ho, hb⟩
  obtain ⟨A2, cap2, rfl, -⟩ := St.textsForm ho
  have R2' := Lib.hid ho
  clear ho
  have HS2 : Hid (Segs w2 w2.heap.size A l) := (HS1.out.below hb).more hb.size
  have HB2 : Hid (Below w.heap.size w w2) := HB1.out.trans (hb.mono HB1.out.size)
  clear hb HS1 HB1 
  have R2 := R2'
  clear R2'
  go_wp2_with fail
  refine Calls.mono (C2.out _ HS2.out) ?_
  rintro e w3 ⟨v3, rfl, ho, hb⟩
  obtain ⟨A3, cap3, rfl, -⟩ := St.textsForm ho
  have R3' := Lib.hid ho
  clear ho
  have HS3 : Hid (Segs w3 w3.heap.size A l) := (HS2.out.below hb).more hb.size
  have HB3 : Hid (Below w.heap.size w w3) := HB2.out.trans (hb.mono HB2.out.size)
  have R2' := Lib.hid (R2.out.below hb)
  clear hb HS2 HB2 R2
  have R2 := R2'
  clear R2'
  have R3 := R3'
  clear R3'
  go_wp2_with fail
  refine Calls.mono (C3.out _ HS3.out) ?_
  rintro e w4 ⟨v4, rfl, ho, hb⟩
  obtain ⟨A4, cap4, rfl, -⟩ := St.textsForm ho
  have R4' := Lib.hid ho
  clear ho
  have HS4 : Hid (Segs w4 w4.heap.size A l) := (HS3.out.below hb).more hb.size
  have HB4 : Hid (Below w.heap.size w w4) := HB3.out.trans (hb.mono HB3.out.size)
  have R2' := Lib.hid (R2.out.below hb)
  have R3' := Lib.hid (R3.out.below hb)
  clear hb HS3 HB3 R2 R3
  have R2 := R2'
  clear R2'
  have R3 := R3'
  clear R3'
  have R4 := R4'
  clear R4'
  go_wp2_with fail
  refine Calls.mono (C4.out _ HS4.out) ?_
  rintro e w5 ⟨v5, rfl, ho, hb⟩
  obtain ⟨A5, cap5, rfl, -⟩ := St.textsForm ho
  have R5' := Lib.hid ho
  clear ho
  have HS5 : Hid (Segs w5 w5.heap.size A l) := (HS4.out.below hb).more hb.size
  have HB5 : Hid (Below w.heap.size w w5) := HB4.out.trans (hb.mono HB4.out.size)
  have R2' := Lib.hid (R2.out.below hb)
  have R3' := Lib.hid (R3.out.below hb)
  have R4' := Lib.hid (R4.out.below hb)
  clear hb HS4 HB4 R2 R3 R4
  have R2 := R2'
  clear R2'
  have R3 := R3'
  clear R3'
  have R4 := R4'
  clear R4'
  have R5 := R5'
  clear R5'
  go_wp2_with fail
  refine Calls.mono (C5.out _ HS5.out) ?_
  rintro e w6 ⟨v6, rfl, ho, hb⟩
  obtain ⟨A6, cap6, rfl, -⟩ := Si.intsForm ho
  have R6' := Lib.hid ho
  clear ho
  have HS6 : Hid (Segs w6 w6.heap.size A l) := (HS5.out.below hb).more hb.size
  have HB6 : Hid (Below w.heap.size w w6) := HB5.out.trans (hb.mono HB5.out.size)
  have R2' := Lib.hid (R2.out.below hb)
  have R3' := Lib.hid (R3.out.below hb)
  have R4' := Lib.hid (R4.out.below hb)
  have R5' := Lib.hid (R5.out.below hb)
  clear hb HS5 HB5 R2 R3 R4 R5
  have R2 := R2'
  clear R2'
  have R3 := R3'
  clear R3'
  have R4 := R4'
  clear R4'
  have R5 := R5'
  clear R5'
  have R6 := R6'
  clear R6'
  go_wp2_with fail
  refine Calls.mono (C6.out _ HS6.out) ?_
  rintro e w7 ⟨v7, rfl, ho, hb⟩
  obtain ⟨A7, cap7, rfl, -⟩ := Si.intsForm ho
  have R7' := Lib.hid ho
  clear ho
  have HS7 : Hid (Segs w7 w7.heap.size A l) := (HS6.out.below hb).more hb.size
  have HB7 : Hid (Below w.heap.size w w7) := HB6.out.trans (hb.mono HB6.out.size)
  have R2' := Lib.hid (R2.out.below hb)
  have R3' := Lib.hid (R3.out.below hb)
  have R4' := Lib.hid (R4.out.below hb)
  have R5' := Lib.hid (R5.out.below hb)
  have R6' := Lib.hid (R6.out.below hb)
  clear hb HS6 HB6 R2 R3 R4 R5 R6
  have R2 := R2'
  clear R2'
  have R3 := R3'
  clear R3'
  have R4 := R4'
  clear R4'
  have R5 := R5'
  clear R5'
  have R6 := R6'
  clear R6'
  have R7 := R7'
  clear R7'
  go_wp2_with fail
  refine Calls.mono (C7.out _ HS7.out) ?_
  rintro e w8 ⟨rfl, hb⟩
  have HS8 : Hid (Segs w8 w8.heap.size A l) := (HS7.out.below hb).more hb.size
  have HB8 : Hid (Below w.heap.size w w8) := HB7.out.trans (hb.mono HB7.out.size)
  have R2' := Lib.hid (R2.out.below hb)
  have R3' := Lib.hid (R3.out.below hb)
  have R4' := Lib.hid (R4.out.below hb)
  have R5' := Lib.hid (R5.out.below hb)
  have R6' := Lib.hid (R6.out.below hb)
  have R7' := Lib.hid (R7.out.below hb)
  clear hb HS7 HB7 R2 R3 R4 R5 R6 R7
  have R2 := R2'
  clear R2'
  have R3 := R3'
  clear R3'
  have R4 := R4'
  clear R4'
  have R5 := R5'
  clear R5'
  have R6 := R6'
  clear R6'
  have R7 := R7'
  clear R7'
  cases d with
  | false =>
    clear HY HXS HP HTS HPS HCS HDP HCN HDD
    go_wp2_with fail
    refine (soTexts_any A2 A3 _ cap2 cap3 _ (strsOf R2.out) (strsOf R3.out) (by omega)).mono ?_
    rintro e w9 ⟨rfl, hb⟩
    have HS9 : Hid (Segs w9 w9.heap.size A l) := (HS8.out.below hb).more hb.size
    have HB9 : Hid (Below w.heap.size w w9) := HB8.out.trans (hb.mono HB8.out.size)
    have R2' := Lib.hid (R2.out.below hb)
    have R3' := Lib.hid (R3.out.below hb)
    have R4' := Lib.hid (R4.out.below hb)
    have R5' := Lib.hid (R5.out.below hb)
    have R6' := Lib.hid (R6.out.below hb)
    have R7' := Lib.hid (R7.out.below hb)
    clear hb HS8 HB8 R2 R3 R4 R5 R6 R7
    have R2 := R2'
    clear R2'
    have R3 := R3'
    clear R3'
    have R4 := R4'
    clear R4'
    have R5 := R5'
    clear R5'
    have R6 := R6'
    clear R6'
    have R7 := R7'
    clear R7'
    go_wp2_with fail
    refine (soTexts_any A4 A5 _ cap4 cap5 _ (strsOf R4.out) (strsOf R5.out) (by omega)).mono ?_
    rintro e w10 ⟨rfl, hb⟩
    have HS10 : Hid (Segs w10 w10.heap.size A l) := (HS9.out.below hb).more hb.size
    have HB10 : Hid (Below w.heap.size w w10) := HB9.out.trans (hb.mono HB9.out.size)
    have R2' := Lib.hid (R2.out.below hb)
    have R3' := Lib.hid (R3.out.below hb)
    have R4' := Lib.hid (R4.out.below hb)
    have R5' := Lib.hid (R5.out.below hb)
    have R6' := Lib.hid (R6.out.below hb)
    have R7' := Lib.hid (R7.out.below hb)
    clear hb HS9 HB9 R2 R3 R4 R5 R6 R7
    have R2 := R2'
    clear R2'
    have R3 := R3'
    clear R3'
    have R4 := R4'
    clear R4'
    have R5 := R5'
    clear R5'
    have R6 := R6'
    clear R6'
    have R7 := R7'
    clear R7'
    go_wp2_with fail
    refine (soSame_any A6 A7 _ cap6 cap7 _ (Si.intsOf R6.out) (Si.intsOf R7.out) (by omega)).mono ?_
    rintro e w11 ⟨rfl, hb⟩
    have HS11 : Hid (Segs w11 w11.heap.size A l) := (HS10.out.below hb).more hb.size
    have HB11 : Hid (Below w.heap.size w w11) := HB10.out.trans (hb.mono HB10.out.size)
    have R2' := Lib.hid (R2.out.below hb)
    have R3' := Lib.hid (R3.out.below hb)
    have R4' := Lib.hid (R4.out.below hb)
    have R5' := Lib.hid (R5.out.below hb)
    have R6' := Lib.hid (R6.out.below hb)
    have R7' := Lib.hid (R7.out.below hb)
    clear hb HS10 HB10 R2 R3 R4 R5 R6 R7
    have R2 := R2'
    clear R2'
    have R3 := R3'
    clear R3'
    have R4 := R4'
    clear R4'
    have R5 := R5'
    clear R5'
    have R6 := R6'
    clear R6'
    have R7 := R7'
    clear R7'
    go_wp2_with fail
    refine (C8.out _ HS11.out).mono ?_
    rintro e w12 ⟨rfl, hb⟩
    have HS12 : Hid (Segs w12 w12.heap.size A l) := (HS11.out.below hb).more hb.size
    have HB12 : Hid (Below w.heap.size w w12) := HB11.out.trans (hb.mono HB11.out.size)
    have R2' := Lib.hid (R2.out.below hb)
    have R3' := Lib.hid (R3.out.below hb)
    have R4' := Lib.hid (R4.out.below hb)
    have R5' := Lib.hid (R5.out.below hb)
    have R6' := Lib.hid (R6.out.below hb)
    have R7' := Lib.hid (R7.out.below hb)
    clear hb HS11 HB11 R2 R3 R4 R5 R6 R7
    have R2 := R2'
    clear R2'
    have R3 := R3'
    clear R3'
    have R4 := R4'
    clear R4'
    have R5 := R5'
    clear R5'
    have R6 := R6'
    clear R6'
    have R7 := R7'
    clear R7'
    go_wp2_with fail
    refine (soTexts_any A2 A3 _ cap2 cap3 _ (strsOf R2.out) (strsOf R3.out) (by omega)).mono ?_
    rintro e w13 ⟨rfl, hb⟩
    have HS13 : Hid (Segs w13 w13.heap.size A l) := (HS12.out.below hb).more hb.size
    have HB13 : Hid (Below w.heap.size w w13) := HB12.out.trans (hb.mono HB12.out.size)
    have R2' := Lib.hid (R2.out.below hb)
    have R3' := Lib.hid (R3.out.below hb)
    have R4' := Lib.hid (R4.out.below hb)
    have R5' := Lib.hid (R5.out.below hb)
    have R6' := Lib.hid (R6.out.below hb)
    have R7' := Lib.hid (R7.out.below hb)
    clear hb HS12 HB12 R2 R3 R4 R5 R6 R7
    have R2 := R2'
    clear R2'
    have R3 := R3'
    clear R3'
    have R4 := R4'
    clear R4'
    have R5 := R5'
    clear R5'
    have R6 := R6'
    clear R6'
    have R7 := R7'
    clear R7'
    go_wp2_with fail
    refine (soTexts_any A4 A5 _ cap4 cap5 _ (strsOf R4.out) (strsOf R5.out) (by omega)).mono ?_
    rintro e w14 ⟨rfl, hb⟩
    have HS14 : Hid (Segs w14 w14.heap.size A l) := (HS13.out.below hb).more hb.size
    have HB14 : Hid (Below w.heap.size w w14) := HB13.out.trans (hb.mono HB13.out.size)
    have R2' := Lib.hid (R2.out.below hb)
    have R3' := Lib.hid (R3.out.below hb)
    have R4' := Lib.hid (R4.out.below hb)
    have R5' := Lib.hid (R5.out.below hb)
    have R6' := Lib.hid (R6.out.below hb)
    have R7' := Lib.hid (R7.out.below hb)
    clear hb HS13 HB13 R2 R3 R4 R5 R6 R7
    have R2 := R2'
    clear R2'
    have R3 := R3'
    clear R3'
    have R4 := R4'
    clear R4'
    have R5 := R5'
    clear R5'
    have R6 := R6'
    clear R6'
    have R7 := R7'
    clear R7'
    go_wp2_with fail
    refine (soSame_any A6 A7 _ cap6 cap7 _ (Si.intsOf R6.out) (Si.intsOf R7.out) (by omega)).mono ?_
    rintro e w15 ⟨rfl, hb⟩
    have HS15 : Hid (Segs w15 w15.heap.size A l) := (HS14.out.below hb).more hb.size
    have HB15 : Hid (Below w.heap.size w w15) := HB14.out.trans (hb.mono HB14.out.size)
    have R2' := Lib.hid (R2.out.below hb)
    have R3' := Lib.hid (R3.out.below hb)
    have R4' := Lib.hid (R4.out.below hb)
    have R5' := Lib.hid (R5.out.below hb)
    have R6' := Lib.hid (R6.out.below hb)
    have R7' := Lib.hid (R7.out.below hb)
    clear hb HS14 HB14 R2 R3 R4 R5 R6 R7
    have R2 := R2'
    clear R2'
    have R3 := R3'
    clear R3'
    have R4 := R4'
    clear R4'
    have R5 := R5'
    clear R5'
    have R6 := R6'
    clear R6'
    have R7 := R7'
    clear R7'
    go_wp2_with fail
    refine (C8.out _ HS15.out).mono ?_
    rintro e w16 ⟨rfl, hb⟩
    have HS16 : Hid (Segs w16 w16.heap.size A l) := (HS15.out.below hb).more hb.size
    have HB16 : Hid (Below w.heap.size w w16) := HB15.out.trans (hb.mono HB15.out.size)
    have R2' := Lib.hid (R2.out.below hb)
    have R3' := Lib.hid (R3.out.below hb)
    have R4' := Lib.hid (R4.out.below hb)
    have R5' := Lib.hid (R5.out.below hb)
    have R6' := Lib.hid (R6.out.below hb)
    have R7' := Lib.hid (R7.out.below hb)
    clear hb HS15 HB15 R2 R3 R4 R5 R6 R7
    have R2 := R2'
    clear R2'
    have R3 := R3'
    clear R3'
    have R4 := R4'
    clear R4'
    have R5 := R5'
    clear R5'
    have R6 := R6'
    clear R6'
    have R7 := R7'
    clear R7'
    go_wp2
    go_ret
    exact ⟨rfl, HB16.out⟩
  | true =>
    obtain ⟨f, hf⟩ := HY.out rfl
    go_wp2_with fail
    refine (soTexts_any A2 A3 _ cap2 cap3 _ (strsOf R2.out) (strsOf R3.out) (by omega)).mono ?_
    rintro e w9 ⟨rfl, hb⟩
    have HS9 : Hid (Segs w9 w9.heap.size A l) := (HS8.out.below hb).more hb.size
    have HB9 : Hid (Below w.heap.size w w9) := HB8.out.trans (hb.mono HB8.out.size)
    have R2' := Lib.hid (R2.out.below hb)
    have R3' := Lib.hid (R3.out.below hb)
    have R4' := Lib.hid (R4.out.below hb)
    have R5' := Lib.hid (R5.out.below hb)
    have R6' := Lib.hid (R6.out.below hb)
    have R7' := Lib.hid (R7.out.below hb)
    clear hb HS8 HB8 R2 R3 R4 R5 R6 R7
    have R2 := R2'
    clear R2'
    have R3 := R3'
    clear R3'
    have R4 := R4'
    clear R4'
    have R5 := R5'
    clear R5'
    have R6 := R6'
    clear R6'
    have R7 := R7'
    clear R7'
    go_wp2_with fail
    refine (soTexts_any A4 A5 _ cap4 cap5 _ (strsOf R4.out) (strsOf R5.out) (by omega)).mono ?_
    rintro e w10 ⟨rfl, hb⟩
    have HS10 : Hid (Segs w10 w10.heap.size A l) := (HS9.out.below hb).more hb.size
    have HB10 : Hid (Below w.heap.size w w10) := HB9.out.trans (hb.mono HB9.out.size)
    have R2' := Lib.hid (R2.out.below hb)
    have R3' := Lib.hid (R3.out.below hb)
    have R4' := Lib.hid (R4.out.below hb)
    have R5' := Lib.hid (R5.out.below hb)
    have R6' := Lib.hid (R6.out.below hb)
    have R7' := Lib.hid (R7.out.below hb)
    clear hb HS9 HB9 R2 R3 R4 R5 R6 R7
    have R2 := R2'
    clear R2'
    have R3 := R3'
    clear R3'
    have R4 := R4'
    clear R4'
    have R5 := R5'
    clear R5'
    have R6 := R6'
    clear R6'
    have R7 := R7'
    clear R7'
    go_wp2_with fail
    refine (soSame_any A6 A7 _ cap6 cap7 _ (Si.intsOf R6.out) (Si.intsOf R7.out) (by omega)).mono ?_
    rintro e w11 ⟨rfl, hb⟩
    have HS11 : Hid (Segs w11 w11.heap.size A l) := (HS10.out.below hb).more hb.size
    have HB11 : Hid (Below w.heap.size w w11) := HB10.out.trans (hb.mono HB10.out.size)
    have R2' := Lib.hid (R2.out.below hb)
    have R3' := Lib.hid (R3.out.below hb)
    have R4' := Lib.hid (R4.out.below hb)
    have R5' := Lib.hid (R5.out.below hb)
    have R6' := Lib.hid (R6.out.below hb)
    have R7' := Lib.hid (R7.out.below hb)
    clear hb HS10 HB10 R2 R3 R4 R5 R6 R7
    have R2 := R2'
    clear R2'
    have R3 := R3'
    clear R3'
    have R4 := R4'
    clear R4'
    have R5 := R5'
    clear R5'
    have R6 := R6'
    clear R6'
    have R7 := R7'
    clear R7'
    go_wp2_with fail
    refine (C8.out _ HS11.out).mono ?_
    rintro e w12 ⟨rfl, hb⟩
    have HS12 : Hid (Segs w12 w12.heap.size A l) := (HS11.out.below hb).more hb.size
    have HB12 : Hid (Below w.heap.size w w12) := HB11.out.trans (hb.mono HB11.out.size)
    have R2' := Lib.hid (R2.out.below hb)
    have R3' := Lib.hid (R3.out.below hb)
    have R4' := Lib.hid (R4.out.below hb)
    have R5' := Lib.hid (R5.out.below hb)
    have R6' := Lib.hid (R6.out.below hb)
    have R7' := Lib.hid (R7.out.below hb)
    clear hb HS11 HB11 R2 R3 R4 R5 R6 R7
    have R2 := R2'
    clear R2'
    have R3 := R3'
    clear R3'
    have R4 := R4'
    clear R4'
    have R5 := R5'
    clear R5'
    have R6 := R6'
    clear R6'
    have R7 := R7'
    clear R7'
    obtain ⟨g1, g2, g3, g4, g5⟩ := trace_calls hf
    obtain ⟨b0, o0, hA, hb0, hroot⟩ := HS12.out.root (traceB_some hf).1
    subst hA
    have hlp : (0 : Int) < (l.length : Int) := by have := (valid_all (traceB_some hf).1).2.2; omega
    have hxs : xs = chainsB [rootB l] f := HXS.out.trans g4
    have hxn : xs.length = f.size := by rw [hxs, chainsB_len]
    have HIN : Hid (∀ k x, xs[k]? = some x → inP (rootB l) xs x k = true) := fun k x h => by rw [hxs] at h ⊢; exact inP_all h
    have HPR : Hid (∀ x, x ∈ xs → prP P (twoB x) P.length = true) := fun x h => prP_all (by rw [HP.out, ← HXS.out, putAll_mem]; exact .inr (List.mem_map_of_mem h))
    have HTW : Hid (∀ x ∈ xs, (∃ y u v, x = y ++ [u, v]) ∧ x.length ≤ 9) := fun x h => xsRes_two x (by rw [← HXS.out]; exact h)
    have HDM : Hid (dp = (mxCut xs : Int)) := by
      show _ = _
      rw [HDP.out, g2, hxs]
    have HMX : Hid (∀ k, mxCut (xs.take k) ≤ 9) := fun k => mxCut_le fun x hx => (HTW.out x (List.mem_of_mem_take hx)).2
    have HCL : Hid (cs.length = l.length) := by
      show _ = _
      rw [HCS.out, g3, cntRow_len]
    have HCA : Hid (∀ k, k < l.length → cs[k]? = some (cntAt l (chainsB [] f) k : Int)) := fun k hk => by rw [HCS.out, g3]; exact cntRow_at l _ hk
    have HSU : Hid (sumF (fun i => (cntAt l (chainsB [] f) i : Int)) l.length = (xs.length : Int)) := by
      show _ = _
      rw [g1, hxn]
    have HSB : Hid (∀ k, 0 ≤ sumF (fun i => (cntAt l (chainsB [] f) i : Int)) k ∧ sumF (fun i => (cntAt l (chainsB [] f) i : Int)) k ≤ 80 * (k : Int)) := fun k => sumF_bd (n := 80) (fun i => by
      have h1 := cntAt_le l (chainsB [] f) i
      rw [chainsB_len] at h1
      have h2 := (traceB_size hf).1
      omega) (by decide) k
    have HCB : Hid (∀ i, (cntAt l (chainsB [] f) i : Int) ≤ 80 ∧ 0 ≤ (cntAt l (chainsB [] f) i : Int)) := fun i => by
      have h1 := cntAt_le l (chainsB [] f) i
      rw [chainsB_len] at h1
      have h2 := (traceB_size hf).1
      exact ⟨by omega, by omega⟩
    have HCNT : Hid (cn = (xs.length : Int)) := by
      show _ = _
      rw [HCN.out, g5, hxn]
    have HTC : Hid (∀ k (hk : k < xs.length), ts[k]? = some (strOf xs[k])) := fun k hk => by rw [HTS.out, List.getElem?_map, List.getElem?_eq_getElem hk]; rfl
    have HPC : Hid (∀ k (hk : k < P.length), ps[k]? = some (strOf P[k])) := fun k hk => by rw [HPS.out, List.getElem?_map, List.getElem?_eq_getElem hk]; rfl
    have hcapT : ts.length ≤ cap2 := by
      rcases R2.out.2 with ⟨h0, h1⟩ | ⟨g', cap', cur, e, _, _, h1, _⟩
      · omega
      · injection e with _ _ e3
        rw [e3]; exact h1
    clear hf g1 g2 g3 g4 g5 hxs hxn HXS HP HTS HPS HCS HDP HCN HDD HY R3 R5 R7
    generalize hfc : (fun i => (cntAt l (chainsB [] f) i : Int)) = fc at *
    have HFC : Hid (∀ k, (cntAt l (chainsB [] f) k : Int) = fc k) := fun k => by rw [← hfc]
    clear hfc
    generalize rootB l = r at *
    obtain ⟨M, hM⟩ : ∃ M, M = mxCut xs := ⟨_, rfl⟩
    rw [← hM] at HDM
    have hdm := HDM.out
    have hcn := HCNT.out
    have HM := Lib.hid hM
    subst hdm
    subst hcn
    clear hM HDM HCNT C1 C2 C3 C4 C5 C6 C7 C8
    go_wp2
    go_loop [18, 157] (fun o i => ∃ k m : Nat, k ≤ xs.length ∧ i = .int .i64 k ∧ o = .int .i64 m ∧ m ≤ 9 ∧ Hid (m = mxCut (xs.take k))) (fun _ i => xs.length - (intOf i).toNat)
    case atStart => exact ⟨0, 0, Nat.zero_le _, rfl, rfl, Nat.zero_le _, rfl⟩
    case round =>
      obtain ⟨k, m, hk, rfl, rfl, hm9, HMk⟩ := hrel
      have hk0 : (0 : Int) ≤ (k : Int) := Int.natCast_nonneg _
      by_cases hlt : k < xs.length
      · have hltT : (k : Int) < (ts.length : Int) := by have h1 := HTL.out; omega
        have hkcap : (k : Int) ≤ (cap2 : Int) := by omega
        obtain ⟨b2, o2, hA2, hB2, hc2⟩ := strsOf R2.out (by omega)
        subst hA2
        have hCk : Hid (∀ j (hj : j < xs.length), w12.cell? ⟨b2, o2 + j, none⟩ = some (.string (strOf xs[j]))) := fun j hj => hc2 j _ (HTC.out j hj)
        have ck := hCk.out k hlt
        obtain ⟨⟨y, u, v, hyd⟩, hx9⟩ := HTW.out xs[k] (List.getElem_mem hlt)
        have hsz1 : (strOf xs[k]).size = xs[k].length := str_size _
        have hz2 : 2 ≤ (strOf xs[k]).size := by rw [hsz1, hyd]; simp
        have hz9 : (strOf xs[k]).size ≤ 9 := by omega
        have hin := HIN.out k xs[k] (List.getElem?_eq_getElem hlt)
        have hpr := HPR.out xs[k] (List.getElem_mem hlt)
        have HMS : Hid (mxCut (xs.take (k + 1)) = max (mxCut (xs.take k)) (xs[k].length - 1)) := by
          show _ = _
          rw [List.take_succ_eq_append_getElem hlt, mxCut_snoc]
        have HIP := Lib.hid (fun j => inP_succ r xs xs[k] j)
        have HPP := Lib.hid (fun j => prP_succ P (twoB xs[k]) j)
        have hpp0 : prP P (twoB xs[k]) 0 = false := rfl
        have hX1 : (strOf xs[k]).extract 0 ((strOf xs[k]).size - 1) = strOf xs[k].dropLast := str_cut _
        have hX2 : (strOf xs[k]).extract ((strOf xs[k]).size - 2) (strOf xs[k]).size = strOf (twoB xs[k]) := by rw [hyd]; exact str_two y u v
        have e0 : ((strOf xs[k].dropLast).toList == (⟨#[r]⟩ : ByteArray).toList) = inP r xs xs[k] 0 := by
          have h1 := txt_same xs[k].dropLast [r]
          unfold inP
          rw [show (⟨#[r]⟩ : ByteArray) = strOf [r] from rfl, h1]
          simp
        have HEJ : Hid (∀ j (hj : j < xs.length), ((strOf xs[j]).toList == (strOf xs[k].dropLast).toList) = decide (xs[j]? = some xs[k].dropLast)) := fun j hj => by
          rw [txt_same, List.getElem?_eq_getElem hj, decide_eq_decide]
          exact ⟨fun h => by rw [h], fun h => by injection h⟩
        have HEP : Hid (∀ j (hj : j < P.length), ((strOf P[j]).toList == (strOf (twoB xs[k])).toList) = decide (P[j]? = some (twoB xs[k]))) := fun j hj => by
          rw [txt_same, List.getElem?_eq_getElem hj, decide_eq_decide]
          exact ⟨fun h => by rw [h], fun h => by injection h⟩
        have h3 : ((strOf xs[k]).size : Int) - 1 = (((strOf xs[k]).size - 1 : Nat) : Int) := by omega
        have h4 : ((strOf xs[k]).size : Int) - 2 = (((strOf xs[k]).size - 2 : Nat) : Int) := by omega
        have HSZ : Hid ((strOf xs[k]).size - 1 = xs[k].length - 1) := by show _ = _; rw [hsz1]
        clear hc2 hyd hx9 hsz1
        generalize inP r xs xs[k] = ip at *
        generalize prP P (twoB xs[k]) = pp at *
        generalize strOf xs[k].dropLast = lt at *
        generalize strOf (twoB xs[k]) = tw at *
        generalize hdl : xs[k].dropLast = dl at *
        generalize twoB xs[k] = tb at *
        generalize xs[k].length - 1 = q at *
        generalize strOf xs[k] = z at *
        have HIPK := Lib.hid hin
        have HPPK := Lib.hid hpr
        clear hin hpr hdl
        go_wp2
        go_loop [23, 177] (fun o i => ∃ j : Nat, j ≤ k ∧ i = .int .i64 j ∧ o = .bool (ip j)) (fun _ i => k - (intOf i).toNat)
        case atStart => exact ⟨0, Nat.zero_le _, rfl, congrArg Value.bool (by simpa using e0)⟩
        case round =>
          obtain ⟨j, hj, rfl, rfl⟩ := hrel
          have hj0 : (0 : Int) ≤ (j : Int) := Int.natCast_nonneg _
          by_cases hltj : j < k
          · have hltj' : (j : Int) < (k : Int) := by omega
            have cj := hCk.out j (by omega)
            have HS := Lib.hid (HIP.out j)
            cases hip : ip j with
            | true =>
              have HS1 : Hid (ip (j + 1) = true) := by show _ = _; rw [HS.out, hip]; rfl
              clear hip HS
              go_wp2
              go_round
              case rel => exact ⟨j + 1, by omega, by go_num, by rw [HS1.out]⟩
              case measure => simp [intOf]; omega
            | false =>
              have ej := HEJ.out j (by omega)
              have HS1 : Hid (ip (j + 1) = decide (xs[j]? = some dl)) := by show _ = _; rw [HS.out, hip]; rfl
              generalize decide (xs[j]? = some dl) = dj at *
              generalize strOf (xs[j]'(by omega)) = zj at *
              clear hip HS
              go_wp2
              go_round
              case rel => exact ⟨j + 1, by omega, by go_num, by rw [HS1.out]⟩
              case measure => simp [intOf]; omega
          · obtain rfl : j = k := by omega
            rw [HIPK.out]
            go_wp2
            go_loop [26, 190] (fun o i => ∃ j2 : Nat, j2 ≤ P.length ∧ i = .int .i64 j2 ∧ o = .bool (pp j2)) (fun _ i => P.length - (intOf i).toNat)
            case atStart => exact ⟨0, Nat.zero_le _, rfl, by rw [hpp0]⟩
            case round =>
              obtain ⟨j2, hj2, rfl, rfl⟩ := hrel
              have hj20 : (0 : Int) ≤ (j2 : Int) := Int.natCast_nonneg _
              by_cases hltp : j2 < P.length
              · have hltp' : (j2 : Int) < (ps.length : Int) := by have h1 := HPL.out; omega
                obtain ⟨b4, o4, hA4, hB4, hc4⟩ := strsOf R4.out (by omega)
                subst hA4
                have cp := hc4 j2 _ (HPC.out j2 hltp)
                have HS := Lib.hid (HPP.out j2)
                clear hc4
                cases hip : pp j2 with
                | true =>
                  have HS1 : Hid (pp (j2 + 1) = true) := by show _ = _; rw [HS.out, hip]; rfl
                  clear hip HS
                  go_wp2
                  go_round
                  case rel => exact ⟨j2 + 1, by omega, by go_num, by rw [HS1.out]⟩
                  case measure => simp [intOf]; omega
                | false =>
                  have ej := HEP.out j2 hltp
                  have HS1 : Hid (pp (j2 + 1) = decide (P[j2]? = some tb)) := by show _ = _; rw [HS.out, hip]; rfl
                  generalize decide (P[j2]? = some tb) = dj at *
                  generalize strOf (P[j2]'hltp) = zj at *
                  clear hip HS
                  go_wp2
                  go_round
                  case rel => exact ⟨j2 + 1, by omega, by go_num, by rw [HS1.out]⟩
                  case measure => simp [intOf]; omega
              · obtain rfl : j2 = P.length := by omega
                have hnp : ¬ ((P.length : Nat) : Int) < (ps.length : Int) := by have h1 := HPL.out; omega
                rw [HPPK.out]
                have HM1 : Hid (max m (z.size - 1) = mxCut (xs.take (j + 1))) := by
                  show _ = _
                  rw [HMS.out, ← HMk.out, HSZ.out]
                have hmz : max m (z.size - 1) ≤ 9 := by omega
                go_wp2
                go_round
                case rel => exact ⟨j + 1, max m (z.size - 1), by omega, by go_num, congrArg (Value.int .i64) (by omega), hmz, HM1⟩
                case measure => simp [intOf]; omega
      · have hkl : k = xs.length := by omega
        have HMM : Hid (m = M) := by
          show _ = _
          rw [HMk.out, hkl, List.take_length, HM.out]
        have hnT : ¬ (k : Int) < (ts.length : Int) := by have h1 := HTL.out; omega
        have hmm := HMM.out
        subst hmm
        clear HMk
        go_wp2
        go_loop [19, 219] (fun o i => ∃ j : Nat, j ≤ cs.length ∧ i = .int .i64 j ∧ o = .int .i64 (sumF fc j)) (fun _ i => cs.length - (intOf i).toNat)
        case atStart => exact ⟨0, Nat.zero_le _, rfl, rfl⟩
        case round =>
          obtain ⟨j, hj, rfl, rfl⟩ := hrel
          have hj0 : (0 : Int) ≤ (j : Int) := Int.natCast_nonneg _
          by_cases hltj : j < cs.length
          · have hltj' : (j : Int) < (cs.length : Int) := by omega
            have hjl : j < l.length := by have := HCL.out; omega
            obtain ⟨b6, o6, hA6, hB6, hc6⟩ := Si.intsOf R6.out (by omega)
            subst hA6
            have cj := hc6 j _ (HCA.out j hjl)
            rw [HFC.out] at cj
            have hcb := HCB.out j
            rw [HFC.out] at hcb
            obtain ⟨s1, s2⟩ := HSB.out j
            obtain ⟨k1, k2⟩ := hcb
            have HSS : Hid (sumF fc (j + 1) = sumF fc j + fc j) := rfl
            have hsb : sumF fc j ≤ 80000 := by omega
            clear hc6 s2
            generalize sumF fc j = S0 at *
            generalize fc j = fj at *
            go_wp2
            go_round
            case rel => exact ⟨j + 1, by omega, by go_num, by rw [HSS.out]⟩
            case measure => simp [intOf]; omega
          · have hje : j = cs.length := by omega
            have HSE : Hid (sumF fc j = (ts.length : Int)) := by
              show _ = _
              rw [hje, HCL.out, HSU.out, HTL.out]
            rw [HSE.out]
            have hpt : (ps.length : Int) ≤ (ts.length : Int) := by omega
            have hnj : ¬ (j : Int) < (cs.length : Int) := by omega
            have hxt : (xs.length : Int) = (ts.length : Int) := by have h1 := HTL.out; omega
            rw [hxt] at C9
            clear HSE hje hxt
            go_wp2_with fail
            refine (C9.out _ HS12.out).mono ?_
            rintro e w13 ⟨rfl, hb⟩
            have HB13 : Hid (Below w.heap.size w w13) := HB12.out.trans (hb.mono HB12.out.size)
            clear hb
            go_wp2
            go_ret
            exact ⟨rfl, HB13.out⟩

end Go.Proofs.Ytafpefjjeddmeaa
