/- Joined: Ai. -/
import Derived.Test.YtcpiojliakgdlaaGreatDoorU21
import Derived.Test.YtcpiojliakgdlaaGreatDoorU22
import Derived.Test.YtcpiojliakgdlaaGreatDoorU16
import Derived.Test.YtcpiojliakgdlaaGreatDoorU23
import Derived.Test.YtcpiojliakgdlaaGreatDoorU24
import Derived.Test.YtcpiojliakgdlaaGreatDoorU11
import Derived.Test.YtcpiojliakgdlaaGreatDoorU25
import Derived.Test.YtcpiojliakgdlaaGreatDoorU14
/- The walk of the law FnRoomLeft. -/
namespace Go.Proofs.YtcpiojliakgdlaaGreatDoor
open Go.RowKit

theorem bytes_later6 {w w' : World} {A : Option Addr} {m : Nat} (h : ∀ b, w.heap.size ≤ b → Bytes w b A m) (hb : Below w.heap.size w w') : ∀ b, w'.heap.size ≤ b → Bytes w' b A m := fun b hbb h0 => by
  have hz := hb.size
  obtain ⟨g, o, rfl, hne, hlt, hx⟩ := h b (by omega) h0
  refine ⟨g, o, rfl, hne, by omega, fun i hi => ?_⟩
  obtain ⟨x, hc, hx2⟩ := hx i hi
  exact ⟨x, (hb.cell (p := ⟨g, o + i, none⟩) hlt).trans hc, hx2⟩

set_option maxRecDepth 100000 in
set_option maxHeartbeats 16000000 in
theorem roomLeftLaw_any (hgood : GoodSaid) (A0 : Option Addr) (n c0 : Nat) (A2 : Option Addr) (n2 c2 : Nat) (m : Int) (w : World) (hm0 : w.cell? ⟨0, 0, none⟩ = some (.int .i64 m)) (hz0 : 0 < w.heap.size) (hn : n ≤ c0) (hm : n ≤ maxLen) (hx : ∀ b, w.heap.size ≤ b → Bytes w b A0 n) (hn2 : n2 ≤ c2) (hm2 : n2 ≤ maxLen) (hx2 : ∀ b, w.heap.size ≤ b → Bytes w b A2 n2) :
    Calls Tryz.prog 3 #[.slice A0 n c0, .slice A2 n2 c2] w fun e w' => e = .returned (.bool true) ∧ Below w.heap.size w w' := by
  unfold maxLen at hm hm2
  by_cases hbig : 1048576 < n
  · clear hx hx2 hgood hm0
    go_enter Tryz.func3, Tryz.ntmps3
    go_wp2
    go_ret
    exact ⟨rfl, Below.refl _ _⟩
  by_cases hbig2 : 1048576 < n2
  · clear hx hx2 hgood hm0
    go_enter Tryz.func3, Tryz.ntmps3
    go_wp2
    go_ret
    exact ⟨rfl, Below.refl _ _⟩
  have HD := Lib.hid (drawRoomLeft9 hgood A0 n c0 w hn hx)
  have HD2 := Lib.hid (fun w' (hb : Below w.heap.size w w') => drawResize9 hgood A2 n2 c2 w' hn2 (bytes_later6 hx2 hb))
  have HD3 := Lib.hid (fun w' (hb : Below w.heap.size w w') => drawNamesIn9 hgood A2 n2 c2 w' hn2 (bytes_later6 hx2 hb))
  have HM0 := Lib.hid hm0
  clear hx hx2 hgood hm0
  go_enter Tryz.func3, Tryz.ntmps3
  go_wp2_with fail
  refine Calls.mono HD.out ?_
  rintro e w1 ⟨A, l, c, s, rfl, ⟨hs1, ⟨hl9, hlc, hcm⟩, hnm⟩, hsz, hb1⟩
  have hsh : Short l := fun x hx => by have := hnm x hx; unfold maxLen; omega
  have HLI := Lib.hid (fun W h => roomLeft_any A l c s W h (by omega) hlc hcm hsh)
  have HLS := Lib.hid (fun W h => specRoomLeft_any A l c s W h (by omega) hsh)
  have HSO := Lib.hid (fun W h => sizeOf_any A l c s W h (by omega) hlc hcm hsh)
  have HRZ := Lib.hid (fun z W h => resize_any A l c s z W h (by omega) hlc hcm hsh (by omega))
  have HRM := Lib.hid (fun W h => roomOf_any A l c W h (by omega) hlc hcm hsh)
  have HRX : Hid (∀ X (t : List Seg) k W, Segs W W.heap.size X t → Short t ∧ t.length ≤ 9 → t.length ≤ k → k ≤ 9223372036854775807 → Calls Tryz.prog 16 #[.slice X t.length k] W fun e w' => e = .returned (.int .i64 (roomB t)) ∧ Below W.heap.size W w') := fun X t k W h h1 h2 h3 => roomOf_any X t k W h (by omega) h2 h3 h1.1
  have HSX : Hid (∀ X (t : List Seg) k y W, Segs W W.heap.size X t → Short t ∧ t.length ≤ 9 → t.length ≤ k → k ≤ 9223372036854775807 → Calls Tryz.prog 14 #[.slice X t.length k, .string y] W fun e w' => e = .returned (.int .i64 (sizeB t y)) ∧ Below W.heap.size W w') := fun X t k y W h h1 h2 h3 => sizeOf_any X t k y W h (by omega) h2 h3 h1.1
  have HOF := Lib.hid (fun h => left_off10 (l := l) (s := s) h)
  have HIN := Lib.hid (fun h => left_in10 (l := l) (s := s) h)
  have HB1 := Lib.hid hb1
  have HW := Lib.hid hs1
  clear hs1 hnm hb1 hsh HD
  unfold TreeAns at HRZ
  obtain ⟨nl, HNL⟩ : ∃ x, Hid (leftB l s = x) := ⟨_, rfl⟩
  rw [HNL.out] at HLI HLS
  go_wp2_with fail
  refine Calls.mono (HLI.out w1 HW.out) ?_
  rintro e w2 ⟨rfl, hb2⟩
  have HB2 : Hid (Below w.heap.size w w2) := HB1.out.trans (hb2.mono HB1.out.size)
  have HW := Lib.hid ((HW.out.below hb2).more hb2.size)
  clear hb2 HB1 HLI
  go_wp2_with fail
  refine Calls.mono (HD2.out w2 HB2.out) ?_
  rintro e w3 ⟨B, t, d, y, z, rfl, ⟨hs3, ⟨ht9, htd, hdm⟩, htn⟩, hyz, ⟨hz1, hz2⟩, hb3⟩
  have HB3 : Hid (Below w.heap.size w w3) := HB2.out.trans (hb3.mono HB2.out.size)
  have HW := Lib.hid ((HW.out.below hb3).more hb3.size)
  have HV := Lib.hid hs3
  have hth : Short t := fun x hx => by have := htn x hx; unfold maxLen; omega
  have HZI := Lib.hid (fun W h => resize_any B t d y z W h (by omega) htd hdm hth (by omega))
  have HZS := Lib.hid (fun W h => specResize_any B t d y z W h (by omega) hth (by omega))
  have hrs := resize_short10 t y z
  have HRS := Lib.hid (fun h => resize_size10 (l := t) (s := y) (z := z) h)
  unfold TreeAns at HZI HZS
  generalize resizeL t y z = R at *
  generalize resizeOk t y z = k1 at *
  clear hb3 HB2 hs3 htn hth HD2
  go_wp2_with fail
  refine Calls.mono (HZI.out w3 HV.out) ?_
  rintro e w4 ⟨v2, rfl, ho4, hb4⟩
  have HB4 : Hid (Below w.heap.size w w4) := HB3.out.trans (hb4.mono HB3.out.size)
  have HW := Lib.hid ((HW.out.below hb4).more hb4.size)
  have HV := Lib.hid ((HV.out.below hb4).more hb4.size)
  obtain ⟨R1, r1, rfl, hr1, hr2, hi4⟩ := treeCap ho4
  have HR1 := Lib.hid hi4
  clear hb4 HB3 ho4 hi4 HZI
  go_wp2_with fail
  refine Calls.mono (HZS.out w4 HV.out) ?_
  rintro e w5 ⟨v3, rfl, ho5, hb5⟩
  have HB5 : Hid (Below w.heap.size w w5) := HB4.out.trans (hb5.mono HB4.out.size)
  have HW := Lib.hid ((HW.out.below hb5).more hb5.size)
  have HV := Lib.hid ((HV.out.below hb5).more hb5.size)
  have HR1 := Lib.hid ((HR1.out.below hb5).more hb5.size)
  obtain ⟨R2, r2, rfl, -, -, hi5⟩ := treeCap ho5
  have HR2 := Lib.hid hi5
  clear hb5 HB4 ho5 hi5 HZS HV
  go_wp2_with fail
  refine Calls.mono (HD3.out w5 HB5.out) ?_
  rintro e w6 ⟨C, u, cc, q, a, b, rfl, ⟨hs6, ⟨hu9, huc, hum⟩, hun⟩, hqz, haz, hbz, hb6⟩
  have HB6 : Hid (Below w.heap.size w w6) := HB5.out.trans (hb6.mono HB5.out.size)
  have HW := Lib.hid ((HW.out.below hb6).more hb6.size)
  have HR1 := Lib.hid ((HR1.out.below hb6).more hb6.size)
  have HR2 := Lib.hid ((HR2.out.below hb6).more hb6.size)
  have HX := Lib.hid hs6
  have huh : Short u := fun x hx => by have := hun x hx; unfold maxLen; omega
  have HNI := Lib.hid (fun W (hb : Below w.heap.size w W) h => implNamesIn9_any C u cc q a b m W h (by omega) huc hum huh (by omega) ((hb.cell (p := ⟨0, 0, none⟩) hz0).trans HM0.out) (by have := hb.size; omega))
  have HNS := Lib.hid (fun W h => specNamesIn9_any C u cc q a b W h (by omega) huh (by omega))
  have HC1 := Lib.hid (fun W h => implCountCalls_any C u cc (namesIn9 u q a b) W h (by omega) huc hum huh (by have := names_size10 (l := u) (t := q) (s := a) (x := b); omega))
  have HC2 := Lib.hid (fun W h => implCountCalls_any C u cc q W h (by omega) huc hum huh (by omega))
  have HCE := Lib.hid (fun h => names_res10 (l := u) (t := q) (s := a) (x := b) h)
  generalize namesIn9 u q a b = nq at *
  generalize namesOk9 u q a b = k2 at *
  clear hb6 HB5 hs6 hun huh HD3 HM0
  go_wp2_with fail
  refine Calls.mono (HNI.out w6 HB6.out HX.out) ?_
  rintro e w7 ⟨rfl, hb7⟩
  have HB7 : Hid (Below w.heap.size w w7) := HB6.out.trans (hb7.mono HB6.out.size)
  have HW := Lib.hid ((HW.out.below hb7).more hb7.size)
  have HR1 := Lib.hid ((HR1.out.below hb7).more hb7.size)
  have HR2 := Lib.hid ((HR2.out.below hb7).more hb7.size)
  have HX := Lib.hid ((HX.out.below hb7).more hb7.size)
  clear hb7 HB6 HNI
  go_wp2_with fail
  refine Calls.mono (HNS.out w7 HX.out) ?_
  rintro e w8 ⟨rfl, hb8⟩
  have HB8 : Hid (Below w.heap.size w w8) := HB7.out.trans (hb8.mono HB7.out.size)
  have HW := Lib.hid ((HW.out.below hb8).more hb8.size)
  have HR1 := Lib.hid ((HR1.out.below hb8).more hb8.size)
  have HR2 := Lib.hid ((HR2.out.below hb8).more hb8.size)
  have HX := Lib.hid ((HX.out.below hb8).more hb8.size)
  clear hb8 HB7 HNS
  go_wp2_with fail
  refine Calls.mono (HLS.out w8 HW.out) ?_
  rintro e w9 ⟨rfl, hb9⟩
  have HB9 : Hid (Below w.heap.size w w9) := HB8.out.trans (hb9.mono HB8.out.size)
  have HW := Lib.hid ((HW.out.below hb9).more hb9.size)
  have HR1 := Lib.hid ((HR1.out.below hb9).more hb9.size)
  have HR2 := Lib.hid ((HR2.out.below hb9).more hb9.size)
  have HX := Lib.hid ((HX.out.below hb9).more hb9.size)
  clear hb9 HB8 HLS
  go_wp2_with fail
  refine Calls.mono (soTree_any R1 R2 R r1 r2 w9 HR1.out HR2.out (by omega)) ?_
  rintro e w10 ⟨rfl, hb10⟩
  have HB10 : Hid (Below w.heap.size w w10) := HB9.out.trans (hb10.mono HB9.out.size)
  have HW := Lib.hid ((HW.out.below hb10).more hb10.size)
  have HR1 := Lib.hid ((HR1.out.below hb10).more hb10.size)
  have HR2 := Lib.hid ((HR2.out.below hb10).more hb10.size)
  have HX := Lib.hid ((HX.out.below hb10).more hb10.size)
  clear hb10 HB9 HR2
  cases k1 with
  | false =>
    clear HRS HSX HR1
    cases k2 with
    | false =>
      clear HCE HC1 HC2 HX
      by_cases hneg : nl < 0
      · obtain rfl : nl = -1 := HNL.out.symm.trans (HOF.out (by rw [HNL.out]; exact hneg))
        go_wp2
        go_ret
        exact ⟨rfl, HB10.out⟩
      · obtain ⟨hlo, hhi, ⟨how1, how2⟩, hfits, hsame, hmore⟩ := HIN.out (by rw [HNL.out]; omega)
        rw [HNL.out] at hlo hhi hfits hsame hmore
        clear HOF HIN HNL
        generalize sizeB l s = own at *
        have hw1 : IntKind.i64.wrap (own + nl) = own + nl := IntWalk.i64_in _ (by omega)
        have hw2 : IntKind.i64.wrap (own + nl + 1) = own + nl + 1 := IntWalk.i64_in _ (by omega)
        have HG := Lib.hid (HRZ.out (own + nl))
        have HF := Lib.hid (HRZ.out (own + nl + 1))
        have hg9 := resize_short10 l s (own + nl)
        have hf9 := resize_short10 l s (own + nl + 1)
        rw [hfits] at HG
        clear HRZ hfits
        generalize resizeL l s (own + nl) = G at *
        generalize resizeL l s (own + nl + 1) = F at *
        generalize resizeOk l s (own + nl + 1) = k3 at *
        have HGX := Lib.hid (fun X k W h h2 h3 => HRX.out X G k W h hg9 h2 h3)
        have HFX := Lib.hid (fun X k W h h2 h3 => HRX.out X F k W h hf9 h2 h3)
        rw [hsame] at HGX
        clear HRX hg9 hf9 hsame
        generalize roomB l = rl at *
        generalize roomB F = rf at *
        go_wp2_with fail
        refine Calls.mono (HSO.out w10 HW.out) ?_
        rintro e w11 ⟨rfl, hb11⟩
        have HB11 : Hid (Below w.heap.size w w11) := HB10.out.trans (hb11.mono HB10.out.size)
        have HW := Lib.hid ((HW.out.below hb11).more hb11.size)
        clear hb11 HB10 HSO
        go_wp2_with fail
        refine Calls.mono (HG.out w11 HW.out) ?_
        rintro e w12 ⟨v6, rfl, ho12, hb12⟩
        have HB12 : Hid (Below w.heap.size w w12) := HB11.out.trans (hb12.mono HB11.out.size)
        have HW := Lib.hid ((HW.out.below hb12).more hb12.size)
        obtain ⟨G1, g1, rfl, hg1, hg2, hi12⟩ := treeCap ho12
        have HG1 := Lib.hid hi12
        clear hb12 HB11 ho12 hi12 HG
        go_wp2_with fail
        refine Calls.mono (HGX.out G1 g1 w12 HG1.out hg1 hg2) ?_
        rintro e w13 ⟨rfl, hb13⟩
        have HB13 : Hid (Below w.heap.size w w13) := HB12.out.trans (hb13.mono HB12.out.size)
        have HW := Lib.hid ((HW.out.below hb13).more hb13.size)
        have HG1 := Lib.hid ((HG1.out.below hb13).more hb13.size)
        clear hb13 HB12 HGX HG1
        go_wp2_with fail
        refine Calls.mono (HRM.out w13 HW.out) ?_
        rintro e w14 ⟨rfl, hb14⟩
        have HB14 : Hid (Below w.heap.size w w14) := HB13.out.trans (hb14.mono HB13.out.size)
        have HW := Lib.hid ((HW.out.below hb14).more hb14.size)
        clear hb14 HB13
        go_wp2_with fail
        refine Calls.mono (HF.out w14 HW.out) ?_
        rintro e w15 ⟨v7, rfl, ho15, hb15⟩
        have HB15 : Hid (Below w.heap.size w w15) := HB14.out.trans (hb15.mono HB14.out.size)
        have HW := Lib.hid ((HW.out.below hb15).more hb15.size)
        obtain ⟨F1, f1, rfl, hf1, hf2, hi15⟩ := treeCap ho15
        have HF1 := Lib.hid hi15
        clear hb15 HB14 ho15 hi15 HF
        cases k3 with
        | false =>
          clear hmore
          go_wp2
          go_ret
          exact ⟨rfl, HB15.out⟩
        | true =>
          have hgt := hmore rfl
          clear hmore
          go_wp2_with fail
          refine Calls.mono (HFX.out F1 f1 w15 HF1.out hf1 hf2) ?_
          rintro e w16 ⟨rfl, hb16⟩
          have HB16 : Hid (Below w.heap.size w w16) := HB15.out.trans (hb16.mono HB15.out.size)
          have HW := Lib.hid ((HW.out.below hb16).more hb16.size)
          have HF1 := Lib.hid ((HF1.out.below hb16).more hb16.size)
          clear hb16 HB15 HFX HF1
          go_wp2_with fail
          refine Calls.mono (HRM.out w16 HW.out) ?_
          rintro e w17 ⟨rfl, hb17⟩
          have HB17 : Hid (Below w.heap.size w w17) := HB16.out.trans (hb17.mono HB16.out.size)
          have HW := Lib.hid ((HW.out.below hb17).more hb17.size)
          clear hb17 HB16 HRM
          go_wp2
          go_ret
          exact ⟨rfl, HB17.out⟩
    | true =>
      rw [HCE.out rfl] at HC1
      generalize countRes u q = ct at *
      clear HCE
      go_wp2_with fail
      refine Calls.mono (HC1.out w10 HX.out) ?_
      rintro e w11 ⟨rfl, hb11⟩
      have HB11 : Hid (Below w.heap.size w w11) := HB10.out.trans (hb11.mono HB10.out.size)
      have HW := Lib.hid ((HW.out.below hb11).more hb11.size)
      have HX := Lib.hid ((HX.out.below hb11).more hb11.size)
      clear hb11 HB10 HC1
      go_wp2_with fail
      refine Calls.mono (HC2.out w11 HX.out) ?_
      rintro e w12 ⟨rfl, hb12⟩
      have HB12 : Hid (Below w.heap.size w w12) := HB11.out.trans (hb12.mono HB11.out.size)
      have HW := Lib.hid ((HW.out.below hb12).more hb12.size)
      have HX := Lib.hid ((HX.out.below hb12).more hb12.size)
      clear hb12 HB11 HC2 HX
      by_cases hneg : nl < 0
      · obtain rfl : nl = -1 := HNL.out.symm.trans (HOF.out (by rw [HNL.out]; exact hneg))
        go_wp2
        go_ret
        exact ⟨rfl, HB12.out⟩
      · obtain ⟨hlo, hhi, ⟨how1, how2⟩, hfits, hsame, hmore⟩ := HIN.out (by rw [HNL.out]; omega)
        rw [HNL.out] at hlo hhi hfits hsame hmore
        clear HOF HIN HNL
        generalize sizeB l s = own at *
        have hw1 : IntKind.i64.wrap (own + nl) = own + nl := IntWalk.i64_in _ (by omega)
        have hw2 : IntKind.i64.wrap (own + nl + 1) = own + nl + 1 := IntWalk.i64_in _ (by omega)
        have HG := Lib.hid (HRZ.out (own + nl))
        have HF := Lib.hid (HRZ.out (own + nl + 1))
        have hg9 := resize_short10 l s (own + nl)
        have hf9 := resize_short10 l s (own + nl + 1)
        rw [hfits] at HG
        clear HRZ hfits
        generalize resizeL l s (own + nl) = G at *
        generalize resizeL l s (own + nl + 1) = F at *
        generalize resizeOk l s (own + nl + 1) = k3 at *
        have HGX := Lib.hid (fun X k W h h2 h3 => HRX.out X G k W h hg9 h2 h3)
        have HFX := Lib.hid (fun X k W h h2 h3 => HRX.out X F k W h hf9 h2 h3)
        rw [hsame] at HGX
        clear HRX hg9 hf9 hsame
        generalize roomB l = rl at *
        generalize roomB F = rf at *
        go_wp2_with fail
        refine Calls.mono (HSO.out w12 HW.out) ?_
        rintro e w13 ⟨rfl, hb13⟩
        have HB13 : Hid (Below w.heap.size w w13) := HB12.out.trans (hb13.mono HB12.out.size)
        have HW := Lib.hid ((HW.out.below hb13).more hb13.size)
        clear hb13 HB12 HSO
        go_wp2_with fail
        refine Calls.mono (HG.out w13 HW.out) ?_
        rintro e w14 ⟨v6, rfl, ho14, hb14⟩
        have HB14 : Hid (Below w.heap.size w w14) := HB13.out.trans (hb14.mono HB13.out.size)
        have HW := Lib.hid ((HW.out.below hb14).more hb14.size)
        obtain ⟨G1, g1, rfl, hg1, hg2, hi14⟩ := treeCap ho14
        have HG1 := Lib.hid hi14
        clear hb14 HB13 ho14 hi14 HG
        go_wp2_with fail
        refine Calls.mono (HGX.out G1 g1 w14 HG1.out hg1 hg2) ?_
        rintro e w15 ⟨rfl, hb15⟩
        have HB15 : Hid (Below w.heap.size w w15) := HB14.out.trans (hb15.mono HB14.out.size)
        have HW := Lib.hid ((HW.out.below hb15).more hb15.size)
        have HG1 := Lib.hid ((HG1.out.below hb15).more hb15.size)
        clear hb15 HB14 HGX HG1
        go_wp2_with fail
        refine Calls.mono (HRM.out w15 HW.out) ?_
        rintro e w16 ⟨rfl, hb16⟩
        have HB16 : Hid (Below w.heap.size w w16) := HB15.out.trans (hb16.mono HB15.out.size)
        have HW := Lib.hid ((HW.out.below hb16).more hb16.size)
        clear hb16 HB15
        go_wp2_with fail
        refine Calls.mono (HF.out w16 HW.out) ?_
        rintro e w17 ⟨v7, rfl, ho17, hb17⟩
        have HB17 : Hid (Below w.heap.size w w17) := HB16.out.trans (hb17.mono HB16.out.size)
        have HW := Lib.hid ((HW.out.below hb17).more hb17.size)
        obtain ⟨F1, f1, rfl, hf1, hf2, hi17⟩ := treeCap ho17
        have HF1 := Lib.hid hi17
        clear hb17 HB16 ho17 hi17 HF
        cases k3 with
        | false =>
          clear hmore
          go_wp2
          go_ret
          exact ⟨rfl, HB17.out⟩
        | true =>
          have hgt := hmore rfl
          clear hmore
          go_wp2_with fail
          refine Calls.mono (HFX.out F1 f1 w17 HF1.out hf1 hf2) ?_
          rintro e w18 ⟨rfl, hb18⟩
          have HB18 : Hid (Below w.heap.size w w18) := HB17.out.trans (hb18.mono HB17.out.size)
          have HW := Lib.hid ((HW.out.below hb18).more hb18.size)
          have HF1 := Lib.hid ((HF1.out.below hb18).more hb18.size)
          clear hb18 HB17 HFX HF1
          go_wp2_with fail
          refine Calls.mono (HRM.out w18 HW.out) ?_
          rintro e w19 ⟨rfl, hb19⟩
          have HB19 : Hid (Below w.heap.size w w19) := HB18.out.trans (hb19.mono HB18.out.size)
          have HW := Lib.hid ((HW.out.below hb19).more hb19.size)
          clear hb19 HB18 HRM
          go_wp2
          go_ret
          exact ⟨rfl, HB19.out⟩
  | true =>
    have HS2 := Lib.hid (fun W h => HSX.out R1 R r1 y W h hrs hr1 hr2)
    rw [HRS.out rfl] at HS2
    clear HRS HSX
    go_wp2_with fail
    refine Calls.mono (HS2.out w10 HR1.out) ?_
    rintro e w11 ⟨rfl, hb11⟩
    have HB11 : Hid (Below w.heap.size w w11) := HB10.out.trans (hb11.mono HB10.out.size)
    have HW := Lib.hid ((HW.out.below hb11).more hb11.size)
    have HR1 := Lib.hid ((HR1.out.below hb11).more hb11.size)
    have HX := Lib.hid ((HX.out.below hb11).more hb11.size)
    clear hb11 HB10 HS2 HR1
    cases k2 with
    | false =>
      clear HCE HC1 HC2 HX
      by_cases hneg : nl < 0
      · obtain rfl : nl = -1 := HNL.out.symm.trans (HOF.out (by rw [HNL.out]; exact hneg))
        go_wp2
        go_ret
        exact ⟨rfl, HB11.out⟩
      · obtain ⟨hlo, hhi, ⟨how1, how2⟩, hfits, hsame, hmore⟩ := HIN.out (by rw [HNL.out]; omega)
        rw [HNL.out] at hlo hhi hfits hsame hmore
        clear HOF HIN HNL
        generalize sizeB l s = own at *
        have hw1 : IntKind.i64.wrap (own + nl) = own + nl := IntWalk.i64_in _ (by omega)
        have hw2 : IntKind.i64.wrap (own + nl + 1) = own + nl + 1 := IntWalk.i64_in _ (by omega)
        have HG := Lib.hid (HRZ.out (own + nl))
        have HF := Lib.hid (HRZ.out (own + nl + 1))
        have hg9 := resize_short10 l s (own + nl)
        have hf9 := resize_short10 l s (own + nl + 1)
        rw [hfits] at HG
        clear HRZ hfits
        generalize resizeL l s (own + nl) = G at *
        generalize resizeL l s (own + nl + 1) = F at *
        generalize resizeOk l s (own + nl + 1) = k3 at *
        have HGX := Lib.hid (fun X k W h h2 h3 => HRX.out X G k W h hg9 h2 h3)
        have HFX := Lib.hid (fun X k W h h2 h3 => HRX.out X F k W h hf9 h2 h3)
        rw [hsame] at HGX
        clear HRX hg9 hf9 hsame
        generalize roomB l = rl at *
        generalize roomB F = rf at *
        go_wp2_with fail
        refine Calls.mono (HSO.out w11 HW.out) ?_
        rintro e w12 ⟨rfl, hb12⟩
        have HB12 : Hid (Below w.heap.size w w12) := HB11.out.trans (hb12.mono HB11.out.size)
        have HW := Lib.hid ((HW.out.below hb12).more hb12.size)
        clear hb12 HB11 HSO
        go_wp2_with fail
        refine Calls.mono (HG.out w12 HW.out) ?_
        rintro e w13 ⟨v6, rfl, ho13, hb13⟩
        have HB13 : Hid (Below w.heap.size w w13) := HB12.out.trans (hb13.mono HB12.out.size)
        have HW := Lib.hid ((HW.out.below hb13).more hb13.size)
        obtain ⟨G1, g1, rfl, hg1, hg2, hi13⟩ := treeCap ho13
        have HG1 := Lib.hid hi13
        clear hb13 HB12 ho13 hi13 HG
        go_wp2_with fail
        refine Calls.mono (HGX.out G1 g1 w13 HG1.out hg1 hg2) ?_
        rintro e w14 ⟨rfl, hb14⟩
        have HB14 : Hid (Below w.heap.size w w14) := HB13.out.trans (hb14.mono HB13.out.size)
        have HW := Lib.hid ((HW.out.below hb14).more hb14.size)
        have HG1 := Lib.hid ((HG1.out.below hb14).more hb14.size)
        clear hb14 HB13 HGX HG1
        go_wp2_with fail
        refine Calls.mono (HRM.out w14 HW.out) ?_
        rintro e w15 ⟨rfl, hb15⟩
        have HB15 : Hid (Below w.heap.size w w15) := HB14.out.trans (hb15.mono HB14.out.size)
        have HW := Lib.hid ((HW.out.below hb15).more hb15.size)
        clear hb15 HB14
        go_wp2_with fail
        refine Calls.mono (HF.out w15 HW.out) ?_
        rintro e w16 ⟨v7, rfl, ho16, hb16⟩
        have HB16 : Hid (Below w.heap.size w w16) := HB15.out.trans (hb16.mono HB15.out.size)
        have HW := Lib.hid ((HW.out.below hb16).more hb16.size)
        obtain ⟨F1, f1, rfl, hf1, hf2, hi16⟩ := treeCap ho16
        have HF1 := Lib.hid hi16
        clear hb16 HB15 ho16 hi16 HF
        cases k3 with
        | false =>
          clear hmore
          go_wp2
          go_ret
          exact ⟨rfl, HB16.out⟩
        | true =>
          have hgt := hmore rfl
          clear hmore
          go_wp2_with fail
          refine Calls.mono (HFX.out F1 f1 w16 HF1.out hf1 hf2) ?_
          rintro e w17 ⟨rfl, hb17⟩
          have HB17 : Hid (Below w.heap.size w w17) := HB16.out.trans (hb17.mono HB16.out.size)
          have HW := Lib.hid ((HW.out.below hb17).more hb17.size)
          have HF1 := Lib.hid ((HF1.out.below hb17).more hb17.size)
          clear hb17 HB16 HFX HF1
          go_wp2_with fail
          refine Calls.mono (HRM.out w17 HW.out) ?_
          rintro e w18 ⟨rfl, hb18⟩
          have HB18 : Hid (Below w.heap.size w w18) := HB17.out.trans (hb18.mono HB17.out.size)
          have HW := Lib.hid ((HW.out.below hb18).more hb18.size)
          clear hb18 HB17 HRM
          go_wp2
          go_ret
          exact ⟨rfl, HB18.out⟩
    | true =>
      rw [HCE.out rfl] at HC1
      generalize countRes u q = ct at *
      clear HCE
      go_wp2_with fail
      refine Calls.mono (HC1.out w11 HX.out) ?_
      rintro e w12 ⟨rfl, hb12⟩
      have HB12 : Hid (Below w.heap.size w w12) := HB11.out.trans (hb12.mono HB11.out.size)
      have HW := Lib.hid ((HW.out.below hb12).more hb12.size)
      have HX := Lib.hid ((HX.out.below hb12).more hb12.size)
      clear hb12 HB11 HC1
      go_wp2_with fail
      refine Calls.mono (HC2.out w12 HX.out) ?_
      rintro e w13 ⟨rfl, hb13⟩
      have HB13 : Hid (Below w.heap.size w w13) := HB12.out.trans (hb13.mono HB12.out.size)
      have HW := Lib.hid ((HW.out.below hb13).more hb13.size)
      have HX := Lib.hid ((HX.out.below hb13).more hb13.size)
      clear hb13 HB12 HC2 HX
      by_cases hneg : nl < 0
      · obtain rfl : nl = -1 := HNL.out.symm.trans (HOF.out (by rw [HNL.out]; exact hneg))
        go_wp2
        go_ret
        exact ⟨rfl, HB13.out⟩
      · obtain ⟨hlo, hhi, ⟨how1, how2⟩, hfits, hsame, hmore⟩ := HIN.out (by rw [HNL.out]; omega)
        rw [HNL.out] at hlo hhi hfits hsame hmore
        clear HOF HIN HNL
        generalize sizeB l s = own at *
        have hw1 : IntKind.i64.wrap (own + nl) = own + nl := IntWalk.i64_in _ (by omega)
        have hw2 : IntKind.i64.wrap (own + nl + 1) = own + nl + 1 := IntWalk.i64_in _ (by omega)
        have HG := Lib.hid (HRZ.out (own + nl))
        have HF := Lib.hid (HRZ.out (own + nl + 1))
        have hg9 := resize_short10 l s (own + nl)
        have hf9 := resize_short10 l s (own + nl + 1)
        rw [hfits] at HG
        clear HRZ hfits
        generalize resizeL l s (own + nl) = G at *
        generalize resizeL l s (own + nl + 1) = F at *
        generalize resizeOk l s (own + nl + 1) = k3 at *
        have HGX := Lib.hid (fun X k W h h2 h3 => HRX.out X G k W h hg9 h2 h3)
        have HFX := Lib.hid (fun X k W h h2 h3 => HRX.out X F k W h hf9 h2 h3)
        rw [hsame] at HGX
        clear HRX hg9 hf9 hsame
        generalize roomB l = rl at *
        generalize roomB F = rf at *
        go_wp2_with fail
        refine Calls.mono (HSO.out w13 HW.out) ?_
        rintro e w14 ⟨rfl, hb14⟩
        have HB14 : Hid (Below w.heap.size w w14) := HB13.out.trans (hb14.mono HB13.out.size)
        have HW := Lib.hid ((HW.out.below hb14).more hb14.size)
        clear hb14 HB13 HSO
        go_wp2_with fail
        refine Calls.mono (HG.out w14 HW.out) ?_
        rintro e w15 ⟨v6, rfl, ho15, hb15⟩
        have HB15 : Hid (Below w.heap.size w w15) := HB14.out.trans (hb15.mono HB14.out.size)
        have HW := Lib.hid ((HW.out.below hb15).more hb15.size)
        obtain ⟨G1, g1, rfl, hg1, hg2, hi15⟩ := treeCap ho15
        have HG1 := Lib.hid hi15
        clear hb15 HB14 ho15 hi15 HG
        go_wp2_with fail
        refine Calls.mono (HGX.out G1 g1 w15 HG1.out hg1 hg2) ?_
        rintro e w16 ⟨rfl, hb16⟩
        have HB16 : Hid (Below w.heap.size w w16) := HB15.out.trans (hb16.mono HB15.out.size)
        have HW := Lib.hid ((HW.out.below hb16).more hb16.size)
        have HG1 := Lib.hid ((HG1.out.below hb16).more hb16.size)
        clear hb16 HB15 HGX HG1
        go_wp2_with fail
        refine Calls.mono (HRM.out w16 HW.out) ?_
        rintro e w17 ⟨rfl, hb17⟩
        have HB17 : Hid (Below w.heap.size w w17) := HB16.out.trans (hb17.mono HB16.out.size)
        have HW := Lib.hid ((HW.out.below hb17).more hb17.size)
        clear hb17 HB16
        go_wp2_with fail
        refine Calls.mono (HF.out w17 HW.out) ?_
        rintro e w18 ⟨v7, rfl, ho18, hb18⟩
        have HB18 : Hid (Below w.heap.size w w18) := HB17.out.trans (hb18.mono HB17.out.size)
        have HW := Lib.hid ((HW.out.below hb18).more hb18.size)
        obtain ⟨F1, f1, rfl, hf1, hf2, hi18⟩ := treeCap ho18
        have HF1 := Lib.hid hi18
        clear hb18 HB17 ho18 hi18 HF
        cases k3 with
        | false =>
          clear hmore
          go_wp2
          go_ret
          exact ⟨rfl, HB18.out⟩
        | true =>
          have hgt := hmore rfl
          clear hmore
          go_wp2_with fail
          refine Calls.mono (HFX.out F1 f1 w18 HF1.out hf1 hf2) ?_
          rintro e w19 ⟨rfl, hb19⟩
          have HB19 : Hid (Below w.heap.size w w19) := HB18.out.trans (hb19.mono HB18.out.size)
          have HW := Lib.hid ((HW.out.below hb19).more hb19.size)
          have HF1 := Lib.hid ((HF1.out.below hb19).more hb19.size)
          clear hb19 HB18 HFX HF1
          go_wp2_with fail
          refine Calls.mono (HRM.out w19 HW.out) ?_
          rintro e w20 ⟨rfl, hb20⟩
          have HB20 : Hid (Below w.heap.size w w20) := HB19.out.trans (hb20.mono HB19.out.size)
          have HW := Lib.hid ((HW.out.below hb20).more hb20.size)
          clear hb20 HB19 HRM
          go_wp2
          go_ret
          exact ⟨rfl, HB20.out⟩

end Go.Proofs.YtcpiojliakgdlaaGreatDoor
