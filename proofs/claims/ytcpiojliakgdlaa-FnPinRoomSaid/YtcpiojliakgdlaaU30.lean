/- Joined: Kv. -/
import Derived.Test.YtcpiojliakgdlaaU13
import Derived.Test.YtcpiojliakgdlaaU16
import Derived.Test.YtcpiojliakgdlaaU28
import Derived.Test.YtcpiojliakgdlaaU24
import Derived.Test.YtcpiojliakgdlaaU29
import Derived.Test.YtcpiojliakgdlaaU17
/- The walk of the law FnPinRoom. -/
namespace Go.Proofs.Ytcpiojliakgdlaa
open Go.RowKit

theorem bytes_later10 {w w' : World} {A : Option Addr} {m : Nat} (h : ∀ b, w.heap.size ≤ b → Bytes w b A m) (hb : Below w.heap.size w w') : ∀ b, w'.heap.size ≤ b → Bytes w' b A m := fun b hbb h0 => by
  have hz := hb.size
  obtain ⟨g, o, rfl, hne, hlt, hx⟩ := h b (by omega) h0
  refine ⟨g, o, rfl, hne, by omega, fun i hi => ?_⟩
  obtain ⟨x, hc, hx2⟩ := hx i hi
  exact ⟨x, (hb.cell (p := ⟨g, o + i, none⟩) hlt).trans hc, hx2⟩
theorem nil_of10 {x : ByteArray} (h : x.toList.isEmpty = true) : x = ⟨#[]⟩ := by
  rw [ByteArray.toList_eq] at h
  refine ByteArray.ext (Array.toList_inj.1 ?_)
  exact List.isEmpty_iff.1 h
theorem pinText_size10 {l : List Seg} {p : ByteArray} (h : pinOk10 l p = true) : p.size ≤ 1000 := by
  obtain ⟨hv, hT, hn⟩ := pinOk10_pins h
  have h1 := names_size hv hT.lt
  have h2 := hT.len
  have h3 := (valid_all hv).2.1
  rw [← hn, h1]
  rcases h2 with h2 | h2
  · omega
  · rw [h2]; exact Nat.zero_le _

set_option maxRecDepth 100000 in
set_option maxHeartbeats 16000000 in
theorem pinRoomLaw_any (hgood : GoodSaid) (A0 : Option Addr) (n c0 : Nat) (A2 : Option Addr) (n2 c2 : Nat) (w : World) (hn : n ≤ c0) (hm : n ≤ maxLen) (hx : ∀ b, w.heap.size ≤ b → Bytes w b A0 n) (hn2 : n2 ≤ c2) (hm2 : n2 ≤ maxLen) (hx2 : ∀ b, w.heap.size ≤ b → Bytes w b A2 n2) :
    Calls Try.prog 6 #[.slice A0 n c0, .slice A2 n2 c2] w fun e w' => e = .returned (.bool true) ∧ Below w.heap.size w w' := by
  unfold maxLen at hm hm2
  by_cases hbig : 1048576 < n
  · clear hx hx2 hgood
    go_enter Try.func6, Try.ntmps6
    go_wp2
    go_ret
    exact ⟨rfl, Below.refl _ _⟩
  by_cases hbig2 : 1048576 < n2
  · clear hx hx2 hgood
    go_enter Try.func6, Try.ntmps6
    go_wp2
    go_ret
    exact ⟨rfl, Below.refl _ _⟩
  have HD := Lib.hid (drawPinRoom10 hgood A0 n c0 w hn hx)
  have HD2 := Lib.hid (fun w' (hb : Below w.heap.size w w') => drawAllPins10 hgood A2 n2 c2 w' hn2 (bytes_later10 hx2 hb))
  clear hx hx2 hgood
  go_enter Try.func6, Try.ntmps6
  go_wp2_with fail
  refine Calls.mono HD.out ?_
  rintro e w1 ⟨A, l, c, s, rfl, ⟨hs1, ⟨hl9, hlc, hcm⟩, hnm⟩, hsz, hb1⟩
  have hsh : Short l := fun x hx => by have := hnm x hx; unfold maxLen; omega
  have hs' : s.size ≤ 1048576 := by omega
  have HPR := Lib.hid (fun W h => pinRoom_any A l c s W h (by omega) hlc hcm hsh hs')
  have HPV := Lib.hid (fun W h => pinsValid_any A l c s W h (by omega) hlc hcm hsh hs')
  have HSR := Lib.hid (fun W h => specPinRoom_any A l c s W h (by omega) hsh hs')
  have HSV := Lib.hid (fun W h => specPins_any A l c s W h (by omega) hsh hs')
  have HRM := Lib.hid (fun W h => roomOf_any A l c W h (by omega) hlc hcm hsh)
  have HTT := Lib.hid (fun W h => totalSize_any A l c W h (by omega) hlc hcm hsh)
  have HSY := Lib.hid (pin_says10 (l := l) (s := s))
  have HB1 := Lib.hid hb1
  have HW := Lib.hid hs1
  clear hs1 hnm hb1 hsh hs' HD
  generalize prRes10 l s = n1 at *
  generalize pinOk10 l s = o1 at *
  generalize roomB l = r1 at *
  generalize totalB l = t1 at *
  go_wp2_with fail
  refine Calls.mono (HPR.out w1 HW.out) ?_
  rintro e w2 ⟨rfl, hb2⟩
  have HB2 : Hid (Below w.heap.size w w2) := HB1.out.trans (hb2.mono HB1.out.size)
  have HW := Lib.hid ((HW.out.below hb2).more hb2.size)
  clear hb2 HB1 HPR
  go_wp2_with fail
  refine Calls.mono (HPV.out w2 HW.out) ?_
  rintro e w3 ⟨rfl, hb3⟩
  have HB3 : Hid (Below w.heap.size w w3) := HB2.out.trans (hb3.mono HB2.out.size)
  have HW := Lib.hid ((HW.out.below hb3).more hb3.size)
  clear hb3 HB2 HPV
  go_wp2_with fail
  refine Calls.mono (HD2.out w3 HB3.out) ?_
  rintro e w4 ⟨B, t, d, z, rfl, ⟨hs4, ⟨ht9, htd, hdm⟩, htn⟩, hb4⟩
  have HB4 : Hid (Below w.heap.size w w4) := HB3.out.trans (hb4.mono HB3.out.size)
  have HW := Lib.hid ((HW.out.below hb4).more hb4.size)
  have HV := Lib.hid hs4
  have hth : Short t := fun x hx => by have := htn x hx; unfold maxLen; omega
  have HAI := Lib.hid (fun W h => allPins_any B t d z W h (by omega) htd hdm hth)
  have HAS := Lib.hid (fun W h => specAllPins_any B t d z W h (by omega) hth)
  have HQV := Lib.hid (fun p W h (hp : p.size ≤ 1048576) => pinsValid_any B t d p W h (by omega) htd hdm hth hp)
  have HQR := Lib.hid (fun p W h (hp : p.size ≤ 1048576) => pinRoom_any B t d p W h (by omega) htd hdm hth hp)
  have HRT := Lib.hid (fun W h => roomOf_any B t d W h (by omega) htd hdm hth)
  have HTS := Lib.hid (fun p (h : p ∈ pinTexts10 t z) => all_says10 h)
  have HTZ := Lib.hid (fun p (h : p ∈ pinTexts10 t z) => pinText_size10 (all_says10 h).1)
  have HSM := Lib.hid (fun (h : validB t = true) => all_some10 h z)
  have htl := pinTexts10_len t z
  unfold AllPost10 at HAI HAS
  generalize pinTexts10 t z = ts at *
  generalize validB t = v at *
  generalize roomB t = rt at *
  clear hb4 HB3 hs4 htn hth HD2
  go_wp2_with fail
  refine Calls.mono (HAI.out w4 HV.out) ?_
  rintro e w5 ⟨v0, rfl, ho5, hb5⟩
  have HB5 : Hid (Below w.heap.size w w5) := HB4.out.trans (hb5.mono HB4.out.size)
  have HW := Lib.hid ((HW.out.below hb5).more hb5.size)
  have HV := Lib.hid ((HV.out.below hb5).more hb5.size)
  obtain ⟨E, ce, rfl, -⟩ := St.textsForm ho5
  have HE := Lib.hid (strsOf ho5)
  clear hb5 HB4 ho5 HAI
  go_wp2_with fail
  refine Calls.mono (HAS.out w5 HV.out) ?_
  rintro e w6 ⟨v1, rfl, ho6, hb6⟩
  have HB6 : Hid (Below w.heap.size w w6) := HB5.out.trans (hb6.mono HB5.out.size)
  have HW := Lib.hid ((HW.out.below hb6).more hb6.size)
  have HV := Lib.hid ((HV.out.below hb6).more hb6.size)
  have HE := Lib.hid (St.Strs.more (St.Strs.below HE.out hb6) hb6.size)
  obtain ⟨F, cf, rfl, -⟩ := St.textsForm ho6
  have HF := Lib.hid (strsOf ho6)
  clear hb6 HB5 ho6 HAS
  obtain ⟨hsy1, hsy2, hsy3⟩ := HSY.out
  clear HSY
  cases o1 with
  | false =>
    obtain rfl := hsy2 rfl
    clear hsy1 hsy2 hsy3
    go_wp2_with fail
    refine Calls.mono (HSR.out w6 HW.out) ?_
    rintro e w7 ⟨rfl, hb7⟩
    have HB7 : Hid (Below w.heap.size w w7) := HB6.out.trans (hb7.mono HB6.out.size)
    have HW := Lib.hid ((HW.out.below hb7).more hb7.size)
    have HV := Lib.hid ((HV.out.below hb7).more hb7.size)
    have HE := Lib.hid (St.Strs.more (St.Strs.below HE.out hb7) hb7.size)
    have HF := Lib.hid (St.Strs.more (St.Strs.below HF.out hb7) hb7.size)
    clear hb7 HB6 HSR
    go_wp2_with fail
    refine Calls.mono (HSV.out w7 HW.out) ?_
    rintro e w8 ⟨rfl, hb8⟩
    have HB8 : Hid (Below w.heap.size w w8) := HB7.out.trans (hb8.mono HB7.out.size)
    have HW := Lib.hid ((HW.out.below hb8).more hb8.size)
    have HV := Lib.hid ((HV.out.below hb8).more hb8.size)
    have HE := Lib.hid (St.Strs.more (St.Strs.below HE.out hb8) hb8.size)
    have HF := Lib.hid (St.Strs.more (St.Strs.below HF.out hb8) hb8.size)
    clear hb8 HB7 HSV
    go_wp2_with fail
    refine Calls.mono (soTexts_any E F ts ce cf w8 HE.out HF.out (by omega)) ?_
    rintro e w9 ⟨rfl, hb9⟩
    have HB9 : Hid (Below w.heap.size w w9) := HB8.out.trans (hb9.mono HB8.out.size)
    have HW := Lib.hid ((HW.out.below hb9).more hb9.size)
    have HV := Lib.hid ((HV.out.below hb9).more hb9.size)
    have HE := Lib.hid (St.Strs.more (St.Strs.below HE.out hb9) hb9.size)
    have HF := Lib.hid (St.Strs.more (St.Strs.below HF.out hb9) hb9.size)
    clear hb9 HB8 HF
    go_wp2
    go_loopw [84] (fun i wr => ∃ k : Nat, k ≤ ts.length ∧ i = .int .i64 k ∧ Hid (Segs wr wr.heap.size A l) ∧ Hid (Segs wr wr.heap.size B t) ∧ Hid (St.Strs wr wr.heap.size E ts) ∧ Hid (Below w.heap.size w wr))
      (fun i _ => ts.length - (intOf i).toNat)
    case atStart => exact ⟨0, Nat.zero_le _, rfl, HW, HV, HE, HB9⟩
    case round =>
      obtain ⟨k, hk, rfl, HSr, HTr, HEr, HBr⟩ := hrel
      clear HW HV HE HB9
      by_cases hlt : k < ts.length
      · have hlt' : (k : Int) < (ts.length : Int) := by omega
        have hk0 : (0 : Int) ≤ (k : Int) := Int.natCast_nonneg _
        have hwk : IntKind.i64.wrap ((k : Int) + 1) = (k : Int) + 1 := IntWalk.i64_in _ (by omega)
        obtain ⟨b, q, rfl, hB, hc⟩ := HEr.out (by omega)
        have c0 := hc k ts[k] (List.getElem?_eq_getElem hlt)
        obtain ⟨hok, hle⟩ := HTS.out ts[k] (List.getElem_mem hlt)
        have hz := HTZ.out ts[k] (List.getElem_mem hlt)
        have HC1 := Lib.hid (fun W h => HQV.out ts[k] W h (by omega))
        have HC2 := Lib.hid (fun W h => HQR.out ts[k] W h (by omega))
        rw [hok] at HC1
        clear hc HTS HTZ HQV HQR hok
        generalize prRes10 t ts[k] = pr at *
        generalize ts[k] = p at *
        have hgt : ¬ z < pr := by omega
        go_wp2_with fail
        refine Calls.mono (HC1.out wr HTr.out) ?_
        rintro e wa ⟨rfl, hba⟩
        have HSa := Lib.hid ((HSr.out.below hba).more hba.size)
        have HTa := Lib.hid ((HTr.out.below hba).more hba.size)
        have HEa := Lib.hid (St.Strs.more (St.Strs.below HEr.out hba) hba.size)
        have HBa := Lib.hid (HBr.out.trans (hba.mono HBr.out.size))
        clear hba HC1 HSr HTr HEr HBr c0 hB
        go_wp2_with fail
        refine Calls.mono (HC2.out wa HTa.out) ?_
        rintro e wb ⟨rfl, hbb⟩
        have HSb := Lib.hid ((HSa.out.below hbb).more hbb.size)
        have HTb := Lib.hid ((HTa.out.below hbb).more hbb.size)
        have HEb := Lib.hid (St.Strs.more (St.Strs.below HEa.out hbb) hbb.size)
        have HBb := Lib.hid (HBa.out.trans (hbb.mono HBa.out.size))
        clear hbb HC2 HSa HTa HEa HBa
        go_wp2
        go_roundw
        case rel => exact ⟨k + 1, by omega, by go_num, HSb, HTb, HEb, HBb⟩
        case measure => simp [intOf]; omega
      · obtain rfl : k = ts.length := by omega
        clear HTS HTZ HQV HQR
        have HW := HSr
        have HV := HTr
        have HB40 := HBr
        obtain ⟨w40, hw40⟩ : ∃ x, x = wr := ⟨_, rfl⟩
        subst hw40
        clear HSr HTr HEr HBr
        cases v with
        | false =>
          clear HSM
          go_wp2
          go_ret
          exact ⟨rfl, HB40.out⟩
        | true =>
          have hsm := HSM.out rfl
          clear HSM
          by_cases hfit : rt ≤ z
          · have hpos : 0 < ts.length := by rw [decide_eq_true hfit] at hsm; exact of_decide_eq_true hsm
            clear hsm
            go_wp2_with fail
            refine Calls.mono (HRT.out w40 HV.out) ?_
            rintro e w41 ⟨rfl, hb41⟩
            have HB41 : Hid (Below w.heap.size w w41) := HB40.out.trans (hb41.mono HB40.out.size)
            have HW := Lib.hid ((HW.out.below hb41).more hb41.size)
            have HV := Lib.hid ((HV.out.below hb41).more hb41.size)
            clear hb41 HB40 HRT
            go_wp2
            go_ret
            exact ⟨rfl, HB41.out⟩
          · have hpos : ¬ 0 < ts.length := by rw [decide_eq_false hfit] at hsm; exact of_decide_eq_false hsm
            clear hsm
            go_wp2_with fail
            refine Calls.mono (HRT.out w40 HV.out) ?_
            rintro e w41 ⟨rfl, hb41⟩
            have HB41 : Hid (Below w.heap.size w w41) := HB40.out.trans (hb41.mono HB40.out.size)
            have HW := Lib.hid ((HW.out.below hb41).more hb41.size)
            have HV := Lib.hid ((HV.out.below hb41).more hb41.size)
            clear hb41 HB40 HRT
            go_wp2
            go_ret
            exact ⟨rfl, HB41.out⟩
  | true =>
    have h0 : 0 ≤ n1 := of_decide_eq_true hsy1
    obtain ⟨hr1, ht1, hs0⟩ := hsy3 rfl
    clear hsy1 hsy2 hsy3
    go_wp2_with fail
    refine Calls.mono (HSR.out w6 HW.out) ?_
    rintro e w7 ⟨rfl, hb7⟩
    have HB7 : Hid (Below w.heap.size w w7) := HB6.out.trans (hb7.mono HB6.out.size)
    have HW := Lib.hid ((HW.out.below hb7).more hb7.size)
    have HV := Lib.hid ((HV.out.below hb7).more hb7.size)
    have HE := Lib.hid (St.Strs.more (St.Strs.below HE.out hb7) hb7.size)
    have HF := Lib.hid (St.Strs.more (St.Strs.below HF.out hb7) hb7.size)
    clear hb7 HB6 HSR
    go_wp2_with fail
    refine Calls.mono (HSV.out w7 HW.out) ?_
    rintro e w8 ⟨rfl, hb8⟩
    have HB8 : Hid (Below w.heap.size w w8) := HB7.out.trans (hb8.mono HB7.out.size)
    have HW := Lib.hid ((HW.out.below hb8).more hb8.size)
    have HV := Lib.hid ((HV.out.below hb8).more hb8.size)
    have HE := Lib.hid (St.Strs.more (St.Strs.below HE.out hb8) hb8.size)
    have HF := Lib.hid (St.Strs.more (St.Strs.below HF.out hb8) hb8.size)
    clear hb8 HB7 HSV
    go_wp2_with fail
    refine Calls.mono (soTexts_any E F ts ce cf w8 HE.out HF.out (by omega)) ?_
    rintro e w9 ⟨rfl, hb9⟩
    have HB9 : Hid (Below w.heap.size w w9) := HB8.out.trans (hb9.mono HB8.out.size)
    have HW := Lib.hid ((HW.out.below hb9).more hb9.size)
    have HV := Lib.hid ((HV.out.below hb9).more hb9.size)
    have HE := Lib.hid (St.Strs.more (St.Strs.below HE.out hb9) hb9.size)
    have HF := Lib.hid (St.Strs.more (St.Strs.below HF.out hb9) hb9.size)
    clear hb9 HB8 HF
    go_wp2
    go_loopw [84] (fun i wr => ∃ k : Nat, k ≤ ts.length ∧ i = .int .i64 k ∧ Hid (Segs wr wr.heap.size A l) ∧ Hid (Segs wr wr.heap.size B t) ∧ Hid (St.Strs wr wr.heap.size E ts) ∧ Hid (Below w.heap.size w wr))
      (fun i _ => ts.length - (intOf i).toNat)
    case atStart => exact ⟨0, Nat.zero_le _, rfl, HW, HV, HE, HB9⟩
    case round =>
      obtain ⟨k, hk, rfl, HSr, HTr, HEr, HBr⟩ := hrel
      clear HW HV HE HB9
      by_cases hlt : k < ts.length
      · have hlt' : (k : Int) < (ts.length : Int) := by omega
        have hk0 : (0 : Int) ≤ (k : Int) := Int.natCast_nonneg _
        have hwk : IntKind.i64.wrap ((k : Int) + 1) = (k : Int) + 1 := IntWalk.i64_in _ (by omega)
        obtain ⟨b, q, rfl, hB, hc⟩ := HEr.out (by omega)
        have c0 := hc k ts[k] (List.getElem?_eq_getElem hlt)
        obtain ⟨hok, hle⟩ := HTS.out ts[k] (List.getElem_mem hlt)
        have hz := HTZ.out ts[k] (List.getElem_mem hlt)
        have HC1 := Lib.hid (fun W h => HQV.out ts[k] W h (by omega))
        have HC2 := Lib.hid (fun W h => HQR.out ts[k] W h (by omega))
        rw [hok] at HC1
        clear hc HTS HTZ HQV HQR hok
        generalize prRes10 t ts[k] = pr at *
        generalize ts[k] = p at *
        have hgt : ¬ z < pr := by omega
        go_wp2_with fail
        refine Calls.mono (HC1.out wr HTr.out) ?_
        rintro e wa ⟨rfl, hba⟩
        have HSa := Lib.hid ((HSr.out.below hba).more hba.size)
        have HTa := Lib.hid ((HTr.out.below hba).more hba.size)
        have HEa := Lib.hid (St.Strs.more (St.Strs.below HEr.out hba) hba.size)
        have HBa := Lib.hid (HBr.out.trans (hba.mono HBr.out.size))
        clear hba HC1 HSr HTr HEr HBr c0 hB
        go_wp2_with fail
        refine Calls.mono (HC2.out wa HTa.out) ?_
        rintro e wb ⟨rfl, hbb⟩
        have HSb := Lib.hid ((HSa.out.below hbb).more hbb.size)
        have HTb := Lib.hid ((HTa.out.below hbb).more hbb.size)
        have HEb := Lib.hid (St.Strs.more (St.Strs.below HEa.out hbb) hbb.size)
        have HBb := Lib.hid (HBa.out.trans (hbb.mono HBa.out.size))
        clear hbb HC2 HSa HTa HEa HBa
        go_wp2
        go_roundw
        case rel => exact ⟨k + 1, by omega, by go_num, HSb, HTb, HEb, HBb⟩
        case measure => simp [intOf]; omega
      · obtain rfl : k = ts.length := by omega
        clear HTS HTZ HQV HQR
        have HW := HSr
        have HV := HTr
        have HB40 := HBr
        obtain ⟨w40, hw40⟩ : ∃ x, x = wr := ⟨_, rfl⟩
        subst hw40
        clear HSr HTr HEr HBr
        cases v with
        | false =>
          clear HSM
          go_wp2_with fail
          refine Calls.mono (HRM.out w40 HW.out) ?_
          rintro e w41 ⟨rfl, hb41⟩
          have HB41 : Hid (Below w.heap.size w w41) := HB40.out.trans (hb41.mono HB40.out.size)
          have HW := Lib.hid ((HW.out.below hb41).more hb41.size)
          have HV := Lib.hid ((HV.out.below hb41).more hb41.size)
          clear hb41 HB40
          go_wp2_with fail
          refine Calls.mono (HTT.out w41 HW.out) ?_
          rintro e w42 ⟨rfl, hb42⟩
          have HB42 : Hid (Below w.heap.size w w42) := HB41.out.trans (hb42.mono HB41.out.size)
          have HW := Lib.hid ((HW.out.below hb42).more hb42.size)
          have HV := Lib.hid ((HV.out.below hb42).more hb42.size)
          clear hb42 HB41 HTT
          cases he : s.toList.isEmpty with
          | false =>
            go_wp2
            go_ret
            exact ⟨rfl, HB42.out⟩
          | true =>
            obtain rfl := hs0 (nil_of10 he)
            go_wp2_with fail
            refine Calls.mono (HRM.out w42 HW.out) ?_
            rintro e w43 ⟨rfl, hb43⟩
            have HB43 : Hid (Below w.heap.size w w43) := HB42.out.trans (hb43.mono HB42.out.size)
            have HW := Lib.hid ((HW.out.below hb43).more hb43.size)
            have HV := Lib.hid ((HV.out.below hb43).more hb43.size)
            clear hb43 HB42
            go_wp2
            go_ret
            exact ⟨rfl, HB43.out⟩
        | true =>
          have hsm := HSM.out rfl
          clear HSM
          by_cases hfit : rt ≤ z
          · have hpos : 0 < ts.length := by rw [decide_eq_true hfit] at hsm; exact of_decide_eq_true hsm
            clear hsm
            go_wp2_with fail
            refine Calls.mono (HRT.out w40 HV.out) ?_
            rintro e w41 ⟨rfl, hb41⟩
            have HB41 : Hid (Below w.heap.size w w41) := HB40.out.trans (hb41.mono HB40.out.size)
            have HW := Lib.hid ((HW.out.below hb41).more hb41.size)
            have HV := Lib.hid ((HV.out.below hb41).more hb41.size)
            clear hb41 HB40 HRT
            go_wp2_with fail
            refine Calls.mono (HRM.out w41 HW.out) ?_
            rintro e w42 ⟨rfl, hb42⟩
            have HB42 : Hid (Below w.heap.size w w42) := HB41.out.trans (hb42.mono HB41.out.size)
            have HW := Lib.hid ((HW.out.below hb42).more hb42.size)
            have HV := Lib.hid ((HV.out.below hb42).more hb42.size)
            clear hb42 HB41
            go_wp2_with fail
            refine Calls.mono (HTT.out w42 HW.out) ?_
            rintro e w43 ⟨rfl, hb43⟩
            have HB43 : Hid (Below w.heap.size w w43) := HB42.out.trans (hb43.mono HB42.out.size)
            have HW := Lib.hid ((HW.out.below hb43).more hb43.size)
            have HV := Lib.hid ((HV.out.below hb43).more hb43.size)
            clear hb43 HB42 HTT
            cases he : s.toList.isEmpty with
            | false =>
              go_wp2
              go_ret
              exact ⟨rfl, HB43.out⟩
            | true =>
              obtain rfl := hs0 (nil_of10 he)
              go_wp2_with fail
              refine Calls.mono (HRM.out w43 HW.out) ?_
              rintro e w44 ⟨rfl, hb44⟩
              have HB44 : Hid (Below w.heap.size w w44) := HB43.out.trans (hb44.mono HB43.out.size)
              have HW := Lib.hid ((HW.out.below hb44).more hb44.size)
              have HV := Lib.hid ((HV.out.below hb44).more hb44.size)
              clear hb44 HB43
              go_wp2
              go_ret
              exact ⟨rfl, HB44.out⟩
          · have hpos : ¬ 0 < ts.length := by rw [decide_eq_false hfit] at hsm; exact of_decide_eq_false hsm
            clear hsm
            go_wp2_with fail
            refine Calls.mono (HRT.out w40 HV.out) ?_
            rintro e w41 ⟨rfl, hb41⟩
            have HB41 : Hid (Below w.heap.size w w41) := HB40.out.trans (hb41.mono HB40.out.size)
            have HW := Lib.hid ((HW.out.below hb41).more hb41.size)
            have HV := Lib.hid ((HV.out.below hb41).more hb41.size)
            clear hb41 HB40 HRT
            go_wp2_with fail
            refine Calls.mono (HRM.out w41 HW.out) ?_
            rintro e w42 ⟨rfl, hb42⟩
            have HB42 : Hid (Below w.heap.size w w42) := HB41.out.trans (hb42.mono HB41.out.size)
            have HW := Lib.hid ((HW.out.below hb42).more hb42.size)
            have HV := Lib.hid ((HV.out.below hb42).more hb42.size)
            clear hb42 HB41
            go_wp2_with fail
            refine Calls.mono (HTT.out w42 HW.out) ?_
            rintro e w43 ⟨rfl, hb43⟩
            have HB43 : Hid (Below w.heap.size w w43) := HB42.out.trans (hb43.mono HB42.out.size)
            have HW := Lib.hid ((HW.out.below hb43).more hb43.size)
            have HV := Lib.hid ((HV.out.below hb43).more hb43.size)
            clear hb43 HB42 HTT
            cases he : s.toList.isEmpty with
            | false =>
              go_wp2
              go_ret
              exact ⟨rfl, HB43.out⟩
            | true =>
              obtain rfl := hs0 (nil_of10 he)
              go_wp2_with fail
              refine Calls.mono (HRM.out w43 HW.out) ?_
              rintro e w44 ⟨rfl, hb44⟩
              have HB44 : Hid (Below w.heap.size w w44) := HB43.out.trans (hb44.mono HB43.out.size)
              have HW := Lib.hid ((HW.out.below hb44).more hb44.size)
              have HV := Lib.hid ((HV.out.below hb44).more hb44.size)
              clear hb44 HB43
              go_wp2
              go_ret
              exact ⟨rfl, HB44.out⟩

end Go.Proofs.Ytcpiojliakgdlaa
