/- Joined: Ae. -/
import Derived.Test.YtcpiojliakgdlaaU17
import Derived.Test.YtcpiojliakgdlaaU22
import Derived.Test.YtcpiojliakgdlaaU21
import Derived.Test.YtcpiojliakgdlaaU20
import Derived.Test.YtcpiojliakgdlaaU23
/- The walk of the law FnStates. -/
namespace Go.Proofs.Ytcpiojliakgdlaa
open Go.RowKit

theorem bytes_later4 {w w' : World} {A : Option Addr} {m : Nat} (h : ∀ b, w.heap.size ≤ b → Bytes w b A m) (hb : Below w.heap.size w w') : ∀ b, w'.heap.size ≤ b → Bytes w' b A m := fun b hbb h0 => by
  have hz := hb.size
  obtain ⟨g, o, rfl, hne, hlt, hx⟩ := h b (by omega) h0
  refine ⟨g, o, rfl, hne, by omega, fun i hi => ?_⟩
  obtain ⟨x, hc, hx2⟩ := hx i hi
  exact ⟨x, (hb.cell (p := ⟨g, o + i, none⟩) hlt).trans hc, hx2⟩

set_option maxRecDepth 100000 in
set_option maxHeartbeats 16000000 in
theorem statesLaw_any (hgood : GoodSaid) (A0 : Option Addr) (n c0 : Nat) (A2 : Option Addr) (n2 c2 : Nat) (w : World) (hn : n ≤ c0) (hm : n ≤ maxLen) (hx : ∀ b, w.heap.size ≤ b → Bytes w b A0 n) (hn2 : n2 ≤ c2) (hm2 : n2 ≤ maxLen) (hx2 : ∀ b, w.heap.size ≤ b → Bytes w b A2 n2) :
    Calls Try.prog 5 #[.slice A0 n c0, .slice A2 n2 c2] w fun e w' => e = .returned (.bool true) ∧ Below w.heap.size w w' := by
  unfold maxLen at hm hm2
  by_cases hbig : 1048576 < n
  · clear hx hx2 hgood
    go_enter Try.func5, Try.ntmps5
    go_wp2
    go_ret
    exact ⟨rfl, Below.refl _ _⟩
  by_cases hbig2 : 1048576 < n2
  · clear hx hx2 hgood
    go_enter Try.func5, Try.ntmps5
    go_wp2
    go_ret
    exact ⟨rfl, Below.refl _ _⟩
  have HD := Lib.hid (drawStatesOf3 hgood A0 n c0 w hn hx)
  have HD2 := Lib.hid (fun w' (hb : Below w.heap.size w w') => drawCheapestNeed3 hgood A2 n2 c2 w' hn2 (bytes_later4 hx2 hb))
  clear hx hx2 hgood
  go_enter Try.func5, Try.ntmps5
  go_wp2_with fail
  refine Calls.mono HD.out ?_
  rintro e w1 ⟨A, l, c, rfl, ⟨hs1, ⟨hl9, hlc, hcm⟩, hnm⟩, hb1⟩
  have hsh : Short l := fun x hx => by have := hnm x hx; unfold maxLen; omega
  have HSI := Lib.hid (fun W h => statesOf_exp A l c W h (by omega) hlc hcm hsh)
  have HSS := Lib.hid (fun W h => specStates_any A l c W h (by omega) hsh)
  have HSV := Lib.hid (fun p W h => stateValid_any A l c p W h (by omega) hlc hcm hsh)
  have HCO := Lib.hid (fun p (hp : p.size ≤ 1048576) W h => costOf_any A l c p W h (by omega) hlc hcm hsh hp)
  have HRM := Lib.hid (fun W h => roomOf_any A l c W h (by omega) hlc hcm hsh)
  have HTS := Lib.hid (fun p (h : p ∈ statesB l) => states_all3 h)
  have HLE := Lib.hid (fun (h : validB l = true) => states_len3 h)
  have hfew := states_few3 l
  unfold StatesPost at HSI HSS
  have HB1 := Lib.hid hb1
  have HW := Lib.hid hs1
  clear hs1 hnm hb1 hsh HD
  generalize statesB l = ts at *
  generalize validB l = v at *
  generalize roomB l = rl at *
  go_wp2_with fail
  refine Calls.mono (HSI.out w1 HW.out) ?_
  rintro e w2 ⟨v0, rfl, ho2, hb2⟩
  have HB2 : Hid (Below w.heap.size w w2) := HB1.out.trans (hb2.mono HB1.out.size)
  have HW := Lib.hid ((HW.out.below hb2).more hb2.size)
  obtain ⟨E, ce, rfl, -⟩ := St.textsForm ho2
  have HE := Lib.hid (strsOf ho2)
  clear hb2 HB1 ho2 HSI
  go_wp2_with fail
  refine Calls.mono (HSS.out w2 HW.out) ?_
  rintro e w3 ⟨v1, rfl, ho3, hb3⟩
  have HB3 : Hid (Below w.heap.size w w3) := HB2.out.trans (hb3.mono HB2.out.size)
  have HW := Lib.hid ((HW.out.below hb3).more hb3.size)
  have HE := Lib.hid (St.Strs.more (St.Strs.below HE.out hb3) hb3.size)
  obtain ⟨F, cf, rfl, -⟩ := St.textsForm ho3
  have HF := Lib.hid (strsOf ho3)
  clear hb3 HB2 ho3 HSS
  go_wp2_with fail
  refine Calls.mono (HD2.out w3 HB3.out) ?_
  rintro e w4 ⟨B, t, d, s, rfl, ⟨hs4, ⟨ht9, htd, hdm⟩, htn⟩, hsz, hb4⟩
  have HB4 : Hid (Below w.heap.size w w4) := HB3.out.trans (hb4.mono HB3.out.size)
  have HW := Lib.hid ((HW.out.below hb4).more hb4.size)
  have HE := Lib.hid (St.Strs.more (St.Strs.below HE.out hb4) hb4.size)
  have HF := Lib.hid (St.Strs.more (St.Strs.below HF.out hb4) hb4.size)
  have HV := Lib.hid hs4
  have hth : Short t := fun x hx => by have := htn x hx; unfold maxLen; omega
  have hs' : s.size ≤ 1048576 := by omega
  have HBI := Lib.hid (fun W h => cheapest_any B t d s W h (by omega) htd hdm hth)
  have HBS := Lib.hid (fun W h => specCheap_any B t d s W h (by omega) hth hs')
  have HVI := Lib.hid (fun W h => stateValid_any B t d s W h (by omega) htd hdm hth)
  have HVS := Lib.hid (fun W h => specState_any B t d s W h (by omega) hth hs')
  have HNM := Lib.hid (fun W h => namesOf_any B t d W h (by omega) htd hdm hth)
  have HLC := Lib.hid (fun x W h => loadCost_any B t d s x W h (by omega) htd hdm hth)
  have HCH := Lib.hid (fun h => cheap_says3 (l := t) (s := s) h)
  generalize cheapStr t s = cs at *
  generalize cheapOk t s = co at *
  generalize stOk t s = so at *
  generalize validB t = vt at *
  clear hb4 HB3 hs4 htn hth hs' HD2
  go_wp2_with fail
  refine Calls.mono (HBI.out w4 HV.out) ?_
  rintro e w5 ⟨rfl, hb5⟩
  have HB5 : Hid (Below w.heap.size w w5) := HB4.out.trans (hb5.mono HB4.out.size)
  have HW := Lib.hid ((HW.out.below hb5).more hb5.size)
  have HE := Lib.hid (St.Strs.more (St.Strs.below HE.out hb5) hb5.size)
  have HF := Lib.hid (St.Strs.more (St.Strs.below HF.out hb5) hb5.size)
  have HV := Lib.hid ((HV.out.below hb5).more hb5.size)
  clear hb5 HB4 HBI
  go_wp2_with fail
  refine Calls.mono (HBS.out w5 HV.out) ?_
  rintro e w6 ⟨rfl, hb6⟩
  have HB6 : Hid (Below w.heap.size w w6) := HB5.out.trans (hb6.mono HB5.out.size)
  have HW := Lib.hid ((HW.out.below hb6).more hb6.size)
  have HE := Lib.hid (St.Strs.more (St.Strs.below HE.out hb6) hb6.size)
  have HF := Lib.hid (St.Strs.more (St.Strs.below HF.out hb6) hb6.size)
  have HV := Lib.hid ((HV.out.below hb6).more hb6.size)
  clear hb6 HB5 HBS
  go_wp2_with fail
  refine Calls.mono (soTexts_any E F ts ce cf w6 HE.out HF.out (by omega)) ?_
  rintro e w7 ⟨rfl, hb7⟩
  have HB7 : Hid (Below w.heap.size w w7) := HB6.out.trans (hb7.mono HB6.out.size)
  have HW := Lib.hid ((HW.out.below hb7).more hb7.size)
  have HE := Lib.hid (St.Strs.more (St.Strs.below HE.out hb7) hb7.size)
  have HF := Lib.hid (St.Strs.more (St.Strs.below HF.out hb7) hb7.size)
  have HV := Lib.hid ((HV.out.below hb7).more hb7.size)
  clear hb7 HB6 HF
  go_wp2_with fail
  refine Calls.mono (HVI.out w7 HV.out) ?_
  rintro e w8 ⟨rfl, hb8⟩
  have HB8 : Hid (Below w.heap.size w w8) := HB7.out.trans (hb8.mono HB7.out.size)
  have HW := Lib.hid ((HW.out.below hb8).more hb8.size)
  have HE := Lib.hid (St.Strs.more (St.Strs.below HE.out hb8) hb8.size)
  have HV := Lib.hid ((HV.out.below hb8).more hb8.size)
  clear hb8 HB7 HVI
  go_wp2_with fail
  refine Calls.mono (HVS.out w8 HV.out) ?_
  rintro e w9 ⟨rfl, hb9⟩
  have HB9 : Hid (Below w.heap.size w w9) := HB8.out.trans (hb9.mono HB8.out.size)
  have HW := Lib.hid ((HW.out.below hb9).more hb9.size)
  have HE := Lib.hid (St.Strs.more (St.Strs.below HE.out hb9) hb9.size)
  have HV := Lib.hid ((HV.out.below hb9).more hb9.size)
  clear hb9 HB8 HVS
  cases co with
  | false =>
    clear HCH HNM HLC HV
    go_wp2
    go_loopw [119] (fun i wr => ∃ k : Nat, k ≤ ts.length ∧ i = .int .i64 k ∧ Hid (Segs wr wr.heap.size A l) ∧ Hid (St.Strs wr wr.heap.size E ts) ∧ Hid (Below w.heap.size w wr))
      (fun i _ => ts.length - (intOf i).toNat)
    case atStart => exact ⟨0, Nat.zero_le _, rfl, HW, HE, HB9⟩
    case round =>
      obtain ⟨k, hk, rfl, HSr, HEr, HBr⟩ := hrel
      clear HW HE HB9
      by_cases hlt : k < ts.length
      · have hlt' : (k : Int) < (ts.length : Int) := by omega
        have hk0 : (0 : Int) ≤ (k : Int) := Int.natCast_nonneg _
        have hwk : IntKind.i64.wrap ((k : Int) + 1) = (k : Int) + 1 := IntWalk.i64_in _ (by omega)
        obtain ⟨b, q, rfl, hB, hc⟩ := HEr.out (by omega)
        have cc0 := hc k ts[k] (List.getElem?_eq_getElem hlt)
        obtain ⟨hok, hle, hz⟩ := HTS.out ts[k] (List.getElem_mem hlt)
        have HC1 := Lib.hid (fun W h => HSV.out ts[k] W h)
        have HC2 := Lib.hid (fun W h => HCO.out ts[k] (by omega) W h)
        rw [hok] at HC1
        clear hc HTS HSV HCO hok HLE
        generalize costB l ts[k] = pr at *
        generalize ts[k] = p at *
        have hgt : ¬ rl < pr := by omega
        go_wp2_with fail
        refine Calls.mono (HC1.out wr HSr.out) ?_
        rintro e wa ⟨rfl, hba⟩
        have HSa := Lib.hid ((HSr.out.below hba).more hba.size)
        have HEa := Lib.hid (St.Strs.more (St.Strs.below HEr.out hba) hba.size)
        have HBa := Lib.hid (HBr.out.trans (hba.mono HBr.out.size))
        clear hba HC1 HSr HEr HBr cc0 hB
        go_wp2_with fail
        refine Calls.mono (HC2.out wa HSa.out) ?_
        rintro e wb ⟨rfl, hbb⟩
        have HSb := Lib.hid ((HSa.out.below hbb).more hbb.size)
        have HEb := Lib.hid (St.Strs.more (St.Strs.below HEa.out hbb) hbb.size)
        have HBb := Lib.hid (HBa.out.trans (hbb.mono HBa.out.size))
        clear hbb HC2 HSa HEa HBa
        go_wp2_with fail
        refine Calls.mono (HRM.out wb HSb.out) ?_
        rintro e wd ⟨rfl, hbd⟩
        have HSd := Lib.hid ((HSb.out.below hbd).more hbd.size)
        have HEd := Lib.hid (St.Strs.more (St.Strs.below HEb.out hbd) hbd.size)
        have HBd := Lib.hid (HBb.out.trans (hbd.mono HBb.out.size))
        clear hbd HRM HSb HEb HBb
        go_wp2
        go_roundw
        case rel => exact ⟨k + 1, by omega, by go_num, HSd, HEd, HBd⟩
        case measure => simp [intOf]; omega
      · obtain rfl : k = ts.length := by omega
        clear HTS HSV HCO HRM HSr HEr
        cases v with
        | false =>
          clear HLE
          go_wp2
          go_ret
          exact ⟨rfl, HBr.out⟩
        | true =>
          have hle := HLE.out rfl
          have hwl : IntKind.i64.wrap ((l.length : Int) + 1) = (l.length : Int) + 1 := IntWalk.i64_in _ (by omega)
          have hel : (ts.length : Int) = (l.length : Int) + 1 := by omega
          clear HLE
          go_wp2
          go_ret
          exact ⟨rfl, HBr.out⟩
  | true =>
    obtain ⟨hvt, hns, ht8, hch⟩ := HCH.out rfl
    subst hvt
    clear HCH
    go_wp2_with fail
    refine Calls.mono (HNM.out w9 HV.out) ?_
    rintro e w10 ⟨rfl, hb10⟩
    have HB10 : Hid (Below w.heap.size w w10) := HB9.out.trans (hb10.mono HB9.out.size)
    have HW := Lib.hid ((HW.out.below hb10).more hb10.size)
    have HE := Lib.hid (St.Strs.more (St.Strs.below HE.out hb10) hb10.size)
    have HV := Lib.hid ((HV.out.below hb10).more hb10.size)
    clear hb10 HB9 HNM
    have HCI := Lib.hid (fun k (hk : k < t.length) => hch k hk)
    have HC0 := Lib.hid (fun W h => HLC.out cs W h)
    clear hch
    generalize loadCostB t s cs = lb at *
    generalize namesStr t = nst at *
    go_wp2
    go_loopw [95] (fun i wr => ∃ k : Nat, k ≤ t.length ∧ i = .int .i64 k ∧ Hid (Segs wr wr.heap.size A l) ∧ Hid (St.Strs wr wr.heap.size E ts) ∧ Hid (Segs wr wr.heap.size B t) ∧ Hid (Below w.heap.size w wr))
      (fun i _ => t.length - (intOf i).toNat)
    case atStart => exact ⟨0, Nat.zero_le _, rfl, HW, HE, HV, HB10⟩
    case round =>
      obtain ⟨k, hk, rfl, HSr, HEr, HTr, HBr⟩ := hrel
      clear HW HE HV HB10
      by_cases hlt : k < t.length
      · have hlt' : (k : Int) < (nst.size : Int) := by omega
        have hlt'' : (k : Int) + 1 ≤ (nst.size : Int) := by omega
        have hkk : (k : Int) ≤ (k : Int) + 1 := by omega
        have hk0 : (0 : Int) ≤ (k : Int) := Int.natCast_nonneg _
        have hk1 : (0 : Int) ≤ (k : Int) + 1 := by omega
        have hq : ((k : Int) + 1).toNat = k + 1 := by omega
        have hwk : IntKind.i64.wrap ((k : Int) + 1) = (k : Int) + 1 := IntWalk.i64_in _ (by omega)
        have hle := HCI.out k hlt
        have HC1 := Lib.hid (fun W h => HLC.out (nst.extract k (k + 1)) W h)
        clear HLC HCI HTS HSV HCO HRM HLE
        generalize loadCostB t s (nst.extract k (k + 1)) = lc at *
        go_wp2_with fail
        refine Calls.mono (HC1.out wr HTr.out) ?_
        rintro e wa ⟨rfl, hba⟩
        have HSa := Lib.hid ((HSr.out.below hba).more hba.size)
        have HEa := Lib.hid (St.Strs.more (St.Strs.below HEr.out hba) hba.size)
        have HTa := Lib.hid ((HTr.out.below hba).more hba.size)
        have HBa := Lib.hid (HBr.out.trans (hba.mono HBr.out.size))
        clear hba HC1 HSr HEr HTr HBr
        by_cases hp : 0 < lc
        · have hnl : ¬ lc < lb := by have := hle hp; omega
          go_wp2_with fail
          refine Calls.mono (HC0.out wa HTa.out) ?_
          rintro e wb ⟨rfl, hbb⟩
          have HSb := Lib.hid ((HSa.out.below hbb).more hbb.size)
          have HEb := Lib.hid (St.Strs.more (St.Strs.below HEa.out hbb) hbb.size)
          have HTb := Lib.hid ((HTa.out.below hbb).more hbb.size)
          have HBb := Lib.hid (HBa.out.trans (hbb.mono HBa.out.size))
          clear hbb HC0 HSa HEa HTa HBa
          go_wp2
          go_roundw
          case rel => exact ⟨k + 1, by omega, by go_num, HSb, HEb, HTb, HBb⟩
          case measure => simp [intOf]; omega
        · go_wp2
          go_roundw
          case rel => exact ⟨k + 1, by omega, by go_num, HSa, HEa, HTa, HBa⟩
          case measure => simp [intOf]; omega
      · obtain rfl : k = t.length := by omega
        have hnl : ¬ ((t.length : Nat) : Int) < (nst.size : Int) := by omega
        have HW := HSr
        have HE := HEr
        have HB60 := HBr
        clear HLC HCI HC0 HSr HEr HTr HBr
        go_wp2
        go_loopw [119] (fun i wr => ∃ k : Nat, k ≤ ts.length ∧ i = .int .i64 k ∧ Hid (Segs wr wr.heap.size A l) ∧ Hid (St.Strs wr wr.heap.size E ts) ∧ Hid (Below w.heap.size w wr))
          (fun i _ => ts.length - (intOf i).toNat)
        case atStart => exact ⟨0, Nat.zero_le _, rfl, HW, HE, HB60⟩
        case round =>
          obtain ⟨k, hk, rfl, HSr, HEr, HBr⟩ := hrel
          clear HW HE HB60
          by_cases hlt : k < ts.length
          · have hlt' : (k : Int) < (ts.length : Int) := by omega
            have hk0 : (0 : Int) ≤ (k : Int) := Int.natCast_nonneg _
            have hwk : IntKind.i64.wrap ((k : Int) + 1) = (k : Int) + 1 := IntWalk.i64_in _ (by omega)
            obtain ⟨b, q, rfl, hB, hc⟩ := HEr.out (by omega)
            have cc0 := hc k ts[k] (List.getElem?_eq_getElem hlt)
            obtain ⟨hok, hle, hz⟩ := HTS.out ts[k] (List.getElem_mem hlt)
            have HC1 := Lib.hid (fun W h => HSV.out ts[k] W h)
            have HC2 := Lib.hid (fun W h => HCO.out ts[k] (by omega) W h)
            rw [hok] at HC1
            clear hc HTS HSV HCO hok HLE
            generalize costB l ts[k] = pr at *
            generalize ts[k] = p at *
            have hgt : ¬ rl < pr := by omega
            go_wp2_with fail
            refine Calls.mono (HC1.out wr HSr.out) ?_
            rintro e wa ⟨rfl, hba⟩
            have HSa := Lib.hid ((HSr.out.below hba).more hba.size)
            have HEa := Lib.hid (St.Strs.more (St.Strs.below HEr.out hba) hba.size)
            have HBa := Lib.hid (HBr.out.trans (hba.mono HBr.out.size))
            clear hba HC1 HSr HEr HBr cc0 hB
            go_wp2_with fail
            refine Calls.mono (HC2.out wa HSa.out) ?_
            rintro e wb ⟨rfl, hbb⟩
            have HSb := Lib.hid ((HSa.out.below hbb).more hbb.size)
            have HEb := Lib.hid (St.Strs.more (St.Strs.below HEa.out hbb) hbb.size)
            have HBb := Lib.hid (HBa.out.trans (hbb.mono HBa.out.size))
            clear hbb HC2 HSa HEa HBa
            go_wp2_with fail
            refine Calls.mono (HRM.out wb HSb.out) ?_
            rintro e wd ⟨rfl, hbd⟩
            have HSd := Lib.hid ((HSb.out.below hbd).more hbd.size)
            have HEd := Lib.hid (St.Strs.more (St.Strs.below HEb.out hbd) hbd.size)
            have HBd := Lib.hid (HBb.out.trans (hbd.mono HBb.out.size))
            clear hbd HRM HSb HEb HBb
            go_wp2
            go_roundw
            case rel => exact ⟨k + 1, by omega, by go_num, HSd, HEd, HBd⟩
            case measure => simp [intOf]; omega
          · obtain rfl : k = ts.length := by omega
            clear HTS HSV HCO HRM HSr HEr
            cases v with
            | false =>
              clear HLE
              go_wp2
              go_ret
              exact ⟨rfl, HBr.out⟩
            | true =>
              have hle := HLE.out rfl
              have hwl : IntKind.i64.wrap ((l.length : Int) + 1) = (l.length : Int) + 1 := IntWalk.i64_in _ (by omega)
              have hel : (ts.length : Int) = (l.length : Int) + 1 := by omega
              clear HLE
              go_wp2
              go_ret
              exact ⟨rfl, HBr.out⟩

end Go.Proofs.Ytcpiojliakgdlaa
