/- Joined: Al. -/
import Derived.Test.YteokbgfiokbojaaGreatU22
import Derived.Test.YteokbgfiokbojaaGreatU25
import Derived.Test.YteokbgfiokbojaaGreatU26
import Derived.Test.YteokbgfiokbojaaGreatU20
import Derived.Test.YteokbgfiokbojaaGreatU30
/- The walk of the law FnIsSafe. -/
namespace Go.Proofs.YteokbgfiokbojaaGreat
open Go.RowKit

theorem nil_of6 {x : ByteArray} (h : x.toList.isEmpty = true) : x = ⟨#[]⟩ := by
  rw [ByteArray.toList_eq] at h
  refine ByteArray.ext (Array.toList_inj.1 ?_)
  exact List.isEmpty_iff.1 h
/-- Whether a text is one of the first. -/
def inTo6 (c : ByteArray) (ds : List ByteArray) (k : Nat) : Bool := (ds.take k).any fun d => c.toList == d.toList
theorem inTo6_succ {c : ByteArray} {ds : List ByteArray} {k : Nat} (h : k < ds.length) : inTo6 c ds (k + 1) = (inTo6 c ds k || (c.toList == ds[k].toList)) := by
  unfold inTo6
  rw [List.take_succ_eq_append_getElem h, List.any_append]
  simp
theorem inTo6_all {c : ByteArray} {ds : List ByteArray} (h : c ∈ ds) : inTo6 c ds ds.length = true := by
  unfold inTo6
  rw [List.take_length]
  exact List.any_eq_true.2 ⟨c, h, by simp⟩
theorem unsafe_few6 {l : List Seg} {t : ByteArray} : (unsafeRes l t).length ≤ 80 ∧ (chainsRes l t).length ≤ 80 := by
  have h2 : (chainsRes l t).length ≤ 80 := by
    cases h : traceB l t.data.toList with
    | none => have : chainsRes l t = [] := by unfold chainsRes; rw [h]
              rw [this]; exact Nat.zero_le _
    | some f => have h1 := chainsRes_len h; have h3 := (traceB_size h).1; omega
  refine ⟨?_, h2⟩
  rw [chainsRes_xs, List.length_map] at h2
  unfold unsafeRes
  rw [List.length_map]
  have h3 := putAll_len ((xsRes l t).filter (apartB l)) []
  have h4 := List.length_filter_le (apartB l) (xsRes l t)
  simp at h3
  omega
theorem unsafe_size6 {l : List Seg} {t c : ByteArray} (h : c ∈ unsafeRes l t) : c.size ≤ 9 := by
  unfold unsafeRes at h
  obtain ⟨x, hx, rfl⟩ := List.mem_map.1 h
  rcases (putAll_mem _ _ _).1 hx with hx | hx
  · cases hx
  · have hx := (List.mem_filter.1 hx).1
    rw [str_size]
    unfold xsRes at hx
    cases hf : traceB l t.data.toList with
    | none => rw [hf] at hx; cases hx
    | some f => rw [hf] at hx; exact (trace_two hf x hx).2

set_option maxRecDepth 100000 in
set_option maxHeartbeats 16000000 in
theorem isSafeLaw_any (hgood : GoodSaid) (A0 : Option Addr) (n c0 : Nat) (w : World) (hn : n ≤ c0) (hm : n ≤ maxLen) (hx : ∀ b, w.heap.size ≤ b → Bytes w b A0 n) :
    Calls Tryz.prog 3 #[.slice A0 n c0] w fun e w' => e = .returned (.bool true) ∧ Below w.heap.size w w' := by
  unfold maxLen at hm
  by_cases hbig : 1048576 < n
  · clear hx hgood
    go_enter Tryz.func3, Tryz.ntmps3
    go_wp2
    go_ret
    exact ⟨rfl, Below.refl _ _⟩
  have HD := Lib.hid (drawIsSafe_plain hgood A0 n c0 w hn hx)
  clear hx hgood
  go_enter Tryz.func3, Tryz.ntmps3
  go_wp2_with fail
  refine Calls.mono HD.out ?_
  rintro e w1 ⟨A, l, c, t, rfl, ⟨hs1, ⟨hl9, hlc, hcm⟩, hnm⟩, hsz, hb1⟩
  have hsh : Short l := fun x hx => by have := hnm x hx; unfold maxLen; omega
  have ht : t.size ≤ 1048576 := by omega
  have HSI := Lib.hid (fun W h => isSafe_any A l c t W h (by omega) hlc hcm hsh ht)
  have HSS := Lib.hid (fun W h => specIsSafe_any A l c t W h (by omega) hsh ht)
  have HUI := Lib.hid (fun W h => implUnsafe_any A l c t W h (by omega) hlc hcm hsh ht)
  have HUS := Lib.hid (fun W h => specUnsafe_any A l c t W h (by omega) hsh ht)
  have HRL := Lib.hid (fun W h => returnLoads_any A l c t W h (by omega) hlc hcm hsh ht)
  have HLO := Lib.hid (fun W h => lostIn_any A l c t W h (by omega) hlc hcm hsh ht)
  have HCH := Lib.hid (fun W h => implChainsOf_any A l c t W h (by omega) hlc hcm hsh ht)
  have HCL := Lib.hid (fun x (hx : x.size ≤ 1048576) W h => chainLies_any A l c x W h (by omega) hlc hcm hsh hx)
  obtain ⟨hu1, hu2⟩ := unsafe_few6 (l := l) (t := t)
  have HUZ := Lib.hid (fun x (h : x ∈ unsafeRes l t) => unsafe_size6 h)
  have HSY : Hid (∀ f, traceB l t.data.toList = some f → _) := fun f hf => safe_says6 hf (traceB_some hf).1
  have HSB : Hid (safeB l t = ((traceB l t.data.toList).isSome && decide ((unsafeRes l t).length = 0))) := rfl
  unfold UnsafePost at HUI HUS
  unfold ChainsResPost at HCH
  have HB1 := Lib.hid hb1
  have HW := Lib.hid hs1
  clear hs1 hnm hb1 hsh ht HD
  cases hR : traceB l t.data.toList with
  | none =>
    have hs0 : safeB l t = false := by rw [HSB.out, hR]; rfl
    rw [hs0] at HSI HSS
    rw [hR] at HUI HUS
    clear HSB HSY HUZ HRL HLO HCH HCL hs0
    dsimp only [Option.isSome] at HUI HUS
    go_wp2_with fail
    refine Calls.mono (HSI.out w1 HW.out) ?_
    rintro e w2 ⟨rfl, hb2⟩
    have HB2 : Hid (Below w.heap.size w w2) := HB1.out.trans (hb2.mono HB1.out.size)
    have HW := Lib.hid ((HW.out.below hb2).more hb2.size)
    clear hb2 HB1 HSI
    go_wp2_with fail
    refine Calls.mono (HUI.out w2 HW.out) ?_
    rintro e w3 ⟨v0, rfl, ho3, hb3⟩
    have HB3 : Hid (Below w.heap.size w w3) := HB2.out.trans (hb3.mono HB2.out.size)
    have HW := Lib.hid ((HW.out.below hb3).more hb3.size)
    obtain ⟨E, ce, rfl, -⟩ := St.textsForm ho3
    have HE := Lib.hid (strsOf ho3)
    clear hb3 HB2 ho3 HUI
    go_wp2_with fail
    refine Calls.mono (HUS.out w3 HW.out) ?_
    rintro e w4 ⟨v1, rfl, ho4, hb4⟩
    have HB4 : Hid (Below w.heap.size w w4) := HB3.out.trans (hb4.mono HB3.out.size)
    have HW := Lib.hid ((HW.out.below hb4).more hb4.size)
    have HE := Lib.hid (St.Strs.more (St.Strs.below HE.out hb4) hb4.size)
    obtain ⟨F, cf, rfl, -⟩ := St.textsForm ho4
    have HF := Lib.hid (strsOf ho4)
    clear hb4 HB3 ho4 HUS
    go_wp2_with fail
    refine Calls.mono (HSS.out w4 HW.out) ?_
    rintro e w5 ⟨rfl, hb5⟩
    have HB5 : Hid (Below w.heap.size w w5) := HB4.out.trans (hb5.mono HB4.out.size)
    have HW := Lib.hid ((HW.out.below hb5).more hb5.size)
    have HE := Lib.hid (St.Strs.more (St.Strs.below HE.out hb5) hb5.size)
    have HF := Lib.hid (St.Strs.more (St.Strs.below HF.out hb5) hb5.size)
    clear hb5 HB4
    go_wp2_with fail
    refine Calls.mono (soTexts_any E F (unsafeRes l t) ce cf w5 HE.out HF.out (by omega)) ?_
    rintro e w6 ⟨rfl, hb6⟩
    have HB6 : Hid (Below w.heap.size w w6) := HB5.out.trans (hb6.mono HB5.out.size)
    have HW := Lib.hid ((HW.out.below hb6).more hb6.size)
    have HE := Lib.hid (St.Strs.more (St.Strs.below HE.out hb6) hb6.size)
    have HF := Lib.hid (St.Strs.more (St.Strs.below HF.out hb6) hb6.size)
    clear hb6 HB5
    go_wp2_with fail
    refine Calls.mono (HSS.out w6 HW.out) ?_
    rintro e w7 ⟨rfl, hb7⟩
    have HB7 : Hid (Below w.heap.size w w7) := HB6.out.trans (hb7.mono HB6.out.size)
    have HW := Lib.hid ((HW.out.below hb7).more hb7.size)
    have HE := Lib.hid (St.Strs.more (St.Strs.below HE.out hb7) hb7.size)
    have HF := Lib.hid (St.Strs.more (St.Strs.below HF.out hb7) hb7.size)
    clear hb7 HB6 HSS
    go_wp2_with fail
    refine Calls.mono (soTexts_any E F (unsafeRes l t) ce cf w7 HE.out HF.out (by omega)) ?_
    rintro e w8 ⟨rfl, hb8⟩
    have HB8 : Hid (Below w.heap.size w w8) := HB7.out.trans (hb8.mono HB7.out.size)
    have HW := Lib.hid ((HW.out.below hb8).more hb8.size)
    have HE := Lib.hid (St.Strs.more (St.Strs.below HE.out hb8) hb8.size)
    have HF := Lib.hid (St.Strs.more (St.Strs.below HF.out hb8) hb8.size)
    clear hb8 HB7
    go_wp2
    go_ret
    exact ⟨rfl, HB8.out⟩
  | some f =>
    obtain ⟨hs1, hs2, hs3⟩ := HSY.out f hR
    obtain ⟨sf, HSF⟩ : ∃ b : Bool, Hid (decide ((unsafeRes l t).length = 0) = b) := ⟨_, rfl⟩
    have hs0 : safeB l t = sf := by rw [HSB.out, hR, ← HSF.out]; rfl
    rw [hs0] at HSI HSS
    rw [hR] at HUI HUS HRL HLO HCH
    have HS3 := Lib.hid hs3
    clear HSB HSY hs0 hs3
    dsimp only [Option.isSome] at HUI HUS HRL HLO HCH
    generalize chainsRes l t = ds at *
    generalize lostRes l t = lo at *
    generalize backRes l t = bk at *
    go_wp2_with fail
    refine Calls.mono (HSI.out w1 HW.out) ?_
    rintro e w2 ⟨rfl, hb2⟩
    have HB2 : Hid (Below w.heap.size w w2) := HB1.out.trans (hb2.mono HB1.out.size)
    have HW := Lib.hid ((HW.out.below hb2).more hb2.size)
    clear hb2 HB1 HSI
    go_wp2_with fail
    refine Calls.mono (HUI.out w2 HW.out) ?_
    rintro e w3 ⟨v0, rfl, ho3, hb3⟩
    have HB3 : Hid (Below w.heap.size w w3) := HB2.out.trans (hb3.mono HB2.out.size)
    have HW := Lib.hid ((HW.out.below hb3).more hb3.size)
    obtain ⟨E, ce, rfl, -⟩ := St.textsForm ho3
    have HE := Lib.hid (strsOf ho3)
    clear hb3 HB2 ho3 HUI
    go_wp2_with fail
    refine Calls.mono (HUS.out w3 HW.out) ?_
    rintro e w4 ⟨v1, rfl, ho4, hb4⟩
    have HB4 : Hid (Below w.heap.size w w4) := HB3.out.trans (hb4.mono HB3.out.size)
    have HW := Lib.hid ((HW.out.below hb4).more hb4.size)
    have HE := Lib.hid (St.Strs.more (St.Strs.below HE.out hb4) hb4.size)
    obtain ⟨F, cf, rfl, -⟩ := St.textsForm ho4
    have HF := Lib.hid (strsOf ho4)
    clear hb4 HB3 ho4 HUS
    go_wp2_with fail
    refine Calls.mono (HSS.out w4 HW.out) ?_
    rintro e w5 ⟨rfl, hb5⟩
    have HB5 : Hid (Below w.heap.size w w5) := HB4.out.trans (hb5.mono HB4.out.size)
    have HW := Lib.hid ((HW.out.below hb5).more hb5.size)
    have HE := Lib.hid (St.Strs.more (St.Strs.below HE.out hb5) hb5.size)
    have HF := Lib.hid (St.Strs.more (St.Strs.below HF.out hb5) hb5.size)
    clear hb5 HB4
    go_wp2_with fail
    refine Calls.mono (soTexts_any E F (unsafeRes l t) ce cf w5 HE.out HF.out (by omega)) ?_
    rintro e w6 ⟨rfl, hb6⟩
    have HB6 : Hid (Below w.heap.size w w6) := HB5.out.trans (hb6.mono HB5.out.size)
    have HW := Lib.hid ((HW.out.below hb6).more hb6.size)
    have HE := Lib.hid (St.Strs.more (St.Strs.below HE.out hb6) hb6.size)
    have HF := Lib.hid (St.Strs.more (St.Strs.below HF.out hb6) hb6.size)
    clear hb6 HB5
    clear HF HSS
    generalize unsafeRes l t = ts at *
    go_wp2_with fail
    refine Calls.mono (HRL.out w6 HW.out) ?_
    rintro e w7 ⟨rfl, hb7⟩
    have HB7 : Hid (Below w.heap.size w w7) := HB6.out.trans (hb7.mono HB6.out.size)
    have HW := Lib.hid ((HW.out.below hb7).more hb7.size)
    have HE := Lib.hid (St.Strs.more (St.Strs.below HE.out hb7) hb7.size)
    clear hb7 HB6 HRL
    go_wp2_with fail
    refine Calls.mono (HLO.out w7 HW.out) ?_
    rintro e w8 ⟨rfl, hb8⟩
    have HB8 : Hid (Below w.heap.size w w8) := HB7.out.trans (hb8.mono HB7.out.size)
    have HW := Lib.hid ((HW.out.below hb8).more hb8.size)
    have HE := Lib.hid (St.Strs.more (St.Strs.below HE.out hb8) hb8.size)
    clear hb8 HB7 HLO
    go_wp2_with fail
    refine Calls.mono (HCH.out w8 HW.out) ?_
    rintro e w9 ⟨v2, rfl, ho9, hb9⟩
    have HB9 : Hid (Below w.heap.size w w9) := HB8.out.trans (hb9.mono HB8.out.size)
    have HW := Lib.hid ((HW.out.below hb9).more hb9.size)
    have HE := Lib.hid (St.Strs.more (St.Strs.below HE.out hb9) hb9.size)
    obtain ⟨G, cg, rfl, -⟩ := St.textsForm ho9
    have HG := Lib.hid (strsOf ho9)
    clear hb9 HB8 ho9 HCH
    go_wp2
    go_loopw [103] (fun i wr => ∃ k : Nat, k ≤ ts.length ∧ i = .int .i64 k ∧ Hid (Segs wr wr.heap.size A l) ∧ Hid (St.Strs wr wr.heap.size E ts) ∧ Hid (St.Strs wr wr.heap.size G ds) ∧ Hid (Below w.heap.size w wr))
      (fun i _ => ts.length - (intOf i).toNat)
    case atStart => exact ⟨0, Nat.zero_le _, rfl, HW, HE, HG, HB9⟩
    case round =>
      obtain ⟨k, hk, rfl, HSr, HEr, HGr, HBr⟩ := hrel
      clear HW HE HG HB9
      by_cases hlt : k < ts.length
      · have hlt' : (k : Int) < (ts.length : Int) := by omega
        have hk0 : (0 : Int) ≤ (k : Int) := Int.natCast_nonneg _
        have hwk : IntKind.i64.wrap ((k : Int) + 1) = (k : Int) + 1 := IntWalk.i64_in _ (by omega)
        obtain ⟨b, q, rfl, hB, hc⟩ := HEr.out (by omega)
        have cc0 := hc k ts[k] (List.getElem?_eq_getElem hlt)
        obtain ⟨hin, hli⟩ := HS3.out ts[k] (List.getElem_mem hlt)
        have hz := HUZ.out ts[k] (List.getElem_mem hlt)
        have HC1 := Lib.hid (fun W h => HCL.out ts[k] (by omega) W h)
        rw [hli] at HC1
        have HIN := Lib.hid (inTo6_all hin)
        clear hc HS3 HUZ HCL hin hli
        generalize ts[k] = x at *
        go_wp2
        go_loopw [18, 109] (fun u i wr => ∃ m : Nat, m ≤ ds.length ∧ i = .int .i64 m ∧ u = .bool (inTo6 x ds m) ∧ Hid (Segs wr wr.heap.size A l) ∧ Hid (St.Strs wr wr.heap.size (some ⟨b, q, none⟩) ts) ∧ Hid (St.Strs wr wr.heap.size G ds) ∧ Hid (Below w.heap.size w wr))
          (fun _ i _ => ds.length - (intOf i).toNat)
        case atStart => exact ⟨0, Nat.zero_le _, rfl, rfl, HSr, HEr, HGr, HBr⟩
        case round =>
          clear HSr HEr HGr HBr cc0 hB
          obtain ⟨m, hm2, rfl, rfl, HSr, HEr, HGr, HBr⟩ := hrel
          by_cases hlm : m < ds.length
          · have hlm' : (m : Int) < (ds.length : Int) := by omega
            have hm0 : (0 : Int) ≤ (m : Int) := Int.natCast_nonneg _
            have hwm : IntKind.i64.wrap ((m : Int) + 1) = (m : Int) + 1 := IntWalk.i64_in _ (by omega)
            obtain ⟨b2, q2, rfl, hB2, hc2⟩ := HGr.out (by omega)
            have dd0 := hc2 m ds[m] (List.getElem?_eq_getElem hlm)
            have hsu := inTo6_succ (c := x) hlm
            clear hc2
            generalize ds[m] = y at *
            generalize hv1 : inTo6 x ds m = v1 at *
            cases v1
            all_goals
              go_wp2
              go_roundw
              case rel => exact ⟨m + 1, by omega, by go_num, by rw [hsu]; simp, HSr, HEr, HGr, HBr⟩
              case measure => simp [intOf]; omega
          · obtain rfl : m = ds.length := by omega
            rw [HIN.out]
            clear HIN
            go_wp2_with fail
            refine Calls.mono (HC1.out wr HSr.out) ?_
            rintro e wa ⟨rfl, hba⟩
            have HSa := Lib.hid ((HSr.out.below hba).more hba.size)
            have HEa := Lib.hid (St.Strs.more (St.Strs.below HEr.out hba) hba.size)
            have HGa := Lib.hid (St.Strs.more (St.Strs.below HGr.out hba) hba.size)
            have HBa := Lib.hid (HBr.out.trans (hba.mono HBr.out.size))
            clear hba HC1 HSr HEr HGr HBr
            go_wp2
            go_roundw
            case rel => exact ⟨k + 1, by omega, by go_num, HSa, HEa, HGa, HBa⟩
            case measure => simp [intOf]; omega
      · obtain rfl : k = ts.length := by omega
        clear HS3 HUZ HCL
        cases sf with
        | true =>
          have h0 : ts.length = 0 := of_decide_eq_true HSF.out
          obtain rfl := hs1.1 h0
          obtain rfl := hs2 h0
          have hz0 : ((ts.length : Int) == 0) = true := by rw [h0]; rfl
          clear hs1 hs2 HSF
          go_wp2
          go_ret
          first | exact ⟨rfl, HBr.out⟩ | exact ⟨ret_bool hz0, HBr.out⟩
        | false =>
          have h0 : ¬ ts.length = 0 := of_decide_eq_false HSF.out
          have hz0 : ((ts.length : Int) == 0) = false := beq_eq_false_iff_ne.2 (by omega)
          cases he : lo.toList.isEmpty with
          | true => exact absurd (hs1.2 (nil_of6 he)) h0
          | false =>
            clear hs1 hs2 HSF
            go_wp2
            go_ret
            first | exact ⟨rfl, HBr.out⟩ | exact ⟨ret_bool (by rw [hz0]; rfl), HBr.out⟩ | exact ⟨ret_bool (by simp [hz0]), HBr.out⟩

end Go.Proofs.YteokbgfiokbojaaGreat
