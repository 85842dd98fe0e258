/- Joined: Ip. -/
import Derived.Test.YtbmfbnlmdjnddaaGreatU30
import Derived.Test.YtbmfbnlmdjnddaaGreatU29
import Derived.Test.YtbmfbnlmdjnddaaGreatU33
import Derived.Test.YtbmfbnlmdjnddaaGreatU34
/- The walk of the law FnTogether. -/
namespace Go.Proofs.YtbmfbnlmdjnddaaGreat
open Go.RowKit

set_option maxRecDepth 100000 in
set_option maxHeartbeats 8000000 in
theorem togetherLaw7_any (hd : ∀ A0 n c0 w, n ≤ c0 → (∀ b, w.heap.size ≤ b → Bytes w b A0 n) → Calls Tryz.prog 18 #[.slice A0 n c0] w (PairsHad w)) (A0 : Option Addr) (n c0 : Nat) (w : World) (hn : n ≤ c0) (hx : ∀ b, w.heap.size ≤ b → Bytes w b A0 n) :
    Calls Tryz.prog 4 #[.slice A0 n c0] w fun e w' => e = .returned (.bool true) ∧ Below w.heap.size w w' := by
  by_cases hbig : 1048576 < n
  · go_enter Tryz.func4, Tryz.ntmps4
    go_wp2
    go_ret
    exact ⟨rfl, Below.refl _ _⟩
  have HD := Lib.hid (hd A0 n c0 w hn hx)
  unfold PairsHad at HD
  clear hd hx
  go_enter Tryz.func4, Tryz.ntmps4
  go_wp2_with fail
  refine Calls.mono HD.out ?_
  rintro e w1 ⟨A, l, c, A2, ts, c2, rfl, ⟨hs1, ⟨hl9, hlc, hcm⟩, hnm⟩, hst, htl, hts, hb1⟩
  have hsh : Short l := fun x hx => by have := hnm x hx; unfold maxLen; omega
  have htl' : ts.length ≤ 1048576 := by omega
  have hts' : ∀ x ∈ ts, x.size ≤ 1048576 := fun x hx => by have := hts x hx; omega
  have HIM := Lib.hid (fun W h1 h2 => implTogether_any A l c A2 ts c2 W h1 h2 (by omega) hlc hcm hsh htl' hts')
  have HSP := Lib.hid (fun W h1 h2 => specTogether_any A l c A2 ts c2 W h1 h2 (by omega) hsh htl' hts')
  have HCI := Lib.hid (fun W h1 h2 => implClashes_any A l c A2 ts c2 W h1 h2 (by omega) hlc hcm hsh htl' hts')
  have HCS := Lib.hid (fun W h1 h2 => specClashes_any A l c A2 ts c2 W h1 h2 (by omega) hsh htl' hts')
  have HRE := Lib.hid (fun (s : ByteArray) W h1 h2 (hz : s.size ≤ 2) => implReached_any A l c A2 ts c2 s W h1 h2 (by omega) hlc hcm hsh htl' hts' (by omega))
  have HLT := Lib.hid (fun s t W h1 => lieTogether_any A l c s t W h1 (by omega) hlc hcm hsh)
  have HGS := Lib.hid (fun W h1 h2 => implGsafe_any A l c A2 ts c2 W h1 h2 (by omega) hlc hcm hsh htl' hts')
  unfold TogPost togRes at HIM HSP
  unfold ClashPost clashRes at HCI HCS
  have hT160 := togTxt_len l ts
  have HG7 : Hid (gsafeB l ts = (graphB l ts && decide ((clashTxt l ts).length = 0))) := by
    show _ = _
    unfold gsafeB clashRes
    rw [List.length_map]
  have HTWO := Lib.hid (fun (h : graphB l ts = true) x hx => tog_two (l := l) (ts := ts) h (x := x) hx)
  have HASC : Hid (graphB l ts = true → ∀ i (h1 : i < (togTxt l ts).length) (h2 : i + 1 < (togTxt l ts).length), (togTxt l ts)[i] < (togTxt l ts)[i + 1]) := fun h i _ h2 => tog_step h h2
  have HRES : Hid (∀ u, graphB l ts = true → callP l u = true → reachRes l ts ⟨#[u]⟩ = strOf (reachTxt l (psOf ts) u) ∧ (strOf (reachTxt l (psOf ts) u)).size ≤ 9) := fun u hg hu => by
    have hG := graph_is hg
    refine ⟨?_, by rw [str_size]; exact Nat.le_trans (reachTxt_len _ _ _) hl9⟩
    unfold reachRes
    rw [if_pos (by unfold reachOk; rw [hg, callP_held hG.valid hu]; rfl), ← reach_sorted hG.valid]
    rfl
  have HCT : Hid (clashTxt l ts = (togTxt l ts).filter (apart7 l)) := rfl
  have HBAD : Hid (graphB l ts = false → togTxt l ts = [] ∧ clashTxt l ts = []) := fun h => by
    have h1 := togTxt_bad (l := l) h
    exact ⟨h1, by unfold clashTxt; rw [h1]; rfl⟩
  have HB1 := Lib.hid hb1
  have HW := Lib.hid hs1
  have HT := Lib.hid hst
  clear hs1 hst hnm hb1 hsh htl' hts' hts HD
  generalize graphB l ts = d at *
  go_wp2_with fail
  refine Calls.mono (HIM.out w1 HW.out HT.out) ?_
  rintro e w2 ⟨v2, rfl, ho2, hb2⟩
  have O2 := Lib.hid ho2
  have HB2 : Hid (Below w1.heap.size w1 w2) := hb2
  clear ho2 hb2 HIM
  go_wp2_with fail
  refine Calls.mono (HSP.out w2 ((HW.out.below HB2.out).more HB2.out.size) ((HT.out.below HB2.out).more HB2.out.size)) ?_
  rintro e w3 ⟨v3, rfl, ho3, hb3⟩
  have O3 := Lib.hid ho3
  have HB3 : Hid (Below w1.heap.size w1 w3) := HB2.out.trans (hb3.mono HB2.out.size)
  have O2 := Lib.hid (O2.out.below hb3)
  clear ho3 hb3 HSP
  go_wp2_with fail
  refine Calls.mono (HCI.out w3 ((HW.out.below HB3.out).more HB3.out.size) ((HT.out.below HB3.out).more HB3.out.size)) ?_
  rintro e w4 ⟨v4, rfl, ho4, hb4⟩
  have O4 := Lib.hid ho4
  have HB4 : Hid (Below w1.heap.size w1 w4) := HB3.out.trans (hb4.mono HB3.out.size)
  have O2 := Lib.hid (O2.out.below hb4)
  have O3 := Lib.hid (O3.out.below hb4)
  clear ho4 hb4 HCI
  go_wp2_with fail
  refine Calls.mono (HCS.out w4 ((HW.out.below HB4.out).more HB4.out.size) ((HT.out.below HB4.out).more HB4.out.size)) ?_
  rintro e w5 ⟨v5, rfl, ho5, hb5⟩
  have O5 := Lib.hid ho5
  have HB5 : Hid (Below w1.heap.size w1 w5) := HB4.out.trans (hb5.mono HB4.out.size)
  have O2 := Lib.hid (O2.out.below hb5)
  have O3 := Lib.hid (O3.out.below hb5)
  have O4 := Lib.hid (O4.out.below hb5)
  clear ho5 hb5 HCS
  obtain ⟨A2v, cap2, rfl, -⟩ := St.textsForm O2.out
  obtain ⟨A3v, cap3, rfl, -⟩ := St.textsForm O3.out
  obtain ⟨A4v, cap4, rfl, -⟩ := St.textsForm O4.out
  obtain ⟨A5v, cap5, rfl, -⟩ := St.textsForm O5.out
  have HC160 : Hid ((clashTxt l ts).length ≤ 160) := by
    show _ ≤ _
    rw [HCT.out]
    exact Nat.le_trans (List.length_filter_le _ _) hT160
  generalize togTxt l ts = T at *
  generalize clashTxt l ts = R at *
  have hTz : (T.map strOf).length = T.length := List.length_map _
  have hRz : (R.map strOf).length = R.length := List.length_map _
  have hT2 : (T.map strOf).length ≤ 160 := by omega
  have hR2 : (R.map strOf).length ≤ 160 := by have := HC160.out; omega
  have HTz := Lib.hid hTz
  have HRz := Lib.hid hRz
  have HTC : Hid (∀ k (hk : k < T.length), (T.map strOf)[k]? = some (strOf T[k])) := fun k hk => by rw [List.getElem?_map, List.getElem?_eq_getElem hk]; rfl
  have HRC : Hid (∀ k x, R[k]? = some x → (R.map strOf)[k]? = some (strOf x)) := fun k x hk => by rw [List.getElem?_map, hk]; rfl
  clear hTz hRz
  generalize T.map strOf = tt at *
  generalize R.map strOf = rr at *
  go_wp2_with fail
  refine (soTexts_any A2v A3v tt cap2 cap3 _ (strsOf O2.out) (strsOf O3.out) (by omega)).mono ?_
  rintro e w6 ⟨rfl, hb6⟩
  have HB6 : Hid (Below w1.heap.size w1 w6) := HB5.out.trans (hb6.mono HB5.out.size)
  have O2 := Lib.hid (O2.out.below hb6)
  have O3 := Lib.hid (O3.out.below hb6)
  have O4 := Lib.hid (O4.out.below hb6)
  have O5 := Lib.hid (O5.out.below hb6)
  clear hb6 HB2 HB3 HB4 HB5
  cases d with
  | false =>
    go_wp2_with fail
    refine (soTexts_any A4v A5v rr cap4 cap5 _ (strsOf O4.out) (strsOf O5.out) (by omega)).mono ?_
    rintro e w7 ⟨rfl, hb7⟩
    have HB7 : Hid (Below w1.heap.size w1 w7) := HB6.out.trans (hb7.mono HB6.out.size)
    have O2 := Lib.hid (O2.out.below hb7)
    have O3 := Lib.hid (O3.out.below hb7)
    have O4 := Lib.hid (O4.out.below hb7)
    have O5 := Lib.hid (O5.out.below hb7)
    clear hb7 HB6
    go_wp2_with fail
    refine (soTexts_any A2v A3v tt cap2 cap3 _ (strsOf O2.out) (strsOf O3.out) (by omega)).mono ?_
    rintro e w8 ⟨rfl, hb8⟩
    have HB8 : Hid (Below w1.heap.size w1 w8) := HB7.out.trans (hb8.mono HB7.out.size)
    have O4 := Lib.hid (O4.out.below hb8)
    have O5 := Lib.hid (O5.out.below hb8)
    clear hb8 HB7
    go_wp2_with fail
    refine (soTexts_any A4v A5v rr cap4 cap5 _ (strsOf O4.out) (strsOf O5.out) (by omega)).mono ?_
    rintro e w9 ⟨rfl, hb9⟩
    have HB9 : Hid (Below w1.heap.size w1 w9) := HB8.out.trans (hb9.mono HB8.out.size)
    clear hb9 HB8
    go_wp2
    go_ret
    exact ⟨rfl, HB1.out.trans (HB9.out.mono HB1.out.size)⟩
  | true =>
    have HTW := Lib.hid (HTWO.out rfl)
    have HAS := Lib.hid (HASC.out rfl)
    have HRS := Lib.hid (fun u => HRES.out u rfl)
    clear HTWO HASC HRES
    rw [Bool.true_and] at HG7
    clear HBAD
    go_wp2_with fail
    refine (soTexts_any A4v A5v rr cap4 cap5 _ (strsOf O4.out) (strsOf O5.out) (by omega)).mono ?_
    rintro e w7 ⟨rfl, hb7⟩
    have HB7 : Hid (Below w1.heap.size w1 w7) := HB6.out.trans (hb7.mono HB6.out.size)
    have O2 := Lib.hid (O2.out.below hb7)
    have O4 := Lib.hid (O4.out.below hb7)
    clear hb7 HB6 O3 O5
    have HW7 := Lib.hid ((HW.out.below HB7.out).more HB7.out.size)
    have HT7 := Lib.hid ((HT.out.below HB7.out).more HB7.out.size)
    have HBW := Lib.hid (HB1.out.trans (HB7.out.mono HB1.out.size))
    clear HW HT HB1 HB7
    go_wp2
    go_loopw [13, 96] (fun kv iv wr => ∃ i : Nat, i ≤ T.length ∧ iv = .int .i64 i ∧ kv = .int .i64 (cntTo (apart7 l) T i) ∧ Hid (Below w7.heap.size w7 wr))
      (fun _ iv _ => T.length - (intOf iv).toNat)
    case atStart => exact ⟨0, Nat.zero_le _, rfl, rfl, Below.refl _ _⟩
    case round =>
      obtain ⟨i, hi, rfl, rfl, HB⟩ := hrel
      have hi0 : (0 : Int) ≤ (i : Int) := Int.natCast_nonneg _
      by_cases hlt : i < T.length
      · have hlt' : (i : Int) < (tt.length : Int) := by have := HTz.out; omega
        obtain ⟨u, v, hx, hlt2, hcu, hcv, hreach⟩ := HTW.out T[i] (List.getElem_mem hlt)
        obtain ⟨eru, hru⟩ := HRS.out u hcu
        obtain ⟨erv, hrv⟩ := HRS.out v hcv
        obtain ⟨bT, oT, hA2, hBT, hcT⟩ := strsOf O2.out (by omega)
        subst hA2
        have c0 : wr.cell? ⟨bT, oT + i, none⟩ = some (.string (strOf [u, v])) := by
          rw [← hx]
          exact (HB.out.cell (p := ⟨bT, oT + i, none⟩) hBT).trans (hcT i _ (HTC.out i hlt))
        have HPV : Hid (0 < i → ∃ p : ByteArray, p.size ≤ 8 ∧ Op.bytesLess p.toList (strOf [u, v]).toList = true ∧ ∀ W, Below w7.heap.size w7 W → W.cell? ⟨bT, oT + (i - 1), none⟩ = some (.string p)) := fun h0 => by
          obtain ⟨j, rfl⟩ : ∃ j, i = j + 1 := ⟨i - 1, by omega⟩
          have hj : j < T.length := by omega
          refine ⟨strOf T[j], ?_, ?_, fun W hW => (hW.cell (p := ⟨bT, oT + j, none⟩) hBT).trans (hcT j _ (HTC.out j hj))⟩
          · obtain ⟨u', v', hx', _⟩ := HTW.out T[j] (List.getElem_mem hj)
            rw [hx']
            exact (by decide : (2 : Nat) ≤ 8)
          · rw [txt_less, ← hx]
            exact decide_eq_true (HAS.out j hj hlt)
        have hless : Op.bytesLess (⟨#[u]⟩ : ByteArray).toList (⟨#[v]⟩ : ByteArray).toList = true := by rw [cut_less]; exact decide_eq_true hlt2
        have HSU := Lib.hid (fun W h1 h2 => HRE.out ⟨#[u]⟩ W h1 h2 (show (1 : Nat) ≤ 2 by decide))
        have HSV := Lib.hid (fun W h1 h2 => HRE.out ⟨#[v]⟩ W h1 h2 (show (1 : Nat) ≤ 2 by decide))
        rw [eru] at HSU
        rw [erv] at HSV
        have HLI := Lib.hid (fun W h1 => HLT.out ⟨#[u]⟩ ⟨#[v]⟩ W h1)
        have HLQ : Hid (apart7 l [u, v] = !lieB l ⟨#[u]⟩ ⟨#[v]⟩) := rfl
        have HCN := Lib.hid (cntTo_succ (p := apart7 l) hlt)
        have HCA := Lib.hid (fun h => cntTo_at (p := apart7 l) hlt h)
        rw [← HCT.out, hx] at HCA
        rw [hx, HLQ.out] at HCN
        have HCL : Hid (lieB l ⟨#[u]⟩ ⟨#[v]⟩ = false → ∃ b4 o4, A4v = some ⟨b4, o4, none⟩ ∧ b4 < w7.heap.size ∧ cntTo (apart7 l) T i < rr.length ∧ w7.cell? ⟨b4, o4 + cntTo (apart7 l) T i, none⟩ = some (.string (strOf [u, v]))) := fun h => by
          have h1 := HRC.out _ _ (HCA.out (by rw [HLQ.out, h]; rfl))
          have h2 := (List.getElem?_eq_some_iff.1 h1).1
          obtain ⟨b4, o4, e4, hB4, hc4⟩ := strsOf O4.out (by omega)
          exact ⟨b4, o4, e4, hB4, h2, hc4 _ _ h1⟩
        have hcn := cntTo_le (apart7 l) T i
        have HSH1 := Lib.hid (fun W => soHas_same (strOf (reachTxt l (psOf ts) u)) ⟨#[v]⟩ W (by omega))
        have HSH2 := Lib.hid (fun W => soHas_same (strOf (reachTxt l (psOf ts) v)) ⟨#[u]⟩ W (by omega))
        obtain ⟨hz2, hx1, hx2⟩ := two_cut u v
        generalize hasT (strOf (reachTxt l (psOf ts) u)) ⟨#[v]⟩ = q1 at *
        generalize hasT (strOf (reachTxt l (psOf ts) v)) ⟨#[u]⟩ = q2 at *
        generalize strOf (reachTxt l (psOf ts) u) = ru at *
        generalize strOf (reachTxt l (psOf ts) v) = rv at *
        generalize lieB l ⟨#[u]⟩ ⟨#[v]⟩ = lb at *
        generalize reachOk l ts ⟨#[u]⟩ = o1 at *
        generalize reachOk l ts ⟨#[v]⟩ = o2 at *
        clear hx hcT eru erv hcu hcv hlt2
        generalize strOf [u, v] = p at *
        generalize (⟨#[u]⟩ : ByteArray) = bu at *
        generalize (⟨#[v]⟩ : ByteArray) = bv at *
        go_wp2_with fail
        refine Calls.mono (HSU.out _ ((HW7.out.below HB.out).more HB.out.size) ((HT7.out.below HB.out).more HB.out.size)) ?_
        rintro e w8 ⟨rfl, hb8⟩
        have HB8 : Hid (Below w7.heap.size w7 w8) := HB.out.trans (hb8.mono HB.out.size)
        clear hb8
        go_wp2_with fail
        refine Calls.mono (HSV.out _ ((HW7.out.below HB8.out).more HB8.out.size) ((HT7.out.below HB8.out).more HB8.out.size)) ?_
        rintro e w9 ⟨rfl, hb9⟩
        have HB9 : Hid (Below w7.heap.size w7 w9) := HB8.out.trans (hb9.mono HB8.out.size)
        clear hb9
        have HBD9 : Hid (Below w7.heap.size w7 w9.drew) := HB9.out.drew
        clear HSU HSV HB8
        cases q1
        case' true =>
          by_cases h0 : 0 < i
          case' pos =>
            obtain ⟨p', hp8, hl9', hcp⟩ := HPV.out h0
            have cp := hcp w9 HB9.out
            have h0' : (0 : Int) < (i : Int) := by omega
            obtain ⟨i1, hi1⟩ : ∃ i1 : Nat, i1 = i - 1 := ⟨_, rfl⟩
            have hwi : IntKind.i64.wrap ((i : Int) - 1) = (i1 : Int) := (IntWalk.i64_in _ (by omega)).trans (by omega)
            have hi10 : (0 : Int) ≤ (i1 : Int) := by omega
            have hi1t : (i1 : Int) < (tt.length : Int) := by omega
            rw [← hi1] at cp
            clear hi1 hcp HPV
            go_wp2_with fail
            go_quiet (first | (go_at_call 16; exact Calls.quiet_of_same (HSH1.out _)))
            clear cp hp8 hl9' hwi hi10 hi1t h0'
          case' neg =>
            have h0' : ¬ (0 : Int) < (i : Int) := by omega
            clear HPV
            go_wp2_with fail
            go_quiet (first | (go_at_call 16; exact Calls.quiet_of_same (HSH1.out _)))
            clear h0'
        case' false =>
          have hq2 : q2 = true := by rcases hreach with h | h; cases h; exact h
          subst hq2
          have HSHB : Hid (∀ W s t q, ((s = ru ∧ t = bv ∧ q = false) ∨ (s = rv ∧ t = bu ∧ q = true)) → Calls Tryz.prog 16 #[.string s, .string t] W fun e w' => e = .returned (.bool q) ∧ w' = W) := fun W s t q h => by
            rcases h with ⟨rfl, rfl, rfl⟩ | ⟨rfl, rfl, rfl⟩
            · exact HSH1.out W
            · exact HSH2.out W
          by_cases h0 : 0 < i
          case' pos =>
            obtain ⟨p', hp8, hl9', hcp⟩ := HPV.out h0
            have cp := hcp w9 HB9.out
            have h0' : (0 : Int) < (i : Int) := by omega
            obtain ⟨i1, hi1⟩ : ∃ i1 : Nat, i1 = i - 1 := ⟨_, rfl⟩
            have hwi : IntKind.i64.wrap ((i : Int) - 1) = (i1 : Int) := (IntWalk.i64_in _ (by omega)).trans (by omega)
            have hi10 : (0 : Int) ≤ (i1 : Int) := by omega
            have hi1t : (i1 : Int) < (tt.length : Int) := by omega
            rw [← hi1] at cp
            clear hi1 hcp HPV
            go_wp2_with fail
            go_quiet (first | (go_at_call 16; exact Calls.quiet_of_same (HSHB.out _ _ _ _ (by first | exact .inl ⟨rfl, rfl, rfl⟩ | exact .inr ⟨rfl, rfl, rfl⟩))))
            clear cp hp8 hl9' hwi hi10 hi1t h0'
          case' neg =>
            have h0' : ¬ (0 : Int) < (i : Int) := by omega
            clear HPV
            go_wp2_with fail
            go_quiet (first | (go_at_call 16; exact Calls.quiet_of_same (HSHB.out _ _ _ _ (by first | exact .inl ⟨rfl, rfl, rfl⟩ | exact .inr ⟨rfl, rfl, rfl⟩))))
            clear h0'
        all_goals
          have HB10 : Hid (Below w7.heap.size w7 (w9.drewN nq)) := below_drewN HB9.out nq
          generalize w9.drewN nq = w10 at *
          have HBD : Hid (Below w7.heap.size w7 w10.drew) := HB10.out.drew
          have HLK := Lib.hid (HLI.out _ ((HW7.out.below HBD.out).more HBD.out.size))
          clear HB9 HBD9 HSH1 HSH2 hreach h0 hless HLI c0
          cases lb with
          | true =>
            have HC1 : Hid (cntTo (apart7 l) T (i + 1) = cntTo (apart7 l) T i) := HCN.out
            clear HCN HCL HCA
            generalize cntTo (apart7 l) T i = cn at *
            go_wp2_with fail
            go_region_with (go_at_call 17; refine Calls.mono HLK.out ?_; rintro e w11 ⟨rfl, hb11⟩)
            have HB11 : Hid (Below w7.heap.size w7 w11) := HBD.out.trans (hb11.mono HBD.out.size)
            clear hb11
            go_wp2
            go_roundw
            case rel => exact ⟨i + 1, by omega, by go_num, by rw [HC1.out], HB11⟩
            case measure => simp [intOf]; omega
          | false =>
            have HC1 : Hid (cntTo (apart7 l) T (i + 1) = cntTo (apart7 l) T i + 1) := HCN.out
            obtain ⟨b4, o4, rfl, hB4, hclt, hc4⟩ := HCL.out rfl
            clear HCN HCL HCA
            generalize cntTo (apart7 l) T i = cn at *
            have hcn0 : (0 : Int) ≤ (cn : Int) := Int.natCast_nonneg _
            have hclt' : (cn : Int) < (rr.length : Int) := by omega
            have hcge : ¬ (rr.length : Int) ≤ (cn : Int) := by omega
            go_wp2_with fail
            go_region_with (go_at_call 17; refine Calls.mono HLK.out ?_; rintro e w11 ⟨rfl, hb11⟩)
            have HB11 : Hid (Below w7.heap.size w7 w11) := HBD.out.trans (hb11.mono HBD.out.size)
            have c4 : w11.cell? ⟨b4, o4 + cn, none⟩ = some (.string p) := (HB11.out.cell (p := ⟨b4, o4 + cn, none⟩) hB4).trans hc4
            clear hb11 hc4
            go_wp2
            go_roundw
            case rel => exact ⟨i + 1, by omega, by go_num, by rw [HC1.out]; go_num, HB11⟩
            case measure => simp [intOf]; omega
      · obtain rfl : i = T.length := by omega
        have hnl : ¬ ((T.length : Nat) : Int) < (tt.length : Int) := by have := HTz.out; omega
        have HE : Hid (cntTo (apart7 l) T T.length = rr.length) := by
          show _ = _
          rw [cntTo_all, ← HCT.out, HRz.out]
        rw [HE.out]
        have HGV := Lib.hid (HGS.out wr ((HW7.out.below HB.out).more HB.out.size) ((HT7.out.below HB.out).more HB.out.size))
        have hgv : gsafeB l ts = decide (rr.length = 0) := by rw [HG7.out, HRz.out]
        have hge : (gsafeB l ts == decide ((rr.length : Int) = 0)) = true := by
          rw [hgv, beq_iff_eq, decide_eq_decide]
          omega
        have hge2 : (gsafeB l ts == ((rr.length : Int) == 0)) = true := by
          rw [hgv, beq_iff_eq, Bool.eq_iff_iff, decide_eq_true_eq, beq_iff_eq]
          omega
        clear hgv HG7
        generalize gsafeB l ts = gs at *
        go_wp2_with fail
        refine Calls.mono HGV.out ?_
        rintro e w8 ⟨rfl, hb8⟩
        have HB8 : Hid (Below w7.heap.size w7 w8) := HB.out.trans (hb8.mono HB.out.size)
        clear hb8
        go_wp2
        go_ret
        exact ⟨rfl, HBW.out.trans (HB8.out.mono HBW.out.size)⟩

end Go.Proofs.YtbmfbnlmdjnddaaGreat
