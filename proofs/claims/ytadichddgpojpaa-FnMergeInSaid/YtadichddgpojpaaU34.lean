/- Joined: Km. -/
import Derived.Test.YtadichddgpojpaaU30
import Derived.Test.YtadichddgpojpaaU33
import Derived.Test.YtadichddgpojpaaU24
import Derived.Test.YtadichddgpojpaaU26
import Derived.Test.YtadichddgpojpaaU04
import Derived.Test.YtadichddgpojpaaU06
/- The draw and the walk of the law FnMergeIn. -/
namespace Go.Proofs.Ytadichddgpojpaa
open Go.RowKit

set_option maxRecDepth 100000 in
set_option maxHeartbeats 1000000 in
theorem drawMerge9 (hgood : GoodSaid) (A0 : Option Addr) (n c0 : Nat) (w : World) (hn : n ≤ c0) (hx : ∀ b, w.heap.size ≤ b → Bytes w b A0 n) :
    Calls Try.prog 13 #[.slice A0 n c0] w fun e w' => ∃ A l c x, e = .returned (.tuple #[.slice A (List.length l) c, .string x]) ∧ TreeHas w' A l c ∧ x.size ≤ 2 ∧ Below w.heap.size w w' := by
  have HO := Lib.hid (l13Open_any A0 n c0 w hn hx)
  have HP := Lib.hid (fun b w h => l1Place_plain hgood b 0 w h (Nat.zero_le _))
  clear hx hgood
  go_enter Try.func13, Try.ntmps13
  go_wp2_with fail
  refine Calls.mono HO.out ?_
  rintro e w1 ⟨b, rfl, hbb, hr, hb1⟩
  have HB1 := Lib.hid hb1
  have HPP := Lib.hid (HP.out b w1 hr)
  clear hr hb1 HP HO
  go_wp2_with fail
  refine Calls.mono HPP.out ?_
  rintro e w2 ⟨A, l, c, x, rfl, ⟨hs, hs'⟩, hl, hsh, hxx, ho, hr2⟩
  have HT : Hid (TreeHas w2 A l c) := ⟨hs, hl, hsh⟩
  have HB2 := Lib.hid (only_below HB1.out hbb ho)
  have HX := Lib.hid hxx
  clear hs hs' hl hsh hxx ho hr2 HPP
  go_wp2
  refine bodyPost_ret (v := .tuple #[.slice A l.length c, .string x]) (by simp [results, Try.results13, go_sem]) rfl ?_
  exact ⟨A, l, c, x, rfl, HT.out, HX.out, HB2.out⟩

theorem off9_merge {l : List Seg} {s : ByteArray} (h : mergeOk l s = false) : mergeL l s = [] := if_neg (by rw [h]; decide)

set_option maxRecDepth 100000 in
set_option maxHeartbeats 16000000 in
theorem mergeLaw_any (hgood : GoodSaid) (A0 : Option Addr) (n c0 : Nat) (w : World) (hn : n ≤ c0) (hm : n ≤ maxLen) (hx : ∀ b, w.heap.size ≤ b → Bytes w b A0 n) :
    Calls Try.prog 3 #[.slice A0 n c0] w fun e w' => e = .returned (.bool true) ∧ Below w.heap.size w w' := by
  unfold maxLen at hm
  by_cases hbig : 1048576 < n
  · clear hx hgood
    go_enter Try.func3, Try.ntmps3
    go_wp2
    go_ret
    exact ⟨rfl, Below.refl _ _⟩
  have HD := Lib.hid (drawMerge9 hgood A0 n c0 w hn hx)
  clear hx hgood
  go_enter Try.func3, Try.ntmps3
  go_wp2_with fail
  refine Calls.mono HD.out ?_
  rintro e w1 ⟨A, l, c, s, rfl, ⟨hs1, ⟨hl9, hlc, hcm⟩, hnm⟩, hsz, hb1⟩
  have hsh : Short l := short9_of hnm
  have hs' : s.size ≤ 1048576 := by omega
  have HPI := Lib.hid (fun W h => merge_any A l c s W h (by omega) hlc hcm hsh hs')
  have HPS := Lib.hid (fun W h => specMerge_any A l c s W h (by omega) hsh hs')
  have HSI := Lib.hid (fun W h => move_any A l c s W h (by omega) hlc hcm hsh hs')
  have HSS := Lib.hid (fun W h => specMove_any A l c s W h (by omega) hsh hs')
  have HRT := Lib.hid (fun W h => roomOf_any A l c W h (by omega) hlc hcm hsh)
  have HTT := Lib.hid (fun W h => totalSize_any A l c W h (by omega) hlc hcm hsh)
  have HET := Lib.hid (fun x W h => endOf_any A l c x W h (by omega) hlc hcm hsh)
  have HRX : Hid (∀ X (t : List Seg) k W, Segs W W.heap.size X t → t.length ≤ 9 → t.length ≤ k → k ≤ 9223372036854775807 → (∀ x ∈ t, x.name.size ≤ 8) → Calls Try.prog 20 #[.slice X t.length k] W fun e w' => e = .returned (.int .i64 (roomB t)) ∧ Below W.heap.size W w') := fun X t k W h h1 h2 h3 h4 => roomOf_any X t k W h (by omega) h2 h3 (short9_of h4)
  have HTX : Hid (∀ X (t : List Seg) k W, Segs W W.heap.size X t → t.length ≤ 9 → t.length ≤ k → k ≤ 9223372036854775807 → (∀ x ∈ t, x.name.size ≤ 8) → Calls Try.prog 24 #[.slice X t.length k] W fun e w' => e = .returned (.int .i64 (totalB t)) ∧ Below W.heap.size W w') := fun X t k W h h1 h2 h3 h4 => totalSize_any X t k W h (by omega) h2 h3 (short9_of h4)
  have HEX : Hid (∀ X (t : List Seg) k x W, Segs W W.heap.size X t → t.length ≤ 9 → t.length ≤ k → k ≤ 9223372036854775807 → (∀ x ∈ t, x.name.size ≤ 8) → Calls Try.prog 22 #[.slice X t.length k, .string x] W fun e w' => e = .returned (.int .i64 (endB t x)) ∧ Below W.heap.size W w') := fun X t k x W h h1 h2 h3 h4 => endOf_any X t k x W h (by omega) h2 h3 (short9_of h4)
  have HNX : Hid (∀ X (t : List Seg) k W, Segs W W.heap.size X t → t.length ≤ 9 → t.length ≤ k → k ≤ 9223372036854775807 → (∀ x ∈ t, x.name.size ≤ 8) → Calls Try.prog 21 #[.slice X t.length k] W fun e w' => e = .returned (.tuple #[.string (namesStr t), .bool (validB t)]) ∧ Below W.heap.size W w') := fun X t k W h h1 h2 h3 h4 => namesOf_any X t k W h (by omega) h2 h3 (short9_of h4)
  have HVX : Hid (∀ X (t : List Seg) k W, Segs W W.heap.size X t → t.length ≤ 9 → t.length ≤ k → k ≤ 9223372036854775807 → (∀ x ∈ t, x.name.size ≤ 8) → Calls Try.prog 23 #[.slice X t.length k] W fun e w' => e = .returned (.bool (validB t)) ∧ Below W.heap.size W w') := fun X t k W h h1 h2 h3 h4 => treeValid_any X t k W h (by omega) h2 h3 (short9_of h4)
  have HSX : Hid (∀ X (t : List Seg) k W, Segs W W.heap.size A l → Segs W W.heap.size X t → t.length ≤ 9 → t.length ≤ k → k ≤ 9223372036854775807 → (∀ x ∈ t, x.name.size ≤ 8) → Calls Try.prog 19 #[.slice A l.length c, .slice X t.length k] W fun e w' => e = .returned (.bool (sameSegs l t)) ∧ Below W.heap.size W w') := fun X t k W h0 h h1 h2 h3 h4 => implSame_any A l c X t k W h0 h (by omega) hlc hcm hsh (by omega) h2 h3 (short9_of h4)
  unfold TreeAns at HPI HPS HSI HSS
  have HSA := Lib.hid (fun h => move9_says (s := s) hnm h)
  have HPA := Lib.hid (fun h => merge9_says (s := s) hnm h)
  have HP0 := Lib.hid (fun h => off9_merge (l := l) (s := s) h)
  have HRL : Hid ((mergeL l s).length ≤ 9 ∧ (moveL l s).length ≤ 9) := by
    refine ⟨?_, ?_⟩
    · cases h : mergeOk l s with
      | false => rw [HP0.out h]; simp
      | true => have := (HPA.out h).len; omega
    · cases h : moveOk l s with
      | false => unfold moveL; rw [h]; simp
      | true => have := (HSA.out h).len; omega
  have hrl := roomB9_bd l
  have HB1 := Lib.hid hb1
  have HW := Lib.hid hs1
  clear hs1 hnm hb1 hsh HD
  obtain ⟨fo, HFO⟩ : ∃ x, Hid (mergeOk l s = x) := ⟨_, rfl⟩
  obtain ⟨fu, HFU⟩ : ∃ x, Hid (moveOk l s = x) := ⟨_, rfl⟩
  obtain ⟨R, HR⟩ : ∃ x, Hid (mergeL l s = x) := ⟨_, rfl⟩
  obtain ⟨T, HT⟩ : ∃ x, Hid (moveL l s = x) := ⟨_, rfl⟩
  rw [HFO.out, HR.out] at HPI HPS
  rw [HFU.out, HT.out] at HSI HSS
  obtain ⟨hR9, hT9⟩ := HRL.out
  rw [HR.out] at hR9
  rw [HT.out] at hT9
  clear HRL
  go_wp2_with fail
  refine Calls.mono (HPI.out w1 HW.out) ?_
  rintro e w2 ⟨v2, rfl, ho2, hb2⟩
  have HB2 : Hid (Below w.heap.size w w2) := HB1.out.trans (hb2.mono HB1.out.size)
  have HW := Lib.hid ((HW.out.below hb2).more hb2.size)
  have O2 := Lib.hid ho2
  clear hb2 HB1 ho2 HPI
  go_wp2_with fail
  refine Calls.mono (HPS.out w2 HW.out) ?_
  rintro e w3 ⟨v3, rfl, ho3, hb3⟩
  have HB3 : Hid (Below w.heap.size w w3) := HB2.out.trans (hb3.mono HB2.out.size)
  have HW := Lib.hid ((HW.out.below hb3).more hb3.size)
  have O2 := Lib.hid (treeBelow O2.out hb3)
  have O3 := Lib.hid ho3
  clear hb3 HB2 ho3 HPS
  go_wp2_with fail
  refine Calls.mono (HSI.out w3 HW.out) ?_
  rintro e w4 ⟨v4, rfl, ho4, hb4⟩
  have HB4 : Hid (Below w.heap.size w w4) := HB3.out.trans (hb4.mono HB3.out.size)
  have HW := Lib.hid ((HW.out.below hb4).more hb4.size)
  have O2 := Lib.hid (treeBelow O2.out hb4)
  have O3 := Lib.hid (treeBelow O3.out hb4)
  have O4 := Lib.hid ho4
  clear hb4 HB3 ho4 HSI
  go_wp2_with fail
  refine Calls.mono (HSS.out w4 HW.out) ?_
  rintro e w5 ⟨v5, rfl, ho5, hb5⟩
  have HB5 : Hid (Below w.heap.size w w5) := HB4.out.trans (hb5.mono HB4.out.size)
  have HW := Lib.hid ((HW.out.below hb5).more hb5.size)
  have O2 := Lib.hid (treeBelow O2.out hb5)
  have O3 := Lib.hid (treeBelow O3.out hb5)
  have O4 := Lib.hid (treeBelow O4.out hb5)
  have O5 := Lib.hid ho5
  obtain ⟨A2v, cap2, rfl, hc2l, hc2m, -⟩ := treeCap O2.out
  obtain ⟨A3v, cap3, rfl, -, -, -⟩ := treeCap O3.out
  obtain ⟨A4v, cap4, rfl, hc4l, hc4m, -⟩ := treeCap O4.out
  obtain ⟨A5v, cap5, rfl, -, -, -⟩ := treeCap O5.out
  clear hb5 HB4 ho5 HSS
  go_wp2_with fail
  refine Calls.mono (soTree_any A2v A3v R cap2 cap3 w5 (treeIs O2.out) (treeIs O3.out) (by omega)) ?_
  rintro e w6 ⟨rfl, hb6⟩
  have HB6 : Hid (Below w.heap.size w w6) := HB5.out.trans (hb6.mono HB5.out.size)
  have HW := Lib.hid ((HW.out.below hb6).more hb6.size)
  have O2 := Lib.hid (treeBelow O2.out hb6)
  have O3 := Lib.hid (treeBelow O3.out hb6)
  have O4 := Lib.hid (treeBelow O4.out hb6)
  have O5 := Lib.hid (treeBelow O5.out hb6)
  clear hb6 HB5
  go_wp2_with fail
  refine Calls.mono (soTree_any A4v A5v T cap4 cap5 w6 (treeIs O4.out) (treeIs O5.out) (by omega)) ?_
  rintro e w7 ⟨rfl, hb7⟩
  have HB7 : Hid (Below w.heap.size w w7) := HB6.out.trans (hb7.mono HB6.out.size)
  have HW := Lib.hid ((HW.out.below hb7).more hb7.size)
  have O2 := Lib.hid (treeBelow O2.out hb7)
  have O3 := Lib.hid (treeBelow O3.out hb7)
  have O4 := Lib.hid (treeBelow O4.out hb7)
  have O5 := Lib.hid (treeBelow O5.out hb7)
  clear hb7 HB6
  clear O3 O5
  have H2 := Lib.hid (treeIs O2.out)
  have H4 := Lib.hid (treeIs O4.out)
  clear O2 O4
  cases fu with
  | false =>
    cases fo with
    | false =>
      obtain rfl : R = [] := HR.out.symm.trans (HP0.out HFO.out)
      go_wp2
      go_ret
      exact ⟨rfl, HB7.out⟩
    | true =>
      obtain ⟨hmv, hR8, hlen, htot, hroom, hnsz, hends⟩ := HPA.out HFO.out
      rw [HR.out] at hmv hR8 hlen htot hroom hnsz hends
      have HR8 := Lib.hid hR8
      have HEN := Lib.hid hends
      have HCE := Lib.hid (fun x W h => HEX.out A2v R cap2 x W h hR9 hc2l hc2m HR8.out)
      have HCN := Lib.hid (fun W h => HNX.out A2v R cap2 W h hR9 hc2l hc2m HR8.out)
      have HCV := Lib.hid (fun W h => HVX.out A2v R cap2 W h hR9 hc2l hc2m HR8.out)
      have HCT := Lib.hid (fun W h => HTX.out A2v R cap2 W h hR9 hc2l hc2m HR8.out)
      have HCR := Lib.hid (fun W h => HRX.out A2v R cap2 W h hR9 hc2l hc2m HR8.out)
      rw [htot] at HCT
      rw [hmv] at HCV HCN
      clear hends hR8 hmv htot HPA HSA HP0 HRX HTX HEX HNX HVX HSX HR HT HFO HFU HR8
      generalize namesStr R = nst at *
      generalize totalB l = tl at *
      generalize roomB l = rl at *
      generalize roomB R = rR at *
      go_wp2_with fail
      refine Calls.mono (HCN.out w7 H2.out) ?_
      rintro e w8 ⟨rfl, hb8⟩
      have HB8 : Hid (Below w.heap.size w w8) := HB7.out.trans (hb8.mono HB7.out.size)
      have HW := Lib.hid ((HW.out.below hb8).more hb8.size)
      have H2 := Lib.hid ((H2.out.below hb8).more hb8.size)
      have H4 := Lib.hid ((H4.out.below hb8).more hb8.size)
      clear hb8 HB7 HCN
      go_wp2
      go_loopw [94] (fun i wr => ∃ k : Nat, k ≤ R.length ∧ i = .int .i64 k ∧ Hid (Segs wr wr.heap.size A l) ∧ Hid (Segs wr wr.heap.size A2v R) ∧ Hid (Below w.heap.size w wr))
        (fun i _ => R.length - (intOf i).toNat)
      case atStart => exact ⟨0, Nat.zero_le _, rfl, HW, H2, HB8⟩
      case round =>
        obtain ⟨k, hk, rfl, HSr, HMr, HBr⟩ := hrel
        clear HW H2 H4 HB8
        by_cases hlt : k < R.length
        · have hlt' : (k : Int) < (nst.size : Int) := by omega
          have hlt'' : (k : Int) + 1 ≤ (R.length : Int) := by omega
          have hlt3 : (k : Int) < (R.length : Int) := by omega
          have hkk : (k : Int) ≤ (k : Int) + 1 := by omega
          have hk0 : (0 : Int) ≤ (k : Int) := Int.natCast_nonneg _
          have hk1 : (0 : Int) ≤ (k : Int) + 1 := by omega
          have hq : ((k : Int) + 1).toNat = k + 1 := by omega
          have hwk : IntKind.i64.wrap ((k : Int) + 1) = (k : Int) + 1 := IntWalk.i64_in _ (by omega)
          have hle := HEN.out k hlt
          have HC1 := Lib.hid (fun W h => HCE.out (nst.extract k (k + 1)) W h)
          have HC2 := Lib.hid (fun W h => HET.out (nst.extract k (k + 1)) W h)
          generalize endB R (nst.extract k (k + 1)) = e1 at *
          generalize endB l (nst.extract k (k + 1)) = e2 at *
          clear HEN HCE HET
          go_wp2_with fail
          refine wp_region_held_drew (S := (fun W => Segs W W.heap.size A l ∧ Segs W W.heap.size A2v R ∧ Below w.heap.size w W)) (by kernel_rfl) ?_ (fun hHeld => ?_)
          · exact ⟨(HSr.out.below (Below.refl wr.heap.size wr).drew).more (Below.refl wr.heap.size wr).drew.size, (HMr.out.below (Below.refl wr.heap.size wr).drew).more (Below.refl wr.heap.size wr).drew.size, HBr.out.drew⟩
          refine take_at (i := 0) (d := 97) (v := .slice A2v R.length cap2) rfl rfl (by kernel_rfl) (by kernel_rfl) (by kernel_rfl) (fun _ _ _ h => h) (by kernel_rfl) (by (intro w hSw; (try dsimp only at hSw); go_simp)) (by assumption) ?_
          simp only [List.setIfInBounds_toArray, List.set_cons_succ, List.set_cons_zero]
          refine take_at (i := 1) (d := 98) (v := .string nst) rfl rfl (by kernel_rfl) (by kernel_rfl) (by kernel_rfl) (fun _ _ _ h => h) (by kernel_rfl) (by (intro w hSw; (try dsimp only at hSw); go_simp)) (by assumption) ?_
          simp only [List.setIfInBounds_toArray, List.set_cons_succ, List.set_cons_zero]
          refine take_at (i := 2) (d := 99) (v := .int .i64 k) rfl rfl (by kernel_rfl) (by kernel_rfl) (by kernel_rfl) (fun _ _ _ h => h) (by kernel_rfl) (by (intro w hSw; (try dsimp only at hSw); go_simp)) (by assumption) ?_
          simp only [List.setIfInBounds_toArray, List.set_cons_succ, List.set_cons_zero]
          refine take_at (i := 3) (d := 100) (v := .int .i64 k) rfl rfl (by kernel_rfl) (by kernel_rfl) (by kernel_rfl) (fun _ _ _ h => h) (by kernel_rfl) (by (intro w hSw; (try dsimp only at hSw); go_simp)) (by assumption) ?_
          simp only [List.setIfInBounds_toArray, List.set_cons_succ, List.set_cons_zero]
          refine take_at (i := 4) (d := 101) (v := .int .i64 ((k : Int) + 1)) rfl rfl (by kernel_rfl) (by kernel_rfl) (by kernel_rfl) (fun _ _ _ h => h) (by kernel_rfl) (by (intro w hSw; (try dsimp only at hSw); go_simp)) (by assumption) ?_
          simp only [List.setIfInBounds_toArray, List.set_cons_succ, List.set_cons_zero]
          refine take_at (i := 5) (d := 102) (v := .string (nst.extract k (k + 1))) rfl rfl (by kernel_rfl) (by kernel_rfl) (by kernel_rfl) (fun _ _ _ h => h) (by kernel_rfl) (by (intro w hSw; (try dsimp only at hSw); go_simp)) (by assumption) ?_
          simp only [List.setIfInBounds_toArray, List.set_cons_succ, List.set_cons_zero]
          refine take_at (i := 7) (d := 104) (v := .slice A l.length c) rfl rfl (by kernel_rfl) (by kernel_rfl) (by kernel_rfl) (fun _ _ _ h => h) (by kernel_rfl) (by (intro w hSw; (try dsimp only at hSw); go_simp)) (by assumption) ?_
          simp only [List.setIfInBounds_toArray, List.set_cons_succ, List.set_cons_zero]
          refine take_at (i := 8) (d := 105) (v := .string nst) rfl rfl (by kernel_rfl) (by kernel_rfl) (by kernel_rfl) (fun _ _ _ h => h) (by kernel_rfl) (by (intro w hSw; (try dsimp only at hSw); go_simp)) (by assumption) ?_
          simp only [List.setIfInBounds_toArray, List.set_cons_succ, List.set_cons_zero]
          refine take_at (i := 9) (d := 106) (v := .int .i64 k) rfl rfl (by kernel_rfl) (by kernel_rfl) (by kernel_rfl) (fun _ _ _ h => h) (by kernel_rfl) (by (intro w hSw; (try dsimp only at hSw); go_simp)) (by assumption) ?_
          simp only [List.setIfInBounds_toArray, List.set_cons_succ, List.set_cons_zero]
          refine take_at (i := 10) (d := 107) (v := .int .i64 k) rfl rfl (by kernel_rfl) (by kernel_rfl) (by kernel_rfl) (fun _ _ _ h => h) (by kernel_rfl) (by (intro w hSw; (try dsimp only at hSw); go_simp)) (by assumption) ?_
          simp only [List.setIfInBounds_toArray, List.set_cons_succ, List.set_cons_zero]
          refine take_at (i := 11) (d := 108) (v := .int .i64 ((k : Int) + 1)) rfl rfl (by kernel_rfl) (by kernel_rfl) (by kernel_rfl) (fun _ _ _ h => h) (by kernel_rfl) (by (intro w hSw; (try dsimp only at hSw); go_simp)) (by assumption) ?_
          simp only [List.setIfInBounds_toArray, List.set_cons_succ, List.set_cons_zero]
          refine take_at (i := 12) (d := 109) (v := .string (nst.extract k (k + 1))) rfl rfl (by kernel_rfl) (by kernel_rfl) (by kernel_rfl) (fun _ _ _ h => h) (by kernel_rfl) (by (intro w hSw; (try dsimp only at hSw); go_simp)) (by assumption) ?_
          simp only [List.setIfInBounds_toArray, List.set_cons_succ, List.set_cons_zero]
          refine wpAnyH_ready (rs := [6]) (by kernel_rfl) (by simp) ?_
          refine AllReadyH.cons rfl (fun K hK => ?_) AllReadyH.nil
          go_simp
          have hHeld0 : Segs wr.drew wr.drew.heap.size A l ∧ Segs wr.drew wr.drew.heap.size A2v R ∧ Below w.heap.size w wr.drew := by assumption
          refine Calls.mono (HC1.out _ hHeld0.2.1) ?_
          rintro e wa ⟨rfl, hba⟩
          have hsa : Segs wa wa.heap.size A l ∧ Segs wa wa.heap.size A2v R ∧ Below w.heap.size w wa := ⟨(hHeld0.1.below hba).more hba.size, (hHeld0.2.1.below hba).more hba.size, hHeld0.2.2.trans (hba.mono hHeld0.2.2.size)⟩
          refine hK.out _ _ hsa (fun hHeld => ?_)
          clear hK K hHeld
          refine wpAnyH_ready (rs := [13]) (by kernel_rfl) (by simp) ?_
          refine AllReadyH.cons rfl (fun K hK => ?_) AllReadyH.nil
          go_simp
          refine Calls.mono (HC2.out _ hsa.1) ?_
          rintro e wb ⟨rfl, hbb⟩
          have hsb : Segs wb wb.heap.size A l ∧ Segs wb wb.heap.size A2v R ∧ Below w.heap.size w wb := ⟨(hsa.1.below hbb).more hbb.size, (hsa.2.1.below hbb).more hbb.size, hsa.2.2.trans (hbb.mono hsa.2.2.size)⟩
          refine hK.out _ _ hsb (fun hHeld => ?_)
          clear hK K
          refine take_at (i := 14) (d := 111) (v := .bool false) rfl rfl (by kernel_rfl) (by kernel_rfl) (by kernel_rfl) (fun _ _ _ h => h) (by kernel_rfl) (by (intro w hSw; (try dsimp only at hSw); go_simp)) (by assumption) ?_
          simp only [List.setIfInBounds_toArray, List.set_cons_succ, List.set_cons_zero]
          refine wpAnyH_done (by kernel_rfl) ?_ _
          clear hHeld hHeld0
          obtain ⟨hz1, hz2, hz3⟩ := hsb
          have HZ1 := Lib.hid hz1
          have HZ2 := Lib.hid hz2
          have HZ3 := Lib.hid hz3
          clear hz1 hz2 hz3 hsa hba hbb HC1 HC2 HSr HMr HBr
          go_wp2
          go_roundw
          case rel => exact ⟨k + 1, by omega, by go_num, HZ1, HZ2, HZ3⟩
          case measure => simp [intOf]; omega
        · obtain rfl : k = R.length := by omega
          have hnl : ¬ ((R.length : Nat) : Int) < (nst.size : Int) := by omega
          have hw1 : IntKind.i64.wrap ((l.length : Int) - 1) = (l.length : Int) - 1 := IntWalk.i64_in _ (by omega)
          have hlen' : (l.length : Int) - 1 = (R.length : Int) := by omega
          clear HEN HCE HET hlen
          have HW := HSr
          have H2 := HMr
          have HBq := HBr
          clear HSr HMr HBr
          go_wp2_with fail
          refine Calls.mono (HCV.out wr H2.out) ?_
          rintro e w50 ⟨rfl, hb50⟩
          have HB50 : Hid (Below w.heap.size w w50) := HBq.out.trans (hb50.mono HBq.out.size)
          have HW := Lib.hid ((HW.out.below hb50).more hb50.size)
          have H2 := Lib.hid ((H2.out.below hb50).more hb50.size)
          clear hb50 HBq
          go_wp2_with fail
          refine Calls.mono (HCT.out w50 H2.out) ?_
          rintro e w51 ⟨rfl, hb51⟩
          have HB51 : Hid (Below w.heap.size w w51) := HB50.out.trans (hb51.mono HB50.out.size)
          have HW := Lib.hid ((HW.out.below hb51).more hb51.size)
          have H2 := Lib.hid ((H2.out.below hb51).more hb51.size)
          clear hb51 HB50
          go_wp2_with fail
          refine Calls.mono (HTT.out w51 HW.out) ?_
          rintro e w52 ⟨rfl, hb52⟩
          have HB52 : Hid (Below w.heap.size w w52) := HB51.out.trans (hb52.mono HB51.out.size)
          have HW := Lib.hid ((HW.out.below hb52).more hb52.size)
          have H2 := Lib.hid ((H2.out.below hb52).more hb52.size)
          clear hb52 HB51
          go_wp2_with fail
          refine Calls.mono (HCR.out w52 H2.out) ?_
          rintro e w53 ⟨rfl, hb53⟩
          have HB53 : Hid (Below w.heap.size w w53) := HB52.out.trans (hb53.mono HB52.out.size)
          have HW := Lib.hid ((HW.out.below hb53).more hb53.size)
          have H2 := Lib.hid ((H2.out.below hb53).more hb53.size)
          clear hb53 HB52
          go_wp2_with fail
          refine Calls.mono (HRT.out w53 HW.out) ?_
          rintro e w54 ⟨rfl, hb54⟩
          have HB54 : Hid (Below w.heap.size w w54) := HB53.out.trans (hb54.mono HB53.out.size)
          have HW := Lib.hid ((HW.out.below hb54).more hb54.size)
          have H2 := Lib.hid ((H2.out.below hb54).more hb54.size)
          clear hb54 HB53
          go_wp2
          go_ret
          exact ⟨rfl, HB54.out⟩
  | true =>
    obtain ⟨hT8, -, hrm, hsame⟩ := HSA.out HFU.out
    rw [HT.out] at hT8 hrm hsame
    have HT8 := Lib.hid hT8
    have HCS := Lib.hid (fun W h0 h => HSX.out A4v T cap4 W h0 h hT9 hc4l hc4m HT8.out)
    have HCU := Lib.hid (fun W h => HRX.out A4v T cap4 W h hT9 hc4l hc4m HT8.out)
    rw [hsame] at HCS
    generalize hrT : roomB T = rT at *
    obtain ⟨rl0, HRL0⟩ : ∃ x, Hid (roomB l = x) := ⟨_, rfl⟩
    have hrm0 := hrm
    rw [HRL0.out] at hrm0
    have HRT0 := HRT
    rw [HRL0.out] at HRT0
    clear hT8 hsame hrm
    go_wp2_with fail
    refine Calls.mono (HCS.out w7 HW.out H4.out) ?_
    rintro e w8 ⟨rfl, hb8⟩
    have HB8 : Hid (Below w.heap.size w w8) := HB7.out.trans (hb8.mono HB7.out.size)
    have HW := Lib.hid ((HW.out.below hb8).more hb8.size)
    have H2 := Lib.hid ((H2.out.below hb8).more hb8.size)
    have H4 := Lib.hid ((H4.out.below hb8).more hb8.size)
    clear hb8 HB7 HCS
    go_wp2_with fail
    refine Calls.mono (HCU.out w8 H4.out) ?_
    rintro e w9 ⟨rfl, hb9⟩
    have HB9 : Hid (Below w.heap.size w w9) := HB8.out.trans (hb9.mono HB8.out.size)
    have HW := Lib.hid ((HW.out.below hb9).more hb9.size)
    have H2 := Lib.hid ((H2.out.below hb9).more hb9.size)
    have H4 := Lib.hid ((H4.out.below hb9).more hb9.size)
    clear hb9 HB8 HCU
    go_wp2_with fail
    refine Calls.mono (HRT0.out w9 HW.out) ?_
    rintro e w10 ⟨rfl, hb10⟩
    have HB10 : Hid (Below w.heap.size w w10) := HB9.out.trans (hb10.mono HB9.out.size)
    have HW := Lib.hid ((HW.out.below hb10).more hb10.size)
    have H2 := Lib.hid ((H2.out.below hb10).more hb10.size)
    have H4 := Lib.hid ((H4.out.below hb10).more hb10.size)
    clear hb10 HB9 HRT0
    clear hrT
    cases fo with
    | false =>
      obtain rfl : R = [] := HR.out.symm.trans (HP0.out HFO.out)
      go_wp2
      go_ret
      exact ⟨rfl, HB10.out⟩
    | true =>
      obtain ⟨hmv, hR8, hlen, htot, hroom, hnsz, hends⟩ := HPA.out HFO.out
      rw [HR.out] at hmv hR8 hlen htot hroom hnsz hends
      have HR8 := Lib.hid hR8
      have HEN := Lib.hid hends
      have HCE := Lib.hid (fun x W h => HEX.out A2v R cap2 x W h hR9 hc2l hc2m HR8.out)
      have HCN := Lib.hid (fun W h => HNX.out A2v R cap2 W h hR9 hc2l hc2m HR8.out)
      have HCV := Lib.hid (fun W h => HVX.out A2v R cap2 W h hR9 hc2l hc2m HR8.out)
      have HCT := Lib.hid (fun W h => HTX.out A2v R cap2 W h hR9 hc2l hc2m HR8.out)
      have HCR := Lib.hid (fun W h => HRX.out A2v R cap2 W h hR9 hc2l hc2m HR8.out)
      rw [htot] at HCT
      rw [hmv] at HCV HCN
      clear hends hR8 hmv htot HPA HSA HP0 HRX HTX HEX HNX HVX HSX HR HT HFO HFU HR8
      generalize namesStr R = nst at *
      generalize totalB l = tl at *
      generalize roomB l = rl at *
      generalize roomB R = rR at *
      go_wp2_with fail
      refine Calls.mono (HCN.out w10 H2.out) ?_
      rintro e w11 ⟨rfl, hb11⟩
      have HB11 : Hid (Below w.heap.size w w11) := HB10.out.trans (hb11.mono HB10.out.size)
      have HW := Lib.hid ((HW.out.below hb11).more hb11.size)
      have H2 := Lib.hid ((H2.out.below hb11).more hb11.size)
      have H4 := Lib.hid ((H4.out.below hb11).more hb11.size)
      clear hb11 HB10 HCN
      go_wp2
      go_loopw [94] (fun i wr => ∃ k : Nat, k ≤ R.length ∧ i = .int .i64 k ∧ Hid (Segs wr wr.heap.size A l) ∧ Hid (Segs wr wr.heap.size A2v R) ∧ Hid (Below w.heap.size w wr))
        (fun i _ => R.length - (intOf i).toNat)
      case atStart => exact ⟨0, Nat.zero_le _, rfl, HW, H2, HB11⟩
      case round =>
        obtain ⟨k, hk, rfl, HSr, HMr, HBr⟩ := hrel
        clear HW H2 H4 HB11
        by_cases hlt : k < R.length
        · have hlt' : (k : Int) < (nst.size : Int) := by omega
          have hlt'' : (k : Int) + 1 ≤ (R.length : Int) := by omega
          have hlt3 : (k : Int) < (R.length : Int) := by omega
          have hkk : (k : Int) ≤ (k : Int) + 1 := by omega
          have hk0 : (0 : Int) ≤ (k : Int) := Int.natCast_nonneg _
          have hk1 : (0 : Int) ≤ (k : Int) + 1 := by omega
          have hq : ((k : Int) + 1).toNat = k + 1 := by omega
          have hwk : IntKind.i64.wrap ((k : Int) + 1) = (k : Int) + 1 := IntWalk.i64_in _ (by omega)
          have hle := HEN.out k hlt
          have HC1 := Lib.hid (fun W h => HCE.out (nst.extract k (k + 1)) W h)
          have HC2 := Lib.hid (fun W h => HET.out (nst.extract k (k + 1)) W h)
          generalize endB R (nst.extract k (k + 1)) = e1 at *
          generalize endB l (nst.extract k (k + 1)) = e2 at *
          clear HEN HCE HET
          go_wp2_with fail
          refine wp_region_held_drew (S := (fun W => Segs W W.heap.size A l ∧ Segs W W.heap.size A2v R ∧ Below w.heap.size w W)) (by kernel_rfl) ?_ (fun hHeld => ?_)
          · exact ⟨(HSr.out.below (Below.refl wr.heap.size wr).drew).more (Below.refl wr.heap.size wr).drew.size, (HMr.out.below (Below.refl wr.heap.size wr).drew).more (Below.refl wr.heap.size wr).drew.size, HBr.out.drew⟩
          refine take_at (i := 0) (d := 97) (v := .slice A2v R.length cap2) rfl rfl (by kernel_rfl) (by kernel_rfl) (by kernel_rfl) (fun _ _ _ h => h) (by kernel_rfl) (by (intro w hSw; (try dsimp only at hSw); go_simp)) (by assumption) ?_
          simp only [List.setIfInBounds_toArray, List.set_cons_succ, List.set_cons_zero]
          refine take_at (i := 1) (d := 98) (v := .string nst) rfl rfl (by kernel_rfl) (by kernel_rfl) (by kernel_rfl) (fun _ _ _ h => h) (by kernel_rfl) (by (intro w hSw; (try dsimp only at hSw); go_simp)) (by assumption) ?_
          simp only [List.setIfInBounds_toArray, List.set_cons_succ, List.set_cons_zero]
          refine take_at (i := 2) (d := 99) (v := .int .i64 k) rfl rfl (by kernel_rfl) (by kernel_rfl) (by kernel_rfl) (fun _ _ _ h => h) (by kernel_rfl) (by (intro w hSw; (try dsimp only at hSw); go_simp)) (by assumption) ?_
          simp only [List.setIfInBounds_toArray, List.set_cons_succ, List.set_cons_zero]
          refine take_at (i := 3) (d := 100) (v := .int .i64 k) rfl rfl (by kernel_rfl) (by kernel_rfl) (by kernel_rfl) (fun _ _ _ h => h) (by kernel_rfl) (by (intro w hSw; (try dsimp only at hSw); go_simp)) (by assumption) ?_
          simp only [List.setIfInBounds_toArray, List.set_cons_succ, List.set_cons_zero]
          refine take_at (i := 4) (d := 101) (v := .int .i64 ((k : Int) + 1)) rfl rfl (by kernel_rfl) (by kernel_rfl) (by kernel_rfl) (fun _ _ _ h => h) (by kernel_rfl) (by (intro w hSw; (try dsimp only at hSw); go_simp)) (by assumption) ?_
          simp only [List.setIfInBounds_toArray, List.set_cons_succ, List.set_cons_zero]
          refine take_at (i := 5) (d := 102) (v := .string (nst.extract k (k + 1))) rfl rfl (by kernel_rfl) (by kernel_rfl) (by kernel_rfl) (fun _ _ _ h => h) (by kernel_rfl) (by (intro w hSw; (try dsimp only at hSw); go_simp)) (by assumption) ?_
          simp only [List.setIfInBounds_toArray, List.set_cons_succ, List.set_cons_zero]
          refine take_at (i := 7) (d := 104) (v := .slice A l.length c) rfl rfl (by kernel_rfl) (by kernel_rfl) (by kernel_rfl) (fun _ _ _ h => h) (by kernel_rfl) (by (intro w hSw; (try dsimp only at hSw); go_simp)) (by assumption) ?_
          simp only [List.setIfInBounds_toArray, List.set_cons_succ, List.set_cons_zero]
          refine take_at (i := 8) (d := 105) (v := .string nst) rfl rfl (by kernel_rfl) (by kernel_rfl) (by kernel_rfl) (fun _ _ _ h => h) (by kernel_rfl) (by (intro w hSw; (try dsimp only at hSw); go_simp)) (by assumption) ?_
          simp only [List.setIfInBounds_toArray, List.set_cons_succ, List.set_cons_zero]
          refine take_at (i := 9) (d := 106) (v := .int .i64 k) rfl rfl (by kernel_rfl) (by kernel_rfl) (by kernel_rfl) (fun _ _ _ h => h) (by kernel_rfl) (by (intro w hSw; (try dsimp only at hSw); go_simp)) (by assumption) ?_
          simp only [List.setIfInBounds_toArray, List.set_cons_succ, List.set_cons_zero]
          refine take_at (i := 10) (d := 107) (v := .int .i64 k) rfl rfl (by kernel_rfl) (by kernel_rfl) (by kernel_rfl) (fun _ _ _ h => h) (by kernel_rfl) (by (intro w hSw; (try dsimp only at hSw); go_simp)) (by assumption) ?_
          simp only [List.setIfInBounds_toArray, List.set_cons_succ, List.set_cons_zero]
          refine take_at (i := 11) (d := 108) (v := .int .i64 ((k : Int) + 1)) rfl rfl (by kernel_rfl) (by kernel_rfl) (by kernel_rfl) (fun _ _ _ h => h) (by kernel_rfl) (by (intro w hSw; (try dsimp only at hSw); go_simp)) (by assumption) ?_
          simp only [List.setIfInBounds_toArray, List.set_cons_succ, List.set_cons_zero]
          refine take_at (i := 12) (d := 109) (v := .string (nst.extract k (k + 1))) rfl rfl (by kernel_rfl) (by kernel_rfl) (by kernel_rfl) (fun _ _ _ h => h) (by kernel_rfl) (by (intro w hSw; (try dsimp only at hSw); go_simp)) (by assumption) ?_
          simp only [List.setIfInBounds_toArray, List.set_cons_succ, List.set_cons_zero]
          refine wpAnyH_ready (rs := [6]) (by kernel_rfl) (by simp) ?_
          refine AllReadyH.cons rfl (fun K hK => ?_) AllReadyH.nil
          go_simp
          have hHeld0 : Segs wr.drew wr.drew.heap.size A l ∧ Segs wr.drew wr.drew.heap.size A2v R ∧ Below w.heap.size w wr.drew := by assumption
          refine Calls.mono (HC1.out _ hHeld0.2.1) ?_
          rintro e wa ⟨rfl, hba⟩
          have hsa : Segs wa wa.heap.size A l ∧ Segs wa wa.heap.size A2v R ∧ Below w.heap.size w wa := ⟨(hHeld0.1.below hba).more hba.size, (hHeld0.2.1.below hba).more hba.size, hHeld0.2.2.trans (hba.mono hHeld0.2.2.size)⟩
          refine hK.out _ _ hsa (fun hHeld => ?_)
          clear hK K hHeld
          refine wpAnyH_ready (rs := [13]) (by kernel_rfl) (by simp) ?_
          refine AllReadyH.cons rfl (fun K hK => ?_) AllReadyH.nil
          go_simp
          refine Calls.mono (HC2.out _ hsa.1) ?_
          rintro e wb ⟨rfl, hbb⟩
          have hsb : Segs wb wb.heap.size A l ∧ Segs wb wb.heap.size A2v R ∧ Below w.heap.size w wb := ⟨(hsa.1.below hbb).more hbb.size, (hsa.2.1.below hbb).more hbb.size, hsa.2.2.trans (hbb.mono hsa.2.2.size)⟩
          refine hK.out _ _ hsb (fun hHeld => ?_)
          clear hK K
          refine take_at (i := 14) (d := 111) (v := .bool false) rfl rfl (by kernel_rfl) (by kernel_rfl) (by kernel_rfl) (fun _ _ _ h => h) (by kernel_rfl) (by (intro w hSw; (try dsimp only at hSw); go_simp)) (by assumption) ?_
          simp only [List.setIfInBounds_toArray, List.set_cons_succ, List.set_cons_zero]
          refine wpAnyH_done (by kernel_rfl) ?_ _
          clear hHeld hHeld0
          obtain ⟨hz1, hz2, hz3⟩ := hsb
          have HZ1 := Lib.hid hz1
          have HZ2 := Lib.hid hz2
          have HZ3 := Lib.hid hz3
          clear hz1 hz2 hz3 hsa hba hbb HC1 HC2 HSr HMr HBr
          go_wp2
          go_roundw
          case rel => exact ⟨k + 1, by omega, by go_num, HZ1, HZ2, HZ3⟩
          case measure => simp [intOf]; omega
        · obtain rfl : k = R.length := by omega
          have hnl : ¬ ((R.length : Nat) : Int) < (nst.size : Int) := by omega
          have hw1 : IntKind.i64.wrap ((l.length : Int) - 1) = (l.length : Int) - 1 := IntWalk.i64_in _ (by omega)
          have hlen' : (l.length : Int) - 1 = (R.length : Int) := by omega
          clear HEN HCE HET hlen
          have HW := HSr
          have H2 := HMr
          have HBq := HBr
          clear HSr HMr HBr
          go_wp2_with fail
          refine Calls.mono (HCV.out wr H2.out) ?_
          rintro e w50 ⟨rfl, hb50⟩
          have HB50 : Hid (Below w.heap.size w w50) := HBq.out.trans (hb50.mono HBq.out.size)
          have HW := Lib.hid ((HW.out.below hb50).more hb50.size)
          have H2 := Lib.hid ((H2.out.below hb50).more hb50.size)
          clear hb50 HBq
          go_wp2_with fail
          refine Calls.mono (HCT.out w50 H2.out) ?_
          rintro e w51 ⟨rfl, hb51⟩
          have HB51 : Hid (Below w.heap.size w w51) := HB50.out.trans (hb51.mono HB50.out.size)
          have HW := Lib.hid ((HW.out.below hb51).more hb51.size)
          have H2 := Lib.hid ((H2.out.below hb51).more hb51.size)
          clear hb51 HB50
          go_wp2_with fail
          refine Calls.mono (HTT.out w51 HW.out) ?_
          rintro e w52 ⟨rfl, hb52⟩
          have HB52 : Hid (Below w.heap.size w w52) := HB51.out.trans (hb52.mono HB51.out.size)
          have HW := Lib.hid ((HW.out.below hb52).more hb52.size)
          have H2 := Lib.hid ((H2.out.below hb52).more hb52.size)
          clear hb52 HB51
          go_wp2_with fail
          refine Calls.mono (HCR.out w52 H2.out) ?_
          rintro e w53 ⟨rfl, hb53⟩
          have HB53 : Hid (Below w.heap.size w w53) := HB52.out.trans (hb53.mono HB52.out.size)
          have HW := Lib.hid ((HW.out.below hb53).more hb53.size)
          have H2 := Lib.hid ((H2.out.below hb53).more hb53.size)
          clear hb53 HB52
          go_wp2_with fail
          refine Calls.mono (HRT.out w53 HW.out) ?_
          rintro e w54 ⟨rfl, hb54⟩
          have HB54 : Hid (Below w.heap.size w w54) := HB53.out.trans (hb54.mono HB53.out.size)
          have HW := Lib.hid ((HW.out.below hb54).more hb54.size)
          have H2 := Lib.hid ((H2.out.below hb54).more hb54.size)
          clear hb54 HB53
          go_wp2
          go_ret
          exact ⟨rfl, HB54.out⟩

end Go.Proofs.Ytadichddgpojpaa
