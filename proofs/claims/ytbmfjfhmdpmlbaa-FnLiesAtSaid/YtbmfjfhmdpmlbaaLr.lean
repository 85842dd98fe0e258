/- The law FnLiesAt: its walk. -/
import Derived.Test.YtbmfjfhmdpmlbaaLq
import Derived.Test.YtbmfjfhmdpmlbaaPe
namespace Go.Proofs.Ytbmfjfhmdpmlbaa
open Go.RowKit

set_option maxRecDepth 100000 in
set_option maxHeartbeats 4000000 in
theorem liesLaw_any (hgood : GoodSaid) (A0 : Option Addr) (n c0 : Nat) (A2 : Option Addr) (n2 c2 : Nat) (w : World) (hn : n ≤ c0) (hm : n ≤ maxLen) (hx : ∀ b, w.heap.size ≤ b → Bytes w b A0 n) (hn2 : n2 ≤ c2) (hm2 : n2 ≤ maxLen) (hx2 : ∀ b, w.heap.size ≤ b → Bytes w b A2 n2) :
    Calls Try.prog 6 #[.slice A0 n c0, .slice A2 n2 c2] w fun e w' => e = .returned (.bool true) ∧ Below w.heap.size w w' := by
  unfold maxLen at hm hm2
  by_cases hbig : 1048576 < n
  · clear hx hx2 hgood
    go_enter Try.func6, Try.ntmps6
    go_wp2
    go_ret
    exact ⟨rfl, Below.refl _ _⟩
  by_cases hbig2 : 1048576 < n2
  · clear hx hx2 hgood
    go_enter Try.func6, Try.ntmps6
    go_wp2
    go_ret
    exact ⟨rfl, Below.refl _ _⟩
  have HD := Lib.hid (drawLiesAt_plain hgood A0 n c0 w hn hx)
  have HD2 := Lib.hid (fun w' (hb : Below w.heap.size w w') => drawAddressOf_plain hgood A2 n2 c2 w' hn2 (bytes_later hx2 hb))
  clear hx hx2 hgood
  go_enter Try.func6, Try.ntmps6
  go_wp2_with fail
  refine Calls.mono HD.out ?_
  rintro e w1 ⟨A, l, c, a, rfl, ⟨hS, ⟨hl9, hlc, hcm⟩, hsh⟩, ⟨ha1, ha2⟩, hb1⟩
  have hl : l.length ≤ 1048576 := by omega
  have HSH := Lib.hid (fun s hs => Nat.le_trans (hsh s hs) (by decide) : Short l)
  have HS1 : Hid (Segs w1 w1.heap.size A l) := hS
  have HB1 : Hid (Below w.heap.size w w1) := hb1
  have C1 : Hid (Gives 41 A l #[.slice A l.length c, .int .i64 a] (.tuple #[.string (overStr l a), .bool (overOk l a)])) := fun w h => liesAt_any A l c a w h hl hlc hcm HSH.out
  have C2 : Hid (Gives 44 A l #[.slice A l.length c, .int .i64 a] (.tuple #[.string (overStr l a), .bool (overOk l a)])) := fun w h => specLies_any A l c a w h hl HSH.out
  have C3 : Hid (Gives 48 A l #[.slice A l.length c] (.int .i64 (roomB l))) := fun w h => roomOf_any A l c w h hl hlc hcm HSH.out
  have C4 : Hid (Gives 23 A l #[.slice A l.length c] (.tuple #[.string (namesStr l), .bool (validB l)])) := fun w h => namesOf_any A l c w h hl hlc hcm HSH.out
  have CA : Hid (∀ s, Gives 39 A l #[.slice A l.length c, .string s] (.int .i64 (addrB l s))) := fun s w h => addressOf_any A l c s w h hl hlc hcm HSH.out
  have CE : Hid (∀ s, Gives 40 A l #[.slice A l.length c, .string s] (.int .i64 (endB l s))) := fun s w h => endOf_any A l c s w h hl hlc hcm HSH.out
  clear hS hb1 HD hsh
  cases hok : overOk l a with
  | false =>
    have e1 := overStr_no hok
    have hr : a < 0 ∨ roomB l ≤ a := by
      by_cases hv : validB l = true
      · unfold overOk at hok
        rw [hv] at hok
        simp at hok
        have hr : roomB l = roomTo l l.length := if_pos hv
        rw [hr]
        by_cases h0 : a < 0
        · exact .inl h0
        · exact .inr (hok (by omega))
      · have hr : roomB l = -1 := if_neg hv
        rw [hr]
        exact .inr (by omega)
    rw [e1, hok] at C1 C2
    clear C4 CA CE e1 hok
    generalize roomB l = rb at *
    go_wp2_with fail
    refine (C1.out _ HS1.out).mono ?_
    rintro e w2 ⟨rfl, hb⟩
    have HS2 : Hid (Segs w2 w2.heap.size A l) := (HS1.out.below hb).more hb.size
    have HB2 : Hid (Below w.heap.size w w2) := HB1.out.trans (hb.mono HB1.out.size)
    clear hb HS1 HB1
    go_wp2_with fail
    refine (C2.out _ HS2.out).mono ?_
    rintro e w3 ⟨rfl, hb⟩
    have HS3 : Hid (Segs w3 w3.heap.size A l) := (HS2.out.below hb).more hb.size
    have HB3 : Hid (Below w.heap.size w w3) := HB2.out.trans (hb.mono HB2.out.size)
    clear hb HS2 HB2
    go_wp2_with fail
    refine Calls.mono (HD2.out _ HB3.out) ?_
    rintro e w4 ⟨A', l', c', x', rfl, ⟨hS', ⟨hl9', hlc', hcm'⟩, hsh'⟩, hx', hb⟩
    have hl' : l'.length ≤ 1048576 := by omega
    have HSH' := Lib.hid (fun s hs => Nat.le_trans (hsh' s hs) (by decide) : Short l')
    have HS4 : Hid (Segs w4 w4.heap.size A l) := (HS3.out.below hb).more hb.size
    have HT4 : Hid (Segs w4 w4.heap.size A' l') := hS'
    have HB4 : Hid (Below w.heap.size w w4) := HB3.out.trans (hb.mono HB3.out.size)
    have D1 : Hid (Gives 39 A' l' #[.slice A' l'.length c', .string x'] (.int .i64 (addrB l' x'))) := fun w h => addressOf_any A' l' c' x' w h hl' hlc' hcm' HSH'.out
    have D2 : Hid (Gives 46 A' l' #[.slice A' l'.length c', .string x'] (.int .i64 (addrB l' x'))) := fun w h => specAddress_any A' l' c' x' w h hl' HSH'.out
    have D3 : Hid (Gives 40 A' l' #[.slice A' l'.length c', .string x'] (.int .i64 (endB l' x'))) := fun w h => endOf_any A' l' c' x' w h hl' hlc' hcm' HSH'.out
    have D4 : Hid (Gives 47 A' l' #[.slice A' l'.length c', .string x'] (.int .i64 (endB l' x'))) := fun w h => specEnd_any A' l' c' x' w h hl' HSH'.out
    clear hS' hb hsh' hx' HD2 HS3 HB3
    generalize addrB l' x' = ad' at *
    generalize endB l' x' = en' at *
    go_wp2_with fail
    refine (D1.out _ HT4.out).mono ?_
    rintro e w5 ⟨rfl, hb⟩
    have HS5 : Hid (Segs w5 w5.heap.size A l) := (HS4.out.below hb).more hb.size
    have HT5 : Hid (Segs w5 w5.heap.size A' l') := (HT4.out.below hb).more hb.size
    have HB5 : Hid (Below w.heap.size w w5) := HB4.out.trans (hb.mono HB4.out.size)
    clear hb HS4 HT4 HB4
    go_wp2_with fail
    refine (D2.out _ HT5.out).mono ?_
    rintro e w6 ⟨rfl, hb⟩
    have HS6 : Hid (Segs w6 w6.heap.size A l) := (HS5.out.below hb).more hb.size
    have HT6 : Hid (Segs w6 w6.heap.size A' l') := (HT5.out.below hb).more hb.size
    have HB6 : Hid (Below w.heap.size w w6) := HB5.out.trans (hb.mono HB5.out.size)
    clear hb HS5 HT5 HB5
    go_wp2_with fail
    refine (D3.out _ HT6.out).mono ?_
    rintro e w7 ⟨rfl, hb⟩
    have HS7 : Hid (Segs w7 w7.heap.size A l) := (HS6.out.below hb).more hb.size
    have HT7 : Hid (Segs w7 w7.heap.size A' l') := (HT6.out.below hb).more hb.size
    have HB7 : Hid (Below w.heap.size w w7) := HB6.out.trans (hb.mono HB6.out.size)
    clear hb HS6 HT6 HB6
    go_wp2_with fail
    refine (D4.out _ HT7.out).mono ?_
    rintro e w8 ⟨rfl, hb⟩
    have HS8 : Hid (Segs w8 w8.heap.size A l) := (HS7.out.below hb).more hb.size
    have HT8 : Hid (Segs w8 w8.heap.size A' l') := (HT7.out.below hb).more hb.size
    have HB8 : Hid (Below w.heap.size w w8) := HB7.out.trans (hb.mono HB7.out.size)
    clear hb HS7 HT7 HB7
    clear D1 D2 D3 D4 HT8
    by_cases h0 : a < 0
    · clear C3 hr
      go_wp2
      go_ret
      exact ⟨rfl, HB8.out⟩
    · have hra : rb ≤ a := by omega
      clear hr
      have h0' : (0 : Int) ≤ a := by omega
      go_wp2_with fail
      refine (C3.out _ HS8.out).mono ?_
      rintro e w9 ⟨rfl, hb⟩
      have HS9 : Hid (Segs w9 w9.heap.size A l) := (HS8.out.below hb).more hb.size
      have HB9 : Hid (Below w.heap.size w w9) := HB8.out.trans (hb.mono HB8.out.size)
      clear hb HS8 HB8
      go_wp2
      go_ret
      exact ⟨rfl, HB9.out⟩
  | true =>
    have hv : validB l = true := by
      unfold overOk at hok
      simp at hok
      exact hok.1.1
    have hsz : 0 < (overStr l a).size := by
      have := overStr_size hv a
      rw [hok] at this
      exact of_decide_eq_true this
    have hsz2 : (overStr l a).size ≤ 100 := by
      have hs : overStr l a = namesAt l (overIx l a l.length) := if_pos hv
      have h1 := namesAt_size hv (overIx l a l.length) (fun j h => overIx_lt h)
      have h2 := overIx_len l a l.length
      rw [hs]
      omega
    have hnz := names_size hv
    have HK : Hid (∀ k, k < l.length → ∃ b0 b1 : Int, Gives 39 A l #[.slice A l.length c, .string ((namesStr l).extract k (k + 1))] (.int .i64 b0) ∧ Gives 40 A l #[.slice A l.length c, .string ((namesStr l).extract k (k + 1))] (.int .i64 b1) ∧ hasT (overStr l a) ((namesStr l).extract k (k + 1)) = (decide (b0 ≤ a) && decide (a < b1))) := by
      show ∀ k, _
      intro k hk
      have e1 : (namesStr l).extract k (k + 1) = namesAt l [k] := by
        rw [namesStr_at hv, cut_at hv (fun j hj => List.mem_range.1 hj) (by simpa using hk)]
        simp
      rw [e1]
      refine ⟨_, _, CA.out _, CE.out _, ?_⟩
      rw [has_over hv a hk]
      have hx := seek_nm hv hk
      unfold holdsB addrB endB
      rw [if_neg (by omega), if_neg (by omega), hx, Int.toNat_natCast]
    rw [hok] at C1 C2
    rw [hv] at C4
    clear C3 CA CE hok hv
    generalize overStr l a = ov at *
    generalize namesStr l = nst at *
    go_wp2_with fail
    refine (C1.out _ HS1.out).mono ?_
    rintro e w2 ⟨rfl, hb⟩
    have HS2 : Hid (Segs w2 w2.heap.size A l) := (HS1.out.below hb).more hb.size
    have HB2 : Hid (Below w.heap.size w w2) := HB1.out.trans (hb.mono HB1.out.size)
    clear hb HS1 HB1
    go_wp2_with fail
    refine (C2.out _ HS2.out).mono ?_
    rintro e w3 ⟨rfl, hb⟩
    have HS3 : Hid (Segs w3 w3.heap.size A l) := (HS2.out.below hb).more hb.size
    have HB3 : Hid (Below w.heap.size w w3) := HB2.out.trans (hb.mono HB2.out.size)
    clear hb HS2 HB2
    go_wp2_with fail
    refine Calls.mono (HD2.out _ HB3.out) ?_
    rintro e w4 ⟨A', l', c', x', rfl, ⟨hS', ⟨hl9', hlc', hcm'⟩, hsh'⟩, hx', hb⟩
    have hl' : l'.length ≤ 1048576 := by omega
    have HSH' := Lib.hid (fun s hs => Nat.le_trans (hsh' s hs) (by decide) : Short l')
    have HS4 : Hid (Segs w4 w4.heap.size A l) := (HS3.out.below hb).more hb.size
    have HT4 : Hid (Segs w4 w4.heap.size A' l') := hS'
    have HB4 : Hid (Below w.heap.size w w4) := HB3.out.trans (hb.mono HB3.out.size)
    have D1 : Hid (Gives 39 A' l' #[.slice A' l'.length c', .string x'] (.int .i64 (addrB l' x'))) := fun w h => addressOf_any A' l' c' x' w h hl' hlc' hcm' HSH'.out
    have D2 : Hid (Gives 46 A' l' #[.slice A' l'.length c', .string x'] (.int .i64 (addrB l' x'))) := fun w h => specAddress_any A' l' c' x' w h hl' HSH'.out
    have D3 : Hid (Gives 40 A' l' #[.slice A' l'.length c', .string x'] (.int .i64 (endB l' x'))) := fun w h => endOf_any A' l' c' x' w h hl' hlc' hcm' HSH'.out
    have D4 : Hid (Gives 47 A' l' #[.slice A' l'.length c', .string x'] (.int .i64 (endB l' x'))) := fun w h => specEnd_any A' l' c' x' w h hl' HSH'.out
    clear hS' hb hsh' hx' HD2 HS3 HB3
    generalize addrB l' x' = ad' at *
    generalize endB l' x' = en' at *
    go_wp2_with fail
    refine (D1.out _ HT4.out).mono ?_
    rintro e w5 ⟨rfl, hb⟩
    have HS5 : Hid (Segs w5 w5.heap.size A l) := (HS4.out.below hb).more hb.size
    have HT5 : Hid (Segs w5 w5.heap.size A' l') := (HT4.out.below hb).more hb.size
    have HB5 : Hid (Below w.heap.size w w5) := HB4.out.trans (hb.mono HB4.out.size)
    clear hb HS4 HT4 HB4
    go_wp2_with fail
    refine (D2.out _ HT5.out).mono ?_
    rintro e w6 ⟨rfl, hb⟩
    have HS6 : Hid (Segs w6 w6.heap.size A l) := (HS5.out.below hb).more hb.size
    have HT6 : Hid (Segs w6 w6.heap.size A' l') := (HT5.out.below hb).more hb.size
    have HB6 : Hid (Below w.heap.size w w6) := HB5.out.trans (hb.mono HB5.out.size)
    clear hb HS5 HT5 HB5
    go_wp2_with fail
    refine (D3.out _ HT6.out).mono ?_
    rintro e w7 ⟨rfl, hb⟩
    have HS7 : Hid (Segs w7 w7.heap.size A l) := (HS6.out.below hb).more hb.size
    have HT7 : Hid (Segs w7 w7.heap.size A' l') := (HT6.out.below hb).more hb.size
    have HB7 : Hid (Below w.heap.size w w7) := HB6.out.trans (hb.mono HB6.out.size)
    clear hb HS6 HT6 HB6
    go_wp2_with fail
    refine (D4.out _ HT7.out).mono ?_
    rintro e w8 ⟨rfl, hb⟩
    have HS8 : Hid (Segs w8 w8.heap.size A l) := (HS7.out.below hb).more hb.size
    have HT8 : Hid (Segs w8 w8.heap.size A' l') := (HT7.out.below hb).more hb.size
    have HB8 : Hid (Below w.heap.size w w8) := HB7.out.trans (hb.mono HB7.out.size)
    clear hb HS7 HT7 HB7
    clear D1 D2 D3 D4 HT8
    go_wp2_with fail
    refine (C4.out _ HS8.out).mono ?_
    rintro e w9 ⟨rfl, hb⟩
    have HS9 : Hid (Segs w9 w9.heap.size A l) := (HS8.out.below hb).more hb.size
    have HB9 : Hid (Below w.heap.size w w9) := HB8.out.trans (hb.mono HB8.out.size)
    clear hb HS8 HB8
    go_wp2
    go_loopw [94] (fun i wr => ∃ k : Nat, k ≤ l.length ∧ i = .int .i64 k ∧ Hid (Segs wr wr.heap.size A l) ∧ Hid (Below w.heap.size w wr))
      (fun i _ => l.length - (intOf i).toNat)
    case atStart => exact ⟨0, Nat.zero_le _, rfl, HS9, HB9⟩
    case round =>
      obtain ⟨k, hk, rfl, HSr, HBr⟩ := hrel
      clear HS9 HB9
      by_cases hlt : k < l.length
      · have hlt' : (k : Int) < (nst.size : Int) := by omega
        have hlt'' : (k : Int) < (l.length : Int) := by omega
        have hk0 : (0 : Int) ≤ (k : Int) := Int.natCast_nonneg _
        have hq : ((k : Int) + 1).toNat = k + 1 := by omega
        obtain ⟨b0, b1, hca, hce, hh⟩ := HK.out k hlt
        have CA := Lib.hid hca
        have CE := Lib.hid hce
        have HH := Lib.hid hh
        clear hca hce hh HK
        go_wp2_with fail
        refine (soHas_any ov (nst.extract k (k + 1)) wr (by omega)).mono ?_
        rintro e wa ⟨rfl, hb⟩
        rw [HH.out]
        have HSa : Hid (Segs wa wa.heap.size A l) := (HSr.out.below hb).more hb.size
        have HBa : Hid (Below w.heap.size w wa) := HBr.out.trans (hb.mono HBr.out.size)
        clear hb HSr HBr HH
        go_wp2_with fail
        refine (CA.out _ HSa.out).mono ?_
        rintro e wb ⟨rfl, hb⟩
        have HSb : Hid (Segs wb wb.heap.size A l) := (HSa.out.below hb).more hb.size
        have HBb : Hid (Below w.heap.size w wb) := HBa.out.trans (hb.mono HBa.out.size)
        clear hb HSa HBa
        by_cases h0 : b0 ≤ a
        · by_cases h1 : a < b1
          · go_wp2_with fail
            refine (CE.out _ HSb.out).mono ?_
            rintro e wc ⟨rfl, hb⟩
            have HSc : Hid (Segs wc wc.heap.size A l) := (HSb.out.below hb).more hb.size
            have HBc : Hid (Below w.heap.size w wc) := HBb.out.trans (hb.mono HBb.out.size)
            clear hb HSb HBb
            go_wp2
            go_roundw
            case rel => exact ⟨k + 1, by omega, by go_num, HSc, HBc⟩
            case measure => simp [intOf]; omega
          · go_wp2_with fail
            refine (CE.out _ HSb.out).mono ?_
            rintro e wc ⟨rfl, hb⟩
            have HSc : Hid (Segs wc wc.heap.size A l) := (HSb.out.below hb).more hb.size
            have HBc : Hid (Below w.heap.size w wc) := HBb.out.trans (hb.mono HBb.out.size)
            clear hb HSb HBb
            go_wp2
            go_roundw
            case rel => exact ⟨k + 1, by omega, by go_num, HSc, HBc⟩
            case measure => simp [intOf]; omega
        · go_wp2
          go_roundw
          case rel => exact ⟨k + 1, by omega, by go_num, HSb, HBb⟩
          case measure => simp [intOf]; omega
      · clear HK
        go_wp2
        go_ret
        exact ⟨rfl, HBr.out⟩

end Go.Proofs.Ytbmfjfhmdpmlbaa
