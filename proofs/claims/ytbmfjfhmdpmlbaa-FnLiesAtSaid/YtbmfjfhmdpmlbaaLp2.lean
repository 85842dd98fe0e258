/- The law FnPathOf: children's paths, names, sizes. -/
import Derived.Test.YtbmfjfhmdpmlbaaCr
import Derived.Test.YtbmfjfhmdpmlbaaDp
import Derived.Test.YtbmfjfhmdpmlbaaRg
namespace Go.Proofs.Ytbmfjfhmdpmlbaa
open Go.RowKit

/-- A call that gives 'v' over a tree and lets all be that is there. -/
def Gives (f : FuncId) (A : Option Addr) (l : List Seg) (args : Array Value) (v : Value) : Prop := ∀ w, Segs w w.heap.size A l → Calls Try.prog f args w fun e w' => e = .returned v ∧ Below w.heap.size w w'

set_option maxRecDepth 100000 in
set_option maxHeartbeats 4000000 in
theorem pathLaw_any (hgood : GoodSaid) (A0 : Option Addr) (n c0 : Nat) (w : World) (hn : n ≤ c0) (hm : n ≤ maxLen) (hx : ∀ b, w.heap.size ≤ b → Bytes w b A0 n) :
    Calls Try.prog 3 #[.slice A0 n c0] w fun e w' => e = .returned (.bool true) ∧ Below w.heap.size w w' := by
  unfold maxLen at hm
  by_cases hbig : 1048576 < n
  · clear hx hgood
    go_enter Try.func3, Try.ntmps3
    go_wp2
    go_ret
    exact ⟨rfl, Below.refl _ _⟩
  have HD := Lib.hid (drawPathOf_plain hgood A0 n c0 w hn hx)
  clear hx hgood
  go_enter Try.func3, Try.ntmps3
  go_wp2_with fail
  refine Calls.mono HD.out ?_
  rintro e w1 ⟨A, l, c, x, rfl, ⟨hS, ⟨hl9, hlc, hcm⟩, hsh⟩, hx2, hb1⟩
  have hl : l.length ≤ 1048576 := by omega
  have HSH := Lib.hid (fun s hs => Nat.le_trans (hsh s hs) (by decide) : Short l)
  have HS1 : Hid (Segs w1 w1.heap.size A l) := hS
  have HB1 : Hid (Below w.heap.size w w1) := hb1
  have C1 : Hid (Gives 19 A l #[.slice A l.length c, .string x] (.tuple #[.string (pathStr l x), .bool (hasSeg l x)])) := fun w h => pathOf_any A l c x w h hl hlc hcm HSH.out
  have C2 : Hid (Gives 20 A l #[.slice A l.length c, .string x] (.tuple #[.string (pathStr l x), .bool (hasSeg l x)])) := fun w h => specPath_any A l c x w h hl HSH.out
  have C3 : Hid (Gives 21 A l #[.slice A l.length c, .string x] (.tuple #[.string (kidsStr l x), .bool (hasSeg l x)])) := fun w h => childrenOf_any A l c x w h hl hlc hcm HSH.out
  have C4 : Hid (Gives 22 A l #[.slice A l.length c, .string x] (.tuple #[.string (kidsStr l x), .bool (hasSeg l x)])) := fun w h => specChildren_any A l c x w h hl HSH.out
  have C5 : Hid (Gives 23 A l #[.slice A l.length c] (.tuple #[.string (namesStr l), .bool (validB l)])) := fun w h => namesOf_any A l c w h hl hlc hcm HSH.out
  have C6 : Hid (Gives 24 A l #[.slice A l.length c] (.tuple #[.string (namesStr l), .bool (validB l)])) := fun w h => specNames_any A l c w h hl HSH.out
  have C7 : Hid (Gives 25 A l #[.slice A l.length c] (.bool (validB l))) := fun w h => treeValid_any A l c w h hl hlc hcm HSH.out
  have C8 : Hid (Gives 26 A l #[.slice A l.length c, .string x] (.int .i64 (sizeB l x))) := fun w h => sizeOf_any A l c x w h hl hlc hcm HSH.out
  have C9 : Hid (Gives 27 A l #[.slice A l.length c, .string x] (.int .i64 (sizeB l x))) := fun w h => specSizeOf_any A l c x w h hl HSH.out
  have CA : Hid (Gives 28 A l #[.slice A l.length c] (.int .i64 (totalB l))) := fun w h => totalSize_any A l c w h hl hlc hcm HSH.out
  have CB : Hid (Gives 29 A l #[.slice A l.length c] (.int .i64 (totalB l))) := fun w h => specTotal_any A l c w h hl HSH.out
  have CK : Hid (∀ s, Gives 19 A l #[.slice A l.length c, .string s] (.tuple #[.string (pathStr l s), .bool (hasSeg l s)])) := fun s w h => pathOf_any A l c s w h hl hlc hcm HSH.out
  have CS : Hid (∀ s, Gives 26 A l #[.slice A l.length c, .string s] (.int .i64 (sizeB l s))) := fun s w h => sizeOf_any A l c s w h hl hlc hcm HSH.out
  clear hS hb1 HD hsh hx2
  cases hok : hasSeg l x with
  | false =>
    rw [hok] at C1 C2 C3 C4
    clear CK CS hok
    generalize pathStr l x = pst at *
    generalize kidsStr l x = kst at *
    generalize namesStr l = nst at *
    generalize sizeB l x = sb at *
    generalize totalB l = tb at *
    generalize validB l = vb at *
    go_wp2_with fail
    refine (C1.out _ HS1.out).mono ?_
    rintro e w2 ⟨rfl, hb⟩
    have HS2 : Hid (Segs w2 w2.heap.size A l) := (HS1.out.below hb).more hb.size
    have HB2 : Hid (Below w.heap.size w w2) := HB1.out.trans (hb.mono HB1.out.size)
    clear hb HS1 HB1
    go_wp2_with fail
    refine (C2.out _ HS2.out).mono ?_
    rintro e w3 ⟨rfl, hb⟩
    have HS3 : Hid (Segs w3 w3.heap.size A l) := (HS2.out.below hb).more hb.size
    have HB3 : Hid (Below w.heap.size w w3) := HB2.out.trans (hb.mono HB2.out.size)
    clear hb HS2 HB2
    go_wp2_with fail
    refine (C3.out _ HS3.out).mono ?_
    rintro e w4 ⟨rfl, hb⟩
    have HS4 : Hid (Segs w4 w4.heap.size A l) := (HS3.out.below hb).more hb.size
    have HB4 : Hid (Below w.heap.size w w4) := HB3.out.trans (hb.mono HB3.out.size)
    clear hb HS3 HB3
    go_wp2_with fail
    refine (C4.out _ HS4.out).mono ?_
    rintro e w5 ⟨rfl, hb⟩
    have HS5 : Hid (Segs w5 w5.heap.size A l) := (HS4.out.below hb).more hb.size
    have HB5 : Hid (Below w.heap.size w w5) := HB4.out.trans (hb.mono HB4.out.size)
    clear hb HS4 HB4
    go_wp2_with fail
    refine (C5.out _ HS5.out).mono ?_
    rintro e w6 ⟨rfl, hb⟩
    have HS6 : Hid (Segs w6 w6.heap.size A l) := (HS5.out.below hb).more hb.size
    have HB6 : Hid (Below w.heap.size w w6) := HB5.out.trans (hb.mono HB5.out.size)
    clear hb HS5 HB5
    go_wp2_with fail
    refine (C6.out _ HS6.out).mono ?_
    rintro e w7 ⟨rfl, hb⟩
    have HS7 : Hid (Segs w7 w7.heap.size A l) := (HS6.out.below hb).more hb.size
    have HB7 : Hid (Below w.heap.size w w7) := HB6.out.trans (hb.mono HB6.out.size)
    clear hb HS6 HB6
    go_wp2_with fail
    refine (C7.out _ HS7.out).mono ?_
    rintro e w8 ⟨rfl, hb⟩
    have HS8 : Hid (Segs w8 w8.heap.size A l) := (HS7.out.below hb).more hb.size
    have HB8 : Hid (Below w.heap.size w w8) := HB7.out.trans (hb.mono HB7.out.size)
    clear hb HS7 HB7
    go_wp2_with fail
    refine (C8.out _ HS8.out).mono ?_
    rintro e w9 ⟨rfl, hb⟩
    have HS9 : Hid (Segs w9 w9.heap.size A l) := (HS8.out.below hb).more hb.size
    have HB9 : Hid (Below w.heap.size w w9) := HB8.out.trans (hb.mono HB8.out.size)
    clear hb HS8 HB8
    go_wp2_with fail
    refine (C9.out _ HS9.out).mono ?_
    rintro e w10 ⟨rfl, hb⟩
    have HS10 : Hid (Segs w10 w10.heap.size A l) := (HS9.out.below hb).more hb.size
    have HB10 : Hid (Below w.heap.size w w10) := HB9.out.trans (hb.mono HB9.out.size)
    clear hb HS9 HB9
    go_wp2_with fail
    refine (CA.out _ HS10.out).mono ?_
    rintro e w11 ⟨rfl, hb⟩
    have HS11 : Hid (Segs w11 w11.heap.size A l) := (HS10.out.below hb).more hb.size
    have HB11 : Hid (Below w.heap.size w w11) := HB10.out.trans (hb.mono HB10.out.size)
    clear hb HS10 HB10
    go_wp2_with fail
    refine (CB.out _ HS11.out).mono ?_
    rintro e w12 ⟨rfl, hb⟩
    have HS12 : Hid (Segs w12 w12.heap.size A l) := (HS11.out.below hb).more hb.size
    have HB12 : Hid (Below w.heap.size w w12) := HB11.out.trans (hb.mono HB11.out.size)
    clear hb HS11 HB11
    go_wp2_with fail
    refine (C7.out _ HS12.out).mono ?_
    rintro e w13 ⟨rfl, hb⟩
    have HS13 : Hid (Segs w13 w13.heap.size A l) := (HS12.out.below hb).more hb.size
    have HB13 : Hid (Below w.heap.size w w13) := HB12.out.trans (hb.mono HB12.out.size)
    clear hb HS12 HB12
    go_wp2_with fail
    refine (C8.out _ HS13.out).mono ?_
    rintro e w14 ⟨rfl, hb⟩
    have HS14 : Hid (Segs w14 w14.heap.size A l) := (HS13.out.below hb).more hb.size
    have HB14 : Hid (Below w.heap.size w w14) := HB13.out.trans (hb.mono HB13.out.size)
    clear hb HS13 HB13
    go_wp2_with fail
    refine (C9.out _ HS14.out).mono ?_
    rintro e w15 ⟨rfl, hb⟩
    have HS15 : Hid (Segs w15 w15.heap.size A l) := (HS14.out.below hb).more hb.size
    have HB15 : Hid (Below w.heap.size w w15) := HB14.out.trans (hb.mono HB14.out.size)
    clear hb HS14 HB14
    go_wp2_with fail
    refine (CA.out _ HS15.out).mono ?_
    rintro e w16 ⟨rfl, hb⟩
    have HS16 : Hid (Segs w16 w16.heap.size A l) := (HS15.out.below hb).more hb.size
    have HB16 : Hid (Below w.heap.size w w16) := HB15.out.trans (hb.mono HB15.out.size)
    clear hb HS15 HB15
    go_wp2_with fail
    refine (CB.out _ HS16.out).mono ?_
    rintro e w17 ⟨rfl, hb⟩
    have HS17 : Hid (Segs w17 w17.heap.size A l) := (HS16.out.below hb).more hb.size
    have HB17 : Hid (Below w.heap.size w w17) := HB16.out.trans (hb.mono HB16.out.size)
    clear hb HS16 HB16
    go_wp2
    go_ret
    exact ⟨rfl, HB17.out⟩
  | true =>
    have hs : 0 ≤ indexB l x := by
      unfold hasSeg at hok
      simpa using hok
    have hv := index_valid hs
    rw [hok] at C1 C2 C3 C4
    rw [hv] at C5 C6 C7
    have ht : totalB l = sumTo l l.length := if_pos hv
    rw [ht] at CA CB
    have hkz : (kidsStr l x).size = (kidsOf l (indexB l x).toNat l.length).length := by rw [kidsStr_at hs]; exact namesAt_size hv _ (fun j hj => kidsOf_lt hj)
    have HK : Hid (∀ k, k < (kidsStr l x).size → Gives 19 A l #[.slice A l.length c, .string ((kidsStr l x).extract k (k + 1))] (.tuple #[.string (pathStr l x ++ (kidsStr l x).extract k (k + 1)), .bool true])) := by
      show ∀ k, _
      intro k hk
      have hk' : k < (kidsOf l (indexB l x).toNat l.length).length := by omega
      have e1 := cut_at hv (js := kidsOf l (indexB l x).toNat l.length) (fun j hj => kidsOf_lt hj) hk'
      rw [← kidsStr_at hs] at e1
      have h2 := path_child hs (List.getElem_mem hk')
      have h3 := CK.out ((kidsStr l x).extract k (k + 1))
      rw [e1] at h3 ⊢
      rw [h2] at h3
      have h4 : hasSeg l (namesAt l [(kidsOf l (indexB l x).toNat l.length)[k]]) = true := decide_eq_true (by rw [seek_nm hv (kidsOf_lt (List.getElem_mem hk'))]; omega)
      rw [h4] at h3
      exact h3
    have HZ : Hid (∀ k, k < l.length → ∃ z, sumTo l (k + 1) = sumTo l k + z ∧ (0 ≤ z ∧ z ≤ 99) ∧ Gives 26 A l #[.slice A l.length c, .string ((namesStr l).extract k (k + 1))] (.int .i64 z)) := by
      show ∀ k, _
      intro k hk
      have h1 := valid_size hv hk
      refine ⟨l[k].size, sumTo_succ hk, by omega, ?_⟩
      have h2 := CS.out ((namesStr l).extract k (k + 1))
      rw [size_of_name hv hk] at h2
      exact h2
    have HSM : Hid (∀ k, k ≤ l.length → 0 ≤ sumTo l k ∧ sumTo l k ≤ 1000) := fun k hk => by
      have h1 := sumTo_le hv k hk
      have h2 := (valid_all hv).2.1
      omega
    have hnz := names_size hv
    have hsum0 : sumTo l 0 = 0 := rfl
    obtain ⟨hhd, hpos⟩ := path_head hs
    have htl := path_tail hs
    have hpz : (pathStr l x).size ≤ 100 := by have := pathStr_size hs; omega
    have hkz2 : (kidsStr l x).size ≤ 100 := by have := kidsOf_len l (indexB l x).toNat l.length; omega
    clear CK CS hok hs hv ht hkz
    generalize pathStr l x = pst at *
    generalize kidsStr l x = kst at *
    generalize namesStr l = nst at *
    generalize sizeB l x = sb at *
    generalize sumTo l = S at *
    generalize validB l = vb at *
    obtain ⟨m, hm1⟩ : ∃ m, pst.size = m + 1 := ⟨pst.size - 1, by omega⟩
    have HHD := Lib.hid hhd
    have HTL := Lib.hid htl
    clear hhd htl
    go_wp2_with fail
    refine (C1.out _ HS1.out).mono ?_
    rintro e w2 ⟨rfl, hb⟩
    have HS2 : Hid (Segs w2 w2.heap.size A l) := (HS1.out.below hb).more hb.size
    have HB2 : Hid (Below w.heap.size w w2) := HB1.out.trans (hb.mono HB1.out.size)
    clear hb HS1 HB1
    go_wp2_with fail
    refine (C2.out _ HS2.out).mono ?_
    rintro e w3 ⟨rfl, hb⟩
    have HS3 : Hid (Segs w3 w3.heap.size A l) := (HS2.out.below hb).more hb.size
    have HB3 : Hid (Below w.heap.size w w3) := HB2.out.trans (hb.mono HB2.out.size)
    clear hb HS2 HB2
    go_wp2_with fail
    refine (C3.out _ HS3.out).mono ?_
    rintro e w4 ⟨rfl, hb⟩
    have HS4 : Hid (Segs w4 w4.heap.size A l) := (HS3.out.below hb).more hb.size
    have HB4 : Hid (Below w.heap.size w w4) := HB3.out.trans (hb.mono HB3.out.size)
    clear hb HS3 HB3
    go_wp2_with fail
    refine (C4.out _ HS4.out).mono ?_
    rintro e w5 ⟨rfl, hb⟩
    have HS5 : Hid (Segs w5 w5.heap.size A l) := (HS4.out.below hb).more hb.size
    have HB5 : Hid (Below w.heap.size w w5) := HB4.out.trans (hb.mono HB4.out.size)
    clear hb HS4 HB4
    go_wp2_with fail
    refine (C5.out _ HS5.out).mono ?_
    rintro e w6 ⟨rfl, hb⟩
    have HS6 : Hid (Segs w6 w6.heap.size A l) := (HS5.out.below hb).more hb.size
    have HB6 : Hid (Below w.heap.size w w6) := HB5.out.trans (hb.mono HB5.out.size)
    clear hb HS5 HB5
    go_wp2_with fail
    refine (C6.out _ HS6.out).mono ?_
    rintro e w7 ⟨rfl, hb⟩
    have HS7 : Hid (Segs w7 w7.heap.size A l) := (HS6.out.below hb).more hb.size
    have HB7 : Hid (Below w.heap.size w w7) := HB6.out.trans (hb.mono HB6.out.size)
    clear hb HS6 HB6
    go_wp2_with fail
    refine (C7.out _ HS7.out).mono ?_
    rintro e w8 ⟨rfl, hb⟩
    have HS8 : Hid (Segs w8 w8.heap.size A l) := (HS7.out.below hb).more hb.size
    have HB8 : Hid (Below w.heap.size w w8) := HB7.out.trans (hb.mono HB7.out.size)
    clear hb HS7 HB7
    go_wp2_with fail
    refine (C8.out _ HS8.out).mono ?_
    rintro e w9 ⟨rfl, hb⟩
    have HS9 : Hid (Segs w9 w9.heap.size A l) := (HS8.out.below hb).more hb.size
    have HB9 : Hid (Below w.heap.size w w9) := HB8.out.trans (hb.mono HB8.out.size)
    clear hb HS8 HB8
    go_wp2_with fail
    refine (C9.out _ HS9.out).mono ?_
    rintro e w10 ⟨rfl, hb⟩
    have HS10 : Hid (Segs w10 w10.heap.size A l) := (HS9.out.below hb).more hb.size
    have HB10 : Hid (Below w.heap.size w w10) := HB9.out.trans (hb.mono HB9.out.size)
    clear hb HS9 HB9
    go_wp2_with fail
    refine (CA.out _ HS10.out).mono ?_
    rintro e w11 ⟨rfl, hb⟩
    have HS11 : Hid (Segs w11 w11.heap.size A l) := (HS10.out.below hb).more hb.size
    have HB11 : Hid (Below w.heap.size w w11) := HB10.out.trans (hb.mono HB10.out.size)
    clear hb HS10 HB10
    go_wp2_with fail
    refine (CB.out _ HS11.out).mono ?_
    rintro e w12 ⟨rfl, hb⟩
    have HS12 : Hid (Segs w12 w12.heap.size A l) := (HS11.out.below hb).more hb.size
    have HB12 : Hid (Below w.heap.size w w12) := HB11.out.trans (hb.mono HB11.out.size)
    clear hb HS11 HB11
    clear C1 C2 C3 C4 C5 C6 C7 C8 C9 CB
    go_wp2
    go_loopw [160] (fun i wr => ∃ k : Nat, k ≤ kst.size ∧ i = .int .i64 k ∧ Hid (Segs wr wr.heap.size A l) ∧ Hid (Below w.heap.size w wr))
      (fun i _ => kst.size - (intOf i).toNat)
    case atStart => exact ⟨0, Nat.zero_le _, rfl, HS12, HB12⟩
    case round =>
      obtain ⟨k, hk, rfl, HSr, HBr⟩ := hrel
      clear HS12 HB12
      by_cases hlt : k < kst.size
      · have hlt' : (k : Int) < (kst.size : Int) := by omega
        have hk0 : (0 : Int) ≤ (k : Int) := Int.natCast_nonneg _
        have HP := Lib.hid (HK.out k hlt)
        have hq : ((k : Int) + 1).toNat = k + 1 := by omega
        clear HK HZ
        go_wp2_with fail
        refine (HP.out _ HSr.out).mono ?_
        rintro e wa ⟨rfl, hb⟩
        have HSa : Hid (Segs wa wa.heap.size A l) := (HSr.out.below hb).more hb.size
        have HBa : Hid (Below w.heap.size w wa) := HBr.out.trans (hb.mono HBr.out.size)
        clear hb HSr HBr HP
        go_wp2
        go_roundw
        case rel => exact ⟨k + 1, by omega, by go_num, HSa, HBa⟩
        case measure => simp [intOf]; omega
      · clear HK
        go_wp2
        go_loopw [20, 185] (fun sm i wr => ∃ k : Nat, k ≤ l.length ∧ i = .int .i64 k ∧ sm = .int .i64 (S k) ∧ Hid (Segs wr wr.heap.size A l) ∧ Hid (Below w.heap.size w wr))
          (fun _ i _ => l.length - (intOf i).toNat)
        case atStart => exact ⟨0, Nat.zero_le _, rfl, by rw [hsum0], HSr, HBr⟩
        case round =>
          obtain ⟨k2, hk2, rfl, rfl, HSs, HBs⟩ := hrel
          clear HSr HBr
          by_cases hlt2 : k2 < l.length
          · have hlt2' : (k2 : Int) < (nst.size : Int) := by omega
            have hlt2'' : (k2 : Int) < (l.length : Int) := by omega
            have hk20 : (0 : Int) ≤ (k2 : Int) := Int.natCast_nonneg _
            obtain ⟨z, hz1, ⟨hz0, hz99⟩, hzc⟩ := HZ.out k2 hlt2
            have HZC := Lib.hid hzc
            have HZ1 := Lib.hid hz1
            obtain ⟨hs0, hs1⟩ := HSM.out k2 hk2
            clear hz1 hzc HZ
            go_wp2_with fail
            refine (HZC.out _ HSs.out).mono ?_
            rintro e wa ⟨rfl, hb⟩
            have HSa : Hid (Segs wa wa.heap.size A l) := (HSs.out.below hb).more hb.size
            have HBa : Hid (Below w.heap.size w wa) := HBs.out.trans (hb.mono HBs.out.size)
            clear hb HSs HBs HZC
            go_wp2
            go_roundw
            case rel => exact ⟨k2 + 1, by omega, by go_num, by rw [HZ1.out], HSa, HBa⟩
            case measure => simp [intOf]; omega
          · obtain rfl : k2 = l.length := by omega
            clear HZ
            have e1 : ((pst.extract 0 1).toList == (nst.extract 0 1).toList) = true := by rw [HHD.out]; simp
            have e2 : ((pst.extract (pst.size - 1) pst.size).toList == x.toList) = true := by rw [HTL.out]; simp
            have hn1 : 0 < l.length := by
              have h1 := congrArg ByteArray.size HHD.out
              rw [ByteArray.size_extract, ByteArray.size_extract] at h1
              omega
            have p1 : (1 : Int) ≤ (pst.size : Int) := by omega
            have p2 : (1 : Int) ≤ (nst.size : Int) := by omega
            have p3 : 1 ≤ pst.size := hpos
            have p4 : 1 ≤ nst.size := by omega
            have p5 : (0 : Int) ≤ (pst.size : Int) - 1 := by omega
            have p6 : ((pst.size : Int) - 1).toNat = pst.size - 1 := by omega
            have p7 : ((nst.size : Int) == (l.length : Int)) = true := by simp; omega
            clear HHD HTL hnz hm1 HSM
            go_wp2_with fail
            refine wp_region_held_drew (S := (fun w' => Segs w' w'.heap.size A l ∧ Below w.heap.size w w')) (by kernel_rfl) ?_ (fun hHeld => ?_)
            · exact ⟨(HSs.out.below (Below.refl _ _).drew).more (Nat.le_refl _), HBs.out.drew⟩
            refine take_at (i := 0) (d := 198) (v := .string pst) rfl rfl (by kernel_rfl) (by kernel_rfl) (by kernel_rfl) (fun _ _ _ h => h) (by kernel_rfl) (by (intro w hSw; (try dsimp only at hSw); go_simp)) (by assumption) ?_
            simp only [List.setIfInBounds_toArray, List.set_cons_succ, List.set_cons_zero]
            refine take_at (i := 1) (d := 199) (v := .string (pst.extract 0 1)) rfl rfl (by kernel_rfl) (by kernel_rfl) (by kernel_rfl) (fun _ _ _ h => h) (by kernel_rfl) (by (intro w hSw; (try dsimp only at hSw); go_simp)) (by assumption) ?_
            simp only [List.setIfInBounds_toArray, List.set_cons_succ, List.set_cons_zero]
            refine take_at (i := 2) (d := 200) (v := .string nst) rfl rfl (by kernel_rfl) (by kernel_rfl) (by kernel_rfl) (fun _ _ _ h => h) (by kernel_rfl) (by (intro w hSw; (try dsimp only at hSw); go_simp)) (by assumption) ?_
            simp only [List.setIfInBounds_toArray, List.set_cons_succ, List.set_cons_zero]
            refine take_at (i := 3) (d := 201) (v := .string (nst.extract 0 1)) rfl rfl (by kernel_rfl) (by kernel_rfl) (by kernel_rfl) (fun _ _ _ h => h) (by kernel_rfl) (by (intro w hSw; (try dsimp only at hSw); go_simp)) (by assumption) ?_
            simp only [List.setIfInBounds_toArray, List.set_cons_succ, List.set_cons_zero]
            refine take_at (i := 4) (d := 202) (v := .bool true) rfl rfl (by kernel_rfl) (by kernel_rfl) (by kernel_rfl) (fun _ _ _ h => h) (by kernel_rfl) (by (intro w hSw; (try dsimp only at hSw); go_simp)) (by assumption) ?_
            simp only [List.setIfInBounds_toArray, List.set_cons_succ, List.set_cons_zero]
            refine take_at (i := 5) (d := 203) (v := .bool true) rfl rfl (by kernel_rfl) (by kernel_rfl) (by kernel_rfl) (fun _ _ _ h => h) (by kernel_rfl) (by (intro w hSw; (try dsimp only at hSw); go_simp)) (by assumption) ?_
            simp only [List.setIfInBounds_toArray, List.set_cons_succ, List.set_cons_zero]
            refine take_at (i := 6) (d := 204) (v := .string pst) rfl rfl (by kernel_rfl) (by kernel_rfl) (by kernel_rfl) (fun _ _ _ h => h) (by kernel_rfl) (by (intro w hSw; (try dsimp only at hSw); go_simp)) (by assumption) ?_
            simp only [List.setIfInBounds_toArray, List.set_cons_succ, List.set_cons_zero]
            refine take_at (i := 7) (d := 205) (v := .string pst) rfl rfl (by kernel_rfl) (by kernel_rfl) (by kernel_rfl) (fun _ _ _ h => h) (by kernel_rfl) (by (intro w hSw; (try dsimp only at hSw); go_simp)) (by assumption) ?_
            simp only [List.setIfInBounds_toArray, List.set_cons_succ, List.set_cons_zero]
            refine take_at (i := 8) (d := 206) (v := .int .i64 pst.size) rfl rfl (by kernel_rfl) (by kernel_rfl) (by kernel_rfl) (fun _ _ _ h => h) (by kernel_rfl) (by (intro w hSw; (try dsimp only at hSw); go_simp)) (by assumption) ?_
            simp only [List.setIfInBounds_toArray, List.set_cons_succ, List.set_cons_zero]
            refine take_at (i := 9) (d := 207) (v := .int .i64 ((pst.size : Int) - 1)) rfl rfl (by kernel_rfl) (by kernel_rfl) (by kernel_rfl) (fun _ _ _ h => h) (by kernel_rfl) ((fun w _ => run_sub_op rfl rfl rfl (IntWalk.i64_in _ (by omega)) w)) (by assumption) ?_
            simp only [List.setIfInBounds_toArray, List.set_cons_succ, List.set_cons_zero]
            refine take_at (i := 10) (d := 208) (v := .string (pst.extract (pst.size - 1) pst.size)) rfl rfl (by kernel_rfl) (by kernel_rfl) (by kernel_rfl) (fun _ _ _ h => h) (by kernel_rfl) ((by (intro w hSw; go_simp; intro h; exact absurd h (by omega)))) (by assumption) ?_
            simp only [List.setIfInBounds_toArray, List.set_cons_succ, List.set_cons_zero]
            refine take_at (i := 11) (d := 209) (v := .string x) rfl rfl (by kernel_rfl) (by kernel_rfl) (by kernel_rfl) (fun _ _ _ h => h) (by kernel_rfl) (by (intro w hSw; (try dsimp only at hSw); go_simp)) (by assumption) ?_
            simp only [List.setIfInBounds_toArray, List.set_cons_succ, List.set_cons_zero]
            refine take_at (i := 12) (d := 210) (v := .bool true) rfl rfl (by kernel_rfl) (by kernel_rfl) (by kernel_rfl) (fun _ _ _ h => h) (by kernel_rfl) (by (intro w hSw; (try dsimp only at hSw); go_simp)) (by assumption) ?_
            simp only [List.setIfInBounds_toArray, List.set_cons_succ, List.set_cons_zero]
            refine take_at (i := 13) (d := 211) (v := .bool true) rfl rfl (by kernel_rfl) (by kernel_rfl) (by kernel_rfl) (fun _ _ _ h => h) (by kernel_rfl) (by (intro w hSw; (try dsimp only at hSw); go_simp)) (by assumption) ?_
            simp only [List.setIfInBounds_toArray, List.set_cons_succ, List.set_cons_zero]
            refine take_at (i := 14) (d := 212) (v := .bool true) rfl rfl (by kernel_rfl) (by kernel_rfl) (by kernel_rfl) (fun _ _ _ h => h) (by kernel_rfl) (by (intro w hSw; (try dsimp only at hSw); go_simp)) (by assumption) ?_
            simp only [List.setIfInBounds_toArray, List.set_cons_succ, List.set_cons_zero]
            refine take_at (i := 15) (d := 213) (v := .int .i64 (S l.length)) rfl rfl (by kernel_rfl) (by kernel_rfl) (by kernel_rfl) (fun _ _ _ h => h) (by kernel_rfl) (by (intro w hSw; (try dsimp only at hSw); go_simp)) (by assumption) ?_
            simp only [List.setIfInBounds_toArray, List.set_cons_succ, List.set_cons_zero]
            refine take_at (i := 16) (d := 214) (v := .slice A l.length c) rfl rfl (by kernel_rfl) (by kernel_rfl) (by kernel_rfl) (fun _ _ _ h => h) (by kernel_rfl) (by (intro w hSw; (try dsimp only at hSw); go_simp)) (by assumption) ?_
            simp only [List.setIfInBounds_toArray, List.set_cons_succ, List.set_cons_zero]
            refine wpAnyH_ready (rs := [17]) (by kernel_rfl) (by simp) ?_
            refine AllReadyH.cons rfl (fun K hK => ?_) AllReadyH.nil
            go_simp
            refine (CA.out _ hHeld.1).mono ?_
            rintro e wz ⟨rfl, hb⟩
            have hsz : Segs wz wz.heap.size A l ∧ Below w.heap.size w wz := ⟨(hHeld.1.below hb).more hb.size, hHeld.2.trans (hb.mono hHeld.2.size)⟩
            clear hb hHeld
            refine hK.out _ _ hsz (fun hHeld => ?_)
            clear hK K hsz
            refine take_at (i := 18) (d := 216) (v := .bool true) rfl rfl (by kernel_rfl) (by kernel_rfl) (by kernel_rfl) (fun _ _ _ h => h) (by kernel_rfl) (by (intro w hSw; (try dsimp only at hSw); go_simp)) (by assumption) ?_
            simp only [List.setIfInBounds_toArray, List.set_cons_succ, List.set_cons_zero]
            refine take_at (i := 19) (d := 217) (v := .bool true) rfl rfl (by kernel_rfl) (by kernel_rfl) (by kernel_rfl) (fun _ _ _ h => h) (by kernel_rfl) (by (intro w hSw; (try dsimp only at hSw); go_simp)) (by assumption) ?_
            simp only [List.setIfInBounds_toArray, List.set_cons_succ, List.set_cons_zero]
            refine take_at (i := 20) (d := 218) (v := .bool true) rfl rfl (by kernel_rfl) (by kernel_rfl) (by kernel_rfl) (fun _ _ _ h => h) (by kernel_rfl) (by (intro w hSw; (try dsimp only at hSw); go_simp)) (by assumption) ?_
            simp only [List.setIfInBounds_toArray, List.set_cons_succ, List.set_cons_zero]
            refine take_at (i := 21) (d := 219) (v := .string nst) rfl rfl (by kernel_rfl) (by kernel_rfl) (by kernel_rfl) (fun _ _ _ h => h) (by kernel_rfl) (by (intro w hSw; (try dsimp only at hSw); go_simp)) (by assumption) ?_
            simp only [List.setIfInBounds_toArray, List.set_cons_succ, List.set_cons_zero]
            refine take_at (i := 22) (d := 220) (v := .int .i64 nst.size) rfl rfl (by kernel_rfl) (by kernel_rfl) (by kernel_rfl) (fun _ _ _ h => h) (by kernel_rfl) (by (intro w hSw; (try dsimp only at hSw); go_simp)) (by assumption) ?_
            simp only [List.setIfInBounds_toArray, List.set_cons_succ, List.set_cons_zero]
            refine take_at (i := 23) (d := 221) (v := .slice A l.length c) rfl rfl (by kernel_rfl) (by kernel_rfl) (by kernel_rfl) (fun _ _ _ h => h) (by kernel_rfl) (by (intro w hSw; (try dsimp only at hSw); go_simp)) (by assumption) ?_
            simp only [List.setIfInBounds_toArray, List.set_cons_succ, List.set_cons_zero]
            refine take_at (i := 24) (d := 222) (v := .int .i64 l.length) rfl rfl (by kernel_rfl) (by kernel_rfl) (by kernel_rfl) (fun _ _ _ h => h) (by kernel_rfl) (by (intro w hSw; (try dsimp only at hSw); go_simp)) (by assumption) ?_
            simp only [List.setIfInBounds_toArray, List.set_cons_succ, List.set_cons_zero]
            refine take_at (i := 25) (d := 223) (v := .bool true) rfl rfl (by kernel_rfl) (by kernel_rfl) (by kernel_rfl) (fun _ _ _ h => h) (by kernel_rfl) (by (intro w hSw; (try dsimp only at hSw); go_simp)) (by assumption) ?_
            simp only [List.setIfInBounds_toArray, List.set_cons_succ, List.set_cons_zero]
            refine take_at (i := 26) (d := 224) (v := .bool true) rfl rfl (by kernel_rfl) (by kernel_rfl) (by kernel_rfl) (fun _ _ _ h => h) (by kernel_rfl) (by (intro w hSw; (try dsimp only at hSw); go_simp)) (by assumption) ?_
            simp only [List.setIfInBounds_toArray, List.set_cons_succ, List.set_cons_zero]
            refine take_at (i := 27) (d := 2) (v := .bool true) rfl rfl (by kernel_rfl) (by kernel_rfl) (by kernel_rfl) (fun _ _ _ h => h) (by kernel_rfl) (by (intro w hSw; (try dsimp only at hSw); go_simp)) (by assumption) ?_
            simp only [List.setIfInBounds_toArray, List.set_cons_succ, List.set_cons_zero]
            refine wpAnyH_done (by kernel_rfl) ?_ _
            have HF := Lib.hid hHeld.2
            clear hHeld
            go_wp2
            go_ret
            exact ⟨rfl, HF.out⟩

end Go.Proofs.Ytbmfjfhmdpmlbaa
