/- Joined: Eb Ec Ku Eg. -/
import Derived.Test.YtcpiojliakgdlaaU18
import Derived.Test.YtcpiojliakgdlaaU17
import Derived.Test.YtcpiojliakgdlaaU21
import Derived.Test.YtcpiojliakgdlaaU15
import Derived.BigQuiet
import Derived.Test.YtcpiojliakgdlaaU27
import Derived.Test.YtcpiojliakgdlaaU04
import Derived.Test.YtcpiojliakgdlaaU25
/- The reference: which pins are valid, rooms, loads. -/
namespace Go.Proofs.Ytcpiojliakgdlaa
open Go.RowKit

/-- Names that are not among others. -/
def less10 (S P : List UInt8) : List UInt8 := S.filter fun c => !P.contains c
theorem str_at10 (x : List UInt8) {i : Nat} (h : i < x.length) : (strOf x).extract i (i + 1) = ⟨#[x[i]]⟩ := by
  have h1 : i < (strOf x).size := by rw [str_size]; exact h
  rw [one_byte _ h1]
  rfl
theorem str_snoc10 (a : List UInt8) (c : UInt8) : strOf a ++ ⟨#[c]⟩ = strOf (a ++ [c]) := bytes_cat a [c]
theorem less10_succ {x y : List UInt8} {k : Nat} (h : k < x.length) : less10 (x.take (k + 1)) y = less10 (x.take k) y ++ if x[k] ∈ y then [] else [x[k]] := by
  unfold less10
  rw [List.take_succ_eq_append_getElem h, List.filter_append]
  congr 1
  by_cases hm : x[k] ∈ y
  · simp [hm]
  · simp [hm]
theorem less10_len (x y : List UInt8) : (less10 x y).length ≤ x.length := List.length_filter_le _ _

set_option maxRecDepth 100000 in
set_option maxHeartbeats 1000000 in
theorem l8Less10_any (x y : List UInt8) (w : World) (hx : x.length ≤ 1000) (hy : y.length ≤ 1000) :
    Calls Try.prog 155 #[.string (strOf x), .string (strOf y)] w fun e w' => e = .returned (.string (strOf (less10 x y))) ∧ w' = w := by
  have HZ : Hid ((strOf x).size = x.length) := str_size x
  have HEX := Lib.hid (fun i h => str_at10 x (i := i) h)
  have HAT : Hid (∀ i (h : i < (strOf x).size) (h2 : i < x.length), (strOf x)[i]'h = x[i]'h2) := fun i h h2 => by simp [strOf, ByteArray.getElem_eq_getElem_data]
  have hzx : (strOf x).size ≤ 1000 := by rw [HZ.out]; exact hx
  have hzy : (strOf y).size ≤ 1000 := by rw [str_size]; exact hy
  have HF : Hid (∀ c, 0 ≤ findB (strOf y) c ↔ c ∈ y) := fun c => findB_lo _ _
  have HALL : Hid (less10 (x.take x.length) y = less10 x y) := by rw [List.take_length]; rfl
  have H0 : Hid (strOf (less10 (x.take 0) y) = ⟨#[]⟩) := rfl
  have HST := Lib.hid (fun k (h : k < x.length) => less10_succ (y := y) h)
  have HLE : Hid (∀ k, (strOf (less10 (x.take k) y)).size ≤ 1000) := fun k => by
    rw [str_size]
    have h1 := less10_len (x.take k) y
    have h2 := List.length_take_le' k x
    omega
  have HSN := Lib.hid (fun (a : List UInt8) (c : UInt8) => str_snoc10 a c)
  generalize strOf x = X at *
  generalize strOf y = Y at *
  go_enter Try.func155, Try.ntmps155
  go_wp2
  go_loopw [5, 9] (fun o i wr => ∃ k : Nat, k ≤ X.size ∧ i = .int .i64 k ∧ o = .string (strOf (less10 (x.take k) y)) ∧ wr = w)
    (fun _ i _ => X.size - (intOf i).toNat)
  case atStart => exact ⟨0, Nat.zero_le _, rfl, by rw [H0.out], rfl⟩
  case round =>
    obtain ⟨k, hk, rfl, rfl, rfl⟩ := hrel
    have hk0 : (0 : Int) ≤ (k : Int) := Int.natCast_nonneg _
    by_cases hlt : k < X.size
    · have hlt' : (k : Int) < (X.size : Int) := by omega
      have hk1 : (k : Int) + 1 ≤ (X.size : Int) := by omega
      have hkx : k < x.length := by have := HZ.out; omega
      have hex := HEX.out k hkx
      have hat : X[k].toNat = x[k].toNat := by rw [HAT.out k hlt hkx]
      have HS := Lib.hid (HST.out k hkx)
      have hle := HLE.out k
      have HFK := Lib.hid (HF.out x[k])
      generalize x[k] = u at *
      have hsu : (⟨#[u]⟩ : ByteArray).size = 1 := rfl
      go_wp2_with fail
      refine (l13Find_any Y u _ (by unfold maxLen; omega)).mono ?_
      rintro e w3 ⟨rfl, rfl⟩
      by_cases hf : 0 ≤ findB Y u
      · have HS1 : Hid (less10 (x.take (k + 1)) y = less10 (x.take k) y) := by
          show _ = _
          rw [HS.out, if_pos (HFK.out.1 hf), List.append_nil]
        clear HS HFK
        go_wp2
        go_roundw
        case rel => exact ⟨k + 1, by omega, by go_num, by rw [HS1.out], trivial⟩
        case measure => simp [intOf]; omega
      · have HS1 : Hid (strOf (less10 (x.take (k + 1)) y) = strOf (less10 (x.take k) y) ++ ⟨#[u]⟩) := by
          show _ = _
          rw [HS.out, if_neg (fun h => hf (HFK.out.2 h)), HSN.out]
        clear HS HFK
        generalize strOf (less10 (x.take k) y) = O at *
        generalize (⟨#[u]⟩ : ByteArray) = su at *
        go_wp2
        go_roundw
        case rel => exact ⟨k + 1, by omega, by go_num, by rw [HS1.out], trivial⟩
        case measure => simp [intOf]; omega
    · obtain rfl : k = X.size := by omega
      have hxz := HZ.out
      have HE : Hid (less10 (x.take X.size) y = less10 x y) := by rw [hxz]; exact HALL.out
      clear hxz
      go_wp2
      go_ret
      exact ⟨congrArg (fun z => Ending.returned (.string (strOf z))) HE.out, rfl⟩

theorem names_txt10 {l : List Seg} (hv : validB l = true) {js : List Nat} (hj : ∀ j ∈ js, j < l.length) : namesAt l js = strOf (js.map (byteOf l)) := by
  apply WideShapes.bytes_inj
  rw [namesAt_map hv js hj]
  rfl
theorem root_byte10 {l : List Seg} (hv : validB l = true) : rootB l = byteOf l 0 := by
  have h0 : 0 < l.length := by have := (valid_all hv).2.2; omega
  obtain ⟨s, hs, hn⟩ := root_name hv
  obtain ⟨hlt, h6⟩ := List.getElem?_eq_some_iff.1 hs
  have h1 := (nmAt_one hv h0).2
  rw [h6, hn] at h1
  have h2 := congrArg (fun x : ByteArray => x.data.toList.headD 0) h1
  exact h2
theorem less_out10 {l : List Seg} (hv : validB l = true) {T P : List Nat} (hT : ∀ j ∈ T, j < l.length) (hP : ∀ j ∈ P, j < l.length) : less10 (P.map (byteOf l)) (T.map (byteOf l) ++ [byteOf l 0]) = (outT10 T P).map (byteOf l) := by
  have h0 : 0 < l.length := by have := (valid_all hv).2.2; omega
  unfold less10 outT10
  rw [List.filter_map]
  congr 1
  refine List.filter_congr fun j hj => ?_
  have hjl := hP j hj
  show (!(T.map (byteOf l) ++ [byteOf l 0]).contains (byteOf l j)) = decide (j ∉ 0 :: T)
  have hpos : byteOf l j ∈ T.map (byteOf l) ++ [byteOf l 0] ↔ j ∈ 0 :: T := by
    rw [List.mem_append, List.mem_map, List.mem_singleton, List.mem_cons]
    constructor
    · rintro (⟨i, hi, he⟩ | he)
      · right; rw [← byteOf_inj hv (hT i hi) hjl he]; exact hi
      · left; exact byteOf_inj hv hjl h0 he
    · rintro (rfl | h)
      · exact .inr rfl
      · exact .inl ⟨j, h, rfl⟩
  rw [Bool.eq_iff_iff, Bool.not_eq_true', decide_eq_true_iff, ← Bool.not_eq_true, List.contains_iff_mem]
  exact not_congr hpos

set_option maxRecDepth 100000 in
set_option maxHeartbeats 2000000 in
theorem l7SortedBig_any (A : Option Addr) (l : List Seg) (c : Nat) (Ls : ByteArray) (w : World) (hw : Segs w w.heap.size A l) (hv : validB l = true) (hb : Ls.size ≤ 1048576) :
    Calls Try.prog 100 #[.slice A l.length c, .string Ls] w fun e w' => e = .returned (.string (sortS10 l Ls.data.toList)) ∧ Below w.heap.size w w' := by
  have HW : Hid (Segs w w.heap.size A l) := hw
  have HV := Lib.hid hv
  have h8 := (valid_all hv).2.1
  have HG : Hid (∀ i, decide (0 ≤ findB Ls (byteOf l i)) = inS10 l Ls.data.toList i) := fun i => by
    unfold inS10
    rw [decide_eq_decide, findB_lo]
  unfold sortS10
  generalize inS10 l Ls.data.toList = g at *
  clear hw hv
  go_enter Try.func100, Try.ntmps100
  go_wp2
  go_loopw [5, 10] (fun o i wr => ∃ k : Nat, k ≤ l.length ∧ i = .int .i64 k ∧ o = .string (namesAt l (selIx g k)) ∧ Hid (Below w.heap.size w wr))
    (fun _ i _ => l.length - (intOf i).toNat)
  case atStart => exact ⟨0, Nat.zero_le _, rfl, rfl, Below.refl _ _⟩
  case round =>
    obtain ⟨k2, hk2, rfl, rfl, HB2⟩ := hrel
    by_cases hlt2 : k2 < l.length
    · obtain ⟨b, o, rfl, hB, hc⟩ := HW.out (by omega)
      obtain ⟨c0, c1, c2⟩ := hc k2 l[k2] (List.getElem?_eq_getElem hlt2)
      clear hc
      rw [← HB2.out.cell hB] at c0 c1 c2
      have hn1 := (nmAt_one HV.out hlt2).2
      have HG1 := Lib.hid (HG.out k2)
      have HSK := Lib.hid (selIx_succ g k2)
      have HNS : Hid (∀ js : List Nat, namesAt l (js ++ [k2]) = namesAt l js ++ ⟨#[byteOf l k2]⟩) := fun js => by rw [← hn1]; exact namesAt_snoc js hlt2
      have hln : (namesAt l (selIx g k2)).size ≤ 1048576 := by
        have h1 := namesAt_len (valid_names HV.out) (selIx g k2)
        have h2 := selIx_len g k2
        omega
      rw [hn1] at c0
      have hb2 := HB2.out.size
      generalize byteOf l k2 = bt at *
      generalize l[k2] = sg at *
      have HBA : Hid (Below w.heap.size w (wr.alloc (.cells #[.string ⟨#[bt]⟩, .int .i64 sg.size, .int .i64 sg.par] 99))) := HB2.out.alloc hb2 _
      go_wp2_with fail
      refine (l13Find_any Ls bt _ (by unfold maxLen; omega)).mono ?_
      rintro e w3 ⟨rfl, rfl⟩
      by_cases hf : 0 ≤ findB Ls bt
      · have HS1 : Hid (selIx g (k2 + 1) = selIx g k2 ++ [k2]) := by
          show _ = _
          rw [HSK.out, ← HG1.out, decide_eq_true hf, if_pos rfl]
        clear HG1 HSK
        have hbs : (⟨#[bt]⟩ : ByteArray).size = 1 := rfl
        go_wp2
        go_roundw
        case rel => exact ⟨k2 + 1, by omega, by go_num, by rw [HS1.out, HNS.out], HBA⟩
        case measure => simp [intOf]; omega
      · have HS1 : Hid (selIx g (k2 + 1) = selIx g k2) := by
          show _ = _
          rw [HSK.out, ← HG1.out, decide_eq_false hf, if_neg (by decide), List.append_nil]
        clear HG1 HSK
        go_wp2
        go_roundw
        case rel => exact ⟨k2 + 1, by omega, by go_num, by rw [HS1.out], HBA⟩
        case measure => simp [intOf]; omega
    · obtain rfl : k2 = l.length := by omega
      go_wp2
      go_ret
      exact ⟨rfl, HB2.out⟩

set_option maxRecDepth 100000 in
set_option maxHeartbeats 2000000 in
theorem specPins_any (A : Option Addr) (l : List Seg) (c : Nat) (s : ByteArray) (w : World) (hw : Segs w w.heap.size A l) (hl : l.length ≤ 1048576) (hn : Short l) (hs : s.size ≤ 1048576) :
    Calls Try.prog 46 #[.slice A l.length c, .string s] w fun e w' => e = .returned (.bool (pinOk10 l s)) ∧ Below w.heap.size w w' := by
  have HW : Hid (Segs w w.heap.size A l) := hw
  cases hv : validB l with
  | false =>
    have HF := Lib.hid (pinOk10_bad s hv)
    clear hw
    go_enter Try.func46, Try.ntmps46
    go_wp2_with fail
    refine (specTreeValid_any _ _ _ _ HW.out hl hn).mono ?_
    rw [hv]
    rintro e w1 ⟨rfl, hb1⟩
    clear hv
    go_wp2
    go_ret
    exact ⟨ret_bool HF.out.symm, hb1⟩
  | true =>
    have HF : Hid (pinOk10 l s = ((sortS10 l s.data.toList).toList == s.toList && decide (findB s (rootB l) < 0))) := by
      show _ = _
      unfold pinOk10
      rw [hv, root_byte10 hv]
      have h1 : decide (findB s (byteOf l 0) < 0) = !inS10 l s.data.toList 0 := by
        unfold inS10
        have := findB_lo s (byteOf l 0)
        by_cases h : byteOf l 0 ∈ s.data.toList
        · rw [decide_eq_true h, decide_eq_false (by have := this.2 h; omega)]; rfl
        · rw [decide_eq_false h, decide_eq_true (Int.not_le.1 fun h2 => h (this.1 h2))]; rfl
      rw [h1]
      rfl
    have HS := Lib.hid (fun W h => l7SortedBig_any A l c s W h hv hs)
    obtain ⟨b0, o0, rfl, hB0, c0⟩ := hw.root hv
    have hlp : (0 : Int) < (l.length : Int) := by have := (valid_all hv).2.2; omega
    clear hw
    generalize sortS10 l s.data.toList = so at *
    go_enter Try.func46, Try.ntmps46
    go_wp2_with fail
    refine (specTreeValid_any _ _ _ _ HW.out hl hn).mono ?_
    rw [hv]
    rintro e w1 ⟨rfl, hb1⟩
    clear hv
    go_wp2_with fail
    refine (HS.out w1 ((HW.out.below hb1).more hb1.size)).mono ?_
    rintro e w2 ⟨rfl, hb2⟩
    have B2 := hb1.trans (hb2.mono hb1.size)
    clear hb1 hb2
    have HB2 := Lib.hid B2
    have c2 := (B2.cell (p := ⟨b0, o0, none⟩) hB0).trans c0
    clear c0 B2
    cases he : (so.toList == s.toList) with
    | false =>
      rw [he] at HF
      go_wp2
      go_ret
      exact ⟨ret_bool HF.out.symm, HB2.out⟩
    | true =>
      rw [he] at HF
      go_wp2_with fail
      refine (l13Find_any s (rootB l) _ (by unfold maxLen; omega)).mono ?_
      rintro e w3 ⟨rfl, rfl⟩
      clear he
      go_wp2
      go_ret
      exact ⟨ret_bool HF.out.symm, HB2.out⟩

set_option maxRecDepth 100000 in
set_option maxHeartbeats 2000000 in
theorem l10Path_any (A : Option Addr) (l : List Seg) (c : Nat) (T : List Nat) (i : Nat) (w : World) (hw : Segs w w.heap.size A l) (hl : l.length ≤ 1048576) (hv : validB l = true) (hT : Pins10 l T) (hi : i < l.length) :
    Calls Try.prog 139 #[.slice A l.length c, .int .i64 (i : Int), .string (namesAt l T)] w fun e w' => e = .returned (.string (namesAt l (pathT10 l T i))) ∧ Below w.heap.size w w' := by
  have HW : Hid (Segs w w.heap.size A l) := hw
  have HD := (valid_all hv).1.down
  have h8 := (valid_all hv).2.1
  have h0 : 0 < l.length := by omega
  have HDi : Hid (Down l (i + 1)) := HD.mono (by omega)
  have HO : Hid _ := valid_names hv
  have HP : Hid (pathOf l i = (rp l i).map fun j : Nat => (j : Int)) := rootPath_chain HD (i + 1) i hi (by omega)
  have hPL : ∀ j ∈ rp l i, j < l.length := rootPath_lt HD (i + 1) i hi
  have HL := Lib.hid hPL
  have hrl : (rp l i).length ≤ i + 1 := rootPath_len l (i + 1) i
  have HZ : Hid ((rp l i).length ≤ 1048577) := by show _ ≤ _; omega
  have hTl : T.length ≤ 8 := by
    rcases hT.len with h | h
    · omega
    · rw [h]; exact Nat.zero_le _
  have hr0 := root_byte10 hv
  have HT : Hid (namesAt l T ++ ⟨#[rootB l]⟩ = strOf (T.map (byteOf l) ++ [byteOf l 0])) := by
    show _ = _
    rw [hr0, names_txt10 hv hT.lt]
    exact bytes_cat _ _
  have HLS := Lib.hid (fun W => l8Less10_any ((rp l i).map (byteOf l)) (T.map (byteOf l) ++ [byteOf l 0]) W (by rw [List.length_map]; omega) (by rw [List.length_append, List.length_map, List.length_singleton]; omega))
  rw [less_out10 hv hT.lt hPL, ← names_txt10 hv hPL, ← HT.out, ← names_txt10 hv (outT10_lt HD T hi)] at HLS
  have hsz : (namesAt l T).size ≤ 8 := by
    rw [names_size hv hT.lt]; exact hTl
  obtain ⟨b0, o0, rfl, hB0, c0⟩ := hw.root hv
  have hb1 : (⟨#[rootB l]⟩ : ByteArray).size = 1 := rfl
  clear hw hv hT hPL hrl hTl hr0 HT HD
  unfold pathT10
  generalize namesAt l (outT10 T (rp l i)) = R at *
  generalize namesAt l T = pt at *
  generalize (⟨#[rootB l]⟩ : ByteArray) = br at *
  go_enter Try.func139, Try.ntmps139
  go_wp2_with fail
  refine (l1Path_any _ _ _ _ _ HW.out hl hi HDi.out).mono ?_
  rw [HP.out]
  rintro e w2 ⟨g2, cap2, rfl, hown2, hb2⟩
  rw [List.length_map] at hown2 ⊢
  have HO2 := Lib.hid hown2
  have HB2 := Lib.hid hb2
  have c2 := (hb2.cell (p := ⟨b0, o0, none⟩) hB0).trans c0
  clear hown2 hb2 c0
  go_wp2_with fail
  refine (l1Names_any _ _ _ _ _ _ _ _ ((HW.out.below HB2.out).more HB2.out.size) hl HO.out HL.out HZ.out HO2.out).mono ?_
  rintro e w3 ⟨rfl, rfl⟩
  clear HL HO HP HZ HO2 HDi
  generalize namesAt l (rp l i) = pth at *
  go_wp2_with fail
  refine (HLS.out _).mono ?_
  rintro e w4 ⟨rfl, rfl⟩
  go_wp2
  go_ret
  exact ⟨rfl, HB2.out⟩

theorem deep10_pos {l : List Seg} (hv : validB l = true) (T : List Nat) {k : Nat} (hk : k < l.length) : szs l (outT10 T (rp l k)) ≤ 792 ∧ 0 ≤ szs l (outT10 T (rp l k)) := by
  have h2 := szs_pos10 hv (outT10_lt (valid_all hv).1.down T hk)
  have h3 := outT10_len T hk
  have h4 := (valid_all hv).2.1
  omega

set_option maxRecDepth 100000 in
set_option maxHeartbeats 2000000 in
theorem l10Room_any (A : Option Addr) (l : List Seg) (c : Nat) (T : List Nat) (w : World) (hw : Segs w w.heap.size A l) (hl : l.length ≤ 1048576) (hn : Short l) (hv : validB l = true) (hT : Pins10 l T) :
    Calls Try.prog 99 #[.slice A l.length c, .string (namesAt l T)] w fun e w' => e = .returned (.int .i64 (room10 l T)) ∧ Below w.heap.size w w' := by
  have HW : Hid (Segs w w.heap.size A l) := hw
  have HV := Lib.hid hv
  have HT := Lib.hid hT
  have h8 := (valid_all hv).2.1
  have h0 : 0 < l.length := by have := (valid_all hv).2.2; omega
  have hps : (namesAt l T).size ≤ 1048576 := by
    rw [names_size hv hT.lt]
    rcases hT.len with h | h
    · omega
    · rw [h]; exact Nat.zero_le _
  have HCT : Hid (costB l (namesAt l T) = szs l T) := costB_names hv hT.lt
  obtain ⟨b0, o0, rfl, hB0, hc⟩ := hw h0
  obtain ⟨-, c1, -⟩ := hc 0 l[0] (List.getElem?_eq_getElem h0)
  simp only [Nat.zero_mul, Nat.add_zero] at c1
  rw [← sizeAt_of h0] at c1
  obtain ⟨z1, z2⟩ := sizeAt_bd hv h0
  obtain ⟨r1, r2, -, -⟩ := room10_bd hv hT
  have HCO := Lib.hid (fun W (h : Segs W W.heap.size (some ⟨b0, o0, none⟩) l) => specCost_any (some ⟨b0, o0, none⟩) l c (namesAt l T) W h hl hn hps)
  rw [HCT.out] at HCO
  have HR : Hid (sizeAt l 0 + szs l T + deep10 l T l.length = room10 l T) := rfl
  clear hw hv hT hc
  go_enter Try.func99, Try.ntmps99
  go_wp2
  go_loopw [5, 9] (fun d i wr => ∃ k : Nat, k ≤ l.length ∧ i = .int .i64 k ∧ d = .int .i64 (deep10 l T k) ∧ Hid (Below w.heap.size w wr))
    (fun _ i _ => l.length - (intOf i).toNat)
  case atStart => exact ⟨0, Nat.zero_le _, rfl, rfl, Below.refl _ _⟩
  case round =>
    obtain ⟨k, hk, rfl, rfl, HB⟩ := hrel
    have hk0 : (0 : Int) ≤ (k : Int) := Int.natCast_nonneg _
    obtain ⟨d1, d2⟩ := deep10_bd HV.out T k hk
    by_cases hlt : k < l.length
    · have HDN : Hid (max (deep10 l T k) (szs l (outT10 T (rp l k))) = deep10 l T (k + 1)) := rfl
      have HL := Lib.hid (outT10_lt (valid_all HV.out).1.down T hlt)
      have HC : Hid (costB l (namesAt l (pathT10 l T k)) = szs l (outT10 T (rp l k))) := costB_names HV.out HL.out
      have hpz : (namesAt l (pathT10 l T k)).size ≤ 1048576 := by
        have h1 : (namesAt l (pathT10 l T k)).size = (outT10 T (rp l k)).length := names_size HV.out HL.out
        have h2 := outT10_len T hlt
        omega
      obtain ⟨q1, q2⟩ := deep10_pos HV.out T hlt
      go_wp2_with fail
      refine (l10Path_any _ l c T k _ ((HW.out.below HB.out).more HB.out.size) hl HV.out HT.out hlt).mono ?_
      rintro e w2 ⟨rfl, hb2⟩
      have HB2 := Lib.hid (HB.out.trans (hb2.mono HB.out.size))
      clear hb2 HB
      generalize namesAt l (pathT10 l T k) = pth at *
      go_wp2_with fail
      refine (specCost_any _ l c pth _ ((HW.out.below HB2.out).more HB2.out.size) hl hn hpz).mono ?_
      rw [HC.out]
      rintro e w3 ⟨rfl, hb3⟩
      have HB3 := Lib.hid (HB2.out.trans (hb3.mono HB2.out.size))
      clear hb3 HB2 HC
      have HDX : Hid (∀ z : Int, z = max (deep10 l T k) (szs l (outT10 T (rp l k))) → z = deep10 l T (k + 1)) := fun z h => h.trans HDN.out
      clear HDN
      generalize szs l (outT10 T (rp l k)) = y at *
      generalize deep10 l T k = x at *
      go_wp2
      go_roundw
      case rel => exact ⟨k + 1, by omega, by go_num, congrArg (Value.int .i64) (HDX.out _ (by first | rfl | omega)), HB3⟩
      case measure => simp [intOf]; omega
    · obtain rfl : k = l.length := by omega
      generalize namesAt l T = pt at *
      generalize deep10 l T l.length = d at *
      generalize szs l T = st at *
      generalize sizeAt l 0 = s0 at *
      have HC2 : Hid (∀ W, Below w.heap.size w W → W.cell? ⟨b0, o0 + 1, none⟩ = some (.int .i64 s0)) := fun W h => (h.cell (p := ⟨b0, o0 + 1, none⟩) hB0).trans c1
      have hwa : IntKind.i64.wrap (s0 + st) = s0 + st := IntWalk.i64_in _ (by omega)
      have hwb : IntKind.i64.wrap (s0 + st + d) = s0 + st + d := IntWalk.i64_in _ (by omega)
      have HBd := Lib.hid HB.out.drew
      clear c1
      go_wp2_with fail
      refine wp_region_held_drew (S := (fun W => Below w.heap.size w W)) (by kernel_rfl) ?_ (fun hHeld => ?_)
      · exact HBd.out
      refine take_at (i := 0) (d := 21) (v := .slice (some ⟨b0, o0, none⟩) l.length c) rfl rfl (by kernel_rfl) (by kernel_rfl) (by kernel_rfl) (fun _ _ _ h => h) (by kernel_rfl) (by (intro w hSw; (try dsimp only at hSw); go_simp)) (by assumption) ?_
      simp only [List.setIfInBounds_toArray, List.set_cons_succ, List.set_cons_zero]
      refine take_at (i := 1) (d := 22) (v := .pointer (some ⟨b0, o0, none⟩)) rfl rfl (by kernel_rfl) (by kernel_rfl) (by kernel_rfl) (fun _ _ _ h => h) (by kernel_rfl) ((by (intro W hS; go_simp))) (by assumption) ?_
      simp only [List.setIfInBounds_toArray, List.set_cons_succ, List.set_cons_zero]
      refine take_at (i := 2) (d := 23) (v := .pointer (some ⟨b0, o0 + 1, none⟩)) rfl rfl (by kernel_rfl) (by kernel_rfl) (by kernel_rfl) (fun _ _ _ h => h) (by kernel_rfl) (by (intro w hSw; (try dsimp only at hSw); go_simp)) (by assumption) ?_
      simp only [List.setIfInBounds_toArray, List.set_cons_succ, List.set_cons_zero]
      refine take_at (i := 3) (d := 24) (v := .int .i64 s0) rfl rfl (by kernel_rfl) (by kernel_rfl) (by kernel_rfl) (fun _ _ _ h => h) (by kernel_rfl) ((by (intro W hS; have hcW := HC2.out W hS; go_simp))) (by assumption) ?_
      simp only [List.setIfInBounds_toArray, List.set_cons_succ, List.set_cons_zero]
      refine take_at (i := 4) (d := 25) (v := .slice (some ⟨b0, o0, none⟩) l.length c) rfl rfl (by kernel_rfl) (by kernel_rfl) (by kernel_rfl) (fun _ _ _ h => h) (by kernel_rfl) (by (intro w hSw; (try dsimp only at hSw); go_simp)) (by assumption) ?_
      simp only [List.setIfInBounds_toArray, List.set_cons_succ, List.set_cons_zero]
      refine take_at (i := 5) (d := 26) (v := .string pt) rfl rfl (by kernel_rfl) (by kernel_rfl) (by kernel_rfl) (fun _ _ _ h => h) (by kernel_rfl) (by (intro w hSw; (try dsimp only at hSw); go_simp)) (by assumption) ?_
      simp only [List.setIfInBounds_toArray, List.set_cons_succ, List.set_cons_zero]
      refine take_at (i := 8) (d := 29) (v := .int .i64 d) rfl rfl (by kernel_rfl) (by kernel_rfl) (by kernel_rfl) (fun _ _ _ h => h) (by kernel_rfl) (by (intro w hSw; (try dsimp only at hSw); go_simp)) (by assumption) ?_
      simp only [List.setIfInBounds_toArray, List.set_cons_succ, List.set_cons_zero]
      refine wpAnyH_ready (rs := [6]) (by kernel_rfl) (by simp) ?_
      refine AllReadyH.cons rfl (fun K hK => ?_) AllReadyH.nil
      go_simp
      refine Calls.mono (HCO.out _ ((HW.out.below hHeld).more hHeld.size)) ?_
      rintro e w3 ⟨rfl, hb2⟩
      have hs2 : Below w.heap.size w w3 := hHeld.trans (hb2.mono hHeld.size)
      clear hb2 hHeld
      refine hK.out _ _ hs2 (fun hHeld => ?_)
      clear hK K hs2
      refine take_at (i := 7) (d := 28) (v := .int .i64 (s0 + st)) rfl rfl (by kernel_rfl) (by kernel_rfl) (by kernel_rfl) (fun _ _ _ h => h) (by kernel_rfl) (by (intro w hSw; (try dsimp only at hSw); go_simp)) (by assumption) ?_
      simp only [List.setIfInBounds_toArray, List.set_cons_succ, List.set_cons_zero]
      refine take_at (i := 9) (d := 30) (v := .int .i64 (s0 + st + d)) rfl rfl (by kernel_rfl) (by kernel_rfl) (by kernel_rfl) (fun _ _ _ h => h) (by kernel_rfl) (by (intro w hSw; (try dsimp only at hSw); go_simp)) (by assumption) ?_
      simp only [List.setIfInBounds_toArray, List.set_cons_succ, List.set_cons_zero]
      refine take_at (i := 10) (d := 4) (v := .int .i64 (s0 + st + d)) rfl rfl (by kernel_rfl) (by kernel_rfl) (by kernel_rfl) (fun _ _ _ h => h) (by kernel_rfl) (by (intro w hSw; (try dsimp only at hSw); go_simp)) (by assumption) ?_
      simp only [List.setIfInBounds_toArray, List.set_cons_succ, List.set_cons_zero]
      refine wpAnyH_done (by kernel_rfl) ?_ _
      have HBE : Hid (Below w.heap.size w w3) := hHeld
      clear hHeld
      go_wp2
      go_ret
      exact ⟨ret_int HR.out, HBE.out⟩

end Go.Proofs.Ytcpiojliakgdlaa
/- The reference: loads and costs of a run in which segments stay. -/

namespace Go.Proofs.Ytcpiojliakgdlaa
open Go.RowKit

/-- The room that a tree takes in which segments stay. -/
def prRes10 (l : List Seg) (s : ByteArray) : Int := if pinOk10 l s = true then room10 l (pinT10 l s) else -1

set_option maxRecDepth 100000 in
set_option maxHeartbeats 1000000 in
theorem specPinRoom_any (A : Option Addr) (l : List Seg) (c : Nat) (s : ByteArray) (w : World) (hw : Segs w w.heap.size A l) (hl : l.length ≤ 1048576) (hn : Short l) (hs : s.size ≤ 1048576) :
    Calls Try.prog 45 #[.slice A l.length c, .string s] w fun e w' => e = .returned (.int .i64 (prRes10 l s)) ∧ Below w.heap.size w w' := by
  have HW : Hid (Segs w w.heap.size A l) := hw
  have HPI := Lib.hid (fun W h => specPins_any A l c s W h hl hn hs)
  clear hw
  cases hp : pinOk10 l s with
  | false =>
    have HF : Hid (prRes10 l s = -1) := if_neg (by rw [hp]; decide)
    rw [hp] at HPI
    rw [HF.out]
    clear hp
    go_enter Try.func45, Try.ntmps45
    go_wp2_with fail
    refine (HPI.out _ HW.out).mono ?_
    rintro e w1 ⟨rfl, hb1⟩
    go_wp2
    go_ret
    exact ⟨rfl, hb1⟩
  | true =>
    have HF : Hid (prRes10 l s = room10 l (pinT10 l s)) := if_pos hp
    obtain ⟨hv, hpp, hpn⟩ := pinOk10_pins hp
    have HRO := Lib.hid (fun W h => l10Room_any A l c (pinT10 l s) W h hl hn hv hpp)
    rw [hpn] at HRO
    rw [hp] at HPI
    rw [HF.out]
    clear hp hv hpp hpn HF
    generalize room10 l (pinT10 l s) = x at *
    go_enter Try.func45, Try.ntmps45
    go_wp2_with fail
    refine (HPI.out _ HW.out).mono ?_
    rintro e w1 ⟨rfl, hb1⟩
    go_wp2_with fail
    refine (HRO.out _ ((HW.out.below hb1).more hb1.size)).mono ?_
    rintro e w2 ⟨rfl, hb2⟩
    have B2 := hb1.trans (hb2.mono hb1.size)
    clear hb1 hb2
    go_wp2
    go_ret
    exact ⟨rfl, B2⟩

end Go.Proofs.Ytcpiojliakgdlaa
/- The room that pins take, and all pins that fit: what the law FnPinRoom asks; plain. -/
namespace Go.Proofs.Ytcpiojliakgdlaa
open Go.RowKit

theorem room10_more {l : List Seg} (hv : validB l = true) : ∀ (V T : List Nat), (∀ x ∈ V, x < l.length) → room10 l T ≤ room10 l (T ++ V)
  | [], T, _ => by rw [List.append_nil]; exact Int.le_refl _
  | x :: V, T, h => by
    have h1 := room10_mono hv T (h x List.mem_cons_self)
    have h2 := room10_more hv V (T ++ [x]) (fun y hy => h y (List.mem_cons_of_mem _ hy))
    rw [List.append_assoc] at h2
    exact Int.le_trans h1 h2
theorem allR_none10 {fits : List Nat → Bool} {P : Nat → Prop} (h : ∀ T x, P x → fits (T ++ [x]) = true → fits T = true) : ∀ (xs T : List Nat), (∀ x ∈ xs, P x) → fits T = false → allR10 fits T xs = []
  | [], _, _, _ => rfl
  | x :: xs, T, hP, hT => by
    have h1 : fits (T ++ [x]) = false := by
      cases h2 : fits (T ++ [x]) with
      | false => rfl
      | true => rw [h T x (hP x List.mem_cons_self) h2] at hT; cases hT
    have hP2 : ∀ y ∈ xs, P y := fun y hy => hP y (List.mem_cons_of_mem _ hy)
    rw [allR10_cons, all10, allR_none10 h xs _ hP2 h1, allR_none10 h xs _ hP2 hT, h1]
    rfl

/-- Where none stays, the room is that of the tree. -/
theorem out_none10 {l : List Seg} (hv : validB l = true) {i : Nat} (hi : i < l.length) : endAt l i = sizeAt l 0 + szs l (outT10 [] (rp l i)) := by
  obtain ⟨A, hA⟩ := rp_head (valid_all hv).1 i hi
  have h1 := rp_asc (valid_all hv).1.down i hi
  rw [hA] at h1
  have h2 : outT10 [] (rp l i) = A := by
    unfold outT10
    rw [hA, List.filter_cons, if_neg (by simp)]
    refine List.filter_eq_self.2 fun j hj => ?_
    have := (List.pairwise_cons.1 h1).1 j hj
    simp
    omega
  unfold endAt
  rw [h2, hA]
  simp [szs]
theorem deep_none10 {l : List Seg} (hv : validB l = true) : ∀ k, k < l.length → roomTo l (k + 1) = sizeAt l 0 + deep10 l [] (k + 1)
  | 0, h => by
    have h1 := out_none10 hv h
    have h2 := sizeAt_bd hv h
    have h3 : outT10 [] (rp l 0) = [] := by
      obtain ⟨A, hA⟩ := rp_head (valid_all hv).1 0 h
      have h4 := rp_le (valid_all hv).1.down 0 h
      have h5 := rp_asc (valid_all hv).1.down 0 h
      rw [hA] at h4 h5
      rw [hA]
      cases A with
      | nil => rfl
      | cons y ys =>
        have := h4 y (by simp)
        have := (List.pairwise_cons.1 h5).1 y (by simp)
        omega
    rw [h3] at h1
    have h6 : szs l [] = 0 := rfl
    show max 0 (endAt l 0) = sizeAt l 0 + max 0 (szs l (outT10 [] (rp l 0)))
    rw [h3]
    omega
  | k + 1, h => by
    have h1 := deep_none10 hv k (by omega)
    have h2 := out_none10 hv h
    show max (roomTo l (k + 1)) (endAt l (k + 1)) = sizeAt l 0 + max (deep10 l [] (k + 1)) (szs l (outT10 [] (rp l (k + 1))))
    omega
theorem room_none10 {l : List Seg} (hv : validB l = true) : room10 l [] = roomB l := by
  have h1 := (valid_all hv).2.2
  have h2 := deep_none10 hv (l.length - 1) (by omega)
  rw [show l.length - 1 + 1 = l.length by omega] at h2
  have h3 : roomB l = roomTo l l.length := if_pos hv
  have h4 : szs l [] = 0 := rfl
  unfold room10
  omega

/-- Where all stay, it is the sum of all. -/
theorem parts_sum10 {l : List Seg} (f : Nat → Bool) (h0 : f 0 = false) : ∀ k, k < l.length → szs l (selIx f (k + 1)) + szs l (selIx (fun i => !f i && !decide (i = 0)) (k + 1)) + sizeAt l 0 = sumTo l (k + 1)
  | 0, h => by
    have h1 : selIx f 1 = [] := by rw [selIx_succ, h0]; rfl
    have h2 : selIx (fun i => !f i && !decide (i = 0)) 1 = [] := by rw [selIx_succ]; simp [selIx]
    have h3 : szs l [] = 0 := rfl
    rw [h1, h2, sumTo_succ h, sizeAt_of h]
    simp [sumTo, szs]
  | k + 1, h => by
    have h1 := parts_sum10 (l := l) f h0 k (by omega)
    rw [sumTo_succ h, ← h1, selIx_succ f (k + 1), selIx_succ (fun i => !f i && !decide (i = 0)) (k + 1), szs_append, szs_append]
    have h2 := sizeAt_of h
    have h3 : szs l [] = 0 := rfl
    have h4 : szs l [k + 1] = sizeAt l (k + 1) := by simp [szs]
    cases hf : f (k + 1) with
    | true => rw [if_pos rfl, if_neg (by simp)]; omega
    | false => rw [if_neg (by decide), if_pos (by simp)]; omega
theorem deep_all10 {l : List Seg} {T : List Nat} (hd : Down l l.length) (hT : ∀ j, j < l.length → j ∈ 0 :: T) : ∀ k, k ≤ l.length → deep10 l T k = 0
  | 0, _ => rfl
  | k + 1, h => by
    have h1 := deep_all10 (l := l) (T := T) hd hT k (by omega)
    have h2 : outT10 T (rp l k) = [] := by
      refine List.filter_eq_nil_iff.2 fun j hj => ?_
      have h3 := rp_le (l := l) hd k (by omega) j hj
      have h4 := hT j (by omega)
      simp only [decide_eq_true_eq]
      exact fun h => h h4
    unfold deep10
    rw [h1, h2]
    rfl
theorem room10_top {l : List Seg} (hv : validB l = true) {f : Nat → Bool} (h0 : f 0 = false) : room10 l (selIx f l.length) ≤ sumTo l l.length := by
  have h1 := (valid_all hv).2.2
  have h2 := parts_sum10 (l := l) f h0 (l.length - 1) (by omega)
  rw [show l.length - 1 + 1 = l.length by omega] at h2
  have h3 := room10_more hv (selIx (fun i => !f i && !decide (i = 0)) l.length) (selIx f l.length) (fun x hx => selIx_lt hx)
  have h4 : deep10 l (selIx f l.length ++ selIx (fun i => !f i && !decide (i = 0)) l.length) l.length = 0 := deep_all10 (l := l) (T := selIx f l.length ++ selIx (fun i => !f i && !decide (i = 0)) l.length) (valid_all hv).1.down (fun j hj => by
    by_cases hj0 : j = 0
    · rw [hj0]; exact List.mem_cons_self
    · refine List.mem_cons_of_mem _ (List.mem_append.2 ?_)
      cases hf : f j with
      | true => exact .inl (selIx_mem10.2 ⟨hj, hf⟩)
      | false => exact .inr (selIx_mem10.2 ⟨hj, by simp [hf, hj0]⟩)) l.length (Nat.le_refl _)
  have h5 := szs_append l (selIx f l.length) (selIx (fun i => !f i && !decide (i = 0)) l.length)
  unfold room10 at h3 ⊢
  omega

/-- What the law says of pins. -/
theorem pin_says10 {l : List Seg} {s : ByteArray} : decide (0 ≤ prRes10 l s) = pinOk10 l s ∧ (pinOk10 l s = false → prRes10 l s = -1) ∧ (pinOk10 l s = true → roomB l ≤ prRes10 l s ∧ prRes10 l s ≤ totalB l ∧ (s = ⟨#[]⟩ → prRes10 l s = roomB l)) := by
  cases h : pinOk10 l s with
  | false =>
    have h1 : prRes10 l s = -1 := if_neg (by rw [h]; decide)
    rw [h1]
    exact ⟨rfl, fun _ => rfl, fun h => nomatch h⟩
  | true =>
    have h1 : prRes10 l s = room10 l (pinT10 l s) := if_pos h
    obtain ⟨hv, hT, hn⟩ := pinOk10_pins h
    have h2 := room10_bd hv hT
    have h3 := room10_more hv (pinT10 l s) [] hT.lt
    rw [List.nil_append, room_none10 hv] at h3
    have h4 : totalB l = sumTo l l.length := if_pos hv
    have h5 : inS10 l s.data.toList 0 = false := by
      cases h6 : inS10 l s.data.toList 0 with
      | false => rfl
      | true =>
        have := (hT.2 0 (selIx_mem10.2 ⟨by have := (valid_all hv).2.2; omega, h6⟩)).1
        omega
    have h7 : room10 l (pinT10 l s) ≤ sumTo l l.length := room10_top hv h5
    rw [h1]
    refine ⟨decide_eq_true h2.2.2.1, (fun h => nomatch h), fun _ => ⟨h3, by omega, fun hs => ?_⟩⟩
    have h8 : pinT10 l s = [] := by
      rw [hs]
      refine List.filter_eq_nil_iff.2 fun j hj => ?_
      simp [inS10]
    rw [h8, room_none10 hv]

/-- What it says of all pins that fit. -/
theorem all_says10 {l : List Seg} {room : Int} {p : ByteArray} (h : p ∈ pinTexts10 l room) : pinOk10 l p = true ∧ prRes10 l p ≤ room := by
  unfold pinTexts10 at h
  split at h
  · obtain ⟨U, hU, rfl⟩ := List.mem_map.1 h
    obtain ⟨h1, h2⟩ := pinsAll10_pins hU
    obtain ⟨h3, h4⟩ := pins_of10 (by assumption) h1
    refine ⟨h3, ?_⟩
    unfold prRes10
    rw [if_pos h3, h4]
    exact h2
  · cases h
theorem all_some10 {l : List Seg} (hv : validB l = true) (room : Int) : decide (0 < (pinTexts10 l room).length) = decide (roomB l ≤ room) := by
  have h1 : pinTexts10 l room = (pinsAll10 l room).map (namesAt l) := if_pos hv
  have h2 := room_none10 hv
  rw [h1, List.length_map]
  by_cases h : roomB l ≤ room
  · have h3 : fits10 l room [] = true := decide_eq_true (by omega)
    have h4 : 0 < (pinsAll10 l room).length := by
      unfold pinsAll10 all10
      rw [if_pos h3]
      simp
    rw [decide_eq_true h, decide_eq_true h4]
  · have h3 : fits10 l room [] = false := decide_eq_false (by omega)
    have h4 : pinsAll10 l room = [] := by
      unfold pinsAll10 all10
      rw [if_neg (by rw [h3]; decide), allR_none10 (P := fun x => x < l.length) (fun T x hxl hx => ?_) _ _ (fun x hx => ((rest10_asc l.length).2 x hx).2) h3]
      · rfl
      · have h5 := room10_mono hv T hxl
        have h6 : room10 l (T ++ [x]) ≤ room := of_decide_eq_true hx
        exact decide_eq_true (by omega)
    rw [h4, decide_eq_false h]
    rfl

end Go.Proofs.Ytcpiojliakgdlaa
/- The program's PinRoom. -/
namespace Go.Proofs.Ytcpiojliakgdlaa
open Go.RowKit

set_option maxRecDepth 100000 in
set_option maxHeartbeats 1000000 in
theorem pinRoom_any (A : Option Addr) (l : List Seg) (c : Nat) (s : ByteArray) (w : World) (hw : Segs w w.heap.size A l) (hl : l.length ≤ 1048576) (hlc : l.length ≤ c) (hcm : c ≤ 9223372036854775807) (hn : Short l) (hs : s.size ≤ 1048576) :
    Calls Try.prog 40 #[.slice A l.length c, .string s] w fun e w' => e = .returned (.int .i64 (prRes10 l s)) ∧ Below w.heap.size w w' := by
  have HW : Hid (Segs w w.heap.size A l) := hw
  clear hw
  cases hv : validB l with
  | false =>
    have HF : Hid (prRes10 l s = -1) := if_neg (by rw [pinOk10_bad s hv]; decide)
    have HFB := Lib.hid (fun W => findPins_bad s W hs)
    go_enter Try.func40, Try.ntmps40
    go_wp2_with fail
    refine (nodesOf_bad _ _ _ _ HW.out hl hlc hcm hn hv).mono ?_
    rintro e w1 ⟨rfl, hb1⟩
    clear hv
    go_wp2_with fail
    refine (HFB.out _).mono ?_
    rintro e w2 ⟨rfl, rfl⟩
    go_wp2
    go_ret
    exact ⟨ret_int HF.out.symm, hb1⟩
  | true =>
    have HFP := Lib.hid (fun B g nb cv W h => findPins_any B g l nb cv s W h hv hs)
    have HNO := Lib.hid (fun W h => nodesOf_any A l c W h hl hlc hcm hn hv)
    cases hp : pinOk10 l s with
    | false =>
      have HF : Hid (prRes10 l s = -1) := if_neg (by rw [hp]; decide)
      rw [hp] at HFP
      generalize (stay10 l s : Int) = y at *
      clear hv hn hp
      go_enter Try.func40, Try.ntmps40
      go_wp2_with fail
      refine (HNO.out _ HW.out).mono ?_
      rintro e w1 ⟨g, nb, cv, rfl, hN, hb1⟩
      have HN := Lib.hid hN
      clear hN
      go_wp2_with fail
      refine (HFP.out _ _ _ _ _ HN.out).mono ?_
      rintro e w2 ⟨rfl, hb2⟩
      have B2 := hb1.trans (hb2.mono hb1.size)
      clear hb1 hb2
      go_wp2
      go_ret
      exact ⟨ret_int HF.out.symm, B2⟩
    | true =>
      have HF : Hid (prRes10 l s = room10 l (pinT10 l s)) := if_pos hp
      have HS : Hid (stay10 l s = setF (memF (0 :: pinT10 l s))) := if_pos hp
      have HRW := Lib.hid (fun W h => roomWith_any A l c (pinT10 l s) W h hl hlc hcm hn hv (pinOk10_pins hp).2.1)
      rw [hp, HS.out] at HFP
      generalize (setF (memF (0 :: pinT10 l s)) : Int) = y at *
      clear hv hn hp HS
      go_enter Try.func40, Try.ntmps40
      go_wp2_with fail
      refine (HNO.out _ HW.out).mono ?_
      rintro e w1 ⟨g, nb, cv, rfl, hN, hb1⟩
      have HN := Lib.hid hN
      clear hN
      go_wp2_with fail
      refine (HFP.out _ _ _ _ _ HN.out).mono ?_
      rintro e w2 ⟨rfl, hb2⟩
      have B2 := hb1.trans (hb2.mono hb1.size)
      clear hb1 hb2
      go_wp2_with fail
      refine (HRW.out _ ((HW.out.below B2).more B2.size)).mono ?_
      rintro e w3 ⟨rfl, hb3⟩
      have B3 := B2.trans (hb3.mono B2.size)
      clear B2 hb3
      go_wp2
      go_ret
      exact ⟨ret_int HF.out.symm, B3⟩

end Go.Proofs.Ytcpiojliakgdlaa
