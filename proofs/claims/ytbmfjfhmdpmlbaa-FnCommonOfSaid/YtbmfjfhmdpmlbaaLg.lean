/- The law FnCommonOf: up to a segment and not behind it; two paths begin alike. -/
import Derived.Test.YtbmfjfhmdpmlbaaCq
import Derived.Test.YtbmfjfhmdpmlbaaDp
import Derived.BigQuiet
namespace Go.Proofs.Ytbmfjfhmdpmlbaa
open Go.RowKit

set_option maxRecDepth 100000 in
set_option maxHeartbeats 1000000 in
theorem soBegins_yes (s p : ByteArray) (w : World) (_ : s.size ≤ 1048576) (hle : p.size ≤ s.size) (h : s.data.toList.take p.size = p.data.toList) :
    Calls Try.prog 33 #[.string s, .string p] w fun e w' => e = .returned (.bool true) ∧ w' = w := by
  have hle' : (p.size : Int) ≤ (s.size : Int) := by omega
  have g1 : decide (p.size ≤ s.size) = true := decide_eq_true hle
  have hcut : s.extract 0 p.size = p := by
    apply ByteArray.ext
    apply Array.ext'
    rw [ByteArray.data_extract, Array.toList_extract]
    simpa using h
  have hsame : ((s.extract 0 p.size).data.toList == p.data.toList) = true := by rw [hcut]; simp
  have HC := Lib.hid hcut
  clear h hcut
  go_enter Try.func33, Try.ntmps33
  go_wp2
  go_ret
  exact ⟨ret_bool (by rw [HC.out]; simp), rfl⟩

theorem short8 {l : List Seg} (h : ∀ s ∈ l, s.name.size ≤ 8) : Short l := fun s hs => Nat.le_trans (h s hs) (by decide)

set_option maxRecDepth 100000 in
set_option maxHeartbeats 2000000 in
theorem commonLaw_any (hgood : GoodSaid) (A0 : Option Addr) (n c0 : Nat) (w : World) (hn : n ≤ c0) (hm : n ≤ maxLen) (hx : ∀ b, w.heap.size ≤ b → Bytes w b A0 n) :
    Calls Try.prog 4 #[.slice A0 n c0] w fun e w' => e = .returned (.bool true) ∧ Below w.heap.size w w' := by
  unfold maxLen at hm
  by_cases hbig : 1048576 < n
  · clear hx hgood
    go_enter Try.func4, Try.ntmps4
    go_wp2
    go_ret
    exact ⟨rfl, Below.refl _ _⟩
  have HD := Lib.hid (drawCommonOf_plain hgood A0 n c0 w hn hx)
  clear hx hgood
  go_enter Try.func4, Try.ntmps4
  go_wp2_with fail
  refine Calls.mono HD.out ?_
  rintro e w1 ⟨A, l, c, x, y, rfl, ⟨hS, ⟨hl9, hlc, hcm⟩, hsh⟩, hx2, hy2, hb1⟩
  have hl : l.length ≤ 1048576 := by omega
  have HSH := Lib.hid (short8 hsh)
  have HS : Hid (Segs w1 w1.heap.size A l) := hS
  have HB1 : Hid (Below w.heap.size w w1) := hb1
  have HI := Lib.hid (fun s t w h => commonOf_any A l c s t w h hl hlc hcm HSH.out)
  have HSP := Lib.hid (fun s t w h => specCommon_any A l c s t w h hl HSH.out)
  have HP := Lib.hid (fun s w h => pathOf_any A l c s w h hl hlc hcm HSH.out)
  have HI2 : Hid (∀ w, Segs w w.heap.size A l → Calls Try.prog 31 #[.slice A l.length c, .string y, .string x] w fun e w' => e = .returned (.tuple #[.string (comStr l x y), .bool (comOk l x y)]) ∧ Below w.heap.size w w') := by
    show ∀ w, _
    intro w h
    have h1 := HI.out y x w h
    rw [comStr_sym l x y, comOk_sym l x y] at h1
    exact h1
  clear hS hb1 HD hsh hx2 hy2 hl9
  cases hok : comOk l x y with
  | false =>
    have e1 := comStr_bad hok
    have K1 := Lib.hid (fun w h => HI.out x y w h)
    have K2 := Lib.hid (fun w h => HSP.out x y w h)
    have K3 := Lib.hid (fun w h => HI2.out w h)
    rw [e1, hok] at K1 K2 K3
    clear HI HSP HI2 HP e1 hok
    go_wp2_with fail
    refine (K1.out _ HS.out).mono ?_
    rintro e w2 ⟨rfl, hb2⟩
    have HS2 : Hid (Segs w2 w2.heap.size A l) := (HS.out.below hb2).more hb2.size
    have HB2 : Hid (Below w.heap.size w w2) := HB1.out.trans (hb2.mono HB1.out.size)
    clear hb2 HS HB1
    go_wp2_with fail
    refine (K2.out _ HS2.out).mono ?_
    rintro e w3 ⟨rfl, hb3⟩
    have HS3 : Hid (Segs w3 w3.heap.size A l) := (HS2.out.below hb3).more hb3.size
    have HB3 : Hid (Below w.heap.size w w3) := HB2.out.trans (hb3.mono HB2.out.size)
    clear hb3 HS2 HB2
    go_wp2_with fail
    refine (K3.out _ HS3.out).mono ?_
    rintro e w4 ⟨rfl, hb4⟩
    have HB4 : Hid (Below w.heap.size w w4) := HB3.out.trans (hb4.mono HB3.out.size)
    clear hb4 HS3 HB3
    go_wp2
    go_ret
    exact ⟨rfl, HB4.out⟩
  | true =>
    have hs : 0 ≤ indexB l x := by
      unfold comOk hasSeg at hok
      simp at hok
      exact hok.1
    have ht : 0 ≤ indexB l y := by
      unfold comOk hasSeg at hok
      simp at hok
      exact hok.2
    have HAL := Lib.hid (alike hs ht)
    have hz : (pathStr l x).size ≤ 1048576 := by have := (pathStr_size hs); omega
    have hz2 : (pathStr l y).size ≤ 1048576 := by have := (pathStr_size ht); omega
    have K1 := Lib.hid (fun w h => HI.out x y w h)
    have K2 := Lib.hid (fun w h => HSP.out x y w h)
    have K3 := Lib.hid (fun w h => HI2.out w h)
    rw [hok] at K1 K2 K3
    have P1 := Lib.hid (fun w h => HP.out x w h)
    have P2 := Lib.hid (fun w h => HP.out y w h)
    have P3 := Lib.hid (fun w h => HP.out (comStr l x y) w h)
    clear HI HSP HI2 HP hok hs ht
    have hle := HAL.out.le
    have hpz := HAL.out.p
    have hpx := HAL.out.px
    have hpy := HAL.out.py
    have hne := HAL.out.next
    clear HAL
    generalize comCount l x y = k at *
    generalize pathStr l (comStr l x y) = pp at *
    generalize hasSeg l (comStr l x y) = bb at *
    generalize comStr l x y = cc at *
    generalize pathStr l x = px at *
    generalize pathStr l y = py at *
    generalize hasSeg l x = bx at *
    generalize hasSeg l y = by' at *
    have HX := Lib.hid (fun w => soBegins_yes px pp w hz (by omega) (by rw [hpz]; exact hpx))
    have HY := Lib.hid (fun w => soBegins_yes py pp w hz2 (by omega) (by rw [hpz]; exact hpy))
    have HXY : Hid (∀ (w : World) (s : ByteArray), s = px ∨ s = py → Calls Try.prog 33 #[.string s, .string pp] w fun e w' => e = .returned (.bool true) ∧ w' = w) := by
      rintro w s (rfl | rfl)
      · exact HX.out w
      · exact HY.out w
    clear HX HY
    have HNE := Lib.hid hne
    clear hpx hpy hne
    go_wp2_with fail
    refine (K1.out _ HS.out).mono ?_
    rintro e w2 ⟨rfl, hb2⟩
    have HS2 : Hid (Segs w2 w2.heap.size A l) := (HS.out.below hb2).more hb2.size
    have HB2 : Hid (Below w.heap.size w w2) := HB1.out.trans (hb2.mono HB1.out.size)
    clear hb2 HS HB1
    go_wp2_with fail
    refine (K2.out _ HS2.out).mono ?_
    rintro e w3 ⟨rfl, hb3⟩
    have HS3 : Hid (Segs w3 w3.heap.size A l) := (HS2.out.below hb3).more hb3.size
    have HB3 : Hid (Below w.heap.size w w3) := HB2.out.trans (hb3.mono HB2.out.size)
    clear hb3 HS2 HB2
    go_wp2_with fail
    refine (K3.out _ HS3.out).mono ?_
    rintro e w4 ⟨rfl, hb4⟩
    have HS4 : Hid (Segs w4 w4.heap.size A l) := (HS3.out.below hb4).more hb4.size
    have HB4 : Hid (Below w.heap.size w w4) := HB3.out.trans (hb4.mono HB3.out.size)
    clear hb4 HS3 HB3
    go_wp2_with fail
    refine (P1.out _ HS4.out).mono ?_
    rintro e w5 ⟨rfl, hb5⟩
    have HS5 : Hid (Segs w5 w5.heap.size A l) := (HS4.out.below hb5).more hb5.size
    have HB5 : Hid (Below w.heap.size w w5) := HB4.out.trans (hb5.mono HB4.out.size)
    clear hb5 HS4 HB4
    go_wp2_with fail
    refine (P2.out _ HS5.out).mono ?_
    rintro e w6 ⟨rfl, hb6⟩
    have HS6 : Hid (Segs w6 w6.heap.size A l) := (HS5.out.below hb6).more hb6.size
    have HB6 : Hid (Below w.heap.size w w6) := HB5.out.trans (hb6.mono HB5.out.size)
    clear hb6 HS5 HB5
    go_wp2_with fail
    refine (P3.out _ HS6.out).mono ?_
    rintro e w7 ⟨rfl, hb7⟩
    have HB7 : Hid (Below w.heap.size w w7) := HB6.out.trans (hb7.mono HB6.out.size)
    clear hb7 HS6 HB6 K1 K2 K3 P1 P2 P3
    by_cases h1 : k = px.size
    · clear HNE
      go_wp2_with fail
      go_quiet ((go_at_call 33; exact Calls.quiet_of_same (HXY.out _ _ (by first | exact .inl rfl | exact .inr rfl))))
      go_wp2
      go_ret
      exact ⟨rfl, below_drewN HB7.out _⟩
    · have hk1 : k < px.size := by omega
      have q1 : ((k : Int) == (px.size : Int)) = false := by rw [beq_eq_false_iff_ne]; omega
      have q1' : (k == px.size) = false := by rw [beq_eq_false_iff_ne]; omega
      by_cases h2 : k = py.size
      · clear HNE
        subst h2
        go_wp2_with fail
        go_quiet ((go_at_call 33; exact Calls.quiet_of_same (HXY.out _ _ (by first | exact .inl rfl | exact .inr rfl))))
        go_wp2
        go_ret
        exact ⟨rfl, below_drewN HB7.out _⟩
      · have hk2 : k < py.size := by omega
        have q2 : ((k : Int) == (py.size : Int)) = false := by rw [beq_eq_false_iff_ne]; omega
        have q2' : (k == py.size) = false := by rw [beq_eq_false_iff_ne]; omega
        have g1 : decide (k < px.size) = true := decide_eq_true hk1
        have g2 : decide (k < py.size) = true := decide_eq_true hk2
        have hk0 : (0 : Int) ≤ (k : Int) := Int.natCast_nonneg _
        have hk1' : (k : Int) < (px.size : Int) := by omega
        have hk2' : (k : Int) < (py.size : Int) := by omega
        have ht : ((px[k].toNat : Int) == (py[k].toNat : Int)) = false := by
          rw [beq_eq_false_iff_ne]
          exact fun e => HNE.out hk1 hk2 (UInt8.toNat_inj.1 (by omega))
        clear HNE
        go_wp2_with fail
        go_quiet ((go_at_call 33; exact Calls.quiet_of_same (HXY.out _ _ (by first | exact .inl rfl | exact .inr rfl))))
        go_wp2
        go_ret
        refine ⟨ret_bool (b := true) ?_, below_drewN HB7.out _⟩
        show (!((px[k].toNat : Int) == (py[k].toNat : Int))) = true
        rw [ht]
        rfl

end Go.Proofs.Ytbmfjfhmdpmlbaa
