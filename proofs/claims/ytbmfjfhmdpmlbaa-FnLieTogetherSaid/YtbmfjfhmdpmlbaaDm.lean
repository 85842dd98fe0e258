/- Draws: the draws of LieTogether, AddressOf, LiesAt. All over l1Good's contract. -/
import Derived.Test.YtbmfjfhmdpmlbaaDp
namespace Go.Proofs.Ytbmfjfhmdpmlbaa
open Go.RowKit

set_option maxRecDepth 100000 in
set_option maxHeartbeats 1000000 in
theorem drawLieTogether_plain (hgood : GoodSaid) (A0 : Option Addr) (n c0 : Nat) (w : World) (hn : n ≤ c0) (hx : ∀ b, w.heap.size ≤ b → Bytes w b A0 n) :
    Calls Try.prog 34 #[.slice A0 n c0] w fun e w' => ∃ A l c x y, e = .returned (.tuple #[.slice A (List.length l) c, .string x, .string y]) ∧ TreeHas w' A l c ∧ x.size ≤ 2 ∧ y.size ≤ 2 ∧ Below w.heap.size w w' := by
  have HO := Lib.hid (drawCommonOf_plain hgood A0 n c0 w hn hx)
  clear hx hgood
  go_enter Try.func34, Try.ntmps34
  go_wp2_with fail
  refine Calls.mono HO.out ?_
  rintro e w1 ⟨A, l, c, x, y, rfl, hT, hxx, hy, hb⟩
  have HT := Lib.hid hT
  have HX := Lib.hid hxx
  have HY := Lib.hid hy
  have HB := Lib.hid hb
  clear hT hxx hy hb HO
  go_wp2
  refine bodyPost_ret (v := .tuple #[.slice A l.length c, .string x, .string y]) (by simp [results, Try.results34, go_sem]) rfl ?_
  exact ⟨A, l, c, x, y, rfl, HT.out, HX.out, HY.out, HB.out⟩

set_option maxRecDepth 100000 in
set_option maxHeartbeats 1000000 in
theorem drawAddressOf_plain (hgood : GoodSaid) (A0 : Option Addr) (n c0 : Nat) (w : World) (hn : n ≤ c0) (hx : ∀ b, w.heap.size ≤ b → Bytes w b A0 n) :
    Calls Try.prog 45 #[.slice A0 n c0] w fun e w' => ∃ A l c x, e = .returned (.tuple #[.slice A (List.length l) c, .string x]) ∧ TreeHas w' A l c ∧ x.size ≤ 2 ∧ Below w.heap.size w w' := by
  have HO := Lib.hid (l13Open_any A0 n c0 w hn hx)
  have HP := Lib.hid (fun b w h => l1Place_plain hgood b 0 w h (Nat.zero_le _))
  clear hx hgood
  go_enter Try.func45, Try.ntmps45
  go_wp2_with fail
  refine Calls.mono HO.out ?_
  rintro e w1 ⟨b, rfl, hbb, hr, hb1⟩
  have HB1 := Lib.hid hb1
  have HPP := Lib.hid (HP.out b w1 hr)
  clear hr hb1 HP HO
  go_wp2_with fail
  refine Calls.mono HPP.out ?_
  rintro e w2 ⟨A, l, c, x, rfl, ⟨hs, hs'⟩, hl, hsh, hxx, ho, hr2⟩
  have HT : Hid (TreeHas w2 A l c) := ⟨hs, hl, hsh⟩
  have HB2 := Lib.hid (only_below HB1.out hbb ho)
  have HX := Lib.hid hxx
  clear hs hs' hl hsh hxx ho hr2 HPP
  go_wp2
  refine bodyPost_ret (v := .tuple #[.slice A l.length c, .string x]) (by simp [results, Try.results45, go_sem]) rfl ?_
  exact ⟨A, l, c, x, rfl, HT.out, HX.out, HB2.out⟩

end Go.Proofs.Ytbmfjfhmdpmlbaa
