/- Draws of chapter 1: DrawTreeValid, DrawFormatTree. -/
import Derived.Test.YtdbddockmdkmeaaDoorZj
import Derived.Deep.RegionWith
namespace Go.Proofs.YtdbddockmdkmeaaDoor
open Go.RowKit

/-- The small tree that is drawn at times. -/
def four (x y : Int) : List Seg := [⟨⟨#[65]⟩, 1, -1⟩, ⟨⟨#[66]⟩, 1, 0⟩, ⟨⟨#[67]⟩, 1, x⟩, ⟨⟨#[68]⟩, 1, y⟩]
theorem four_had (w : World) (x y : Int) : TreeHas (w.alloc (.cells #[.string ⟨#[65]⟩, .int .i64 1, .int .i64 (-1), .string ⟨#[66]⟩, .int .i64 1, .int .i64 0, .string ⟨#[67]⟩, .int .i64 1, .int .i64 x, .string ⟨#[68]⟩, .int .i64 1, .int .i64 y] 66)) (some ⟨w.heap.size, 0, none⟩) (four x y) 4 := by
  have h : OwnTree (w.alloc (.cells #[.string ⟨#[65]⟩, .int .i64 1, .int .i64 (-1), .string ⟨#[66]⟩, .int .i64 1, .int .i64 0, .string ⟨#[67]⟩, .int .i64 1, .int .i64 x, .string ⟨#[68]⟩, .int .i64 1, .int .i64 y] 66)) w.heap.size (.slice (some ⟨w.heap.size, 0, none⟩) 4 4) (four x y) :=
    World.ownsRow_lit (base := w.heap.size) (e := 66) (size := 3) w #[.string ⟨#[65]⟩, .int .i64 1, .int .i64 (-1), .string ⟨#[66]⟩, .int .i64 1, .int .i64 0, .string ⟨#[67]⟩, .int .i64 1, .int .i64 x, .string ⟨#[68]⟩, .int .i64 1, .int .i64 y] 4 (Nat.le_refl _) (by simp [maxLen]) rfl
  obtain ⟨A, c, e, _, _, hs⟩ := treeCap h
  injection e with e1 _ _
  subst e1
  refine ⟨hs, ⟨(by decide : (4 : Nat) ≤ 9), Nat.le_refl _, by decide⟩, fun s hs => ?_⟩
  have : s.name.size = 1 := by
    simp only [four, List.mem_cons, List.not_mem_nil, or_false] at hs
    rcases hs with rfl | rfl | rfl | rfl <;> rfl
  omega

set_option maxRecDepth 100000 in
set_option maxHeartbeats 2000000 in
theorem drawTreeValid_any (hgood : GoodSaid) (A0 : Option Addr) (n c0 : Nat) (w : World) (hn : n ≤ c0) (hx : ∀ b, w.heap.size ≤ b → Bytes w b A0 n) :
    Calls Tryd.prog 48 #[.slice A0 n c0] w (TreeHad w) := by
  have HO := Lib.hid (l13Open_any A0 n c0 w hn hx)
  have HP := Lib.hid (fun b w h => l1Some_plain b 1 w h (by omega) (fun w h => hgood b 1 w (by omega) h))
  clear hx hgood
  unfold TreeHad
  go_enter Tryd.func48, Tryd.ntmps48
  go_wp2_with fail
  refine Calls.mono HO.out ?_
  rintro e w1 ⟨b, rfl, hbb, hr, hb1⟩
  have HB1 := Lib.hid hb1
  have HR1 := Lib.hid hr
  clear hr hb1 HO
  go_wp2_with fail
  refine (draw_any b 0 10 _ HR1.out (by omega) (by omega) (by omega)).mono ?_
  rintro e w2 ⟨v, rfl, -, ho2, hr2⟩
  have HB2 := Lib.hid (only_below HB1.out hbb ho2)
  have HR2 := Lib.hid hr2
  clear ho2 hr2 HB1 HR1
  by_cases hv : v = 0
  · subst hv
    clear HP
    have HR3 := Lib.hid (HR2.out.alloc (.cells #[.int .i64 0, .int .i64 1, .int .i64 (-1)] 3))
    have HX3 := Lib.hid (nums_new w2 b 3 [0, 1, -1] HR2.out.lt)
    clear HR2
    go_wp2_with fail
    refine (num_any b (0 + 1) w2.heap.size 0 3 3 _ _ HR3.out (by omega) (by omega) (by omega) HX3.out).mono ?_
    rintro e w3 ⟨x, rfl, -, ho3, hr3⟩
    have HB3 := Lib.hid (only_below HB2.out hbb ho3.fresh)
    have HR4 := Lib.hid (hr3.alloc (.cells #[.int .i64 1, .int .i64 2, .int .i64 0, .int .i64 3] 3))
    have HX4 := Lib.hid (nums_new w3 b 3 [1, 2, 0, 3] hr3.lt)
    clear ho3 hr3 HR3 HX3 HB2
    go_wp2_with fail
    refine (num_any b (0 + 1 + 1) w3.heap.size 0 4 4 _ _ HR4.out (by omega) (by omega) (by omega) HX4.out).mono ?_
    rintro e w4 ⟨y, rfl, -, ho4, hr4⟩
    have HB4 := Lib.hid (only_below HB3.out hbb ho4.fresh)
    clear ho4 hr4 HR4 HX4 HB3
    have HT := Lib.hid (four_had w4 x y)
    have HB5 := Lib.hid (HB4.out.alloc HB4.out.size (.cells #[.string ⟨#[65]⟩, .int .i64 1, .int .i64 (-1), .string ⟨#[66]⟩, .int .i64 1, .int .i64 0, .string ⟨#[67]⟩, .int .i64 1, .int .i64 x, .string ⟨#[68]⟩, .int .i64 1, .int .i64 y] 66))
    go_wp2
    go_ret
    exact ⟨some ⟨w4.heap.size, 0, none⟩, four x y, 4, rfl, HT.out, HB5.out⟩
  · have hve : (v == 0) = false := by rw [beq_eq_false_iff_ne]; exact hv
    have HPP := Lib.hid (HP.out b w2 HR2.out)
    unfold SomePost at HPP
    clear HP
    go_wp2_with fail
    refine Calls.mono HPP.out ?_
    rintro e w3 ⟨A, l, c, rfl, ⟨hs, -⟩, hl, hsh, ho, -⟩
    have HT : Hid (TreeHas w3 A l c) := ⟨hs, hl, hsh⟩
    have HB3 := Lib.hid (only_below HB2.out hbb ho)
    clear hs hl hsh ho HPP HB2 HR2
    go_wp2
    go_ret
    exact ⟨A, l, c, rfl, HT.out, HB3.out⟩

set_option maxRecDepth 100000 in
set_option maxHeartbeats 1000000 in
theorem drawFormatTree_any (hgood : GoodSaid) (A0 : Option Addr) (n c0 : Nat) (w : World) (hn : n ≤ c0) (hx : ∀ b, w.heap.size ≤ b → Bytes w b A0 n) :
    Calls Tryd.prog 10 #[.slice A0 n c0] w (TreeHad w) := by
  have HD := Lib.hid (drawTreeValid_any hgood A0 n c0 w hn hx)
  clear hx hgood
  unfold TreeHad at HD ⊢
  go_enter Tryd.func10, Tryd.ntmps10
  go_wp2_with fail
  refine Calls.mono HD.out ?_
  rintro e w1 ⟨A, l, c, rfl, ht, hb⟩
  have HT := Lib.hid ht
  have HB := Lib.hid hb
  clear ht hb HD
  go_wp2
  go_ret
  exact ⟨A, l, c, rfl, HT.out, HB.out⟩

end Go.Proofs.YtdbddockmdkmeaaDoor
