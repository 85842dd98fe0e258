/- Draws: the draw of LiesAt. Over l1Good's contract. -/
import Derived.Test.YtbmfjfhmdpmlbaaDm
import Derived.Test.YtbmfjfhmdpmlbaaLb
namespace Go.Proofs.Ytbmfjfhmdpmlbaa
open Go.RowKit

set_option maxRecDepth 100000 in
set_option maxHeartbeats 1000000 in
theorem drawLiesAt_plain (hgood : GoodSaid) (A0 : Option Addr) (n c0 : Nat) (w : World) (hn : n ≤ c0) (hx : ∀ b, w.heap.size ≤ b → Bytes w b A0 n) :
    Calls Try.prog 43 #[.slice A0 n c0] w fun e w' => ∃ A l c, ∃ x : Int, e = .returned (.tuple #[.slice A (List.length l) c, .int .i64 x]) ∧ TreeHas w' A l c ∧ (-1 ≤ x ∧ x ≤ 1000) ∧ Below w.heap.size w w' := by
  have HO := Lib.hid (l13Open_any A0 n c0 w hn hx)
  have HP := Lib.hid (fun b w h => l1Some_plain b 0 w h (Nat.zero_le _) (fun w h => hgood b 0 w (Nat.zero_le _) h))
  clear hx hgood
  go_enter Try.func43, Try.ntmps43
  go_wp2_with fail
  refine Calls.mono HO.out ?_
  rintro e w1 ⟨b, rfl, hbb, hr, hb1⟩
  have HB1 := Lib.hid hb1
  have HPP := Lib.hid (HP.out b w1 hr)
  clear hr hb1 HP HO
  go_wp2_with fail
  refine Calls.mono HPP.out ?_
  rintro e w2 ⟨A, l, c, rfl, hs, hl, hsh, ho, hr2⟩
  have HS := Lib.hid hs
  have HL := Lib.hid hl
  have HH := Lib.hid hsh
  have HN : Hid (Short l) := fun s hs => Nat.le_trans (hsh s hs) (by decide)
  have HB2 := Lib.hid (only_below HB1.out hbb ho)
  have HR2 := Lib.hid hr2
  have hroom : -1 ≤ roomB l ∧ roomB l ≤ 792 := by
    unfold roomB
    split
    · next hv => have := roomTo_bd hv l.length (Nat.le_refl _); omega
    · omega
  clear hs hl hsh ho hr2 HPP HB1
  go_wp2_with fail
  refine (draw_any b (0 + 50) 20 w2 HR2.out (by omega) (by omega) (by omega)).mono ?_
  rintro e w3 ⟨p1, rfl, ⟨hp1, hp1'⟩, ho3, hr3⟩
  have hp1'' : p1 < 20 := hp1' (by omega)
  have HS3 : Hid (Segs w3 w3.heap.size A l) := HS.out.1.farO ho3 HS.out.2
  have HB3 := Lib.hid (only_below HB2.out hbb ho3)
  have HR3 := Lib.hid hr3
  clear ho3 hr3 HR2 HB2 hp1'
  go_wp2_with fail
  refine (draw_any b (0 + 50 + 1) 40 w3 HR3.out (by omega) (by omega) (by omega)).mono ?_
  rintro e w4 ⟨p2, rfl, ⟨hp2, hp2'⟩, ho4, hr4⟩
  have hp2'' : p2 < 40 := hp2' (by omega)
  have HS4 : Hid (Segs w4 w4.heap.size A l) := HS3.out.farO ho4 HS.out.2
  have HB4 := Lib.hid (only_below HB3.out hbb ho4)
  have HR4 := Lib.hid hr4
  clear ho4 hr4 HR3 HB3 hp2' HS3
  go_wp2_with fail
  refine (specRoom_any A l c w4 HS4.out (by have := HL.out; omega) HN.out).mono ?_
  rintro e w5 ⟨rfl, hb5⟩
  have HS5 : Hid (Segs w5 w5.heap.size A l) := (HS4.out.below hb5).more hb5.size
  have HB5 := Lib.hid (HB4.out.trans (hb5.mono HB4.out.size))
  have HR5 := Lib.hid (HR4.out.below hb5)
  clear hb5 HS4 HR4 HB4
  go_wp2_with fail
  refine (specRoom_any A l c w5 HS5.out (by have := HL.out; omega) HN.out).mono ?_
  rintro e w6 ⟨rfl, hb6⟩
  have HS6 : Hid (Segs w6 w6.heap.size A l) := (HS5.out.below hb6).more hb6.size
  have HB6 := Lib.hid (HB5.out.trans (hb6.mono HB5.out.size))
  have hr6 := HR5.out.below hb6
  have HR6 := Lib.hid (fun o => hr6.alloc o)
  have HX6 := Lib.hid (fun vs => nums_new w6 b 3 vs hr6.lt)
  clear hb6 HS5 HR5 HB5 hr6
  generalize roomB l = R at *
  go_wp2_with fail
  have hx6 := HX6.out [0, p1, p2, -1, max R 0, max (R - 1) 0]
  refine (num_any b (0 + 50 + 1 + 1) w6.heap.size 0 6 6 _ _ (HR6.out _) (by omega) (by omega) (by omega) hx6).mono ?_
  rintro e w7 ⟨x, rfl, hxm, ho7, _⟩
  have hxb : Hid (-1 ≤ x ∧ x ≤ 1000) := by
    show -1 ≤ x ∧ x ≤ 1000
    simp only [List.mem_cons, List.mem_nil_iff, or_false] at hxm
    omega
  have HT : Hid (TreeHas w7 A l c) := ⟨HS6.out.farO ho7.fresh HS.out.2, HL.out, HH.out⟩
  have HB7 := Lib.hid (only_below HB6.out hbb ho7.fresh)
  clear hxm ho7 hx6 HX6 HR6 HS6 HB6
  go_wp2
  refine bodyPost_ret (v := .tuple #[.slice A l.length c, .int .i64 x]) (by simp [results, Try.results43, go_sem]) rfl ?_
  exact ⟨A, l, c, x, rfl, HT.out, hxb.out, HB7.out⟩

end Go.Proofs.Ytbmfjfhmdpmlbaa
