/- Joined: Dv. -/
import Derived.Test.YtifkmehnikfihaaGreatU24
import Derived.Test.YtifkmehnikfihaaGreatU27
import Derived.Test.YtifkmehnikfihaaGreatU22
import Derived.BigQuiet
/- The law FnSortedOrder: its walk. -/
namespace Go.Proofs.YtifkmehnikfihaaGreat
open Go.RowKit

/-- All that the law asks where a trace is read. -/
theorem sort_said {l : List Seg} {t : ByteArray} (h : (traceB l t.data.toList).isSome = true) :
    (∀ k, k + 1 < (sortRes l t).length → ∃ (x y : Nat) (cx cy : UInt8) (rx ry : List UInt8), (sortRes l t)[k]? = some (x : Int) ∧ (sortRes l t)[k + 1]? = some (y : Int) ∧ x < (topsRes l t).length ∧ y < (topsRes l t).length ∧ (topsRes l t)[x]? = some (strOf (cx :: rx)) ∧ (topsRes l t)[y]? = some (strOf (cy :: ry)) ∧
      (Lib.indexByte (namesStr l).data.toList cx < Lib.indexByte (namesStr l).data.toList cy ∨ Lib.indexByte (namesStr l).data.toList cx = Lib.indexByte (namesStr l).data.toList cy ∧ x < y)) ∧
    inOrdOk l t (sortRes l t) = true ∧ (namesStr l).data.toList.length ≤ 1000 ∧ ∃ (it : ByteArray) (m : Nat), inOrdRes l t (sortRes l t) = it ∧ it.size ≤ 1048576 ∧ m ≤ 80 ∧ sortRes l it = (List.range m).map fun (k : Nat) => (k : Int) := by
  obtain ⟨f, hf⟩ := Option.isSome_iff_exists.1 h
  obtain ⟨h1, h2⟩ := sort_order hf
  obtain ⟨hv, -, -⟩ := traceB_some hf
  refine ⟨sort_step hf, h1, ?_, _, f.len, h2, joinO_bound hf, ?_, sort_again hf⟩
  · rw [names_list hv, List.length_map, List.length_range]
    have := (valid_all hv).2.1
    omega
  · have := (traceB_size hf).1
    have := f.len_size
    omega

set_option maxRecDepth 100000 in
set_option maxHeartbeats 16000000 in
theorem sortedLaw_any (hgood : GoodSaid) (A0 : Option Addr) (n c0 : Nat) (w : World) (hn : n ≤ c0) (hm : n ≤ maxLen) (hx : ∀ b, w.heap.size ≤ b → Bytes w b A0 n) :
    Calls Tryz.prog 8 #[.slice A0 n c0] w fun e w' => e = .returned (.bool true) ∧ Below w.heap.size w w' := by
  unfold maxLen at hm
  by_cases hbig : 1048576 < n
  · clear hx hgood
    go_enter Tryz.func8, Tryz.ntmps8
    go_wp2
    go_ret
    exact ⟨rfl, Below.refl _ _⟩
  have HD := Lib.hid (drawSortedOrder_plain hgood A0 n c0 w hn hx)
  clear hx hgood
  go_enter Tryz.func8, Tryz.ntmps8
  go_wp2_with fail
  refine Calls.mono HD.out ?_
  rintro e w1 ⟨A, l, c, t, rfl, hS, ⟨hl9, hlc, hcm⟩, hsh, htz, hb1⟩
  have hl : l.length ≤ 1048576 := by omega
  have ht : t.size ≤ 1048576 := by omega
  have HSH := Lib.hid (fun s hs => Nat.le_trans (hsh s hs) (by decide) : Short l)
  have HS1 : Hid (Segs w1 w1.heap.size A l) := hS
  have HB1 : Hid (Below w.heap.size w w1) := hb1
  have C1 := Lib.hid (fun w h => implSortedOrder_any A l c t w h hl hlc hcm HSH.out ht)
  have C2 := Lib.hid (fun w h => specSortedOrder_any A l c t w h hl HSH.out ht)
  have C3 := Lib.hid (fun w h => implTopCalls_any A l c t w h hl hlc hcm HSH.out ht)
  have hst := sortRes_le l t
  have htl := topsRes_le l t
  have C4 := Lib.hid (fun A2 c2 w h hx => implInOrder_any A l c t A2 (sortRes l t) c2 w h hx hl hlc hcm HSH.out ht (by omega))
  have C5 := Lib.hid (fun w h => namesOf_any A l c w h hl hlc hcm HSH.out)
  have C6 := Lib.hid (fun it (hz : it.size ≤ 1048576) w h => implSortedOrder_any A l c it w h hl hlc hcm HSH.out hz)
  have HT := Lib.hid (sort_said (l := l) (t := t))
  unfold SortPost at C1 C2 C6
  unfold TopsPost at C3
  unfold InOrdPost at C4
  clear hS hb1 HD hsh
  generalize (traceB l t.data.toList).isSome = d at *
  generalize sortRes l t = ys at *
  generalize topsRes l t = ts at *
  generalize inOrdOk l t ys = okin at *
  generalize inOrdRes l t ys = inr at *
  go_wp2_with fail
  refine (C1.out _ HS1.out).mono ?_
  rintro e w2 ⟨v1, rfl, ho2, hb⟩
  obtain ⟨A1, cap1, rfl, -⟩ := Si.intsForm ho2
  have HO2 := Lib.hid ho2
  have HS2 : Hid (Segs w2 w2.heap.size A l) := (HS1.out.below hb).more hb.size
  have HB2 : Hid (Below w.heap.size w w2) := HB1.out.trans (hb.mono HB1.out.size)
  clear hb ho2 HS1 HB1 C1
  go_wp2_with fail
  refine (C2.out _ HS2.out).mono ?_
  rintro e w3 ⟨v2, rfl, ho3, hb⟩
  obtain ⟨A2, cap2, rfl, -⟩ := Si.intsForm ho3
  have HO3 := Lib.hid (HO2.out.below hb)
  have HP3 := Lib.hid ho3
  have HS3 : Hid (Segs w3 w3.heap.size A l) := (HS2.out.below hb).more hb.size
  have HB3 : Hid (Below w.heap.size w w3) := HB2.out.trans (hb.mono HB2.out.size)
  have HSM := Lib.hid (fun W h1 h2 => soSame11_any A1 A2 ys cap1 cap2 W h1 h2 (by omega))
  clear hb ho3 HS2 HB2 HO2 C2
  go_wp2_with fail
  refine (HSM.out w3 (Si.intsOf HO3.out) (Si.intsOf HP3.out)).mono ?_
  rintro e w4 ⟨rfl, hb⟩
  have HO4 := Lib.hid (HO3.out.below hb)
  have HP4 := Lib.hid (HP3.out.below hb)
  have HS4 : Hid (Segs w4 w4.heap.size A l) := (HS3.out.below hb).more hb.size
  have HB4 : Hid (Below w.heap.size w w4) := HB3.out.trans (hb.mono HB3.out.size)
  clear hb HS3 HB3 HO3 HP3
  cases d with
  | false =>
    clear HT C3 C4 C5 C6
    go_wp2_with fail
    refine (HSM.out w4 (Si.intsOf HO4.out) (Si.intsOf HP4.out)).mono ?_
    rintro e w5 ⟨rfl, hb⟩
    have HB5 : Hid (Below w.heap.size w w5) := HB4.out.trans (hb.mono HB4.out.size)
    clear hb HS4 HB4 HO4 HP4
    go_wp2
    go_ret
    exact ⟨rfl, HB5.out⟩
  | true =>
    obtain ⟨hstep, rfl, hnl, it, m, rfl, hiz, hm80, hag⟩ := HT.out rfl
    have HSTEP := Lib.hid hstep
    have D6 := Lib.hid (C6.out inr hiz)
    rw [hag] at D6
    have hnm : namesStr l = strOf (namesStr l).data.toList := (strOf_list _).symm
    have HIX := Lib.hid (fun c w => (soIndex11_any (namesStr l).data.toList c w hnl).mono fun _ _ h => (⟨h.1, h.2.symm⟩ : _ ∧ _))
    rw [hnm] at C5
    generalize (namesStr l).data.toList = N at *
    clear HT hstep hag HSM HP4 C6
    go_wp2_with fail
    refine (C3.out _ HS4.out).mono ?_
    rintro e w5 ⟨v3, rfl, ho5, hb⟩
    obtain ⟨A3, cap3, rfl, -⟩ := St.textsForm ho5
    have HT5 := Lib.hid ho5
    have HO5 := Lib.hid (HO4.out.below hb)
    have HS5 : Hid (Segs w5 w5.heap.size A l) := (HS4.out.below hb).more hb.size
    have HB5 : Hid (Below w.heap.size w w5) := HB4.out.trans (hb.mono HB4.out.size)
    clear hb ho5 HS4 HB4 HO4 C3
    go_wp2_with fail
    refine (C4.out A1 cap1 _ HS5.out (Si.intsOf HO5.out)).mono ?_
    rintro e w6 ⟨rfl, hb⟩
    have HT6 := Lib.hid (HT5.out.below hb)
    have HO6 := Lib.hid (HO5.out.below hb)
    have HS6 : Hid (Segs w6 w6.heap.size A l) := (HS5.out.below hb).more hb.size
    have HB6 : Hid (Below w.heap.size w w6) := HB5.out.trans (hb.mono HB5.out.size)
    clear hb HS5 HB5 HO5 HT5 C4
    go_wp2_with fail
    refine (C5.out _ HS6.out).mono ?_
    rintro e w7 ⟨rfl, hb⟩
    have HT7 := Lib.hid (HT6.out.below hb)
    have HO7 := Lib.hid (HO6.out.below hb)
    have HS7 : Hid (Segs w7 w7.heap.size A l) := (HS6.out.below hb).more hb.size
    have HB7 : Hid (Below w.heap.size w w7) := HB6.out.trans (hb.mono HB6.out.size)
    clear hb HS6 HB6 HO6 HT6 C5
    generalize validB l = vb at *
    go_wp2
    go_loopw [15] (fun vi wr => ∃ (s : Nat), vi = .int .i64 s ∧ 1 ≤ s ∧ s ≤ 100 ∧ Hid (Below w7.heap.size w7 wr))
      (fun vi _ => ys.length - (intOf vi).toNat)
    case atStart => exact ⟨1, rfl, by omega, by omega, Lib.hid (Below.refl _ _)⟩
    case round =>
      obtain ⟨s, rfl, hs1, hs100, HBr⟩ := hrel
      by_cases hlt : s < ys.length
      · obtain ⟨k, HK⟩ : ∃ k : Nat, Hid (s = k + 1) := ⟨s - 1, by show _ = _; omega⟩
        obtain ⟨x, y, cx, cy, rx, ry, hx1, hy1, hxl, hyl, htx, hty, hord⟩ := HSTEP.out k (by rw [← HK.out]; exact hlt)
        rw [← HK.out] at hy1
        obtain ⟨A8, cap8, h8, HSS⟩ := St.textsForm (HT7.out.below HBr.out)
        injection h8 with h81 _ h83
        subst h81 h83
        obtain ⟨A9, cap9, h9, HII⟩ := Si.intsForm (HO7.out.below HBr.out)
        injection h9 with h91 _ h93
        subst h91 h93
        obtain ⟨b1, o1, rfl, hB1, hcs1⟩ := HII (by omega)
        obtain ⟨b3, o3, rfl, hB3, hcs3⟩ := HSS (by omega)
        have e1 := hcs1 k _ hx1
        have e2 := hcs1 s _ hy1
        have e3 := hcs3 x _ htx
        have e4 := hcs3 y _ hty
        have hfx := first_of cx rx
        have hfy := first_of cy ry
        have hzx : 1 ≤ (strOf (cx :: rx)).size := by
          unfold strOf
          show 1 ≤ (cx :: rx).toArray.size
          rw [List.size_toArray, List.length_cons]; omega
        have hzy : 1 ≤ (strOf (cy :: ry)).size := by
          unfold strOf
          show 1 ≤ (cy :: ry).toArray.size
          rw [List.size_toArray, List.length_cons]; omega
        have hws : IntKind.i64.wrap ((s : Int) - 1) = (k : Int) := (IntWalk.i64_in _ (by omega)).trans (by have := HK.out; omega)
        have hk1 : (k : Int) < (ys.length : Int) := by have := HK.out; omega
        have hk0 : (0 : Int) ≤ (k : Int) := Int.natCast_nonneg _
        have hs2 : (s : Int) < (ys.length : Int) := by omega
        have hs0 : (0 : Int) ≤ (s : Int) := Int.natCast_nonneg _
        have hx2 : (x : Int) < (ts.length : Int) := by omega
        have hx0 : (0 : Int) ≤ (x : Int) := Int.natCast_nonneg _
        have hy2 : (y : Int) < (ts.length : Int) := by omega
        have hy0 : (0 : Int) ≤ (y : Int) := Int.natCast_nonneg _
        have HSH : Hid (∀ W ch q, ((ch = cx ∧ q = Lib.indexByte N cx) ∨ (ch = cy ∧ q = Lib.indexByte N cy)) → Calls Tryz.prog 63 #[.string (strOf N), .string ⟨#[ch]⟩] W fun e w' => e = .returned (.int .i64 q) ∧ w' = W) := fun W ch q h => by
          rcases h with ⟨rfl, rfl⟩ | ⟨rfl, rfl⟩
          · exact HIX.out _ W
          · exact HIX.out _ W
        clear hcs1 hcs3 HSS HII hx1 hy1 htx hty HSTEP HIX
        generalize strOf (cx :: rx) = tx at *
        generalize strOf (cy :: ry) = ty at *
        generalize Lib.indexByte N cx = kx at *
        generalize Lib.indexByte N cy = ky at *
        go_wp2_with fail
        go_quiet (first | (go_at_call 63; exact Calls.quiet_of_same (HSH.out _ _ _ (by first | exact .inl ⟨rfl, rfl⟩ | exact .inr ⟨rfl, rfl⟩))))
        clear HSH
        rcases hord with hord | ⟨hord, hxy⟩
        · have hd1 : decide (ky < kx) = false := decide_eq_false (by omega)
          have hd2 : (kx == ky) = false := by rw [beq_eq_false_iff_ne]; omega
          clear e1 e2 e3 e4
          go_wp2_with fail
          go_quiet (fail)
          go_wp2
          go_roundw
          case rel => exact ⟨s + 1, by go_num, by omega, by omega, Lib.hid (below_drewN HBr.out _)⟩
          case measure => simp [intOf]; omega
        · subst hord
          have hd1 : decide (kx < kx) = false := decide_eq_false (by omega)
          have hd3 : decide ((y : Int) < (x : Int)) = false := decide_eq_false (by omega)
          clear e3 e4
          go_wp2_with fail
          go_quiet (fail)
          go_wp2
          go_roundw
          case rel => exact ⟨s + 1, by go_num, by omega, by omega, Lib.hid (below_drewN HBr.out _)⟩
          case measure => simp [intOf]; omega
      · have HBw : Hid (Below w.heap.size w wr) := HB7.out.trans (HBr.out.mono HB7.out.size)
        have HSw : Hid (Segs wr wr.heap.size A l) := (HS7.out.below HBr.out).more HBr.out.size
        clear HSTEP HIX HO7 HT7 HS7 HB7 HBr
        go_wp2_with fail
        refine (D6.out wr HSw.out).mono ?_
        rintro e w8 ⟨v8, rfl, ho8, hb⟩
        obtain ⟨A8, cap8, h8, HII⟩ := Si.intsForm ho8
        have hlm : ((List.range m).map fun (k : Nat) => (k : Int)).length = m := by simp
        rw [hlm] at h8
        subst h8
        have HZ := Lib.hid HII
        have HB8 : Hid (Below w.heap.size w w8) := HBw.out.trans (hb.mono HBw.out.size)
        clear ho8 hb HII HBw HSw D6
        generalize (traceB l inr.data.toList).isSome = d8 at *
        go_wp2
        go_loopw [136] (fun vi w9 => ∃ (j : Nat), j ≤ m ∧ vi = .int .i64 j ∧ Hid (Below w8.heap.size w8 w9))
          (fun vi _ => m - (intOf vi).toNat)
        case atStart => exact ⟨0, Nat.zero_le _, rfl, Lib.hid (Below.refl _ _)⟩
        case round =>
          obtain ⟨j, hj, rfl, HB9⟩ := hrel
          by_cases hjm : j < m
          · obtain ⟨b1, o1, rfl, hB1, hcs1⟩ := HZ.out (by rw [hlm]; omega)
            have e1 := hcs1 j (j : Int) (by rw [List.getElem?_map, List.getElem?_range hjm]; rfl)
            rw [← HB9.out.cell hB1] at e1
            have hj2 : (j : Int) < (m : Int) := by omega
            have hj0 : (0 : Int) ≤ (j : Int) := Int.natCast_nonneg _
            clear hcs1
            go_wp2
            go_roundw
            case rel => exact ⟨j + 1, by omega, by go_num, HB9⟩
            case measure => simp [intOf]; omega
          · go_wp2
            go_ret
            exact ⟨rfl, HB8.out.trans (HB9.out.mono HB8.out.size)⟩

end Go.Proofs.YtifkmehnikfihaaGreat
