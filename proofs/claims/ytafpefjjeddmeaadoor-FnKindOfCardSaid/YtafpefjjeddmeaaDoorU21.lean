/- Joined: By. -/
import Derived.Test.YtafpefjjeddmeaaDoorU20
/- The law FnKindOf: its walk. -/
namespace Go.Proofs.YtafpefjjeddmeaaDoor
open Go.RowKit

theorem WordsHeld.below {w w' : World} (h : WordsHeld w) (hb : Below w.heap.size w w') : WordsHeld w' := by
  have h0 : 0 < w.heap.size := by
    have := h.1
    by_cases hz : w.heap.size = 0
    · have hn : w.heap[0]? = none := Array.getElem?_eq_none (by omega)
      simp [World.cell?, hn] at this
    · omega
  exact ⟨(hb.cell (p := ⟨0, 0, none⟩) h0).trans h.1, (hb.cell (p := ⟨0, 1, none⟩) h0).trans h.2.1, (hb.cell (p := ⟨0, 2, none⟩) h0).trans h.2.2⟩
theorem kind_said {l : List Seg} (x y : ByteArray) : (kindB l x y = -1 ∧ kindB l y x = -1) ∨ (kindB l x y = 0 ∧ lieB l x y = true ∧ kindB l y x = 1) ∨ (kindB l x y = 0 ∧ lieB l x y = true ∧ kindB l y x = 0 ∧ (x.toList == y.toList) = true) ∨
    (kindB l x y = 1 ∧ lieB l x y = true ∧ kindB l y x = 0 ∧ (x.toList == y.toList) = false) ∨ (kindB l x y = 2 ∧ lieB l x y = false ∧ kindB l y x = 2) := by
  obtain ⟨h1, h2⟩ := kind_back (l := l) x y
  cases hc : comOk l x y with
  | false => exact .inl (h1 hc)
  | true =>
    rcases h2 hc with ⟨a, b, c | ⟨e, c⟩⟩ | ⟨a, b, c, e⟩ | ⟨a, b, c⟩
    · exact .inr (.inl ⟨a, b, c⟩)
    · exact .inr (.inr (.inl ⟨a, b, c, by rw [beq_str]; exact decide_eq_true e⟩))
    · exact .inr (.inr (.inr (.inl ⟨a, b, c, by rw [beq_str]; exact decide_eq_false e⟩)))
    · exact .inr (.inr (.inr (.inr ⟨a, b, c⟩)))

set_option maxRecDepth 100000 in
set_option maxHeartbeats 16000000 in
theorem kindLaw_any (hgood : GoodSaid) (A0 : Option Addr) (n c0 : Nat) (A2 : Option Addr) (n2 c2 : Nat) (w : World) (hwd : WordsHeld w) (hn : n ≤ c0) (hm : n ≤ maxLen) (hx : ∀ b, w.heap.size ≤ b → Bytes w b A0 n) (hn2 : n2 ≤ c2) (hm2 : n2 ≤ maxLen) (hx2 : ∀ b, w.heap.size ≤ b → Bytes w b A2 n2) :
    Calls Tryd.prog 3 #[.slice A0 n c0, .slice A2 n2 c2] w fun e w' => e = .returned (.bool true) ∧ Below w.heap.size w w' := by
  unfold maxLen at hm hm2
  by_cases hbig : 1048576 < n
  · clear hx hx2 hgood hwd
    go_enter Tryd.func3, Tryd.ntmps3
    go_wp2
    go_ret
    exact ⟨rfl, Below.refl _ _⟩
  by_cases hbig2 : 1048576 < n2
  · clear hx hx2 hgood hwd
    go_enter Tryd.func3, Tryd.ntmps3
    go_wp2
    go_ret
    exact ⟨rfl, Below.refl _ _⟩
  have HD := Lib.hid (drawKindOf_plain hgood A0 n c0 w hn hx)
  have HD2 := Lib.hid (fun w' (hb : Below w.heap.size w w') => drawKindCounts_plain hgood A2 n2 c2 w' hn2 (bytes_laterN hx2 hb))
  have HD3 := Lib.hid (fun w' (hb : Below w.heap.size w w') => drawNameOfKind_plain A2 n2 c2 w' hn2 (bytes_laterN hx2 hb))
  have HWD : Hid (∀ w', Below w.heap.size w w' → WordsHeld w') := fun w' hb => hwd.below hb
  clear hx hx2 hgood hwd
  go_enter Tryd.func3, Tryd.ntmps3
  go_wp2_with fail
  refine Calls.mono HD.out ?_
  rintro e w1 ⟨A, l, c, x, y, rfl, ⟨hS, ⟨hl9, hlc, hcm⟩, hsh⟩, hxz, hyz, hb1⟩
  have hl : l.length ≤ 1048576 := by omega
  have HSH := Lib.hid (fun s hs => Nat.le_trans (hsh s hs) (by decide) : Short l)
  have HS1 : Hid (Segs w1 w1.heap.size A l) := hS
  have HB1 : Hid (Below w.heap.size w w1) := hb1
  have C1 := Lib.hid (fun W h => kindOf_any A l c x y W h hl hlc hcm HSH.out)
  have C2 := Lib.hid (fun W h => specKind_any A l c x y W h hl HSH.out)
  have C3 := Lib.hid (fun W h => kindOf_any A l c y x W h hl hlc hcm HSH.out)
  have C4 := Lib.hid (fun W h => lieTogether_any A l c x y W h hl hlc hcm HSH.out)
  have HK := Lib.hid (kind_said (l := l) x y)
  clear hS hb1 HD hsh
  generalize kindB l x y = kd at *
  generalize kindB l y x = bk at *
  generalize lieB l x y = li at *
  generalize hqe : (x.toList == y.toList) = qe at *
  go_wp2_with fail
  refine (C1.out _ HS1.out).mono ?_
  rintro e w2 ⟨rfl, hb⟩
  have HS2 : Hid (Segs w2 w2.heap.size A l) := (HS1.out.below hb).more hb.size
  have HB2 : Hid (Below w.heap.size w w2) := HB1.out.trans (hb.mono HB1.out.size)
  clear hb HS1 HB1 C1
  go_wp2_with fail
  refine Calls.mono (HD2.out _ HB2.out) ?_
  rintro e w3 ⟨A', l', c', t', rfl, ⟨hS', ⟨hl9', hlc', hcm'⟩, hsh'⟩, htz', hb⟩
  have hl' : l'.length ≤ 1048576 := by omega
  have ht' : t'.size ≤ 1048576 := by omega
  have HSH' := Lib.hid (fun s hs => Nat.le_trans (hsh' s hs) (by decide) : Short l')
  have HS3 : Hid (Segs w3 w3.heap.size A l) := (HS2.out.below hb).more hb.size
  have HT3 : Hid (Segs w3 w3.heap.size A' l') := hS'
  have HB3 : Hid (Below w.heap.size w w3) := HB2.out.trans (hb.mono HB2.out.size)
  have D1 := Lib.hid (fun W h => kindCounts_any A' l' c' t' W h hl' hlc' hcm' HSH'.out ht')
  have D2 := Lib.hid (fun W h => specKindCounts_any A' l' c' t' W h hl' HSH'.out ht')
  have D3 := Lib.hid (fun W h => implCountCalls_any A' l' c' t' W h hl' hlc' hcm' HSH'.out ht')
  unfold CountsPost at D2
  unfold CountsPostA at D1
  have HYES : Hid (∀ f, traceB l' t'.data.toList = some f → (∃ a b c : Nat, countsRes l' t' = [(a : Int), (b : Int), (c : Int)] ∧ a + b + c = f.size ∧ f.size ≤ 80) ∧ countRes l' t' = f.size) := fun f h => ⟨counts_said h, countRes_some h⟩
  have HNO : Hid (traceB l' t'.data.toList = none → countsRes l' t' = []) := fun h => by unfold countsRes; rw [h]
  clear hS' hb hsh' HD2 HS2 HB2
  generalize countsRes l' t' = cs at *
  generalize countRes l' t' = cn at *
  cases hR : traceB l' t'.data.toList with
  | none =>
    have hcs := HNO.out hR
    subst hcs
    rw [hR] at D1 D2
    simp only [Option.isSome_none] at D1 D2
    clear HNO HYES D3 hR
    go_wp2_with fail
    refine Calls.mono (D1.out _ HT3.out) ?_
    rintro e w4 ⟨v4, rfl, ho, hb⟩
    obtain ⟨A4, cap4, rfl, -⟩ := Sa3.intsForm ho
    have HO4 := Lib.hid ho
    have HS4 : Hid (Segs w4 w4.heap.size A l) := (HS3.out.below hb).more hb.size
    have HT4 : Hid (Segs w4 w4.heap.size A' l') := (HT3.out.below hb).more hb.size
    have HB4 : Hid (Below w.heap.size w w4) := HB3.out.trans (hb.mono HB3.out.size)
    clear hb ho HS3 HT3 HB3 D1
    go_wp2_with fail
    refine Calls.mono (D2.out _ HT4.out) ?_
    rintro e w5 ⟨v5, rfl, ho, hb⟩
    obtain ⟨A5, cap5, rfl, -⟩ := Si.intsForm ho
    have HO5 := Lib.hid (HO4.out.below hb)
    have HP5 := Lib.hid ho
    have HS5 : Hid (Segs w5 w5.heap.size A l) := (HS4.out.below hb).more hb.size
    have HT5 : Hid (Segs w5 w5.heap.size A' l') := (HT4.out.below hb).more hb.size
    have HB5 : Hid (Below w.heap.size w w5) := HB4.out.trans (hb.mono HB4.out.size)
    clear hb ho HS4 HT4 HB4 HO4 D2
    go_wp2_with fail
    refine Calls.mono (HD3.out _ HB5.out) ?_
    rintro e w6 ⟨k, rfl, hb⟩
    have HS6 : Hid (Segs w6 w6.heap.size A l) := (HS5.out.below hb).more hb.size
    have HT6 : Hid (Segs w6 w6.heap.size A' l') := (HT5.out.below hb).more hb.size
    have HB6 : Hid (Below w.heap.size w w6) := HB5.out.trans (hb.mono HB5.out.size)
    have HO6 := Lib.hid (HO5.out.below hb)
    have HP6 := Lib.hid (HP5.out.below hb)
    clear hb HS5 HB5 HT5 HO5 HP5 HD3
    go_wp2_with fail
    refine (C2.out _ HS6.out).mono ?_
    rintro e w7 ⟨rfl, hb⟩
    have HS7 : Hid (Segs w7 w7.heap.size A l) := (HS6.out.below hb).more hb.size
    have HT7 : Hid (Segs w7 w7.heap.size A' l') := (HT6.out.below hb).more hb.size
    have HB7 : Hid (Below w.heap.size w w7) := HB6.out.trans (hb.mono HB6.out.size)
    have HO7 := Lib.hid (HO6.out.below hb)
    have HP7 := Lib.hid (HP6.out.below hb)
    clear hb HS6 HB6 HT6 HO6 HP6 C2
    go_wp2_with fail
    refine (soSame_any A4 A5 _ cap4 cap5 _ (Sa3.intsOf HO7.out) (Si.intsOf HP7.out) (by simp)).mono ?_
    rintro e w8 ⟨rfl, hb⟩
    have HS8 : Hid (Segs w8 w8.heap.size A l) := (HS7.out.below hb).more hb.size
    have HT8 : Hid (Segs w8 w8.heap.size A' l') := (HT7.out.below hb).more hb.size
    have HB8 : Hid (Below w.heap.size w w8) := HB7.out.trans (hb.mono HB7.out.size)
    have HO8 := Lib.hid (HO7.out.below hb)
    have HW8 := Lib.hid (HWD.out _ (HB7.out.trans (hb.mono HB7.out.size)))
    clear hb HS7 HB7 HT7 HO7 HP7 HWD
    go_wp2_with fail
    refine (nameOfKind_any k _ HW8.out).mono ?_
    rintro e w9 ⟨rfl, rfl⟩
    go_wp2_with fail
    refine (specName_any k _).mono ?_
    rintro e w9 ⟨rfl, rfl⟩
    generalize nameK k = nk at *
    clear HW8
    clear HT8 HO8
    go_wp2_with fail
    go_quiet (fail)
    have hb : Below w8.heap.size w8 (w8.drewN nq) := below_drewN (Below.refl _ w8) _
    have HS9 := Lib.hid ((HS8.out.below hb).more hb.size)
    have HB9 : Hid (Below w.heap.size w (w8.drewN nq)) := HB8.out.trans (hb.mono HB8.out.size)
    clear hb HS8 HB8
    generalize w8.drewN nq = w9 at *
    go_wp2_with fail
    refine (C3.out _ HS9.out).mono ?_
    rintro e w10 ⟨rfl, hb⟩
    have HS10 : Hid (Segs w10 w10.heap.size A l) := (HS9.out.below hb).more hb.size
    have HB10 : Hid (Below w.heap.size w w10) := HB9.out.trans (hb.mono HB9.out.size)
    clear hb HS9 HB9  C3
    rcases HK.out with ⟨rfl, rfl⟩ | ⟨rfl, rfl, rfl⟩ | ⟨rfl, rfl, rfl, rfl⟩ | ⟨rfl, rfl, rfl, rfl⟩ | ⟨rfl, rfl, rfl⟩
    · clear C4
      go_wp2
      go_ret
      exact ⟨rfl, HB10.out⟩
    · go_wp2_with fail
      refine (C4.out _ HS10.out).mono ?_
      rintro e w11 ⟨rfl, hb⟩
      have HB11 : Hid (Below w.heap.size w w11) := HB10.out.trans (hb.mono HB10.out.size)
      clear hb
      go_wp2
      go_ret
      exact ⟨rfl, HB11.out⟩
    · go_wp2_with fail
      refine (C4.out _ HS10.out).mono ?_
      rintro e w11 ⟨rfl, hb⟩
      have HB11 : Hid (Below w.heap.size w w11) := HB10.out.trans (hb.mono HB10.out.size)
      clear hb
      go_wp2
      go_ret
      exact ⟨rfl, HB11.out⟩
    · go_wp2_with fail
      refine (C4.out _ HS10.out).mono ?_
      rintro e w11 ⟨rfl, hb⟩
      have HB11 : Hid (Below w.heap.size w w11) := HB10.out.trans (hb.mono HB10.out.size)
      clear hb
      go_wp2
      go_ret
      exact ⟨rfl, HB11.out⟩
    · go_wp2_with fail
      refine (C4.out _ HS10.out).mono ?_
      rintro e w11 ⟨rfl, hb⟩
      have HB11 : Hid (Below w.heap.size w w11) := HB10.out.trans (hb.mono HB10.out.size)
      clear hb
      go_wp2
      go_ret
      exact ⟨rfl, HB11.out⟩
  | some f =>
    obtain ⟨⟨a, b, cc, hcs, hsum, hf80⟩, hcn⟩ := HYES.out f hR
    subst hcs
    subst hcn
    rw [hR] at D1 D2
    simp only [Option.isSome_some] at D1 D2
    clear HNO HYES hR
    generalize f.size = z at *
    go_wp2_with fail
    refine Calls.mono (D1.out _ HT3.out) ?_
    rintro e w4 ⟨v4, rfl, ho, hb⟩
    obtain ⟨A4, cap4, rfl, -⟩ := Sa3.intsForm ho
    have HO4 := Lib.hid ho
    have HS4 : Hid (Segs w4 w4.heap.size A l) := (HS3.out.below hb).more hb.size
    have HT4 : Hid (Segs w4 w4.heap.size A' l') := (HT3.out.below hb).more hb.size
    have HB4 : Hid (Below w.heap.size w w4) := HB3.out.trans (hb.mono HB3.out.size)
    clear hb ho HS3 HT3 HB3 D1
    go_wp2_with fail
    refine Calls.mono (D2.out _ HT4.out) ?_
    rintro e w5 ⟨v5, rfl, ho, hb⟩
    obtain ⟨A5, cap5, rfl, -⟩ := Si.intsForm ho
    have HO5 := Lib.hid (HO4.out.below hb)
    have HP5 := Lib.hid ho
    have HS5 : Hid (Segs w5 w5.heap.size A l) := (HS4.out.below hb).more hb.size
    have HT5 : Hid (Segs w5 w5.heap.size A' l') := (HT4.out.below hb).more hb.size
    have HB5 : Hid (Below w.heap.size w w5) := HB4.out.trans (hb.mono HB4.out.size)
    clear hb ho HS4 HT4 HB4 HO4 D2
    go_wp2_with fail
    refine Calls.mono (HD3.out _ HB5.out) ?_
    rintro e w6 ⟨k, rfl, hb⟩
    have HS6 : Hid (Segs w6 w6.heap.size A l) := (HS5.out.below hb).more hb.size
    have HT6 : Hid (Segs w6 w6.heap.size A' l') := (HT5.out.below hb).more hb.size
    have HB6 : Hid (Below w.heap.size w w6) := HB5.out.trans (hb.mono HB5.out.size)
    have HO6 := Lib.hid (HO5.out.below hb)
    have HP6 := Lib.hid (HP5.out.below hb)
    clear hb HS5 HB5 HT5 HO5 HP5 HD3
    go_wp2_with fail
    refine (C2.out _ HS6.out).mono ?_
    rintro e w7 ⟨rfl, hb⟩
    have HS7 : Hid (Segs w7 w7.heap.size A l) := (HS6.out.below hb).more hb.size
    have HT7 : Hid (Segs w7 w7.heap.size A' l') := (HT6.out.below hb).more hb.size
    have HB7 : Hid (Below w.heap.size w w7) := HB6.out.trans (hb.mono HB6.out.size)
    have HO7 := Lib.hid (HO6.out.below hb)
    have HP7 := Lib.hid (HP6.out.below hb)
    clear hb HS6 HB6 HT6 HO6 HP6 C2
    go_wp2_with fail
    refine (soSame_any A4 A5 _ cap4 cap5 _ (Sa3.intsOf HO7.out) (Si.intsOf HP7.out) (by simp)).mono ?_
    rintro e w8 ⟨rfl, hb⟩
    have HS8 : Hid (Segs w8 w8.heap.size A l) := (HS7.out.below hb).more hb.size
    have HT8 : Hid (Segs w8 w8.heap.size A' l') := (HT7.out.below hb).more hb.size
    have HB8 : Hid (Below w.heap.size w w8) := HB7.out.trans (hb.mono HB7.out.size)
    have HO8 := Lib.hid (HO7.out.below hb)
    have HW8 := Lib.hid (HWD.out _ (HB7.out.trans (hb.mono HB7.out.size)))
    clear hb HS7 HB7 HT7 HO7 HP7 HWD
    go_wp2_with fail
    refine (nameOfKind_any k _ HW8.out).mono ?_
    rintro e w9 ⟨rfl, rfl⟩
    go_wp2_with fail
    refine (specName_any k _).mono ?_
    rintro e w9 ⟨rfl, rfl⟩
    generalize nameK k = nk at *
    clear HW8
    obtain ⟨g, cap4', hv⟩ := own_form HO8.out (by simp)
    injection hv with hA4 _ hc4
    subst hA4 hc4
    have q0 : w8.cell? ⟨g, 0, none⟩ = some (.int .i64 (a : Int)) := Sa3.intsCell HO8.out rfl
    have q1 : w8.cell? ⟨g, 1, none⟩ = some (.int .i64 (b : Int)) := Sa3.intsCell HO8.out rfl
    have q2 : w8.cell? ⟨g, 2, none⟩ = some (.int .i64 (cc : Int)) := Sa3.intsCell HO8.out rfl
    have hgl := (World.ownsRow.lt HO8.out g rfl).2
    clear HO8
    go_wp2_with fail
    refine wp_region_held_drew (S := (fun w' => w'.cell? ⟨g, 0, none⟩ = some (.int .i64 (a : Int)) ∧ w'.cell? ⟨g, 1, none⟩ = some (.int .i64 (b : Int)) ∧ w'.cell? ⟨g, 2, none⟩ = some (.int .i64 (cc : Int)) ∧ g < w'.heap.size ∧ Below w8.heap.size w8 w')) (by kernel_rfl) ?_ (fun hHeld => ?_)
    · exact ⟨q0, q1, q2, hgl, (Below.refl _ _).drew⟩
    refine take_at (i := 0) (d := 78) (v := .bool true) rfl rfl (by kernel_rfl) (by kernel_rfl) (by kernel_rfl) (fun _ _ _ h => h) (by kernel_rfl) (by (intro w hSw; (try dsimp only at hSw); go_simp)) (by assumption) ?_
    simp only [List.setIfInBounds_toArray, List.set_cons_succ, List.set_cons_zero]
    refine take_at (i := 1) (d := 79) (v := .bool true) rfl rfl (by kernel_rfl) (by kernel_rfl) (by kernel_rfl) (fun _ _ _ h => h) (by kernel_rfl) (by (intro w hSw; (try dsimp only at hSw); go_simp)) (by assumption) ?_
    simp only [List.setIfInBounds_toArray, List.set_cons_succ, List.set_cons_zero]
    refine take_at (i := 2) (d := 80) (v := .slice (some ⟨g, 0, none⟩) 3 cap4) rfl rfl (by kernel_rfl) (by kernel_rfl) (by kernel_rfl) (fun _ _ _ h => h) (by kernel_rfl) (by (intro w hSw; (try dsimp only at hSw); go_simp)) (by assumption) ?_
    simp only [List.setIfInBounds_toArray, List.set_cons_succ, List.set_cons_zero]
    refine take_at (i := 3) (d := 81) (v := .int .i64 3) rfl rfl (by kernel_rfl) (by kernel_rfl) (by kernel_rfl) (fun _ _ _ h => h) (by kernel_rfl) (by (intro w hSw; (try dsimp only at hSw); go_simp)) (by assumption) ?_
    simp only [List.setIfInBounds_toArray, List.set_cons_succ, List.set_cons_zero]
    refine take_at (i := 4) (d := 82) (v := .bool false) rfl rfl (by kernel_rfl) (by kernel_rfl) (by kernel_rfl) (fun _ _ _ h => h) (by kernel_rfl) (by (intro w hSw; (try dsimp only at hSw); go_simp)) (by assumption) ?_
    simp only [List.setIfInBounds_toArray, List.set_cons_succ, List.set_cons_zero]
    refine take_at (i := 5) (d := 83) (v := .bool false) rfl rfl (by kernel_rfl) (by kernel_rfl) (by kernel_rfl) (fun _ _ _ h => h) (by kernel_rfl) (by (intro w hSw; (try dsimp only at hSw); go_simp)) (by assumption) ?_
    simp only [List.setIfInBounds_toArray, List.set_cons_succ, List.set_cons_zero]
    refine take_at (i := 6) (d := 84) (v := .slice (some ⟨g, 0, none⟩) 3 cap4) rfl rfl (by kernel_rfl) (by kernel_rfl) (by kernel_rfl) (fun _ _ _ h => h) (by kernel_rfl) (by (intro w hSw; (try dsimp only at hSw); go_simp)) (by assumption) ?_
    simp only [List.setIfInBounds_toArray, List.set_cons_succ, List.set_cons_zero]
    refine take_at (i := 7) (d := 85) (v := .pointer (some ⟨g, 0, none⟩)) rfl rfl (by kernel_rfl) (by kernel_rfl) (by kernel_rfl) (fun _ _ _ h => h) (by kernel_rfl) (by (intro w hSw; (try dsimp only at hSw); go_simp)) (by assumption) ?_
    simp only [List.setIfInBounds_toArray, List.set_cons_succ, List.set_cons_zero]
    refine take_at (i := 8) (d := 86) (v := .int .i64 (a : Int)) rfl rfl (by kernel_rfl) (by kernel_rfl) (by kernel_rfl) (fun _ _ _ h => h) (by kernel_rfl) (by (intro w hSw; (try dsimp only at hSw); go_simp)) (by assumption) ?_
    simp only [List.setIfInBounds_toArray, List.set_cons_succ, List.set_cons_zero]
    refine take_at (i := 9) (d := 87) (v := .slice (some ⟨g, 0, none⟩) 3 cap4) rfl rfl (by kernel_rfl) (by kernel_rfl) (by kernel_rfl) (fun _ _ _ h => h) (by kernel_rfl) (by (intro w hSw; (try dsimp only at hSw); go_simp)) (by assumption) ?_
    simp only [List.setIfInBounds_toArray, List.set_cons_succ, List.set_cons_zero]
    refine take_at (i := 10) (d := 88) (v := .pointer (some ⟨g, 1, none⟩)) rfl rfl (by kernel_rfl) (by kernel_rfl) (by kernel_rfl) (fun _ _ _ h => h) (by kernel_rfl) (by (intro w hSw; (try dsimp only at hSw); go_simp)) (by assumption) ?_
    simp only [List.setIfInBounds_toArray, List.set_cons_succ, List.set_cons_zero]
    refine take_at (i := 11) (d := 89) (v := .int .i64 (b : Int)) rfl rfl (by kernel_rfl) (by kernel_rfl) (by kernel_rfl) (fun _ _ _ h => h) (by kernel_rfl) (by (intro w hSw; (try dsimp only at hSw); go_simp)) (by assumption) ?_
    simp only [List.setIfInBounds_toArray, List.set_cons_succ, List.set_cons_zero]
    refine take_at (i := 12) (d := 90) (v := .int .i64 ((a : Int) + (b : Int))) rfl rfl (by kernel_rfl) (by kernel_rfl) (by kernel_rfl) (fun _ _ _ h => h) (by kernel_rfl) (fun _ _ => run_add_op rfl rfl rfl (IntWalk.i64_in _ (by omega)) _) (by assumption) ?_
    simp only [List.setIfInBounds_toArray, List.set_cons_succ, List.set_cons_zero]
    refine take_at (i := 13) (d := 91) (v := .slice (some ⟨g, 0, none⟩) 3 cap4) rfl rfl (by kernel_rfl) (by kernel_rfl) (by kernel_rfl) (fun _ _ _ h => h) (by kernel_rfl) (by (intro w hSw; (try dsimp only at hSw); go_simp)) (by assumption) ?_
    simp only [List.setIfInBounds_toArray, List.set_cons_succ, List.set_cons_zero]
    refine take_at (i := 14) (d := 92) (v := .pointer (some ⟨g, 2, none⟩)) rfl rfl (by kernel_rfl) (by kernel_rfl) (by kernel_rfl) (fun _ _ _ h => h) (by kernel_rfl) (by (intro w hSw; (try dsimp only at hSw); go_simp)) (by assumption) ?_
    simp only [List.setIfInBounds_toArray, List.set_cons_succ, List.set_cons_zero]
    refine take_at (i := 15) (d := 93) (v := .int .i64 (cc : Int)) rfl rfl (by kernel_rfl) (by kernel_rfl) (by kernel_rfl) (fun _ _ _ h => h) (by kernel_rfl) (by (intro w hSw; (try dsimp only at hSw); go_simp)) (by assumption) ?_
    simp only [List.setIfInBounds_toArray, List.set_cons_succ, List.set_cons_zero]
    refine take_at (i := 16) (d := 94) (v := .int .i64 (z : Int)) rfl rfl (by kernel_rfl) (by kernel_rfl) (by kernel_rfl) (fun _ _ _ h => h) (by kernel_rfl) (fun _ _ => run_add_op rfl rfl rfl ((IntWalk.i64_in _ (by omega)).trans (by omega)) _) (by assumption) ?_
    simp only [List.setIfInBounds_toArray, List.set_cons_succ, List.set_cons_zero]
    refine take_at (i := 17) (d := 95) (v := .slice A' l'.length c') rfl rfl (by kernel_rfl) (by kernel_rfl) (by kernel_rfl) (fun _ _ _ h => h) (by kernel_rfl) (by (intro w hSw; (try dsimp only at hSw); go_simp)) (by assumption) ?_
    simp only [List.setIfInBounds_toArray, List.set_cons_succ, List.set_cons_zero]
    refine take_at (i := 18) (d := 96) (v := .string t') rfl rfl (by kernel_rfl) (by kernel_rfl) (by kernel_rfl) (fun _ _ _ h => h) (by kernel_rfl) (by (intro w hSw; (try dsimp only at hSw); go_simp)) (by assumption) ?_
    simp only [List.setIfInBounds_toArray, List.set_cons_succ, List.set_cons_zero]
    refine wpAnyH_ready (rs := [19]) (by kernel_rfl) (by simp) ?_
    refine AllReadyH.cons rfl (fun K hK => ?_) AllReadyH.nil
    go_simp
    refine (D3.out _ ((HT8.out.below hHeld.2.2.2.2).more hHeld.2.2.2.2.size)).mono ?_
    rintro e w9 ⟨rfl, hb⟩
    have hs9 : w9.cell? ⟨g, 0, none⟩ = some (.int .i64 (a : Int)) ∧ w9.cell? ⟨g, 1, none⟩ = some (.int .i64 (b : Int)) ∧ w9.cell? ⟨g, 2, none⟩ = some (.int .i64 (cc : Int)) ∧ g < w9.heap.size ∧ Below w8.heap.size w8 w9 :=
      ⟨(hb.cell (p := ⟨g, 0, none⟩) hHeld.2.2.2.1).trans hHeld.1, (hb.cell (p := ⟨g, 1, none⟩) hHeld.2.2.2.1).trans hHeld.2.1, (hb.cell (p := ⟨g, 2, none⟩) hHeld.2.2.2.1).trans hHeld.2.2.1, Nat.lt_of_lt_of_le hHeld.2.2.2.1 hb.size, hHeld.2.2.2.2.trans (hb.mono hHeld.2.2.2.2.size)⟩
    clear hb hHeld
    refine hK.out _ _ hs9 (fun hHeld => ?_)
    clear hK K hs9
    refine take_at (i := 20) (d := 98) (v := .bool false) rfl rfl (by kernel_rfl) (by kernel_rfl) (by kernel_rfl) (fun _ _ _ h => h) (by kernel_rfl) (by (intro w hSw; (try dsimp only at hSw); go_simp)) (by assumption) ?_
    simp only [List.setIfInBounds_toArray, List.set_cons_succ, List.set_cons_zero]
    refine take_at (i := 21) (d := 99) (v := .bool false) rfl rfl (by kernel_rfl) (by kernel_rfl) (by kernel_rfl) (fun _ _ _ h => h) (by kernel_rfl) (by (intro w hSw; (try dsimp only at hSw); go_simp)) (by assumption) ?_
    simp only [List.setIfInBounds_toArray, List.set_cons_succ, List.set_cons_zero]
    refine take_at (i := 22) (d := 100) (v := .bool false) rfl rfl (by kernel_rfl) (by kernel_rfl) (by kernel_rfl) (fun _ _ _ h => h) (by kernel_rfl) (by (intro w hSw; (try dsimp only at hSw); go_simp)) (by assumption) ?_
    simp only [List.setIfInBounds_toArray, List.set_cons_succ, List.set_cons_zero]
    refine wpAnyH_done (by kernel_rfl) ?_ _
    have hb := hHeld.2.2.2.2
    clear hHeld q0 q1 q2
    have HS9 := Lib.hid ((HS8.out.below hb).more hb.size)
    have HB9 : Hid (Below w.heap.size w w9) := HB8.out.trans (hb.mono HB8.out.size)
    clear hb HS8 HT8 HB8 D3
    go_wp2_with fail
    refine (C3.out _ HS9.out).mono ?_
    rintro e w10 ⟨rfl, hb⟩
    have HS10 : Hid (Segs w10 w10.heap.size A l) := (HS9.out.below hb).more hb.size
    have HB10 : Hid (Below w.heap.size w w10) := HB9.out.trans (hb.mono HB9.out.size)
    clear hb HS9 HB9  C3
    rcases HK.out with ⟨rfl, rfl⟩ | ⟨rfl, rfl, rfl⟩ | ⟨rfl, rfl, rfl, rfl⟩ | ⟨rfl, rfl, rfl, rfl⟩ | ⟨rfl, rfl, rfl⟩
    · clear C4
      go_wp2
      go_ret
      exact ⟨rfl, HB10.out⟩
    · go_wp2_with fail
      refine (C4.out _ HS10.out).mono ?_
      rintro e w11 ⟨rfl, hb⟩
      have HB11 : Hid (Below w.heap.size w w11) := HB10.out.trans (hb.mono HB10.out.size)
      clear hb
      go_wp2
      go_ret
      exact ⟨rfl, HB11.out⟩
    · go_wp2_with fail
      refine (C4.out _ HS10.out).mono ?_
      rintro e w11 ⟨rfl, hb⟩
      have HB11 : Hid (Below w.heap.size w w11) := HB10.out.trans (hb.mono HB10.out.size)
      clear hb
      go_wp2
      go_ret
      exact ⟨rfl, HB11.out⟩
    · go_wp2_with fail
      refine (C4.out _ HS10.out).mono ?_
      rintro e w11 ⟨rfl, hb⟩
      have HB11 : Hid (Below w.heap.size w w11) := HB10.out.trans (hb.mono HB10.out.size)
      clear hb
      go_wp2
      go_ret
      exact ⟨rfl, HB11.out⟩
    · go_wp2_with fail
      refine (C4.out _ HS10.out).mono ?_
      rintro e w11 ⟨rfl, hb⟩
      have HB11 : Hid (Below w.heap.size w w11) := HB10.out.trans (hb.mono HB10.out.size)
      clear hb
      go_wp2
      go_ret
      exact ⟨rfl, HB11.out⟩

end Go.Proofs.YtafpefjjeddmeaaDoor
