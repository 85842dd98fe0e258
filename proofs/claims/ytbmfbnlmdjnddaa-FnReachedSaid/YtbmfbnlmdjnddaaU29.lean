/- Joined: Im Lh Ih. -/
import Derived.Test.YtbmfbnlmdjnddaaU28
import Derived.Test.YtbmfbnlmdjnddaaU03
import Derived.Test.YtbmfbnlmdjnddaaU02
import Derived.Test.YtbmfbnlmdjnddaaU27
/- Draws of chapter 7: a tree and pairs. -/
namespace Go.Proofs.Ytbmfbnlmdjnddaa
open Go.RowKit

def PairsSome (b P : Nat) (w : World) (e : Ending) (w' : World) : Prop :=
  ∃ (A : Option Addr) (l : List Seg) (c : Nat) (A2 : Option Addr) (ts : List ByteArray) (c2 : Nat), e = .returned (.tuple #[.slice A (List.length l) c, .slice A2 (List.length ts) c2]) ∧ (Segs w' w'.heap.size A l ∧ ∀ g o, A = some ⟨g, o, none⟩ → b < g) ∧ (l.length ≤ 9 ∧ l.length ≤ c ∧ c ≤ 9223372036854775807) ∧ (∀ s ∈ l, s.name.size ≤ 8) ∧ (St.Strs w' w'.heap.size A2 ts ∧ ∀ g o, A2 = some ⟨g, o, none⟩ → b < g) ∧ ts.length ≤ 100 ∧ (∀ x ∈ ts, x.size ≤ 1000) ∧ Only w w' (· = b) ∧ Rd w' b (P + 500)

set_option maxRecDepth 100000 in
/-- append of texts to a row of texts of the call's own. -/
theorem wp_append_txts {ops : Array Oper} {rest : List Oper} {o : Oper} {a : Act} {Q : Exit → Act → World → Prop} (hgd : o.guard = none) (S X : Operand)
    (ho : o.op = Op.call { callee := Callee.builtin Builtin.append, args := #[S, X], argTypes := #[24, 24] })
    (B : Nat) (v : Value) (ts : List ByteArray) (W : World) (hs : a.eval S = v) (hown : OwnTexts W B v ts) (htl : ts.length ≤ 1000) (hB : B ≤ W.heap.size)
    (g off m c : Nat) (us : List ByteArray) (hx : a.eval X = .slice (some ⟨g, off, none⟩) m c) (hm : us.length = m) (hul : us.length ≤ 1000)
    (hnew : ∀ j x, us[j]? = some x → W.cell? ⟨g, off + j, none⟩ = some (.string x))
    (h : ∀ v' w', OwnTexts w' B v' (ts ++ us) → Below B W w' → (∀ k, k < W.heap.size → v.ownBlock ≠ some k → w'.heap[k]? = W.heap[k]?) → (v' = .slice none 0 0 ↔ v = .slice none 0 0 ∧ m = 0) → wpList Try.prog ops Q rest (a.put o.dst v') w') :
    wpList Try.prog ops Q (o :: rest) a W := by
  obtain ⟨i0, hi, hz0, hz1, hz2⟩ := info_parts info_str
  refine wpList_append_own W hgd S X 24 ho B 9 i0 (.string ByteArray.empty) 1 16 Try.underlying24 hi hz0 hz1 hz2 rfl (by decide) v ts.length (ts.map Value.string) hs hown ⟨g, off, none⟩ m c (us.map Value.string) hx (by rw [List.length_map, hm, Nat.mul_one]) ?_ ?_ (by unfold maxLen; omega) (by omega) hB ?_
  · intro j u hj
    rw [List.getElem?_map] at hj
    rw [Addr.add_lit]
    cases hu : us[j]? with
    | none => rw [hu] at hj; cases hj
    | some x =>
      rw [hu] at hj
      injection hj with hj
      rw [← hj]
      exact hnew j x hu
  · intro u hu
    obtain ⟨x, _, rfl⟩ := List.mem_map.1 hu
    rfl
  · intro v' w' h1 h2 h3
    refine h v' w' ?_ ?_ ?_ h3
    · show w'.ownsRow B _ 1 v' (ts ++ us).length ((ts ++ us).map Value.string)
      rw [List.length_append, List.map_append, hm]
      exact h1
    · exact (Below.refl B W).grown h2 hB (fun k e => (World.ownsRow.lt hown k e).1)
    · exact fun k hk hne => h2.block k hk (fun e => hne e.symm)

set_option maxRecDepth 100000 in
set_option maxHeartbeats 4000000 in
theorem l7Some_any (hgood : GoodSaid) (b P : Nat) (w : World) (hr : Rd w b P) (hP : P ≤ 10) :
    Calls Try.prog 40 #[.pointer (some ⟨b, 0, none⟩)] w (PairsSome b P w) := by
  have HL1 := Lib.hid (l1Some_plain b P w hr (by omega) (fun w h => hgood b P w (by omega) h))
  have hbl := hr.lt
  unfold SomePost at HL1
  clear hr
  unfold PairsSome
  go_enter Try.func40, Try.ntmps40
  go_wp2_with fail
  refine Calls.mono HL1.out ?_
  rintro e w1 ⟨A, l, c, rfl, ⟨hs1, hA⟩, ⟨hl9, hlc, hcm⟩, hnm, ho1, hr1⟩
  have hsh : Short l := fun x hx => by have := hnm x hx; unfold maxLen; omega
  have HS1 := Lib.hid hs1
  have HA := Lib.hid hA
  have HNM := Lib.hid hnm
  have HO1 := Lib.hid ho1
  have HR1 := Lib.hid hr1
  have HTV := Lib.hid (specTreeValid_any A l c w1 hs1 (by omega) hsh)
  clear hs1 hA hnm ho1 hr1 hsh HL1
  cases hv : validB l with
  | false =>
    rw [hv] at HTV
    go_wp2_with fail
    refine Calls.mono HTV.out ?_
    rintro e w2 ⟨rfl, hb2⟩
    have hS2 : Segs (w2.alloc (.cells #[.string ⟨#[65, 66]⟩] 9)) (w2.alloc (.cells #[.string ⟨#[65, 66]⟩] 9)).heap.size A l := ((HS1.out.below hb2).more hb2.size).below ((Below.refl _ w2).alloc (Nat.le_refl _) _) |>.more (by simp)
    have HS2 := Lib.hid hS2
    have HO2 : Hid (Only w (w2.alloc (.cells #[.string ⟨#[65, 66]⟩] 9)) (· = b)) := (HO1.out.andBelow hb2).andBelow ((Below.refl _ w2).alloc (Nat.le_refl _) _)
    have HR2 := Lib.hid (((HR1.out.below hb2).alloc (.cells #[.string ⟨#[65, 66]⟩] 9)).weak (Q := P + 500) (by omega))
    have HT2 := Lib.hid (strsOf (OwnTexts.one w2 (Nat.le_refl _) ⟨#[65, 66]⟩))
    have hbw : b < w2.heap.size := (HR1.out.below hb2).lt
    clear hb2 hS2 HTV
    go_wp2
    go_ret2
    exact ⟨A, l, c, some ⟨w2.heap.size, 0, none⟩, [⟨#[65, 66]⟩], 1, rfl, ⟨HS2.out, HA.out⟩, ⟨hl9, hlc, hcm⟩, HNM.out, ⟨HT2.out, fun g o e => by injection e with e; injection e with e; omega⟩, by simp, fun x hx => by rw [List.mem_singleton.1 hx]; exact (by decide : 2 ≤ 1000), HO2.out, HR2.out⟩
  | true =>
    rw [hv] at HTV
    go_wp2_with fail
    refine Calls.mono HTV.out ?_
    rintro e w2 ⟨rfl, hb2⟩
    have HS2 : Hid (Segs w2 w2.heap.size A l) := (HS1.out.below hb2).more hb2.size
    have HO2 : Hid (Only w w2 (· = b)) := HO1.out.andBelow hb2
    have HR2 := Lib.hid (HR1.out.below hb2)
    have HGD := Lib.hid (l7Good_any b (P + 50) A l c w2 HR2.out (by omega) HS2.out HA.out hv)
    unfold PairsDrawn at HGD
    clear hb2 HS1 HO1 HR1 HTV
    go_wp2_with fail
    refine Calls.mono HGD.out ?_
    rintro e w3 ⟨v3, L3, rfl, hs3, hl3, h23, ho3, hr3⟩
    have HS3 : Hid (Segs w3 w3.heap.size A l) := HS2.out.farO ho3 HA.out
    have HO3 : Hid (Only w w3 (· = b)) := HO2.out.trans ho3
    have HR3 := Lib.hid hr3
    have HP3 := Lib.hid hs3
    have H23 := Lib.hid h23
    have hb3 : b < w2.heap.size := HR2.out.lt
    have HZ2 : Hid (w.heap.size ≤ w2.heap.size) := HO2.out.size
    clear hs3 h23 ho3 hr3 HGD HS2 HO2 HR2
    go_wp2_with fail
    refine (draw_any b (P + 50 + 40) 3 w3 HR3.out (by omega) (by omega) (by omega)).mono ?_
    rintro e w4 ⟨x, rfl, ⟨hx0, -⟩, ho4, hr4⟩
    have HS4 : Hid (Segs w4 w4.heap.size A l) := HS3.out.farO ho4 HA.out
    have HO4 : Hid (Only w w4 (· = b)) := HO3.out.trans ho4
    have HR4 := Lib.hid hr4
    have HP4 : Hid (SolidTexts w4 w2.heap.size v3 (L3.map strOf)) := ⟨HP3.out.1.far (fun g hg => ho4.block g (World.ownsRow.lt HP3.out.1 g hg).2 (by have := (World.ownsRow.lt HP3.out.1 g hg).1; omega)), HP3.out.2⟩
    clear ho4 hr4 HP3 HS3 HO3 HR3
    by_cases hx : x = 0
    case' pos =>
      subst hx
      have HDW := Lib.hid (l7Down_any b (P + 50 + 40 + 1) A l c w4 HR4.out (by omega) HS4.out HA.out hv)
      unfold PairsDrawn at HDW
      go_wp2_with fail
      refine Calls.mono HDW.out ?_
      rintro e w5 ⟨v5, L5, rfl, hs5, hl5, h25, ho5, hr5⟩
      have HS5 : Hid (Segs w5 w5.heap.size A l) := HS4.out.farO ho5 HA.out
      have HO5 : Hid (Only w w5 (· = b)) := HO4.out.trans ho5
      have HR5 : Hid (Rd w5 b (P + 131)) := hr5.weak (by omega)
      have HP5 : Hid (SolidTexts w5 w.heap.size v5 (L5.map strOf)) := ⟨own_low hs5.1 HO4.out.size, hs5.2⟩
      have H25 := Lib.hid h25
      clear hs5 h25 ho5 hr5 HDW HS4 HO4 HR4 HP4 H23 hl3
    case' neg =>
      have hx' : (x == 0) = false := beq_eq_false_iff_ne.2 hx
      have HS5 := HS4
      have HO5 := HO4
      have HR5 : Hid (Rd w4 b (P + 131)) := HR4.out.weak (by omega)
      have HP5 : Hid (SolidTexts w4 w.heap.size v3 (L3.map strOf)) := ⟨own_low HP4.out.1 HZ2.out, HP4.out.2⟩
      have H25 := H23
      have hl5 := hl3
      obtain ⟨w5, hw5⟩ : ∃ w5, w5 = w4 := ⟨_, rfl⟩
      obtain ⟨v5, hv5⟩ : ∃ v5, v5 = v3 := ⟨_, rfl⟩
      obtain ⟨L5, hL5⟩ : ∃ L5, L5 = L3 := ⟨_, rfl⟩
      subst hw5 hv5 hL5
      clear HS4 HO4 HR4 HP4 H23 hl3
    all_goals
      have hv0 := hv
      clear hv
      go_wp2_with fail
      refine (draw_any b (P + 131) 20 w5 HR5.out (by omega) (by omega) (by omega)).mono ?_
      rintro e w6 ⟨y, rfl, ⟨hy0, -⟩, ho6, hr6⟩
      have HS6 : Hid (Segs w6 w6.heap.size A l) := HS5.out.farO ho6 HA.out
      have HO6 : Hid (Only w w6 (· = b)) := HO5.out.trans ho6
      have HR6 := Lib.hid hr6
      have HP6 : Hid (SolidTexts w6 w.heap.size v5 (L5.map strOf)) := ⟨HP5.out.1.far (fun g hg => ho6.block g (World.ownsRow.lt HP5.out.1 g hg).2 (by have := (World.ownsRow.lt HP5.out.1 g hg).1; omega)), HP5.out.2⟩
      clear ho6 hr6 HP5 HS5 HO5 HR5
      obtain ⟨g5, cap5, rfl⟩ := HP6.out.form
      by_cases hy : y = 0
      · subst hy
        have hA6 := hbl
        have hbw6 : b < w6.heap.size := HR6.out.lt
        have HC5 : Hid (∀ j x, (L5.map strOf)[j]? = some x → (w6.alloc (.cells #[] 9)).cell? ⟨g5, 0 + j, none⟩ = some (.string x)) := fun j x hj => by
          have h1 := strsOf HP6.out.1
          obtain ⟨b9, o9, e9, hB9, hc9⟩ := h1 (by have := (List.getElem?_eq_some_iff.1 hj).1; omega)
          injection e9 with e9
          injection e9 with e1 e2
          subst e1 e2
          exact Lib.cell?_alloc_some _ (hc9 j x hj)
        have hlm : (L5.map strOf).length = L5.length := List.length_map _
        have hl50 : (L5.map strOf).length ≤ 9 := by rw [hlm]; exact hl5
        have H2S : Hid (∀ x ∈ L5.map strOf, x.size ≤ 1000) := fun x hx => by obtain ⟨u, hu, rfl⟩ := List.mem_map.1 hx; rw [str_size, H25.out u hu]; decide
        generalize L5.map strOf = us at *
        have HE0 := Lib.hid (OwnTexts.empty (B := w6.heap.size) w6 (Nat.le_refl _))
        go_wp2_with (at_builtin; go_loud (refine wp_append_txts rfl (.tmp 33) (.tmp 34) rfl w6.heap.size (.slice (some ⟨w6.heap.size, 0, none⟩) 0 0) [] _ rfl HE0.out (by simp) (by simp) g5 0 L5.length cap5 us rfl hlm (by omega) HC5.out ?_); intro v7 w7 ho7 hb7 _ _; have HO7 := Lib.hid ho7; have HB7 : Hid (Below w6.heap.size w6 w7) := ((Below.refl _ w6).alloc (Nat.le_refl _) _).trans hb7; clear ho7 hb7 HC5 HE0)
        rw [List.nil_append] at HO7
        have HR7 := Lib.hid ((HR6.out.below HB7.out).alloc (.cells #[.string ⟨#[65, 65]⟩, .string ⟨#[72, 88]⟩, .string ⟨#[]⟩, .string ⟨#[65]⟩, .string ⟨#[72, 72]⟩] 9))
        have HX7 := Lib.hid (texts_new w7 b 9 [⟨#[65, 65]⟩, ⟨#[72, 88]⟩, ⟨#[]⟩, ⟨#[65]⟩, ⟨#[72, 72]⟩] (HR6.out.below HB7.out).lt)
        refine (of_any b (P + 132) w7.heap.size 0 5 5 _ _ HR7.out (by omega) (by omega) (by omega) HX7.out).mono ?_
        rintro e w8 ⟨z, rfl, hz, ho8, hr8⟩
        have hzs : z.size ≤ 1000 := by
          have h9 : ∀ x ∈ ([⟨#[65, 65]⟩, ⟨#[72, 88]⟩, ⟨#[]⟩, ⟨#[65]⟩, ⟨#[72, 72]⟩] : List ByteArray), x.size ≤ 1000 := by decide
          exact h9 z hz
        have HO8 : Hid (Only w7 w8 (· = b)) := ho8.fresh
        have HR8 := Lib.hid hr8
        have HT8 : Hid (OwnTexts w8 w6.heap.size v7 us) := HO7.out.far (fun g hg => HO8.out.block g (World.ownsRow.lt HO7.out g hg).2 (by have := (World.ownsRow.lt HO7.out g hg).1; omega))
        clear ho8 hr8 hz HX7 HR7 HO7
        have HN9 : Hid (∀ j x, ([z] : List ByteArray)[j]? = some x → (w8.alloc (.cells #[.string z] 9)).cell? ⟨w8.heap.size, 0 + j, none⟩ = some (.string x)) := fun j x hj => by
          cases j with
          | zero =>
            injection hj with hj
            rw [← hj]
            exact (Row.new w8 9 #[.string z]).cell 0
          | succ j => cases hj
        have HT9 : Hid (OwnTexts (w8.alloc (.cells #[.string z] 9)) w6.heap.size v7 us) := HT8.out.below ((Below.refl _ w8).alloc (Nat.le_refl _) _)
        go_wp2_with (at_builtin; go_loud (refine wp_append_txts rfl (.tmp 35) (.tmp 39) rfl w6.heap.size v7 us _ rfl HT9.out (by omega) (by have := HB7.out.size; have := HO8.out.size; simp; omega) w8.heap.size 0 1 1 [z] rfl rfl (by simp) HN9.out ?_); intro v9 w9 ho9 hb9 _ _; have HO9 := Lib.hid ho9; have HB9 : Hid (Below w6.heap.size w8 w9) := ((Below.refl _ w8).alloc (by have := HB7.out.size; have := HO8.out.size; omega) _).trans hb9; clear ho9 hb9 HN9 HT9)
        obtain ⟨A9, cap9, rfl, hs9⟩ := St.textsForm HO9.out
        have HY69 : Hid (Only w6 w9 (· = b)) := ⟨HB9.out.os.trans (HO8.out.os.trans HB7.out.os), HB9.out.tape.trans (HO8.out.tape.trans HB7.out.tape), HB9.out.output.trans (HO8.out.output.trans HB7.out.output), Nat.le_trans HB7.out.size (Nat.le_trans HO8.out.size HB9.out.size), fun k hk hn => (HB9.out.block k hk).trans ((HO8.out.block k (Nat.lt_of_lt_of_le hk HB7.out.size) hn).trans (HB7.out.block k hk))⟩
        have HY9 : Hid (Only w w9 (· = b)) := HO6.out.trans HY69.out
        have HS9 : Hid (Segs w9 w9.heap.size A l) := HS6.out.farO HY69.out HA.out
        have HR9 : Hid (Rd w9 b (P + 500)) := (HR8.out.belowB HB9.out hbw6).weak (by omega)
        have HA9 : Hid (∀ g o, A9 = some ⟨g, o, none⟩ → b < g) := fun g o e => by
          subst e
          have := (World.ownsRow.lt HO9.out g rfl).1
          omega
        have HX9 : Hid (St.Strs w9 w9.heap.size A9 (us ++ [z])) := hs9
        have HZ9 : Hid ((us ++ [z]).length ≤ 100) := by show _ ≤ _; rw [List.length_append]; simp; omega
        have HZS : Hid (∀ x ∈ us ++ [z], x.size ≤ 1000) := fun x hx => by
          rcases List.mem_append.1 hx with hx | hx
          · exact H2S.out x hx
          · rw [List.mem_singleton.1 hx]; exact hzs
        clear hs9 HY69 HR8 HS6 HO6
        generalize us ++ [z] = us2 at *
        go_wp2
        go_ret2
        exact ⟨A, l, c, A9, us2, cap9, rfl, ⟨HS9.out, HA.out⟩, ⟨hl9, hlc, hcm⟩, HNM.out, ⟨HX9.out, HA9.out⟩, HZ9.out, HZS.out, HY9.out, HR9.out⟩
      · have hy' : (y == 0) = false := beq_eq_false_iff_ne.2 hy
        by_cases hy1 : y = 1
        · subst hy1
          have hbw6 : b < w6.heap.size := HR6.out.lt
          have HR6a := Lib.hid ((HR6.out.alloc (.cells #[] 9)).alloc (.cells #[.int .i64 20, .int .i64 21] 3))
          have HN6 := Lib.hid (nums_new (w6.alloc (.cells #[] 9)) b 3 [20, 21] (by simp; omega))
          have HS0 : Hid (SolidTexts (w6.alloc (.cells #[] 9)) w6.heap.size (.slice (some ⟨w6.heap.size, 0, none⟩) 0 0) []) := ⟨OwnTexts.empty w6 (Nat.le_refl _), fun h => by cases h⟩
          have HV0 := Lib.hid hv0
          clear HP6 HR6
          go_wp2_with fail
          refine (num_any b (P + 132) (w6.heap.size + 1) 0 2 2 (· ∈ [20, 21]) _ HR6a.out (by omega) (by omega) (by omega) (by have := HN6.out; simpa using this)).mono ?_
          rintro e w7 ⟨n0, rfl, hn0, ho7, hr7⟩
          obtain ⟨n, rfl, hn21⟩ : ∃ n : Nat, n0 = (n : Int) ∧ n ≤ 21 := by
            have h9 : ∀ x ∈ ([20, 21] : List Int), 0 ≤ x ∧ x ≤ 21 := by decide
            obtain ⟨k, hk⟩ := Int.eq_ofNat_of_zero_le (h9 n0 hn0).1
            exact ⟨k, hk, by have := (h9 n0 hn0).2; omega⟩
          have HO7 : Hid (Only w6 w7 (· = b)) := ho7.fresh.fresh
          have HR7 := Lib.hid hr7
          have HS7 : Hid (SolidTexts w7 w6.heap.size (.slice (some ⟨w6.heap.size, 0, none⟩) 0 0) []) := ⟨HS0.out.1.far (fun g hg => by
            injection hg with hg
            rw [← hg]
            exact (ho7.block w6.heap.size (by simp; omega) (by omega)).trans (Below.heap_alloc _ _ _ (by simp))), HS0.out.2⟩
          have HW7 : Hid (Segs w7 w7.heap.size A l) := HS6.out.farO HO7.out HA.out
          clear ho7 hr7 hn0 HS0 HN6 HR6a HS6
          have h1l := (valid_all HV0.out).2.2
          obtain ⟨b9, o, rfl, hB, hc⟩ := HW7.out (by omega)
          have HCELL : Hid (∀ W i, Below w7.heap.size w7 W → (hi : i < l.length) → ∃ s : Seg, W.cell? ⟨b9, o + i * 3, none⟩ = some (.string ⟨#[byteOf l i]⟩) ∧ W.cell? ⟨b9, o + i * 3 + 1, none⟩ = some (.int .i64 s.size) ∧ W.cell? ⟨b9, o + i * 3 + 2, none⟩ = some (.int .i64 s.par)) := fun W i hb hi => by
            obtain ⟨e1, e2, e3⟩ := hc i l[i] (List.getElem?_eq_getElem hi)
            refine ⟨l[i], ?_, ?_, ?_⟩
            · rw [hb.cell (p := ⟨b9, o + i * 3, none⟩) hB, e1, (nmAt_one HV0.out hi).2]
            · rw [hb.cell (p := ⟨b9, o + i * 3 + 1, none⟩) hB, e2]
            · rw [hb.cell (p := ⟨b9, o + i * 3 + 2, none⟩) hB, e3]
          clear hc hB
          go_wp2
          go_loopw [6, 49] (fun ov iv wr => ∃ (k : Nat) (vo : Value) (L : List Txt), k ≤ l.length ∧ iv = .int .i64 k ∧ vo = ov ∧ Hid (SolidTexts wr w6.heap.size vo (L.map strOf)) ∧ L.length ≤ n ∧ Hid (∀ x ∈ L, x.length = 2) ∧ Hid (Below w7.heap.size w7 wr))
            (fun _ iv _ => l.length - (intOf iv).toNat)
          case atStart => exact ⟨0, _, [], Nat.zero_le _, rfl, rfl, HS7, Nat.zero_le _, (fun x hx => absurd hx (by simp)), Below.refl _ _⟩
          case round =>
            obtain ⟨k, vo, L, hk, rfl, rfl, HS, hL, H2, HB⟩ := hrel
            clear HS7
            have hk0 : (0 : Int) ≤ (k : Int) := Int.natCast_nonneg _
            by_cases hlt : k < l.length
            · have hlt' : (k : Int) < (l.length : Int) := by omega
              obtain ⟨s1, e1, e2, e3⟩ := HCELL.out wr k HB.out hlt
              have HSa : Hid (SolidTexts (wr.alloc (.cells #[.string ⟨#[byteOf l k]⟩, .int .i64 s1.size, .int .i64 s1.par] 69)) w6.heap.size vo (L.map strOf)) := ⟨HS.out.1.below ((Below.refl _ wr).alloc (Nat.le_refl _) _), HS.out.2⟩
              have HBa := Lib.hid (HB.out.alloc HB.out.size (.cells #[.string ⟨#[byteOf l k]⟩, .int .i64 s1.size, .int .i64 s1.par] 69))
              have HRW := Lib.hid (Row.new wr 69 #[.string ⟨#[byteOf l k]⟩, .int .i64 s1.size, .int .i64 s1.par])
              have hw7r := HB.out.size
              clear HS HB
              have HD0 : Hid (∀ W, Below (wr.heap.size + 1) (wr.alloc (.cells #[.string ⟨#[byteOf l k]⟩, .int .i64 s1.size, .int .i64 s1.par] 69)) W → W.cell? ⟨wr.heap.size, 0, none⟩ = some (.string ⟨#[byteOf l k]⟩)) := fun W hb => (hb.cell (p := ⟨wr.heap.size, 0, none⟩) (Nat.lt_succ_self _)).trans (HRW.out.cell 0)
              clear HRW
              go_wp2
              clear e1 e2 e3
              generalize hwa : wr.alloc (.cells #[.string ⟨#[byteOf l k]⟩, .int .i64 s1.size, .int .i64 s1.par] 69) = wa at *
              have HWA : Hid (wr.heap.size + 1 = wa.heap.size) := by rw [← hwa]; show _ = _; simp
              clear hwa
              generalize wr.heap.size = gs at *
              go_loopw [6, 55] (fun ov iv wi => ∃ (m : Nat) (vo2 : Value) (L2 : List Txt), m ≤ l.length ∧ iv = .int .i64 m ∧ vo2 = ov ∧ Hid (SolidTexts wi w6.heap.size vo2 (L2.map strOf)) ∧ L2.length ≤ n ∧ Hid (∀ x ∈ L2, x.length = 2) ∧ Hid (Below wa.heap.size wa wi))
                (fun _ iv _ => l.length - (intOf iv).toNat)
              case atStart => exact ⟨0, _, L, Nat.zero_le _, rfl, rfl, HSa, hL, H2, Below.refl _ _⟩
              case round =>
                obtain ⟨m, vo2, L2, hm, rfl, rfl, HS2, hL2, H22, HBI⟩ := hrel
                clear HSa
                have hm0 : (0 : Int) ≤ (m : Int) := Int.natCast_nonneg _
                have HB7I : Hid (Below w7.heap.size w7 wr) := HBa.out.trans (HBI.out.mono (by have := HWA.out; omega))
                by_cases hltm : m < l.length
                · have hltm' : (m : Int) < (l.length : Int) := by omega
                  obtain ⟨s2, e1, e2, e3⟩ := HCELL.out wr m HB7I.out hltm
                  have d0 := HD0.out wr (HBI.out.mono (by rw [HWA.out]; exact Nat.le_refl _))
                  have hszi : gs + 1 ≤ wr.heap.size := by have := HBI.out.size; have := HWA.out; omega
                  have HSi : Hid (SolidTexts (wr.alloc (.cells #[.string ⟨#[byteOf l m]⟩, .int .i64 s2.size, .int .i64 s2.par] 69)) w6.heap.size vo2 (L2.map strOf)) := ⟨HS2.out.1.below ((Below.refl _ wr).alloc (Nat.le_refl _) _), HS2.out.2⟩
                  have HBi := Lib.hid (HBI.out.alloc HBI.out.size (.cells #[.string ⟨#[byteOf l m]⟩, .int .i64 s2.size, .int .i64 s2.par] 69))
                  have d1 := HD0.out _ (HBi.out.mono (by rw [HWA.out]; exact Nat.le_refl _))
                  obtain ⟨g2, cap2, rfl⟩ := HS2.out.form
                  have hlm2 : (L2.map strOf).length = L2.length := List.length_map _
                  rw [hlm2] at HSi HS2 ⊢
                  by_cases hn2 : L2.length < n
                  · have hn2' : (L2.length : Int) < (n : Int) := by omega
                    have HPT := Lib.hid (l4Put_any w6.heap.size (.slice (some ⟨g2, 0, none⟩) L2.length cap2) L2 [byteOf l k, byteOf l m] _ HSi.out (by have := HO7.out.size; have := HB7I.out.size; simp; omega) (by omega))
                    unfold PutPost at HPT
                    have HC : Hid ((⟨#[byteOf l k]⟩ : ByteArray) ++ ⟨#[byteOf l m]⟩ = strOf [byteOf l k, byteOf l m]) := rfl
                    have HPL := Lib.hid (putB_len L2 [byteOf l k, byteOf l m])
                    have HPM := Lib.hid (fun y => putB_mem L2 [byteOf l k, byteOf l m] y)
                    have hza : (⟨#[byteOf l k]⟩ : ByteArray).size = 1 := rfl
                    have hzb : (⟨#[byteOf l m]⟩ : ByteArray).size = 1 := rfl
                    clear hlm2 HS2 HSi HBI HB7I
                    generalize (⟨#[byteOf l k]⟩ : ByteArray) = sa at *
                    generalize (⟨#[byteOf l m]⟩ : ByteArray) = sb at *
                    go_wp2_with fail
                    rw [HC.out]
                    refine Calls.mono HPT.out ?_
                    rintro e w9 ⟨v9, rfl, hs9, hb9⟩
                    have HS9 := Lib.hid hs9
                    have HB9 : Hid (Below wa.heap.size wa w9) := HBi.out.trans (hb9.mono HBi.out.size)
                    have H29 : Hid (∀ y ∈ putB L2 [byteOf l k, byteOf l m], y.length = 2) := fun y hy => by
                      rcases (HPM.out y).1 hy with h | h
                      · exact H22.out y h
                      · rw [h]; rfl
                    have hl9' : (putB L2 [byteOf l k, byteOf l m]).length ≤ n := Nat.le_trans HPL.out (by omega)
                    clear hs9 hb9 HPT HPL HPM HBi
                    go_wp2
                    go_roundw
                    case rel => exact ⟨m + 1, v9, _, by omega, by go_num, rfl, HS9, hl9', H29, HB9⟩
                    case measure => simp [intOf]; omega
                  · have hn2' : ¬ (L2.length : Int) < (n : Int) := by omega
                    clear hlm2 HS2 HBI HB7I
                    go_wp2
                    go_roundw
                    case rel => exact ⟨m + 1, _, L2, by omega, by go_num, rfl, HSi, hL2, H22, HBi⟩
                    case measure => simp [intOf]; omega
                · obtain rfl : m = l.length := by omega
                  go_wp2
                  go_roundw
                  case rel => exact ⟨k + 1, vo2, L2, by omega, by go_num, rfl, HS2, hL2, H22, HB7I⟩
                  case measure => simp [intOf]; omega
            · obtain rfl : k = l.length := by omega
              have HY7 : Hid (Only w6 wr (· = b)) := HO7.out.andBelow HB.out
              have HY9 : Hid (Only w wr (· = b)) := HO6.out.trans HY7.out
              have HS9 := Lib.hid ((HW7.out.below HB.out).more HB.out.size)
              have HR9 : Hid (Rd wr b (P + 500)) := (HR7.out.below HB.out).weak (by omega)
              obtain ⟨g9, cap9, rfl⟩ := HS.out.form
              have HLM : Hid ((L.map strOf).length = L.length) := List.length_map _
              have H2S : Hid (∀ x ∈ L.map strOf, x.size ≤ 1000) := fun x hx => by obtain ⟨u, hu, rfl⟩ := List.mem_map.1 hx; rw [str_size, H2.out u hu]; decide
              have HX9 := Lib.hid (strsOf HS.out.1)
              have HA9 : Hid (b < g9) := by have := (World.ownsRow.lt HS.out.1 g9 rfl).1; show _ < _; omega
              clear HS
              go_wp2
              go_ret2
              exact ⟨_, l, c, _, L.map strOf, cap9, rfl, ⟨HS9.out, HA.out⟩, ⟨hl9, hlc, hcm⟩, HNM.out, ⟨HX9.out, fun g o e => by injection e with e; injection e with e; rw [← e]; exact HA9.out⟩, by rw [HLM.out]; omega, H2S.out, HY9.out, HR9.out⟩
        · have hy1' : (y == 1) = false := beq_eq_false_iff_ne.2 hy1
          go_wp2
          go_ret2
          exact ⟨A, l, c, some ⟨g5, 0, none⟩, L5.map strOf, cap5, by rw [List.length_map]; rfl, ⟨HS6.out, HA.out⟩, ⟨hl9, hlc, hcm⟩, HNM.out, ⟨strsOf HP6.out.1, fun g o e => by injection e with e; injection e with e; rw [← e]; have := (World.ownsRow.lt HP6.out.1 g5 rfl).1; omega⟩, by rw [List.length_map]; omega, fun x hx => by obtain ⟨u, hu, rfl⟩ := List.mem_map.1 hx; rw [str_size, H25.out u hu]; decide, HO6.out, HR6.out.weak (by omega)⟩

end Go.Proofs.Ytbmfbnlmdjnddaa
/- soHas: one of a text's characters is another text. -/
namespace Go.Proofs.Ytbmfbnlmdjnddaa
open Go.RowKit

/-- One of the text's characters is 'c'. -/
def hasT (s c : ByteArray) : Bool := decide (∃ i, i < s.size ∧ s.extract i (i + 1) = c)

set_option maxRecDepth 100000 in
set_option maxHeartbeats 1000000 in
theorem soHas_any (s c : ByteArray) (w : World) (hs : s.size ≤ 1048576) :
    Calls Try.prog 15 #[.string s, .string c] w fun e w' => e = .returned (.bool (hasT s c)) ∧ Below w.heap.size w w' := by
  go_enter Try.func15, Try.ntmps15
  go_wp2
  go_loopw [8] (fun i wr => ∃ k : Nat, k ≤ s.size ∧ i = .int .i64 k ∧ Hid (∀ j, j < k → s.extract j (j + 1) ≠ c) ∧ Below w.heap.size w wr)
    (fun i _ => s.size - (intOf i).toNat)
  case atStart => exact ⟨0, Nat.zero_le _, rfl, fun j hj => absurd hj (by omega), Below.refl _ _⟩
  case round =>
    obtain ⟨k, hk, rfl, HN, hb⟩ := hrel
    by_cases hlt : k < s.size
    · have hlt' : (k : Int) < (s.size : Int) := by omega
      have hk0 : (0 : Int) ≤ (k : Int) := Int.natCast_nonneg _
      have hq : ((k : Int) + 1).toNat = k + 1 := by omega
      by_cases he : s.extract k (k + 1) = c
      · have ht : ((s.extract k (k + 1)).toList == c.toList) = true := by rw [he]; simp
        have HF : Hid (hasT s c = true) := decide_eq_true ⟨k, hlt, he⟩
        clear he HN
        go_wp2
        go_ret
        exact ⟨ret_bool HF.out.symm, hb⟩
      · have ht : ((s.extract k (k + 1)).toList == c.toList) = false := by
          have := (sameB_iff (a := s.extract k (k + 1)) (b := c))
          unfold sameB at this
          cases hq2 : ((s.extract k (k + 1)).toList == c.toList) with
          | false => rfl
          | true => exact absurd (this.1 hq2) he
        have HM : Hid (∀ j, j < k + 1 → s.extract j (j + 1) ≠ c) := fun j hj => by
          rcases Nat.lt_or_ge j k with h | h
          · exact HN.out j h
          · obtain rfl : j = k := by omega
            exact he
        clear he HN
        go_wp2
        go_roundw
        case rel => exact ⟨k + 1, by omega, by go_num, HM, hb⟩
        case measure => simp [intOf]; omega
    · have HF : Hid (hasT s c = false) := decide_eq_false (fun ⟨j, hj, he⟩ => HN.out j (by omega) he)
      clear HN
      go_wp2
      go_ret
      exact ⟨ret_bool HF.out.symm, hb⟩

end Go.Proofs.Ytbmfbnlmdjnddaa
/- What is reached: all that the reached call, and nothing else; plain. -/
namespace Go.Proofs.Ytbmfbnlmdjnddaa

theorem qAt_more (ps : List Txt) (u : UInt8) (k : Nat) : ∀ m, qAt ps u k <+: qAt ps u (k + m)
  | 0 => List.prefix_refl _
  | m + 1 => (qAt_more ps u k m).trans (qAt_pre ps u (k + m))
theorem lasts_pre {a b : List Txt} (h : a <+: b) (ha : a ≠ []) : ∀ v ∈ lasts a, v ∈ lasts b := by
  obtain ⟨t, rfl⟩ := h
  cases a with
  | nil => exact absurd rfl ha
  | cons x a =>
    intro v hv
    unfold lasts at hv ⊢
    rw [List.cons_append, List.tail_cons, List.map_append]
    exact List.mem_append.2 (.inl hv)
theorem stepQ_ne (way : Txt) (cs : List UInt8) {Q : List Txt} (h : Q ≠ []) : stepQ way cs Q ≠ [] := fun e => by
  have := (stepQ_pre way cs Q).length_le
  rw [e] at this
  exact h (List.eq_nil_of_length_eq_zero (by simpa using this))
/-- A step puts in all that are called. -/
theorem stepQ_in (way : Txt) : ∀ (cs : List UInt8) (Q : List Txt), Q ≠ [] → ∀ c ∈ cs, c ∈ lasts (stepQ way cs Q)
  | [], _, _, c, h => by cases h
  | d :: cs, Q, hQ, c, h => by
    show c ∈ lasts (if d ∈ lasts Q then stepQ way cs Q else stepQ way cs (Q ++ [way ++ [d]]))
    by_cases hm : d ∈ lasts Q
    · rw [if_pos hm]
      rcases List.mem_cons.1 h with rfl | h
      · exact lasts_pre (stepQ_pre way cs Q) hQ _ hm
      · exact stepQ_in way cs Q hQ c h
    · rw [if_neg hm]
      rcases List.mem_cons.1 h with rfl | h
      · refine lasts_pre (stepQ_pre way cs _) (by simp) _ ?_
        rw [lasts_snoc hQ]
        exact List.mem_append.2 (.inr (List.mem_singleton.2 rfl))
      · exact stepQ_in way cs _ (by simp) c h
/-- A step puts in nothing else. -/
theorem stepQ_out (way : Txt) : ∀ (cs : List UInt8) (Q : List Txt), Q ≠ [] → ∀ c ∈ lasts (stepQ way cs Q), c ∈ lasts Q ∨ c ∈ cs
  | [], _, _, c, h => .inl h
  | d :: cs, Q, hQ, c, h => by
    have h' : c ∈ lasts (if d ∈ lasts Q then stepQ way cs Q else stepQ way cs (Q ++ [way ++ [d]])) := h
    by_cases hm : d ∈ lasts Q
    · rw [if_pos hm] at h'
      exact (stepQ_out way cs Q hQ c h').imp_right (List.mem_cons_of_mem _)
    · rw [if_neg hm] at h'
      rcases stepQ_out way cs _ (by simp) c h' with h1 | h1
      · rw [lasts_snoc hQ] at h1
        rcases List.mem_append.1 h1 with h1 | h1
        · exact .inl h1
        · exact .inr (by rw [List.mem_singleton.1 h1]; exact List.mem_cons_self)
      · exact .inr (List.mem_cons_of_mem _ h1)
theorem qAt_first (ps : List Txt) (u : UInt8) (k : Nat) : (qAt ps u k)[0]? = some [u] := by
  obtain ⟨t, ht⟩ := qAt_more ps u 0 k
  rw [Nat.zero_add] at ht
  rw [← ht]
  rfl
theorem last_at {ps : List Txt} {u : UInt8} {k j : Nat} {way : Txt} (h : (qAt ps u k)[j]? = some way) : lastB way = u ∨ lastB way ∈ lasts (qAt ps u k) := by
  cases j with
  | zero =>
    rw [qAt_first] at h
    injection h with h
    subst h
    exact .inl rfl
  | succ j =>
    right
    unfold lasts
    refine List.mem_map.2 ⟨way, ?_, rfl⟩
    have h1 : (qAt ps u k).tail[j]? = some way := by rw [List.getElem?_tail]; exact h
    exact List.mem_of_getElem? h1
theorem last_of {ps : List Txt} {u a : UInt8} {k : Nat} (h : a = u ∨ a ∈ lasts (qAt ps u k)) : ∃ (j : Nat) (way : Txt), (qAt ps u k)[j]? = some way ∧ lastB way = a := by
  rcases h with rfl | h
  · exact ⟨0, [a], qAt_first ps a k, rfl⟩
  · unfold lasts at h
    obtain ⟨way, hw, rfl⟩ := List.mem_map.1 h
    obtain ⟨j, hj⟩ := List.mem_iff_getElem?.1 hw
    exact ⟨j + 1, way, by rw [← List.getElem?_tail]; exact hj, rfl⟩
/-- All that the reached call is reached. -/
theorem reach_closed {l : List Seg} {ps : List Txt} (h : IsGraph l ps) {u a b : UInt8} (hab : [a, b] ∈ ps) (ha : a = u ∨ a ∈ reachL ps u) : b ∈ reachL ps u := by
  obtain ⟨j, way, hj, hl⟩ := last_of (k := 32) ha
  have hlen := (qAt_ok ps u 32).len
  have hj' := (List.getElem?_eq_some_iff.1 hj).1
  have h20 := h.len
  have hjlt : j ≤ 20 := by omega
  -- the way stands there when its turn comes
  have hstop : ∀ k, k ≤ 32 → j ≤ k → (qAt ps u j).length ≤ j → False := fun k hk hjk hs => by
    have h1 := qAt_stop hs (32 - j)
    rw [show j + (32 - j) = 32 by omega] at h1
    rw [h1] at hj'
    omega
  have hlt : j < (qAt ps u j).length := by
    rcases Nat.lt_or_ge j (qAt ps u j).length with h1 | h1
    · exact h1
    · exact (hstop 32 (Nat.le_refl _) (by omega) h1).elim
  have hpre := qAt_more ps u j (32 - j)
  rw [show j + (32 - j) = 32 by omega] at hpre
  have hat : (qAt ps u j)[j]? = some way := by
    obtain ⟨t, ht⟩ := hpre
    rw [← ht, List.getElem?_append_left hlt] at hj
    exact hj
  have hs := qAt_succ hat
  have hb : b ∈ calleds ps (lastB way) := by rw [hl]; exact (calleds_iff h a b).2 hab
  have hin := stepQ_in way _ _ (qAt_ok ps u j).1 b hb
  rw [← hs] at hin
  have hpre2 := qAt_more ps u (j + 1) (32 - (j + 1))
  rw [show j + 1 + (32 - (j + 1)) = 32 by omega] at hpre2
  exact lasts_pre hpre2 (qAt_ok ps u (j + 1)).1 b hin
theorem back_at {l : List Seg} {ps : List Txt} (h : IsGraph l ps) (u : UInt8) : ∀ k, ∀ v ∈ lasts (qAt ps u k), ∃ a, [a, v] ∈ ps ∧ (a = u ∨ a ∈ lasts (qAt ps u k))
  | 0, v, hv => by simp [qAt, lasts] at hv
  | k + 1, v, hv => by
    have ih := back_at h u k
    have hup : ∀ a, (a = u ∨ a ∈ lasts (qAt ps u k)) → (a = u ∨ a ∈ lasts (qAt ps u (k + 1))) := fun a ha => ha.imp_right (lasts_pre (qAt_pre ps u k) (qAt_ok ps u k).1 a)
    cases hq : (qAt ps u k)[k]? with
    | none =>
      have he := qAt_none (ps := ps) (u := u) (k := k) (by rw [List.getElem?_eq_none_iff] at hq; exact hq)
      rw [he] at hv
      obtain ⟨a, h1, h2⟩ := ih v hv
      exact ⟨a, h1, hup a h2⟩
    | some way =>
      have he := qAt_succ hq
      rw [he] at hv
      rcases stepQ_out way _ _ (qAt_ok ps u k).1 v hv with h1 | h1
      · obtain ⟨a, h3, h4⟩ := ih v h1
        exact ⟨a, h3, hup a h4⟩
      · exact ⟨lastB way, (calleds_iff h _ _).1 h1, hup _ (last_at hq)⟩
/-- What is reached is called by what is reached, or by where it starts from. -/
theorem reach_back {l : List Seg} {ps : List Txt} (h : IsGraph l ps) {u v : UInt8} (hv : v ∈ reachL ps u) : ∃ a, [a, v] ∈ ps ∧ (a = u ∨ a ∈ reachL ps u) := back_at h u 32 v hv

end Go.Proofs.Ytbmfbnlmdjnddaa
