/- Draws: a good tree. -/
import Derived.Test.YtdbddockmdkmeaaDoorDp
import Derived.Test.YtdbddockmdkmeaaDoorPa
import Derived.BigRegion
namespace Go.Proofs.YtdbddockmdkmeaaDoor
open Go.RowKit

theorem oper_append_seg {w : World} {o : Oper} {a : Act} {K : Act → World → Prop} {Q : Exit → Act → World → Prop} (s x : Operand)
    (ho : o.op = .call { callee := .builtin .append, args := #[s, x], argTypes := #[23, 23] })
    (base n : Nat) (v : Value) (xs : List Value) (hs : a.eval s = v) (hown : w.ownsRow base 66 3 v n xs) (ad : Addr) (news : List Value) (hx : a.eval x = .slice (some ad) 1 1) (hl : news.length = 3)
    (hnews : ∀ j y, news[j]? = some y → w.cell? (ad.add j) = some y) (h1 : ∀ y ∈ news, y.oneCell' = true) (hn : n ≤ 1000) (hbase : base ≤ w.heap.size)
    (h : ∀ v' w', w'.ownsRow base 66 3 v' (n + 1) (xs ++ news) → w.grownBy w' v.ownBlock → K (a.put o.dst v') w') :
    o.wp Tryd.prog a w K Q := by
  obtain ⟨i0, hi, hz0, hz1, hz2⟩ := info_parts info_seg
  obtain ⟨v', w', hr, h2, h3, -, -⟩ := run_append_own_at (P := Tryd.prog) w base 23 o.type 66 i0 zeroSeg 3 32 Tryd.underlying23 hi hz0 hz1 hz2 rfl (by decide) v n xs hown ad 1 1 news (by rw [hl]) hnews h1 (by unfold maxLen; omega) (by omega) hbase
  unfold Oper.wp
  simp [execOp, ho, resolve, invoke, builtin, hs, hx, hr, Result.andThen]
  exact h v' w' h2 h3

theorem nums_below {w w' : World} {b g o n : Nat} {Q : Int → Prop} (h : Nums w b g o n Q) (hb : Below w.heap.size w w') : Nums w' b g o n Q := by
  obtain ⟨h1, h2, h3⟩ := h
  refine ⟨h1, Nat.lt_of_lt_of_le h2 hb.size, fun i hi => ?_⟩
  obtain ⟨v, hv, hq⟩ := h3 i hi
  exact ⟨v, (hb.cell (p := ⟨g, o + i, none⟩) h2).trans hv, hq⟩
theorem only_alloc {w w' : World} {b : Nat} (h : Only w w' (· = b)) (o : Obj) : Only w (w'.alloc o) (· = b) := h.andBelow ((Below.refl _ w').alloc (Nat.le_refl _) _)
theorem wr_u8 {k : Nat} (h : k ≤ 8) : IntKind.u8.wrap (65 + (k : Int)) = 65 + (k : Int) := by
  have h1 : (65 + (k : Int)) % (2 ^ IntKind.u8.bits : Int) = 65 + (k : Int) := by
    show (65 + (k : Int)) % 256 = _
    omega
  unfold IntKind.wrap
  simp only [h1]
  rfl
theorem chr_nat {k : Nat} (h : k ≤ 8) : (((UInt8.ofNat (65 + k)).toNat : Nat) : Int) = 65 + (k : Int) := by
  rw [UInt8.toNat_ofNat']
  omega

set_option maxRecDepth 100000 in
set_option maxHeartbeats 16000000 in
theorem l1Good_any (b P : Nat) (w : World) (hr : Rd w b P) (hP : P ≤ 1000) :
    Calls Tryd.prog 66 #[.pointer (some ⟨b, 0, none⟩)] w (GoodPost b P w) := by
  have HBW := Lib.hid hr.lt
  have HR := Lib.hid hr
  clear hr
  go_enter Tryd.func66, Tryd.ntmps66
  go_wp2_with fail
  refine (draw_any b P 4 w HR.out (by omega) (by omega) (by omega)).mono ?_
  rintro e w1 ⟨p0, rfl, _, ho1, hr1⟩
  have HO1 := Lib.hid ho1
  have HR1 := Lib.hid hr1
  clear ho1 hr1 HR
  by_cases h0 : p0 = 0
  · subst h0
    go_wp2_with fail
    refine (draw_any b (P + 1) 8 w1 HR1.out (by omega) (by omega) (by omega)).mono ?_
    rintro e w2 ⟨p1, rfl, ⟨hp1, hp1'⟩, ho2, hr2⟩
    have hp8 : p1 < 8 := hp1' (by omega)
    obtain ⟨k, rfl⟩ := Int.eq_ofNat_of_zero_le hp1
    have HO2 := Lib.hid (HO1.out.trans ho2)
    have HR2 := Lib.hid hr2
    clear ho2 hr2 HO1 HR1 hp1'
    go_wp2_with fail
    refine (l1Known_any k w2 (by omega)).mono ?_
    rintro e w3 ⟨v, l, rfl, hd, hb3⟩
    have HD := Lib.hid hd
    have HO3 := Lib.hid (HO2.out.andBelow hb3)
    have HR3 := Lib.hid (HR2.out.below hb3)
    clear hd hb3
    go_wp2
    go_ret
    exact ⟨v, l, rfl, ⟨HD.out.own.lower HO2.out.size, HD.out.few, HD.out.some, HD.out.short⟩, HO3.out, HR3.out.weak (by omega)⟩
  · go_wp2_with fail
    refine (draw_any b (P + 1) 9 w1 HR1.out (by omega) (by omega) (by omega)).mono ?_
    rintro e w2 ⟨p1, rfl, ⟨hp1, hp1'⟩, ho2, hr2⟩
    have hp9 : p1 < 9 := hp1' (by omega)
    have HO2 := Lib.hid (HO1.out.trans ho2)
    have HR2 := Lib.hid hr2
    clear ho2 hr2 HO1 HR1 hp1'
    have hown0 : OwnTree (w2.alloc (.cells #[.string ⟨#[65]⟩, .int .i64 (1 + p1), .int .i64 (-1)] 66)) w2.heap.size (.slice (some ⟨w2.heap.size, 0, none⟩) 1 1) [⟨⟨#[65]⟩, 1 + p1, -1⟩] :=
      World.ownsRow_lit (base := w2.heap.size) (e := 66) (size := 3) w2 #[.string ⟨#[65]⟩, .int .i64 (1 + p1), .int .i64 (-1)] 1 (Nat.le_refl _) (by simp [maxLen]) rfl
    have HW0 := Lib.hid hown0
    clear hown0
    go_wp2
    go_loopw [3, 4] (fun out i wr => ∃ (k : Nat) (l : List Seg), i = .int .i64 k ∧ 1 ≤ k ∧ k ≤ 8 ∧ Hid (l.length = k) ∧ Hid (OwnTree wr w2.heap.size out l) ∧ Hid (Down l k) ∧ Hid (∀ s ∈ l, s.name.size ≤ 8) ∧ Hid (Only w wr (· = b)) ∧ Hid (Rd wr b (P + 4 * k)))
      (fun _ i _ => 8 - (intOf i).toNat)
    case atStart =>
      have hd1 : Down [⟨⟨#[65]⟩, 1 + p1, -1⟩] 1 := fun j hj => by
        obtain rfl : j = 0 := by omega
        exact ⟨Int.le_refl (-1), (by decide : (-1 : Int) < 0)⟩
      have hs1 : ∀ s ∈ [(⟨⟨#[65]⟩, 1 + p1, -1⟩ : Seg)], s.name.size ≤ 8 := fun s hs => by
        rw [List.mem_singleton.1 hs]
        exact (by decide : (⟨#[65]⟩ : ByteArray).size ≤ 8)
      exact ⟨1, [⟨⟨#[65]⟩, 1 + p1, -1⟩], rfl, Nat.le_refl 1, by omega, Lib.hid rfl, HW0, Lib.hid hd1, Lib.hid hs1, Lib.hid (HO2.out.andBelow ((Below.refl _ w2).alloc (Nat.le_refl _) _)), Lib.hid ((HR2.out.alloc _).weak (by omega))⟩
    case round =>
      obtain ⟨k, l, rfl, hk1, hk8, HL, HT, HD, HS, HO, HRk⟩ := hrel
      have H2W := Lib.hid HO2.out.size
      clear HO2 HR2 HW0
      have hrk := HRk.out
      have HRa := Lib.hid (fun o => hrk.alloc o)
      have HX := Lib.hid (fun W h => nums_new W b 3 [4, 5, 3, 6, 8, 2, 1] h)
      go_wp2_with fail
      refine (num_any b (P + 4 * k) wr.heap.size 0 7 7 _ _ (HRa.out _) (by omega) (by omega) (by omega) (HX.out wr hrk.lt)).mono ?_
      rintro e w3 ⟨m, rfl, hm, ho3, hr3⟩
      have hm8 : m ≤ 8 := by
        simp only [List.mem_cons, List.mem_nil_iff, or_false] at hm
        omega
      have HO3 := Lib.hid (HO.out.trans ho3.fresh)
      have HR3 := Lib.hid hr3
      clear hrk HRa hm
      have hb2 : b < w2.heap.size := Nat.lt_of_lt_of_le HBW.out H2W.out
      have HT3 := Lib.hid (HT.out.farO ho3.fresh hb2)
      clear ho3 hr3
      obtain ⟨g, c, rfl, hg, hc, hcm⟩ := HT.out.slice (by have := HL.out; omega)
      by_cases hkm : (k : Int) < m
      · have hsub : (k : Int) - 1 = ((k - 1 : Nat) : Int) := by omega
        have HP3 := Lib.hid (l1Path_any (some ⟨g, 0, none⟩) l c (k - 1) w3 (by obtain ⟨A', c', e', hs⟩ := HT3.out.form; cases e'; exact hs) (by have := HL.out; omega) (by have := HL.out; omega) (by have h1 := HD.out; rw [show k - 1 + 1 = k by omega]; exact h1))
        clear HX
        go_wp2_with fail
        refine Calls.mono HP3.out ?_
        rintro e w4 ⟨g4, c4, rfl, hown4, hb4⟩
        obtain ⟨ch, hch⟩ : ∃ ch : UInt8, ch = UInt8.ofNat (65 + k) := ⟨_, rfl⟩
        have HCH : Hid (((ch.toNat : Nat) : Int) = 65 + (k : Int)) := by
          rw [hch]
          exact chr_nat hk8
        clear hch
        have hxs0 : ∀ x ∈ pathOf l (k - 1), 0 ≤ x ∧ x ≤ (k : Int) - 1 := fun x hx => by
          have h1 := chain_mem (k := k) HD.out (k - 1 + 1) ((k - 1 : Nat) : Int) (by omega) x (List.mem_reverse.1 hx)
          omega
        have hxl : 0 < (pathOf l (k - 1)).length := by
          have h0 : ¬ ((k - 1 : Nat) : Int) < 0 := by omega
          simp [pathOf, chain, h0]
        have hxm0 : (pathOf l (k - 1)).length ≤ 1000 := by
          show (chain l (k - 1 + 1) ((k - 1 : Nat) : Int)).reverse.length ≤ _
          rw [List.length_reverse]
          have := chain_len l (k - 1 + 1) ((k - 1 : Nat) : Int)
          omega
        have hsz4 := hb4.size
        have hb3 := HR3.out.lt
        generalize pathOf l (k - 1) = xs at *
        have HXS := Lib.hid hxs0
        have HPC : Hid (∀ Wc, Only w4 Wc (· = b) → ∀ (j : Nat) (x : Int), xs[j]? = some x → Wc.cell? ⟨g4, j, none⟩ = some (.int .i64 x)) := by
          show ∀ Wc, _
          intro Wc ho j x hj
          have hgg := World.ownsRow.lt hown4 g4 rfl
          rw [only_cell ho (by omega) hgg.2 j]
          have hjl := (List.getElem?_eq_some_iff.1 hj).1
          have := World.ownsRow.cellAt hown4 j (by omega)
          rw [this, List.getElem?_map, hj]
          rfl
        have HRD : Hid (Rd w4.drew b (P + 4 * k + 1)) := (HR3.out.below (hb4.drew))
        have HON : Hid (Only w4 w4.drew (· = b)) := Only.refl w4 _ |>.drew'
        have HFIN : Hid (∀ (Wc W7 : World) (v7 : Value) (sz x : Int), Only w4 Wc (· = b) → Rd Wc b (P + 4 * k + 4) → (0 ≤ x ∧ x ≤ (k : Int) - 1) → W7.ownsRow w2.heap.size 66 3 v7 (l.length + 1) (segCells l ++ [.string ⟨#[ch]⟩, .int .i64 sz, .int .i64 x]) → (Wc.alloc (.cells #[.string ⟨#[ch]⟩, .int .i64 sz, .int .i64 x] 66)).grownBy W7 (Value.slice (some ⟨g, 0, none⟩) l.length c).ownBlock →
            Only w W7 (· = b) ∧ Rd W7 b (P + 4 * (k + 1)) ∧ OwnTree W7 w2.heap.size v7 (l ++ [⟨⟨#[ch]⟩, sz, x⟩]) ∧ Down (l ++ [⟨⟨#[ch]⟩, sz, x⟩]) (k + 1) ∧ (∀ s ∈ l ++ [(⟨⟨#[ch]⟩, sz, x⟩ : Seg)], s.name.size ≤ 8)) := by
          show ∀ (Wc W7 : World) (v7 : Value) (sz x : Int), _
          intro Wc W7 v7 sz x h1 h2 h3 h4 h5
          exact good_fin HO3.out hb4 HT3.out H2W.out hb2 HL.out HD.out HS.out h1 h2 h3 h4 h5
        have HOWN : Hid (∀ (Wc : World) (o : Obj), Only w4 Wc (· = b) → (Wc.alloc o).ownsRow w2.heap.size 66 3 (.slice (some ⟨g, 0, none⟩) l.length c) l.length (segCells l)) := by
          show ∀ (Wc : World) (o : Obj), _
          intro Wc o ho
          exact good_own HT3.out hb4 ho hb2 o
        have HLW : Hid (w2.heap.size ≤ w4.heap.size) := by
          have h1 := World.ownsRow.lt HT3.out g rfl
          show w2.heap.size ≤ w4.heap.size
          omega
        have HNW : Hid (∀ (Wc : World) (sz x : Int) (j : Nat) (y : Value), [Value.string ⟨#[ch]⟩, .int .i64 sz, .int .i64 x][j]? = some y → (Wc.alloc (.cells #[.string ⟨#[ch]⟩, .int .i64 sz, .int .i64 x] 66)).cell? ((⟨Wc.heap.size, 0, none⟩ : Addr).add j) = some y) := fun Wc sz x j y hj =>
          World.news_of_block (cs := #[.string ⟨#[ch]⟩, .int .i64 sz, .int .i64 x]) (t := 66) (fr := (0, 0)) (heap_alloc_new Wc (.cells #[.string ⟨#[ch]⟩, .int .i64 sz, .int .i64 x] 66)) j y hj
        have hlk9 : l.length ≤ 8 := by have := HL.out; omega
        clear hxs0 hown4 hb4 HR3 HO3 HT3 HT HO HRk HP3 HD HS
        have hmx : Tryd.prog.follows .mixedOrders = true := by kernel_rfl
        go_wp2_with fail
        refine wp_region_any (by assumption) ?_
        change wpAny _ _ _ _ _ _ _ (World.drew _)
        generalize hWc : w4.drew = Wc at *
        clear hWc
        have hbc := HRD.out.lt
        refine wpAny_take (i := 0) (v := ?_) rfl (by kernel_rfl) (by kernel_rfl) (by kernel_rfl) (fun _ _ _ h => h) (Or.inl ⟨by rfl, by (intro w; go_simp; try with_reducible rfl)⟩) ?_
        refine wpAny_take (i := 1) (v := ?_) rfl (by kernel_rfl) (by kernel_rfl) (by kernel_rfl) (fun _ _ _ h => h) (Or.inl ⟨by rfl, by (intro w; go_simp; try with_reducible rfl)⟩) ?_
        refine wpAny_take (i := 2) (v := ?_) rfl (by kernel_rfl) (by kernel_rfl) (by kernel_rfl) (fun _ _ _ h => h) (Or.inl ⟨by rfl, by (intro w; go_simp; try with_reducible rfl)⟩) ?_
        refine wpAny_take (i := 3) (v := ?_) rfl (by kernel_rfl) (by kernel_rfl) (by kernel_rfl) (fun _ _ _ h => h) (Or.inl ⟨by rfl, by (intro w; go_simp; try with_reducible rfl)⟩) ?_
        simp only [IntWalk.i64_in (65 + (k : Int)) (by omega), wr_u8 hk8]
        refine wpAny_take (i := 6) (v := ?_) rfl (by kernel_rfl) (by kernel_rfl) (by kernel_rfl) (fun _ _ _ h => h) (Or.inl ⟨by rfl, by (intro w; go_simp; try with_reducible rfl)⟩) ?_
        refine wpAny_take (i := 7) (v := ?_) rfl (by kernel_rfl) (by kernel_rfl) (by kernel_rfl) (fun _ _ _ h => h) (Or.inl ⟨by rfl, by (intro w; go_simp; try with_reducible rfl)⟩) ?_
        refine wpAny_take (i := 12) (v := ?_) rfl (by kernel_rfl) (by kernel_rfl) (by kernel_rfl) (fun _ _ _ h => h) (Or.inl ⟨by rfl, by (intro w; go_simp; try with_reducible rfl)⟩) ?_
        refine wpAny_take (i := 13) (v := ?_) rfl (by kernel_rfl) (by kernel_rfl) (by kernel_rfl) (fun _ _ _ h => h) (Or.inl ⟨by rfl, by (intro w; go_simp; try with_reducible rfl)⟩) ?_
        refine wpAny_take (i := 14) (v := ?_) rfl (by kernel_rfl) (by kernel_rfl) (by kernel_rfl) (fun _ _ _ h => h) (Or.inl ⟨by rfl, by (intro w; go_simp; try with_reducible rfl)⟩) ?_
        refine wpAny_take (i := 15) (v := ?_) rfl (by kernel_rfl) (by kernel_rfl) (by kernel_rfl) (fun _ _ _ h => h) (Or.inl ⟨by rfl, by (intro w; go_simp; try with_reducible rfl)⟩) ?_
        refine wpAny_ready (rs := [4, 8]) (by kernel_rfl) (by simp) ?_
        refine AllReady.cons rfl (fun K hK => ?_) (AllReady.cons rfl (fun K hK => ?_) AllReady.nil)
        · go_simp
          refine hK _ _ ?_
          clear hK K
          have HBY : Hid (Wc.heap.size ≠ b ∧ Wc.heap.size < (Wc.alloc (.cells #[.int .u8 (65 + (k : Int))] 5)).heap.size ∧ (Wc.alloc (.cells #[.int .u8 (65 + (k : Int))] 5)).cell? ⟨Wc.heap.size, 0, none⟩ = some (.int .u8 (65 + (k : Int)))) := ⟨by omega, by simp, (Row.new Wc _ _).cell 0⟩
          have HON' := Lib.hid (only_alloc HON.out (.cells #[.int .u8 (65 + (k : Int))] 5))
          have HRD' := Lib.hid (HRD.out.alloc (.cells #[.int .u8 (65 + (k : Int))] 5))
          clear HON HRD
          have HON := HON'
          clear HON'
          have HRD := HRD'
          clear HRD'
          generalize hWn : Wc.alloc (.cells #[.int .u8 (65 + (k : Int))] 5) = Wn at *
          clear hWn
          generalize hbb : Wc.heap.size = bb at *
          clear hbb hbc
          clear Wc
          rename World => Wc
          have hbc := HRD.out.lt
          refine wpAny_ready (rs := [5, 8]) (by kernel_rfl) (by simp) ?_
          refine AllReady.cons rfl (fun K hK => ?_) (AllReady.cons rfl (fun K hK => ?_) AllReady.nil)
          · have hcv : (convert 22 9 (.slice (some ⟨bb, 0, none⟩) 1 1)).run Tryd.prog Wc = .ok (.string ⟨#[ch]⟩) Wc :=
              run_convert_bytes_back (P := Tryd.prog) _ 22 9 5 ⟨bb, 0, none⟩ 1 [ch] Tryd.underlying22 Tryd.underlying5 Tryd.underlying9 (fun j hj => by
                have : j = 0 := by simp at hj; omega
                subst this
                have h := HBY.out.2.2
                rw [← HCH.out] at h
                exact h)
            go_simp
            refine hK _ _ ?_
            clear hK K hcv HBY
            refine wpAny_ready (rs := [8]) (by kernel_rfl) (by simp) ?_
            refine AllReady.cons rfl (fun K hK => ?_) AllReady.nil
            go_simp
            refine (draw_any b (P + 4 * k + 1) 20 Wc HRD.out (by omega) (by omega) (by omega)).mono ?_
            rintro e Wn ⟨v36, rfl, hv8, ho, hr⟩
            refine hK _ _ ?_
            clear hK K
            have HON' := Lib.hid (HON.out.trans ho)
            have HRD' := Lib.hid (hr)
            clear HON HRD
            have HON := HON'
            clear HON'
            have HRD := HRD'
            clear HRD'
            clear ho hr hbc
            clear Wc
            rename World => Wc
            have hbc := HRD.out.lt
            have hv8a := hv8.1
            have hv8b := hv8.2 (by omega)
            clear hv8
            refine wpAny_take (i := 9) (v := ?_) rfl (by kernel_rfl) (by kernel_rfl) (by kernel_rfl) (fun _ _ _ h => h) (Or.inl ⟨by rfl, by (intro w; go_simp; try with_reducible rfl)⟩) ?_
            simp only [IntWalk.i64_in (1 + v36) (by omega)]
            refine wpAny_ready (rs := [10]) (by kernel_rfl) (by simp) ?_
            refine AllReady.cons rfl (fun K hK => ?_) AllReady.nil
            go_simp
            refine hK _ _ ?_
            clear hK K
            have HNU : Hid (Nums (Wc.alloc (.cells #[.int .i64 1, .int .i64 2, .int .i64 3, .int .i64 5, .int .i64 8, .int .i64 (1 + v36), .int .i64 99] 3)) b Wc.heap.size 0 7 (fun _ => True)) := by
              obtain ⟨n1, n2, n3⟩ := nums_new Wc b 3 [1, 2, 3, 5, 8, 1 + v36, 99] hbc
              exact ⟨n1, n2, fun i hi => by obtain ⟨v, hv, _⟩ := n3 i hi; exact ⟨v, hv, trivial⟩⟩
            have HON' := Lib.hid (only_alloc HON.out (.cells #[.int .i64 1, .int .i64 2, .int .i64 3, .int .i64 5, .int .i64 8, .int .i64 (1 + v36), .int .i64 99] 3))
            have HRD' := Lib.hid (HRD.out.alloc (.cells #[.int .i64 1, .int .i64 2, .int .i64 3, .int .i64 5, .int .i64 8, .int .i64 (1 + v36), .int .i64 99] 3))
            clear HON HRD
            have HON := HON'
            clear HON'
            have HRD := HRD'
            clear HRD'
            generalize hWn : Wc.alloc (.cells #[.int .i64 1, .int .i64 2, .int .i64 3, .int .i64 5, .int .i64 8, .int .i64 (1 + v36), .int .i64 99] 3) = Wn at *
            clear hWn
            generalize hgg : Wc.heap.size = gg at *
            clear hgg hbc
            clear Wc
            rename World => Wc
            have hbc := HRD.out.lt
            refine wpAny_ready (rs := [11]) (by kernel_rfl) (by simp) ?_
            refine AllReady.cons rfl (fun K hK => ?_) AllReady.nil
            go_simp
            refine (num_any b (P + 4 * k + 2) gg 0 7 7 _ Wc HRD.out (by omega) (by omega) (by omega) HNU.out).mono ?_
            rintro e Wn ⟨v39, rfl, -, ho, hr⟩
            refine hK _ _ ?_
            clear hK K
            have HON' := Lib.hid (HON.out.trans ho)
            have HRD' := Lib.hid (hr)
            clear HNU HON HRD
            have HON := HON'
            clear HON'
            have HRD := HRD'
            clear HRD'
            clear ho hr hbc
            clear Wc
            rename World => Wc
            have hbc := HRD.out.lt
            refine wpAny_ready (rs := [16]) (by kernel_rfl) (by simp) ?_
            refine AllReady.cons rfl (fun K hK => ?_) AllReady.nil
            go_simp
            refine (draw_any b (P + 4 * k + 3) xs.length Wc HRD.out (by omega) (by omega) (by omega)).mono ?_
            rintro e Wn ⟨v44, rfl, hv16, ho, hr⟩
            refine hK _ _ ?_
            clear hK K
            have HON' := Lib.hid (HON.out.trans ho)
            have HRD' := Lib.hid (hr)
            clear HON HRD
            have HON := HON'
            clear HON'
            have HRD := HRD'
            clear HRD'
            clear ho hr hbc
            clear Wc
            rename World => Wc
            have hbc := HRD.out.lt
            obtain ⟨j, rfl⟩ := Int.eq_ofNat_of_zero_le hv16.1
            have hjl : j < xs.length := by have := hv16.2 (by omega); omega
            clear hv16
            refine wpAny_take (i := 17) (v := ?_) rfl (by kernel_rfl) (by kernel_rfl) (by kernel_rfl) (fun _ _ _ h => h) (Or.inl ⟨by rfl, by (intro w; go_simp; try with_reducible rfl)⟩) ?_
            refine wpAny_ready (rs := [18]) (by kernel_rfl) (by simp) ?_
            refine AllReady.cons rfl (fun K hK => ?_) AllReady.nil
            have hcx := HPC.out Wc HON.out j (xs[j]'hjl) (List.getElem?_eq_getElem hjl)
            have HX : Hid (0 ≤ xs[j]'hjl ∧ xs[j]'hjl ≤ (k : Int) - 1) := HXS.out _ (List.getElem_mem hjl)
            generalize xs[j]'hjl = x at *
            go_simp
            refine hK _ _ ?_
            clear hK K hcx
            refine wpAny_take (i := 19) (v := ?_) rfl (by kernel_rfl) (by kernel_rfl) (by kernel_rfl) (fun _ _ _ h => h) (Or.inl ⟨by rfl, by (intro w; go_simp; try with_reducible rfl)⟩) ?_
            refine wpAny_ready (rs := [20]) (by kernel_rfl) (by simp) ?_
            refine AllReady.cons rfl (fun K hK => ?_) AllReady.nil
            go_simp
            refine hK _ _ ?_
            clear hK K
            refine wpAny_ready (rs := [21]) (by kernel_rfl) (by simp) ?_
            refine AllReady.cons rfl (fun K hK => ?_) AllReady.nil
            rw [if_pos (by rfl)]
            refine oper_append_seg _ _ rfl w2.heap.size l.length (.slice (some ⟨g, 0, none⟩) l.length c) (segCells l) rfl (HOWN.out Wc _ HON.out) ⟨Wc.heap.size, 0, none⟩ [.string ⟨#[ch]⟩, .int .i64 v39, .int .i64 x] rfl rfl (fun j y hj => HNW.out Wc v39 x j y hj) (by simp [Value.oneCell']) (by omega) (by have := HLW.out; have := HON.out.size; simp; omega) ?_
            intro v7 W7 hown7 hgrow7
            refine hK _ _ ?_
            clear hK K
            obtain ⟨f1, f2, f3, f4, f5⟩ := HFIN.out Wc W7 v7 v39 x HON.out HRD.out HX.out hown7 hgrow7
            have G1 := Lib.hid f1
            have G2 := Lib.hid f2
            have G3 := Lib.hid f3
            have G4 := Lib.hid f4
            have G5 := Lib.hid f5
            clear f1 f2 f3 f4 f5 hown7 hgrow7 HON HRD HX HOWN HFIN
            refine wpAny_ready (rs := [22]) (by kernel_rfl) (by simp) ?_
            refine AllReady.cons rfl (fun K hK => ?_) AllReady.nil
            go_simp
            refine hK _ _ ?_
            clear hK K
            refine wpAny_done (by kernel_rfl) ?_ _
            go_wp2
            go_roundw
            case rel => exact ⟨k + 1, _, by go_num, by omega, by omega, by rw [List.length_append, HL.out]; rfl, G3, G4, G5, G1, G2⟩
            case measure => simp [intOf]; omega
          · go_simp
            refine (draw_any b (P + 4 * k + 1) 20 Wc HRD.out (by omega) (by omega) (by omega)).mono ?_
            rintro e Wn ⟨v36, rfl, hv8, ho, hr⟩
            refine hK _ _ ?_
            clear hK K
            have HON' := Lib.hid (HON.out.trans ho)
            have HRD' := Lib.hid (hr)
            have HBY' : Hid (bb ≠ b ∧ bb < Wn.heap.size ∧ Wn.cell? ⟨bb, 0, none⟩ = some (.int .u8 (65 + (k : Int)))) := ⟨HBY.out.1, Nat.lt_of_lt_of_le HBY.out.2.1 ho.size, (only_cell ho HBY.out.1 HBY.out.2.1 0).trans HBY.out.2.2⟩
            clear HON HRD HBY
            have HON := HON'
            clear HON'
            have HRD := HRD'
            clear HRD'
            have HBY := HBY'
            clear HBY'
            clear ho hr hbc
            clear Wc
            rename World => Wc
            have hbc := HRD.out.lt
            have hv8a := hv8.1
            have hv8b := hv8.2 (by omega)
            clear hv8
            refine wpAny_take (i := 9) (v := ?_) rfl (by kernel_rfl) (by kernel_rfl) (by kernel_rfl) (fun _ _ _ h => h) (Or.inl ⟨by rfl, by (intro w; go_simp; try with_reducible rfl)⟩) ?_
            simp only [IntWalk.i64_in (1 + v36) (by omega)]
            refine wpAny_ready (rs := [5, 10]) (by kernel_rfl) (by simp) ?_
            refine AllReady.cons rfl (fun K hK => ?_) (AllReady.cons rfl (fun K hK => ?_) AllReady.nil)
            · have hcv : (convert 22 9 (.slice (some ⟨bb, 0, none⟩) 1 1)).run Tryd.prog Wc = .ok (.string ⟨#[ch]⟩) Wc :=
                run_convert_bytes_back (P := Tryd.prog) _ 22 9 5 ⟨bb, 0, none⟩ 1 [ch] Tryd.underlying22 Tryd.underlying5 Tryd.underlying9 (fun j hj => by
                  have : j = 0 := by simp at hj; omega
                  subst this
                  have h := HBY.out.2.2
                  rw [← HCH.out] at h
                  exact h)
              go_simp
              refine hK _ _ ?_
              clear hK K hcv HBY
              refine wpAny_ready (rs := [10]) (by kernel_rfl) (by simp) ?_
              refine AllReady.cons rfl (fun K hK => ?_) AllReady.nil
              go_simp
              refine hK _ _ ?_
              clear hK K
              have HNU : Hid (Nums (Wc.alloc (.cells #[.int .i64 1, .int .i64 2, .int .i64 3, .int .i64 5, .int .i64 8, .int .i64 (1 + v36), .int .i64 99] 3)) b Wc.heap.size 0 7 (fun _ => True)) := by
                obtain ⟨n1, n2, n3⟩ := nums_new Wc b 3 [1, 2, 3, 5, 8, 1 + v36, 99] hbc
                exact ⟨n1, n2, fun i hi => by obtain ⟨v, hv, _⟩ := n3 i hi; exact ⟨v, hv, trivial⟩⟩
              have HON' := Lib.hid (only_alloc HON.out (.cells #[.int .i64 1, .int .i64 2, .int .i64 3, .int .i64 5, .int .i64 8, .int .i64 (1 + v36), .int .i64 99] 3))
              have HRD' := Lib.hid (HRD.out.alloc (.cells #[.int .i64 1, .int .i64 2, .int .i64 3, .int .i64 5, .int .i64 8, .int .i64 (1 + v36), .int .i64 99] 3))
              clear HON HRD
              have HON := HON'
              clear HON'
              have HRD := HRD'
              clear HRD'
              generalize hWn : Wc.alloc (.cells #[.int .i64 1, .int .i64 2, .int .i64 3, .int .i64 5, .int .i64 8, .int .i64 (1 + v36), .int .i64 99] 3) = Wn at *
              clear hWn
              generalize hgg : Wc.heap.size = gg at *
              clear hgg hbc
              clear Wc
              rename World => Wc
              have hbc := HRD.out.lt
              refine wpAny_ready (rs := [11]) (by kernel_rfl) (by simp) ?_
              refine AllReady.cons rfl (fun K hK => ?_) AllReady.nil
              go_simp
              refine (num_any b (P + 4 * k + 2) gg 0 7 7 _ Wc HRD.out (by omega) (by omega) (by omega) HNU.out).mono ?_
              rintro e Wn ⟨v39, rfl, -, ho, hr⟩
              refine hK _ _ ?_
              clear hK K
              have HON' := Lib.hid (HON.out.trans ho)
              have HRD' := Lib.hid (hr)
              clear HNU HON HRD
              have HON := HON'
              clear HON'
              have HRD := HRD'
              clear HRD'
              clear ho hr hbc
              clear Wc
              rename World => Wc
              have hbc := HRD.out.lt
              refine wpAny_ready (rs := [16]) (by kernel_rfl) (by simp) ?_
              refine AllReady.cons rfl (fun K hK => ?_) AllReady.nil
              go_simp
              refine (draw_any b (P + 4 * k + 3) xs.length Wc HRD.out (by omega) (by omega) (by omega)).mono ?_
              rintro e Wn ⟨v44, rfl, hv16, ho, hr⟩
              refine hK _ _ ?_
              clear hK K
              have HON' := Lib.hid (HON.out.trans ho)
              have HRD' := Lib.hid (hr)
              clear HON HRD
              have HON := HON'
              clear HON'
              have HRD := HRD'
              clear HRD'
              clear ho hr hbc
              clear Wc
              rename World => Wc
              have hbc := HRD.out.lt
              obtain ⟨j, rfl⟩ := Int.eq_ofNat_of_zero_le hv16.1
              have hjl : j < xs.length := by have := hv16.2 (by omega); omega
              clear hv16
              refine wpAny_take (i := 17) (v := ?_) rfl (by kernel_rfl) (by kernel_rfl) (by kernel_rfl) (fun _ _ _ h => h) (Or.inl ⟨by rfl, by (intro w; go_simp; try with_reducible rfl)⟩) ?_
              refine wpAny_ready (rs := [18]) (by kernel_rfl) (by simp) ?_
              refine AllReady.cons rfl (fun K hK => ?_) AllReady.nil
              have hcx := HPC.out Wc HON.out j (xs[j]'hjl) (List.getElem?_eq_getElem hjl)
              have HX : Hid (0 ≤ xs[j]'hjl ∧ xs[j]'hjl ≤ (k : Int) - 1) := HXS.out _ (List.getElem_mem hjl)
              generalize xs[j]'hjl = x at *
              go_simp
              refine hK _ _ ?_
              clear hK K hcx
              refine wpAny_take (i := 19) (v := ?_) rfl (by kernel_rfl) (by kernel_rfl) (by kernel_rfl) (fun _ _ _ h => h) (Or.inl ⟨by rfl, by (intro w; go_simp; try with_reducible rfl)⟩) ?_
              refine wpAny_ready (rs := [20]) (by kernel_rfl) (by simp) ?_
              refine AllReady.cons rfl (fun K hK => ?_) AllReady.nil
              go_simp
              refine hK _ _ ?_
              clear hK K
              refine wpAny_ready (rs := [21]) (by kernel_rfl) (by simp) ?_
              refine AllReady.cons rfl (fun K hK => ?_) AllReady.nil
              rw [if_pos (by rfl)]
              refine oper_append_seg _ _ rfl w2.heap.size l.length (.slice (some ⟨g, 0, none⟩) l.length c) (segCells l) rfl (HOWN.out Wc _ HON.out) ⟨Wc.heap.size, 0, none⟩ [.string ⟨#[ch]⟩, .int .i64 v39, .int .i64 x] rfl rfl (fun j y hj => HNW.out Wc v39 x j y hj) (by simp [Value.oneCell']) (by omega) (by have := HLW.out; have := HON.out.size; simp; omega) ?_
              intro v7 W7 hown7 hgrow7
              refine hK _ _ ?_
              clear hK K
              obtain ⟨f1, f2, f3, f4, f5⟩ := HFIN.out Wc W7 v7 v39 x HON.out HRD.out HX.out hown7 hgrow7
              have G1 := Lib.hid f1
              have G2 := Lib.hid f2
              have G3 := Lib.hid f3
              have G4 := Lib.hid f4
              have G5 := Lib.hid f5
              clear f1 f2 f3 f4 f5 hown7 hgrow7 HON HRD HX HOWN HFIN
              refine wpAny_ready (rs := [22]) (by kernel_rfl) (by simp) ?_
              refine AllReady.cons rfl (fun K hK => ?_) AllReady.nil
              go_simp
              refine hK _ _ ?_
              clear hK K
              refine wpAny_done (by kernel_rfl) ?_ _
              go_wp2
              go_roundw
              case rel => exact ⟨k + 1, _, by go_num, by omega, by omega, by rw [List.length_append, HL.out]; rfl, G3, G4, G5, G1, G2⟩
              case measure => simp [intOf]; omega
            · go_simp
              refine hK _ _ ?_
              clear hK K
              have HNU : Hid (Nums (Wc.alloc (.cells #[.int .i64 1, .int .i64 2, .int .i64 3, .int .i64 5, .int .i64 8, .int .i64 (1 + v36), .int .i64 99] 3)) b Wc.heap.size 0 7 (fun _ => True)) := by
                obtain ⟨n1, n2, n3⟩ := nums_new Wc b 3 [1, 2, 3, 5, 8, 1 + v36, 99] hbc
                exact ⟨n1, n2, fun i hi => by obtain ⟨v, hv, _⟩ := n3 i hi; exact ⟨v, hv, trivial⟩⟩
              have HON' := Lib.hid (only_alloc HON.out (.cells #[.int .i64 1, .int .i64 2, .int .i64 3, .int .i64 5, .int .i64 8, .int .i64 (1 + v36), .int .i64 99] 3))
              have HRD' := Lib.hid (HRD.out.alloc (.cells #[.int .i64 1, .int .i64 2, .int .i64 3, .int .i64 5, .int .i64 8, .int .i64 (1 + v36), .int .i64 99] 3))
              have HBY' : Hid (bb ≠ b ∧ bb < (Wc.alloc (.cells #[.int .i64 1, .int .i64 2, .int .i64 3, .int .i64 5, .int .i64 8, .int .i64 (1 + v36), .int .i64 99] 3)).heap.size ∧ (Wc.alloc (.cells #[.int .i64 1, .int .i64 2, .int .i64 3, .int .i64 5, .int .i64 8, .int .i64 (1 + v36), .int .i64 99] 3)).cell? ⟨bb, 0, none⟩ = some (.int .u8 (65 + (k : Int)))) := ⟨HBY.out.1, by have := HBY.out.2.1; simp; omega, (((Below.refl _ Wc).alloc (Nat.le_refl _) _).cell (p := ⟨bb, 0, none⟩) HBY.out.2.1).trans HBY.out.2.2⟩
              clear HON HRD HBY
              have HON := HON'
              clear HON'
              have HRD := HRD'
              clear HRD'
              have HBY := HBY'
              clear HBY'
              generalize hWn : Wc.alloc (.cells #[.int .i64 1, .int .i64 2, .int .i64 3, .int .i64 5, .int .i64 8, .int .i64 (1 + v36), .int .i64 99] 3) = Wn at *
              clear hWn
              generalize hgg : Wc.heap.size = gg at *
              clear hgg hbc
              clear Wc
              rename World => Wc
              have hbc := HRD.out.lt
              refine wpAny_ready (rs := [5, 11]) (by kernel_rfl) (by simp) ?_
              refine AllReady.cons rfl (fun K hK => ?_) (AllReady.cons rfl (fun K hK => ?_) AllReady.nil)
              · have hcv : (convert 22 9 (.slice (some ⟨bb, 0, none⟩) 1 1)).run Tryd.prog Wc = .ok (.string ⟨#[ch]⟩) Wc :=
                  run_convert_bytes_back (P := Tryd.prog) _ 22 9 5 ⟨bb, 0, none⟩ 1 [ch] Tryd.underlying22 Tryd.underlying5 Tryd.underlying9 (fun j hj => by
                    have : j = 0 := by simp at hj; omega
                    subst this
                    have h := HBY.out.2.2
                    rw [← HCH.out] at h
                    exact h)
                go_simp
                refine hK _ _ ?_
                clear hK K hcv HBY
                refine wpAny_ready (rs := [11]) (by kernel_rfl) (by simp) ?_
                refine AllReady.cons rfl (fun K hK => ?_) AllReady.nil
                go_simp
                refine (num_any b (P + 4 * k + 2) gg 0 7 7 _ Wc HRD.out (by omega) (by omega) (by omega) HNU.out).mono ?_
                rintro e Wn ⟨v39, rfl, -, ho, hr⟩
                refine hK _ _ ?_
                clear hK K
                have HON' := Lib.hid (HON.out.trans ho)
                have HRD' := Lib.hid (hr)
                clear HNU HON HRD
                have HON := HON'
                clear HON'
                have HRD := HRD'
                clear HRD'
                clear ho hr hbc
                clear Wc
                rename World => Wc
                have hbc := HRD.out.lt
                refine wpAny_ready (rs := [16]) (by kernel_rfl) (by simp) ?_
                refine AllReady.cons rfl (fun K hK => ?_) AllReady.nil
                go_simp
                refine (draw_any b (P + 4 * k + 3) xs.length Wc HRD.out (by omega) (by omega) (by omega)).mono ?_
                rintro e Wn ⟨v44, rfl, hv16, ho, hr⟩
                refine hK _ _ ?_
                clear hK K
                have HON' := Lib.hid (HON.out.trans ho)
                have HRD' := Lib.hid (hr)
                clear HON HRD
                have HON := HON'
                clear HON'
                have HRD := HRD'
                clear HRD'
                clear ho hr hbc
                clear Wc
                rename World => Wc
                have hbc := HRD.out.lt
                obtain ⟨j, rfl⟩ := Int.eq_ofNat_of_zero_le hv16.1
                have hjl : j < xs.length := by have := hv16.2 (by omega); omega
                clear hv16
                refine wpAny_take (i := 17) (v := ?_) rfl (by kernel_rfl) (by kernel_rfl) (by kernel_rfl) (fun _ _ _ h => h) (Or.inl ⟨by rfl, by (intro w; go_simp; try with_reducible rfl)⟩) ?_
                refine wpAny_ready (rs := [18]) (by kernel_rfl) (by simp) ?_
                refine AllReady.cons rfl (fun K hK => ?_) AllReady.nil
                have hcx := HPC.out Wc HON.out j (xs[j]'hjl) (List.getElem?_eq_getElem hjl)
                have HX : Hid (0 ≤ xs[j]'hjl ∧ xs[j]'hjl ≤ (k : Int) - 1) := HXS.out _ (List.getElem_mem hjl)
                generalize xs[j]'hjl = x at *
                go_simp
                refine hK _ _ ?_
                clear hK K hcx
                refine wpAny_take (i := 19) (v := ?_) rfl (by kernel_rfl) (by kernel_rfl) (by kernel_rfl) (fun _ _ _ h => h) (Or.inl ⟨by rfl, by (intro w; go_simp; try with_reducible rfl)⟩) ?_
                refine wpAny_ready (rs := [20]) (by kernel_rfl) (by simp) ?_
                refine AllReady.cons rfl (fun K hK => ?_) AllReady.nil
                go_simp
                refine hK _ _ ?_
                clear hK K
                refine wpAny_ready (rs := [21]) (by kernel_rfl) (by simp) ?_
                refine AllReady.cons rfl (fun K hK => ?_) AllReady.nil
                rw [if_pos (by rfl)]
                refine oper_append_seg _ _ rfl w2.heap.size l.length (.slice (some ⟨g, 0, none⟩) l.length c) (segCells l) rfl (HOWN.out Wc _ HON.out) ⟨Wc.heap.size, 0, none⟩ [.string ⟨#[ch]⟩, .int .i64 v39, .int .i64 x] rfl rfl (fun j y hj => HNW.out Wc v39 x j y hj) (by simp [Value.oneCell']) (by omega) (by have := HLW.out; have := HON.out.size; simp; omega) ?_
                intro v7 W7 hown7 hgrow7
                refine hK _ _ ?_
                clear hK K
                obtain ⟨f1, f2, f3, f4, f5⟩ := HFIN.out Wc W7 v7 v39 x HON.out HRD.out HX.out hown7 hgrow7
                have G1 := Lib.hid f1
                have G2 := Lib.hid f2
                have G3 := Lib.hid f3
                have G4 := Lib.hid f4
                have G5 := Lib.hid f5
                clear f1 f2 f3 f4 f5 hown7 hgrow7 HON HRD HX HOWN HFIN
                refine wpAny_ready (rs := [22]) (by kernel_rfl) (by simp) ?_
                refine AllReady.cons rfl (fun K hK => ?_) AllReady.nil
                go_simp
                refine hK _ _ ?_
                clear hK K
                refine wpAny_done (by kernel_rfl) ?_ _
                go_wp2
                go_roundw
                case rel => exact ⟨k + 1, _, by go_num, by omega, by omega, by rw [List.length_append, HL.out]; rfl, G3, G4, G5, G1, G2⟩
                case measure => simp [intOf]; omega
              · go_simp
                refine (num_any b (P + 4 * k + 2) gg 0 7 7 _ Wc HRD.out (by omega) (by omega) (by omega) HNU.out).mono ?_
                rintro e Wn ⟨v39, rfl, -, ho, hr⟩
                refine hK _ _ ?_
                clear hK K
                have HON' := Lib.hid (HON.out.trans ho)
                have HRD' := Lib.hid (hr)
                have HBY' : Hid (bb ≠ b ∧ bb < Wn.heap.size ∧ Wn.cell? ⟨bb, 0, none⟩ = some (.int .u8 (65 + (k : Int)))) := ⟨HBY.out.1, Nat.lt_of_lt_of_le HBY.out.2.1 ho.size, (only_cell ho HBY.out.1 HBY.out.2.1 0).trans HBY.out.2.2⟩
                clear HNU HON HRD HBY
                have HON := HON'
                clear HON'
                have HRD := HRD'
                clear HRD'
                have HBY := HBY'
                clear HBY'
                clear ho hr hbc
                clear Wc
                rename World => Wc
                have hbc := HRD.out.lt
                refine wpAny_ready (rs := [5, 16]) (by kernel_rfl) (by simp) ?_
                refine AllReady.cons rfl (fun K hK => ?_) (AllReady.cons rfl (fun K hK => ?_) AllReady.nil)
                · have hcv : (convert 22 9 (.slice (some ⟨bb, 0, none⟩) 1 1)).run Tryd.prog Wc = .ok (.string ⟨#[ch]⟩) Wc :=
                    run_convert_bytes_back (P := Tryd.prog) _ 22 9 5 ⟨bb, 0, none⟩ 1 [ch] Tryd.underlying22 Tryd.underlying5 Tryd.underlying9 (fun j hj => by
                      have : j = 0 := by simp at hj; omega
                      subst this
                      have h := HBY.out.2.2
                      rw [← HCH.out] at h
                      exact h)
                  go_simp
                  refine hK _ _ ?_
                  clear hK K hcv HBY
                  refine wpAny_ready (rs := [16]) (by kernel_rfl) (by simp) ?_
                  refine AllReady.cons rfl (fun K hK => ?_) AllReady.nil
                  go_simp
                  refine (draw_any b (P + 4 * k + 3) xs.length Wc HRD.out (by omega) (by omega) (by omega)).mono ?_
                  rintro e Wn ⟨v44, rfl, hv16, ho, hr⟩
                  refine hK _ _ ?_
                  clear hK K
                  have HON' := Lib.hid (HON.out.trans ho)
                  have HRD' := Lib.hid (hr)
                  clear HON HRD
                  have HON := HON'
                  clear HON'
                  have HRD := HRD'
                  clear HRD'
                  clear ho hr hbc
                  clear Wc
                  rename World => Wc
                  have hbc := HRD.out.lt
                  obtain ⟨j, rfl⟩ := Int.eq_ofNat_of_zero_le hv16.1
                  have hjl : j < xs.length := by have := hv16.2 (by omega); omega
                  clear hv16
                  refine wpAny_take (i := 17) (v := ?_) rfl (by kernel_rfl) (by kernel_rfl) (by kernel_rfl) (fun _ _ _ h => h) (Or.inl ⟨by rfl, by (intro w; go_simp; try with_reducible rfl)⟩) ?_
                  refine wpAny_ready (rs := [18]) (by kernel_rfl) (by simp) ?_
                  refine AllReady.cons rfl (fun K hK => ?_) AllReady.nil
                  have hcx := HPC.out Wc HON.out j (xs[j]'hjl) (List.getElem?_eq_getElem hjl)
                  have HX : Hid (0 ≤ xs[j]'hjl ∧ xs[j]'hjl ≤ (k : Int) - 1) := HXS.out _ (List.getElem_mem hjl)
                  generalize xs[j]'hjl = x at *
                  go_simp
                  refine hK _ _ ?_
                  clear hK K hcx
                  refine wpAny_take (i := 19) (v := ?_) rfl (by kernel_rfl) (by kernel_rfl) (by kernel_rfl) (fun _ _ _ h => h) (Or.inl ⟨by rfl, by (intro w; go_simp; try with_reducible rfl)⟩) ?_
                  refine wpAny_ready (rs := [20]) (by kernel_rfl) (by simp) ?_
                  refine AllReady.cons rfl (fun K hK => ?_) AllReady.nil
                  go_simp
                  refine hK _ _ ?_
                  clear hK K
                  refine wpAny_ready (rs := [21]) (by kernel_rfl) (by simp) ?_
                  refine AllReady.cons rfl (fun K hK => ?_) AllReady.nil
                  rw [if_pos (by rfl)]
                  refine oper_append_seg _ _ rfl w2.heap.size l.length (.slice (some ⟨g, 0, none⟩) l.length c) (segCells l) rfl (HOWN.out Wc _ HON.out) ⟨Wc.heap.size, 0, none⟩ [.string ⟨#[ch]⟩, .int .i64 v39, .int .i64 x] rfl rfl (fun j y hj => HNW.out Wc v39 x j y hj) (by simp [Value.oneCell']) (by omega) (by have := HLW.out; have := HON.out.size; simp; omega) ?_
                  intro v7 W7 hown7 hgrow7
                  refine hK _ _ ?_
                  clear hK K
                  obtain ⟨f1, f2, f3, f4, f5⟩ := HFIN.out Wc W7 v7 v39 x HON.out HRD.out HX.out hown7 hgrow7
                  have G1 := Lib.hid f1
                  have G2 := Lib.hid f2
                  have G3 := Lib.hid f3
                  have G4 := Lib.hid f4
                  have G5 := Lib.hid f5
                  clear f1 f2 f3 f4 f5 hown7 hgrow7 HON HRD HX HOWN HFIN
                  refine wpAny_ready (rs := [22]) (by kernel_rfl) (by simp) ?_
                  refine AllReady.cons rfl (fun K hK => ?_) AllReady.nil
                  go_simp
                  refine hK _ _ ?_
                  clear hK K
                  refine wpAny_done (by kernel_rfl) ?_ _
                  go_wp2
                  go_roundw
                  case rel => exact ⟨k + 1, _, by go_num, by omega, by omega, by rw [List.length_append, HL.out]; rfl, G3, G4, G5, G1, G2⟩
                  case measure => simp [intOf]; omega
                · go_simp
                  refine (draw_any b (P + 4 * k + 3) xs.length Wc HRD.out (by omega) (by omega) (by omega)).mono ?_
                  rintro e Wn ⟨v44, rfl, hv16, ho, hr⟩
                  refine hK _ _ ?_
                  clear hK K
                  have HON' := Lib.hid (HON.out.trans ho)
                  have HRD' := Lib.hid (hr)
                  have HBY' : Hid (bb ≠ b ∧ bb < Wn.heap.size ∧ Wn.cell? ⟨bb, 0, none⟩ = some (.int .u8 (65 + (k : Int)))) := ⟨HBY.out.1, Nat.lt_of_lt_of_le HBY.out.2.1 ho.size, (only_cell ho HBY.out.1 HBY.out.2.1 0).trans HBY.out.2.2⟩
                  clear HON HRD HBY
                  have HON := HON'
                  clear HON'
                  have HRD := HRD'
                  clear HRD'
                  have HBY := HBY'
                  clear HBY'
                  clear ho hr hbc
                  clear Wc
                  rename World => Wc
                  have hbc := HRD.out.lt
                  obtain ⟨j, rfl⟩ := Int.eq_ofNat_of_zero_le hv16.1
                  have hjl : j < xs.length := by have := hv16.2 (by omega); omega
                  clear hv16
                  refine wpAny_take (i := 17) (v := ?_) rfl (by kernel_rfl) (by kernel_rfl) (by kernel_rfl) (fun _ _ _ h => h) (Or.inl ⟨by rfl, by (intro w; go_simp; try with_reducible rfl)⟩) ?_
                  refine wpAny_ready (rs := [5, 18]) (by kernel_rfl) (by simp) ?_
                  refine AllReady.cons rfl (fun K hK => ?_) (AllReady.cons rfl (fun K hK => ?_) AllReady.nil)
                  · have hcv : (convert 22 9 (.slice (some ⟨bb, 0, none⟩) 1 1)).run Tryd.prog Wc = .ok (.string ⟨#[ch]⟩) Wc :=
                      run_convert_bytes_back (P := Tryd.prog) _ 22 9 5 ⟨bb, 0, none⟩ 1 [ch] Tryd.underlying22 Tryd.underlying5 Tryd.underlying9 (fun j hj => by
                        have : j = 0 := by simp at hj; omega
                        subst this
                        have h := HBY.out.2.2
                        rw [← HCH.out] at h
                        exact h)
                    go_simp
                    refine hK _ _ ?_
                    clear hK K hcv HBY
                    refine wpAny_ready (rs := [18]) (by kernel_rfl) (by simp) ?_
                    refine AllReady.cons rfl (fun K hK => ?_) AllReady.nil
                    have hcx := HPC.out Wc HON.out j (xs[j]'hjl) (List.getElem?_eq_getElem hjl)
                    have HX : Hid (0 ≤ xs[j]'hjl ∧ xs[j]'hjl ≤ (k : Int) - 1) := HXS.out _ (List.getElem_mem hjl)
                    generalize xs[j]'hjl = x at *
                    go_simp
                    refine hK _ _ ?_
                    clear hK K hcx
                    refine wpAny_take (i := 19) (v := ?_) rfl (by kernel_rfl) (by kernel_rfl) (by kernel_rfl) (fun _ _ _ h => h) (Or.inl ⟨by rfl, by (intro w; go_simp; try with_reducible rfl)⟩) ?_
                    refine wpAny_ready (rs := [20]) (by kernel_rfl) (by simp) ?_
                    refine AllReady.cons rfl (fun K hK => ?_) AllReady.nil
                    go_simp
                    refine hK _ _ ?_
                    clear hK K
                    refine wpAny_ready (rs := [21]) (by kernel_rfl) (by simp) ?_
                    refine AllReady.cons rfl (fun K hK => ?_) AllReady.nil
                    rw [if_pos (by rfl)]
                    refine oper_append_seg _ _ rfl w2.heap.size l.length (.slice (some ⟨g, 0, none⟩) l.length c) (segCells l) rfl (HOWN.out Wc _ HON.out) ⟨Wc.heap.size, 0, none⟩ [.string ⟨#[ch]⟩, .int .i64 v39, .int .i64 x] rfl rfl (fun j y hj => HNW.out Wc v39 x j y hj) (by simp [Value.oneCell']) (by omega) (by have := HLW.out; have := HON.out.size; simp; omega) ?_
                    intro v7 W7 hown7 hgrow7
                    refine hK _ _ ?_
                    clear hK K
                    obtain ⟨f1, f2, f3, f4, f5⟩ := HFIN.out Wc W7 v7 v39 x HON.out HRD.out HX.out hown7 hgrow7
                    have G1 := Lib.hid f1
                    have G2 := Lib.hid f2
                    have G3 := Lib.hid f3
                    have G4 := Lib.hid f4
                    have G5 := Lib.hid f5
                    clear f1 f2 f3 f4 f5 hown7 hgrow7 HON HRD HX HOWN HFIN
                    refine wpAny_ready (rs := [22]) (by kernel_rfl) (by simp) ?_
                    refine AllReady.cons rfl (fun K hK => ?_) AllReady.nil
                    go_simp
                    refine hK _ _ ?_
                    clear hK K
                    refine wpAny_done (by kernel_rfl) ?_ _
                    go_wp2
                    go_roundw
                    case rel => exact ⟨k + 1, _, by go_num, by omega, by omega, by rw [List.length_append, HL.out]; rfl, G3, G4, G5, G1, G2⟩
                    case measure => simp [intOf]; omega
                  · have hcx := HPC.out Wc HON.out j (xs[j]'hjl) (List.getElem?_eq_getElem hjl)
                    have HX : Hid (0 ≤ xs[j]'hjl ∧ xs[j]'hjl ≤ (k : Int) - 1) := HXS.out _ (List.getElem_mem hjl)
                    generalize xs[j]'hjl = x at *
                    go_simp
                    refine hK _ _ ?_
                    clear hK K hcx
                    refine wpAny_ready (rs := [5]) (by kernel_rfl) (by simp) ?_
                    refine AllReady.cons rfl (fun K hK => ?_) AllReady.nil
                    have hcv : (convert 22 9 (.slice (some ⟨bb, 0, none⟩) 1 1)).run Tryd.prog Wc = .ok (.string ⟨#[ch]⟩) Wc :=
                      run_convert_bytes_back (P := Tryd.prog) _ 22 9 5 ⟨bb, 0, none⟩ 1 [ch] Tryd.underlying22 Tryd.underlying5 Tryd.underlying9 (fun j hj => by
                        have : j = 0 := by simp at hj; omega
                        subst this
                        have h := HBY.out.2.2
                        rw [← HCH.out] at h
                        exact h)
                    go_simp
                    refine hK _ _ ?_
                    clear hK K hcv HBY
                    refine wpAny_take (i := 19) (v := ?_) rfl (by kernel_rfl) (by kernel_rfl) (by kernel_rfl) (fun _ _ _ h => h) (Or.inl ⟨by rfl, by (intro w; go_simp; try with_reducible rfl)⟩) ?_
                    refine wpAny_ready (rs := [20]) (by kernel_rfl) (by simp) ?_
                    refine AllReady.cons rfl (fun K hK => ?_) AllReady.nil
                    go_simp
                    refine hK _ _ ?_
                    clear hK K
                    refine wpAny_ready (rs := [21]) (by kernel_rfl) (by simp) ?_
                    refine AllReady.cons rfl (fun K hK => ?_) AllReady.nil
                    rw [if_pos (by rfl)]
                    refine oper_append_seg _ _ rfl w2.heap.size l.length (.slice (some ⟨g, 0, none⟩) l.length c) (segCells l) rfl (HOWN.out Wc _ HON.out) ⟨Wc.heap.size, 0, none⟩ [.string ⟨#[ch]⟩, .int .i64 v39, .int .i64 x] rfl rfl (fun j y hj => HNW.out Wc v39 x j y hj) (by simp [Value.oneCell']) (by omega) (by have := HLW.out; have := HON.out.size; simp; omega) ?_
                    intro v7 W7 hown7 hgrow7
                    refine hK _ _ ?_
                    clear hK K
                    obtain ⟨f1, f2, f3, f4, f5⟩ := HFIN.out Wc W7 v7 v39 x HON.out HRD.out HX.out hown7 hgrow7
                    have G1 := Lib.hid f1
                    have G2 := Lib.hid f2
                    have G3 := Lib.hid f3
                    have G4 := Lib.hid f4
                    have G5 := Lib.hid f5
                    clear f1 f2 f3 f4 f5 hown7 hgrow7 HON HRD HX HOWN HFIN
                    refine wpAny_ready (rs := [22]) (by kernel_rfl) (by simp) ?_
                    refine AllReady.cons rfl (fun K hK => ?_) AllReady.nil
                    go_simp
                    refine hK _ _ ?_
                    clear hK K
                    refine wpAny_done (by kernel_rfl) ?_ _
                    go_wp2
                    go_roundw
                    case rel => exact ⟨k + 1, _, by go_num, by omega, by omega, by rw [List.length_append, HL.out]; rfl, G3, G4, G5, G1, G2⟩
                    case measure => simp [intOf]; omega
        · go_simp
          refine (draw_any b (P + 4 * k + 1) 20 Wc HRD.out (by omega) (by omega) (by omega)).mono ?_
          rintro e Wn ⟨v36, rfl, hv8, ho, hr⟩
          refine hK _ _ ?_
          clear hK K
          have HON' := Lib.hid (HON.out.trans ho)
          have HRD' := Lib.hid (hr)
          clear HON HRD
          have HON := HON'
          clear HON'
          have HRD := HRD'
          clear HRD'
          clear ho hr hbc
          clear Wc
          rename World => Wc
          have hbc := HRD.out.lt
          have hv8a := hv8.1
          have hv8b := hv8.2 (by omega)
          clear hv8
          refine wpAny_take (i := 9) (v := ?_) rfl (by kernel_rfl) (by kernel_rfl) (by kernel_rfl) (fun _ _ _ h => h) (Or.inl ⟨by rfl, by (intro w; go_simp; try with_reducible rfl)⟩) ?_
          simp only [IntWalk.i64_in (1 + v36) (by omega)]
          refine wpAny_ready (rs := [4, 10]) (by kernel_rfl) (by simp) ?_
          refine AllReady.cons rfl (fun K hK => ?_) (AllReady.cons rfl (fun K hK => ?_) AllReady.nil)
          · go_simp
            refine hK _ _ ?_
            clear hK K
            have HBY : Hid (Wc.heap.size ≠ b ∧ Wc.heap.size < (Wc.alloc (.cells #[.int .u8 (65 + (k : Int))] 5)).heap.size ∧ (Wc.alloc (.cells #[.int .u8 (65 + (k : Int))] 5)).cell? ⟨Wc.heap.size, 0, none⟩ = some (.int .u8 (65 + (k : Int)))) := ⟨by omega, by simp, (Row.new Wc _ _).cell 0⟩
            have HON' := Lib.hid (only_alloc HON.out (.cells #[.int .u8 (65 + (k : Int))] 5))
            have HRD' := Lib.hid (HRD.out.alloc (.cells #[.int .u8 (65 + (k : Int))] 5))
            clear HON HRD
            have HON := HON'
            clear HON'
            have HRD := HRD'
            clear HRD'
            generalize hWn : Wc.alloc (.cells #[.int .u8 (65 + (k : Int))] 5) = Wn at *
            clear hWn
            generalize hbb : Wc.heap.size = bb at *
            clear hbb hbc
            clear Wc
            rename World => Wc
            have hbc := HRD.out.lt
            refine wpAny_ready (rs := [5, 10]) (by kernel_rfl) (by simp) ?_
            refine AllReady.cons rfl (fun K hK => ?_) (AllReady.cons rfl (fun K hK => ?_) AllReady.nil)
            · have hcv : (convert 22 9 (.slice (some ⟨bb, 0, none⟩) 1 1)).run Tryd.prog Wc = .ok (.string ⟨#[ch]⟩) Wc :=
                run_convert_bytes_back (P := Tryd.prog) _ 22 9 5 ⟨bb, 0, none⟩ 1 [ch] Tryd.underlying22 Tryd.underlying5 Tryd.underlying9 (fun j hj => by
                  have : j = 0 := by simp at hj; omega
                  subst this
                  have h := HBY.out.2.2
                  rw [← HCH.out] at h
                  exact h)
              go_simp
              refine hK _ _ ?_
              clear hK K hcv HBY
              refine wpAny_ready (rs := [10]) (by kernel_rfl) (by simp) ?_
              refine AllReady.cons rfl (fun K hK => ?_) AllReady.nil
              go_simp
              refine hK _ _ ?_
              clear hK K
              have HNU : Hid (Nums (Wc.alloc (.cells #[.int .i64 1, .int .i64 2, .int .i64 3, .int .i64 5, .int .i64 8, .int .i64 (1 + v36), .int .i64 99] 3)) b Wc.heap.size 0 7 (fun _ => True)) := by
                obtain ⟨n1, n2, n3⟩ := nums_new Wc b 3 [1, 2, 3, 5, 8, 1 + v36, 99] hbc
                exact ⟨n1, n2, fun i hi => by obtain ⟨v, hv, _⟩ := n3 i hi; exact ⟨v, hv, trivial⟩⟩
              have HON' := Lib.hid (only_alloc HON.out (.cells #[.int .i64 1, .int .i64 2, .int .i64 3, .int .i64 5, .int .i64 8, .int .i64 (1 + v36), .int .i64 99] 3))
              have HRD' := Lib.hid (HRD.out.alloc (.cells #[.int .i64 1, .int .i64 2, .int .i64 3, .int .i64 5, .int .i64 8, .int .i64 (1 + v36), .int .i64 99] 3))
              clear HON HRD
              have HON := HON'
              clear HON'
              have HRD := HRD'
              clear HRD'
              generalize hWn : Wc.alloc (.cells #[.int .i64 1, .int .i64 2, .int .i64 3, .int .i64 5, .int .i64 8, .int .i64 (1 + v36), .int .i64 99] 3) = Wn at *
              clear hWn
              generalize hgg : Wc.heap.size = gg at *
              clear hgg hbc
              clear Wc
              rename World => Wc
              have hbc := HRD.out.lt
              refine wpAny_ready (rs := [11]) (by kernel_rfl) (by simp) ?_
              refine AllReady.cons rfl (fun K hK => ?_) AllReady.nil
              go_simp
              refine (num_any b (P + 4 * k + 2) gg 0 7 7 _ Wc HRD.out (by omega) (by omega) (by omega) HNU.out).mono ?_
              rintro e Wn ⟨v39, rfl, -, ho, hr⟩
              refine hK _ _ ?_
              clear hK K
              have HON' := Lib.hid (HON.out.trans ho)
              have HRD' := Lib.hid (hr)
              clear HNU HON HRD
              have HON := HON'
              clear HON'
              have HRD := HRD'
              clear HRD'
              clear ho hr hbc
              clear Wc
              rename World => Wc
              have hbc := HRD.out.lt
              refine wpAny_ready (rs := [16]) (by kernel_rfl) (by simp) ?_
              refine AllReady.cons rfl (fun K hK => ?_) AllReady.nil
              go_simp
              refine (draw_any b (P + 4 * k + 3) xs.length Wc HRD.out (by omega) (by omega) (by omega)).mono ?_
              rintro e Wn ⟨v44, rfl, hv16, ho, hr⟩
              refine hK _ _ ?_
              clear hK K
              have HON' := Lib.hid (HON.out.trans ho)
              have HRD' := Lib.hid (hr)
              clear HON HRD
              have HON := HON'
              clear HON'
              have HRD := HRD'
              clear HRD'
              clear ho hr hbc
              clear Wc
              rename World => Wc
              have hbc := HRD.out.lt
              obtain ⟨j, rfl⟩ := Int.eq_ofNat_of_zero_le hv16.1
              have hjl : j < xs.length := by have := hv16.2 (by omega); omega
              clear hv16
              refine wpAny_take (i := 17) (v := ?_) rfl (by kernel_rfl) (by kernel_rfl) (by kernel_rfl) (fun _ _ _ h => h) (Or.inl ⟨by rfl, by (intro w; go_simp; try with_reducible rfl)⟩) ?_
              refine wpAny_ready (rs := [18]) (by kernel_rfl) (by simp) ?_
              refine AllReady.cons rfl (fun K hK => ?_) AllReady.nil
              have hcx := HPC.out Wc HON.out j (xs[j]'hjl) (List.getElem?_eq_getElem hjl)
              have HX : Hid (0 ≤ xs[j]'hjl ∧ xs[j]'hjl ≤ (k : Int) - 1) := HXS.out _ (List.getElem_mem hjl)
              generalize xs[j]'hjl = x at *
              go_simp
              refine hK _ _ ?_
              clear hK K hcx
              refine wpAny_take (i := 19) (v := ?_) rfl (by kernel_rfl) (by kernel_rfl) (by kernel_rfl) (fun _ _ _ h => h) (Or.inl ⟨by rfl, by (intro w; go_simp; try with_reducible rfl)⟩) ?_
              refine wpAny_ready (rs := [20]) (by kernel_rfl) (by simp) ?_
              refine AllReady.cons rfl (fun K hK => ?_) AllReady.nil
              go_simp
              refine hK _ _ ?_
              clear hK K
              refine wpAny_ready (rs := [21]) (by kernel_rfl) (by simp) ?_
              refine AllReady.cons rfl (fun K hK => ?_) AllReady.nil
              rw [if_pos (by rfl)]
              refine oper_append_seg _ _ rfl w2.heap.size l.length (.slice (some ⟨g, 0, none⟩) l.length c) (segCells l) rfl (HOWN.out Wc _ HON.out) ⟨Wc.heap.size, 0, none⟩ [.string ⟨#[ch]⟩, .int .i64 v39, .int .i64 x] rfl rfl (fun j y hj => HNW.out Wc v39 x j y hj) (by simp [Value.oneCell']) (by omega) (by have := HLW.out; have := HON.out.size; simp; omega) ?_
              intro v7 W7 hown7 hgrow7
              refine hK _ _ ?_
              clear hK K
              obtain ⟨f1, f2, f3, f4, f5⟩ := HFIN.out Wc W7 v7 v39 x HON.out HRD.out HX.out hown7 hgrow7
              have G1 := Lib.hid f1
              have G2 := Lib.hid f2
              have G3 := Lib.hid f3
              have G4 := Lib.hid f4
              have G5 := Lib.hid f5
              clear f1 f2 f3 f4 f5 hown7 hgrow7 HON HRD HX HOWN HFIN
              refine wpAny_ready (rs := [22]) (by kernel_rfl) (by simp) ?_
              refine AllReady.cons rfl (fun K hK => ?_) AllReady.nil
              go_simp
              refine hK _ _ ?_
              clear hK K
              refine wpAny_done (by kernel_rfl) ?_ _
              go_wp2
              go_roundw
              case rel => exact ⟨k + 1, _, by go_num, by omega, by omega, by rw [List.length_append, HL.out]; rfl, G3, G4, G5, G1, G2⟩
              case measure => simp [intOf]; omega
            · go_simp
              refine hK _ _ ?_
              clear hK K
              have HNU : Hid (Nums (Wc.alloc (.cells #[.int .i64 1, .int .i64 2, .int .i64 3, .int .i64 5, .int .i64 8, .int .i64 (1 + v36), .int .i64 99] 3)) b Wc.heap.size 0 7 (fun _ => True)) := by
                obtain ⟨n1, n2, n3⟩ := nums_new Wc b 3 [1, 2, 3, 5, 8, 1 + v36, 99] hbc
                exact ⟨n1, n2, fun i hi => by obtain ⟨v, hv, _⟩ := n3 i hi; exact ⟨v, hv, trivial⟩⟩
              have HON' := Lib.hid (only_alloc HON.out (.cells #[.int .i64 1, .int .i64 2, .int .i64 3, .int .i64 5, .int .i64 8, .int .i64 (1 + v36), .int .i64 99] 3))
              have HRD' := Lib.hid (HRD.out.alloc (.cells #[.int .i64 1, .int .i64 2, .int .i64 3, .int .i64 5, .int .i64 8, .int .i64 (1 + v36), .int .i64 99] 3))
              have HBY' : Hid (bb ≠ b ∧ bb < (Wc.alloc (.cells #[.int .i64 1, .int .i64 2, .int .i64 3, .int .i64 5, .int .i64 8, .int .i64 (1 + v36), .int .i64 99] 3)).heap.size ∧ (Wc.alloc (.cells #[.int .i64 1, .int .i64 2, .int .i64 3, .int .i64 5, .int .i64 8, .int .i64 (1 + v36), .int .i64 99] 3)).cell? ⟨bb, 0, none⟩ = some (.int .u8 (65 + (k : Int)))) := ⟨HBY.out.1, by have := HBY.out.2.1; simp; omega, (((Below.refl _ Wc).alloc (Nat.le_refl _) _).cell (p := ⟨bb, 0, none⟩) HBY.out.2.1).trans HBY.out.2.2⟩
              clear HON HRD HBY
              have HON := HON'
              clear HON'
              have HRD := HRD'
              clear HRD'
              have HBY := HBY'
              clear HBY'
              generalize hWn : Wc.alloc (.cells #[.int .i64 1, .int .i64 2, .int .i64 3, .int .i64 5, .int .i64 8, .int .i64 (1 + v36), .int .i64 99] 3) = Wn at *
              clear hWn
              generalize hgg : Wc.heap.size = gg at *
              clear hgg hbc
              clear Wc
              rename World => Wc
              have hbc := HRD.out.lt
              refine wpAny_ready (rs := [5, 11]) (by kernel_rfl) (by simp) ?_
              refine AllReady.cons rfl (fun K hK => ?_) (AllReady.cons rfl (fun K hK => ?_) AllReady.nil)
              · have hcv : (convert 22 9 (.slice (some ⟨bb, 0, none⟩) 1 1)).run Tryd.prog Wc = .ok (.string ⟨#[ch]⟩) Wc :=
                  run_convert_bytes_back (P := Tryd.prog) _ 22 9 5 ⟨bb, 0, none⟩ 1 [ch] Tryd.underlying22 Tryd.underlying5 Tryd.underlying9 (fun j hj => by
                    have : j = 0 := by simp at hj; omega
                    subst this
                    have h := HBY.out.2.2
                    rw [← HCH.out] at h
                    exact h)
                go_simp
                refine hK _ _ ?_
                clear hK K hcv HBY
                refine wpAny_ready (rs := [11]) (by kernel_rfl) (by simp) ?_
                refine AllReady.cons rfl (fun K hK => ?_) AllReady.nil
                go_simp
                refine (num_any b (P + 4 * k + 2) gg 0 7 7 _ Wc HRD.out (by omega) (by omega) (by omega) HNU.out).mono ?_
                rintro e Wn ⟨v39, rfl, -, ho, hr⟩
                refine hK _ _ ?_
                clear hK K
                have HON' := Lib.hid (HON.out.trans ho)
                have HRD' := Lib.hid (hr)
                clear HNU HON HRD
                have HON := HON'
                clear HON'
                have HRD := HRD'
                clear HRD'
                clear ho hr hbc
                clear Wc
                rename World => Wc
                have hbc := HRD.out.lt
                refine wpAny_ready (rs := [16]) (by kernel_rfl) (by simp) ?_
                refine AllReady.cons rfl (fun K hK => ?_) AllReady.nil
                go_simp
                refine (draw_any b (P + 4 * k + 3) xs.length Wc HRD.out (by omega) (by omega) (by omega)).mono ?_
                rintro e Wn ⟨v44, rfl, hv16, ho, hr⟩
                refine hK _ _ ?_
                clear hK K
                have HON' := Lib.hid (HON.out.trans ho)
                have HRD' := Lib.hid (hr)
                clear HON HRD
                have HON := HON'
                clear HON'
                have HRD := HRD'
                clear HRD'
                clear ho hr hbc
                clear Wc
                rename World => Wc
                have hbc := HRD.out.lt
                obtain ⟨j, rfl⟩ := Int.eq_ofNat_of_zero_le hv16.1
                have hjl : j < xs.length := by have := hv16.2 (by omega); omega
                clear hv16
                refine wpAny_take (i := 17) (v := ?_) rfl (by kernel_rfl) (by kernel_rfl) (by kernel_rfl) (fun _ _ _ h => h) (Or.inl ⟨by rfl, by (intro w; go_simp; try with_reducible rfl)⟩) ?_
                refine wpAny_ready (rs := [18]) (by kernel_rfl) (by simp) ?_
                refine AllReady.cons rfl (fun K hK => ?_) AllReady.nil
                have hcx := HPC.out Wc HON.out j (xs[j]'hjl) (List.getElem?_eq_getElem hjl)
                have HX : Hid (0 ≤ xs[j]'hjl ∧ xs[j]'hjl ≤ (k : Int) - 1) := HXS.out _ (List.getElem_mem hjl)
                generalize xs[j]'hjl = x at *
                go_simp
                refine hK _ _ ?_
                clear hK K hcx
                refine wpAny_take (i := 19) (v := ?_) rfl (by kernel_rfl) (by kernel_rfl) (by kernel_rfl) (fun _ _ _ h => h) (Or.inl ⟨by rfl, by (intro w; go_simp; try with_reducible rfl)⟩) ?_
                refine wpAny_ready (rs := [20]) (by kernel_rfl) (by simp) ?_
                refine AllReady.cons rfl (fun K hK => ?_) AllReady.nil
                go_simp
                refine hK _ _ ?_
                clear hK K
                refine wpAny_ready (rs := [21]) (by kernel_rfl) (by simp) ?_
                refine AllReady.cons rfl (fun K hK => ?_) AllReady.nil
                rw [if_pos (by rfl)]
                refine oper_append_seg _ _ rfl w2.heap.size l.length (.slice (some ⟨g, 0, none⟩) l.length c) (segCells l) rfl (HOWN.out Wc _ HON.out) ⟨Wc.heap.size, 0, none⟩ [.string ⟨#[ch]⟩, .int .i64 v39, .int .i64 x] rfl rfl (fun j y hj => HNW.out Wc v39 x j y hj) (by simp [Value.oneCell']) (by omega) (by have := HLW.out; have := HON.out.size; simp; omega) ?_
                intro v7 W7 hown7 hgrow7
                refine hK _ _ ?_
                clear hK K
                obtain ⟨f1, f2, f3, f4, f5⟩ := HFIN.out Wc W7 v7 v39 x HON.out HRD.out HX.out hown7 hgrow7
                have G1 := Lib.hid f1
                have G2 := Lib.hid f2
                have G3 := Lib.hid f3
                have G4 := Lib.hid f4
                have G5 := Lib.hid f5
                clear f1 f2 f3 f4 f5 hown7 hgrow7 HON HRD HX HOWN HFIN
                refine wpAny_ready (rs := [22]) (by kernel_rfl) (by simp) ?_
                refine AllReady.cons rfl (fun K hK => ?_) AllReady.nil
                go_simp
                refine hK _ _ ?_
                clear hK K
                refine wpAny_done (by kernel_rfl) ?_ _
                go_wp2
                go_roundw
                case rel => exact ⟨k + 1, _, by go_num, by omega, by omega, by rw [List.length_append, HL.out]; rfl, G3, G4, G5, G1, G2⟩
                case measure => simp [intOf]; omega
              · go_simp
                refine (num_any b (P + 4 * k + 2) gg 0 7 7 _ Wc HRD.out (by omega) (by omega) (by omega) HNU.out).mono ?_
                rintro e Wn ⟨v39, rfl, -, ho, hr⟩
                refine hK _ _ ?_
                clear hK K
                have HON' := Lib.hid (HON.out.trans ho)
                have HRD' := Lib.hid (hr)
                have HBY' : Hid (bb ≠ b ∧ bb < Wn.heap.size ∧ Wn.cell? ⟨bb, 0, none⟩ = some (.int .u8 (65 + (k : Int)))) := ⟨HBY.out.1, Nat.lt_of_lt_of_le HBY.out.2.1 ho.size, (only_cell ho HBY.out.1 HBY.out.2.1 0).trans HBY.out.2.2⟩
                clear HNU HON HRD HBY
                have HON := HON'
                clear HON'
                have HRD := HRD'
                clear HRD'
                have HBY := HBY'
                clear HBY'
                clear ho hr hbc
                clear Wc
                rename World => Wc
                have hbc := HRD.out.lt
                refine wpAny_ready (rs := [5, 16]) (by kernel_rfl) (by simp) ?_
                refine AllReady.cons rfl (fun K hK => ?_) (AllReady.cons rfl (fun K hK => ?_) AllReady.nil)
                · have hcv : (convert 22 9 (.slice (some ⟨bb, 0, none⟩) 1 1)).run Tryd.prog Wc = .ok (.string ⟨#[ch]⟩) Wc :=
                    run_convert_bytes_back (P := Tryd.prog) _ 22 9 5 ⟨bb, 0, none⟩ 1 [ch] Tryd.underlying22 Tryd.underlying5 Tryd.underlying9 (fun j hj => by
                      have : j = 0 := by simp at hj; omega
                      subst this
                      have h := HBY.out.2.2
                      rw [← HCH.out] at h
                      exact h)
                  go_simp
                  refine hK _ _ ?_
                  clear hK K hcv HBY
                  refine wpAny_ready (rs := [16]) (by kernel_rfl) (by simp) ?_
                  refine AllReady.cons rfl (fun K hK => ?_) AllReady.nil
                  go_simp
                  refine (draw_any b (P + 4 * k + 3) xs.length Wc HRD.out (by omega) (by omega) (by omega)).mono ?_
                  rintro e Wn ⟨v44, rfl, hv16, ho, hr⟩
                  refine hK _ _ ?_
                  clear hK K
                  have HON' := Lib.hid (HON.out.trans ho)
                  have HRD' := Lib.hid (hr)
                  clear HON HRD
                  have HON := HON'
                  clear HON'
                  have HRD := HRD'
                  clear HRD'
                  clear ho hr hbc
                  clear Wc
                  rename World => Wc
                  have hbc := HRD.out.lt
                  obtain ⟨j, rfl⟩ := Int.eq_ofNat_of_zero_le hv16.1
                  have hjl : j < xs.length := by have := hv16.2 (by omega); omega
                  clear hv16
                  refine wpAny_take (i := 17) (v := ?_) rfl (by kernel_rfl) (by kernel_rfl) (by kernel_rfl) (fun _ _ _ h => h) (Or.inl ⟨by rfl, by (intro w; go_simp; try with_reducible rfl)⟩) ?_
                  refine wpAny_ready (rs := [18]) (by kernel_rfl) (by simp) ?_
                  refine AllReady.cons rfl (fun K hK => ?_) AllReady.nil
                  have hcx := HPC.out Wc HON.out j (xs[j]'hjl) (List.getElem?_eq_getElem hjl)
                  have HX : Hid (0 ≤ xs[j]'hjl ∧ xs[j]'hjl ≤ (k : Int) - 1) := HXS.out _ (List.getElem_mem hjl)
                  generalize xs[j]'hjl = x at *
                  go_simp
                  refine hK _ _ ?_
                  clear hK K hcx
                  refine wpAny_take (i := 19) (v := ?_) rfl (by kernel_rfl) (by kernel_rfl) (by kernel_rfl) (fun _ _ _ h => h) (Or.inl ⟨by rfl, by (intro w; go_simp; try with_reducible rfl)⟩) ?_
                  refine wpAny_ready (rs := [20]) (by kernel_rfl) (by simp) ?_
                  refine AllReady.cons rfl (fun K hK => ?_) AllReady.nil
                  go_simp
                  refine hK _ _ ?_
                  clear hK K
                  refine wpAny_ready (rs := [21]) (by kernel_rfl) (by simp) ?_
                  refine AllReady.cons rfl (fun K hK => ?_) AllReady.nil
                  rw [if_pos (by rfl)]
                  refine oper_append_seg _ _ rfl w2.heap.size l.length (.slice (some ⟨g, 0, none⟩) l.length c) (segCells l) rfl (HOWN.out Wc _ HON.out) ⟨Wc.heap.size, 0, none⟩ [.string ⟨#[ch]⟩, .int .i64 v39, .int .i64 x] rfl rfl (fun j y hj => HNW.out Wc v39 x j y hj) (by simp [Value.oneCell']) (by omega) (by have := HLW.out; have := HON.out.size; simp; omega) ?_
                  intro v7 W7 hown7 hgrow7
                  refine hK _ _ ?_
                  clear hK K
                  obtain ⟨f1, f2, f3, f4, f5⟩ := HFIN.out Wc W7 v7 v39 x HON.out HRD.out HX.out hown7 hgrow7
                  have G1 := Lib.hid f1
                  have G2 := Lib.hid f2
                  have G3 := Lib.hid f3
                  have G4 := Lib.hid f4
                  have G5 := Lib.hid f5
                  clear f1 f2 f3 f4 f5 hown7 hgrow7 HON HRD HX HOWN HFIN
                  refine wpAny_ready (rs := [22]) (by kernel_rfl) (by simp) ?_
                  refine AllReady.cons rfl (fun K hK => ?_) AllReady.nil
                  go_simp
                  refine hK _ _ ?_
                  clear hK K
                  refine wpAny_done (by kernel_rfl) ?_ _
                  go_wp2
                  go_roundw
                  case rel => exact ⟨k + 1, _, by go_num, by omega, by omega, by rw [List.length_append, HL.out]; rfl, G3, G4, G5, G1, G2⟩
                  case measure => simp [intOf]; omega
                · go_simp
                  refine (draw_any b (P + 4 * k + 3) xs.length Wc HRD.out (by omega) (by omega) (by omega)).mono ?_
                  rintro e Wn ⟨v44, rfl, hv16, ho, hr⟩
                  refine hK _ _ ?_
                  clear hK K
                  have HON' := Lib.hid (HON.out.trans ho)
                  have HRD' := Lib.hid (hr)
                  have HBY' : Hid (bb ≠ b ∧ bb < Wn.heap.size ∧ Wn.cell? ⟨bb, 0, none⟩ = some (.int .u8 (65 + (k : Int)))) := ⟨HBY.out.1, Nat.lt_of_lt_of_le HBY.out.2.1 ho.size, (only_cell ho HBY.out.1 HBY.out.2.1 0).trans HBY.out.2.2⟩
                  clear HON HRD HBY
                  have HON := HON'
                  clear HON'
                  have HRD := HRD'
                  clear HRD'
                  have HBY := HBY'
                  clear HBY'
                  clear ho hr hbc
                  clear Wc
                  rename World => Wc
                  have hbc := HRD.out.lt
                  obtain ⟨j, rfl⟩ := Int.eq_ofNat_of_zero_le hv16.1
                  have hjl : j < xs.length := by have := hv16.2 (by omega); omega
                  clear hv16
                  refine wpAny_take (i := 17) (v := ?_) rfl (by kernel_rfl) (by kernel_rfl) (by kernel_rfl) (fun _ _ _ h => h) (Or.inl ⟨by rfl, by (intro w; go_simp; try with_reducible rfl)⟩) ?_
                  refine wpAny_ready (rs := [5, 18]) (by kernel_rfl) (by simp) ?_
                  refine AllReady.cons rfl (fun K hK => ?_) (AllReady.cons rfl (fun K hK => ?_) AllReady.nil)
                  · have hcv : (convert 22 9 (.slice (some ⟨bb, 0, none⟩) 1 1)).run Tryd.prog Wc = .ok (.string ⟨#[ch]⟩) Wc :=
                      run_convert_bytes_back (P := Tryd.prog) _ 22 9 5 ⟨bb, 0, none⟩ 1 [ch] Tryd.underlying22 Tryd.underlying5 Tryd.underlying9 (fun j hj => by
                        have : j = 0 := by simp at hj; omega
                        subst this
                        have h := HBY.out.2.2
                        rw [← HCH.out] at h
                        exact h)
                    go_simp
                    refine hK _ _ ?_
                    clear hK K hcv HBY
                    refine wpAny_ready (rs := [18]) (by kernel_rfl) (by simp) ?_
                    refine AllReady.cons rfl (fun K hK => ?_) AllReady.nil
                    have hcx := HPC.out Wc HON.out j (xs[j]'hjl) (List.getElem?_eq_getElem hjl)
                    have HX : Hid (0 ≤ xs[j]'hjl ∧ xs[j]'hjl ≤ (k : Int) - 1) := HXS.out _ (List.getElem_mem hjl)
                    generalize xs[j]'hjl = x at *
                    go_simp
                    refine hK _ _ ?_
                    clear hK K hcx
                    refine wpAny_take (i := 19) (v := ?_) rfl (by kernel_rfl) (by kernel_rfl) (by kernel_rfl) (fun _ _ _ h => h) (Or.inl ⟨by rfl, by (intro w; go_simp; try with_reducible rfl)⟩) ?_
                    refine wpAny_ready (rs := [20]) (by kernel_rfl) (by simp) ?_
                    refine AllReady.cons rfl (fun K hK => ?_) AllReady.nil
                    go_simp
                    refine hK _ _ ?_
                    clear hK K
                    refine wpAny_ready (rs := [21]) (by kernel_rfl) (by simp) ?_
                    refine AllReady.cons rfl (fun K hK => ?_) AllReady.nil
                    rw [if_pos (by rfl)]
                    refine oper_append_seg _ _ rfl w2.heap.size l.length (.slice (some ⟨g, 0, none⟩) l.length c) (segCells l) rfl (HOWN.out Wc _ HON.out) ⟨Wc.heap.size, 0, none⟩ [.string ⟨#[ch]⟩, .int .i64 v39, .int .i64 x] rfl rfl (fun j y hj => HNW.out Wc v39 x j y hj) (by simp [Value.oneCell']) (by omega) (by have := HLW.out; have := HON.out.size; simp; omega) ?_
                    intro v7 W7 hown7 hgrow7
                    refine hK _ _ ?_
                    clear hK K
                    obtain ⟨f1, f2, f3, f4, f5⟩ := HFIN.out Wc W7 v7 v39 x HON.out HRD.out HX.out hown7 hgrow7
                    have G1 := Lib.hid f1
                    have G2 := Lib.hid f2
                    have G3 := Lib.hid f3
                    have G4 := Lib.hid f4
                    have G5 := Lib.hid f5
                    clear f1 f2 f3 f4 f5 hown7 hgrow7 HON HRD HX HOWN HFIN
                    refine wpAny_ready (rs := [22]) (by kernel_rfl) (by simp) ?_
                    refine AllReady.cons rfl (fun K hK => ?_) AllReady.nil
                    go_simp
                    refine hK _ _ ?_
                    clear hK K
                    refine wpAny_done (by kernel_rfl) ?_ _
                    go_wp2
                    go_roundw
                    case rel => exact ⟨k + 1, _, by go_num, by omega, by omega, by rw [List.length_append, HL.out]; rfl, G3, G4, G5, G1, G2⟩
                    case measure => simp [intOf]; omega
                  · have hcx := HPC.out Wc HON.out j (xs[j]'hjl) (List.getElem?_eq_getElem hjl)
                    have HX : Hid (0 ≤ xs[j]'hjl ∧ xs[j]'hjl ≤ (k : Int) - 1) := HXS.out _ (List.getElem_mem hjl)
                    generalize xs[j]'hjl = x at *
                    go_simp
                    refine hK _ _ ?_
                    clear hK K hcx
                    refine wpAny_ready (rs := [5]) (by kernel_rfl) (by simp) ?_
                    refine AllReady.cons rfl (fun K hK => ?_) AllReady.nil
                    have hcv : (convert 22 9 (.slice (some ⟨bb, 0, none⟩) 1 1)).run Tryd.prog Wc = .ok (.string ⟨#[ch]⟩) Wc :=
                      run_convert_bytes_back (P := Tryd.prog) _ 22 9 5 ⟨bb, 0, none⟩ 1 [ch] Tryd.underlying22 Tryd.underlying5 Tryd.underlying9 (fun j hj => by
                        have : j = 0 := by simp at hj; omega
                        subst this
                        have h := HBY.out.2.2
                        rw [← HCH.out] at h
                        exact h)
                    go_simp
                    refine hK _ _ ?_
                    clear hK K hcv HBY
                    refine wpAny_take (i := 19) (v := ?_) rfl (by kernel_rfl) (by kernel_rfl) (by kernel_rfl) (fun _ _ _ h => h) (Or.inl ⟨by rfl, by (intro w; go_simp; try with_reducible rfl)⟩) ?_
                    refine wpAny_ready (rs := [20]) (by kernel_rfl) (by simp) ?_
                    refine AllReady.cons rfl (fun K hK => ?_) AllReady.nil
                    go_simp
                    refine hK _ _ ?_
                    clear hK K
                    refine wpAny_ready (rs := [21]) (by kernel_rfl) (by simp) ?_
                    refine AllReady.cons rfl (fun K hK => ?_) AllReady.nil
                    rw [if_pos (by rfl)]
                    refine oper_append_seg _ _ rfl w2.heap.size l.length (.slice (some ⟨g, 0, none⟩) l.length c) (segCells l) rfl (HOWN.out Wc _ HON.out) ⟨Wc.heap.size, 0, none⟩ [.string ⟨#[ch]⟩, .int .i64 v39, .int .i64 x] rfl rfl (fun j y hj => HNW.out Wc v39 x j y hj) (by simp [Value.oneCell']) (by omega) (by have := HLW.out; have := HON.out.size; simp; omega) ?_
                    intro v7 W7 hown7 hgrow7
                    refine hK _ _ ?_
                    clear hK K
                    obtain ⟨f1, f2, f3, f4, f5⟩ := HFIN.out Wc W7 v7 v39 x HON.out HRD.out HX.out hown7 hgrow7
                    have G1 := Lib.hid f1
                    have G2 := Lib.hid f2
                    have G3 := Lib.hid f3
                    have G4 := Lib.hid f4
                    have G5 := Lib.hid f5
                    clear f1 f2 f3 f4 f5 hown7 hgrow7 HON HRD HX HOWN HFIN
                    refine wpAny_ready (rs := [22]) (by kernel_rfl) (by simp) ?_
                    refine AllReady.cons rfl (fun K hK => ?_) AllReady.nil
                    go_simp
                    refine hK _ _ ?_
                    clear hK K
                    refine wpAny_done (by kernel_rfl) ?_ _
                    go_wp2
                    go_roundw
                    case rel => exact ⟨k + 1, _, by go_num, by omega, by omega, by rw [List.length_append, HL.out]; rfl, G3, G4, G5, G1, G2⟩
                    case measure => simp [intOf]; omega
          · go_simp
            refine hK _ _ ?_
            clear hK K
            have HNU : Hid (Nums (Wc.alloc (.cells #[.int .i64 1, .int .i64 2, .int .i64 3, .int .i64 5, .int .i64 8, .int .i64 (1 + v36), .int .i64 99] 3)) b Wc.heap.size 0 7 (fun _ => True)) := by
              obtain ⟨n1, n2, n3⟩ := nums_new Wc b 3 [1, 2, 3, 5, 8, 1 + v36, 99] hbc
              exact ⟨n1, n2, fun i hi => by obtain ⟨v, hv, _⟩ := n3 i hi; exact ⟨v, hv, trivial⟩⟩
            have HON' := Lib.hid (only_alloc HON.out (.cells #[.int .i64 1, .int .i64 2, .int .i64 3, .int .i64 5, .int .i64 8, .int .i64 (1 + v36), .int .i64 99] 3))
            have HRD' := Lib.hid (HRD.out.alloc (.cells #[.int .i64 1, .int .i64 2, .int .i64 3, .int .i64 5, .int .i64 8, .int .i64 (1 + v36), .int .i64 99] 3))
            clear HON HRD
            have HON := HON'
            clear HON'
            have HRD := HRD'
            clear HRD'
            generalize hWn : Wc.alloc (.cells #[.int .i64 1, .int .i64 2, .int .i64 3, .int .i64 5, .int .i64 8, .int .i64 (1 + v36), .int .i64 99] 3) = Wn at *
            clear hWn
            generalize hgg : Wc.heap.size = gg at *
            clear hgg hbc
            clear Wc
            rename World => Wc
            have hbc := HRD.out.lt
            refine wpAny_ready (rs := [4, 11]) (by kernel_rfl) (by simp) ?_
            refine AllReady.cons rfl (fun K hK => ?_) (AllReady.cons rfl (fun K hK => ?_) AllReady.nil)
            · go_simp
              refine hK _ _ ?_
              clear hK K
              have HBY : Hid (Wc.heap.size ≠ b ∧ Wc.heap.size < (Wc.alloc (.cells #[.int .u8 (65 + (k : Int))] 5)).heap.size ∧ (Wc.alloc (.cells #[.int .u8 (65 + (k : Int))] 5)).cell? ⟨Wc.heap.size, 0, none⟩ = some (.int .u8 (65 + (k : Int)))) := ⟨by omega, by simp, (Row.new Wc _ _).cell 0⟩
              have HON' := Lib.hid (only_alloc HON.out (.cells #[.int .u8 (65 + (k : Int))] 5))
              have HRD' := Lib.hid (HRD.out.alloc (.cells #[.int .u8 (65 + (k : Int))] 5))
              have HNU' : Hid (Nums (Wc.alloc (.cells #[.int .u8 (65 + (k : Int))] 5)) b gg 0 7 (fun _ => True)) := nums_below HNU.out ((Below.refl _ Wc).alloc (Nat.le_refl _) _)
              clear HON HRD HNU
              have HON := HON'
              clear HON'
              have HRD := HRD'
              clear HRD'
              have HNU := HNU'
              clear HNU'
              generalize hWn : Wc.alloc (.cells #[.int .u8 (65 + (k : Int))] 5) = Wn at *
              clear hWn
              generalize hbb : Wc.heap.size = bb at *
              clear hbb hbc
              clear Wc
              rename World => Wc
              have hbc := HRD.out.lt
              refine wpAny_ready (rs := [5, 11]) (by kernel_rfl) (by simp) ?_
              refine AllReady.cons rfl (fun K hK => ?_) (AllReady.cons rfl (fun K hK => ?_) AllReady.nil)
              · have hcv : (convert 22 9 (.slice (some ⟨bb, 0, none⟩) 1 1)).run Tryd.prog Wc = .ok (.string ⟨#[ch]⟩) Wc :=
                  run_convert_bytes_back (P := Tryd.prog) _ 22 9 5 ⟨bb, 0, none⟩ 1 [ch] Tryd.underlying22 Tryd.underlying5 Tryd.underlying9 (fun j hj => by
                    have : j = 0 := by simp at hj; omega
                    subst this
                    have h := HBY.out.2.2
                    rw [← HCH.out] at h
                    exact h)
                go_simp
                refine hK _ _ ?_
                clear hK K hcv HBY
                refine wpAny_ready (rs := [11]) (by kernel_rfl) (by simp) ?_
                refine AllReady.cons rfl (fun K hK => ?_) AllReady.nil
                go_simp
                refine (num_any b (P + 4 * k + 2) gg 0 7 7 _ Wc HRD.out (by omega) (by omega) (by omega) HNU.out).mono ?_
                rintro e Wn ⟨v39, rfl, -, ho, hr⟩
                refine hK _ _ ?_
                clear hK K
                have HON' := Lib.hid (HON.out.trans ho)
                have HRD' := Lib.hid (hr)
                clear HNU HON HRD
                have HON := HON'
                clear HON'
                have HRD := HRD'
                clear HRD'
                clear ho hr hbc
                clear Wc
                rename World => Wc
                have hbc := HRD.out.lt
                refine wpAny_ready (rs := [16]) (by kernel_rfl) (by simp) ?_
                refine AllReady.cons rfl (fun K hK => ?_) AllReady.nil
                go_simp
                refine (draw_any b (P + 4 * k + 3) xs.length Wc HRD.out (by omega) (by omega) (by omega)).mono ?_
                rintro e Wn ⟨v44, rfl, hv16, ho, hr⟩
                refine hK _ _ ?_
                clear hK K
                have HON' := Lib.hid (HON.out.trans ho)
                have HRD' := Lib.hid (hr)
                clear HON HRD
                have HON := HON'
                clear HON'
                have HRD := HRD'
                clear HRD'
                clear ho hr hbc
                clear Wc
                rename World => Wc
                have hbc := HRD.out.lt
                obtain ⟨j, rfl⟩ := Int.eq_ofNat_of_zero_le hv16.1
                have hjl : j < xs.length := by have := hv16.2 (by omega); omega
                clear hv16
                refine wpAny_take (i := 17) (v := ?_) rfl (by kernel_rfl) (by kernel_rfl) (by kernel_rfl) (fun _ _ _ h => h) (Or.inl ⟨by rfl, by (intro w; go_simp; try with_reducible rfl)⟩) ?_
                refine wpAny_ready (rs := [18]) (by kernel_rfl) (by simp) ?_
                refine AllReady.cons rfl (fun K hK => ?_) AllReady.nil
                have hcx := HPC.out Wc HON.out j (xs[j]'hjl) (List.getElem?_eq_getElem hjl)
                have HX : Hid (0 ≤ xs[j]'hjl ∧ xs[j]'hjl ≤ (k : Int) - 1) := HXS.out _ (List.getElem_mem hjl)
                generalize xs[j]'hjl = x at *
                go_simp
                refine hK _ _ ?_
                clear hK K hcx
                refine wpAny_take (i := 19) (v := ?_) rfl (by kernel_rfl) (by kernel_rfl) (by kernel_rfl) (fun _ _ _ h => h) (Or.inl ⟨by rfl, by (intro w; go_simp; try with_reducible rfl)⟩) ?_
                refine wpAny_ready (rs := [20]) (by kernel_rfl) (by simp) ?_
                refine AllReady.cons rfl (fun K hK => ?_) AllReady.nil
                go_simp
                refine hK _ _ ?_
                clear hK K
                refine wpAny_ready (rs := [21]) (by kernel_rfl) (by simp) ?_
                refine AllReady.cons rfl (fun K hK => ?_) AllReady.nil
                rw [if_pos (by rfl)]
                refine oper_append_seg _ _ rfl w2.heap.size l.length (.slice (some ⟨g, 0, none⟩) l.length c) (segCells l) rfl (HOWN.out Wc _ HON.out) ⟨Wc.heap.size, 0, none⟩ [.string ⟨#[ch]⟩, .int .i64 v39, .int .i64 x] rfl rfl (fun j y hj => HNW.out Wc v39 x j y hj) (by simp [Value.oneCell']) (by omega) (by have := HLW.out; have := HON.out.size; simp; omega) ?_
                intro v7 W7 hown7 hgrow7
                refine hK _ _ ?_
                clear hK K
                obtain ⟨f1, f2, f3, f4, f5⟩ := HFIN.out Wc W7 v7 v39 x HON.out HRD.out HX.out hown7 hgrow7
                have G1 := Lib.hid f1
                have G2 := Lib.hid f2
                have G3 := Lib.hid f3
                have G4 := Lib.hid f4
                have G5 := Lib.hid f5
                clear f1 f2 f3 f4 f5 hown7 hgrow7 HON HRD HX HOWN HFIN
                refine wpAny_ready (rs := [22]) (by kernel_rfl) (by simp) ?_
                refine AllReady.cons rfl (fun K hK => ?_) AllReady.nil
                go_simp
                refine hK _ _ ?_
                clear hK K
                refine wpAny_done (by kernel_rfl) ?_ _
                go_wp2
                go_roundw
                case rel => exact ⟨k + 1, _, by go_num, by omega, by omega, by rw [List.length_append, HL.out]; rfl, G3, G4, G5, G1, G2⟩
                case measure => simp [intOf]; omega
              · go_simp
                refine (num_any b (P + 4 * k + 2) gg 0 7 7 _ Wc HRD.out (by omega) (by omega) (by omega) HNU.out).mono ?_
                rintro e Wn ⟨v39, rfl, -, ho, hr⟩
                refine hK _ _ ?_
                clear hK K
                have HON' := Lib.hid (HON.out.trans ho)
                have HRD' := Lib.hid (hr)
                have HBY' : Hid (bb ≠ b ∧ bb < Wn.heap.size ∧ Wn.cell? ⟨bb, 0, none⟩ = some (.int .u8 (65 + (k : Int)))) := ⟨HBY.out.1, Nat.lt_of_lt_of_le HBY.out.2.1 ho.size, (only_cell ho HBY.out.1 HBY.out.2.1 0).trans HBY.out.2.2⟩
                clear HNU HON HRD HBY
                have HON := HON'
                clear HON'
                have HRD := HRD'
                clear HRD'
                have HBY := HBY'
                clear HBY'
                clear ho hr hbc
                clear Wc
                rename World => Wc
                have hbc := HRD.out.lt
                refine wpAny_ready (rs := [5, 16]) (by kernel_rfl) (by simp) ?_
                refine AllReady.cons rfl (fun K hK => ?_) (AllReady.cons rfl (fun K hK => ?_) AllReady.nil)
                · have hcv : (convert 22 9 (.slice (some ⟨bb, 0, none⟩) 1 1)).run Tryd.prog Wc = .ok (.string ⟨#[ch]⟩) Wc :=
                    run_convert_bytes_back (P := Tryd.prog) _ 22 9 5 ⟨bb, 0, none⟩ 1 [ch] Tryd.underlying22 Tryd.underlying5 Tryd.underlying9 (fun j hj => by
                      have : j = 0 := by simp at hj; omega
                      subst this
                      have h := HBY.out.2.2
                      rw [← HCH.out] at h
                      exact h)
                  go_simp
                  refine hK _ _ ?_
                  clear hK K hcv HBY
                  refine wpAny_ready (rs := [16]) (by kernel_rfl) (by simp) ?_
                  refine AllReady.cons rfl (fun K hK => ?_) AllReady.nil
                  go_simp
                  refine (draw_any b (P + 4 * k + 3) xs.length Wc HRD.out (by omega) (by omega) (by omega)).mono ?_
                  rintro e Wn ⟨v44, rfl, hv16, ho, hr⟩
                  refine hK _ _ ?_
                  clear hK K
                  have HON' := Lib.hid (HON.out.trans ho)
                  have HRD' := Lib.hid (hr)
                  clear HON HRD
                  have HON := HON'
                  clear HON'
                  have HRD := HRD'
                  clear HRD'
                  clear ho hr hbc
                  clear Wc
                  rename World => Wc
                  have hbc := HRD.out.lt
                  obtain ⟨j, rfl⟩ := Int.eq_ofNat_of_zero_le hv16.1
                  have hjl : j < xs.length := by have := hv16.2 (by omega); omega
                  clear hv16
                  refine wpAny_take (i := 17) (v := ?_) rfl (by kernel_rfl) (by kernel_rfl) (by kernel_rfl) (fun _ _ _ h => h) (Or.inl ⟨by rfl, by (intro w; go_simp; try with_reducible rfl)⟩) ?_
                  refine wpAny_ready (rs := [18]) (by kernel_rfl) (by simp) ?_
                  refine AllReady.cons rfl (fun K hK => ?_) AllReady.nil
                  have hcx := HPC.out Wc HON.out j (xs[j]'hjl) (List.getElem?_eq_getElem hjl)
                  have HX : Hid (0 ≤ xs[j]'hjl ∧ xs[j]'hjl ≤ (k : Int) - 1) := HXS.out _ (List.getElem_mem hjl)
                  generalize xs[j]'hjl = x at *
                  go_simp
                  refine hK _ _ ?_
                  clear hK K hcx
                  refine wpAny_take (i := 19) (v := ?_) rfl (by kernel_rfl) (by kernel_rfl) (by kernel_rfl) (fun _ _ _ h => h) (Or.inl ⟨by rfl, by (intro w; go_simp; try with_reducible rfl)⟩) ?_
                  refine wpAny_ready (rs := [20]) (by kernel_rfl) (by simp) ?_
                  refine AllReady.cons rfl (fun K hK => ?_) AllReady.nil
                  go_simp
                  refine hK _ _ ?_
                  clear hK K
                  refine wpAny_ready (rs := [21]) (by kernel_rfl) (by simp) ?_
                  refine AllReady.cons rfl (fun K hK => ?_) AllReady.nil
                  rw [if_pos (by rfl)]
                  refine oper_append_seg _ _ rfl w2.heap.size l.length (.slice (some ⟨g, 0, none⟩) l.length c) (segCells l) rfl (HOWN.out Wc _ HON.out) ⟨Wc.heap.size, 0, none⟩ [.string ⟨#[ch]⟩, .int .i64 v39, .int .i64 x] rfl rfl (fun j y hj => HNW.out Wc v39 x j y hj) (by simp [Value.oneCell']) (by omega) (by have := HLW.out; have := HON.out.size; simp; omega) ?_
                  intro v7 W7 hown7 hgrow7
                  refine hK _ _ ?_
                  clear hK K
                  obtain ⟨f1, f2, f3, f4, f5⟩ := HFIN.out Wc W7 v7 v39 x HON.out HRD.out HX.out hown7 hgrow7
                  have G1 := Lib.hid f1
                  have G2 := Lib.hid f2
                  have G3 := Lib.hid f3
                  have G4 := Lib.hid f4
                  have G5 := Lib.hid f5
                  clear f1 f2 f3 f4 f5 hown7 hgrow7 HON HRD HX HOWN HFIN
                  refine wpAny_ready (rs := [22]) (by kernel_rfl) (by simp) ?_
                  refine AllReady.cons rfl (fun K hK => ?_) AllReady.nil
                  go_simp
                  refine hK _ _ ?_
                  clear hK K
                  refine wpAny_done (by kernel_rfl) ?_ _
                  go_wp2
                  go_roundw
                  case rel => exact ⟨k + 1, _, by go_num, by omega, by omega, by rw [List.length_append, HL.out]; rfl, G3, G4, G5, G1, G2⟩
                  case measure => simp [intOf]; omega
                · go_simp
                  refine (draw_any b (P + 4 * k + 3) xs.length Wc HRD.out (by omega) (by omega) (by omega)).mono ?_
                  rintro e Wn ⟨v44, rfl, hv16, ho, hr⟩
                  refine hK _ _ ?_
                  clear hK K
                  have HON' := Lib.hid (HON.out.trans ho)
                  have HRD' := Lib.hid (hr)
                  have HBY' : Hid (bb ≠ b ∧ bb < Wn.heap.size ∧ Wn.cell? ⟨bb, 0, none⟩ = some (.int .u8 (65 + (k : Int)))) := ⟨HBY.out.1, Nat.lt_of_lt_of_le HBY.out.2.1 ho.size, (only_cell ho HBY.out.1 HBY.out.2.1 0).trans HBY.out.2.2⟩
                  clear HON HRD HBY
                  have HON := HON'
                  clear HON'
                  have HRD := HRD'
                  clear HRD'
                  have HBY := HBY'
                  clear HBY'
                  clear ho hr hbc
                  clear Wc
                  rename World => Wc
                  have hbc := HRD.out.lt
                  obtain ⟨j, rfl⟩ := Int.eq_ofNat_of_zero_le hv16.1
                  have hjl : j < xs.length := by have := hv16.2 (by omega); omega
                  clear hv16
                  refine wpAny_take (i := 17) (v := ?_) rfl (by kernel_rfl) (by kernel_rfl) (by kernel_rfl) (fun _ _ _ h => h) (Or.inl ⟨by rfl, by (intro w; go_simp; try with_reducible rfl)⟩) ?_
                  refine wpAny_ready (rs := [5, 18]) (by kernel_rfl) (by simp) ?_
                  refine AllReady.cons rfl (fun K hK => ?_) (AllReady.cons rfl (fun K hK => ?_) AllReady.nil)
                  · have hcv : (convert 22 9 (.slice (some ⟨bb, 0, none⟩) 1 1)).run Tryd.prog Wc = .ok (.string ⟨#[ch]⟩) Wc :=
                      run_convert_bytes_back (P := Tryd.prog) _ 22 9 5 ⟨bb, 0, none⟩ 1 [ch] Tryd.underlying22 Tryd.underlying5 Tryd.underlying9 (fun j hj => by
                        have : j = 0 := by simp at hj; omega
                        subst this
                        have h := HBY.out.2.2
                        rw [← HCH.out] at h
                        exact h)
                    go_simp
                    refine hK _ _ ?_
                    clear hK K hcv HBY
                    refine wpAny_ready (rs := [18]) (by kernel_rfl) (by simp) ?_
                    refine AllReady.cons rfl (fun K hK => ?_) AllReady.nil
                    have hcx := HPC.out Wc HON.out j (xs[j]'hjl) (List.getElem?_eq_getElem hjl)
                    have HX : Hid (0 ≤ xs[j]'hjl ∧ xs[j]'hjl ≤ (k : Int) - 1) := HXS.out _ (List.getElem_mem hjl)
                    generalize xs[j]'hjl = x at *
                    go_simp
                    refine hK _ _ ?_
                    clear hK K hcx
                    refine wpAny_take (i := 19) (v := ?_) rfl (by kernel_rfl) (by kernel_rfl) (by kernel_rfl) (fun _ _ _ h => h) (Or.inl ⟨by rfl, by (intro w; go_simp; try with_reducible rfl)⟩) ?_
                    refine wpAny_ready (rs := [20]) (by kernel_rfl) (by simp) ?_
                    refine AllReady.cons rfl (fun K hK => ?_) AllReady.nil
                    go_simp
                    refine hK _ _ ?_
                    clear hK K
                    refine wpAny_ready (rs := [21]) (by kernel_rfl) (by simp) ?_
                    refine AllReady.cons rfl (fun K hK => ?_) AllReady.nil
                    rw [if_pos (by rfl)]
                    refine oper_append_seg _ _ rfl w2.heap.size l.length (.slice (some ⟨g, 0, none⟩) l.length c) (segCells l) rfl (HOWN.out Wc _ HON.out) ⟨Wc.heap.size, 0, none⟩ [.string ⟨#[ch]⟩, .int .i64 v39, .int .i64 x] rfl rfl (fun j y hj => HNW.out Wc v39 x j y hj) (by simp [Value.oneCell']) (by omega) (by have := HLW.out; have := HON.out.size; simp; omega) ?_
                    intro v7 W7 hown7 hgrow7
                    refine hK _ _ ?_
                    clear hK K
                    obtain ⟨f1, f2, f3, f4, f5⟩ := HFIN.out Wc W7 v7 v39 x HON.out HRD.out HX.out hown7 hgrow7
                    have G1 := Lib.hid f1
                    have G2 := Lib.hid f2
                    have G3 := Lib.hid f3
                    have G4 := Lib.hid f4
                    have G5 := Lib.hid f5
                    clear f1 f2 f3 f4 f5 hown7 hgrow7 HON HRD HX HOWN HFIN
                    refine wpAny_ready (rs := [22]) (by kernel_rfl) (by simp) ?_
                    refine AllReady.cons rfl (fun K hK => ?_) AllReady.nil
                    go_simp
                    refine hK _ _ ?_
                    clear hK K
                    refine wpAny_done (by kernel_rfl) ?_ _
                    go_wp2
                    go_roundw
                    case rel => exact ⟨k + 1, _, by go_num, by omega, by omega, by rw [List.length_append, HL.out]; rfl, G3, G4, G5, G1, G2⟩
                    case measure => simp [intOf]; omega
                  · have hcx := HPC.out Wc HON.out j (xs[j]'hjl) (List.getElem?_eq_getElem hjl)
                    have HX : Hid (0 ≤ xs[j]'hjl ∧ xs[j]'hjl ≤ (k : Int) - 1) := HXS.out _ (List.getElem_mem hjl)
                    generalize xs[j]'hjl = x at *
                    go_simp
                    refine hK _ _ ?_
                    clear hK K hcx
                    refine wpAny_ready (rs := [5]) (by kernel_rfl) (by simp) ?_
                    refine AllReady.cons rfl (fun K hK => ?_) AllReady.nil
                    have hcv : (convert 22 9 (.slice (some ⟨bb, 0, none⟩) 1 1)).run Tryd.prog Wc = .ok (.string ⟨#[ch]⟩) Wc :=
                      run_convert_bytes_back (P := Tryd.prog) _ 22 9 5 ⟨bb, 0, none⟩ 1 [ch] Tryd.underlying22 Tryd.underlying5 Tryd.underlying9 (fun j hj => by
                        have : j = 0 := by simp at hj; omega
                        subst this
                        have h := HBY.out.2.2
                        rw [← HCH.out] at h
                        exact h)
                    go_simp
                    refine hK _ _ ?_
                    clear hK K hcv HBY
                    refine wpAny_take (i := 19) (v := ?_) rfl (by kernel_rfl) (by kernel_rfl) (by kernel_rfl) (fun _ _ _ h => h) (Or.inl ⟨by rfl, by (intro w; go_simp; try with_reducible rfl)⟩) ?_
                    refine wpAny_ready (rs := [20]) (by kernel_rfl) (by simp) ?_
                    refine AllReady.cons rfl (fun K hK => ?_) AllReady.nil
                    go_simp
                    refine hK _ _ ?_
                    clear hK K
                    refine wpAny_ready (rs := [21]) (by kernel_rfl) (by simp) ?_
                    refine AllReady.cons rfl (fun K hK => ?_) AllReady.nil
                    rw [if_pos (by rfl)]
                    refine oper_append_seg _ _ rfl w2.heap.size l.length (.slice (some ⟨g, 0, none⟩) l.length c) (segCells l) rfl (HOWN.out Wc _ HON.out) ⟨Wc.heap.size, 0, none⟩ [.string ⟨#[ch]⟩, .int .i64 v39, .int .i64 x] rfl rfl (fun j y hj => HNW.out Wc v39 x j y hj) (by simp [Value.oneCell']) (by omega) (by have := HLW.out; have := HON.out.size; simp; omega) ?_
                    intro v7 W7 hown7 hgrow7
                    refine hK _ _ ?_
                    clear hK K
                    obtain ⟨f1, f2, f3, f4, f5⟩ := HFIN.out Wc W7 v7 v39 x HON.out HRD.out HX.out hown7 hgrow7
                    have G1 := Lib.hid f1
                    have G2 := Lib.hid f2
                    have G3 := Lib.hid f3
                    have G4 := Lib.hid f4
                    have G5 := Lib.hid f5
                    clear f1 f2 f3 f4 f5 hown7 hgrow7 HON HRD HX HOWN HFIN
                    refine wpAny_ready (rs := [22]) (by kernel_rfl) (by simp) ?_
                    refine AllReady.cons rfl (fun K hK => ?_) AllReady.nil
                    go_simp
                    refine hK _ _ ?_
                    clear hK K
                    refine wpAny_done (by kernel_rfl) ?_ _
                    go_wp2
                    go_roundw
                    case rel => exact ⟨k + 1, _, by go_num, by omega, by omega, by rw [List.length_append, HL.out]; rfl, G3, G4, G5, G1, G2⟩
                    case measure => simp [intOf]; omega
            · go_simp
              refine (num_any b (P + 4 * k + 2) gg 0 7 7 _ Wc HRD.out (by omega) (by omega) (by omega) HNU.out).mono ?_
              rintro e Wn ⟨v39, rfl, -, ho, hr⟩
              refine hK _ _ ?_
              clear hK K
              have HON' := Lib.hid (HON.out.trans ho)
              have HRD' := Lib.hid (hr)
              clear HNU HON HRD
              have HON := HON'
              clear HON'
              have HRD := HRD'
              clear HRD'
              clear ho hr hbc
              clear Wc
              rename World => Wc
              have hbc := HRD.out.lt
              refine wpAny_ready (rs := [4, 16]) (by kernel_rfl) (by simp) ?_
              refine AllReady.cons rfl (fun K hK => ?_) (AllReady.cons rfl (fun K hK => ?_) AllReady.nil)
              · go_simp
                refine hK _ _ ?_
                clear hK K
                have HBY : Hid (Wc.heap.size ≠ b ∧ Wc.heap.size < (Wc.alloc (.cells #[.int .u8 (65 + (k : Int))] 5)).heap.size ∧ (Wc.alloc (.cells #[.int .u8 (65 + (k : Int))] 5)).cell? ⟨Wc.heap.size, 0, none⟩ = some (.int .u8 (65 + (k : Int)))) := ⟨by omega, by simp, (Row.new Wc _ _).cell 0⟩
                have HON' := Lib.hid (only_alloc HON.out (.cells #[.int .u8 (65 + (k : Int))] 5))
                have HRD' := Lib.hid (HRD.out.alloc (.cells #[.int .u8 (65 + (k : Int))] 5))
                clear HON HRD
                have HON := HON'
                clear HON'
                have HRD := HRD'
                clear HRD'
                generalize hWn : Wc.alloc (.cells #[.int .u8 (65 + (k : Int))] 5) = Wn at *
                clear hWn
                generalize hbb : Wc.heap.size = bb at *
                clear hbb hbc
                clear Wc
                rename World => Wc
                have hbc := HRD.out.lt
                refine wpAny_ready (rs := [5, 16]) (by kernel_rfl) (by simp) ?_
                refine AllReady.cons rfl (fun K hK => ?_) (AllReady.cons rfl (fun K hK => ?_) AllReady.nil)
                · have hcv : (convert 22 9 (.slice (some ⟨bb, 0, none⟩) 1 1)).run Tryd.prog Wc = .ok (.string ⟨#[ch]⟩) Wc :=
                    run_convert_bytes_back (P := Tryd.prog) _ 22 9 5 ⟨bb, 0, none⟩ 1 [ch] Tryd.underlying22 Tryd.underlying5 Tryd.underlying9 (fun j hj => by
                      have : j = 0 := by simp at hj; omega
                      subst this
                      have h := HBY.out.2.2
                      rw [← HCH.out] at h
                      exact h)
                  go_simp
                  refine hK _ _ ?_
                  clear hK K hcv HBY
                  refine wpAny_ready (rs := [16]) (by kernel_rfl) (by simp) ?_
                  refine AllReady.cons rfl (fun K hK => ?_) AllReady.nil
                  go_simp
                  refine (draw_any b (P + 4 * k + 3) xs.length Wc HRD.out (by omega) (by omega) (by omega)).mono ?_
                  rintro e Wn ⟨v44, rfl, hv16, ho, hr⟩
                  refine hK _ _ ?_
                  clear hK K
                  have HON' := Lib.hid (HON.out.trans ho)
                  have HRD' := Lib.hid (hr)
                  clear HON HRD
                  have HON := HON'
                  clear HON'
                  have HRD := HRD'
                  clear HRD'
                  clear ho hr hbc
                  clear Wc
                  rename World => Wc
                  have hbc := HRD.out.lt
                  obtain ⟨j, rfl⟩ := Int.eq_ofNat_of_zero_le hv16.1
                  have hjl : j < xs.length := by have := hv16.2 (by omega); omega
                  clear hv16
                  refine wpAny_take (i := 17) (v := ?_) rfl (by kernel_rfl) (by kernel_rfl) (by kernel_rfl) (fun _ _ _ h => h) (Or.inl ⟨by rfl, by (intro w; go_simp; try with_reducible rfl)⟩) ?_
                  refine wpAny_ready (rs := [18]) (by kernel_rfl) (by simp) ?_
                  refine AllReady.cons rfl (fun K hK => ?_) AllReady.nil
                  have hcx := HPC.out Wc HON.out j (xs[j]'hjl) (List.getElem?_eq_getElem hjl)
                  have HX : Hid (0 ≤ xs[j]'hjl ∧ xs[j]'hjl ≤ (k : Int) - 1) := HXS.out _ (List.getElem_mem hjl)
                  generalize xs[j]'hjl = x at *
                  go_simp
                  refine hK _ _ ?_
                  clear hK K hcx
                  refine wpAny_take (i := 19) (v := ?_) rfl (by kernel_rfl) (by kernel_rfl) (by kernel_rfl) (fun _ _ _ h => h) (Or.inl ⟨by rfl, by (intro w; go_simp; try with_reducible rfl)⟩) ?_
                  refine wpAny_ready (rs := [20]) (by kernel_rfl) (by simp) ?_
                  refine AllReady.cons rfl (fun K hK => ?_) AllReady.nil
                  go_simp
                  refine hK _ _ ?_
                  clear hK K
                  refine wpAny_ready (rs := [21]) (by kernel_rfl) (by simp) ?_
                  refine AllReady.cons rfl (fun K hK => ?_) AllReady.nil
                  rw [if_pos (by rfl)]
                  refine oper_append_seg _ _ rfl w2.heap.size l.length (.slice (some ⟨g, 0, none⟩) l.length c) (segCells l) rfl (HOWN.out Wc _ HON.out) ⟨Wc.heap.size, 0, none⟩ [.string ⟨#[ch]⟩, .int .i64 v39, .int .i64 x] rfl rfl (fun j y hj => HNW.out Wc v39 x j y hj) (by simp [Value.oneCell']) (by omega) (by have := HLW.out; have := HON.out.size; simp; omega) ?_
                  intro v7 W7 hown7 hgrow7
                  refine hK _ _ ?_
                  clear hK K
                  obtain ⟨f1, f2, f3, f4, f5⟩ := HFIN.out Wc W7 v7 v39 x HON.out HRD.out HX.out hown7 hgrow7
                  have G1 := Lib.hid f1
                  have G2 := Lib.hid f2
                  have G3 := Lib.hid f3
                  have G4 := Lib.hid f4
                  have G5 := Lib.hid f5
                  clear f1 f2 f3 f4 f5 hown7 hgrow7 HON HRD HX HOWN HFIN
                  refine wpAny_ready (rs := [22]) (by kernel_rfl) (by simp) ?_
                  refine AllReady.cons rfl (fun K hK => ?_) AllReady.nil
                  go_simp
                  refine hK _ _ ?_
                  clear hK K
                  refine wpAny_done (by kernel_rfl) ?_ _
                  go_wp2
                  go_roundw
                  case rel => exact ⟨k + 1, _, by go_num, by omega, by omega, by rw [List.length_append, HL.out]; rfl, G3, G4, G5, G1, G2⟩
                  case measure => simp [intOf]; omega
                · go_simp
                  refine (draw_any b (P + 4 * k + 3) xs.length Wc HRD.out (by omega) (by omega) (by omega)).mono ?_
                  rintro e Wn ⟨v44, rfl, hv16, ho, hr⟩
                  refine hK _ _ ?_
                  clear hK K
                  have HON' := Lib.hid (HON.out.trans ho)
                  have HRD' := Lib.hid (hr)
                  have HBY' : Hid (bb ≠ b ∧ bb < Wn.heap.size ∧ Wn.cell? ⟨bb, 0, none⟩ = some (.int .u8 (65 + (k : Int)))) := ⟨HBY.out.1, Nat.lt_of_lt_of_le HBY.out.2.1 ho.size, (only_cell ho HBY.out.1 HBY.out.2.1 0).trans HBY.out.2.2⟩
                  clear HON HRD HBY
                  have HON := HON'
                  clear HON'
                  have HRD := HRD'
                  clear HRD'
                  have HBY := HBY'
                  clear HBY'
                  clear ho hr hbc
                  clear Wc
                  rename World => Wc
                  have hbc := HRD.out.lt
                  obtain ⟨j, rfl⟩ := Int.eq_ofNat_of_zero_le hv16.1
                  have hjl : j < xs.length := by have := hv16.2 (by omega); omega
                  clear hv16
                  refine wpAny_take (i := 17) (v := ?_) rfl (by kernel_rfl) (by kernel_rfl) (by kernel_rfl) (fun _ _ _ h => h) (Or.inl ⟨by rfl, by (intro w; go_simp; try with_reducible rfl)⟩) ?_
                  refine wpAny_ready (rs := [5, 18]) (by kernel_rfl) (by simp) ?_
                  refine AllReady.cons rfl (fun K hK => ?_) (AllReady.cons rfl (fun K hK => ?_) AllReady.nil)
                  · have hcv : (convert 22 9 (.slice (some ⟨bb, 0, none⟩) 1 1)).run Tryd.prog Wc = .ok (.string ⟨#[ch]⟩) Wc :=
                      run_convert_bytes_back (P := Tryd.prog) _ 22 9 5 ⟨bb, 0, none⟩ 1 [ch] Tryd.underlying22 Tryd.underlying5 Tryd.underlying9 (fun j hj => by
                        have : j = 0 := by simp at hj; omega
                        subst this
                        have h := HBY.out.2.2
                        rw [← HCH.out] at h
                        exact h)
                    go_simp
                    refine hK _ _ ?_
                    clear hK K hcv HBY
                    refine wpAny_ready (rs := [18]) (by kernel_rfl) (by simp) ?_
                    refine AllReady.cons rfl (fun K hK => ?_) AllReady.nil
                    have hcx := HPC.out Wc HON.out j (xs[j]'hjl) (List.getElem?_eq_getElem hjl)
                    have HX : Hid (0 ≤ xs[j]'hjl ∧ xs[j]'hjl ≤ (k : Int) - 1) := HXS.out _ (List.getElem_mem hjl)
                    generalize xs[j]'hjl = x at *
                    go_simp
                    refine hK _ _ ?_
                    clear hK K hcx
                    refine wpAny_take (i := 19) (v := ?_) rfl (by kernel_rfl) (by kernel_rfl) (by kernel_rfl) (fun _ _ _ h => h) (Or.inl ⟨by rfl, by (intro w; go_simp; try with_reducible rfl)⟩) ?_
                    refine wpAny_ready (rs := [20]) (by kernel_rfl) (by simp) ?_
                    refine AllReady.cons rfl (fun K hK => ?_) AllReady.nil
                    go_simp
                    refine hK _ _ ?_
                    clear hK K
                    refine wpAny_ready (rs := [21]) (by kernel_rfl) (by simp) ?_
                    refine AllReady.cons rfl (fun K hK => ?_) AllReady.nil
                    rw [if_pos (by rfl)]
                    refine oper_append_seg _ _ rfl w2.heap.size l.length (.slice (some ⟨g, 0, none⟩) l.length c) (segCells l) rfl (HOWN.out Wc _ HON.out) ⟨Wc.heap.size, 0, none⟩ [.string ⟨#[ch]⟩, .int .i64 v39, .int .i64 x] rfl rfl (fun j y hj => HNW.out Wc v39 x j y hj) (by simp [Value.oneCell']) (by omega) (by have := HLW.out; have := HON.out.size; simp; omega) ?_
                    intro v7 W7 hown7 hgrow7
                    refine hK _ _ ?_
                    clear hK K
                    obtain ⟨f1, f2, f3, f4, f5⟩ := HFIN.out Wc W7 v7 v39 x HON.out HRD.out HX.out hown7 hgrow7
                    have G1 := Lib.hid f1
                    have G2 := Lib.hid f2
                    have G3 := Lib.hid f3
                    have G4 := Lib.hid f4
                    have G5 := Lib.hid f5
                    clear f1 f2 f3 f4 f5 hown7 hgrow7 HON HRD HX HOWN HFIN
                    refine wpAny_ready (rs := [22]) (by kernel_rfl) (by simp) ?_
                    refine AllReady.cons rfl (fun K hK => ?_) AllReady.nil
                    go_simp
                    refine hK _ _ ?_
                    clear hK K
                    refine wpAny_done (by kernel_rfl) ?_ _
                    go_wp2
                    go_roundw
                    case rel => exact ⟨k + 1, _, by go_num, by omega, by omega, by rw [List.length_append, HL.out]; rfl, G3, G4, G5, G1, G2⟩
                    case measure => simp [intOf]; omega
                  · have hcx := HPC.out Wc HON.out j (xs[j]'hjl) (List.getElem?_eq_getElem hjl)
                    have HX : Hid (0 ≤ xs[j]'hjl ∧ xs[j]'hjl ≤ (k : Int) - 1) := HXS.out _ (List.getElem_mem hjl)
                    generalize xs[j]'hjl = x at *
                    go_simp
                    refine hK _ _ ?_
                    clear hK K hcx
                    refine wpAny_ready (rs := [5]) (by kernel_rfl) (by simp) ?_
                    refine AllReady.cons rfl (fun K hK => ?_) AllReady.nil
                    have hcv : (convert 22 9 (.slice (some ⟨bb, 0, none⟩) 1 1)).run Tryd.prog Wc = .ok (.string ⟨#[ch]⟩) Wc :=
                      run_convert_bytes_back (P := Tryd.prog) _ 22 9 5 ⟨bb, 0, none⟩ 1 [ch] Tryd.underlying22 Tryd.underlying5 Tryd.underlying9 (fun j hj => by
                        have : j = 0 := by simp at hj; omega
                        subst this
                        have h := HBY.out.2.2
                        rw [← HCH.out] at h
                        exact h)
                    go_simp
                    refine hK _ _ ?_
                    clear hK K hcv HBY
                    refine wpAny_take (i := 19) (v := ?_) rfl (by kernel_rfl) (by kernel_rfl) (by kernel_rfl) (fun _ _ _ h => h) (Or.inl ⟨by rfl, by (intro w; go_simp; try with_reducible rfl)⟩) ?_
                    refine wpAny_ready (rs := [20]) (by kernel_rfl) (by simp) ?_
                    refine AllReady.cons rfl (fun K hK => ?_) AllReady.nil
                    go_simp
                    refine hK _ _ ?_
                    clear hK K
                    refine wpAny_ready (rs := [21]) (by kernel_rfl) (by simp) ?_
                    refine AllReady.cons rfl (fun K hK => ?_) AllReady.nil
                    rw [if_pos (by rfl)]
                    refine oper_append_seg _ _ rfl w2.heap.size l.length (.slice (some ⟨g, 0, none⟩) l.length c) (segCells l) rfl (HOWN.out Wc _ HON.out) ⟨Wc.heap.size, 0, none⟩ [.string ⟨#[ch]⟩, .int .i64 v39, .int .i64 x] rfl rfl (fun j y hj => HNW.out Wc v39 x j y hj) (by simp [Value.oneCell']) (by omega) (by have := HLW.out; have := HON.out.size; simp; omega) ?_
                    intro v7 W7 hown7 hgrow7
                    refine hK _ _ ?_
                    clear hK K
                    obtain ⟨f1, f2, f3, f4, f5⟩ := HFIN.out Wc W7 v7 v39 x HON.out HRD.out HX.out hown7 hgrow7
                    have G1 := Lib.hid f1
                    have G2 := Lib.hid f2
                    have G3 := Lib.hid f3
                    have G4 := Lib.hid f4
                    have G5 := Lib.hid f5
                    clear f1 f2 f3 f4 f5 hown7 hgrow7 HON HRD HX HOWN HFIN
                    refine wpAny_ready (rs := [22]) (by kernel_rfl) (by simp) ?_
                    refine AllReady.cons rfl (fun K hK => ?_) AllReady.nil
                    go_simp
                    refine hK _ _ ?_
                    clear hK K
                    refine wpAny_done (by kernel_rfl) ?_ _
                    go_wp2
                    go_roundw
                    case rel => exact ⟨k + 1, _, by go_num, by omega, by omega, by rw [List.length_append, HL.out]; rfl, G3, G4, G5, G1, G2⟩
                    case measure => simp [intOf]; omega
              · go_simp
                refine (draw_any b (P + 4 * k + 3) xs.length Wc HRD.out (by omega) (by omega) (by omega)).mono ?_
                rintro e Wn ⟨v44, rfl, hv16, ho, hr⟩
                refine hK _ _ ?_
                clear hK K
                have HON' := Lib.hid (HON.out.trans ho)
                have HRD' := Lib.hid (hr)
                clear HON HRD
                have HON := HON'
                clear HON'
                have HRD := HRD'
                clear HRD'
                clear ho hr hbc
                clear Wc
                rename World => Wc
                have hbc := HRD.out.lt
                obtain ⟨j, rfl⟩ := Int.eq_ofNat_of_zero_le hv16.1
                have hjl : j < xs.length := by have := hv16.2 (by omega); omega
                clear hv16
                refine wpAny_take (i := 17) (v := ?_) rfl (by kernel_rfl) (by kernel_rfl) (by kernel_rfl) (fun _ _ _ h => h) (Or.inl ⟨by rfl, by (intro w; go_simp; try with_reducible rfl)⟩) ?_
                refine wpAny_ready (rs := [4, 18]) (by kernel_rfl) (by simp) ?_
                refine AllReady.cons rfl (fun K hK => ?_) (AllReady.cons rfl (fun K hK => ?_) AllReady.nil)
                · go_simp
                  refine hK _ _ ?_
                  clear hK K
                  have HBY : Hid (Wc.heap.size ≠ b ∧ Wc.heap.size < (Wc.alloc (.cells #[.int .u8 (65 + (k : Int))] 5)).heap.size ∧ (Wc.alloc (.cells #[.int .u8 (65 + (k : Int))] 5)).cell? ⟨Wc.heap.size, 0, none⟩ = some (.int .u8 (65 + (k : Int)))) := ⟨by omega, by simp, (Row.new Wc _ _).cell 0⟩
                  have HON' := Lib.hid (only_alloc HON.out (.cells #[.int .u8 (65 + (k : Int))] 5))
                  have HRD' := Lib.hid (HRD.out.alloc (.cells #[.int .u8 (65 + (k : Int))] 5))
                  clear HON HRD
                  have HON := HON'
                  clear HON'
                  have HRD := HRD'
                  clear HRD'
                  generalize hWn : Wc.alloc (.cells #[.int .u8 (65 + (k : Int))] 5) = Wn at *
                  clear hWn
                  generalize hbb : Wc.heap.size = bb at *
                  clear hbb hbc
                  clear Wc
                  rename World => Wc
                  have hbc := HRD.out.lt
                  refine wpAny_ready (rs := [5, 18]) (by kernel_rfl) (by simp) ?_
                  refine AllReady.cons rfl (fun K hK => ?_) (AllReady.cons rfl (fun K hK => ?_) AllReady.nil)
                  · have hcv : (convert 22 9 (.slice (some ⟨bb, 0, none⟩) 1 1)).run Tryd.prog Wc = .ok (.string ⟨#[ch]⟩) Wc :=
                      run_convert_bytes_back (P := Tryd.prog) _ 22 9 5 ⟨bb, 0, none⟩ 1 [ch] Tryd.underlying22 Tryd.underlying5 Tryd.underlying9 (fun j hj => by
                        have : j = 0 := by simp at hj; omega
                        subst this
                        have h := HBY.out.2.2
                        rw [← HCH.out] at h
                        exact h)
                    go_simp
                    refine hK _ _ ?_
                    clear hK K hcv HBY
                    refine wpAny_ready (rs := [18]) (by kernel_rfl) (by simp) ?_
                    refine AllReady.cons rfl (fun K hK => ?_) AllReady.nil
                    have hcx := HPC.out Wc HON.out j (xs[j]'hjl) (List.getElem?_eq_getElem hjl)
                    have HX : Hid (0 ≤ xs[j]'hjl ∧ xs[j]'hjl ≤ (k : Int) - 1) := HXS.out _ (List.getElem_mem hjl)
                    generalize xs[j]'hjl = x at *
                    go_simp
                    refine hK _ _ ?_
                    clear hK K hcx
                    refine wpAny_take (i := 19) (v := ?_) rfl (by kernel_rfl) (by kernel_rfl) (by kernel_rfl) (fun _ _ _ h => h) (Or.inl ⟨by rfl, by (intro w; go_simp; try with_reducible rfl)⟩) ?_
                    refine wpAny_ready (rs := [20]) (by kernel_rfl) (by simp) ?_
                    refine AllReady.cons rfl (fun K hK => ?_) AllReady.nil
                    go_simp
                    refine hK _ _ ?_
                    clear hK K
                    refine wpAny_ready (rs := [21]) (by kernel_rfl) (by simp) ?_
                    refine AllReady.cons rfl (fun K hK => ?_) AllReady.nil
                    rw [if_pos (by rfl)]
                    refine oper_append_seg _ _ rfl w2.heap.size l.length (.slice (some ⟨g, 0, none⟩) l.length c) (segCells l) rfl (HOWN.out Wc _ HON.out) ⟨Wc.heap.size, 0, none⟩ [.string ⟨#[ch]⟩, .int .i64 v39, .int .i64 x] rfl rfl (fun j y hj => HNW.out Wc v39 x j y hj) (by simp [Value.oneCell']) (by omega) (by have := HLW.out; have := HON.out.size; simp; omega) ?_
                    intro v7 W7 hown7 hgrow7
                    refine hK _ _ ?_
                    clear hK K
                    obtain ⟨f1, f2, f3, f4, f5⟩ := HFIN.out Wc W7 v7 v39 x HON.out HRD.out HX.out hown7 hgrow7
                    have G1 := Lib.hid f1
                    have G2 := Lib.hid f2
                    have G3 := Lib.hid f3
                    have G4 := Lib.hid f4
                    have G5 := Lib.hid f5
                    clear f1 f2 f3 f4 f5 hown7 hgrow7 HON HRD HX HOWN HFIN
                    refine wpAny_ready (rs := [22]) (by kernel_rfl) (by simp) ?_
                    refine AllReady.cons rfl (fun K hK => ?_) AllReady.nil
                    go_simp
                    refine hK _ _ ?_
                    clear hK K
                    refine wpAny_done (by kernel_rfl) ?_ _
                    go_wp2
                    go_roundw
                    case rel => exact ⟨k + 1, _, by go_num, by omega, by omega, by rw [List.length_append, HL.out]; rfl, G3, G4, G5, G1, G2⟩
                    case measure => simp [intOf]; omega
                  · have hcx := HPC.out Wc HON.out j (xs[j]'hjl) (List.getElem?_eq_getElem hjl)
                    have HX : Hid (0 ≤ xs[j]'hjl ∧ xs[j]'hjl ≤ (k : Int) - 1) := HXS.out _ (List.getElem_mem hjl)
                    generalize xs[j]'hjl = x at *
                    go_simp
                    refine hK _ _ ?_
                    clear hK K hcx
                    refine wpAny_ready (rs := [5]) (by kernel_rfl) (by simp) ?_
                    refine AllReady.cons rfl (fun K hK => ?_) AllReady.nil
                    have hcv : (convert 22 9 (.slice (some ⟨bb, 0, none⟩) 1 1)).run Tryd.prog Wc = .ok (.string ⟨#[ch]⟩) Wc :=
                      run_convert_bytes_back (P := Tryd.prog) _ 22 9 5 ⟨bb, 0, none⟩ 1 [ch] Tryd.underlying22 Tryd.underlying5 Tryd.underlying9 (fun j hj => by
                        have : j = 0 := by simp at hj; omega
                        subst this
                        have h := HBY.out.2.2
                        rw [← HCH.out] at h
                        exact h)
                    go_simp
                    refine hK _ _ ?_
                    clear hK K hcv HBY
                    refine wpAny_take (i := 19) (v := ?_) rfl (by kernel_rfl) (by kernel_rfl) (by kernel_rfl) (fun _ _ _ h => h) (Or.inl ⟨by rfl, by (intro w; go_simp; try with_reducible rfl)⟩) ?_
                    refine wpAny_ready (rs := [20]) (by kernel_rfl) (by simp) ?_
                    refine AllReady.cons rfl (fun K hK => ?_) AllReady.nil
                    go_simp
                    refine hK _ _ ?_
                    clear hK K
                    refine wpAny_ready (rs := [21]) (by kernel_rfl) (by simp) ?_
                    refine AllReady.cons rfl (fun K hK => ?_) AllReady.nil
                    rw [if_pos (by rfl)]
                    refine oper_append_seg _ _ rfl w2.heap.size l.length (.slice (some ⟨g, 0, none⟩) l.length c) (segCells l) rfl (HOWN.out Wc _ HON.out) ⟨Wc.heap.size, 0, none⟩ [.string ⟨#[ch]⟩, .int .i64 v39, .int .i64 x] rfl rfl (fun j y hj => HNW.out Wc v39 x j y hj) (by simp [Value.oneCell']) (by omega) (by have := HLW.out; have := HON.out.size; simp; omega) ?_
                    intro v7 W7 hown7 hgrow7
                    refine hK _ _ ?_
                    clear hK K
                    obtain ⟨f1, f2, f3, f4, f5⟩ := HFIN.out Wc W7 v7 v39 x HON.out HRD.out HX.out hown7 hgrow7
                    have G1 := Lib.hid f1
                    have G2 := Lib.hid f2
                    have G3 := Lib.hid f3
                    have G4 := Lib.hid f4
                    have G5 := Lib.hid f5
                    clear f1 f2 f3 f4 f5 hown7 hgrow7 HON HRD HX HOWN HFIN
                    refine wpAny_ready (rs := [22]) (by kernel_rfl) (by simp) ?_
                    refine AllReady.cons rfl (fun K hK => ?_) AllReady.nil
                    go_simp
                    refine hK _ _ ?_
                    clear hK K
                    refine wpAny_done (by kernel_rfl) ?_ _
                    go_wp2
                    go_roundw
                    case rel => exact ⟨k + 1, _, by go_num, by omega, by omega, by rw [List.length_append, HL.out]; rfl, G3, G4, G5, G1, G2⟩
                    case measure => simp [intOf]; omega
                · have hcx := HPC.out Wc HON.out j (xs[j]'hjl) (List.getElem?_eq_getElem hjl)
                  have HX : Hid (0 ≤ xs[j]'hjl ∧ xs[j]'hjl ≤ (k : Int) - 1) := HXS.out _ (List.getElem_mem hjl)
                  generalize xs[j]'hjl = x at *
                  go_simp
                  refine hK _ _ ?_
                  clear hK K hcx
                  refine wpAny_ready (rs := [4]) (by kernel_rfl) (by simp) ?_
                  refine AllReady.cons rfl (fun K hK => ?_) AllReady.nil
                  go_simp
                  refine hK _ _ ?_
                  clear hK K
                  have HBY : Hid (Wc.heap.size ≠ b ∧ Wc.heap.size < (Wc.alloc (.cells #[.int .u8 (65 + (k : Int))] 5)).heap.size ∧ (Wc.alloc (.cells #[.int .u8 (65 + (k : Int))] 5)).cell? ⟨Wc.heap.size, 0, none⟩ = some (.int .u8 (65 + (k : Int)))) := ⟨by omega, by simp, (Row.new Wc _ _).cell 0⟩
                  have HON' := Lib.hid (only_alloc HON.out (.cells #[.int .u8 (65 + (k : Int))] 5))
                  have HRD' := Lib.hid (HRD.out.alloc (.cells #[.int .u8 (65 + (k : Int))] 5))
                  clear HON HRD
                  have HON := HON'
                  clear HON'
                  have HRD := HRD'
                  clear HRD'
                  generalize hWn : Wc.alloc (.cells #[.int .u8 (65 + (k : Int))] 5) = Wn at *
                  clear hWn
                  generalize hbb : Wc.heap.size = bb at *
                  clear hbb hbc
                  clear Wc
                  rename World => Wc
                  have hbc := HRD.out.lt
                  refine wpAny_ready (rs := [5]) (by kernel_rfl) (by simp) ?_
                  refine AllReady.cons rfl (fun K hK => ?_) AllReady.nil
                  have hcv : (convert 22 9 (.slice (some ⟨bb, 0, none⟩) 1 1)).run Tryd.prog Wc = .ok (.string ⟨#[ch]⟩) Wc :=
                    run_convert_bytes_back (P := Tryd.prog) _ 22 9 5 ⟨bb, 0, none⟩ 1 [ch] Tryd.underlying22 Tryd.underlying5 Tryd.underlying9 (fun j hj => by
                      have : j = 0 := by simp at hj; omega
                      subst this
                      have h := HBY.out.2.2
                      rw [← HCH.out] at h
                      exact h)
                  go_simp
                  refine hK _ _ ?_
                  clear hK K hcv HBY
                  refine wpAny_take (i := 19) (v := ?_) rfl (by kernel_rfl) (by kernel_rfl) (by kernel_rfl) (fun _ _ _ h => h) (Or.inl ⟨by rfl, by (intro w; go_simp; try with_reducible rfl)⟩) ?_
                  refine wpAny_ready (rs := [20]) (by kernel_rfl) (by simp) ?_
                  refine AllReady.cons rfl (fun K hK => ?_) AllReady.nil
                  go_simp
                  refine hK _ _ ?_
                  clear hK K
                  refine wpAny_ready (rs := [21]) (by kernel_rfl) (by simp) ?_
                  refine AllReady.cons rfl (fun K hK => ?_) AllReady.nil
                  rw [if_pos (by rfl)]
                  refine oper_append_seg _ _ rfl w2.heap.size l.length (.slice (some ⟨g, 0, none⟩) l.length c) (segCells l) rfl (HOWN.out Wc _ HON.out) ⟨Wc.heap.size, 0, none⟩ [.string ⟨#[ch]⟩, .int .i64 v39, .int .i64 x] rfl rfl (fun j y hj => HNW.out Wc v39 x j y hj) (by simp [Value.oneCell']) (by omega) (by have := HLW.out; have := HON.out.size; simp; omega) ?_
                  intro v7 W7 hown7 hgrow7
                  refine hK _ _ ?_
                  clear hK K
                  obtain ⟨f1, f2, f3, f4, f5⟩ := HFIN.out Wc W7 v7 v39 x HON.out HRD.out HX.out hown7 hgrow7
                  have G1 := Lib.hid f1
                  have G2 := Lib.hid f2
                  have G3 := Lib.hid f3
                  have G4 := Lib.hid f4
                  have G5 := Lib.hid f5
                  clear f1 f2 f3 f4 f5 hown7 hgrow7 HON HRD HX HOWN HFIN
                  refine wpAny_ready (rs := [22]) (by kernel_rfl) (by simp) ?_
                  refine AllReady.cons rfl (fun K hK => ?_) AllReady.nil
                  go_simp
                  refine hK _ _ ?_
                  clear hK K
                  refine wpAny_done (by kernel_rfl) ?_ _
                  go_wp2
                  go_roundw
                  case rel => exact ⟨k + 1, _, by go_num, by omega, by omega, by rw [List.length_append, HL.out]; rfl, G3, G4, G5, G1, G2⟩
                  case measure => simp [intOf]; omega
      · go_wp2
        go_ret
        refine ⟨_, l, rfl, ⟨HT3.out.lower H2W.out, by have := HL.out; omega, by have := HL.out; omega, HS.out⟩, HO3.out, HR3.out.weak (by omega)⟩

end Go.Proofs.YtdbddockmdkmeaaDoor
