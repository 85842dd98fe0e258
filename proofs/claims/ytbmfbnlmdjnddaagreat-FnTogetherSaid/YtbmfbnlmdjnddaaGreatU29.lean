/- Joined: Jv Ib Ic Lh Ih Ij. -/
import Derived.Test.YtbmfbnlmdjnddaaGreatU28
import Derived.Test.YtbmfbnlmdjnddaaGreatU23
import Derived.Lib.MinMaxS
import Derived.Test.YtbmfbnlmdjnddaaGreatU02
import Derived.Test.YtbmfbnlmdjnddaaGreatU21
/- The program's TogetherIn. -/
namespace Go.Proofs.YtbmfbnlmdjnddaaGreat
open Go.RowKit Go.Shelf Go.Sort

theorem live_in {l : List Seg} {ps : List Txt} (h : IsGraph l ps) (u : UInt8) : [u] ∈ (reachL ps (rootB l) ++ [rootB l]).map (fun c => ([c] : Txt)) ↔ u ∈ liveTxt l ps := by
  rw [live_mem h]
  unfold liveL
  rw [List.mem_map, List.mem_cons]
  constructor
  · rintro ⟨v, hv, e⟩
    injection e with e
    subst e
    rcases List.mem_append.1 hv with hv | hv
    · exact .inr hv
    · exact .inl (List.mem_singleton.1 hv)
  · rintro (rfl | hu)
    · exact ⟨_, List.mem_append.2 (.inr (List.mem_singleton.2 rfl)), rfl⟩
    · exact ⟨_, List.mem_append.2 (.inl hu), rfl⟩
theorem tog_fin {l : List Seg} {ts : List ByteArray} (hg : graphB l ts = true) (T : List Txt)
    (hT : ∀ y, y ∈ T ↔ ∃ u : UInt8, [u] ∈ (reachL (psOf ts) (rootB l) ++ [rootB l]).map (fun c => ([c] : Txt)) ∧ y ∈ madeOf u (reachL (psOf ts) u)) : putAll [] T = togTxt l ts := by
  rw [togTxt_ok hg]
  refine asc_txt (putAll_sorted _ [] List.Pairwise.nil) (putAll_sorted _ [] List.Pairwise.nil) fun y => ?_
  rw [putAll_mem, putAll_mem, hT]
  unfold mades
  rw [List.mem_flatMap]
  simp only [live_in (graph_is hg)]
theorem sym2_same (u : UInt8) : sym2 u u = [] := sym2_eq (txt_irr _) (txt_irr _)
theorem one_of {ps : List Txt} {u : UInt8} {x : Txt} (h : x ∈ (reachL ps u).map fun c => ([c] : Txt)) : ∃ v, x = [v] ∧ v ∈ reachL ps u := by
  obtain ⟨v, hv, rfl⟩ := List.mem_map.1 h
  exact ⟨v, rfl, hv⟩
theorem SetAt.grown {X Y : World} {c r : Nat} {xs : List Txt} (h : SetAt X c xs) (hg : X.grownBy Y (some r)) (hr : c ≠ r) : SetAt Y c xs :=
  h.block (hg.block c h.lt (fun e => by injection e with e; exact hr e))
theorem SetAt.belowK {X Y : World} {c B : Nat} {xs : List Txt} (h : SetAt X c xs) (hb : Below B X Y) (hc : c < B) : SetAt Y c xs := h.block (hb.block c hc)

attribute [local irreducible] waysB in
set_option maxRecDepth 100000 in
set_option maxHeartbeats 4000000 in
theorem implTogether_any (A : Option Addr) (l : List Seg) (c : Nat) (A2 : Option Addr) (ts : List ByteArray) (c2 : Nat) (w : World) (hw : Segs w w.heap.size A l) (ht : St.Strs w w.heap.size A2 ts) (hl : l.length ≤ 1048576) (hlc : l.length ≤ c) (hcm : c ≤ 9223372036854775807) (hn : Short l) (htl : ts.length ≤ 1048576) (hts : ∀ s ∈ ts, s.size ≤ 1048576) :
    Calls Tryz.prog 19 #[.slice A l.length c, .slice A2 ts.length c2] w (TogPost w l ts) := by
  have HQ := Lib.hid (graphOf_any A l c A2 ts c2 w hw ht hl hlc hcm hn htl hts)
  unfold GraphPost at HQ
  have HW : Hid (Segs w w.heap.size A l) := hw
  clear hw ht hn hts
  unfold TogPost togRes
  go_enter Tryz.func19, Tryz.ntmps19
  go_wp2_with fail
  refine Calls.mono HQ.out ?_
  rintro e w1 ⟨hb1, (⟨hg, rfl⟩ | ⟨hg, b, rfl, hGA⟩)⟩
  · have HR := Lib.hid (togTxt_bad hg)
    have HGF := Lib.hid hg
    clear hg
    go_wp2
    go_ret2
    exact ⟨_, by rw [HGF.out]; rfl, by rw [HR.out]; exact World.ownsRow_nil _ _ _ 1, hb1⟩
  · have hG := graph_is hg
    have HB1 := Lib.hid hb1
    have HGA := Lib.hid hGA
    have HGF := Lib.hid hg
    have hv := hG.valid
    have h1l : 0 < l.length := (valid_all hv).2.2
    have HFIN := Lib.hid (fun T h => tog_fin hg T h)
    obtain ⟨u0, hu0⟩ : ∃ u, u = rootB l := ⟨_, rfl⟩
    rw [← hu0] at HFIN
    have HLF := Lib.hid (fun W h1 h2 => liveFrom_any w.heap.size w1.heap.size b l (psOf ts) u0 W hG h1 h2)
    have HRF := Lib.hid (fun u W h1 h2 => reachedFrom_any w.heap.size w1.heap.size b l (psOf ts) u W hG h1 h2)
    have HR20 : Hid (∀ u, (reachL (psOf ts) u).length ≤ 20) := fun u => reachL_le hG u
    have HMEM : Hid (∀ x, x ∈ (reachL (psOf ts) u0 ++ [u0]).map (fun c => ([c] : Txt)) → ∃ u, x = [u]) := fun x hx => by
      obtain ⟨u, hu, rfl⟩ := List.mem_map.1 hx
      exact ⟨u, rfl⟩
    have hln : ((reachL (psOf ts) u0 ++ [u0]).map (fun c => ([c] : Txt))).length ≤ 21 := by
      rw [List.length_map, List.length_append, List.length_singleton]
      have := reachL_le hG u0
      omega
    obtain ⟨b9, o, rfl, hB, hc⟩ := HW.out h1l
    obtain ⟨s0, hs0, hn1⟩ := root_name hv
    obtain ⟨d0, -, -⟩ := hc 0 s0 hs0
    clear hc
    rw [← hb1.cell hB, hn1, ← hu0, Nat.zero_mul, Nat.add_zero] at d0
    have hz01 := HB1.out.size
    clear hg hG hb1 hGA hv hn1 hu0 hs0 s0
    generalize (reachL (psOf ts) u0 ++ [u0]).map (fun c => ([c] : Txt)) = LV at *
    have hmk : (Instr.makeMap 99 none).run Tryz.prog w1 = .ok (.map (some w1.heap.size)) (w1.alloc (.map #[] 0)) := rfl
    have hT1 : SetAt (w1.alloc (.map #[] 0)) w1.heap.size [] := SetAt.made w1
    have hBa : Below w1.heap.size w1 (w1.alloc (.map #[] 0)) := (Below.refl _ w1).alloc (Nat.le_refl _) _
    have d1 : (w1.alloc (.map #[] 0)).cell? ⟨b9, o, none⟩ = some (.string ⟨#[u0]⟩) := (hBa.cell (p := ⟨b9, o, none⟩) (Nat.lt_of_lt_of_le hB hz01)).trans d0
    have hza : (w1.alloc (.map #[] 0)).heap.size = w1.heap.size + 1 := by simp
    have HGAa : Hid (GraphAt (w1.alloc (.map #[] 0)) w.heap.size w1.heap.size b (psOf ts)) := HGA.out.below hBa
    have HT1 := Lib.hid hT1
    have HBa := Lib.hid hBa
    clear hT1 hBa d0
    generalize hwa : w1.alloc (.map #[] 0) = wa at *
    go_wp2_with fail
    refine Calls.mono (HLF.out _ HGAa.out (by omega)) ?_
    rintro e w2 ⟨rfl, hs2, hb2⟩
    have HB12 : Hid (Below w1.heap.size w1 w2) := HBa.out.trans (hb2.mono (by omega))
    have hz12 := hb2.size
    have HT2 : Hid (SetAt w2 w1.heap.size []) := HT1.out.belowK hb2 (by omega)
    clear hb2 HT1 HBa
    obtain ⟨D, hP, hval⟩ := hs2
    obtain ⟨hown, hhas⟩ := hP
    have HHAS := Lib.hid hhas
    clear hhas hval hwa d1 HGAa
    have hcl := hown.lt
    generalize hcc : w1.heap.size = cc at *
    generalize hca : wa.heap.size = ca at *
    have hsz := hown.size_le
    have hlt1 : cc < ca := by omega
    clear hza
    go_wp2_with (first
      | (at_range; refine wpList_range_own _ rfl _ 99 rfl 9 4 (Maps.string_keyed Tryz.underlying9) Tryz.underlying99 _ ca _ _ rfl hown ?_; intro w0 hrg0 hg0 hs0)
      | go_in)
    have HB0 : Hid (Below cc w1 w0) := HB12.out.trans ((show Below cc w2 w0 from ⟨hg0.os, hg0.tape, hg0.output, hg0.size, fun k hk => hg0.block k (by omega) (by simp)⟩))
    have HT0 : Hid (SetAt w0 cc []) := HT2.out.block (hg0.block cc (by omega) (by simp))
    clear HT2
    go_frame
    go_loopw [9] (fun _ wr => ∃ (left : Lit → Bool) (cnt : Nat) (ss T : List Txt), wr.ranges Tryz.prog 9 (plainElem Tryz.prog 4) ca w2.heap.size LV.length D left cnt ∧ Hid (Collected D left ss) ∧ Hid (SetAt wr cc T) ∧ Hid (∀ y, y ∈ T ↔ ∃ u : UInt8, [u] ∈ ss ∧ y ∈ madeOf u (reachL (psOf ts) u)) ∧ T.length + 20 * cnt ≤ 420 ∧ Hid (Below cc w1 wr))
      (fun _ wr => wr.rangeLeft ca w2.heap.size)
    case atStart => exact ⟨_, _, [], [], hrg0, Collected.start D, HT0, fun y => by simp, by simp only [List.length_nil]; omega, HB0⟩
    case round =>
      clear hrg0 HT0 HB0
      obtain ⟨left, cnt, ss, T, hrg, HC, HT, HTM, hTl, HB⟩ := hrel
      go_wp2_with (first
        | (at_next; refine wpList_next_ranges _ rfl _ rfl 9 (Maps.string_keyed Tryz.underlying9) (plainElem Tryz.prog 4) encStr id (fun key kl hk => by obtain ⟨x, hx, _⟩ := Maps.keyOf_str Tryz.underlying9 hk; exact ⟨x, hx⟩) (fun v _ _ => ⟨v, rfl⟩) ca w2.heap.size LV.length _ _ _ rfl hrg ?_ ?_)
        | go_in)
      · intro hc0 hl0
        have HTE := Lib.hid (HFIN.out T (fun y => by
          rw [HTM.out]
          constructor
          · rintro ⟨u, h1, h2⟩
            exact ⟨u, (HHAS.out [u]).1 ((HC.out.2 [u]).1 h1).1, h2⟩
          · rintro ⟨u, h1, h2⟩
            exact ⟨u, (HC.out.2 [u]).2 ⟨(HHAS.out [u]).2 h1, hl0 _⟩, h2⟩))
        have HBW : Hid (Below w.heap.size w wr) := HB1.out.trans (HB.out.mono hz01)
        have HSO := Lib.hid (sorted_any 0 (cc + 1) (.map (some cc)) T wr (.inr ⟨cc, rfl, Nat.zero_le _, Nat.lt_succ_self _, HT.out⟩) (by omega))
        rw [HTE.out] at HSO
        go_wp2_with fail
        refine Calls.mono HSO.out ?_
        rintro e w9 ⟨v9, rfl, ho9, hb9⟩
        have HO9 : Hid (OwnTexts w9 w.heap.size v9 ((togTxt l ts).map strOf)) := own_low ho9 HBW.out.size
        have HB9 : Hid (Below w.heap.size w w9) := HBW.out.trans (hb9.mono HBW.out.size)
        clear ho9 hb9
        go_wp2
        go_ret2
        exact ⟨_, by rw [HGF.out]; rfl, HO9.out, HB9.out⟩
      · intro x cv kl yd yp w3 cnt2 hkey hlk hv hat hrg2 hlt hg2 hs2 hen
        obtain ⟨x', ex, rfl, _⟩ := Maps.keyOf_str Tryz.underlying9 hkey
        obtain rfl : x = x' := encStr_inj ex
        have hhx : x ∈ LV := (HHAS.out x).1 (Maps.has_true_of_atKey hat)
        obtain ⟨u, rfl⟩ := HMEM.out x hhx
        have eu : encStr [u] = Value.string ⟨#[u]⟩ := rfl
        simp only [eu] at hen ⊢
        clear eu
        have HC2 := Lib.hid (HC.out.step hlk hat)
        have HB3 : Hid (Below cc w1 w3) := below_grown HB.out hg2 (by omega) (by have := HB.out.size; omega)
        have HGA3 : Hid (GraphAt w3 w.heap.size cc b (psOf ts)) := HGA.out.below HB3.out
        have HT3 : Hid (SetAt w3 cc T) := HT.out.grown hg2 (by omega)
        have hz3 : cc ≤ w3.heap.size := by have := HB3.out.size; omega
        have hru := HR20.out u
        have hclt := hrg2.owns.lt
        have hrlt := hrg2.lt
        have hctl := HT3.out.lt
        have hleO := Lib.hid hrg.left_eq
        clear hs2 hkey hlk hv hat hhx hg2 hrg HT HC
        go_wp2_with fail
        refine Calls.mono (HRF.out u _ HGA3.out hz3) ?_
        rintro e w4 ⟨rfl, hs4, hb4⟩
        have hrg4 := hrg2.kept (grown_of_below hb4) (by simp) (by simp)
        have HB4 : Hid (Below cc w1 w4) := HB3.out.trans (hb4.mono (by omega))
        have HT4 : Hid (SetAt w4 cc T) := HT3.out.belowK hb4 hctl
        have hz34 := hb4.size
        clear hb4 HT3 HGA3 HB3 hrg2
        obtain ⟨D2, hP2, hval2⟩ := hs4
        obtain ⟨hown2, hhas2⟩ := hP2
        have HHAS2 := Lib.hid hhas2
        clear hhas2 hval2
        have hcl2 := hown2.lt
        have hsz2 := hown2.size_le
        have hr2 : ((reachL (psOf ts) u).map (fun c => ([c] : Txt))).length ≤ 20 := by rw [List.length_map]; exact hru
        have HONE := Lib.hid (fun x h => one_of (ps := psOf ts) (u := u) (x := x) h)
        have HALL2 : Hid (∀ v, v ∈ reachL (psOf ts) u → [v] ∈ (reachL (psOf ts) u).map (fun c => ([c] : Txt))) := fun v hv => List.mem_map.2 ⟨v, hv, rfl⟩
        generalize (reachL (psOf ts) u).map (fun c => ([c] : Txt)) = RV at *
        generalize hc3 : w3.heap.size = c3 at *
        have hc34 : c3 < w4.heap.size := hcl2
        generalize hbu : (⟨#[u]⟩ : ByteArray) = bu at *
        have HBU := Lib.hid hbu
        clear hbu
        go_wp2_with (first
          | (at_range; refine wpList_range_own _ rfl _ 99 rfl 9 4 (Maps.string_keyed Tryz.underlying9) Tryz.underlying99 _ c3 _ _ rfl hown2 ?_; intro w5 hrg5 hg5 hs5)
          | go_in)
        have HB5 : Hid (Below cc w1 w5) := HB4.out.trans ((show Go.RowKit.Below cc w4 w5 from ⟨hg5.os, hg5.tape, hg5.output, hg5.size, fun k hk => hg5.block k (by omega) (by simp)⟩))
        have HT5 : Hid (SetAt w5 cc T) := HT4.out.block (hg5.block cc (by omega) (by simp))
        have hrgo5 := hrg4.kept hg5 (by simp) (by simp)
        clear HT4 HB4 hrg4
        go_frame
        go_loopw [10] (fun _ wr => ∃ (left2 : Lit → Bool) (cntI : Nat) (ss2 T2 : List Txt), wr.ranges Tryz.prog 9 (plainElem Tryz.prog 4) c3 w4.heap.size RV.length D2 left2 cntI ∧ Hid (Collected D2 left2 ss2) ∧ (∃ lf, wr.ranges Tryz.prog 9 (plainElem Tryz.prog 4) ca w2.heap.size LV.length D lf cnt2 ∧ Hid (Collected D lf (ss ++ [[u]]))) ∧ Hid (SetAt wr cc T2) ∧ Hid (∀ y, y ∈ T2 ↔ y ∈ T ∨ ∃ v : UInt8, [v] ∈ ss2 ∧ y ∈ sym2 u v) ∧ T2.length + cntI ≤ T.length + 20 ∧ Hid (Below cc w1 wr))
          (fun _ wr => wr.rangeLeft c3 w4.heap.size)
        case atStart => exact ⟨_, _, [], T, hrg5, Collected.start D2, ⟨_, hrgo5, HC2⟩, HT5, fun y => by simp, by omega, HB5⟩
        case round =>
          clear hrg5 hrgo5 HT5 HB5 HC2
          obtain ⟨left2, cntI, ss2, T2, hrgI, HCI, ⟨lf, hrgO, HCO⟩, HTI, HTIM, hTIl, HBI⟩ := hrel
          go_wp2_with (first
            | (at_next; refine wpList_next_ranges _ rfl _ rfl 9 (Maps.string_keyed Tryz.underlying9) (plainElem Tryz.prog 4) encStr id (fun key kl hk => by obtain ⟨x, hx, _⟩ := Maps.keyOf_str Tryz.underlying9 hk; exact ⟨x, hx⟩) (fun v _ _ => ⟨v, rfl⟩) c3 w4.heap.size RV.length _ _ _ rfl hrgI ?_ ?_)
            | go_in)
          · intro hc0 hl0
            have HTM2 : Hid (∀ y, y ∈ T2 ↔ ∃ u' : UInt8, [u'] ∈ ss ++ [[u]] ∧ y ∈ madeOf u' (reachL (psOf ts) u')) := fun y => by
              rw [HTIM.out, HTM.out]
              unfold madeOf
              constructor
              · rintro (⟨u', h1, h2⟩ | ⟨v, h1, h2⟩)
                · exact ⟨u', List.mem_append.2 (.inl h1), h2⟩
                · obtain ⟨v', e, hv'⟩ := HONE.out [v] ((HHAS2.out [v]).1 ((HCI.out.2 [v]).1 h1).1)
                  injection e with e
                  subst e
                  exact ⟨u, List.mem_append.2 (.inr (List.mem_singleton.2 rfl)), List.mem_flatMap.2 ⟨v, hv', h2⟩⟩
              · rintro ⟨u', h1, h2⟩
                rcases List.mem_append.1 h1 with h1 | h1
                · exact .inl ⟨u', h1, h2⟩
                · have e := List.mem_singleton.1 h1
                  injection e with e
                  subst e
                  obtain ⟨v, hv, h3⟩ := List.mem_flatMap.1 h2
                  exact .inr ⟨v, (HCI.out.2 [v]).2 ⟨(HHAS2.out [v]).2 (HALL2.out v hv), hl0 _⟩, h3⟩
            go_wp2
            go_roundw
            case rel => exact ⟨lf, cnt2, ss ++ [[u]], T2, hrgO, HCO, HTI, HTM2, by omega, HBI⟩
            case measure => rw [hrgO.left_eq, hleO.out]; exact hlt
          · intro x cv kl yd yp w6 cnt6 hkey hlk hv hat hrg6 hlt6 hg6 hs6 hen
            obtain ⟨x', ex, rfl, _⟩ := Maps.keyOf_str Tryz.underlying9 hkey
            obtain rfl : x = x' := encStr_inj ex
            have hhx : x ∈ RV := (HHAS2.out x).1 (Maps.has_true_of_atKey hat)
            obtain ⟨v, rfl, -⟩ := HONE.out x hhx
            have ev : encStr [v] = Value.string ⟨#[v]⟩ := rfl
            simp only [ev] at hen ⊢
            clear ev
            have HC6 := Lib.hid (HCI.out.step hlk hat)
            have HB6 : Hid (Below cc w1 w6) := below_grown HBI.out hg6 (by omega) (by have := HBI.out.size; omega)
            have hrgO6 := hrgO.kept hg6 (by intro e; injection e with e; omega) (by intro e; injection e with e; omega)
            have HT6 : Hid (SetAt w6 cc T2) := HTI.out.grown hg6 (by omega)
            have hleI := Lib.hid hrgI.left_eq
            have HMB : Hid (∀ (q : List Txt) (zs : List Txt), (∀ y, y ∈ q ↔ y ∈ T2 ∨ y ∈ zs) → zs = sym2 u v → ∀ y, y ∈ q ↔ y ∈ T ∨ ∃ v' : UInt8, [v'] ∈ ss2 ++ [[v]] ∧ y ∈ sym2 u v') := fun q zs hq hzs y => by
              rw [hq, hzs, HTIM.out]
              constructor
              · rintro ((h | ⟨v', h1, h2⟩) | h)
                · exact .inl h
                · exact .inr ⟨v', List.mem_append.2 (.inl h1), h2⟩
                · exact .inr ⟨v, List.mem_append.2 (.inr (List.mem_singleton.2 rfl)), h⟩
              · rintro (h | ⟨v', h1, h2⟩)
                · exact .inl (.inl h)
                · rcases List.mem_append.1 h1 with h1 | h1
                  · exact .inl (.inr ⟨v', h1, h2⟩)
                  · have e := List.mem_singleton.1 h1
                    injection e with e
                    subst e
                    exact .inr h2
            have hse : (bu.toList == (⟨#[v]⟩ : ByteArray).toList) = decide (([u] : Txt) = [v]) := by rw [← HBU.out]; exact txt_same [u] [v]
            have hcc6 := hrgO6.owns.lt
            clear hs6 hkey hlk hv hat hhx hg6 hrgI hrgO HTI HCI HBI
            by_cases hq : ([u] : Txt) = [v]
            · have HTM6 := Lib.hid (HMB.out T2 [] (fun y => by simp) (by injection hq with hq; subst hq; exact (sym2_same _).symm))
              rw [decide_eq_true hq] at hse
              clear hq
              generalize hbv : (⟨#[v]⟩ : ByteArray) = bv at *
              clear hbv
              go_wp2
              go_roundw
              case rel => exact ⟨_, cnt6, ss2 ++ [[v]], T2, hrg6, HC6, ⟨_, hrgO6, HCO⟩, HT6, HTM6, by omega, HB6⟩
              case measure => rw [hrg6.left_eq, hleI.out]; exact hlt6
            · have HSYM : ∃ p q : UInt8, sym2 u v = [[p, q]] ∧ Lib.minS bu ⟨#[v]⟩ ++ Lib.maxS bu ⟨#[v]⟩ = strOf [p, q] := by
                rw [← HBU.out]
                rcases txt_tri [u] [v] with h | h | h
                · refine ⟨u, v, sym2_lt h, ?_⟩
                  unfold Lib.minS Lib.maxS
                  rw [if_pos (.inl h), if_pos h]
                  rfl
                · exact absurd h hq
                · have hn : ¬ ([u] : Txt) < [v] := fun h' => txt_irr _ (List.lt_trans h' h)
                  refine ⟨v, u, sym2_gt hn h, ?_⟩
                  unfold Lib.minS Lib.maxS
                  rw [if_neg (fun h' => h'.elim hn hq), if_neg hn]
                  rfl
              obtain ⟨p, q, hsy, hcat⟩ := HSYM
              have hmn := fun (W : World) (tys : Array TypeId) (ty : TypeId) => Lib.run_min_strs (P := Tryz.prog) W tys ty bu ⟨#[v]⟩
              have hmx := fun (W : World) (tys : Array TypeId) (ty : TypeId) => Lib.run_max_strs (P := Tryz.prog) W tys ty bu ⟨#[v]⟩
              have hms : (Lib.minS bu ⟨#[v]⟩).size = 1 := by rw [← HBU.out]; unfold Lib.minS; split <;> rfl
              have hxs : (Lib.maxS bu ⟨#[v]⟩).size = 1 := by rw [← HBU.out]; unfold Lib.maxS; split <;> rfl
              rw [decide_eq_false hq] at hse
              have HTS := HT6.out.step (by omega) [p, q] (by rw [str_size]; exact (by decide : 2 ≤ 1000))
              rw [← hcat] at HTS
              obtain ⟨w7, hrun, hs7, hg7⟩ := HTS
              have HTM7 := Lib.hid (HMB.out (T2 ++ [[p, q]]) [[p, q]] (fun y => List.mem_append) hsy.symm)
              have HT7 := Lib.hid hs7
              have hrgO7 := hrgO6.kept hg7 (by intro e; injection e with e; omega) (by intro e; injection e with e; omega)
              have hrg7 := hrg6.kept hg7 (by intro e; injection e with e; omega) (by intro e; injection e with e; omega)
              have HB7 : Hid (Below cc w1 w7) := below_grown HB6.out hg7 (Nat.le_refl _) (by omega)
              clear hq hsy hcat hs7 hg7 HT6 HB6 HMB
              generalize hbv : (⟨#[v]⟩ : ByteArray) = bv at *
              clear hbv
              generalize Lib.minS bu bv = mn at *
              generalize Lib.maxS bu bv = mx at *
              go_wp2
              go_roundw
              case rel => exact ⟨_, cnt6, ss2 ++ [[v]], T2 ++ [[p, q]], hrg7, HC6, ⟨_, hrgO7, HCO⟩, HT7, HTM7, by rw [List.length_append, List.length_singleton]; omega, HB7⟩
              case measure => rw [hrg7.left_eq, hleI.out]; exact hlt6

end Go.Proofs.YtbmfbnlmdjnddaaGreat
/- The program's ClashesOf. -/
namespace Go.Proofs.YtbmfbnlmdjnddaaGreat
open Go.RowKit Go.Shelf

theorem arr7 {xs : List Txt} {W : World} {B g cap n : Nat} (h : OwnTexts W B (.slice (some ⟨g, 0, none⟩) n cap) (xs.map strOf)) (hn : n = xs.length) : OwnD W B g cap xs.toArray := by
  unfold OwnD
  subst hn
  rw [List.length_map]
  exact h

set_option maxRecDepth 100000 in
set_option maxHeartbeats 1000000 in
theorem struck7_any (A : Option Addr) (l : List Seg) (c B bx : Nat) (x : Txt) (W : World) (h : BoxHeld W B bx A l c) (hl : l.length ≤ 1048576) (hlc : l.length ≤ c) (hcm : c ≤ 9223372036854775807) (hn : Short l) (hx : x.length = 2) :
    Calls Tryz.prog 81 #[.string (strOf x), .pointer (some ⟨bx, 0, none⟩)] W fun e w' => e = .returned (.bool (lie7 l x)) ∧ Below W.heap.size W w' := by
  have c0 : W.cell? ⟨bx, 0, none⟩ = some (.slice A l.length c) := h.box.cell 0
  have HL : Hid (Calls Tryz.prog 17 #[.slice A l.length c, .string ((strOf x).extract 0 1), .string ((strOf x).extract 1 2)] W.drew fun e w' => e = .returned (.bool (lie7 l x)) ∧ Below W.drew.heap.size W.drew w') := lieTogether_any A l c _ _ W.drew ((h.segs.below (Below.refl B W).drew).more h.low) hl hlc hcm hn
  have hz : (strOf x).size = 2 := by rw [str_size]; exact hx
  clear h hn
  generalize lie7 l x = ans at *
  generalize strOf x = z at *
  go_enter Tryz.func81, Tryz.ntmps81
  go_wp2_with fail
  go_region_with (go_at_call 17; refine Calls.mono HL.out ?_; rintro e w1 ⟨rfl, hb⟩)
  go_wp2
  go_ret
  exact ⟨rfl, (Below.refl _ _).drew.trans hb⟩

set_option maxRecDepth 100000 in
set_option maxHeartbeats 1000000 in
theorem indexStruck7_any (A : Option Addr) (l : List Seg) (c B bx g cap : Nat) (d : Array Txt) (W : World) (h : BoxHeld W B bx A l c) (hD : OwnD W B g cap d) (hx : ∀ j, j < d.size → d[j]!.length = 2) (hd : d.size ≤ 160) (hl : l.length ≤ 1048576) (hlc : l.length ≤ c) (hcm : c ≤ 9223372036854775807) (hn : Short l) :
    Calls Tryz.prog 151 #[.slice (some ⟨g, 0, none⟩) d.size cap, .func (.func 81) #[] #[.pointer (some ⟨bx, 0, none⟩)]] W fun e w' => (∃ r : Int, e = .returned (.int .i64 r) ∧ FirstAt (fun x => lie7 l x) d r) ∧ Below W.heap.size W w' := by
  have HH : Hid (∀ W' x, Below W.heap.size W W' → x.length = 2 → Calls Tryz.prog 81 #[.string (strOf x), .pointer (some ⟨bx, 0, none⟩)] W' fun e w' => e = .returned (.bool (lie7 l x)) ∧ Below W'.heap.size W' w') := fun W' x hb hx =>
    struck7_any A l c B bx x W' ⟨h.box.below hb h.box.lt, h.segs.below (hb.mono h.low), Nat.le_trans h.low hb.size⟩ hl hlc hcm hn hx
  have HD := Lib.hid hD
  have HX := Lib.hid hx
  have heg : ∀ args w, (callFunc 81 args).run Tryz.prog w = .ok (.enter 81 args) w := enters_of Tryz.func81 (by kernel_rfl) rfl
  clear h hD hx hn
  go_enter Tryz.func151, Tryz.ntmps151
  go_wp2
  go_loopw [8] (fun i wr => ∃ k : Nat, k ≤ d.size ∧ i = .int .i64 k ∧ Hid (∀ j, j < k → lie7 l d[j]! = false) ∧ Hid (Below W.heap.size W wr))
    (fun i _ => d.size - (intOf i).toNat)
  case atStart => exact ⟨0, Nat.zero_le _, rfl, fun j hj => absurd hj (Nat.not_lt_zero _), Below.refl _ _⟩
  case round =>
    obtain ⟨k, hk, rfl, HK, HB⟩ := hrel
    have hk0 : (0 : Int) ≤ (k : Int) := Int.natCast_nonneg _
    by_cases hlt : k < d.size
    · have hlt' : (k : Int) < (d.size : Int) := by omega
      have c0 := (HD.out.below HB.out).cell hlt
      have HC := Lib.hid (HH.out wr d[k]! HB.out (HX.out k hlt))
      obtain ⟨x, hxe⟩ : ∃ x, x = d[k]! := ⟨_, rfl⟩
      have HXE := Lib.hid hxe
      rw [← hxe] at c0 HC
      clear hxe
      cases hq : lie7 l x with
      | false =>
        rw [hq] at HC
        have HK1 : Hid (∀ j, j < k + 1 → lie7 l d[j]! = false) := by
          show ∀ j, _
          intro j hj
          by_cases hjk : j = k
          · subst hjk; rw [← HXE.out]; exact hq
          · exact HK.out j (by omega)
        clear hq HXE
        generalize strOf x = z at *
        go_wp2_with (go_at_fn 81; refine Calls.mono HC.out ?_; rintro e w1 ⟨rfl, hb1⟩)
        have HB1 : Hid (Below W.heap.size W w1) := HB.out.trans (hb1.mono HB.out.size)
        clear hb1
        go_roundw
        case rel => exact ⟨k + 1, by omega, by go_num, HK1, HB1⟩
        case measure => simp [intOf]; omega
      | true =>
        rw [hq] at HC
        have HF : Hid (FirstAt (fun x => lie7 l x) d (k : Int)) := .inr ⟨k, hlt, rfl, by rw [← HXE.out]; exact hq, HK.out⟩
        clear hq HXE HK
        generalize strOf x = z at *
        go_wp2_with (go_at_fn 81; refine Calls.mono HC.out ?_; rintro e w1 ⟨rfl, hb1⟩)
        have HB1 : Hid (Below W.heap.size W w1) := HB.out.trans (hb1.mono HB.out.size)
        clear hb1
        go_ret
        exact ⟨⟨_, rfl, HF.out⟩, HB1.out⟩
    · obtain rfl : k = d.size := by omega
      have HF : Hid (FirstAt (fun x => lie7 l x) d (-1)) := .inl ⟨rfl, HK.out⟩
      clear HK
      go_wp2
      go_ret
      exact ⟨⟨_, rfl, HF.out⟩, HB.out⟩

set_option maxRecDepth 100000 in
set_option maxHeartbeats 2000000 in
theorem deleteStruck7_any (A : Option Addr) (l : List Seg) (c B bx g cap : Nat) (d : Array Txt) (W : World) (h : BoxHeld W B bx A l c) (hne : bx ≠ g) (hD : OwnD W B g cap d) (hx : ∀ j, j < d.size → d[j]!.length = 2) (hd : d.size ≤ 160) (hl : l.length ≤ 1048576) (hlc : l.length ≤ c) (hcm : c ≤ 9223372036854775807) (hn : Short l) :
    Calls Tryz.prog 80 #[.slice (some ⟨g, 0, none⟩) d.size cap, .func (.func 81) #[] #[.pointer (some ⟨bx, 0, none⟩)]] W (StruckPost W B g cap (d.toList.filter (apart7 l))) := by
  have hI := indexStruck7_any A l c B bx g cap d W h hD hx hd hl hlc hcm hn
  obtain ⟨hcap, hcapm⟩ := hD.cap
  unfold maxLen at hcapm
  obtain ⟨kp, HK⟩ : ∃ kp : Nat → Bool, Hid (kp = fun j => apart7 l d[j]!) := ⟨_, rfl⟩
  have hfil : d.toList.filter (apart7 l) = Lib.keptUpTo kp d d.size := by rw [HK.out]; exact (Lib.keptUpTo_filter (apart7 l) d).symm
  rw [hfil]
  have HH : Hid (∀ W' x, Only W W' (· = g) → x.length = 2 → Calls Tryz.prog 81 #[.string (strOf x), .pointer (some ⟨bx, 0, none⟩)] W' fun e w' => e = .returned (.bool (lie7 l x)) ∧ Below W'.heap.size W' w') := fun W' x ho hx =>
    struck7_any A l c B bx x W' (h.only ho hD.lt.1 hne) hl hlc hcm hn hx
  have heg : ∀ args w, (callFunc 81 args).run Tryz.prog w = .ok (.enter 81 args) w := enters_of Tryz.func81 (by kernel_rfl) rfl
  have HD := Lib.hid hD
  have HX := Lib.hid hx
  have HI := Lib.hid hI
  clear h hD hx hn hI hfil
  go_enter Tryz.func80, Tryz.ntmps80
  go_wp2_with fail
  refine Calls.mono HI.out ?_
  rintro e w1 ⟨⟨r, rfl, hr⟩, hb1⟩
  rcases hr with ⟨rfl, hall⟩ | ⟨k0, hk0, rfl, htrue, hall⟩
  · have hkeep : ∀ j, j < d.size → kp j = true := fun j hj => by
      rw [HK.out]
      show (!lie7 l d[j]!) = true
      rw [show lie7 l d[j]! = false from hall j hj]; rfl
    have HE : Hid (Lib.keptUpTo kp d d.size = d.toList) := (Lib.keptUpTo_all kp d _ hkeep).trans (Lib.range_map_get d)
    have HF : Hid (StruckPost W B g cap (Lib.keptUpTo kp d d.size) (.returned (.slice (some ⟨g, 0, none⟩) d.size cap)) w1) := by
      show StruckPost _ _ _ _ _ _ _
      rw [HE.out]
      have h1 := (HD.out.below hb1).head (k := d.size) (Nat.le_refl _) (ts := d.toList) (List.take_of_length_le (by simp))
      exact ⟨by simp, by simpa using h1, Only.andBelow (Only.refl W _) hb1⟩
    clear hall hkeep hb1
    go_wp2
    go_ret
    exact HF.out
  · have hkeep : ∀ j, j < k0 → kp j = true := fun j hj => by
      rw [HK.out]
      show (!lie7 l d[j]!) = true
      rw [show lie7 l d[j]! = false from hall j hj]; rfl
    have hdrop : kp k0 = false := by
      rw [HK.out]
      show (!lie7 l d[k0]!) = false
      rw [show lie7 l d[k0]! = true from htrue]; rfl
    have HI0 : Hid (Lib.KeptInv kp d (k0 + 1) k0 d) := Lib.KeptInv.start hkeep hdrop
    have HD1 : Hid (OwnD w1 B g cap d) := HD.out.below hb1
    have HO1 : Hid (Only W w1 (· = g)) := Only.andBelow (Only.refl W _) hb1
    have hne1 : ((k0 : Int) == -1) = false := beq_eq_false_iff_ne.2 (by omega)
    clear hall htrue hkeep hdrop hb1 HD HI
    go_wp2
    go_loopw [5, 6] (fun s5 s6 wr => ∃ (i j : Nat) (dk : Array Txt), s5 = .int .i64 i ∧ s6 = .int .i64 j ∧ j ≤ d.size ∧ Hid (Lib.KeptInv kp d j i dk) ∧ Hid (OwnD wr B g cap dk) ∧ Hid (Only W wr (· = g)))
      (fun _ s6 _ => d.size - (intOf s6).toNat)
    case atStart => exact ⟨k0, k0 + 1, d, rfl, by go_num, by omega, HI0, HD1, HO1⟩
    case round =>
      obtain ⟨i, j, dk, rfl, rfl, hjd, HIv, HDk, HOk⟩ := hrel
      clear HI0 HD1 HO1
      have hij := HIv.out.lt
      have hds := HIv.out.size
      have hj0 : (0 : Int) ≤ (j : Int) := Int.natCast_nonneg _
      have hi0 : (0 : Int) ≤ (i : Int) := Int.natCast_nonneg _
      by_cases hlt : j < d.size
      · have hlt' : (j : Int) < (d.size : Int) := by omega
        have hil' : (i : Int) < (d.size : Int) := by omega
        have cj := HDk.out.cell (j := j) (by omega)
        rw [HIv.out.high j (by omega)] at cj
        have HC := Lib.hid (HH.out wr d[j]! HOk.out (HX.out j hlt))
        obtain ⟨u, hue⟩ : ∃ u, u = d[j]! := ⟨_, rfl⟩
        have HUE := Lib.hid hue
        rw [← hue] at cj HC
        clear hue
        cases hq : lie7 l u with
        | false =>
          rw [hq] at HC
          have HI1 : Hid (Lib.KeptInv kp d (j + 1) (i + 1) (dk.setIfInBounds i u)) := by
            show Lib.KeptInv _ _ _ _ _
            rw [HUE.out]
            refine HIv.out.keep hlt ?_
            rw [HK.out]
            show (!lie7 l d[j]!) = true
            rw [← HUE.out, hq]; rfl
          have HST := Lib.hid (fun W' (hb : Below wr.heap.size wr W') => (HDk.out.below hb).store i u)
          have HCI : Hid (∀ W', Below wr.heap.size wr W' → (∃ old, W'.cell? ⟨g, i, none⟩ = some old) ∧ W'.frozen? ⟨g, i, none⟩ = false) := fun W' hb => ⟨⟨_, (HDk.out.below hb).cell (j := i) (by omega)⟩, (HDk.out.below hb).free i⟩
          clear hq HUE HIv
          generalize strOf u = z at *
          go_wp2_with (go_at_fn 81; refine Calls.mono HC.out ?_; rintro e w2 ⟨rfl, hb2⟩; obtain ⟨⟨old, d0⟩, z0⟩ := HCI.out w2 hb2)
          have HD2 := Lib.hid (HST.out w2 hb2)
          have HO2 : Hid (Only W (w2.setCell ⟨g, i, none⟩ (.string z)) (· = g)) := (Only.andBelow HOk.out hb2).set i _
          clear hb2 d0 z0 HST HCI HDk HOk
          go_roundw
          case rel => exact ⟨i + 1, j + 1, _, by go_num, by go_num, by omega, HI1, HD2, HO2⟩
          case measure => simp [intOf]; omega
        | true =>
          rw [hq] at HC
          have HI1 : Hid (Lib.KeptInv kp d (j + 1) i dk) := HIv.out.skip (by
            rw [HK.out]
            show (!lie7 l d[j]!) = false
            rw [← HUE.out, hq]; rfl)
          clear hq HUE HIv
          generalize strOf u = z at *
          go_wp2_with (go_at_fn 81; refine Calls.mono HC.out ?_; rintro e w2 ⟨rfl, hb2⟩)
          have HD2 := Lib.hid (HDk.out.below hb2)
          have HO2 : Hid (Only W w2 (· = g)) := Only.andBelow HOk.out hb2
          clear hb2 HDk HOk
          go_roundw
          case rel => exact ⟨i, j + 1, _, rfl, by go_num, by omega, HI1, HD2, HO2⟩
          case measure => simp [intOf]; omega
      · obtain rfl : j = d.size := by omega
        have hltz : ¬ (d.size : Int) < (d.size : Int) := by omega
        have hcl : ∀ ty, (Builtin.clear_ #[29] ty #[.slice (some ⟨g, i, none⟩) (d.size - i) (cap - i)]).run Tryz.prog wr = .ok (.tuple #[]) (wr.setCells g i (List.replicate (d.size - i) (.string ByteArray.empty))) :=
          fun ty => Lib.run_clear_slice wr _ _ ty _ Tryz.underlying29 Tryz.zeroValue9 rfl rfl g i _ _ (by omega) (fun t ht => by rw [HDk.out.cell (j := i + t) (by omega)]; rfl) (fun t ht => HDk.out.free _)
        have HLN := HIv.out.len
        have HHD : Hid (HeadD (wr.setCells g i (List.replicate (d.size - i) (.string ByteArray.empty))) B g cap (Lib.keptUpTo kp d d.size).length (Lib.keptUpTo kp d d.size)) := by
          show HeadD _ _ _ _ _ _
          rw [HLN]
          refine HeadD.sets _ _ (HDk.out.head (k := i) (by omega) ?_) (Nat.le_refl _)
          apply List.ext_getElem?
          intro q
          by_cases hq : q < i
          · rw [HIv.out.low q hq, List.getElem?_take_of_lt hq, getElem!_pos dk q (by omega)]
            simp
          · rw [List.getElem?_eq_none (by rw [List.length_take]; omega), List.getElem?_eq_none (by omega)]
        have HOF : Hid (Only W (wr.setCells g i (List.replicate (d.size - i) (.string ByteArray.empty))) (· = g)) := only_sets _ _ HOk.out
        have HLH := Lib.hid HLN
        have hci : ¬ cap = i := by omega
        clear HIv HDk HOk HLN
        go_wp2
        go_ret
        refine ⟨by rw [HLH.out]; rfl, HHD.out, HOF.out⟩

set_option maxRecDepth 100000 in
set_option maxHeartbeats 1000000 in
theorem deleteNil7_any (bx : Nat) (W : World) :
    Calls Tryz.prog 80 #[.slice none 0 0, .func (.func 81) #[] #[.pointer (some ⟨bx, 0, none⟩)]] W fun e w' => e = .returned (.slice none 0 0) ∧ w' = W := by
  have HI : Hid (Calls Tryz.prog 151 #[.slice none 0 0, .func (.func 81) #[] #[.pointer (some ⟨bx, 0, none⟩)]] W fun e w' => e = .returned (.int .i64 (-1)) ∧ w' = W) := by
    show Calls _ _ _ _ _
    go_enter Tryz.func151, Tryz.ntmps151
    go_wp2
    go_loop [8] (fun i => i = .int .i64 0) (fun _ => 0)
    case atStart => rfl
    case round =>
      subst hrel
      go_wp2
      go_ret
      exact ⟨rfl, rfl⟩
  go_enter Tryz.func80, Tryz.ntmps80
  go_wp2_with fail
  refine Calls.mono HI.out ?_
  rintro e w1 ⟨rfl, rfl⟩
  go_wp2
  go_ret
  exact ⟨rfl, rfl⟩

set_option maxRecDepth 100000 in
set_option maxHeartbeats 2000000 in
theorem implClashes_any (A : Option Addr) (l : List Seg) (c : Nat) (A2 : Option Addr) (ts : List ByteArray) (c2 : Nat) (w : World) (hw : Segs w w.heap.size A l) (ht : St.Strs w w.heap.size A2 ts) (hl : l.length ≤ 1048576) (hlc : l.length ≤ c) (hcm : c ≤ 9223372036854775807) (hn : Short l) (htl : ts.length ≤ 1048576) (hts : ∀ s ∈ ts, s.size ≤ 1048576) :
    Calls Tryz.prog 21 #[.slice A l.length c, .slice A2 ts.length c2] w (ClashPost w l ts) := by
  have HB0 : Hid (Below w.heap.size w (w.alloc (.cells #[.slice A l.length c] 23))) := (Below.refl _ w).alloc (Nat.le_refl _) _
  have HBX : Hid (Row (w.alloc (.cells #[.slice A l.length c] 23)) w.heap.size 23 #[.slice A l.length c]) := Row.new w _ _
  have HZ0 : Hid ((w.alloc (.cells #[.slice A l.length c] 23)).heap.size = w.heap.size + 1) := by show _ = _; simp
  have HQ := Lib.hid (implTogether_any A l c A2 ts c2 (w.alloc (.cells #[.slice A l.length c] 23)) ((hw.below HB0.out).more HB0.out.size) ((ht.below HB0.out).more HB0.out.size) hl hlc hcm hn htl hts)
  have HW : Hid (Segs w w.heap.size A l) := hw
  unfold TogPost togRes at HQ
  unfold ClashPost clashRes clashTxt
  have HX2L := Lib.hid (togTxt_two l ts)
  have hx160 := togTxt_len l ts
  have HNO : Hid (graphB l ts = false → togTxt l ts = []) := fun h => togTxt_bad h
  have HDN := Lib.hid (fun bx W => deleteNil7_any bx W)
  have c0 : (w.alloc (.cells #[.slice A l.length c] 23)).cell? ⟨w.heap.size, 0, none⟩ = some (.slice A l.length c) := HBX.out.cell 0
  have HDS := Lib.hid (fun B bx g cap d W h1 h2 h3 h4 h5 => deleteStruck7_any A l c B bx g cap d W h1 h2 h3 h4 h5 hl hlc hcm hn)
  clear hw ht hn hts
  generalize togTxt l ts = xs at *
  generalize graphB l ts = gb at *
  obtain ⟨tf, htf⟩ : ∃ tf, tf = xs.filter (apart7 l) := ⟨_, rfl⟩
  rw [← htf]
  have HTS := Lib.hid htf
  clear htf
  go_enter Tryz.func21, Tryz.ntmps21
  go_wp2_with fail
  refine Calls.mono HQ.out ?_
  rintro e w2 ⟨v, rfl, ho, hb⟩
  have HB2 : Hid (Below w.heap.size w w2) := HB0.out.trans (hb.mono HB0.out.size)
  have HX2 : Hid (Row w2 w.heap.size 23 #[.slice A l.length c]) := HBX.out.below hb (by have := HZ0.out; omega)
  have HOL : Hid (OwnTexts w2 (w.heap.size + 1) v (xs.map strOf)) := by
    show OwnTexts _ _ _ _
    rw [← HZ0.out]
    exact ho
  clear ho hb HQ HBX HB0 HZ0 c0
  cases gb with
  | false =>
    have hx := HNO.out rfl
    subst hx
    have ht0 : tf = [] := HTS.out
    subst ht0
    go_wp2
    go_ret2
    exact ⟨_, rfl, World.ownsRow_nil w2 _ _ 1, HB2.out⟩
  | true =>
    have hol := HOL.out
    rcases hol.2 with ⟨rfl, h0⟩ | ⟨g, cap, cur, rfl, hbg, -⟩
    · have hx : xs = [] := by
        rw [List.length_map] at h0
        exact List.eq_nil_of_length_eq_zero h0
      subst hx
      have ht0 : tf = [] := HTS.out
      subst ht0
      clear hol h0 HOL
      go_wp2_with fail
      refine (HDN.out _ _).mono ?_
      rintro e w3 ⟨rfl, rfl⟩
      go_wp2
      go_ret2
      exact ⟨_, rfl, World.ownsRow_nil _ _ _ 1, HB2.out⟩
    · have hlen : (xs.map strOf).length = xs.length := List.length_map _
      have hzz := HB2.out.size
      have HDD : Hid (OwnD w2 w.heap.size g cap xs.toArray) := arr7 (own_low hol (by omega)) hlen
      have HDC := Lib.hid (HDS.out w.heap.size w.heap.size g cap xs.toArray w2 ⟨HX2.out, HW.out.below HB2.out, hzz⟩ (by omega) HDD.out (fun j hj => by
        have hj' : j < xs.length := by simpa using hj
        rw [getElem!_pos xs.toArray j hj]
        exact HX2L.out _ (by simp)) (by simpa using hx160))
      have hsz : xs.toArray.size = xs.length := by simp
      rw [hsz, show xs.toArray.toList = xs from rfl, ← HTS.out] at HDC
      have HGG : Hid (w.heap.size < g) := show w.heap.size < g by omega
      rw [hlen]
      clear hol HOL HDD hlen hsz HDS HDN HX2L hbg
      go_wp2_with fail
      refine Calls.mono HDC.out ?_
      rintro e w3 ⟨rfl, hh3, ho3⟩
      have HH3 : Hid (OwnTexts w3 w.heap.size (.slice (some ⟨g, 0, none⟩) tf.length cap) (tf.map strOf)) := hh3.texts
      have HB3 : Hid (Below w.heap.size w w3) := Only.below HB2.out ho3 hzz (fun k hk e => by have := HGG.out; omega)
      clear hh3 ho3 HDC
      go_wp2
      go_ret2
      exact ⟨_, rfl, HH3.out, HB3.out⟩

end Go.Proofs.YtbmfbnlmdjnddaaGreat
/- GraphSafe on both sides. -/
namespace Go.Proofs.YtbmfbnlmdjnddaaGreat
open Go.RowKit Go.Shelf

def gsafeB (l : List Seg) (ts : List ByteArray) : Bool := graphB l ts && decide ((clashRes l ts).length = 0)
theorem clashRes_len (l : List Seg) (ts : List ByteArray) : (clashRes l ts).length ≤ 160 := by
  unfold clashRes clashTxt
  rw [List.length_map]
  exact Nat.le_trans (List.length_filter_le _ _) (togTxt_len l ts)

set_option maxRecDepth 100000 in
set_option maxHeartbeats 2000000 in
theorem implGsafe_any (A : Option Addr) (l : List Seg) (c : Nat) (A2 : Option Addr) (ts : List ByteArray) (c2 : Nat) (w : World) (hw : Segs w w.heap.size A l) (ht : St.Strs w w.heap.size A2 ts) (hl : l.length ≤ 1048576) (hlc : l.length ≤ c) (hcm : c ≤ 9223372036854775807) (hn : Short l) (htl : ts.length ≤ 1048576) (hts : ∀ s ∈ ts, s.size ≤ 1048576) :
    Calls Tryz.prog 25 #[.slice A l.length c, .slice A2 ts.length c2] w fun e w' => e = .returned (.bool (gsafeB l ts)) ∧ Below w.heap.size w w' := by
  have HQ := Lib.hid (implClashes_any A l c A2 ts c2 w hw ht hl hlc hcm hn htl hts)
  unfold ClashPost at HQ
  unfold gsafeB
  have hlen := clashRes_len l ts
  clear hw ht hn hts
  generalize clashRes l ts = xs at *
  generalize graphB l ts = gb at *
  go_enter Tryz.func25, Tryz.ntmps25
  go_wp2_with fail
  refine Calls.mono HQ.out ?_
  rintro e w2 ⟨v, rfl, ho, hb⟩
  obtain ⟨A3, cap3, rfl, -⟩ := St.textsForm ho
  clear ho HQ
  have HB := Lib.hid hb
  clear hb
  cases gb with
  | false =>
    go_wp2
    go_ret
    exact ⟨rfl, HB.out⟩
  | true =>
    by_cases h0 : xs.length = 0
    · have h1 : ((xs.length : Int) == 0) = true := by rw [beq_iff_eq]; omega
      go_wp2
      go_ret
      exact ⟨by simp [h0], HB.out⟩
    · have h1 : ((xs.length : Int) == 0) = false := by rw [beq_eq_false_iff_ne]; omega
      go_wp2
      go_ret
      exact ⟨by simp [h0], HB.out⟩

end Go.Proofs.YtbmfbnlmdjnddaaGreat
/- soHas: one of a text's characters is another text. -/
namespace Go.Proofs.YtbmfbnlmdjnddaaGreat
open Go.RowKit

/-- One of the text's characters is 'c'. -/
def hasT (s c : ByteArray) : Bool := decide (∃ i, i < s.size ∧ s.extract i (i + 1) = c)

end Go.Proofs.YtbmfbnlmdjnddaaGreat
/- What is reached: all that the reached call, and nothing else; plain. -/
namespace Go.Proofs.YtbmfbnlmdjnddaaGreat

end Go.Proofs.YtbmfbnlmdjnddaaGreat
/- soHas leaves the world as it was; what it says of a sorted text. -/
namespace Go.Proofs.YtbmfbnlmdjnddaaGreat
open Go.RowKit

set_option maxRecDepth 100000 in
set_option maxHeartbeats 1000000 in
theorem soHas_same (s c : ByteArray) (w : World) (hs : s.size ≤ 1048576) :
    Calls Tryz.prog 16 #[.string s, .string c] w fun e w' => e = .returned (.bool (hasT s c)) ∧ w' = w := by
  go_enter Tryz.func16, Tryz.ntmps16
  go_wp2
  go_loopw [8] (fun i wr => ∃ k : Nat, k ≤ s.size ∧ i = .int .i64 k ∧ Hid (∀ j, j < k → s.extract j (j + 1) ≠ c) ∧ wr = w)
    (fun i _ => s.size - (intOf i).toNat)
  case atStart => exact ⟨0, Nat.zero_le _, rfl, fun j hj => absurd hj (by omega), rfl⟩
  case round =>
    obtain ⟨k, hk, rfl, HN, rfl⟩ := hrel
    by_cases hlt : k < s.size
    · have hlt' : (k : Int) < (s.size : Int) := by omega
      have hk0 : (0 : Int) ≤ (k : Int) := Int.natCast_nonneg _
      have hq : ((k : Int) + 1).toNat = k + 1 := by omega
      by_cases he : s.extract k (k + 1) = c
      · have ht : ((s.extract k (k + 1)).toList == c.toList) = true := by rw [he]; simp
        have HF : Hid (hasT s c = true) := decide_eq_true ⟨k, hlt, he⟩
        clear he HN
        go_wp2
        go_ret
        exact ⟨ret_bool HF.out.symm, rfl⟩
      · have ht : ((s.extract k (k + 1)).toList == c.toList) = false := by
          have := (sameB_iff (a := s.extract k (k + 1)) (b := c))
          unfold sameB at this
          cases hq2 : ((s.extract k (k + 1)).toList == c.toList) with
          | false => rfl
          | true => exact absurd (this.1 hq2) he
        have HM : Hid (∀ j, j < k + 1 → s.extract j (j + 1) ≠ c) := fun j hj => by
          rcases Nat.lt_or_ge j k with h | h
          · exact HN.out j h
          · obtain rfl : j = k := by omega
            exact he
        clear he HN
        go_wp2
        go_roundw
        case rel => exact ⟨k + 1, by omega, by go_num, HM, trivial⟩
        case measure => simp [intOf]; omega
    · have HF : Hid (hasT s c = false) := decide_eq_false (fun ⟨j, hj, he⟩ => HN.out j (by omega) he)
      clear HN
      go_wp2
      go_ret
      exact ⟨ret_bool HF.out.symm, rfl⟩

/-- One of a text's characters is one byte. -/
theorem hasT_one (x : Txt) (u : UInt8) : hasT (strOf x) ⟨#[u]⟩ = decide (u ∈ x) := by
  unfold hasT
  rw [decide_eq_decide]
  constructor
  · rintro ⟨i, hi, he⟩
    rw [str_size] at hi
    rw [str_at x hi] at he
    injection he with he
    injection he with he
    injection he with he
    rw [← he]
    exact List.getElem_mem hi
  · intro hu
    obtain ⟨i, hi, rfl⟩ := List.getElem_of_mem hu
    exact ⟨i, by rw [str_size]; exact hi, str_at x hi⟩
/-- What is reached from a segment, as a text in the order of the tree. -/
def reachTxt (l : List Seg) (ps : List Txt) (u : UInt8) : Txt := (selIx (inB7 l (reachL ps u)) l.length).map (byteOf l)
theorem reach_sorted {l : List Seg} {ps : List Txt} (hv : validB l = true) (u : UInt8) : sortedB l (reachL ps u) = strOf (reachTxt l ps u) := sorted_txt hv _
theorem reachTxt_mem {l : List Seg} {ps : List Txt} (h : IsGraph l ps) (u v : UInt8) : v ∈ reachTxt l ps u ↔ v ∈ reachL ps u := by
  unfold reachTxt selIx
  rw [List.mem_map]
  constructor
  · rintro ⟨i, hi, rfl⟩
    exact of_decide_eq_true (List.mem_filter.1 hi).2
  · intro hu
    obtain ⟨i, hi, rfl⟩ := callP_byte h.valid (reach_callP h u v hu)
    exact ⟨i, List.mem_filter.2 ⟨List.mem_range.2 hi, decide_eq_true hu⟩, rfl⟩
theorem reachTxt_len (l : List Seg) (ps : List Txt) (u : UInt8) : (reachTxt l ps u).length ≤ l.length := by
  unfold reachTxt
  rw [List.length_map]
  exact selIx_len _ _
end Go.Proofs.YtbmfbnlmdjnddaaGreat
