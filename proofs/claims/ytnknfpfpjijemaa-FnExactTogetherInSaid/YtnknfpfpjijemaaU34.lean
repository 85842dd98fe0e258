/- Joined: Jt Ju Ka Jw Jx. -/
import Derived.Test.YtnknfpfpjijemaaU33
import Derived.Sort.KeysCollected
import Derived.Test.YtnknfpfpjijemaaU25
import Derived.Test.YtnknfpfpjijemaaU24
import Derived.Test.YtnknfpfpjijemaaU32
/- The program's HasRings. -/
namespace Go.Proofs.Ytnknfpfpjijemaa
open Go.RowKit Go.Shelf Go.Sort

theorem below_grown {X Y Z : World} {B r : Nat} (h : Below B X Y) (hg : Y.grownBy Z (some r)) (hr : B ≤ r) (hB : B ≤ Y.heap.size) : Below B X Z :=
  h.trans ⟨hg.os, hg.tape, hg.output, hg.size, fun k hk => hg.block k (by omega) (fun e => by injection e with e; omega)⟩

attribute [local irreducible] waysB in
set_option maxRecDepth 100000 in
set_option maxHeartbeats 4000000 in
theorem implRings_any (A : Option Addr) (l : List Seg) (c : Nat) (A2 : Option Addr) (ts : List ByteArray) (c2 : Nat) (w : World) (hw : Segs w w.heap.size A l) (ht : St.Strs w w.heap.size A2 ts) (hl : l.length ≤ 1048576) (hlc : l.length ≤ c) (hcm : c ≤ 9223372036854775807) (hn : Short l) (htl : ts.length ≤ 1048576) (hts : ∀ s ∈ ts, s.size ≤ 1048576) :
    Calls Try.prog 14 #[.slice A l.length c, .slice A2 ts.length c2] w fun e w' => e = .returned (.bool (ringsB l ts)) ∧ Below w.heap.size w w' := by
  have HQ := Lib.hid (graphOf_any A l c A2 ts c2 w hw ht hl hlc hcm hn htl hts)
  unfold GraphPost at HQ
  have HW : Hid (Segs w w.heap.size A l) := hw
  clear hw ht hn hts
  go_enter Try.func14, Try.ntmps14
  go_wp2_with fail
  refine Calls.mono HQ.out ?_
  rintro e w1 ⟨hb1, (⟨hg, rfl⟩ | ⟨hg, b, rfl, hGA⟩)⟩
  · have HR := Lib.hid (rings_bad hg)
    clear hg
    go_wp2
    go_ret
    exact ⟨ret_bool HR.out.symm, hb1⟩
  · have hG := graph_is hg
    have HB1 := Lib.hid hb1
    have HGA := Lib.hid hGA
    have hv := hG.valid
    have h1l : 0 < l.length := (valid_all hv).2.2
    obtain ⟨u0, hu0⟩ : ∃ u, u = rootB l := ⟨_, rfl⟩
    have HLF := Lib.hid (fun W h1 h2 => liveFrom_any w.heap.size w1.heap.size b l (psOf ts) u0 W hG h1 h2)
    have HRF := Lib.hid (fun u W h1 h2 => reachedFrom_any w.heap.size w1.heap.size b l (psOf ts) u W hG h1 h2)
    have HMEM : Hid (∀ x, x ∈ (reachL (psOf ts) u0 ++ [u0]).map (fun c => [c]) → ∃ u, x = [u] ∧ u ∈ liveL l (psOf ts)) := fun x hx => by
      obtain ⟨u, hu, rfl⟩ := List.mem_map.1 hx
      refine ⟨u, rfl, ?_⟩
      unfold liveL
      rw [← hu0]
      rcases List.mem_append.1 hu with hu | hu
      · exact List.mem_cons_of_mem _ hu
      · rw [List.mem_singleton.1 hu]; exact List.mem_cons_self
    have HALL : Hid (∀ u, u ∈ liveL l (psOf ts) → [u] ∈ (reachL (psOf ts) u0 ++ [u0]).map (fun c => [c])) := fun u hu => by
      unfold liveL at hu
      rw [← hu0] at hu
      refine List.mem_map.2 ⟨u, ?_, rfl⟩
      rcases List.mem_cons.1 hu with rfl | hu
      · exact List.mem_append.2 (.inr (List.mem_singleton.2 rfl))
      · exact List.mem_append.2 (.inl hu)
    have HYES : Hid (∀ u, u ∈ liveL l (psOf ts) → u ∈ reachL (psOf ts) u → ringsB l ts = true) := fun u h1 h2 => rings_yes (l := l) hg (u := u) h1 h2
    have HNO : Hid ((∀ u ∈ liveL l (psOf ts), u ∉ reachL (psOf ts) u) → ringsB l ts = false) := fun h => rings_no (l := l) (ts := ts) h
    have hln : ((reachL (psOf ts) u0 ++ [u0]).map (fun c => [c])).length ≤ 1000 := by
      rw [List.length_map, List.length_append, List.length_singleton]
      have := reachL_le hG u0
      omega
    obtain ⟨b9, o, rfl, hB, hc⟩ := HW.out h1l
    obtain ⟨s0, hs0, hn1⟩ := root_name hv
    obtain ⟨d0, -, -⟩ := hc 0 s0 hs0
    clear hc
    rw [← hb1.cell hB, hn1, ← hu0, Nat.zero_mul, Nat.add_zero] at d0
    clear hg hG hb1 hGA hv hn1 hu0 hs0 s0
    generalize (reachL (psOf ts) u0 ++ [u0]).map (fun c => [c]) = LV at *
    go_wp2_with fail
    refine Calls.mono (HLF.out _ HGA.out (Nat.le_refl _)) ?_
    rintro e w2 ⟨rfl, hs2, hb2⟩
    have HB2 : Hid (Below w.heap.size w w2) := HB1.out.trans (hb2.mono HB1.out.size)
    have HB12 := Lib.hid hb2
    have hz12 := hb2.size
    have hz01 := HB1.out.size
    clear hb2
    obtain ⟨D, hP, hval⟩ := hs2
    obtain ⟨hown, hhas⟩ := hP
    have HHAS := Lib.hid hhas
    clear hhas hval
    have hcl := hown.lt
    generalize hcc : w1.heap.size = cc at *
    go_wp2_with (first
      | (at_range; refine wpList_range_own _ rfl _ 57 rfl 9 4 (Maps.string_keyed Try.underlying9) Try.underlying57 _ cc _ _ rfl hown ?_; intro w0 hrg0 hg0 hs0)
      | go_in)
    have HB0 : Hid (Below cc w1 w0) := HB12.out.trans ((show Below cc w2 w0 from ⟨hg0.os, hg0.tape, hg0.output, hg0.size, fun k hk => hg0.block k (by omega) (by simp)⟩))
    go_frame
    go_loopw [7] (fun _ wr => ∃ (left : Lit → Bool) (cnt : Nat) (ss : List Txt), wr.ranges Try.prog 9 (plainElem Try.prog 4) cc w2.heap.size LV.length D left cnt ∧ Hid (Collected D left ss) ∧ Hid (∀ u, [u] ∈ ss → u ∉ reachL (psOf ts) u) ∧ Hid (Below cc w1 wr))
      (fun _ wr => wr.rangeLeft cc w2.heap.size)
    case atStart => exact ⟨_, _, [], hrg0, Collected.start D, fun u hu => absurd hu (by simp), HB0⟩
    case round =>
      obtain ⟨left, cnt, ss, hrg, HC, HP, HB⟩ := hrel
      go_wp2_with (first
        | (at_next; refine wpList_next_ranges _ rfl _ rfl 9 (Maps.string_keyed Try.underlying9) (plainElem Try.prog 4) encStr id (fun key kl hk => by obtain ⟨x, hx, _⟩ := Maps.keyOf_str Try.underlying9 hk; exact ⟨x, hx⟩) (fun v _ _ => ⟨v, rfl⟩) cc w2.heap.size LV.length _ _ _ rfl hrg ?_ ?_)
        | go_in)
      · intro hc0 hl0
        have HE := Lib.hid (HNO.out (fun u hu => HP.out u ((HC.out.2 [u]).2 ⟨(HHAS.out [u]).2 (HALL.out u hu), hl0 _⟩)))
        have HBW : Hid (Below w.heap.size w wr) := HB1.out.trans (HB.out.mono hz01)
        go_wp2
        go_ret
        exact ⟨ret_bool HE.out.symm, HBW.out⟩
      · intro x cv kl yd yp w3 cnt2 hkey hlk hv hat hrg2 hlt hg2 hs2 hen
        obtain ⟨x', ex, rfl, _⟩ := Maps.keyOf_str Try.underlying9 hkey
        obtain rfl : x = x' := encStr_inj ex
        have hhx : x ∈ LV := (HHAS.out x).1 (Maps.has_true_of_atKey hat)
        obtain ⟨u, rfl, hul⟩ := HMEM.out x hhx
        have HC2 := Lib.hid (HC.out.step hlk hat)
        have HB3 : Hid (Below cc w1 w3) := below_grown HB.out hg2 hz12 (hcc ▸ HB.out.size)
        have HGA3 : Hid (GraphAt w3 w.heap.size cc b (psOf ts)) := HGA.out.below HB3.out
        have hz3 : cc ≤ w3.heap.size := by have := HB3.out.size; omega
        have HYU := Lib.hid (HYES.out u hul)
        clear hs2 hkey hlk hv hat hhx
        go_wp2_with fail
        refine Calls.mono (HRF.out u _ HGA3.out hz3) ?_
        rintro e w4 ⟨rfl, hs4, hb4⟩
        have hlook := hs4.look [u] (by rw [str_size]; exact (by decide : 1 ≤ 1000))
        have hlook' : (Instr.lookup 57 (.map (some w3.heap.size)) (.string ⟨#[u]⟩) false).run Try.prog w4 = .ok (.bool (decide (u ∈ reachL (psOf ts) u))) w4 := by
          have e : decide ([u] ∈ (reachL (psOf ts) u).map fun c => [c]) = decide (u ∈ reachL (psOf ts) u) := by rw [singles_mem]
          rw [← e]
          exact hlook
        clear hlook hs4
        have hrg4 := hrg2.kept (grown_of_below hb4) (by simp) (by simp)
        have HB4 : Hid (Below cc w1 w4) := HB3.out.trans (hb4.mono (by omega))
        clear hb4
        by_cases hm : u ∈ reachL (psOf ts) u
        · have HE := Lib.hid (HYU.out hm)
          rw [decide_eq_true hm] at hlook'
          have HBW : Hid (Below w.heap.size w w4) := HB1.out.trans (HB4.out.mono hz01)
          go_wp2
          go_ret
          exact ⟨ret_bool HE.out.symm, HBW.out⟩
        · have HP2 : Hid (∀ u', [u'] ∈ ss ++ [[u]] → u' ∉ reachL (psOf ts) u') := fun u' hu' => by
            rcases List.mem_append.1 hu' with h | h
            · exact HP.out u' h
            · have := List.mem_singleton.1 h
              injection this with this
              rw [this]
              exact hm
          rw [decide_eq_false hm] at hlook'
          go_wp2
          go_roundw
          case rel => exact ⟨_, cnt2, ss ++ [[u]], hrg4, HC2.out, HP2, HB4⟩
          case measure => rw [hrg4.left_eq, hrg.left_eq]; exact hlt

end Go.Proofs.Ytnknfpfpjijemaa
/- The walk of the law FnExactHasRings. -/
namespace Go.Proofs.Ytnknfpfpjijemaa
open Go.RowKit

set_option maxRecDepth 100000 in
set_option maxHeartbeats 1000000 in
theorem lawHasRings_any (A : Option Addr) (l : List Seg) (c : Nat) (A2 : Option Addr) (ts : List ByteArray) (c2 : Nat) (w : World) (hw : Segs w w.heap.size A l) (hl : l.length ≤ maxLen) (hn : Short l) (ht : St.Strs w w.heap.size A2 ts) (htl : ts.length ≤ maxLen) (hts : Shorts ts) :
    Calls Try.prog 10 #[.slice A l.length c, .slice A2 ts.length c2] w fun e w' => e = .returned (.bool true) ∧ Below w.heap.size w w' := by
  have HW : Hid (Segs w w.heap.size A l) := hw
  have HT : Hid (St.Strs w w.heap.size A2 ts) := ht
  clear hw ht
  by_cases hs : sizeLeft l < 0
  · go_enter Try.func10, Try.ntmps10
    go_wp2_with fail
    refine (szSegmentS_any _ _ _ _ HW.out hl hn).mono ?_
    rintro e w1 ⟨rfl, hb1⟩
    go_wp2
    go_ret
    exact ⟨rfl, hb1⟩
  have hlen := sizeLeft_len hs
  have hsl := sizeLeft_le l
  have hlm : l.length ≤ 9223372036854775807 := Nat.le_trans hlen (by decide)
  by_cases hs2 : textsLeft ts (sizeLeft l) < 0
  · go_enter Try.func10, Try.ntmps10
    go_wp2_with fail
    refine (szSegmentS_any _ _ _ _ HW.out hl hn).mono ?_
    rintro e w1 ⟨rfl, hb1⟩
    have HB1 := Lib.hid hb1
    clear hb1
    generalize sizeLeft l = lft at *
    go_wp2_with fail
    refine (szStringS_any A2 ts c2 lft _ ((HT.out.below HB1.out).more HB1.out.size) htl hts (by omega) hsl).mono ?_
    rintro e w2 ⟨rfl, hb2⟩
    have HB2 : Hid (Below w.heap.size w w2) := HB1.out.trans (hb2.mono HB1.out.size)
    clear hb2
    go_wp2
    go_ret
    exact ⟨rfl, HB2.out⟩
  obtain ⟨htl1, hts1⟩ := textsLeft_ok hsl hs2
  have HSP := Lib.hid (fun A A2 c c2 W h1 h2 => specRings_any A l c A2 ts c2 W h1 h2 hlen hn htl1 hts1)
  have HIM := Lib.hid (fun A A2 c2 W h1 h2 => implRings_any A l l.length A2 ts c2 W h1 h2 hlen (Nat.le_refl _) hlm hn htl1 hts1)
  generalize ringsB l ts = ans at HSP HIM
  go_enter Try.func10, Try.ntmps10
  go_wp2_with fail
  refine (szSegmentS_any _ _ _ _ HW.out hl hn).mono ?_
  rintro e w1 ⟨rfl, hb1⟩
  have HB1 := Lib.hid hb1
  clear hb1
  generalize sizeLeft l = lft at *
  go_wp2_with fail
  refine (szStringS_any A2 ts c2 lft _ ((HT.out.below HB1.out).more HB1.out.size) htl hts (by omega) hsl).mono ?_
  rintro e w2 ⟨rfl, hb2⟩
  have HB2 : Hid (Below w.heap.size w w2) := HB1.out.trans (hb2.mono HB1.out.size)
  clear hb2
  go_wp2_with fail
  refine (toSegmentS_any _ _ _ _ ((HW.out.below HB2.out).more HB2.out.size) hlen).mono ?_
  rintro e w3 ⟨rfl, hb3, hx3⟩
  have HB3 : Hid (Below w.heap.size w w3) := HB2.out.trans (hb3.mono HB2.out.size)
  have HX := Lib.hid hx3
  clear hb3 hx3 HB2
  go_wp2_with fail
  refine (toStringS_any _ _ _ _ ((HT.out.below HB3.out).more HB3.out.size) htl1).mono ?_
  rintro e w4 ⟨rfl, hb4, hx4⟩
  have HB4 : Hid (Below w.heap.size w w4) := HB3.out.trans (hb4.mono HB3.out.size)
  have HY : Hid (St.Strs w4 w4.heap.size (some ⟨w3.heap.size, 0, none⟩) ts) := strsOf hx4
  have HX := Lib.hid ((HX.out.below hb4).more hb4.size)
  clear hb4 hx4 HB3
  go_wp2_with fail
  refine (HSP.out _ _ _ _ _ HX.out HY.out).mono ?_
  rintro e w5 ⟨rfl, hb5⟩
  have HB5 : Hid (Below w.heap.size w w5) := HB4.out.trans (hb5.mono HB4.out.size)
  clear hb5 HX HY HB4 HSP
  go_wp2_with fail
  refine (toSegmentS_any _ _ _ _ ((HW.out.below HB5.out).more HB5.out.size) hlen).mono ?_
  rintro e w6 ⟨rfl, hb6, hx6⟩
  have HB6 : Hid (Below w.heap.size w w6) := HB5.out.trans (hb6.mono HB5.out.size)
  have HX := Lib.hid hx6
  clear hb6 hx6 HB5
  go_wp2_with fail
  refine (toStringS_any _ _ _ _ ((HT.out.below HB6.out).more HB6.out.size) htl1).mono ?_
  rintro e w7 ⟨rfl, hb7, hx7⟩
  have HB7 : Hid (Below w.heap.size w w7) := HB6.out.trans (hb7.mono HB6.out.size)
  have HY : Hid (St.Strs w7 w7.heap.size (some ⟨w6.heap.size, 0, none⟩) ts) := strsOf hx7
  have HX := Lib.hid ((HX.out.below hb7).more hb7.size)
  clear hb7 hx7 HB6
  go_wp2_with fail
  refine (HIM.out _ _ _ _ HX.out HY.out).mono ?_
  rintro e w8 ⟨rfl, hb8⟩
  have HB8 : Hid (Below w.heap.size w w8) := HB7.out.trans (hb8.mono HB7.out.size)
  have HX := Lib.hid ((HX.out.below hb8).more hb8.size)
  have HY := Lib.hid ((HY.out.below hb8).more hb8.size)
  clear hb8 HB7 HIM
  go_wp2_with fail
  refine (toSegmentS_any _ _ _ _ ((HW.out.below HB8.out).more HB8.out.size) hlen).mono ?_
  rintro e w9 ⟨rfl, hb9, hx9⟩
  have HB9 : Hid (Below w.heap.size w w9) := HB8.out.trans (hb9.mono HB8.out.size)
  have HX2 := Lib.hid hx9
  have HX := Lib.hid ((HX.out.below hb9).more hb9.size)
  have HY := Lib.hid ((HY.out.below hb9).more hb9.size)
  clear hb9 hx9 HB8
  go_wp2_with fail
  refine (eqSegmentS_same _ _ _ _ _ _ HX.out HX2.out hlen).mono ?_
  rintro e w10 ⟨rfl, hb10⟩
  have HB10 : Hid (Below w.heap.size w w10) := HB9.out.trans (hb10.mono HB9.out.size)
  have HY := Lib.hid ((HY.out.below hb10).more hb10.size)
  clear hb10 HB9 HX HX2
  go_wp2_with fail
  refine (toStringS_any _ _ _ _ ((HT.out.below HB10.out).more HB10.out.size) htl1).mono ?_
  rintro e w11 ⟨rfl, hb11, hx11⟩
  have HB11 : Hid (Below w.heap.size w w11) := HB10.out.trans (hb11.mono HB10.out.size)
  have HY2 : Hid (St.Strs w11 w11.heap.size (some ⟨w10.heap.size, 0, none⟩) ts) := strsOf hx11
  have HY := Lib.hid ((HY.out.below hb11).more hb11.size)
  clear hb11 hx11 HB10
  go_wp2_with fail
  refine (St.eqStringS_same _ _ _ _ _ _ HY.out HY2.out htl1).mono ?_
  rintro e w12 ⟨rfl, hb12⟩
  have HB12 : Hid (Below w.heap.size w w12) := HB11.out.trans (hb12.mono HB11.out.size)
  clear hb12 HB11 HY HY2
  go_wp2
  go_ret
  exact ⟨rfl, HB12.out⟩

end Go.Proofs.Ytnknfpfpjijemaa
/- KeepsTo on both sides. -/
namespace Go.Proofs.Ytnknfpfpjijemaa
open Go.RowKit Go.Shelf

theorem keptRes_le (l : List Seg) (t : ByteArray) : (pairsRes l t).length ≤ 80 := by
  unfold pairsRes
  rw [List.length_map]
  have h1 := putAll_len ((xsRes l t).map twoB) []
  have h3 := xsRes_len l t
  rw [List.length_map] at h1
  simp only [List.length_nil] at h1
  omega
theorem keptRes_two (l : List Seg) (t : ByteArray) : ∀ p ∈ pairsRes l t, ∃ u v, p = strOf [u, v] := fun p hp => by
  unfold pairsRes at hp
  obtain ⟨x, hx, rfl⟩ := List.mem_map.1 hp
  have h1 := (putAll_mem _ _ _).1 hx
  rcases h1 with h1 | h1
  · cases h1
  · obtain ⟨y, hy, rfl⟩ := List.mem_map.1 h1
    obtain ⟨⟨z, u, v, rfl⟩, _⟩ := xsRes_two y hy
    exact ⟨u, v, by rw [twoB_snoc]⟩
def inTo (ts : List ByteArray) (p : ByteArray) (k : Nat) : Bool := (ts.take k).any (sameB p)
theorem inTo_succ {ts : List ByteArray} {p : ByteArray} {k : Nat} (h : k < ts.length) : inTo ts p (k + 1) = (inTo ts p k || sameB p ts[k]) := by
  unfold inTo
  rw [List.take_succ_eq_append_getElem h, List.any_append]
  simp
def inAll (ts : List ByteArray) (p : ByteArray) : Bool := ts.any (sameB p)
theorem inTo_all (ts : List ByteArray) (p : ByteArray) : inTo ts p ts.length = inAll ts p := by
  unfold inTo inAll
  rw [List.take_length]
theorem inAll_mem (ts : List ByteArray) (x : Txt) : inAll ts (strOf x) = decide (x ∈ psOf ts) := by
  rw [Bool.eq_iff_iff, decide_eq_true_eq]
  unfold inAll psOf
  rw [List.any_eq_true, List.mem_map]
  constructor
  · rintro ⟨q, hq, he⟩
    refine ⟨q, hq, ?_⟩
    rw [← sameB_iff.1 he]
    rfl
  · rintro ⟨q, hq, rfl⟩
    exact ⟨q, hq, sameB_iff.2 rfl⟩
def keepsB (l : List Seg) (t : ByteArray) (ts : List ByteArray) : Bool := (traceB l t.data.toList).isSome && graphB l ts && (pairsRes l t).all (inAll ts)
theorem keeps_no {l : List Seg} {t : ByteArray} {ts : List ByteArray} {p : ByteArray} (h1 : p ∈ pairsRes l t) (h2 : inAll ts p = false) : keepsB l t ts = false := by
  unfold keepsB
  rw [Bool.and_eq_false_iff]
  right
  rw [List.all_eq_false]
  exact ⟨p, h1, by rw [h2]; decide⟩
theorem keeps_all {l : List Seg} {t : ByteArray} {ts : List ByteArray} (h : ∀ p ∈ pairsRes l t, inAll ts p = true) : keepsB l t ts = ((traceB l t.data.toList).isSome && graphB l ts) := by
  unfold keepsB
  rw [List.all_eq_true.2 h, Bool.and_true]

set_option maxRecDepth 100000 in
set_option maxHeartbeats 4000000 in
theorem specKeeps_any (A : Option Addr) (l : List Seg) (c : Nat) (t : ByteArray) (A2 : Option Addr) (ts : List ByteArray) (c2 : Nat) (w : World) (hw : Segs w w.heap.size A l) (ht : St.Strs w w.heap.size A2 ts) (hl : l.length ≤ 1048576) (hn : Short l) (htl : ts.length ≤ 1048576) (hts : ∀ s ∈ ts, s.size ≤ 1048576) (hs : t.size ≤ 1048576) :
    Calls Try.prog 34 #[.slice A l.length c, .string t, .slice A2 ts.length c2] w fun e w' => e = .returned (.bool (keepsB l t ts)) ∧ Below w.heap.size w w' := by
  have HTS := Lib.hid hts
  have HQ := Lib.hid (specPairsOf_any A l c t w hw hl hn hs)
  unfold PairsPost at HQ
  have HW : Hid (Segs w w.heap.size A l) := hw
  have HT : Hid (St.Strs w w.heap.size A2 ts) := ht
  have HG := Lib.hid (fun W h1 h2 => specGraph_any A l c A2 ts c2 W h1 h2 hl hn htl hts)
  have HNO := Lib.hid (fun p h1 h2 => keeps_no (l := l) (t := t) (ts := ts) (p := p) h1 h2)
  have HALL := Lib.hid (fun h => keeps_all (l := l) (t := t) (ts := ts) h)
  have hp80 := keptRes_le l t
  have hps : ∀ p ∈ pairsRes l t, p.size ≤ 1048576 := fun p hp => by
    obtain ⟨u, v, rfl⟩ := keptRes_two l t p hp
    exact (by decide : 2 ≤ 1048576)
  clear hw ht hn hts
  generalize pairsRes l t = ps at *
  generalize (traceB l t.data.toList).isSome = d at *
  generalize hbb : keepsB l t ts = ans at *
  clear hbb
  generalize graphB l ts = gb at *
  go_enter Try.func34, Try.ntmps34
  go_wp2_with fail
  refine Calls.mono HQ.out ?_
  rintro e w1 ⟨v, rfl, ho, hb1⟩
  obtain ⟨A3, cap3, rfl, hs3⟩ := St.textsForm ho
  have HS3 := Lib.hid hs3
  have HB1 := Lib.hid hb1
  clear ho hs3 hb1
  go_wp2
  go_loopw [22] (fun i wr => ∃ k : Nat, k ≤ ps.length ∧ i = .int .i64 k ∧ Hid (∀ j (h : j < ps.length), j < k → inAll ts ps[j] = true) ∧ Hid (Below w1.heap.size w1 wr))
    (fun i _ => ps.length - (intOf i).toNat)
  case atStart => exact ⟨0, Nat.zero_le _, rfl, fun j _ hj => absurd hj (Nat.not_lt_zero _), Below.refl _ _⟩
  case round =>
    obtain ⟨k, hk, rfl, HP, HB⟩ := hrel
    have hk0 : (0 : Int) ≤ (k : Int) := Int.natCast_nonneg _
    by_cases hlt : k < ps.length
    · have hlt' : (k : Int) < (ps.length : Int) := by omega
      obtain ⟨b, o, rfl, hB, hc⟩ := HS3.out (by omega)
      have c0 := hc k ps[k] (List.getElem?_eq_getElem hlt)
      rw [← HB.out.cell (p := ⟨b, o + k, none⟩) hB] at c0
      have hsz := hps ps[k] (List.getElem_mem hlt)
      have HNK : Hid (inAll ts ps[k] = false → ans = false) := HNO.out ps[k] (List.getElem_mem hlt)
      have HPK : Hid (inAll ts ps[k] = true → ∀ j (h : j < ps.length), j < k + 1 → inAll ts ps[j] = true) := fun h1 j h hj => by
        by_cases hjk : j = k
        · subst hjk
          exact h1
        · exact HP.out j h (by omega)
      have HI0 : Hid (inTo ts ps[k] 0 = false) := rfl
      have HIA := Lib.hid (inTo_all ts ps[k])
      have HIS := Lib.hid (fun m h => inTo_succ (ts := ts) (p := ps[k]) (k := m) h)
      clear hc hps
      generalize ps[k] = p at *
      go_wp2
      go_loopw [28, 11] (fun i v wl => ∃ m : Nat, m ≤ ts.length ∧ i = .int .i64 m ∧ v = .bool (inTo ts p m) ∧ Hid (Below w1.heap.size w1 wl))
        (fun i _ _ => ts.length - (intOf i).toNat)
      case atStart => exact ⟨0, Nat.zero_le _, rfl, by rw [HI0.out], HB⟩
      case round =>
        obtain ⟨m, hm, rfl, rfl, HBL⟩ := hrel
        have hm0 : (0 : Int) ≤ (m : Int) := Int.natCast_nonneg _
        by_cases hlm : m < ts.length
        · have hlm' : (m : Int) < (ts.length : Int) := by omega
          obtain ⟨b2, o2, rfl, hB2, hc2⟩ := HT.out (by omega)
          have c2 := hc2 m ts[m] (List.getElem?_eq_getElem hlm)
          have HBW : Hid (Below w.heap.size w wr) := HB1.out.trans (HBL.out.mono HB1.out.size)
          rw [← HBW.out.cell (p := ⟨b2, o2 + m, none⟩) hB2] at c2
          have hsq := HTS.out ts[m] (List.getElem_mem hlm)
          have HSM := Lib.hid (HIS.out m hlm)
          unfold sameB at HSM
          clear hc2
          generalize ts[m] = q at *
          cases hi : inTo ts p m with
          | true =>
            rw [hi, Bool.true_or] at HSM
            go_wp2
            go_roundw
            case rel => exact ⟨m + 1, by omega, by go_num, by rw [HSM.out], by first | exact HBL | exact HBL.out.drew⟩
            case measure => simp [intOf]; omega
          | false =>
            rw [hi, Bool.false_or] at HSM
            go_wp2
            go_roundw
            case rel => exact ⟨m + 1, by omega, by go_num, by rw [HSM.out], by first | exact HBL | exact HBL.out.drew⟩
            case measure => simp [intOf]; omega
        · obtain rfl : m = ts.length := by omega
          rw [HIA.out]
          cases hi : inAll ts p with
          | true =>
            have HP1 := Lib.hid (HPK.out hi)
            go_wp2
            go_roundw
            case rel => exact ⟨k + 1, by omega, by go_num, HP1, HBL⟩
            case measure => simp [intOf]; omega
          | false =>
            have HE := Lib.hid (HNK.out hi)
            have HBW : Hid (Below w.heap.size w wr) := HB1.out.trans (HBL.out.mono HB1.out.size)
            go_wp2
            go_ret
            exact ⟨ret_bool HE.out.symm, HBW.out⟩
    · obtain rfl : k = ps.length := by omega
      have HE := Lib.hid (HALL.out (fun p hp => by
        obtain ⟨j, hj, rfl⟩ := List.getElem_of_mem hp
        exact HP.out j hj hj))
      have HBW : Hid (Below w.heap.size w wr) := HB1.out.trans (HB.out.mono HB1.out.size)
      cases hd : d with
      | false =>
        rw [hd, Bool.false_and] at HE
        go_wp2
        go_ret
        exact ⟨ret_bool HE.out.symm, HBW.out⟩
      | true =>
        rw [hd, Bool.true_and] at HE
        go_wp2_with fail
        refine Calls.mono (HG.out _ ((HW.out.below HBW.out).more HBW.out.size) ((HT.out.below HBW.out).more HBW.out.size)) ?_
        rintro e w5 ⟨rfl, hb5⟩
        have HB5 : Hid (Below w.heap.size w w5) := HBW.out.trans (hb5.mono HBW.out.size)
        go_wp2
        go_ret
        exact ⟨ret_bool HE.out.symm, HB5.out⟩

end Go.Proofs.Ytnknfpfpjijemaa
/- The program's KeepsTo. -/
namespace Go.Proofs.Ytnknfpfpjijemaa
open Go.RowKit Go.Shelf

theorem SetVal.look {X : World} {B N : Nat} {v : Value} {xs : List Txt} (h : SetVal X B N v xs) (u : UInt8) :
    (Instr.lookup 57 v (.string ⟨#[u]⟩) false).run Try.prog X = .ok (.bool (decide (([u] : Txt) ∈ xs))) X := by
  rcases h with ⟨rfl, rfl⟩ | ⟨c, rfl, _, _, hs⟩
  · exact Maps.look_nil (c := false) (Maps.string_keyed Try.underlying9) Try.underlying57 (zero_bool X) (key_one u)
  · exact hs.look [u] (by rw [str_size]; exact (by decide : 1 ≤ 1000))

theorem SetVal.looks {X : World} {B N : Nat} {v : Value} {xs : List Txt} (h : SetVal X B N v xs) (hN : N ≤ X.heap.size) (u : UInt8) (n : Nat) :
    (Instr.lookup 57 v (.string ⟨#[u]⟩) false).run Try.prog (X.drewN n) = .ok (.bool (decide (([u] : Txt) ∈ xs))) (X.drewN n) := by
  have h1 : SetVal (X.drewN n) B N v xs := by
    rcases h with h | ⟨c, h2, h3, h4, h5⟩
    · exact .inl h
    · exact .inr ⟨c, h2, h3, h4, h5.block ((below_drewN (Below.refl X.heap.size X) n).block c (by omega))⟩
  exact h1.look u
theorem GraphAt.looks {X : World} {B N b : Nat} {ps : List Txt} (h : GraphAt X B N b ps) (hN : N ≤ X.heap.size) (u : UInt8) :
    ∃ v, SetVal X B N v ((calleds ps u).map fun v => [v]) ∧ ∀ n, (Instr.lookup 52 (.map (some b)) (.string ⟨#[u]⟩) false).run Try.prog (X.drewN n) = .ok v (X.drewN n) := by
  obtain ⟨⟨D, k, hk, ⟨es, clock, hb, r⟩, hu⟩, h1, h2⟩ := h
  have hl : ∀ n, ∃ v qs, (Instr.lookup 52 (.map (some b)) (.string ⟨#[u]⟩) false).run Try.prog (X.drewN n) = .ok v (X.drewN n) ∧ mapElem v = some (D.atKey (.string [u]) .nil, qs) := fun n => by
    have ho : (X.drewN n).ownsMap Try.prog 9 mapElem b k D := ⟨es, clock, ((below_drewN (Below.refl X.heap.size X) n).block b (by omega)).trans hb, r⟩
    obtain ⟨v, qs, hrun, hv⟩ := ho.lookup (Maps.string_keyed Try.underlying9) Try.underlying52 (zero_set _) (show mapElem (.map none) = some (.nil, []) from rfl) (key_one u)
    exact ⟨v, qs, hrun, hv⟩
  rcases hu u with ⟨h3, h4⟩ | ⟨c, h3, h4, h5, h6, h7, h8⟩
  · refine ⟨.map none, .inl ⟨rfl, by rw [h3]; rfl⟩, fun n => ?_⟩
    obtain ⟨v, qs, hrun, hv⟩ := hl n
    rw [h4] at hv
    rw [hrun, mapElem_nil hv]
  · refine ⟨.map (some c), .inr ⟨c, rfl, h4, h5, h7⟩, fun n => ?_⟩
    obtain ⟨v, qs, hrun, hv⟩ := hl n
    rw [h3] at hv
    rw [hrun, mapElem_at hv]

attribute [local irreducible] waysB in
set_option maxRecDepth 100000 in
set_option maxHeartbeats 4000000 in
theorem implKeeps_any (A : Option Addr) (l : List Seg) (c : Nat) (t : ByteArray) (A2 : Option Addr) (ts : List ByteArray) (c2 : Nat) (w : World) (hw : Segs w w.heap.size A l) (ht : St.Strs w w.heap.size A2 ts) (hl : l.length ≤ 1048576) (hlc : l.length ≤ c) (hcm : c ≤ 9223372036854775807) (hn : Short l) (htl : ts.length ≤ 1048576) (hts : ∀ s ∈ ts, s.size ≤ 1048576) (hs : t.size ≤ 1048576) :
    Calls Try.prog 35 #[.slice A l.length c, .string t, .slice A2 ts.length c2] w fun e w' => e = .returned (.bool (keepsB l t ts)) ∧ Below w.heap.size w w' := by
  have HQ := Lib.hid (graphOf_any A l c A2 ts c2 w hw ht hl hlc hcm hn htl hts)
  unfold GraphPost at HQ
  have HPO := Lib.hid (fun W h => implPairsOf_any A l c t W h hl hlc hcm hn hs)
  unfold PairsPost at HPO
  have HW : Hid (Segs w w.heap.size A l) := hw
  have HBAD : Hid (graphB l ts = false → keepsB l t ts = false) := fun h => by
    show keepsB l t ts = false
    unfold keepsB
    rw [h, Bool.and_false, Bool.false_and]
  have HBD : Hid ((traceB l t.data.toList).isSome = false → keepsB l t ts = false) := fun h => by
    show keepsB l t ts = false
    unfold keepsB
    rw [h, Bool.false_and, Bool.false_and]
  have HNO := Lib.hid (fun p h1 h2 => keeps_no (l := l) (t := t) (ts := ts) (p := p) h1 h2)
  have HALL := Lib.hid (fun h => keeps_all (l := l) (t := t) (ts := ts) h)
  have hp80 := keptRes_le l t
  have hps := keptRes_two l t
  have HMEM : Hid (graphB l ts = true → ∀ u v : UInt8, decide (([v] : Txt) ∈ (calleds (psOf ts) u).map fun c => [c]) = inAll ts (strOf [u, v])) := fun h u v => by
    rw [inAll_mem, singles_mem]
    simp only [calleds_iff (graph_is h)]
  clear hw ht hn hts hs
  generalize pairsRes l t = ps at *
  generalize hbb : keepsB l t ts = ans at *
  clear hbb
  generalize (traceB l t.data.toList).isSome = d at *
  go_enter Try.func35, Try.ntmps35
  go_wp2_with fail
  refine Calls.mono HQ.out ?_
  rintro e w1 ⟨hb1, (⟨hg, rfl⟩ | ⟨hg, b, rfl, hGA⟩)⟩
  · have HE := Lib.hid (HBAD.out hg)
    have HB1 := Lib.hid hb1
    clear hg hb1
    go_wp2_with fail
    refine Calls.mono (HPO.out _ ((HW.out.below HB1.out).more HB1.out.size)) ?_
    rintro e w2 ⟨v, rfl, ho, hb2⟩
    have HB2 : Hid (Below w.heap.size w w2) := HB1.out.trans (hb2.mono HB1.out.size)
    clear ho hb2
    go_wp2
    go_ret
    exact ⟨ret_bool HE.out.symm, HB2.out⟩
  · have HM := Lib.hid (HMEM.out hg)
    have HB1 := Lib.hid hb1
    have HGA := Lib.hid hGA
    have HGT : Hid ((d && graphB l ts) = d) := by
      show (d && graphB l ts) = d
      rw [hg, Bool.and_true]
    clear hg hb1 hGA
    go_wp2_with fail
    refine Calls.mono (HPO.out _ ((HW.out.below HB1.out).more HB1.out.size)) ?_
    rintro e w2 ⟨v, rfl, ho, hb2⟩
    obtain ⟨A3, cap3, rfl, hs3⟩ := St.textsForm ho
    have HS3 := Lib.hid hs3
    have HB12 := Lib.hid hb2
    have HB2 : Hid (Below w.heap.size w w2) := HB1.out.trans (hb2.mono HB1.out.size)
    clear ho hs3 hb2
    cases hd : d with
    | false =>
      have HE := Lib.hid (HBD.out hd)
      go_wp2
      go_ret
      exact ⟨ret_bool HE.out.symm, HB2.out⟩
    | true =>
      go_wp2
      go_loopw [33] (fun i wr => ∃ k : Nat, k ≤ ps.length ∧ i = .int .i64 k ∧ Hid (∀ j (h : j < ps.length), j < k → inAll ts ps[j] = true) ∧ Hid (Below w2.heap.size w2 wr))
        (fun i _ => ps.length - (intOf i).toNat)
      case atStart => exact ⟨0, Nat.zero_le _, rfl, fun j _ hj => absurd hj (Nat.not_lt_zero _), by first | exact Below.refl _ _ | exact (Below.refl _ _).drew⟩
      case round =>
        obtain ⟨k, hk, rfl, HP, HB⟩ := hrel
        have hk0 : (0 : Int) ≤ (k : Int) := Int.natCast_nonneg _
        have HBW : Hid (Below w.heap.size w wr) := HB2.out.trans (HB.out.mono HB2.out.size)
        by_cases hlt : k < ps.length
        · have hlt' : (k : Int) < (ps.length : Int) := by omega
          obtain ⟨b9, o, rfl, hB, hc⟩ := HS3.out (by omega)
          have c0 := hc k ps[k] (List.getElem?_eq_getElem hlt)
          rw [← HB.out.cell (p := ⟨b9, o + k, none⟩) hB] at c0
          obtain ⟨u, v, hp⟩ := hps ps[k] (List.getElem_mem hlt)
          have HNK : Hid (inAll ts ps[k] = false → ans = false) := HNO.out ps[k] (List.getElem_mem hlt)
          have HPK : Hid (inAll ts ps[k] = true → ∀ j (h : j < ps.length), j < k + 1 → inAll ts ps[j] = true) := fun h1 j h hj => by
            by_cases hjk : j = k
            · subst hjk
              exact h1
            · exact HP.out j h (by omega)
          have HGW : GraphAt wr w.heap.size w1.heap.size b (psOf ts) := (HGA.out.below HB12.out).below (HB.out.mono HB12.out.size)
          obtain ⟨g, hsv, hl1⟩ := HGW.looks (by have h1 := HB12.out.size; have h2 := HB.out.size; omega) u
          have hl2 := hsv.looks (by have h1 := HB12.out.size; have h2 := HB.out.size; omega) v
          simp only [HM.out u v] at hl2
          rw [hp] at HNK HPK c0
          obtain ⟨hz2, hx1, hx2⟩ := two_cut u v
          clear hc hsv HGW hp
          generalize strOf [u, v] = p at *
          generalize (⟨#[u]⟩ : ByteArray) = bu at *
          generalize (⟨#[v]⟩ : ByteArray) = bv at *
          cases hi : inAll ts p with
          | true =>
            have HP1 := Lib.hid (HPK.out hi)
            simp only [hi] at hl2
            go_wp2_with fail
            go_quiet (fail)
            go_wp2
            go_roundw
            case rel => exact ⟨k + 1, by omega, by go_num, HP1, below_drewN HB.out _⟩
            case measure => simp [intOf]; omega
          | false =>
            have HE := Lib.hid (HNK.out hi)
            simp only [hi] at hl2
            go_wp2_with fail
            go_quiet (fail)
            go_wp2
            go_ret
            exact ⟨ret_bool HE.out.symm, below_drewN HBW.out _⟩
        · obtain rfl : k = ps.length := by omega
          have HE := Lib.hid (HALL.out (fun p hp => by
            obtain ⟨j, hj, rfl⟩ := List.getElem_of_mem hp
            exact HP.out j hj hj))
          rw [HGT.out, hd] at HE
          go_wp2
          go_ret
          exact ⟨ret_bool HE.out.symm, HBW.out⟩

end Go.Proofs.Ytnknfpfpjijemaa
/- The walk of the law FnExactKeepsTo. -/
namespace Go.Proofs.Ytnknfpfpjijemaa
open Go.RowKit

set_option maxRecDepth 100000 in
set_option maxHeartbeats 1000000 in
theorem lawKeepsTo_any (A : Option Addr) (l : List Seg) (c : Nat) (s : ByteArray) (A2 : Option Addr) (ts : List ByteArray) (c2 : Nat) (w : World) (hw : Segs w w.heap.size A l) (hl : l.length ≤ maxLen) (hn : Short l) (ht : St.Strs w w.heap.size A2 ts) (htl : ts.length ≤ maxLen) (hts : Shorts ts) (hsz : s.size ≤ maxLen) :
    Calls Try.prog 9 #[.slice A l.length c, .string s, .slice A2 ts.length c2] w fun e w' => e = .returned (.bool true) ∧ Below w.heap.size w w' := by
  have HW : Hid (Segs w w.heap.size A l) := hw
  have HT : Hid (St.Strs w w.heap.size A2 ts) := ht
  clear hw ht
  unfold maxLen at hsz
  by_cases hbig : 1048576 < s.size
  · go_enter Try.func9, Try.ntmps9
    go_wp2
    go_ret
    exact ⟨rfl, Below.refl _ _⟩
  by_cases hs : sizeLeft l < 0
  · go_enter Try.func9, Try.ntmps9
    go_wp2_with fail
    refine (szSegmentS_any _ _ _ _ HW.out hl hn).mono ?_
    rintro e w1 ⟨rfl, hb1⟩
    go_wp2
    go_ret
    exact ⟨rfl, hb1⟩
  have hlen := sizeLeft_len hs
  have hsl := sizeLeft_le l
  have hlm : l.length ≤ 9223372036854775807 := Nat.le_trans hlen (by decide)
  by_cases hs2 : textsLeft ts (sizeLeft l) < 0
  · go_enter Try.func9, Try.ntmps9
    go_wp2_with fail
    refine (szSegmentS_any _ _ _ _ HW.out hl hn).mono ?_
    rintro e w1 ⟨rfl, hb1⟩
    have HB1 := Lib.hid hb1
    clear hb1
    generalize sizeLeft l = lft at *
    go_wp2_with fail
    refine (szStringS_any A2 ts c2 lft _ ((HT.out.below HB1.out).more HB1.out.size) htl hts (by omega) hsl).mono ?_
    rintro e w2 ⟨rfl, hb2⟩
    have HB2 : Hid (Below w.heap.size w w2) := HB1.out.trans (hb2.mono HB1.out.size)
    clear hb2
    go_wp2
    go_ret
    exact ⟨rfl, HB2.out⟩
  obtain ⟨htl1, hts1⟩ := textsLeft_ok hsl hs2
  have HSP := Lib.hid (fun A A2 c c2 W h1 h2 => specKeeps_any A l c s A2 ts c2 W h1 h2 hlen hn htl1 hts1 (Nat.le_of_not_lt hbig))
  have HIM := Lib.hid (fun A A2 c2 W h1 h2 => implKeeps_any A l l.length s A2 ts c2 W h1 h2 hlen (Nat.le_refl _) hlm hn htl1 hts1 (Nat.le_of_not_lt hbig))
  generalize keepsB l s ts = ans at HSP HIM
  go_enter Try.func9, Try.ntmps9
  go_wp2_with fail
  refine (szSegmentS_any _ _ _ _ HW.out hl hn).mono ?_
  rintro e w1 ⟨rfl, hb1⟩
  have HB1 := Lib.hid hb1
  clear hb1
  generalize sizeLeft l = lft at *
  go_wp2_with fail
  refine (szStringS_any A2 ts c2 lft _ ((HT.out.below HB1.out).more HB1.out.size) htl hts (by omega) hsl).mono ?_
  rintro e w2 ⟨rfl, hb2⟩
  have HB2 : Hid (Below w.heap.size w w2) := HB1.out.trans (hb2.mono HB1.out.size)
  clear hb2
  go_wp2_with fail
  refine (toSegmentS_any _ _ _ _ ((HW.out.below HB2.out).more HB2.out.size) hlen).mono ?_
  rintro e w3 ⟨rfl, hb3, hx3⟩
  have HB3 : Hid (Below w.heap.size w w3) := HB2.out.trans (hb3.mono HB2.out.size)
  have HX := Lib.hid hx3
  clear hb3 hx3 HB2
  go_wp2_with fail
  refine (toStringS_any _ _ _ _ ((HT.out.below HB3.out).more HB3.out.size) htl1).mono ?_
  rintro e w4 ⟨rfl, hb4, hx4⟩
  have HB4 : Hid (Below w.heap.size w w4) := HB3.out.trans (hb4.mono HB3.out.size)
  have HY : Hid (St.Strs w4 w4.heap.size (some ⟨w3.heap.size, 0, none⟩) ts) := strsOf hx4
  have HX := Lib.hid ((HX.out.below hb4).more hb4.size)
  clear hb4 hx4 HB3
  go_wp2_with fail
  refine (HSP.out _ _ _ _ _ HX.out HY.out).mono ?_
  rintro e w5 ⟨rfl, hb5⟩
  have HB5 : Hid (Below w.heap.size w w5) := HB4.out.trans (hb5.mono HB4.out.size)
  clear hb5 HX HY HB4 HSP
  go_wp2_with fail
  refine (toSegmentS_any _ _ _ _ ((HW.out.below HB5.out).more HB5.out.size) hlen).mono ?_
  rintro e w6 ⟨rfl, hb6, hx6⟩
  have HB6 : Hid (Below w.heap.size w w6) := HB5.out.trans (hb6.mono HB5.out.size)
  have HX := Lib.hid hx6
  clear hb6 hx6 HB5
  go_wp2_with fail
  refine (toStringS_any _ _ _ _ ((HT.out.below HB6.out).more HB6.out.size) htl1).mono ?_
  rintro e w7 ⟨rfl, hb7, hx7⟩
  have HB7 : Hid (Below w.heap.size w w7) := HB6.out.trans (hb7.mono HB6.out.size)
  have HY : Hid (St.Strs w7 w7.heap.size (some ⟨w6.heap.size, 0, none⟩) ts) := strsOf hx7
  have HX := Lib.hid ((HX.out.below hb7).more hb7.size)
  clear hb7 hx7 HB6
  go_wp2_with fail
  refine (HIM.out _ _ _ _ HX.out HY.out).mono ?_
  rintro e w8 ⟨rfl, hb8⟩
  have HB8 : Hid (Below w.heap.size w w8) := HB7.out.trans (hb8.mono HB7.out.size)
  have HX := Lib.hid ((HX.out.below hb8).more hb8.size)
  have HY := Lib.hid ((HY.out.below hb8).more hb8.size)
  clear hb8 HB7 HIM
  go_wp2_with fail
  refine (toSegmentS_any _ _ _ _ ((HW.out.below HB8.out).more HB8.out.size) hlen).mono ?_
  rintro e w9 ⟨rfl, hb9, hx9⟩
  have HB9 : Hid (Below w.heap.size w w9) := HB8.out.trans (hb9.mono HB8.out.size)
  have HX2 := Lib.hid hx9
  have HX := Lib.hid ((HX.out.below hb9).more hb9.size)
  have HY := Lib.hid ((HY.out.below hb9).more hb9.size)
  clear hb9 hx9 HB8
  go_wp2_with fail
  refine (eqSegmentS_same _ _ _ _ _ _ HX.out HX2.out hlen).mono ?_
  rintro e w10 ⟨rfl, hb10⟩
  have HB10 : Hid (Below w.heap.size w w10) := HB9.out.trans (hb10.mono HB9.out.size)
  have HY := Lib.hid ((HY.out.below hb10).more hb10.size)
  clear hb10 HB9 HX HX2
  go_wp2_with fail
  refine (toStringS_any _ _ _ _ ((HT.out.below HB10.out).more HB10.out.size) htl1).mono ?_
  rintro e w11 ⟨rfl, hb11, hx11⟩
  have HB11 : Hid (Below w.heap.size w w11) := HB10.out.trans (hb11.mono HB10.out.size)
  have HY2 : Hid (St.Strs w11 w11.heap.size (some ⟨w10.heap.size, 0, none⟩) ts) := strsOf hx11
  have HY := Lib.hid ((HY.out.below hb11).more hb11.size)
  clear hb11 hx11 HB10
  go_wp2_with fail
  refine (St.eqStringS_same _ _ _ _ _ _ HY.out HY2.out htl1).mono ?_
  rintro e w12 ⟨rfl, hb12⟩
  have HB12 : Hid (Below w.heap.size w w12) := HB11.out.trans (hb12.mono HB11.out.size)
  clear hb12 HB11 HY HY2
  go_wp2
  go_ret
  exact ⟨rfl, HB12.out⟩

end Go.Proofs.Ytnknfpfpjijemaa
