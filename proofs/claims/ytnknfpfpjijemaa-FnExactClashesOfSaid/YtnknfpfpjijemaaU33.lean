/- Joined: Jp Jq Jr7 Js. -/
import Derived.Test.YtnknfpfpjijemaaU31
import Derived.Test.YtnknfpfpjijemaaU32
import Derived.Test.YtnknfpfpjijemaaU25
import Derived.Maps.RangeWalk
/- The reference: names in the order of the tree, what is live, ReachedFrom and HasRings. -/
namespace Go.Proofs.Ytnknfpfpjijemaa
open Go.RowKit

theorem taken_index {l : List Seg} (hv : validB l = true) (s : ByteArray) : takenB l s = decide (0 ≤ indexB l s) := by
  unfold indexB
  rw [if_pos hv]
  exact (seekFrom_has s l 0).symm
theorem taken_one {l : List Seg} (hv : validB l = true) {s : ByteArray} (h : takenB l s = true) : ∃ c, s = ⟨#[c]⟩ := by
  unfold takenB at h
  obtain ⟨x, hx, he⟩ := List.any_eq_true.1 h
  obtain ⟨c, hc, _⟩ := nameOk_one (validB_names hv hx)
  exact ⟨c, by rw [← sameB_iff.1 he, hc]⟩
/-- Which segments are among some names, in the order of the tree. -/
def inB7 (l : List Seg) (bs : List UInt8) (i : Nat) : Bool := decide (byteOf l i ∈ bs)
def sortedB (l : List Seg) (bs : List UInt8) : ByteArray := namesAt l (selIx (inB7 l bs) l.length)

set_option maxRecDepth 100000 in
set_option maxHeartbeats 2000000 in
theorem l7Sorted_any (A : Option Addr) (l : List Seg) (c : Nat) (bs : List UInt8) (w : World) (hw : Segs w w.heap.size A l) (hv : validB l = true) (hb : bs.length ≤ 1000) :
    Calls Try.prog 45 #[.slice A l.length c, .string (strOf bs)] w fun e w' => e = .returned (.string (sortedB l bs)) ∧ Below w.heap.size w w' := by
  have HW : Hid (Segs w w.heap.size A l) := hw
  have HV := Lib.hid hv
  have h8 := (valid_all hv).2.1
  have hs1 : (strOf bs).size ≤ 1000 := by rw [str_size]; exact hb
  have HG : Hid (∀ i, decide (0 ≤ findB (strOf bs) (byteOf l i)) = inB7 l bs i) := fun i => by
    unfold inB7
    rw [decide_eq_decide, findB_lo]
    exact Iff.rfl
  unfold sortedB
  generalize strOf bs = Ls at *
  generalize inB7 l bs = g at *
  clear hw hv
  go_enter Try.func45, Try.ntmps45
  go_wp2
  go_loopw [5, 10] (fun o i wr => ∃ k : Nat, k ≤ l.length ∧ i = .int .i64 k ∧ o = .string (namesAt l (selIx g k)) ∧ Hid (Below w.heap.size w wr))
    (fun _ i _ => l.length - (intOf i).toNat)
  case atStart => exact ⟨0, Nat.zero_le _, rfl, rfl, Below.refl _ _⟩
  case round =>
    obtain ⟨k2, hk2, rfl, rfl, HB2⟩ := hrel
    by_cases hlt2 : k2 < l.length
    · obtain ⟨b, o, rfl, hB, hc⟩ := HW.out (by omega)
      obtain ⟨c0, c1, c2⟩ := hc k2 l[k2] (List.getElem?_eq_getElem hlt2)
      clear hc
      rw [← HB2.out.cell hB] at c0 c1 c2
      have hn1 := (nmAt_one HV.out hlt2).2
      have HG1 := Lib.hid (HG.out k2)
      have HSK := Lib.hid (selIx_succ g k2)
      have HNS : Hid (∀ js : List Nat, namesAt l (js ++ [k2]) = namesAt l js ++ ⟨#[byteOf l k2]⟩) := fun js => by rw [← hn1]; exact namesAt_snoc js hlt2
      have hln : (namesAt l (selIx g k2)).size ≤ 1048576 := by
        have h1 := namesAt_len (valid_names HV.out) (selIx g k2)
        have h2 := selIx_len g k2
        omega
      rw [hn1] at c0
      have hb2 := HB2.out.size
      generalize byteOf l k2 = bt at *
      generalize l[k2] = sg at *
      have HBA : Hid (Below w.heap.size w (wr.alloc (.cells #[.string ⟨#[bt]⟩, .int .i64 sg.size, .int .i64 sg.par] 63))) := HB2.out.alloc hb2 _
      go_wp2_with fail
      refine (l13Find_any Ls bt _ (by unfold maxLen; omega)).mono ?_
      rintro e w3 ⟨rfl, rfl⟩
      by_cases hf : 0 ≤ findB Ls bt
      · have HS1 : Hid (selIx g (k2 + 1) = selIx g k2 ++ [k2]) := by
          show _ = _
          rw [HSK.out, ← HG1.out, decide_eq_true hf, if_pos rfl]
        clear HG1 HSK
        have hbs : (⟨#[bt]⟩ : ByteArray).size = 1 := rfl
        go_wp2
        go_roundw
        case rel => exact ⟨k2 + 1, by omega, by go_num, by rw [HS1.out, HNS.out], HBA⟩
        case measure => simp [intOf]; omega
      · have HS1 : Hid (selIx g (k2 + 1) = selIx g k2) := by
          show _ = _
          rw [HSK.out, ← HG1.out, decide_eq_false hf, if_neg (by decide), List.append_nil]
        clear HG1 HSK
        go_wp2
        go_roundw
        case rel => exact ⟨k2 + 1, by omega, by go_num, by rw [HS1.out], HBA⟩
        case measure => simp [intOf]; omega
    · obtain rfl : k2 = l.length := by omega
      go_wp2
      go_ret
      exact ⟨rfl, HB2.out⟩

/-- The root, and all that is reached from it. -/
def liveL (l : List Seg) (ps : List Txt) : List UInt8 := rootB l :: reachL ps (rootB l)

attribute [local irreducible] waysB in
set_option maxRecDepth 100000 in
set_option maxHeartbeats 2000000 in
theorem l7Live_any (A : Option Addr) (l : List Seg) (c : Nat) (A2 : Option Addr) (ts : List ByteArray) (c2 : Nat) (w : World) (hw : Segs w w.heap.size A l) (ht : St.Strs w w.heap.size A2 ts) (hG : IsGraph l (psOf ts)) (hr : (reachL (psOf ts) (rootB l)).length ≤ 20) :
    Calls Try.prog 48 #[.slice A l.length c, .slice A2 ts.length c2] w fun e w' => e = .returned (.string (sortedB l (liveL l (psOf ts)))) ∧ Below w.heap.size w w' := by
  have HQ := Lib.hid (l7Reached_any l A2 ts c2 (rootB l) w hG ht)
  have HS := Lib.hid (l7Sorted_any A l c (liveL l (psOf ts)) w hw hG.valid (by unfold liveL; rw [List.length_cons]; omega))
  have hlp : (0 : Int) < (l.length : Int) := by have := (valid_all hG.valid).2.2; omega
  obtain ⟨b0, o0, rfl, hB0, c0⟩ := hw.root hG.valid
  have HC : Hid ((⟨#[rootB l]⟩ : ByteArray) ++ strOf (reachL (psOf ts) (rootB l)) = strOf (liveL l (psOf ts))) := bytes_cat [rootB l] (reachL (psOf ts) (rootB l))
  have hsz : (strOf (reachL (psOf ts) (rootB l))).size ≤ 20 := by rw [str_size]; exact hr
  have hb1 : (⟨#[rootB l]⟩ : ByteArray).size = 1 := rfl
  clear hw ht hG hr
  generalize strOf (reachL (psOf ts) (rootB l)) = Rs at *
  generalize sortedB l (liveL l (psOf ts)) = Ss at *
  generalize strOf (liveL l (psOf ts)) = Ls at *
  generalize (⟨#[rootB l]⟩ : ByteArray) = br at *
  go_enter Try.func48, Try.ntmps48
  go_wp2_with fail
  refine Calls.mono HQ.out ?_
  rintro e w1 ⟨rfl, rfl⟩
  go_wp2_with fail
  rw [HC.out]
  refine Calls.mono HS.out ?_
  rintro e w2 ⟨rfl, hb2⟩
  go_wp2
  go_ret
  exact ⟨rfl, hb2⟩

def reachOk (l : List Seg) (ts : List ByteArray) (s : ByteArray) : Bool := graphB l ts && takenB l s
def reachRes (l : List Seg) (ts : List ByteArray) (s : ByteArray) : ByteArray := if reachOk l ts s = true then sortedB l (reachL (psOf ts) (s.data.toList.headD 0)) else ⟨#[]⟩

theorem reachL_le {l : List Seg} {ps : List Txt} (h : IsGraph l ps) (u : UInt8) : (reachL ps u).length ≤ 20 := by
  unfold reachL
  rw [lasts_len]
  have := waysB_len (u := u) h.len
  omega

attribute [local irreducible] waysB in
set_option maxRecDepth 100000 in
set_option maxHeartbeats 2000000 in
theorem specReached_any (A : Option Addr) (l : List Seg) (c : Nat) (A2 : Option Addr) (ts : List ByteArray) (c2 : Nat) (s : ByteArray) (w : World) (hw : Segs w w.heap.size A l) (ht : St.Strs w w.heap.size A2 ts) (hl : l.length ≤ 1048576) (hn : Short l) (htl : ts.length ≤ 1048576) (hts : ∀ s ∈ ts, s.size ≤ 1048576) (_hs : s.size ≤ 1048576) :
    Calls Try.prog 13 #[.slice A l.length c, .slice A2 ts.length c2, .string s] w fun e w' => e = .returned (.tuple #[.string (reachRes l ts s), .bool (reachOk l ts s)]) ∧ Below w.heap.size w w' := by
  have HQ := Lib.hid (specGraph_any A l c A2 ts c2 w hw ht hl hn htl hts)
  have HI := Lib.hid (fun W h => l1Index_any A l c s W h hl hn)
  have HW : Hid (Segs w w.heap.size A l) := hw
  have HT : Hid (St.Strs w w.heap.size A2 ts) := ht
  clear hw ht hn hts
  cases hg : graphB l ts with
  | false =>
    rw [hg] at HQ
    have HR : Hid (reachRes l ts s = ⟨#[]⟩ ∧ reachOk l ts s = false) := by
      have h1 : reachOk l ts s = false := by unfold reachOk; rw [hg]; rfl
      exact ⟨by unfold reachRes; rw [if_neg (by rw [h1]; decide)], h1⟩
    rw [HR.out.1, HR.out.2]
    clear hg
    go_enter Try.func13, Try.ntmps13
    go_wp2_with fail
    refine Calls.mono HQ.out ?_
    rintro e w1 ⟨rfl, hb1⟩
    go_wp2
    go_ret2
    exact ⟨rfl, hb1⟩
  | true =>
    rw [hg] at HQ
    have hG := graph_is hg
    have HTI := Lib.hid (taken_index hG.valid s)
    cases htk : takenB l s with
    | false =>
      have hneg : indexB l s < 0 := by
        have h1 := HTI.out
        rw [htk] at h1
        have := of_decide_eq_false h1.symm
        omega
      have HR : Hid (reachRes l ts s = ⟨#[]⟩ ∧ reachOk l ts s = false) := by
        have h1 : reachOk l ts s = false := by unfold reachOk; rw [hg, htk]; rfl
        exact ⟨by unfold reachRes; rw [if_neg (by rw [h1]; decide)], h1⟩
      rw [HR.out.1, HR.out.2]
      clear hg htk hG HTI
      generalize indexB l s = ix at *
      go_enter Try.func13, Try.ntmps13
      go_wp2_with fail
      refine Calls.mono HQ.out ?_
      rintro e w1 ⟨rfl, hb1⟩
      go_wp2_with fail
      refine (HI.out _ ((HW.out.below hb1).more hb1.size)).mono ?_
      rintro e w2 ⟨rfl, hb2⟩
      have HB2 : Hid (Below w.heap.size w w2) := hb1.trans (hb2.mono hb1.size)
      clear hb1 hb2
      go_wp2
      go_ret2
      exact ⟨rfl, HB2.out⟩
    | true =>
      have hpos : ¬ indexB l s < 0 := by
        have h1 := HTI.out
        rw [htk] at h1
        have := of_decide_eq_true h1.symm
        omega
      obtain ⟨u, rfl⟩ := taken_one hG.valid htk
      have HR : Hid (reachRes l ts ⟨#[u]⟩ = sortedB l (reachL (psOf ts) u) ∧ reachOk l ts ⟨#[u]⟩ = true) := by
        have h1 : reachOk l ts ⟨#[u]⟩ = true := by unfold reachOk; rw [hg, htk]; rfl
        exact ⟨by unfold reachRes; rw [if_pos h1]; rfl, h1⟩
      rw [HR.out.1, HR.out.2]
      have HL := Lib.hid (fun W h => l7Reached_any l A2 ts c2 u W hG h)
      have HS := Lib.hid (fun W h => l7Sorted_any A l c (reachL (psOf ts) u) W h hG.valid (Nat.le_trans (reachL_le hG u) (by decide)))
      clear hg htk hG HTI
      generalize sortedB l (reachL (psOf ts) u) = Ss at *
      generalize strOf (reachL (psOf ts) u) = Rs at *
      generalize (⟨#[u]⟩ : ByteArray) = bu at *
      generalize indexB l bu = ix at *
      go_enter Try.func13, Try.ntmps13
      go_wp2_with fail
      refine Calls.mono HQ.out ?_
      rintro e w1 ⟨rfl, hb1⟩
      go_wp2_with fail
      refine (HI.out _ ((HW.out.below hb1).more hb1.size)).mono ?_
      rintro e w2 ⟨rfl, hb2⟩
      have HB2 : Hid (Below w.heap.size w w2) := hb1.trans (hb2.mono hb1.size)
      clear hb1 hb2
      go_wp2_with fail
      refine Calls.mono (HL.out _ ((HT.out.below HB2.out).more HB2.out.size)) ?_
      rintro e w3 ⟨rfl, rfl⟩
      go_wp2_with fail
      refine Calls.mono (HS.out _ ((HW.out.below HB2.out).more HB2.out.size)) ?_
      rintro e w4 ⟨rfl, hb4⟩
      have HB4 : Hid (Below w.heap.size w w4) := HB2.out.trans (hb4.mono HB2.out.size)
      clear hb4
      go_wp2
      go_ret2
      exact ⟨rfl, HB4.out⟩

end Go.Proofs.Ytnknfpfpjijemaa
/- The program's ReachedFrom. -/
namespace Go.Proofs.Ytnknfpfpjijemaa
open Go.RowKit Go.Shelf

attribute [local irreducible] waysB in
set_option maxRecDepth 100000 in
set_option maxHeartbeats 4000000 in
theorem implReached_any (A : Option Addr) (l : List Seg) (c : Nat) (A2 : Option Addr) (ts : List ByteArray) (c2 : Nat) (s : ByteArray) (w : World) (hw : Segs w w.heap.size A l) (ht : St.Strs w w.heap.size A2 ts) (hl : l.length ≤ 1048576) (hlc : l.length ≤ c) (hcm : c ≤ 9223372036854775807) (hn : Short l) (htl : ts.length ≤ 1048576) (hts : ∀ s ∈ ts, s.size ≤ 1048576) (_hs : s.size ≤ 1048576) :
    Calls Try.prog 12 #[.slice A l.length c, .slice A2 ts.length c2, .string s] w fun e w' => e = .returned (.tuple #[.string (reachRes l ts s), .bool (reachOk l ts s)]) ∧ Below w.heap.size w w' := by
  have HQ := Lib.hid (graphOf_any A l c A2 ts c2 w hw ht hl hlc hcm hn htl hts)
  unfold GraphPost at HQ
  have HN := Lib.hid (fun W h => nameTaken_any A l c s W h hl)
  have HW : Hid (Segs w w.heap.size A l) := hw
  clear hw ht hn hts
  go_enter Try.func12, Try.ntmps12
  go_wp2_with fail
  refine Calls.mono HQ.out ?_
  rintro e w1 ⟨hb1, (⟨hg, rfl⟩ | ⟨hg, b, rfl, hGA⟩)⟩
  · have HR : Hid (reachRes l ts s = ⟨#[]⟩ ∧ reachOk l ts s = false) := by
      have h1 : reachOk l ts s = false := by unfold reachOk; rw [hg]; rfl
      exact ⟨by unfold reachRes; rw [if_neg (by rw [h1]; decide)], h1⟩
    clear hg
    go_wp2
    go_ret2
    exact ⟨by rw [HR.out.1, HR.out.2]; rfl, hb1⟩
  · have hG := graph_is hg
    have HB1 := Lib.hid hb1
    have HGA := Lib.hid hGA
    cases htk : takenB l s with
    | false =>
      have HR : Hid (reachRes l ts s = ⟨#[]⟩ ∧ reachOk l ts s = false) := by
        have h1 : reachOk l ts s = false := by unfold reachOk; rw [hg, htk]; rfl
        exact ⟨by unfold reachRes; rw [if_neg (by rw [h1]; decide)], h1⟩
      rw [htk] at HN
      clear hg hG hb1 hGA htk
      go_wp2_with fail
      refine Calls.mono (HN.out _ ((HW.out.below HB1.out).more HB1.out.size)) ?_
      rintro e w2 ⟨rfl, hb2⟩
      have HB2 : Hid (Below w.heap.size w w2) := HB1.out.trans (hb2.mono HB1.out.size)
      go_wp2
      go_ret2
      exact ⟨by rw [HR.out.1, HR.out.2]; rfl, HB2.out⟩
    | true =>
      obtain ⟨u, rfl⟩ := taken_one hG.valid htk
      have HR : Hid (reachRes l ts ⟨#[u]⟩ = sortedB l (reachL (psOf ts) u) ∧ reachOk l ts ⟨#[u]⟩ = true) := by
        have h1 : reachOk l ts ⟨#[u]⟩ = true := by unfold reachOk; rw [hg, htk]; rfl
        exact ⟨by unfold reachRes; rw [if_pos h1]; rfl, h1⟩
      rw [htk] at HN
      have HV := Lib.hid hG.valid
      have h8 := (valid_all hG.valid).2.1
      have HRF := Lib.hid (fun W h1 h2 => reachedFrom_any w.heap.size w1.heap.size b l (psOf ts) u W hG h1 h2)
      have hr20 := reachL_le hG u
      have HG : Hid (∀ i, decide (([byteOf l i] : Txt) ∈ (reachL (psOf ts) u).map fun c => [c]) = inB7 l (reachL (psOf ts) u) i) := fun i => by
        unfold inB7
        rw [singles_mem]
      clear hg hG hb1 hGA htk
      unfold sortedB at HR
      generalize hRL : reachL (psOf ts) u = RL at *
      generalize hg7 : inB7 l RL = g at *
      clear hRL hg7
      generalize hbu : (⟨#[u]⟩ : ByteArray) = bu at *
      have HBU := Lib.hid hbu
      clear hbu
      go_wp2_with fail
      refine Calls.mono (HN.out _ ((HW.out.below HB1.out).more HB1.out.size)) ?_
      rintro e w2 ⟨rfl, hb2⟩
      have HB2 : Hid (Below w.heap.size w w2) := HB1.out.trans (hb2.mono HB1.out.size)
      have HGA2 : Hid (GraphAt w2 w.heap.size w1.heap.size b (psOf ts)) := HGA.out.below hb2
      have hz2 := hb2.size
      clear hb2
      go_wp2_with fail
      refine Calls.mono (HRF.out _ HGA2.out hz2) ?_
      rintro e w3 ⟨rfl, hs3, hb3⟩
      have HB3 : Hid (Below w.heap.size w w3) := HB2.out.trans (hb3.mono HB2.out.size)
      have HS3 := Lib.hid hs3
      have hc3 := hs3.lt
      clear hs3 hb3
      generalize w2.heap.size = c0 at *
      have hI0 : Hid (Lib.IsBuilderF 61 5 w3.heap.size w3.heap.size (Lib.byteCells (namesAt l (selIx g 0)).data.toList) (w3.alloc (.cells #[.pointer none, .slice none 0 0] 61))) :=
        Lib.IsBuilderF.of (Lib.fresh_isBuilder 61 5 w3)
      have hB0 : Hid (Below w3.heap.size w3 (w3.alloc (.cells #[.pointer none, .slice none 0 0] 61))) := (Below.refl _ w3).alloc (Nat.le_refl _) _
      go_wp2
      go_loopw [33] (fun i wr => ∃ k : Nat, k ≤ l.length ∧ i = .int .i64 k ∧ Hid (Lib.IsBuilderF 61 5 w3.heap.size w3.heap.size (Lib.byteCells (namesAt l (selIx g k)).data.toList) wr) ∧ Hid (Below w3.heap.size w3 wr))
        (fun i _ => l.length - (intOf i).toNat)
      case atStart => exact ⟨0, Nat.zero_le _, rfl, hI0, hB0⟩
      case round =>
        clear hI0 hB0
        obtain ⟨k, hk, rfl, HI, HB⟩ := hrel
        have hk0 : (0 : Int) ≤ (k : Int) := Int.natCast_nonneg _
        have hbz := HB.out.size
        by_cases hlt : k < l.length
        · have hlt' : (k : Int) < (l.length : Int) := by omega
          obtain ⟨b9, o, rfl, hB, hc⟩ := HW.out (by omega)
          obtain ⟨d0, d1, d2⟩ := hc k l[k] (List.getElem?_eq_getElem hlt)
          clear hc
          have HBW : Hid (Below w.heap.size w wr) := HB3.out.trans (HB.out.mono HB3.out.size)
          rw [← HBW.out.cell hB] at d0 d1 d2
          have hn1 := (nmAt_one HV.out hlt).2
          have HS := Lib.hid (selIx_succ g k)
          have HGK := Lib.hid (HG.out k)
          have HNS : Hid (∀ js : List Nat, namesAt l (js ++ [k]) = namesAt l js ++ ⟨#[byteOf l k]⟩) := fun js => by rw [← hn1]; exact namesAt_snoc js hlt
          have hlook := (HS3.out.block (HB.out.block _ hc3)).look [byteOf l k] (by rw [str_size]; exact (by decide : 1 ≤ 1000))
          rw [HGK.out] at hlook
          rw [hn1] at d0
          generalize l[k] = sg at *
          have hlook' : (Instr.lookup 57 (.map (some c0)) (.string ⟨#[byteOf l k]⟩) false).run Try.prog (wr.alloc (.cells #[.string ⟨#[byteOf l k]⟩, .int .i64 sg.size, .int .i64 sg.par] 63)) = .ok (.bool (g k)) (wr.alloc (.cells #[.string ⟨#[byteOf l k]⟩, .int .i64 sg.size, .int .i64 sg.par] 63)) := by
            have h1 := ((HS3.out.block (HB.out.block _ hc3)).block (Y := wr.alloc (.cells #[.string ⟨#[byteOf l k]⟩, .int .i64 sg.size, .int .i64 sg.par] 63)) (Below.heap_alloc wr _ _ (by omega))).look [byteOf l k] (by rw [str_size]; exact (by decide : 1 ≤ 1000))
            rw [HGK.out] at h1
            exact h1
          clear hlook
          have HIA : Hid (Lib.IsBuilderF 61 5 w3.heap.size w3.heap.size (Lib.byteCells (namesAt l (selIx g k)).data.toList) (wr.alloc (.cells #[.string ⟨#[byteOf l k]⟩, .int .i64 sg.size, .int .i64 sg.par] 63))) := Lib.IsBuilderF.alloc HI.out _
          have HBA : Hid (Below w3.heap.size w3 (wr.alloc (.cells #[.string ⟨#[byteOf l k]⟩, .int .i64 sg.size, .int .i64 sg.par] 63))) := HB.out.alloc hbz _
          have hln : (namesAt l (selIx g k)).size ≤ 1048576 := by
            have h1 := namesAt_len (valid_names HV.out) (selIx g k)
            have h2 := selIx_len g k
            omega
          generalize byteOf l k = bt at *
          cases hf : g k with
          | false =>
            rw [hf] at hlook'
            have HI1 : Hid (Lib.IsBuilderF 61 5 w3.heap.size w3.heap.size (Lib.byteCells (namesAt l (selIx g (k + 1))).data.toList) (wr.alloc (.cells #[.string ⟨#[bt]⟩, .int .i64 sg.size, .int .i64 sg.par] 63))) := by
              show Lib.IsBuilderF _ _ _ _ _ _
              rw [HS.out, if_neg (by rw [hf]; decide), List.append_nil]
              exact HIA.out
            clear hf HS
            go_wp2
            go_roundw
            case rel => exact ⟨k + 1, by omega, by go_num, HI1, HBA⟩
            case measure => simp [intOf]; omega
          | true =>
            rw [hf] at hlook'
            have HS1 : Hid (Lib.byteCells (namesAt l (selIx g (k + 1))).data.toList = Lib.byteCells (namesAt l (selIx g k)).data.toList ++ Lib.strCells ⟨#[bt]⟩) := by
              show _ = _
              rw [HS.out, if_pos hf, HNS.out, ByteArray.data_append, Array.toList_append]
              simp [Lib.byteCells, Lib.strCells]
            have hl1 : (Lib.byteCells (namesAt l (selIx g k)).data.toList).length + (⟨#[bt]⟩ : ByteArray).size ≤ 140737488355328 := by
              have h1 : (Lib.byteCells (namesAt l (selIx g k)).data.toList).length = (namesAt l (selIx g k)).size := by simp [Lib.byteCells]
              have h2 : (⟨#[bt]⟩ : ByteArray).size = 1 := rfl
              omega
            clear hf HS
            generalize (⟨#[bt]⟩ : ByteArray) = bbt at *
            go_wp2_with fail
            refine (writeString_any w3.heap.size w3.heap.size _ bbt _ HIA.out hl1 (by simp; omega)).mono ?_
            rintro e w5 ⟨rfl, hI1, hb5, hk5⟩
            have HI1 : Hid (Lib.IsBuilderF 61 5 w3.heap.size w3.heap.size (Lib.byteCells (namesAt l (selIx g (k + 1))).data.toList) w5) := by
              show Lib.IsBuilderF _ _ _ _ _ _
              rw [HS1.out]
              exact hI1
            have HB5 : Hid (Below w3.heap.size w3 w5) := HBA.out.trans (hb5.mono (Nat.le_refl _))
            clear hI1 hb5 hk5
            go_wp2
            go_roundw
            case rel => exact ⟨k + 1, by omega, by go_num, HI1, HB5⟩
            case measure => simp [intOf]; omega
        · obtain rfl : k = l.length := by omega
          go_wp2_with fail
          refine (Try.Builder_String_any_k w3.heap.size w3.heap.size _ _ HI.out (by omega)).mono ?_
          rintro e w5 ⟨rfl, hI1, hb5, hk5⟩
          have HB5 : Hid (Below w.heap.size w w5) := HB3.out.trans ((HB.out.trans (hb5.mono (by omega))).mono HB3.out.size)
          clear hI1 hb5 hk5
          go_wp2
          go_ret2
          exact ⟨by rw [HBU.out, HR.out.1, HR.out.2]; rfl, HB5.out⟩

end Go.Proofs.Ytnknfpfpjijemaa
/- The walk of the law FnExactReachedFrom. -/
namespace Go.Proofs.Ytnknfpfpjijemaa
open Go.RowKit

set_option maxRecDepth 100000 in
set_option maxHeartbeats 1000000 in
theorem lawReachedFrom_any (A : Option Addr) (l : List Seg) (c : Nat) (A2 : Option Addr) (ts : List ByteArray) (c2 : Nat) (s : ByteArray) (w : World) (hw : Segs w w.heap.size A l) (hl : l.length ≤ maxLen) (hn : Short l) (ht : St.Strs w w.heap.size A2 ts) (htl : ts.length ≤ maxLen) (hts : Shorts ts) (hsz : s.size ≤ maxLen) :
    Calls Try.prog 5 #[.slice A l.length c, .slice A2 ts.length c2, .string s] w fun e w' => e = .returned (.bool true) ∧ Below w.heap.size w w' := by
  have HW : Hid (Segs w w.heap.size A l) := hw
  have HT : Hid (St.Strs w w.heap.size A2 ts) := ht
  clear hw ht
  unfold maxLen at hsz
  by_cases hbig : 1048576 < s.size
  · go_enter Try.func5, Try.ntmps5
    go_wp2
    go_ret
    exact ⟨rfl, Below.refl _ _⟩
  by_cases hs : sizeLeft l < 0
  · go_enter Try.func5, Try.ntmps5
    go_wp2_with fail
    refine (szSegmentS_any _ _ _ _ HW.out hl hn).mono ?_
    rintro e w1 ⟨rfl, hb1⟩
    go_wp2
    go_ret
    exact ⟨rfl, hb1⟩
  have hlen := sizeLeft_len hs
  have hsl := sizeLeft_le l
  have hlm : l.length ≤ 9223372036854775807 := Nat.le_trans hlen (by decide)
  by_cases hs2 : textsLeft ts (sizeLeft l) < 0
  · go_enter Try.func5, Try.ntmps5
    go_wp2_with fail
    refine (szSegmentS_any _ _ _ _ HW.out hl hn).mono ?_
    rintro e w1 ⟨rfl, hb1⟩
    have HB1 := Lib.hid hb1
    clear hb1
    generalize sizeLeft l = lft at *
    go_wp2_with fail
    refine (szStringS_any A2 ts c2 lft _ ((HT.out.below HB1.out).more HB1.out.size) htl hts (by omega) hsl).mono ?_
    rintro e w2 ⟨rfl, hb2⟩
    have HB2 : Hid (Below w.heap.size w w2) := HB1.out.trans (hb2.mono HB1.out.size)
    clear hb2
    go_wp2
    go_ret
    exact ⟨rfl, HB2.out⟩
  obtain ⟨htl1, hts1⟩ := textsLeft_ok hsl hs2
  have HSP := Lib.hid (fun A A2 c c2 W h1 h2 => specReached_any A l c A2 ts c2 s W h1 h2 hlen hn htl1 hts1 (Nat.le_of_not_lt hbig))
  have HIM := Lib.hid (fun A A2 c2 W h1 h2 => implReached_any A l l.length A2 ts c2 s W h1 h2 hlen (Nat.le_refl _) hlm hn htl1 hts1 (Nat.le_of_not_lt hbig))
  generalize reachRes l ts s = r at HSP HIM
  generalize reachOk l ts s = d at HSP HIM
  go_enter Try.func5, Try.ntmps5
  go_wp2_with fail
  refine (szSegmentS_any _ _ _ _ HW.out hl hn).mono ?_
  rintro e w1 ⟨rfl, hb1⟩
  have HB1 := Lib.hid hb1
  clear hb1
  generalize sizeLeft l = lft at *
  go_wp2_with fail
  refine (szStringS_any A2 ts c2 lft _ ((HT.out.below HB1.out).more HB1.out.size) htl hts (by omega) hsl).mono ?_
  rintro e w2 ⟨rfl, hb2⟩
  have HB2 : Hid (Below w.heap.size w w2) := HB1.out.trans (hb2.mono HB1.out.size)
  clear hb2
  go_wp2_with fail
  refine (toSegmentS_any _ _ _ _ ((HW.out.below HB2.out).more HB2.out.size) hlen).mono ?_
  rintro e w3 ⟨rfl, hb3, hx3⟩
  have HB3 : Hid (Below w.heap.size w w3) := HB2.out.trans (hb3.mono HB2.out.size)
  have HX := Lib.hid hx3
  clear hb3 hx3 HB2
  go_wp2_with fail
  refine (toStringS_any _ _ _ _ ((HT.out.below HB3.out).more HB3.out.size) htl1).mono ?_
  rintro e w4 ⟨rfl, hb4, hx4⟩
  have HB4 : Hid (Below w.heap.size w w4) := HB3.out.trans (hb4.mono HB3.out.size)
  have HY : Hid (St.Strs w4 w4.heap.size (some ⟨w3.heap.size, 0, none⟩) ts) := strsOf hx4
  have HX := Lib.hid ((HX.out.below hb4).more hb4.size)
  clear hb4 hx4 HB3
  go_wp2_with fail
  refine (HSP.out _ _ _ _ _ HX.out HY.out).mono ?_
  rintro e w5 ⟨rfl, hb5⟩
  have HB5 : Hid (Below w.heap.size w w5) := HB4.out.trans (hb5.mono HB4.out.size)
  clear hb5 HX HY HB4 HSP
  go_wp2_with fail
  refine (toSegmentS_any _ _ _ _ ((HW.out.below HB5.out).more HB5.out.size) hlen).mono ?_
  rintro e w6 ⟨rfl, hb6, hx6⟩
  have HB6 : Hid (Below w.heap.size w w6) := HB5.out.trans (hb6.mono HB5.out.size)
  have HX := Lib.hid hx6
  clear hb6 hx6 HB5
  go_wp2_with fail
  refine (toStringS_any _ _ _ _ ((HT.out.below HB6.out).more HB6.out.size) htl1).mono ?_
  rintro e w7 ⟨rfl, hb7, hx7⟩
  have HB7 : Hid (Below w.heap.size w w7) := HB6.out.trans (hb7.mono HB6.out.size)
  have HY : Hid (St.Strs w7 w7.heap.size (some ⟨w6.heap.size, 0, none⟩) ts) := strsOf hx7
  have HX := Lib.hid ((HX.out.below hb7).more hb7.size)
  clear hb7 hx7 HB6
  go_wp2_with fail
  refine (HIM.out _ _ _ _ HX.out HY.out).mono ?_
  rintro e w8 ⟨rfl, hb8⟩
  have HB8 : Hid (Below w.heap.size w w8) := HB7.out.trans (hb8.mono HB7.out.size)
  have HX := Lib.hid ((HX.out.below hb8).more hb8.size)
  have HY := Lib.hid ((HY.out.below hb8).more hb8.size)
  clear hb8 HB7 HIM
  go_wp2_with fail
  refine (toSegmentS_any _ _ _ _ ((HW.out.below HB8.out).more HB8.out.size) hlen).mono ?_
  rintro e w9 ⟨rfl, hb9, hx9⟩
  have HB9 : Hid (Below w.heap.size w w9) := HB8.out.trans (hb9.mono HB8.out.size)
  have HX2 := Lib.hid hx9
  have HX := Lib.hid ((HX.out.below hb9).more hb9.size)
  have HY := Lib.hid ((HY.out.below hb9).more hb9.size)
  clear hb9 hx9 HB8
  go_wp2_with fail
  refine (eqSegmentS_same _ _ _ _ _ _ HX.out HX2.out hlen).mono ?_
  rintro e w10 ⟨rfl, hb10⟩
  have HB10 : Hid (Below w.heap.size w w10) := HB9.out.trans (hb10.mono HB9.out.size)
  have HY := Lib.hid ((HY.out.below hb10).more hb10.size)
  clear hb10 HB9 HX HX2
  go_wp2_with fail
  refine (toStringS_any _ _ _ _ ((HT.out.below HB10.out).more HB10.out.size) htl1).mono ?_
  rintro e w11 ⟨rfl, hb11, hx11⟩
  have HB11 : Hid (Below w.heap.size w w11) := HB10.out.trans (hb11.mono HB10.out.size)
  have HY2 : Hid (St.Strs w11 w11.heap.size (some ⟨w10.heap.size, 0, none⟩) ts) := strsOf hx11
  have HY := Lib.hid ((HY.out.below hb11).more hb11.size)
  clear hb11 hx11 HB10
  go_wp2_with fail
  refine (St.eqStringS_same _ _ _ _ _ _ HY.out HY2.out htl1).mono ?_
  rintro e w12 ⟨rfl, hb12⟩
  have HB12 : Hid (Below w.heap.size w w12) := HB11.out.trans (hb12.mono HB11.out.size)
  clear hb12 HB11 HY HY2
  go_wp2
  go_ret
  exact ⟨rfl, HB12.out⟩

end Go.Proofs.Ytnknfpfpjijemaa
/- HasRings on both sides. -/
namespace Go.Proofs.Ytnknfpfpjijemaa
open Go.RowKit Go.Shelf Go.Sort

theorem sorted_txt {l : List Seg} (hv : validB l = true) (bs : List UInt8) : sortedB l bs = strOf ((selIx (inB7 l bs) l.length).map (byteOf l)) := by
  have h : ∀ js : List Nat, (∀ i ∈ js, i < l.length) → js.flatMap (nmAt l) = js.map (byteOf l) := by
    intro js
    induction js with
    | nil => intro _; rfl
    | cons i js ih =>
      intro hi
      rw [List.flatMap_cons, ih (fun j hj => hi j (List.mem_cons_of_mem _ hj)), (nmAt_one hv (hi i List.mem_cons_self)).1]
      rfl
  unfold sortedB
  show (⟨((selIx (inB7 l bs) l.length).flatMap (nmAt l)).toArray⟩ : ByteArray) = _
  rw [h _ (fun i hi => by
    unfold selIx at hi
    exact List.mem_range.1 (List.mem_filter.1 hi).1)]
  rfl
theorem callP_byte {l : List Seg} (hv : validB l = true) {u : UInt8} (h : callP l u = true) : ∃ i, i < l.length ∧ byteOf l i = u := by
  have h0 : 0 ≤ indexB l ⟨#[u]⟩ := of_decide_eq_true h
  have h1 : indexB l ⟨#[u]⟩ = seek l ⟨#[u]⟩ := if_pos hv
  obtain ⟨i, hi⟩ := Int.eq_ofNat_of_zero_le h0
  obtain ⟨x, hx, hn⟩ := seek_name (l := l) (s := ⟨#[u]⟩) (j := i) (by rw [← h1]; exact hi)
  obtain ⟨hlt, he⟩ := List.getElem?_eq_some_iff.1 hx
  refine ⟨i, hlt, ?_⟩
  have h2 := (nmAt_one hv hlt).2
  rw [he, hn] at h2
  injection h2 with h2
  injection h2 with h2
  injection h2 with h2
  exact h2.symm
theorem reach_callP {l : List Seg} {ps : List Txt} (h : IsGraph l ps) (u : UInt8) : ∀ v ∈ reachL ps u, callP l v = true := fun v hv => by
  obtain ⟨p, hp, e⟩ := List.mem_map.1 ((qAt_ok ps u 32).2.2.1 v hv)
  obtain ⟨a, b, rfl, _, hb⟩ := h.two p hp
  rw [last_two] at e
  rw [← e]
  exact hb
theorem live_callP {l : List Seg} {ps : List Txt} (h : IsGraph l ps) : ∀ v ∈ liveL l ps, callP l v = true := fun v hv => by
  rcases List.mem_cons.1 hv with rfl | hv
  · exact root_callP h.valid
  · exact reach_callP h _ v hv
def liveTxt (l : List Seg) (ps : List Txt) : Txt := (selIx (inB7 l (liveL l ps)) l.length).map (byteOf l)
theorem live_mem {l : List Seg} {ps : List Txt} (h : IsGraph l ps) (u : UInt8) : u ∈ liveTxt l ps ↔ u ∈ liveL l ps := by
  unfold liveTxt selIx
  rw [List.mem_map]
  constructor
  · rintro ⟨i, hi, rfl⟩
    exact of_decide_eq_true (List.mem_filter.1 hi).2
  · intro hu
    obtain ⟨i, hi, rfl⟩ := callP_byte h.valid (live_callP h u hu)
    exact ⟨i, List.mem_filter.2 ⟨List.mem_range.2 hi, decide_eq_true hu⟩, rfl⟩
theorem liveTxt_len (l : List Seg) (ps : List Txt) : (liveTxt l ps).length ≤ l.length := by
  unfold liveTxt
  rw [List.length_map]
  exact selIx_len _ _
def ringsB (l : List Seg) (ts : List ByteArray) : Bool := graphB l ts && (liveL l (psOf ts)).any fun u => decide (u ∈ reachL (psOf ts) u)
theorem rings_yes {l : List Seg} {ts : List ByteArray} (hg : graphB l ts = true) {u : UInt8} (h1 : u ∈ liveL l (psOf ts)) (h2 : u ∈ reachL (psOf ts) u) : ringsB l ts = true := by
  unfold ringsB
  rw [hg, Bool.true_and, List.any_eq_true]
  exact ⟨u, h1, decide_eq_true h2⟩
theorem rings_no {l : List Seg} {ts : List ByteArray} (h : ∀ u ∈ liveL l (psOf ts), u ∉ reachL (psOf ts) u) : ringsB l ts = false := by
  unfold ringsB
  rw [Bool.and_eq_false_iff]
  right
  rw [List.any_eq_false]
  intro u hu
  rw [decide_eq_true_eq]
  exact h u hu
theorem rings_bad {l : List Seg} {ts : List ByteArray} (hg : graphB l ts = false) : ringsB l ts = false := by
  unfold ringsB
  rw [hg]
  rfl
theorem str_at (x : Txt) {i : Nat} (h : i < x.length) : (strOf x).extract i (i + 1) = ⟨#[x[i]]⟩ := by
  have h1 := strOf_byte (x := x) (k := i) h
  rw [h1]
  unfold byteAt
  rw [List.getD_eq_getElem?_getD, List.getElem?_eq_getElem h]
  rfl

attribute [local irreducible] waysB in
set_option maxRecDepth 100000 in
set_option maxHeartbeats 4000000 in
theorem specRings_any (A : Option Addr) (l : List Seg) (c : Nat) (A2 : Option Addr) (ts : List ByteArray) (c2 : Nat) (w : World) (hw : Segs w w.heap.size A l) (ht : St.Strs w w.heap.size A2 ts) (hl : l.length ≤ 1048576) (hn : Short l) (htl : ts.length ≤ 1048576) (hts : ∀ s ∈ ts, s.size ≤ 1048576) :
    Calls Try.prog 15 #[.slice A l.length c, .slice A2 ts.length c2] w fun e w' => e = .returned (.bool (ringsB l ts)) ∧ Below w.heap.size w w' := by
  have HQ := Lib.hid (specGraph_any A l c A2 ts c2 w hw ht hl hn htl hts)
  have HW : Hid (Segs w w.heap.size A l) := hw
  have HT : Hid (St.Strs w w.heap.size A2 ts) := ht
  clear hw ht hn hts
  cases hg : graphB l ts with
  | false =>
    rw [hg] at HQ
    have HR := Lib.hid (rings_bad hg)
    clear hg
    go_enter Try.func15, Try.ntmps15
    go_wp2_with fail
    refine Calls.mono HQ.out ?_
    rintro e w1 ⟨rfl, hb1⟩
    go_wp2
    go_ret
    exact ⟨ret_bool HR.out.symm, hb1⟩
  | true =>
    rw [hg] at HQ
    have hG := graph_is hg
    have HL := Lib.hid (fun W h1 h2 => l7Live_any A l c A2 ts c2 W h1 h2 hG (reachL_le hG _))
    have HRE := Lib.hid (fun u W h => l7Reached_any l A2 ts c2 u W hG h)
    have HYES : Hid (∀ u, u ∈ liveTxt l (psOf ts) → u ∈ reachL (psOf ts) u → ringsB l ts = true) := fun u h1 h2 => rings_yes (l := l) hg (u := u) ((live_mem hG u).1 h1) h2
    have HNO : Hid ((∀ u ∈ liveTxt l (psOf ts), u ∉ reachL (psOf ts) u) → ringsB l ts = false) := fun h => rings_no (l := l) (ts := ts) (fun u hu => h u ((live_mem hG u).2 hu))
    have hRL : ∀ u, (reachL (psOf ts) u).length ≤ 20 := fun u => reachL_le hG u
    have HRL := Lib.hid hRL
    rw [sorted_txt hG.valid, show (selIx (inB7 l (liveL l (psOf ts))) l.length).map (byteOf l) = liveTxt l (psOf ts) from rfl] at HL
    have h8 : (liveTxt l (psOf ts)).length ≤ 8 := Nat.le_trans (liveTxt_len _ _) (valid_all hG.valid).2.1
    clear hg hG hRL
    generalize liveTxt l (psOf ts) = x at *
    have HZ : Hid ((strOf x).size = x.length) := str_size x
    have HEX := Lib.hid (fun i h => str_at x (i := i) h)
    have HAT : Hid (∀ i (h : i < (strOf x).size) (h2 : i < x.length), (strOf x)[i]'h = x[i]'h2) := fun i h h2 => by simp [strOf, ByteArray.getElem_eq_getElem_data]
    have hz8 : (strOf x).size ≤ 8 := by rw [HZ.out]; exact h8
    generalize strOf x = z at *
    go_enter Try.func15, Try.ntmps15
    go_wp2_with fail
    refine Calls.mono HQ.out ?_
    rintro e w1 ⟨rfl, hb1⟩
    go_wp2_with fail
    refine Calls.mono (HL.out _ ((HW.out.below hb1).more hb1.size) ((HT.out.below hb1).more hb1.size)) ?_
    rintro e w2 ⟨rfl, hb2⟩
    have HB2 : Hid (Below w.heap.size w w2) := hb1.trans (hb2.mono hb1.size)
    clear hb1 hb2
    go_wp2
    go_loopw [16] (fun i wr => ∃ k : Nat, k ≤ z.size ∧ i = .int .i64 k ∧ Hid (∀ j (h : j < x.length), j < k → x[j] ∉ reachL (psOf ts) x[j]) ∧ Hid (Below w.heap.size w wr))
      (fun i _ => z.size - (intOf i).toNat)
    case atStart => exact ⟨0, Nat.zero_le _, rfl, fun j _ hj => absurd hj (Nat.not_lt_zero _), HB2⟩
    case round =>
      obtain ⟨k, hk, rfl, HP, HB⟩ := hrel
      have hk0 : (0 : Int) ≤ (k : Int) := Int.natCast_nonneg _
      by_cases hlt : k < z.size
      · have hlt' : (k : Int) < (z.size : Int) := by omega
        have hk1 : (k : Int) + 1 ≤ (z.size : Int) := by omega
        have hkx : k < x.length := by have := HZ.out; omega
        have hex := HEX.out k hkx
        have hat : z[k].toNat = x[k].toNat := by rw [HAT.out k hlt hkx]
        have HBD := Lib.hid ((Below.refl w.heap.size wr).drew)
        have HLR : Hid (∀ n, Calls Try.prog 46 #[.slice A2 ts.length c2, .string ⟨#[x[k]'hkx]⟩] (wr.drewN n) fun e w' => e = .returned (.string (strOf (reachL (psOf ts) (x[k]'hkx)))) ∧ w' = wr.drewN n) := fun n =>
          (HRE.out (x[k]'hkx) (wr.drewN n) ((HT.out.below (below_drewN HB.out n)).more (below_drewN HB.out n).size)).mono fun e w' ⟨h1, h2⟩ => ⟨h1, h2.symm⟩
        have HLF : Hid (∀ n, Calls Try.prog 49 #[.string (strOf (reachL (psOf ts) (x[k]'hkx))), .int .u8 (x[k]'hkx).toNat] (wr.drewN n) fun e w' => e = .returned (.int .i64 (findB (strOf (reachL (psOf ts) (x[k]'hkx))) (x[k]'hkx))) ∧ w' = wr.drewN n) := fun n =>
          (l13Find_any _ _ (wr.drewN n) (by rw [str_size]; have := HRL.out (x[k]'hkx); unfold maxLen; omega)).mono fun e w' ⟨h1, h2⟩ => ⟨h1, h2.symm⟩
        obtain ⟨p1, hp1⟩ : ∃ p1 : Nat, p1 = k + 1 := ⟨_, rfl⟩
        have hw1 : IntKind.i64.wrap ((k : Int) + 1) = (p1 : Int) := (IntWalk.i64_in _ (by omega)).trans (by omega)
        have hkp : (k : Int) ≤ (p1 : Int) := by omega
        have hpz : (p1 : Int) ≤ (z.size : Int) := by omega
        rw [← hp1] at hex
        have HP1E := Lib.hid hp1
        clear hp1
        have hrs : (strOf (reachL (psOf ts) x[k])).size ≤ 20 := by rw [str_size]; exact HRL.out _
        have HFD : Hid (0 ≤ findB (strOf (reachL (psOf ts) x[k])) x[k] ↔ x[k] ∈ reachL (psOf ts) x[k]) := findB_lo _ _
        have HBR : Hid (Below w.heap.size w wr.drew) := HB.out.drew
        have HYK : Hid (x[k]'hkx ∈ reachL (psOf ts) (x[k]'hkx) → ringsB l ts = true) := HYES.out (x[k]'hkx) (List.getElem_mem hkx)
        generalize hxk : x[k] = u at *
        have HXK := Lib.hid hxk
        clear hxk
        generalize strOf (reachL (psOf ts) u) = Rs at *
        by_cases hf : 0 ≤ findB Rs u
        · have HE := Lib.hid (HYK.out (HFD.out.1 hf))
          generalize hbu : (⟨#[u]⟩ : ByteArray) = bu at *
          go_wp2_with fail
          go_quiet (first
            | (go_at_call 46; exact Calls.quiet_of_same (HLR.out _))
            | (go_at_call 49; exact Calls.quiet_of_same (HLF.out _)))
          go_wp2
          go_ret
          exact ⟨ret_bool HE.out.symm, below_drewN HB.out _⟩
        · have HP1 : Hid (∀ j (h : j < x.length), j < p1 → x[j] ∉ reachL (psOf ts) x[j]) := fun j h hj => by
            have hj' := HP1E.out
            by_cases hjk : j = k
            · subst hjk
              rw [HXK.out]
              exact fun hm => hf (HFD.out.2 hm)
            · exact HP.out j h (by omega)
          generalize hbu : (⟨#[u]⟩ : ByteArray) = bu at *
          go_wp2_with fail
          go_quiet (first
            | (go_at_call 46; exact Calls.quiet_of_same (HLR.out _))
            | (go_at_call 49; exact Calls.quiet_of_same (HLF.out _)))
          go_wp2
          go_roundw
          case rel => exact ⟨p1, by have := HP1E.out; omega, rfl, HP1, below_drewN HB.out _⟩
          case measure => have := HP1E.out; simp [intOf]; omega
      · obtain rfl : k = z.size := by omega
        have HE := Lib.hid (HNO.out (fun u hu => by
          obtain ⟨j, hj, rfl⟩ := List.getElem_of_mem hu
          exact HP.out j hj (by have := HZ.out; omega)))
        go_wp2
        go_ret
        exact ⟨ret_bool HE.out.symm, HB.out⟩

end Go.Proofs.Ytnknfpfpjijemaa
