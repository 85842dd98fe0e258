/- Joined: Jp Js Ij Jq Jt. -/
import Derived.Test.YtbmfbnlmdjnddaaU36
import Derived.Test.YtbmfbnlmdjnddaaU37
import Derived.Maps.RangeWalk
import Derived.Test.YtbmfbnlmdjnddaaU29
import Derived.Sort.KeysCollected
/- The reference: names in the order of the tree, what is live, ReachedFrom and HasRings. -/
namespace Go.Proofs.Ytbmfbnlmdjnddaa
open Go.RowKit

theorem taken_index {l : List Seg} (hv : validB l = true) (s : ByteArray) : takenB l s = decide (0 ≤ indexB l s) := by
  unfold indexB
  rw [if_pos hv]
  exact (seekFrom_has s l 0).symm
theorem taken_one {l : List Seg} (hv : validB l = true) {s : ByteArray} (h : takenB l s = true) : ∃ c, s = ⟨#[c]⟩ := by
  unfold takenB at h
  obtain ⟨x, hx, he⟩ := List.any_eq_true.1 h
  obtain ⟨c, hc, _⟩ := nameOk_one (validB_names hv hx)
  exact ⟨c, by rw [← sameB_iff.1 he, hc]⟩
/-- Which segments are among some names, in the order of the tree. -/
def inB7 (l : List Seg) (bs : List UInt8) (i : Nat) : Bool := decide (byteOf l i ∈ bs)
def sortedB (l : List Seg) (bs : List UInt8) : ByteArray := namesAt l (selIx (inB7 l bs) l.length)

set_option maxRecDepth 100000 in
set_option maxHeartbeats 2000000 in
theorem l7Sorted_any (A : Option Addr) (l : List Seg) (c : Nat) (bs : List UInt8) (w : World) (hw : Segs w w.heap.size A l) (hv : validB l = true) (hb : bs.length ≤ 1000) :
    Calls Try.prog 49 #[.slice A l.length c, .string (strOf bs)] w fun e w' => e = .returned (.string (sortedB l bs)) ∧ Below w.heap.size w w' := by
  have HW : Hid (Segs w w.heap.size A l) := hw
  have HV := Lib.hid hv
  have h8 := (valid_all hv).2.1
  have hs1 : (strOf bs).size ≤ 1000 := by rw [str_size]; exact hb
  have HG : Hid (∀ i, decide (0 ≤ findB (strOf bs) (byteOf l i)) = inB7 l bs i) := fun i => by
    unfold inB7
    rw [decide_eq_decide, findB_lo]
    exact Iff.rfl
  unfold sortedB
  generalize strOf bs = Ls at *
  generalize inB7 l bs = g at *
  clear hw hv
  go_enter Try.func49, Try.ntmps49
  go_wp2
  go_loopw [5, 10] (fun o i wr => ∃ k : Nat, k ≤ l.length ∧ i = .int .i64 k ∧ o = .string (namesAt l (selIx g k)) ∧ Hid (Below w.heap.size w wr))
    (fun _ i _ => l.length - (intOf i).toNat)
  case atStart => exact ⟨0, Nat.zero_le _, rfl, rfl, Below.refl _ _⟩
  case round =>
    obtain ⟨k2, hk2, rfl, rfl, HB2⟩ := hrel
    by_cases hlt2 : k2 < l.length
    · obtain ⟨b, o, rfl, hB, hc⟩ := HW.out (by omega)
      obtain ⟨c0, c1, c2⟩ := hc k2 l[k2] (List.getElem?_eq_getElem hlt2)
      clear hc
      rw [← HB2.out.cell hB] at c0 c1 c2
      have hn1 := (nmAt_one HV.out hlt2).2
      have HG1 := Lib.hid (HG.out k2)
      have HSK := Lib.hid (selIx_succ g k2)
      have HNS : Hid (∀ js : List Nat, namesAt l (js ++ [k2]) = namesAt l js ++ ⟨#[byteOf l k2]⟩) := fun js => by rw [← hn1]; exact namesAt_snoc js hlt2
      have hln : (namesAt l (selIx g k2)).size ≤ 1048576 := by
        have h1 := namesAt_len (valid_names HV.out) (selIx g k2)
        have h2 := selIx_len g k2
        omega
      rw [hn1] at c0
      have hb2 := HB2.out.size
      generalize byteOf l k2 = bt at *
      generalize l[k2] = sg at *
      have HBA : Hid (Below w.heap.size w (wr.alloc (.cells #[.string ⟨#[bt]⟩, .int .i64 sg.size, .int .i64 sg.par] 69))) := HB2.out.alloc hb2 _
      go_wp2_with fail
      refine (l13Find_any Ls bt _ (by unfold maxLen; omega)).mono ?_
      rintro e w3 ⟨rfl, rfl⟩
      by_cases hf : 0 ≤ findB Ls bt
      · have HS1 : Hid (selIx g (k2 + 1) = selIx g k2 ++ [k2]) := by
          show _ = _
          rw [HSK.out, ← HG1.out, decide_eq_true hf, if_pos rfl]
        clear HG1 HSK
        have hbs : (⟨#[bt]⟩ : ByteArray).size = 1 := rfl
        go_wp2
        go_roundw
        case rel => exact ⟨k2 + 1, by omega, by go_num, by rw [HS1.out, HNS.out], HBA⟩
        case measure => simp [intOf]; omega
      · have HS1 : Hid (selIx g (k2 + 1) = selIx g k2) := by
          show _ = _
          rw [HSK.out, ← HG1.out, decide_eq_false hf, if_neg (by decide), List.append_nil]
        clear HG1 HSK
        go_wp2
        go_roundw
        case rel => exact ⟨k2 + 1, by omega, by go_num, by rw [HS1.out], HBA⟩
        case measure => simp [intOf]; omega
    · obtain rfl : k2 = l.length := by omega
      go_wp2
      go_ret
      exact ⟨rfl, HB2.out⟩

/-- The root, and all that is reached from it. -/
def liveL (l : List Seg) (ps : List Txt) : List UInt8 := rootB l :: reachL ps (rootB l)

attribute [local irreducible] waysB in
set_option maxRecDepth 100000 in
set_option maxHeartbeats 2000000 in
theorem l7Live_any (A : Option Addr) (l : List Seg) (c : Nat) (A2 : Option Addr) (ts : List ByteArray) (c2 : Nat) (w : World) (hw : Segs w w.heap.size A l) (ht : St.Strs w w.heap.size A2 ts) (hG : IsGraph l (psOf ts)) (hr : (reachL (psOf ts) (rootB l)).length ≤ 20) :
    Calls Try.prog 52 #[.slice A l.length c, .slice A2 ts.length c2] w fun e w' => e = .returned (.string (sortedB l (liveL l (psOf ts)))) ∧ Below w.heap.size w w' := by
  have HQ := Lib.hid (l7Reached_any l A2 ts c2 (rootB l) w hG ht)
  have HS := Lib.hid (l7Sorted_any A l c (liveL l (psOf ts)) w hw hG.valid (by unfold liveL; rw [List.length_cons]; omega))
  have hlp : (0 : Int) < (l.length : Int) := by have := (valid_all hG.valid).2.2; omega
  obtain ⟨b0, o0, rfl, hB0, c0⟩ := hw.root hG.valid
  have HC : Hid ((⟨#[rootB l]⟩ : ByteArray) ++ strOf (reachL (psOf ts) (rootB l)) = strOf (liveL l (psOf ts))) := bytes_cat [rootB l] (reachL (psOf ts) (rootB l))
  have hsz : (strOf (reachL (psOf ts) (rootB l))).size ≤ 20 := by rw [str_size]; exact hr
  have hb1 : (⟨#[rootB l]⟩ : ByteArray).size = 1 := rfl
  clear hw ht hG hr
  generalize strOf (reachL (psOf ts) (rootB l)) = Rs at *
  generalize sortedB l (liveL l (psOf ts)) = Ss at *
  generalize strOf (liveL l (psOf ts)) = Ls at *
  generalize (⟨#[rootB l]⟩ : ByteArray) = br at *
  go_enter Try.func52, Try.ntmps52
  go_wp2_with fail
  refine Calls.mono HQ.out ?_
  rintro e w1 ⟨rfl, rfl⟩
  go_wp2_with fail
  rw [HC.out]
  refine Calls.mono HS.out ?_
  rintro e w2 ⟨rfl, hb2⟩
  go_wp2
  go_ret
  exact ⟨rfl, hb2⟩

def reachOk (l : List Seg) (ts : List ByteArray) (s : ByteArray) : Bool := graphB l ts && takenB l s
def reachRes (l : List Seg) (ts : List ByteArray) (s : ByteArray) : ByteArray := if reachOk l ts s = true then sortedB l (reachL (psOf ts) (s.data.toList.headD 0)) else ⟨#[]⟩

theorem reachL_le {l : List Seg} {ps : List Txt} (h : IsGraph l ps) (u : UInt8) : (reachL ps u).length ≤ 20 := by
  unfold reachL
  rw [lasts_len]
  have := waysB_len (u := u) h.len
  omega

attribute [local irreducible] waysB in
set_option maxRecDepth 100000 in
set_option maxHeartbeats 2000000 in
theorem specReached_any (A : Option Addr) (l : List Seg) (c : Nat) (A2 : Option Addr) (ts : List ByteArray) (c2 : Nat) (s : ByteArray) (w : World) (hw : Segs w w.heap.size A l) (ht : St.Strs w w.heap.size A2 ts) (hl : l.length ≤ 1048576) (hn : Short l) (htl : ts.length ≤ 1048576) (hts : ∀ s ∈ ts, s.size ≤ 1048576) (_hs : s.size ≤ 1048576) :
    Calls Try.prog 12 #[.slice A l.length c, .slice A2 ts.length c2, .string s] w fun e w' => e = .returned (.tuple #[.string (reachRes l ts s), .bool (reachOk l ts s)]) ∧ Below w.heap.size w w' := by
  have HQ := Lib.hid (specGraph_any A l c A2 ts c2 w hw ht hl hn htl hts)
  have HI := Lib.hid (fun W h => l1Index_any A l c s W h hl hn)
  have HW : Hid (Segs w w.heap.size A l) := hw
  have HT : Hid (St.Strs w w.heap.size A2 ts) := ht
  clear hw ht hn hts
  cases hg : graphB l ts with
  | false =>
    rw [hg] at HQ
    have HR : Hid (reachRes l ts s = ⟨#[]⟩ ∧ reachOk l ts s = false) := by
      have h1 : reachOk l ts s = false := by unfold reachOk; rw [hg]; rfl
      exact ⟨by unfold reachRes; rw [if_neg (by rw [h1]; decide)], h1⟩
    rw [HR.out.1, HR.out.2]
    clear hg
    go_enter Try.func12, Try.ntmps12
    go_wp2_with fail
    refine Calls.mono HQ.out ?_
    rintro e w1 ⟨rfl, hb1⟩
    go_wp2
    go_ret2
    exact ⟨rfl, hb1⟩
  | true =>
    rw [hg] at HQ
    have hG := graph_is hg
    have HTI := Lib.hid (taken_index hG.valid s)
    cases htk : takenB l s with
    | false =>
      have hneg : indexB l s < 0 := by
        have h1 := HTI.out
        rw [htk] at h1
        have := of_decide_eq_false h1.symm
        omega
      have HR : Hid (reachRes l ts s = ⟨#[]⟩ ∧ reachOk l ts s = false) := by
        have h1 : reachOk l ts s = false := by unfold reachOk; rw [hg, htk]; rfl
        exact ⟨by unfold reachRes; rw [if_neg (by rw [h1]; decide)], h1⟩
      rw [HR.out.1, HR.out.2]
      clear hg htk hG HTI
      generalize indexB l s = ix at *
      go_enter Try.func12, Try.ntmps12
      go_wp2_with fail
      refine Calls.mono HQ.out ?_
      rintro e w1 ⟨rfl, hb1⟩
      go_wp2_with fail
      refine (HI.out _ ((HW.out.below hb1).more hb1.size)).mono ?_
      rintro e w2 ⟨rfl, hb2⟩
      have HB2 : Hid (Below w.heap.size w w2) := hb1.trans (hb2.mono hb1.size)
      clear hb1 hb2
      go_wp2
      go_ret2
      exact ⟨rfl, HB2.out⟩
    | true =>
      have hpos : ¬ indexB l s < 0 := by
        have h1 := HTI.out
        rw [htk] at h1
        have := of_decide_eq_true h1.symm
        omega
      obtain ⟨u, rfl⟩ := taken_one hG.valid htk
      have HR : Hid (reachRes l ts ⟨#[u]⟩ = sortedB l (reachL (psOf ts) u) ∧ reachOk l ts ⟨#[u]⟩ = true) := by
        have h1 : reachOk l ts ⟨#[u]⟩ = true := by unfold reachOk; rw [hg, htk]; rfl
        exact ⟨by unfold reachRes; rw [if_pos h1]; rfl, h1⟩
      rw [HR.out.1, HR.out.2]
      have HL := Lib.hid (fun W h => l7Reached_any l A2 ts c2 u W hG h)
      have HS := Lib.hid (fun W h => l7Sorted_any A l c (reachL (psOf ts) u) W h hG.valid (Nat.le_trans (reachL_le hG u) (by decide)))
      clear hg htk hG HTI
      generalize sortedB l (reachL (psOf ts) u) = Ss at *
      generalize strOf (reachL (psOf ts) u) = Rs at *
      generalize (⟨#[u]⟩ : ByteArray) = bu at *
      generalize indexB l bu = ix at *
      go_enter Try.func12, Try.ntmps12
      go_wp2_with fail
      refine Calls.mono HQ.out ?_
      rintro e w1 ⟨rfl, hb1⟩
      go_wp2_with fail
      refine (HI.out _ ((HW.out.below hb1).more hb1.size)).mono ?_
      rintro e w2 ⟨rfl, hb2⟩
      have HB2 : Hid (Below w.heap.size w w2) := hb1.trans (hb2.mono hb1.size)
      clear hb1 hb2
      go_wp2_with fail
      refine Calls.mono (HL.out _ ((HT.out.below HB2.out).more HB2.out.size)) ?_
      rintro e w3 ⟨rfl, rfl⟩
      go_wp2_with fail
      refine Calls.mono (HS.out _ ((HW.out.below HB2.out).more HB2.out.size)) ?_
      rintro e w4 ⟨rfl, hb4⟩
      have HB4 : Hid (Below w.heap.size w w4) := HB2.out.trans (hb4.mono HB2.out.size)
      clear hb4
      go_wp2
      go_ret2
      exact ⟨rfl, HB4.out⟩

end Go.Proofs.Ytbmfbnlmdjnddaa
/- HasRings on both sides. -/
namespace Go.Proofs.Ytbmfbnlmdjnddaa
open Go.RowKit Go.Shelf Go.Sort

theorem sorted_txt {l : List Seg} (hv : validB l = true) (bs : List UInt8) : sortedB l bs = strOf ((selIx (inB7 l bs) l.length).map (byteOf l)) := by
  have h : ∀ js : List Nat, (∀ i ∈ js, i < l.length) → js.flatMap (nmAt l) = js.map (byteOf l) := by
    intro js
    induction js with
    | nil => intro _; rfl
    | cons i js ih =>
      intro hi
      rw [List.flatMap_cons, ih (fun j hj => hi j (List.mem_cons_of_mem _ hj)), (nmAt_one hv (hi i List.mem_cons_self)).1]
      rfl
  unfold sortedB
  show (⟨((selIx (inB7 l bs) l.length).flatMap (nmAt l)).toArray⟩ : ByteArray) = _
  rw [h _ (fun i hi => by
    unfold selIx at hi
    exact List.mem_range.1 (List.mem_filter.1 hi).1)]
  rfl
theorem callP_byte {l : List Seg} (hv : validB l = true) {u : UInt8} (h : callP l u = true) : ∃ i, i < l.length ∧ byteOf l i = u := by
  have h0 : 0 ≤ indexB l ⟨#[u]⟩ := of_decide_eq_true h
  have h1 : indexB l ⟨#[u]⟩ = seek l ⟨#[u]⟩ := if_pos hv
  obtain ⟨i, hi⟩ := Int.eq_ofNat_of_zero_le h0
  obtain ⟨x, hx, hn⟩ := seek_name (l := l) (s := ⟨#[u]⟩) (j := i) (by rw [← h1]; exact hi)
  obtain ⟨hlt, he⟩ := List.getElem?_eq_some_iff.1 hx
  refine ⟨i, hlt, ?_⟩
  have h2 := (nmAt_one hv hlt).2
  rw [he, hn] at h2
  injection h2 with h2
  injection h2 with h2
  injection h2 with h2
  exact h2.symm
theorem reach_callP {l : List Seg} {ps : List Txt} (h : IsGraph l ps) (u : UInt8) : ∀ v ∈ reachL ps u, callP l v = true := fun v hv => by
  obtain ⟨p, hp, e⟩ := List.mem_map.1 ((qAt_ok ps u 32).2.2.1 v hv)
  obtain ⟨a, b, rfl, _, hb⟩ := h.two p hp
  rw [last_two] at e
  rw [← e]
  exact hb
theorem live_callP {l : List Seg} {ps : List Txt} (h : IsGraph l ps) : ∀ v ∈ liveL l ps, callP l v = true := fun v hv => by
  rcases List.mem_cons.1 hv with rfl | hv
  · exact root_callP h.valid
  · exact reach_callP h _ v hv
def liveTxt (l : List Seg) (ps : List Txt) : Txt := (selIx (inB7 l (liveL l ps)) l.length).map (byteOf l)
theorem live_mem {l : List Seg} {ps : List Txt} (h : IsGraph l ps) (u : UInt8) : u ∈ liveTxt l ps ↔ u ∈ liveL l ps := by
  unfold liveTxt selIx
  rw [List.mem_map]
  constructor
  · rintro ⟨i, hi, rfl⟩
    exact of_decide_eq_true (List.mem_filter.1 hi).2
  · intro hu
    obtain ⟨i, hi, rfl⟩ := callP_byte h.valid (live_callP h u hu)
    exact ⟨i, List.mem_filter.2 ⟨List.mem_range.2 hi, decide_eq_true hu⟩, rfl⟩
theorem liveTxt_len (l : List Seg) (ps : List Txt) : (liveTxt l ps).length ≤ l.length := by
  unfold liveTxt
  rw [List.length_map]
  exact selIx_len _ _
def ringsB (l : List Seg) (ts : List ByteArray) : Bool := graphB l ts && (liveL l (psOf ts)).any fun u => decide (u ∈ reachL (psOf ts) u)
theorem rings_yes {l : List Seg} {ts : List ByteArray} (hg : graphB l ts = true) {u : UInt8} (h1 : u ∈ liveL l (psOf ts)) (h2 : u ∈ reachL (psOf ts) u) : ringsB l ts = true := by
  unfold ringsB
  rw [hg, Bool.true_and, List.any_eq_true]
  exact ⟨u, h1, decide_eq_true h2⟩
theorem rings_no {l : List Seg} {ts : List ByteArray} (h : ∀ u ∈ liveL l (psOf ts), u ∉ reachL (psOf ts) u) : ringsB l ts = false := by
  unfold ringsB
  rw [Bool.and_eq_false_iff]
  right
  rw [List.any_eq_false]
  intro u hu
  rw [decide_eq_true_eq]
  exact h u hu
theorem rings_bad {l : List Seg} {ts : List ByteArray} (hg : graphB l ts = false) : ringsB l ts = false := by
  unfold ringsB
  rw [hg]
  rfl
theorem str_at (x : Txt) {i : Nat} (h : i < x.length) : (strOf x).extract i (i + 1) = ⟨#[x[i]]⟩ := by
  have h1 := strOf_byte (x := x) (k := i) h
  rw [h1]
  unfold byteAt
  rw [List.getD_eq_getElem?_getD, List.getElem?_eq_getElem h]
  rfl

attribute [local irreducible] waysB in
set_option maxRecDepth 100000 in
set_option maxHeartbeats 4000000 in
theorem specRings_any (A : Option Addr) (l : List Seg) (c : Nat) (A2 : Option Addr) (ts : List ByteArray) (c2 : Nat) (w : World) (hw : Segs w w.heap.size A l) (ht : St.Strs w w.heap.size A2 ts) (hl : l.length ≤ 1048576) (hn : Short l) (htl : ts.length ≤ 1048576) (hts : ∀ s ∈ ts, s.size ≤ 1048576) :
    Calls Try.prog 14 #[.slice A l.length c, .slice A2 ts.length c2] w fun e w' => e = .returned (.bool (ringsB l ts)) ∧ Below w.heap.size w w' := by
  have HQ := Lib.hid (specGraph_any A l c A2 ts c2 w hw ht hl hn htl hts)
  have HW : Hid (Segs w w.heap.size A l) := hw
  have HT : Hid (St.Strs w w.heap.size A2 ts) := ht
  clear hw ht hn hts
  cases hg : graphB l ts with
  | false =>
    rw [hg] at HQ
    have HR := Lib.hid (rings_bad hg)
    clear hg
    go_enter Try.func14, Try.ntmps14
    go_wp2_with fail
    refine Calls.mono HQ.out ?_
    rintro e w1 ⟨rfl, hb1⟩
    go_wp2
    go_ret
    exact ⟨ret_bool HR.out.symm, hb1⟩
  | true =>
    rw [hg] at HQ
    have hG := graph_is hg
    have HL := Lib.hid (fun W h1 h2 => l7Live_any A l c A2 ts c2 W h1 h2 hG (reachL_le hG _))
    have HRE := Lib.hid (fun u W h => l7Reached_any l A2 ts c2 u W hG h)
    have HYES : Hid (∀ u, u ∈ liveTxt l (psOf ts) → u ∈ reachL (psOf ts) u → ringsB l ts = true) := fun u h1 h2 => rings_yes (l := l) hg (u := u) ((live_mem hG u).1 h1) h2
    have HNO : Hid ((∀ u ∈ liveTxt l (psOf ts), u ∉ reachL (psOf ts) u) → ringsB l ts = false) := fun h => rings_no (l := l) (ts := ts) (fun u hu => h u ((live_mem hG u).2 hu))
    have hRL : ∀ u, (reachL (psOf ts) u).length ≤ 20 := fun u => reachL_le hG u
    have HRL := Lib.hid hRL
    rw [sorted_txt hG.valid, show (selIx (inB7 l (liveL l (psOf ts))) l.length).map (byteOf l) = liveTxt l (psOf ts) from rfl] at HL
    have h8 : (liveTxt l (psOf ts)).length ≤ 8 := Nat.le_trans (liveTxt_len _ _) (valid_all hG.valid).2.1
    clear hg hG hRL
    generalize liveTxt l (psOf ts) = x at *
    have HZ : Hid ((strOf x).size = x.length) := str_size x
    have HEX := Lib.hid (fun i h => str_at x (i := i) h)
    have HAT : Hid (∀ i (h : i < (strOf x).size) (h2 : i < x.length), (strOf x)[i]'h = x[i]'h2) := fun i h h2 => by simp [strOf, ByteArray.getElem_eq_getElem_data]
    have hz8 : (strOf x).size ≤ 8 := by rw [HZ.out]; exact h8
    generalize strOf x = z at *
    go_enter Try.func14, Try.ntmps14
    go_wp2_with fail
    refine Calls.mono HQ.out ?_
    rintro e w1 ⟨rfl, hb1⟩
    go_wp2_with fail
    refine Calls.mono (HL.out _ ((HW.out.below hb1).more hb1.size) ((HT.out.below hb1).more hb1.size)) ?_
    rintro e w2 ⟨rfl, hb2⟩
    have HB2 : Hid (Below w.heap.size w w2) := hb1.trans (hb2.mono hb1.size)
    clear hb1 hb2
    go_wp2
    go_loopw [16] (fun i wr => ∃ k : Nat, k ≤ z.size ∧ i = .int .i64 k ∧ Hid (∀ j (h : j < x.length), j < k → x[j] ∉ reachL (psOf ts) x[j]) ∧ Hid (Below w.heap.size w wr))
      (fun i _ => z.size - (intOf i).toNat)
    case atStart => exact ⟨0, Nat.zero_le _, rfl, fun j _ hj => absurd hj (Nat.not_lt_zero _), HB2⟩
    case round =>
      obtain ⟨k, hk, rfl, HP, HB⟩ := hrel
      have hk0 : (0 : Int) ≤ (k : Int) := Int.natCast_nonneg _
      by_cases hlt : k < z.size
      · have hlt' : (k : Int) < (z.size : Int) := by omega
        have hk1 : (k : Int) + 1 ≤ (z.size : Int) := by omega
        have hkx : k < x.length := by have := HZ.out; omega
        have hex := HEX.out k hkx
        have hat : z[k].toNat = x[k].toNat := by rw [HAT.out k hlt hkx]
        have HBD := Lib.hid ((Below.refl w.heap.size wr).drew)
        have HLR : Hid (∀ n, Calls Try.prog 50 #[.slice A2 ts.length c2, .string ⟨#[x[k]'hkx]⟩] (wr.drewN n) fun e w' => e = .returned (.string (strOf (reachL (psOf ts) (x[k]'hkx)))) ∧ w' = wr.drewN n) := fun n =>
          (HRE.out (x[k]'hkx) (wr.drewN n) ((HT.out.below (below_drewN HB.out n)).more (below_drewN HB.out n).size)).mono fun e w' ⟨h1, h2⟩ => ⟨h1, h2.symm⟩
        have HLF : Hid (∀ n, Calls Try.prog 53 #[.string (strOf (reachL (psOf ts) (x[k]'hkx))), .int .u8 (x[k]'hkx).toNat] (wr.drewN n) fun e w' => e = .returned (.int .i64 (findB (strOf (reachL (psOf ts) (x[k]'hkx))) (x[k]'hkx))) ∧ w' = wr.drewN n) := fun n =>
          (l13Find_any _ _ (wr.drewN n) (by rw [str_size]; have := HRL.out (x[k]'hkx); unfold maxLen; omega)).mono fun e w' ⟨h1, h2⟩ => ⟨h1, h2.symm⟩
        obtain ⟨p1, hp1⟩ : ∃ p1 : Nat, p1 = k + 1 := ⟨_, rfl⟩
        have hw1 : IntKind.i64.wrap ((k : Int) + 1) = (p1 : Int) := (IntWalk.i64_in _ (by omega)).trans (by omega)
        have hkp : (k : Int) ≤ (p1 : Int) := by omega
        have hpz : (p1 : Int) ≤ (z.size : Int) := by omega
        rw [← hp1] at hex
        have HP1E := Lib.hid hp1
        clear hp1
        have hrs : (strOf (reachL (psOf ts) x[k])).size ≤ 20 := by rw [str_size]; exact HRL.out _
        have HFD : Hid (0 ≤ findB (strOf (reachL (psOf ts) x[k])) x[k] ↔ x[k] ∈ reachL (psOf ts) x[k]) := findB_lo _ _
        have HBR : Hid (Below w.heap.size w wr.drew) := HB.out.drew
        have HYK : Hid (x[k]'hkx ∈ reachL (psOf ts) (x[k]'hkx) → ringsB l ts = true) := HYES.out (x[k]'hkx) (List.getElem_mem hkx)
        generalize hxk : x[k] = u at *
        have HXK := Lib.hid hxk
        clear hxk
        generalize strOf (reachL (psOf ts) u) = Rs at *
        by_cases hf : 0 ≤ findB Rs u
        · have HE := Lib.hid (HYK.out (HFD.out.1 hf))
          generalize hbu : (⟨#[u]⟩ : ByteArray) = bu at *
          go_wp2_with fail
          go_quiet (first
            | (go_at_call 50; exact Calls.quiet_of_same (HLR.out _))
            | (go_at_call 53; exact Calls.quiet_of_same (HLF.out _)))
          go_wp2
          go_ret
          exact ⟨ret_bool HE.out.symm, below_drewN HB.out _⟩
        · have HP1 : Hid (∀ j (h : j < x.length), j < p1 → x[j] ∉ reachL (psOf ts) x[j]) := fun j h hj => by
            have hj' := HP1E.out
            by_cases hjk : j = k
            · subst hjk
              rw [HXK.out]
              exact fun hm => hf (HFD.out.2 hm)
            · exact HP.out j h (by omega)
          generalize hbu : (⟨#[u]⟩ : ByteArray) = bu at *
          go_wp2_with fail
          go_quiet (first
            | (go_at_call 50; exact Calls.quiet_of_same (HLR.out _))
            | (go_at_call 53; exact Calls.quiet_of_same (HLF.out _)))
          go_wp2
          go_roundw
          case rel => exact ⟨p1, by have := HP1E.out; omega, rfl, HP1, below_drewN HB.out _⟩
          case measure => have := HP1E.out; simp [intOf]; omega
      · obtain rfl : k = z.size := by omega
        have HE := Lib.hid (HNO.out (fun u hu => by
          obtain ⟨j, hj, rfl⟩ := List.getElem_of_mem hu
          exact HP.out j hj (by have := HZ.out; omega)))
        go_wp2
        go_ret
        exact ⟨ret_bool HE.out.symm, HB.out⟩

end Go.Proofs.Ytbmfbnlmdjnddaa
/- soHas leaves the world as it was; what it says of a sorted text. -/
namespace Go.Proofs.Ytbmfbnlmdjnddaa
open Go.RowKit

set_option maxRecDepth 100000 in
set_option maxHeartbeats 1000000 in
theorem soHas_same (s c : ByteArray) (w : World) (hs : s.size ≤ 1048576) :
    Calls Try.prog 15 #[.string s, .string c] w fun e w' => e = .returned (.bool (hasT s c)) ∧ w' = w := by
  go_enter Try.func15, Try.ntmps15
  go_wp2
  go_loopw [8] (fun i wr => ∃ k : Nat, k ≤ s.size ∧ i = .int .i64 k ∧ Hid (∀ j, j < k → s.extract j (j + 1) ≠ c) ∧ wr = w)
    (fun i _ => s.size - (intOf i).toNat)
  case atStart => exact ⟨0, Nat.zero_le _, rfl, fun j hj => absurd hj (by omega), rfl⟩
  case round =>
    obtain ⟨k, hk, rfl, HN, rfl⟩ := hrel
    by_cases hlt : k < s.size
    · have hlt' : (k : Int) < (s.size : Int) := by omega
      have hk0 : (0 : Int) ≤ (k : Int) := Int.natCast_nonneg _
      have hq : ((k : Int) + 1).toNat = k + 1 := by omega
      by_cases he : s.extract k (k + 1) = c
      · have ht : ((s.extract k (k + 1)).toList == c.toList) = true := by rw [he]; simp
        have HF : Hid (hasT s c = true) := decide_eq_true ⟨k, hlt, he⟩
        clear he HN
        go_wp2
        go_ret
        exact ⟨ret_bool HF.out.symm, rfl⟩
      · have ht : ((s.extract k (k + 1)).toList == c.toList) = false := by
          have := (sameB_iff (a := s.extract k (k + 1)) (b := c))
          unfold sameB at this
          cases hq2 : ((s.extract k (k + 1)).toList == c.toList) with
          | false => rfl
          | true => exact absurd (this.1 hq2) he
        have HM : Hid (∀ j, j < k + 1 → s.extract j (j + 1) ≠ c) := fun j hj => by
          rcases Nat.lt_or_ge j k with h | h
          · exact HN.out j h
          · obtain rfl : j = k := by omega
            exact he
        clear he HN
        go_wp2
        go_roundw
        case rel => exact ⟨k + 1, by omega, by go_num, HM, trivial⟩
        case measure => simp [intOf]; omega
    · have HF : Hid (hasT s c = false) := decide_eq_false (fun ⟨j, hj, he⟩ => HN.out j (by omega) he)
      clear HN
      go_wp2
      go_ret
      exact ⟨ret_bool HF.out.symm, rfl⟩

/-- One of a text's characters is one byte. -/
theorem hasT_one (x : Txt) (u : UInt8) : hasT (strOf x) ⟨#[u]⟩ = decide (u ∈ x) := by
  unfold hasT
  rw [decide_eq_decide]
  constructor
  · rintro ⟨i, hi, he⟩
    rw [str_size] at hi
    rw [str_at x hi] at he
    injection he with he
    injection he with he
    injection he with he
    rw [← he]
    exact List.getElem_mem hi
  · intro hu
    obtain ⟨i, hi, rfl⟩ := List.getElem_of_mem hu
    exact ⟨i, by rw [str_size]; exact hi, str_at x hi⟩
/-- What is reached from a segment, as a text in the order of the tree. -/
def reachTxt (l : List Seg) (ps : List Txt) (u : UInt8) : Txt := (selIx (inB7 l (reachL ps u)) l.length).map (byteOf l)
theorem reach_sorted {l : List Seg} {ps : List Txt} (hv : validB l = true) (u : UInt8) : sortedB l (reachL ps u) = strOf (reachTxt l ps u) := sorted_txt hv _
theorem reachTxt_mem {l : List Seg} {ps : List Txt} (h : IsGraph l ps) (u v : UInt8) : v ∈ reachTxt l ps u ↔ v ∈ reachL ps u := by
  unfold reachTxt selIx
  rw [List.mem_map]
  constructor
  · rintro ⟨i, hi, rfl⟩
    exact of_decide_eq_true (List.mem_filter.1 hi).2
  · intro hu
    obtain ⟨i, hi, rfl⟩ := callP_byte h.valid (reach_callP h u v hu)
    exact ⟨i, List.mem_filter.2 ⟨List.mem_range.2 hi, decide_eq_true hu⟩, rfl⟩
theorem reachTxt_len (l : List Seg) (ps : List Txt) (u : UInt8) : (reachTxt l ps u).length ≤ l.length := by
  unfold reachTxt
  rw [List.length_map]
  exact selIx_len _ _
/-- The first of the law's loops finds nothing: what the reached call is reached. -/
theorem law_fwd {l : List Seg} {ps : List Txt} (h : IsGraph l ps) {u a b : UInt8} (hab : [a, b] ∈ ps) (ha : a = u ∨ hasT (strOf (reachTxt l ps u)) ⟨#[a]⟩ = true) : hasT (strOf (reachTxt l ps u)) ⟨#[b]⟩ = true := by
  rw [hasT_one, decide_eq_true_eq, reachTxt_mem h] at *
  exact reach_closed h hab ha
/-- The second: each that is reached is called by one of them, or by where they start. -/
theorem law_back {l : List Seg} {ps : List Txt} (h : IsGraph l ps) {u v : UInt8} (hv : v ∈ reachTxt l ps u) : ∃ a, [a, v] ∈ ps ∧ (a = u ∨ hasT (strOf (reachTxt l ps u)) ⟨#[a]⟩ = true) := by
  rw [reachTxt_mem h] at hv
  obtain ⟨a, h1, h2⟩ := reach_back h hv
  exact ⟨a, h1, h2.imp_right (fun h3 => by rw [hasT_one, decide_eq_true_eq, reachTxt_mem h]; exact h3)⟩

end Go.Proofs.Ytbmfbnlmdjnddaa
/- The program's ReachedFrom. -/
namespace Go.Proofs.Ytbmfbnlmdjnddaa
open Go.RowKit Go.Shelf

attribute [local irreducible] waysB in
set_option maxRecDepth 100000 in
set_option maxHeartbeats 4000000 in
theorem implReached_any (A : Option Addr) (l : List Seg) (c : Nat) (A2 : Option Addr) (ts : List ByteArray) (c2 : Nat) (s : ByteArray) (w : World) (hw : Segs w w.heap.size A l) (ht : St.Strs w w.heap.size A2 ts) (hl : l.length ≤ 1048576) (hlc : l.length ≤ c) (hcm : c ≤ 9223372036854775807) (hn : Short l) (htl : ts.length ≤ 1048576) (hts : ∀ s ∈ ts, s.size ≤ 1048576) (_hs : s.size ≤ 1048576) :
    Calls Try.prog 11 #[.slice A l.length c, .slice A2 ts.length c2, .string s] w fun e w' => e = .returned (.tuple #[.string (reachRes l ts s), .bool (reachOk l ts s)]) ∧ Below w.heap.size w w' := by
  have HQ := Lib.hid (graphOf_any A l c A2 ts c2 w hw ht hl hlc hcm hn htl hts)
  unfold GraphPost at HQ
  have HN := Lib.hid (fun W h => nameTaken_any A l c s W h hl)
  have HW : Hid (Segs w w.heap.size A l) := hw
  clear hw ht hn hts
  go_enter Try.func11, Try.ntmps11
  go_wp2_with fail
  refine Calls.mono HQ.out ?_
  rintro e w1 ⟨hb1, (⟨hg, rfl⟩ | ⟨hg, b, rfl, hGA⟩)⟩
  · have HR : Hid (reachRes l ts s = ⟨#[]⟩ ∧ reachOk l ts s = false) := by
      have h1 : reachOk l ts s = false := by unfold reachOk; rw [hg]; rfl
      exact ⟨by unfold reachRes; rw [if_neg (by rw [h1]; decide)], h1⟩
    clear hg
    go_wp2
    go_ret2
    exact ⟨by rw [HR.out.1, HR.out.2]; rfl, hb1⟩
  · have hG := graph_is hg
    have HB1 := Lib.hid hb1
    have HGA := Lib.hid hGA
    cases htk : takenB l s with
    | false =>
      have HR : Hid (reachRes l ts s = ⟨#[]⟩ ∧ reachOk l ts s = false) := by
        have h1 : reachOk l ts s = false := by unfold reachOk; rw [hg, htk]; rfl
        exact ⟨by unfold reachRes; rw [if_neg (by rw [h1]; decide)], h1⟩
      rw [htk] at HN
      clear hg hG hb1 hGA htk
      go_wp2_with fail
      refine Calls.mono (HN.out _ ((HW.out.below HB1.out).more HB1.out.size)) ?_
      rintro e w2 ⟨rfl, hb2⟩
      have HB2 : Hid (Below w.heap.size w w2) := HB1.out.trans (hb2.mono HB1.out.size)
      go_wp2
      go_ret2
      exact ⟨by rw [HR.out.1, HR.out.2]; rfl, HB2.out⟩
    | true =>
      obtain ⟨u, rfl⟩ := taken_one hG.valid htk
      have HR : Hid (reachRes l ts ⟨#[u]⟩ = sortedB l (reachL (psOf ts) u) ∧ reachOk l ts ⟨#[u]⟩ = true) := by
        have h1 : reachOk l ts ⟨#[u]⟩ = true := by unfold reachOk; rw [hg, htk]; rfl
        exact ⟨by unfold reachRes; rw [if_pos h1]; rfl, h1⟩
      rw [htk] at HN
      have HV := Lib.hid hG.valid
      have h8 := (valid_all hG.valid).2.1
      have HRF := Lib.hid (fun W h1 h2 => reachedFrom_any w.heap.size w1.heap.size b l (psOf ts) u W hG h1 h2)
      have hr20 := reachL_le hG u
      have HG : Hid (∀ i, decide (([byteOf l i] : Txt) ∈ (reachL (psOf ts) u).map fun c => [c]) = inB7 l (reachL (psOf ts) u) i) := fun i => by
        unfold inB7
        rw [singles_mem]
      clear hg hG hb1 hGA htk
      unfold sortedB at HR
      generalize hRL : reachL (psOf ts) u = RL at *
      generalize hg7 : inB7 l RL = g at *
      clear hRL hg7
      generalize hbu : (⟨#[u]⟩ : ByteArray) = bu at *
      have HBU := Lib.hid hbu
      clear hbu
      go_wp2_with fail
      refine Calls.mono (HN.out _ ((HW.out.below HB1.out).more HB1.out.size)) ?_
      rintro e w2 ⟨rfl, hb2⟩
      have HB2 : Hid (Below w.heap.size w w2) := HB1.out.trans (hb2.mono HB1.out.size)
      have HGA2 : Hid (GraphAt w2 w.heap.size w1.heap.size b (psOf ts)) := HGA.out.below hb2
      have hz2 := hb2.size
      clear hb2
      go_wp2_with fail
      refine Calls.mono (HRF.out _ HGA2.out hz2) ?_
      rintro e w3 ⟨rfl, hs3, hb3⟩
      have HB3 : Hid (Below w.heap.size w w3) := HB2.out.trans (hb3.mono HB2.out.size)
      have HS3 := Lib.hid hs3
      have hc3 := hs3.lt
      clear hs3 hb3
      generalize w2.heap.size = c0 at *
      have hI0 : Hid (Lib.IsBuilderF 67 5 w3.heap.size w3.heap.size (Lib.byteCells (namesAt l (selIx g 0)).data.toList) (w3.alloc (.cells #[.pointer none, .slice none 0 0] 67))) :=
        Lib.IsBuilderF.of (Lib.fresh_isBuilder 67 5 w3)
      have hB0 : Hid (Below w3.heap.size w3 (w3.alloc (.cells #[.pointer none, .slice none 0 0] 67))) := (Below.refl _ w3).alloc (Nat.le_refl _) _
      go_wp2
      go_loopw [33] (fun i wr => ∃ k : Nat, k ≤ l.length ∧ i = .int .i64 k ∧ Hid (Lib.IsBuilderF 67 5 w3.heap.size w3.heap.size (Lib.byteCells (namesAt l (selIx g k)).data.toList) wr) ∧ Hid (Below w3.heap.size w3 wr))
        (fun i _ => l.length - (intOf i).toNat)
      case atStart => exact ⟨0, Nat.zero_le _, rfl, hI0, hB0⟩
      case round =>
        clear hI0 hB0
        obtain ⟨k, hk, rfl, HI, HB⟩ := hrel
        have hk0 : (0 : Int) ≤ (k : Int) := Int.natCast_nonneg _
        have hbz := HB.out.size
        by_cases hlt : k < l.length
        · have hlt' : (k : Int) < (l.length : Int) := by omega
          obtain ⟨b9, o, rfl, hB, hc⟩ := HW.out (by omega)
          obtain ⟨d0, d1, d2⟩ := hc k l[k] (List.getElem?_eq_getElem hlt)
          clear hc
          have HBW : Hid (Below w.heap.size w wr) := HB3.out.trans (HB.out.mono HB3.out.size)
          rw [← HBW.out.cell hB] at d0 d1 d2
          have hn1 := (nmAt_one HV.out hlt).2
          have HS := Lib.hid (selIx_succ g k)
          have HGK := Lib.hid (HG.out k)
          have HNS : Hid (∀ js : List Nat, namesAt l (js ++ [k]) = namesAt l js ++ ⟨#[byteOf l k]⟩) := fun js => by rw [← hn1]; exact namesAt_snoc js hlt
          have hlook := (HS3.out.block (HB.out.block _ hc3)).look [byteOf l k] (by rw [str_size]; exact (by decide : 1 ≤ 1000))
          rw [HGK.out] at hlook
          rw [hn1] at d0
          generalize l[k] = sg at *
          have hlook' : (Instr.lookup 63 (.map (some c0)) (.string ⟨#[byteOf l k]⟩) false).run Try.prog (wr.alloc (.cells #[.string ⟨#[byteOf l k]⟩, .int .i64 sg.size, .int .i64 sg.par] 69)) = .ok (.bool (g k)) (wr.alloc (.cells #[.string ⟨#[byteOf l k]⟩, .int .i64 sg.size, .int .i64 sg.par] 69)) := by
            have h1 := ((HS3.out.block (HB.out.block _ hc3)).block (Y := wr.alloc (.cells #[.string ⟨#[byteOf l k]⟩, .int .i64 sg.size, .int .i64 sg.par] 69)) (Below.heap_alloc wr _ _ (by omega))).look [byteOf l k] (by rw [str_size]; exact (by decide : 1 ≤ 1000))
            rw [HGK.out] at h1
            exact h1
          clear hlook
          have HIA : Hid (Lib.IsBuilderF 67 5 w3.heap.size w3.heap.size (Lib.byteCells (namesAt l (selIx g k)).data.toList) (wr.alloc (.cells #[.string ⟨#[byteOf l k]⟩, .int .i64 sg.size, .int .i64 sg.par] 69))) := Lib.IsBuilderF.alloc HI.out _
          have HBA : Hid (Below w3.heap.size w3 (wr.alloc (.cells #[.string ⟨#[byteOf l k]⟩, .int .i64 sg.size, .int .i64 sg.par] 69))) := HB.out.alloc hbz _
          have hln : (namesAt l (selIx g k)).size ≤ 1048576 := by
            have h1 := namesAt_len (valid_names HV.out) (selIx g k)
            have h2 := selIx_len g k
            omega
          generalize byteOf l k = bt at *
          cases hf : g k with
          | false =>
            rw [hf] at hlook'
            have HI1 : Hid (Lib.IsBuilderF 67 5 w3.heap.size w3.heap.size (Lib.byteCells (namesAt l (selIx g (k + 1))).data.toList) (wr.alloc (.cells #[.string ⟨#[bt]⟩, .int .i64 sg.size, .int .i64 sg.par] 69))) := by
              show Lib.IsBuilderF _ _ _ _ _ _
              rw [HS.out, if_neg (by rw [hf]; decide), List.append_nil]
              exact HIA.out
            clear hf HS
            go_wp2
            go_roundw
            case rel => exact ⟨k + 1, by omega, by go_num, HI1, HBA⟩
            case measure => simp [intOf]; omega
          | true =>
            rw [hf] at hlook'
            have HS1 : Hid (Lib.byteCells (namesAt l (selIx g (k + 1))).data.toList = Lib.byteCells (namesAt l (selIx g k)).data.toList ++ Lib.strCells ⟨#[bt]⟩) := by
              show _ = _
              rw [HS.out, if_pos hf, HNS.out, ByteArray.data_append, Array.toList_append]
              simp [Lib.byteCells, Lib.strCells]
            have hl1 : (Lib.byteCells (namesAt l (selIx g k)).data.toList).length + (⟨#[bt]⟩ : ByteArray).size ≤ 140737488355328 := by
              have h1 : (Lib.byteCells (namesAt l (selIx g k)).data.toList).length = (namesAt l (selIx g k)).size := by simp [Lib.byteCells]
              have h2 : (⟨#[bt]⟩ : ByteArray).size = 1 := rfl
              omega
            clear hf HS
            generalize (⟨#[bt]⟩ : ByteArray) = bbt at *
            go_wp2_with fail
            refine (writeString_any w3.heap.size w3.heap.size _ bbt _ HIA.out hl1 (by simp; omega)).mono ?_
            rintro e w5 ⟨rfl, hI1, hb5, hk5⟩
            have HI1 : Hid (Lib.IsBuilderF 67 5 w3.heap.size w3.heap.size (Lib.byteCells (namesAt l (selIx g (k + 1))).data.toList) w5) := by
              show Lib.IsBuilderF _ _ _ _ _ _
              rw [HS1.out]
              exact hI1
            have HB5 : Hid (Below w3.heap.size w3 w5) := HBA.out.trans (hb5.mono (Nat.le_refl _))
            clear hI1 hb5 hk5
            go_wp2
            go_roundw
            case rel => exact ⟨k + 1, by omega, by go_num, HI1, HB5⟩
            case measure => simp [intOf]; omega
        · obtain rfl : k = l.length := by omega
          go_wp2_with fail
          refine (Try.Builder_String_any_k w3.heap.size w3.heap.size _ _ HI.out (by omega)).mono ?_
          rintro e w5 ⟨rfl, hI1, hb5, hk5⟩
          have HB5 : Hid (Below w.heap.size w w5) := HB3.out.trans ((HB.out.trans (hb5.mono (by omega))).mono HB3.out.size)
          clear hI1 hb5 hk5
          go_wp2
          go_ret2
          exact ⟨by rw [HBU.out, HR.out.1, HR.out.2]; rfl, HB5.out⟩

end Go.Proofs.Ytbmfbnlmdjnddaa
/- The program's HasRings. -/
namespace Go.Proofs.Ytbmfbnlmdjnddaa
open Go.RowKit Go.Shelf Go.Sort

theorem below_grown {X Y Z : World} {B r : Nat} (h : Below B X Y) (hg : Y.grownBy Z (some r)) (hr : B ≤ r) (hB : B ≤ Y.heap.size) : Below B X Z :=
  h.trans ⟨hg.os, hg.tape, hg.output, hg.size, fun k hk => hg.block k (by omega) (fun e => by injection e with e; omega)⟩

attribute [local irreducible] waysB in
set_option maxRecDepth 100000 in
set_option maxHeartbeats 4000000 in
theorem implRings_any (A : Option Addr) (l : List Seg) (c : Nat) (A2 : Option Addr) (ts : List ByteArray) (c2 : Nat) (w : World) (hw : Segs w w.heap.size A l) (ht : St.Strs w w.heap.size A2 ts) (hl : l.length ≤ 1048576) (hlc : l.length ≤ c) (hcm : c ≤ 9223372036854775807) (hn : Short l) (htl : ts.length ≤ 1048576) (hts : ∀ s ∈ ts, s.size ≤ 1048576) :
    Calls Try.prog 13 #[.slice A l.length c, .slice A2 ts.length c2] w fun e w' => e = .returned (.bool (ringsB l ts)) ∧ Below w.heap.size w w' := by
  have HQ := Lib.hid (graphOf_any A l c A2 ts c2 w hw ht hl hlc hcm hn htl hts)
  unfold GraphPost at HQ
  have HW : Hid (Segs w w.heap.size A l) := hw
  clear hw ht hn hts
  go_enter Try.func13, Try.ntmps13
  go_wp2_with fail
  refine Calls.mono HQ.out ?_
  rintro e w1 ⟨hb1, (⟨hg, rfl⟩ | ⟨hg, b, rfl, hGA⟩)⟩
  · have HR := Lib.hid (rings_bad hg)
    clear hg
    go_wp2
    go_ret
    exact ⟨ret_bool HR.out.symm, hb1⟩
  · have hG := graph_is hg
    have HB1 := Lib.hid hb1
    have HGA := Lib.hid hGA
    have hv := hG.valid
    have h1l : 0 < l.length := (valid_all hv).2.2
    obtain ⟨u0, hu0⟩ : ∃ u, u = rootB l := ⟨_, rfl⟩
    have HLF := Lib.hid (fun W h1 h2 => liveFrom_any w.heap.size w1.heap.size b l (psOf ts) u0 W hG h1 h2)
    have HRF := Lib.hid (fun u W h1 h2 => reachedFrom_any w.heap.size w1.heap.size b l (psOf ts) u W hG h1 h2)
    have HMEM : Hid (∀ x, x ∈ (reachL (psOf ts) u0 ++ [u0]).map (fun c => [c]) → ∃ u, x = [u] ∧ u ∈ liveL l (psOf ts)) := fun x hx => by
      obtain ⟨u, hu, rfl⟩ := List.mem_map.1 hx
      refine ⟨u, rfl, ?_⟩
      unfold liveL
      rw [← hu0]
      rcases List.mem_append.1 hu with hu | hu
      · exact List.mem_cons_of_mem _ hu
      · rw [List.mem_singleton.1 hu]; exact List.mem_cons_self
    have HALL : Hid (∀ u, u ∈ liveL l (psOf ts) → [u] ∈ (reachL (psOf ts) u0 ++ [u0]).map (fun c => [c])) := fun u hu => by
      unfold liveL at hu
      rw [← hu0] at hu
      refine List.mem_map.2 ⟨u, ?_, rfl⟩
      rcases List.mem_cons.1 hu with rfl | hu
      · exact List.mem_append.2 (.inr (List.mem_singleton.2 rfl))
      · exact List.mem_append.2 (.inl hu)
    have HYES : Hid (∀ u, u ∈ liveL l (psOf ts) → u ∈ reachL (psOf ts) u → ringsB l ts = true) := fun u h1 h2 => rings_yes (l := l) hg (u := u) h1 h2
    have HNO : Hid ((∀ u ∈ liveL l (psOf ts), u ∉ reachL (psOf ts) u) → ringsB l ts = false) := fun h => rings_no (l := l) (ts := ts) h
    have hln : ((reachL (psOf ts) u0 ++ [u0]).map (fun c => [c])).length ≤ 1000 := by
      rw [List.length_map, List.length_append, List.length_singleton]
      have := reachL_le hG u0
      omega
    obtain ⟨b9, o, rfl, hB, hc⟩ := HW.out h1l
    obtain ⟨s0, hs0, hn1⟩ := root_name hv
    obtain ⟨d0, -, -⟩ := hc 0 s0 hs0
    clear hc
    rw [← hb1.cell hB, hn1, ← hu0, Nat.zero_mul, Nat.add_zero] at d0
    clear hg hG hb1 hGA hv hn1 hu0 hs0 s0
    generalize (reachL (psOf ts) u0 ++ [u0]).map (fun c => [c]) = LV at *
    go_wp2_with fail
    refine Calls.mono (HLF.out _ HGA.out (Nat.le_refl _)) ?_
    rintro e w2 ⟨rfl, hs2, hb2⟩
    have HB2 : Hid (Below w.heap.size w w2) := HB1.out.trans (hb2.mono HB1.out.size)
    have HB12 := Lib.hid hb2
    have hz12 := hb2.size
    have hz01 := HB1.out.size
    clear hb2
    obtain ⟨D, hP, hval⟩ := hs2
    obtain ⟨hown, hhas⟩ := hP
    have HHAS := Lib.hid hhas
    clear hhas hval
    have hcl := hown.lt
    generalize hcc : w1.heap.size = cc at *
    go_wp2_with (first
      | (at_range; refine wpList_range_own _ rfl _ 63 rfl 9 4 (Maps.string_keyed Try.underlying9) Try.underlying63 _ cc _ _ rfl hown ?_; intro w0 hrg0 hg0 hs0)
      | go_in)
    have HB0 : Hid (Below cc w1 w0) := HB12.out.trans ((show Below cc w2 w0 from ⟨hg0.os, hg0.tape, hg0.output, hg0.size, fun k hk => hg0.block k (by omega) (by simp)⟩))
    go_frame
    go_loopw [7] (fun _ wr => ∃ (left : Lit → Bool) (cnt : Nat) (ss : List Txt), wr.ranges Try.prog 9 (plainElem Try.prog 4) cc w2.heap.size LV.length D left cnt ∧ Hid (Collected D left ss) ∧ Hid (∀ u, [u] ∈ ss → u ∉ reachL (psOf ts) u) ∧ Hid (Below cc w1 wr))
      (fun _ wr => wr.rangeLeft cc w2.heap.size)
    case atStart => exact ⟨_, _, [], hrg0, Collected.start D, fun u hu => absurd hu (by simp), HB0⟩
    case round =>
      obtain ⟨left, cnt, ss, hrg, HC, HP, HB⟩ := hrel
      go_wp2_with (first
        | (at_next; refine wpList_next_ranges _ rfl _ rfl 9 (Maps.string_keyed Try.underlying9) (plainElem Try.prog 4) encStr id (fun key kl hk => by obtain ⟨x, hx, _⟩ := Maps.keyOf_str Try.underlying9 hk; exact ⟨x, hx⟩) (fun v _ _ => ⟨v, rfl⟩) cc w2.heap.size LV.length _ _ _ rfl hrg ?_ ?_)
        | go_in)
      · intro hc0 hl0
        have HE := Lib.hid (HNO.out (fun u hu => HP.out u ((HC.out.2 [u]).2 ⟨(HHAS.out [u]).2 (HALL.out u hu), hl0 _⟩)))
        have HBW : Hid (Below w.heap.size w wr) := HB1.out.trans (HB.out.mono hz01)
        go_wp2
        go_ret
        exact ⟨ret_bool HE.out.symm, HBW.out⟩
      · intro x cv kl yd yp w3 cnt2 hkey hlk hv hat hrg2 hlt hg2 hs2 hen
        obtain ⟨x', ex, rfl, _⟩ := Maps.keyOf_str Try.underlying9 hkey
        obtain rfl : x = x' := encStr_inj ex
        have hhx : x ∈ LV := (HHAS.out x).1 (Maps.has_true_of_atKey hat)
        obtain ⟨u, rfl, hul⟩ := HMEM.out x hhx
        have HC2 := Lib.hid (HC.out.step hlk hat)
        have HB3 : Hid (Below cc w1 w3) := below_grown HB.out hg2 hz12 (hcc ▸ HB.out.size)
        have HGA3 : Hid (GraphAt w3 w.heap.size cc b (psOf ts)) := HGA.out.below HB3.out
        have hz3 : cc ≤ w3.heap.size := by have := HB3.out.size; omega
        have HYU := Lib.hid (HYES.out u hul)
        clear hs2 hkey hlk hv hat hhx
        go_wp2_with fail
        refine Calls.mono (HRF.out u _ HGA3.out hz3) ?_
        rintro e w4 ⟨rfl, hs4, hb4⟩
        have hlook := hs4.look [u] (by rw [str_size]; exact (by decide : 1 ≤ 1000))
        have hlook' : (Instr.lookup 63 (.map (some w3.heap.size)) (.string ⟨#[u]⟩) false).run Try.prog w4 = .ok (.bool (decide (u ∈ reachL (psOf ts) u))) w4 := by
          have e : decide ([u] ∈ (reachL (psOf ts) u).map fun c => [c]) = decide (u ∈ reachL (psOf ts) u) := by rw [singles_mem]
          rw [← e]
          exact hlook
        clear hlook hs4
        have hrg4 := hrg2.kept (grown_of_below hb4) (by simp) (by simp)
        have HB4 : Hid (Below cc w1 w4) := HB3.out.trans (hb4.mono (by omega))
        clear hb4
        by_cases hm : u ∈ reachL (psOf ts) u
        · have HE := Lib.hid (HYU.out hm)
          rw [decide_eq_true hm] at hlook'
          have HBW : Hid (Below w.heap.size w w4) := HB1.out.trans (HB4.out.mono hz01)
          go_wp2
          go_ret
          exact ⟨ret_bool HE.out.symm, HBW.out⟩
        · have HP2 : Hid (∀ u', [u'] ∈ ss ++ [[u]] → u' ∉ reachL (psOf ts) u') := fun u' hu' => by
            rcases List.mem_append.1 hu' with h | h
            · exact HP.out u' h
            · have := List.mem_singleton.1 h
              injection this with this
              rw [this]
              exact hm
          rw [decide_eq_false hm] at hlook'
          go_wp2
          go_roundw
          case rel => exact ⟨_, cnt2, ss ++ [[u]], hrg4, HC2.out, HP2, HB4⟩
          case measure => rw [hrg4.left_eq, hrg.left_eq]; exact hlt

end Go.Proofs.Ytbmfbnlmdjnddaa
