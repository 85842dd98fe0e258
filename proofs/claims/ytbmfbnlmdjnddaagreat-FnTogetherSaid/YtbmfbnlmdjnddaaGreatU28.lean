/- Joined: Jp Js Jy Jz Br Ia Jt. -/
import Derived.Test.YtbmfbnlmdjnddaaGreatU26
import Derived.Test.YtbmfbnlmdjnddaaGreatU27
import Derived.Maps.RangeWalk
import Derived.Test.YtbmfbnlmdjnddaaGreatU20
import Derived.Test.YtbmfbnlmdjnddaaGreatU21
import Derived.Test.YtbmfbnlmdjnddaaGreatU07
import Derived.Sort.KeysCollected
/- The reference: names in the order of the tree, what is live, ReachedFrom and HasRings. -/
namespace Go.Proofs.YtbmfbnlmdjnddaaGreat
open Go.RowKit

theorem taken_one {l : List Seg} (hv : validB l = true) {s : ByteArray} (h : takenB l s = true) : ∃ c, s = ⟨#[c]⟩ := by
  unfold takenB at h
  obtain ⟨x, hx, he⟩ := List.any_eq_true.1 h
  obtain ⟨c, hc, _⟩ := nameOk_one (validB_names hv hx)
  exact ⟨c, by rw [← sameB_iff.1 he, hc]⟩
/-- Which segments are among some names, in the order of the tree. -/
def inB7 (l : List Seg) (bs : List UInt8) (i : Nat) : Bool := decide (byteOf l i ∈ bs)
def sortedB (l : List Seg) (bs : List UInt8) : ByteArray := namesAt l (selIx (inB7 l bs) l.length)

set_option maxRecDepth 100000 in
set_option maxHeartbeats 2000000 in
theorem l7Sorted_any (A : Option Addr) (l : List Seg) (c : Nat) (bs : List UInt8) (w : World) (hw : Segs w w.heap.size A l) (hv : validB l = true) (hb : bs.length ≤ 1000) :
    Calls Tryz.prog 190 #[.slice A l.length c, .string (strOf bs)] w fun e w' => e = .returned (.string (sortedB l bs)) ∧ Below w.heap.size w w' := by
  have HW : Hid (Segs w w.heap.size A l) := hw
  have HV := Lib.hid hv
  have h8 := (valid_all hv).2.1
  have hs1 : (strOf bs).size ≤ 1000 := by rw [str_size]; exact hb
  have HG : Hid (∀ i, decide (0 ≤ findB (strOf bs) (byteOf l i)) = inB7 l bs i) := fun i => by
    unfold inB7
    rw [decide_eq_decide, findB_lo]
    exact Iff.rfl
  unfold sortedB
  generalize strOf bs = Ls at *
  generalize inB7 l bs = g at *
  clear hw hv
  go_enter Tryz.func190, Tryz.ntmps190
  go_wp2
  go_loopw [5, 10] (fun o i wr => ∃ k : Nat, k ≤ l.length ∧ i = .int .i64 k ∧ o = .string (namesAt l (selIx g k)) ∧ Hid (Below w.heap.size w wr))
    (fun _ i _ => l.length - (intOf i).toNat)
  case atStart => exact ⟨0, Nat.zero_le _, rfl, rfl, Below.refl _ _⟩
  case round =>
    obtain ⟨k2, hk2, rfl, rfl, HB2⟩ := hrel
    by_cases hlt2 : k2 < l.length
    · obtain ⟨b, o, rfl, hB, hc⟩ := HW.out (by omega)
      obtain ⟨c0, c1, c2⟩ := hc k2 l[k2] (List.getElem?_eq_getElem hlt2)
      clear hc
      rw [← HB2.out.cell hB] at c0 c1 c2
      have hn1 := (nmAt_one HV.out hlt2).2
      have HG1 := Lib.hid (HG.out k2)
      have HSK := Lib.hid (selIx_succ g k2)
      have HNS : Hid (∀ js : List Nat, namesAt l (js ++ [k2]) = namesAt l js ++ ⟨#[byteOf l k2]⟩) := fun js => by rw [← hn1]; exact namesAt_snoc js hlt2
      have hln : (namesAt l (selIx g k2)).size ≤ 1048576 := by
        have h1 := namesAt_len (valid_names HV.out) (selIx g k2)
        have h2 := selIx_len g k2
        omega
      rw [hn1] at c0
      have hb2 := HB2.out.size
      generalize byteOf l k2 = bt at *
      generalize l[k2] = sg at *
      have HBA : Hid (Below w.heap.size w (wr.alloc (.cells #[.string ⟨#[bt]⟩, .int .i64 sg.size, .int .i64 sg.par] 51))) := HB2.out.alloc hb2 _
      go_wp2_with fail
      refine (l13Find_any Ls bt _ (by unfold maxLen; omega)).mono ?_
      rintro e w3 ⟨rfl, rfl⟩
      by_cases hf : 0 ≤ findB Ls bt
      · have HS1 : Hid (selIx g (k2 + 1) = selIx g k2 ++ [k2]) := by
          show _ = _
          rw [HSK.out, ← HG1.out, decide_eq_true hf, if_pos rfl]
        clear HG1 HSK
        have hbs : (⟨#[bt]⟩ : ByteArray).size = 1 := rfl
        go_wp2
        go_roundw
        case rel => exact ⟨k2 + 1, by omega, by go_num, by rw [HS1.out, HNS.out], HBA⟩
        case measure => simp [intOf]; omega
      · have HS1 : Hid (selIx g (k2 + 1) = selIx g k2) := by
          show _ = _
          rw [HSK.out, ← HG1.out, decide_eq_false hf, if_neg (by decide), List.append_nil]
        clear HG1 HSK
        go_wp2
        go_roundw
        case rel => exact ⟨k2 + 1, by omega, by go_num, by rw [HS1.out], HBA⟩
        case measure => simp [intOf]; omega
    · obtain rfl : k2 = l.length := by omega
      go_wp2
      go_ret
      exact ⟨rfl, HB2.out⟩

/-- The root, and all that is reached from it. -/
def liveL (l : List Seg) (ps : List Txt) : List UInt8 := rootB l :: reachL ps (rootB l)

attribute [local irreducible] waysB in
set_option maxRecDepth 100000 in
set_option maxHeartbeats 2000000 in
theorem l7Live_any (A : Option Addr) (l : List Seg) (c : Nat) (A2 : Option Addr) (ts : List ByteArray) (c2 : Nat) (w : World) (hw : Segs w w.heap.size A l) (ht : St.Strs w w.heap.size A2 ts) (hG : IsGraph l (psOf ts)) (hr : (reachL (psOf ts) (rootB l)).length ≤ 20) :
    Calls Tryz.prog 149 #[.slice A l.length c, .slice A2 ts.length c2] w fun e w' => e = .returned (.string (sortedB l (liveL l (psOf ts)))) ∧ Below w.heap.size w w' := by
  have HQ := Lib.hid (l7Reached_any l A2 ts c2 (rootB l) w hG ht)
  have HS := Lib.hid (l7Sorted_any A l c (liveL l (psOf ts)) w hw hG.valid (by unfold liveL; rw [List.length_cons]; omega))
  have hlp : (0 : Int) < (l.length : Int) := by have := (valid_all hG.valid).2.2; omega
  obtain ⟨b0, o0, rfl, hB0, c0⟩ := hw.root hG.valid
  have HC : Hid ((⟨#[rootB l]⟩ : ByteArray) ++ strOf (reachL (psOf ts) (rootB l)) = strOf (liveL l (psOf ts))) := bytes_cat [rootB l] (reachL (psOf ts) (rootB l))
  have hsz : (strOf (reachL (psOf ts) (rootB l))).size ≤ 20 := by rw [str_size]; exact hr
  have hb1 : (⟨#[rootB l]⟩ : ByteArray).size = 1 := rfl
  clear hw ht hG hr
  generalize strOf (reachL (psOf ts) (rootB l)) = Rs at *
  generalize sortedB l (liveL l (psOf ts)) = Ss at *
  generalize strOf (liveL l (psOf ts)) = Ls at *
  generalize (⟨#[rootB l]⟩ : ByteArray) = br at *
  go_enter Tryz.func149, Tryz.ntmps149
  go_wp2_with fail
  refine Calls.mono HQ.out ?_
  rintro e w1 ⟨rfl, rfl⟩
  go_wp2_with fail
  rw [HC.out]
  refine Calls.mono HS.out ?_
  rintro e w2 ⟨rfl, hb2⟩
  go_wp2
  go_ret
  exact ⟨rfl, hb2⟩

def reachOk (l : List Seg) (ts : List ByteArray) (s : ByteArray) : Bool := graphB l ts && takenB l s
def reachRes (l : List Seg) (ts : List ByteArray) (s : ByteArray) : ByteArray := if reachOk l ts s = true then sortedB l (reachL (psOf ts) (s.data.toList.headD 0)) else ⟨#[]⟩

theorem reachL_le {l : List Seg} {ps : List Txt} (h : IsGraph l ps) (u : UInt8) : (reachL ps u).length ≤ 20 := by
  unfold reachL
  rw [lasts_len]
  have := waysB_len (u := u) h.len
  omega

end Go.Proofs.YtbmfbnlmdjnddaaGreat
/- HasRings on both sides. -/
namespace Go.Proofs.YtbmfbnlmdjnddaaGreat
open Go.RowKit Go.Shelf Go.Sort

theorem sorted_txt {l : List Seg} (hv : validB l = true) (bs : List UInt8) : sortedB l bs = strOf ((selIx (inB7 l bs) l.length).map (byteOf l)) := by
  have h : ∀ js : List Nat, (∀ i ∈ js, i < l.length) → js.flatMap (nmAt l) = js.map (byteOf l) := by
    intro js
    induction js with
    | nil => intro _; rfl
    | cons i js ih =>
      intro hi
      rw [List.flatMap_cons, ih (fun j hj => hi j (List.mem_cons_of_mem _ hj)), (nmAt_one hv (hi i List.mem_cons_self)).1]
      rfl
  unfold sortedB
  show (⟨((selIx (inB7 l bs) l.length).flatMap (nmAt l)).toArray⟩ : ByteArray) = _
  rw [h _ (fun i hi => by
    unfold selIx at hi
    exact List.mem_range.1 (List.mem_filter.1 hi).1)]
  rfl
theorem callP_byte {l : List Seg} (hv : validB l = true) {u : UInt8} (h : callP l u = true) : ∃ i, i < l.length ∧ byteOf l i = u := by
  have h0 : 0 ≤ indexB l ⟨#[u]⟩ := of_decide_eq_true h
  have h1 : indexB l ⟨#[u]⟩ = seek l ⟨#[u]⟩ := if_pos hv
  obtain ⟨i, hi⟩ := Int.eq_ofNat_of_zero_le h0
  obtain ⟨x, hx, hn⟩ := seek_name (l := l) (s := ⟨#[u]⟩) (j := i) (by rw [← h1]; exact hi)
  obtain ⟨hlt, he⟩ := List.getElem?_eq_some_iff.1 hx
  refine ⟨i, hlt, ?_⟩
  have h2 := (nmAt_one hv hlt).2
  rw [he, hn] at h2
  injection h2 with h2
  injection h2 with h2
  injection h2 with h2
  exact h2.symm
theorem reach_callP {l : List Seg} {ps : List Txt} (h : IsGraph l ps) (u : UInt8) : ∀ v ∈ reachL ps u, callP l v = true := fun v hv => by
  obtain ⟨p, hp, e⟩ := List.mem_map.1 ((qAt_ok ps u 32).2.2.1 v hv)
  obtain ⟨a, b, rfl, _, hb⟩ := h.two p hp
  rw [last_two] at e
  rw [← e]
  exact hb
theorem live_callP {l : List Seg} {ps : List Txt} (h : IsGraph l ps) : ∀ v ∈ liveL l ps, callP l v = true := fun v hv => by
  rcases List.mem_cons.1 hv with rfl | hv
  · exact root_callP h.valid
  · exact reach_callP h _ v hv
def liveTxt (l : List Seg) (ps : List Txt) : Txt := (selIx (inB7 l (liveL l ps)) l.length).map (byteOf l)
theorem live_mem {l : List Seg} {ps : List Txt} (h : IsGraph l ps) (u : UInt8) : u ∈ liveTxt l ps ↔ u ∈ liveL l ps := by
  unfold liveTxt selIx
  rw [List.mem_map]
  constructor
  · rintro ⟨i, hi, rfl⟩
    exact of_decide_eq_true (List.mem_filter.1 hi).2
  · intro hu
    obtain ⟨i, hi, rfl⟩ := callP_byte h.valid (live_callP h u hu)
    exact ⟨i, List.mem_filter.2 ⟨List.mem_range.2 hi, decide_eq_true hu⟩, rfl⟩
theorem liveTxt_len (l : List Seg) (ps : List Txt) : (liveTxt l ps).length ≤ l.length := by
  unfold liveTxt
  rw [List.length_map]
  exact selIx_len _ _
theorem str_at (x : Txt) {i : Nat} (h : i < x.length) : (strOf x).extract i (i + 1) = ⟨#[x[i]]⟩ := by
  have h1 := strOf_byte (x := x) (k := i) h
  rw [h1]
  unfold byteAt
  rw [List.getD_eq_getElem?_getD, List.getElem?_eq_getElem h]
  rfl

end Go.Proofs.YtbmfbnlmdjnddaaGreat
/- The reference's pairs that may be active at once. -/
namespace Go.Proofs.YtbmfbnlmdjnddaaGreat
open Go.RowKit Go.Shelf

/-- Two names as a pair in the order of the alphabet; none of one and the same. -/
def sym2 (u v : UInt8) : List Txt := if ([u] : Txt) < [v] then [[u, v]] else if ([v] : Txt) < [u] then [[v, u]] else []
def madeOf (u : UInt8) (vs : List UInt8) : List Txt := vs.flatMap (sym2 u)
def mades (x : Txt) (ps : List Txt) : List Txt := x.flatMap fun u => madeOf u (reachL ps u)
theorem sym2_lt {u v : UInt8} (h : ([u] : Txt) < [v]) : sym2 u v = [[u, v]] := if_pos h
theorem sym2_gt {u v : UInt8} (h0 : ¬ ([u] : Txt) < [v]) (h : ([v] : Txt) < [u]) : sym2 u v = [[v, u]] := (if_neg h0).trans (if_pos h)
theorem sym2_eq {u v : UInt8} (h0 : ¬ ([u] : Txt) < [v]) (h : ¬ ([v] : Txt) < [u]) : sym2 u v = [] := (if_neg h0).trans (if_neg h)
theorem madeOf_snoc (u : UInt8) (vs : List UInt8) (v : UInt8) : madeOf u (vs ++ [v]) = madeOf u vs ++ sym2 u v := by
  unfold madeOf
  rw [List.flatMap_append]
  simp
theorem mades_snoc (x : Txt) (u : UInt8) (ps : List Txt) : mades (x ++ [u]) ps = mades x ps ++ madeOf u (reachL ps u) := by
  unfold mades
  rw [List.flatMap_append]
  simp
theorem sym2_len (u v : UInt8) : (sym2 u v).length ≤ 1 := by
  unfold sym2
  split
  · exact Nat.le_refl _
  · split
    · exact Nat.le_refl _
    · exact Nat.zero_le _
theorem madeOf_len (u : UInt8) : ∀ vs : List UInt8, (madeOf u vs).length ≤ vs.length
  | [] => Nat.le_refl _
  | v :: vs => by
    show (sym2 u v ++ madeOf u vs).length ≤ _
    rw [List.length_append, List.length_cons]
    have h1 := sym2_len u v
    have h2 := madeOf_len u vs
    omega
theorem mades_len {ps : List Txt} (h : ∀ u, (reachL ps u).length ≤ 20) : ∀ x : Txt, (mades x ps).length ≤ 20 * x.length
  | [] => Nat.le_refl _
  | u :: x => by
    show (madeOf u (reachL ps u) ++ mades x ps).length ≤ _
    rw [List.length_append, List.length_cons]
    have h1 := madeOf_len u (reachL ps u)
    have h2 := mades_len h x
    have h3 := h u
    omega
theorem one_cat (u v : UInt8) : (⟨#[u]⟩ : ByteArray) ++ ⟨#[v]⟩ = strOf [u, v] := rfl
theorem live_sorted {l : List Seg} {ps : List Txt} (hv : validB l = true) : sortedB l (liveL l ps) = strOf (liveTxt l ps) := sorted_txt hv _
theorem mades_cut {x : Txt} {k : Nat} (h : k < x.length) (ps : List Txt) : mades (x.take (k + 1)) ps = mades (x.take k) ps ++ madeOf x[k] (reachL ps x[k]) := by
  rw [List.take_succ_eq_append_getElem h, mades_snoc]
theorem madeOf_cut (u : UInt8) {R : List UInt8} {k : Nat} (h : k < R.length) : madeOf u (R.take (k + 1)) = madeOf u (R.take k) ++ sym2 u R[k] := by
  rw [List.take_succ_eq_append_getElem h, madeOf_snoc]
attribute [local irreducible] waysB in
set_option maxRecDepth 100000 in
set_option maxHeartbeats 4000000 in
theorem l7Together_any (A : Option Addr) (l : List Seg) (c : Nat) (A2 : Option Addr) (ts : List ByteArray) (c2 : Nat) (w : World) (hw : Segs w w.heap.size A l) (ht : St.Strs w w.heap.size A2 ts) (hG : IsGraph l (psOf ts)) :
    Calls Tryz.prog 79 #[.slice A l.length c, .slice A2 ts.length c2] w (PutPost w w.heap.size (putAll [] (mades (liveTxt l (psOf ts)) (psOf ts)))) := by
  have HW : Hid (Segs w w.heap.size A l) := hw
  have HT : Hid (St.Strs w w.heap.size A2 ts) := ht
  clear hw ht
  have HL := Lib.hid (fun W h1 h2 => l7Live_any A l c A2 ts c2 W h1 h2 hG (reachL_le hG _))
  have HRE := Lib.hid (fun u W h => l7Reached_any l A2 ts c2 u W hG h)
  have HRL : Hid (∀ u, (reachL (psOf ts) u).length ≤ 20) := fun u => reachL_le hG u
  have HML := Lib.hid (fun x => mades_len (ps := psOf ts) HRL.out x)
  rw [live_sorted hG.valid] at HL
  have h8 : (liveTxt l (psOf ts)).length ≤ 8 := Nat.le_trans (liveTxt_len _ _) (valid_all hG.valid).2.1
  clear hG
  unfold PutPost
  generalize liveTxt l (psOf ts) = x at *
  have HZ : Hid ((strOf x).size = x.length) := str_size x
  have HEX := Lib.hid (fun i h => str_at x (i := i) h)
  have hz8 : (strOf x).size ≤ 8 := by rw [HZ.out]; exact h8
  generalize strOf x = z at *
  have HS0 : Hid (SolidTexts (w.alloc (.cells #[] 9)) w.heap.size (.slice (some ⟨w.heap.size, 0, none⟩) 0 0) []) := ⟨OwnTexts.empty w (Nat.le_refl _), fun h => by cases h⟩
  have HB0 : Hid (Below w.heap.size w (w.alloc (.cells #[] 9))) := (Below.refl _ w).alloc (Nat.le_refl _) _
  go_enter Tryz.func79, Tryz.ntmps79
  go_wp2_with fail
  refine Calls.mono (HL.out _ ((HW.out.below HB0.out).more HB0.out.size) ((HT.out.below HB0.out).more HB0.out.size)) ?_
  rintro e w2 ⟨rfl, hb2⟩
  have HB2 : Hid (Below w.heap.size w w2) := HB0.out.trans (hb2.mono HB0.out.size)
  have HS2 : Hid (SolidTexts w2 w.heap.size (.slice (some ⟨w.heap.size, 0, none⟩) 0 0) []) := ⟨HS0.out.1.below hb2, HS0.out.2⟩
  clear hb2 HS0 HB0
  go_wp2
  go_loopw [5, 18] (fun o i wr => ∃ (k : Nat) (vo : Value), k ≤ z.size ∧ i = .int .i64 k ∧ vo = o ∧ Hid (SolidTexts wr w.heap.size vo ((putAll [] (mades (x.take k) (psOf ts))).map strOf)) ∧ Hid (Below w2.heap.size w2 wr))
    (fun _ i _ => z.size - (intOf i).toNat)
  case atStart => exact ⟨0, _, Nat.zero_le _, rfl, rfl, HS2, Below.refl _ _⟩
  case round =>
    obtain ⟨k, vo, hk, rfl, rfl, HO, HBr⟩ := hrel
    clear HS2
    have hk0 : (0 : Int) ≤ (k : Int) := Int.natCast_nonneg _
    have hbz := HB2.out.size
    have HBW : Hid (Below w.heap.size w wr) := HB2.out.trans (HBr.out.mono hbz)
    have hwz := HBW.out.size
    by_cases hlt : k < z.size
    · have hlt' : (k : Int) < (z.size : Int) := by omega
      have hk1 : (k : Int) + 1 ≤ (z.size : Int) := by omega
      have hkx : k < x.length := by have := HZ.out; omega
      have hex := HEX.out k hkx
      have HMC := Lib.hid (mades_cut hkx (psOf ts))
      have HTL : Hid ((x.take k).length ≤ 7) := by
        show (x.take k).length ≤ 7
        rw [List.length_take]
        have := HZ.out
        omega
      have HMK := Lib.hid (HML.out (x.take k))
      have HLR := Lib.hid (HRE.out (x[k]'hkx) wr ((HT.out.below HBW.out).more HBW.out.size))
      obtain ⟨p1, hp1⟩ : ∃ p1 : Nat, p1 = k + 1 := ⟨_, rfl⟩
      have hw1 : IntKind.i64.wrap ((k : Int) + 1) = (p1 : Int) := (IntWalk.i64_in _ (by omega)).trans (by omega)
      have hkp : (k : Int) ≤ (p1 : Int) := by omega
      have hpz : (p1 : Int) ≤ (z.size : Int) := by omega
      rw [← hp1] at hex HMC
      have HP1E := Lib.hid hp1
      clear hp1
      have HR20 := Lib.hid (HRL.out x[k])
      generalize hxk : x[k] = u at *
      clear hxk
      have HRZ : Hid ((strOf (reachL (psOf ts) u)).size = (reachL (psOf ts) u).length) := str_size _
      have HREX := Lib.hid (fun i h => str_at (reachL (psOf ts) u) (i := i) h)
      have HMCUT := Lib.hid (fun q h => madeOf_cut u (R := reachL (psOf ts) u) (k := q) h)
      have HMLN := Lib.hid (madeOf_len u)
      have hr20 : (strOf (reachL (psOf ts) u)).size ≤ 20 := by rw [HRZ.out]; exact HR20.out
      generalize hRR : reachL (psOf ts) u = R at *
      have HM0 : Hid (mades (x.take k) (psOf ts) ++ madeOf u (R.take 0) = mades (x.take k) (psOf ts)) := by
        show _ = _
        rw [List.take_zero]
        exact List.append_nil _
      have HMEND : Hid (mades (x.take k) (psOf ts) ++ madeOf u (R.take R.length) = mades (x.take p1) (psOf ts)) := by
        show _ = _
        rw [List.take_length, HMC.out]
      clear HMC hRR
      have HPL : Hid ((mades (x.take k) (psOf ts)).length ≤ 140) := by
        show _ ≤ _
        have h1 := HMK.out
        have h2 := HTL.out
        omega
      generalize mades (x.take k) (psOf ts) = P at *
      have HO0 : Hid (SolidTexts wr w.heap.size vo ((putAll [] (P ++ madeOf u (R.take 0))).map strOf)) := by
        show SolidTexts _ _ _ _
        rw [HM0.out]
        exact HO.out
      clear HO
      generalize hrs : strOf R = Rs at *
      clear hrs
      generalize hbu : (⟨#[u]⟩ : ByteArray) = bu at *
      have HBU := Lib.hid hbu
      clear hbu
      go_wp2_with fail
      refine Calls.mono HLR.out ?_
      rintro e w3 ⟨rfl, rfl⟩
      go_wp2
      go_loopw [5, 30] (fun o i wl => ∃ (m : Nat) (vi : Value), m ≤ Rs.size ∧ i = .int .i64 m ∧ vi = o ∧ Hid (SolidTexts wl w.heap.size vi ((putAll [] (P ++ madeOf u (R.take m))).map strOf)) ∧ Hid (Below w2.heap.size w2 wl))
        (fun _ i _ => Rs.size - (intOf i).toNat)
      case atStart => exact ⟨0, _, Nat.zero_le _, rfl, rfl, HO0, HBr⟩
      case round =>
        obtain ⟨m, vi, hm, rfl, rfl, HI, HBI⟩ := hrel
        clear HO0
        have hm0 : (0 : Int) ≤ (m : Int) := Int.natCast_nonneg _
        have HBWI : Hid (Below w.heap.size w wr) := HB2.out.trans (HBI.out.mono hbz)
        have hwzi := HBWI.out.size
        by_cases hlm : m < Rs.size
        · have hlm' : (m : Int) < (Rs.size : Int) := by omega
          have hm1 : (m : Int) + 1 ≤ (Rs.size : Int) := by omega
          have hmR : m < R.length := by have := HRZ.out; omega
          have hex2 := HREX.out m hmR
          have HMQ := Lib.hid (HMCUT.out m hmR)
          have hln : (putAll [] (P ++ madeOf u (R.take m))).length ≤ 200 := by
            have h1 := putAll_len (P ++ madeOf u (R.take m)) []
            have h2 := HPL.out
            have h3 := HMLN.out (R.take m)
            rw [List.length_append] at h1
            rw [List.length_take] at h3
            simp only [List.length_nil] at h1
            have := HRZ.out
            omega
          have HPS := Lib.hid (fun s => putAll_snoc [] (P ++ madeOf u (R.take m)) s)
          obtain ⟨q1, hq1⟩ : ∃ q1 : Nat, q1 = m + 1 := ⟨_, rfl⟩
          have hwq : IntKind.i64.wrap ((m : Int) + 1) = (q1 : Int) := (IntWalk.i64_in _ (by omega)).trans (by omega)
          have hmq : (m : Int) ≤ (q1 : Int) := by omega
          have hqz : (q1 : Int) ≤ (Rs.size : Int) := by omega
          rw [← hq1] at hex2 HMQ
          have HQ1E := Lib.hid hq1
          clear hq1
          generalize R[m] = v at *
          have hl1 : Op.bytesLess bu.toList (⟨#[v]⟩ : ByteArray).toList = decide (([u] : Txt) < [v]) := by rw [← HBU.out]; exact txt_less [u] [v]
          have hl2 : Op.bytesLess (⟨#[v]⟩ : ByteArray).toList bu.toList = decide (([v] : Txt) < [u]) := by rw [← HBU.out]; exact txt_less [v] [u]
          have HC1 : Hid (bu ++ (⟨#[v]⟩ : ByteArray) = strOf [u, v]) := by rw [← HBU.out]; exact one_cat u v
          have HC2 : Hid ((⟨#[v]⟩ : ByteArray) ++ bu = strOf [v, u]) := by rw [← HBU.out]; exact one_cat v u
          have hbs : bu.size = 1 := by rw [← HBU.out]; rfl
          have hvs : (⟨#[v]⟩ : ByteArray).size = 1 := rfl
          generalize hbv : (⟨#[v]⟩ : ByteArray) = bv at *
          clear hbv
          go_wp2_with fail
          go_quiet (fail)
          have HIQ : Hid (SolidTexts (wr.drewN nq) w.heap.size vi ((putAll [] (P ++ madeOf u (R.take m))).map strOf)) := ⟨HI.out.1.below (below_drewN (Below.refl _ _) _), HI.out.2⟩
          have HBQ : Hid (Below w2.heap.size w2 (wr.drewN nq)) := below_drewN HBI.out _
          have hwq2 : w.heap.size ≤ (wr.drewN nq).heap.size := Nat.le_trans hwzi (below_drewN (Below.refl wr.heap.size wr) nq).size
          clear HI HBI hwzi HBWI
          generalize wr.drewN nq = wq at *
          have HPT := Lib.hid (fun s => l4Put_any w.heap.size vi (putAll [] (P ++ madeOf u (R.take m))) s wq HIQ.out hwq2 hln)
          unfold PutPost at HPT
          clear hln
          by_cases h1 : ([u] : Txt) < [v]
          · rw [decide_eq_true h1] at hl1
            have h2 : ¬ ([v] : Txt) < [u] := fun h => txt_irr _ (List.lt_trans h1 h)
            rw [decide_eq_false h2] at hl2
            have HSY := Lib.hid (sym2_lt h1)
            have HPP := Lib.hid (HPT.out [u, v])
            clear h1 h2 HPT
            go_wp2_with fail
            rw [HC1.out]
            refine Calls.mono HPP.out ?_
            rintro e w4 ⟨v4, rfl, hs4, hb4⟩
            have HT4 : Hid (SolidTexts w4 w.heap.size v4 ((putAll [] (P ++ madeOf u (R.take q1))).map strOf)) := by
              show SolidTexts _ _ _ _
              rw [HMQ.out, HSY.out, ← List.append_assoc, HPS.out]
              exact hs4
            have HB4 : Hid (Below w2.heap.size w2 w4) := HBQ.out.trans (hb4.mono HBQ.out.size)
            clear hs4 hb4 HPP HIQ
            go_wp2
            go_roundw
            case rel => exact ⟨q1, _, by have := HQ1E.out; omega, rfl, rfl, HT4, HB4⟩
            case measure => have := HQ1E.out; simp [intOf]; omega
          · rw [decide_eq_false h1] at hl1
            by_cases h2 : ([v] : Txt) < [u]
            · rw [decide_eq_true h2] at hl2
              have HSY := Lib.hid (sym2_gt h1 h2)
              have HPP := Lib.hid (HPT.out [v, u])
              clear h1 h2 HPT
              go_wp2_with fail
              rw [HC2.out]
              refine Calls.mono HPP.out ?_
              rintro e w4 ⟨v4, rfl, hs4, hb4⟩
              have HT4 : Hid (SolidTexts w4 w.heap.size v4 ((putAll [] (P ++ madeOf u (R.take q1))).map strOf)) := by
                show SolidTexts _ _ _ _
                rw [HMQ.out, HSY.out, ← List.append_assoc, HPS.out]
                exact hs4
              have HB4 : Hid (Below w2.heap.size w2 w4) := HBQ.out.trans (hb4.mono HBQ.out.size)
              clear hs4 hb4 HPP HIQ
              go_wp2
              go_roundw
              case rel => exact ⟨q1, _, by have := HQ1E.out; omega, rfl, rfl, HT4, HB4⟩
              case measure => have := HQ1E.out; simp [intOf]; omega
            · rw [decide_eq_false h2] at hl2
              have HT4 : Hid (SolidTexts wq w.heap.size vi ((putAll [] (P ++ madeOf u (R.take q1))).map strOf)) := by
                show SolidTexts _ _ _ _
                rw [HMQ.out, sym2_eq h1 h2, List.append_nil]
                exact HIQ.out
              clear h1 h2 HPT HIQ
              go_wp2
              go_roundw
              case rel => exact ⟨q1, _, by have := HQ1E.out; omega, rfl, rfl, HT4, HBQ⟩
              case measure => have := HQ1E.out; simp [intOf]; omega
        · have HOE : Hid (SolidTexts wr w.heap.size vi ((putAll [] (mades (x.take p1) (psOf ts))).map strOf)) := by
            have h1 := HI.out
            rw [show m = R.length by have := HRZ.out; omega, HMEND.out] at h1
            exact h1
          obtain rfl : m = Rs.size := by omega
          clear HI
          go_wp2
          go_roundw
          case rel => exact ⟨p1, _, by have := HP1E.out; omega, rfl, rfl, HOE, HBI⟩
          case measure => have := HP1E.out; simp [intOf]; omega
    · have hkl : k = z.size := by omega
      have HE : Hid (SolidTexts wr w.heap.size vo ((putAll [] (mades x (psOf ts))).map strOf)) := by
        have h1 := HO.out
        rw [hkl, HZ.out, List.take_length] at h1
        exact h1
      clear HO
      subst hkl
      go_wp2
      go_ret
      exact ⟨_, rfl, HE.out, HBW.out⟩

end Go.Proofs.YtbmfbnlmdjnddaaGreat
/- The reference's TogetherIn. -/
namespace Go.Proofs.YtbmfbnlmdjnddaaGreat
open Go.RowKit Go.Shelf

def togTxt (l : List Seg) (ts : List ByteArray) : List Txt := if graphB l ts = true then putAll [] (mades (liveTxt l (psOf ts)) (psOf ts)) else []
def togRes (l : List Seg) (ts : List ByteArray) : List ByteArray := (togTxt l ts).map strOf
def TogPost (w : World) (l : List Seg) (ts : List ByteArray) (e : Ending) (w' : World) : Prop :=
  ∃ v, e = .returned (.tuple #[v, .bool (graphB l ts)]) ∧ OwnTexts w' w.heap.size v (togRes l ts) ∧ Below w.heap.size w w'
theorem togTxt_bad {l : List Seg} {ts : List ByteArray} (h : graphB l ts = false) : togTxt l ts = [] := if_neg (by rw [h]; decide)
theorem togTxt_ok {l : List Seg} {ts : List ByteArray} (h : graphB l ts = true) : togTxt l ts = putAll [] (mades (liveTxt l (psOf ts)) (psOf ts)) := if_pos h
theorem togTxt_len (l : List Seg) (ts : List ByteArray) : (togTxt l ts).length ≤ 160 := by
  cases h : graphB l ts with
  | false => rw [togTxt_bad h]; exact Nat.zero_le _
  | true =>
    rw [togTxt_ok h]
    have hG := graph_is h
    have h1 := putAll_len (mades (liveTxt l (psOf ts)) (psOf ts)) []
    have h2 := mades_len (ps := psOf ts) (fun u => reachL_le hG u) (liveTxt l (psOf ts))
    have h3 : (liveTxt l (psOf ts)).length ≤ 8 := Nat.le_trans (liveTxt_len _ _) (valid_all hG.valid).2.1
    simp only [List.length_nil] at h1
    omega

set_option maxRecDepth 100000 in
set_option maxHeartbeats 2000000 in
theorem specTogether_any (A : Option Addr) (l : List Seg) (c : Nat) (A2 : Option Addr) (ts : List ByteArray) (c2 : Nat) (w : World) (hw : Segs w w.heap.size A l) (ht : St.Strs w w.heap.size A2 ts) (hl : l.length ≤ 1048576) (hn : Short l) (htl : ts.length ≤ 1048576) (hts : ∀ s ∈ ts, s.size ≤ 1048576) :
    Calls Tryz.prog 20 #[.slice A l.length c, .slice A2 ts.length c2] w (TogPost w l ts) := by
  have HQ := Lib.hid (specGraph_any A l c A2 ts c2 w hw ht hl hn htl hts)
  have HW : Hid (Segs w w.heap.size A l) := hw
  have HT : Hid (St.Strs w w.heap.size A2 ts) := ht
  clear hw ht hn hts
  unfold TogPost togRes
  cases hg : graphB l ts with
  | false =>
    rw [hg] at HQ
    have HR := Lib.hid (togTxt_bad hg)
    rw [HR.out]
    clear hg
    go_enter Tryz.func20, Tryz.ntmps20
    go_wp2_with fail
    refine Calls.mono HQ.out ?_
    rintro e w1 ⟨rfl, hb1⟩
    have ho : OwnTexts (w1.alloc (.cells #[] 9)) w.heap.size (.slice (some ⟨w1.heap.size, 0, none⟩) 0 0) [] := OwnTexts.empty w1 hb1.size
    have HO := Lib.hid ho
    have HB : Hid (Below w.heap.size w (w1.alloc (.cells #[] 9))) := hb1.alloc hb1.size _
    go_wp2
    go_ret2
    exact ⟨_, rfl, HO.out, HB.out⟩
  | true =>
    rw [hg] at HQ
    have hG := graph_is hg
    have HL := Lib.hid (fun W h1 h2 => l7Together_any A l c A2 ts c2 W h1 h2 hG)
    unfold PutPost at HL
    rw [togTxt_ok hg]
    clear hg hG
    generalize putAll [] (mades (liveTxt l (psOf ts)) (psOf ts)) = L at *
    go_enter Tryz.func20, Tryz.ntmps20
    go_wp2_with fail
    refine Calls.mono HQ.out ?_
    rintro e w1 ⟨rfl, hb1⟩
    go_wp2_with fail
    refine Calls.mono (HL.out _ ((HW.out.below hb1).more hb1.size) ((HT.out.below hb1).more hb1.size)) ?_
    rintro e w2 ⟨v, rfl, ho, hb2⟩
    have HO : Hid (OwnTexts w2 w.heap.size v (L.map strOf)) := own_low ho.1 hb1.size
    have HB : Hid (Below w.heap.size w w2) := hb1.trans (hb2.mono hb1.size)
    clear hb1 hb2 ho
    go_wp2
    go_ret2
    exact ⟨_, rfl, HO.out, HB.out⟩

end Go.Proofs.YtbmfbnlmdjnddaaGreat
/- The program's UnsafeChains and IsSafe: chains struck out, sorted, compacted. -/
namespace Go.Proofs.YtbmfbnlmdjnddaaGreat
open Go.RowKit Go.Shelf

/-- A row of texts of the call's own whose cells hold an array's texts. -/
def OwnD (W : World) (B g cap : Nat) (d : Array Txt) : Prop := OwnTexts W B (.slice (some ⟨g, 0, none⟩) (d.toList.map strOf).length cap) (d.toList.map strOf)
theorem OwnD.cell {W : World} {B g cap : Nat} {d : Array Txt} (h : OwnD W B g cap d) {j : Nat} (hj : j < d.size) : W.cell? ⟨g, j, none⟩ = some (.string (strOf d[j]!)) := by
  have h1 : (d.toList.map strOf)[j]? = some (strOf d[j]!) := by
    rw [List.getElem?_map, getElem!_pos d j hj]
    simp [hj]
  exact St.textsCell h h1
theorem OwnD.free {W : World} {B g cap : Nat} {d : Array Txt} (h : OwnD W B g cap d) (j : Nat) : W.frozen? ⟨g, j, none⟩ = false := St.textsFree h j
theorem OwnD.below {W W' : World} {B g cap : Nat} {d : Array Txt} (h : OwnD W B g cap d) (hb : Below W.heap.size W W') : OwnD W' B g cap d := OwnTexts.below h hb
theorem OwnD.store {W : World} {B g cap : Nat} {d : Array Txt} (h : OwnD W B g cap d) (i : Nat) (u : Txt) : OwnD (W.setCell ⟨g, i, none⟩ (.string (strOf u))) B g cap (d.setIfInBounds i u) := by
  have h1 := St.textsStore h i (strOf u)
  have e : (d.setIfInBounds i u).toList.map strOf = (d.toList.map strOf).set i (strOf u) := by rw [Array.toList_setIfInBounds, List.map_set]
  unfold OwnD
  rw [e, List.length_set]
  exact h1
theorem OwnD.lt {W : World} {B g cap : Nat} {d : Array Txt} (h : OwnD W B g cap d) : B ≤ g ∧ g < W.heap.size := World.ownsRow.lt h g rfl
theorem OwnD.cap {W : World} {B g cap : Nat} {d : Array Txt} (h : OwnD W B g cap d) : d.size ≤ cap ∧ cap ≤ maxLen := by
  rcases h.2 with ⟨h0, _⟩ | ⟨g', cap', cur, e, _, _, h1, h2, _⟩
  · cases h0
  · injection e with _ _ e3
    rw [e3]
    exact ⟨by simpa using h1, h2⟩
/-- The row's head. -/
def HeadD (W : World) (B g cap k : Nat) (ts : List Txt) : Prop := W.ownsRow B 9 1 (.slice (some ⟨g, 0, none⟩) k cap) k (ts.map txtV)
theorem OwnD.head {W : World} {B g cap : Nat} {d : Array Txt} (h : OwnD W B g cap d) {k : Nat} (hk : k ≤ d.size) {ts : List Txt} (ht : d.toList.take k = ts) : HeadD W B g cap k ts := by
  rcases h.2 with ⟨h0, _⟩ | ⟨g', cap', cur, e, hB, hh, h1, h2, h3, h4⟩
  · cases h0
  · injection e with e1 _ e3
    injection e1 with e1
    injection e1 with e1
    subst e1 e3 ht
    have hl : (d.toList.map strOf).length = d.size := by simp
    rw [hl] at h1 h4
    refine ⟨by simp; omega, .inr ⟨g, cap, cur, rfl, hB, hh, by omega, h2, h3, ?_⟩⟩
    have h5 := congrArg (List.take k) h4
    rw [List.take_take, Nat.mul_one, Nat.min_eq_left hk] at h5
    rw [Nat.mul_one, h5, List.map_take, List.map_map]
    rfl
theorem HeadD.set {W : World} {B g cap k : Nat} {ts : List Txt} (h : HeadD W B g cap k ts) {j : Nat} (hj : k ≤ j) (u : Value) : HeadD (W.setCell ⟨g, j, none⟩ u) B g cap k ts := by
  refine ⟨h.1, ?_⟩
  rcases h.2 with ⟨h0, _⟩ | ⟨g', cap', cur, e, hB, hh, h1, h2, h3, h4⟩
  · cases h0
  · injection e with e1 _ e3
    injection e1 with e1
    injection e1 with e1
    subst e1 e3
    have hr : Row W g 9 cur := hh
    refine .inr ⟨g, cap, _, rfl, hB, hr.put j u, h1, h2, by simpa using h3, ?_⟩
    rw [← h4, Array.toList_setIfInBounds, List.take_set]
    exact List.set_eq_of_length_le (by rw [List.length_take]; omega)
theorem HeadD.sets {B g cap k : Nat} {ts : List Txt} : ∀ (us : List Value) (j : Nat) {W : World}, HeadD W B g cap k ts → k ≤ j → HeadD (W.setCells g j us) B g cap k ts
  | [], _, _, h, _ => h
  | u :: us, j, _, h, hj => HeadD.sets us (j + 1) (h.set hj u) (by omega)
theorem only_sets {g : Nat} : ∀ (us : List Value) (j : Nat) {w W : World}, Only w W (· = g) → Only w (W.setCells g j us) (· = g)
  | [], _, _, _, h => h
  | u :: us, j, _, _, h => only_sets us (j + 1) (h.set j u)
theorem HeadD.texts {W : World} {B g cap : Nat} {ts : List Txt} (h : HeadD W B g cap ts.length ts) : OwnTexts W B (.slice (some ⟨g, 0, none⟩) ts.length cap) (ts.map strOf) := by
  unfold OwnTexts
  rw [List.length_map, List.map_map]
  exact h

/-- What the closure that strikes chains out reads: the tree in its box. -/
structure BoxHeld (W : World) (B bx : Nat) (A : Option Addr) (l : List Seg) (c : Nat) : Prop where
  box : Row W bx 23 #[.slice A l.length c]
  segs : Segs W B A l
  low : B ≤ W.heap.size
theorem BoxHeld.only {W W' : World} {B bx g : Nat} {A : Option Addr} {l : List Seg} {c : Nat} (h : BoxHeld W B bx A l c) (ho : Only W W' (· = g)) (hg : B ≤ g) (hne : bx ≠ g) : BoxHeld W' B bx A l c :=
  ⟨ho.row h.box hne, h.segs.below (Only.below (Below.refl _ W) ho h.low (fun k hk e => by omega)), Nat.le_trans h.low ho.size⟩

/-- Where the first text stands for which a truth holds. -/
def FirstAt (p : Txt → Bool) (d : Array Txt) (r : Int) : Prop := (r = -1 ∧ ∀ j, j < d.size → p d[j]! = false) ∨ ∃ k : Nat, k < d.size ∧ r = (k : Int) ∧ p d[k]! = true ∧ ∀ j, j < k → p d[j]! = false

/-- What is behind slices.DeleteFunc: the texts that are kept, at the row's head. -/
def StruckPost (W : World) (B g cap : Nat) (ts : List Txt) (e : Ending) (w' : World) : Prop :=
  e = .returned (.slice (some ⟨g, 0, none⟩) ts.length cap) ∧ HeadD w' B g cap ts.length ts ∧ Only W w' (· = g)

end Go.Proofs.YtbmfbnlmdjnddaaGreat
/- The reference's ClashesOf. -/
namespace Go.Proofs.YtbmfbnlmdjnddaaGreat
open Go.RowKit Go.Shelf

/-- Whether the two of a pair lie together. -/
def lie7 (l : List Seg) (x : Txt) : Bool := lieB l ((strOf x).extract 0 1) ((strOf x).extract 1 2)
def apart7 (l : List Seg) (x : Txt) : Bool := !lie7 l x
def clashTxt (l : List Seg) (ts : List ByteArray) : List Txt := (togTxt l ts).filter (apart7 l)
def clashRes (l : List Seg) (ts : List ByteArray) : List ByteArray := (clashTxt l ts).map strOf
def ClashPost (w : World) (l : List Seg) (ts : List ByteArray) (e : Ending) (w' : World) : Prop :=
  ∃ v, e = .returned (.tuple #[v, .bool (graphB l ts)]) ∧ OwnTexts w' w.heap.size v (clashRes l ts) ∧ Below w.heap.size w w'
theorem sym2_two {u v : UInt8} {x : Txt} (h : x ∈ sym2 u v) : x.length = 2 := by
  unfold sym2 at h
  split at h
  · rw [List.mem_singleton.1 h]; rfl
  · split at h
    · rw [List.mem_singleton.1 h]; rfl
    · cases h
theorem togTxt_two (l : List Seg) (ts : List ByteArray) : ∀ x ∈ togTxt l ts, x.length = 2 := fun x hx => by
  cases h : graphB l ts with
  | false => rw [togTxt_bad h] at hx; cases hx
  | true =>
    rw [togTxt_ok h] at hx
    rcases (putAll_mem _ _ _).1 hx with hx | hx
    · cases hx
    · unfold mades madeOf at hx
      obtain ⟨u, _, hx⟩ := List.mem_flatMap.1 hx
      obtain ⟨v, _, hx⟩ := List.mem_flatMap.1 hx
      exact sym2_two hx

set_option maxRecDepth 100000 in
set_option maxHeartbeats 4000000 in
theorem specClashes_any (A : Option Addr) (l : List Seg) (c : Nat) (A2 : Option Addr) (ts : List ByteArray) (c2 : Nat) (w : World) (hw : Segs w w.heap.size A l) (ht : St.Strs w w.heap.size A2 ts) (hl : l.length ≤ 1048576) (hn : Short l) (htl : ts.length ≤ 1048576) (hts : ∀ s ∈ ts, s.size ≤ 1048576) :
    Calls Tryz.prog 22 #[.slice A l.length c, .slice A2 ts.length c2] w (ClashPost w l ts) := by
  have HB0 : Hid (Below w.heap.size w (w.alloc (.cells #[] 9))) := (Below.refl _ w).alloc (Nat.le_refl _) _
  have HQ := Lib.hid (specTogether_any A l c A2 ts c2 (w.alloc (.cells #[] 9)) ((hw.below HB0.out).more HB0.out.size) ((ht.below HB0.out).more HB0.out.size) hl hn htl hts)
  have HW : Hid (Segs w w.heap.size A l) := hw
  have HL := Lib.hid (fun s t W h => specLie_any A l c s t W h hl hn)
  unfold TogPost togRes at HQ
  unfold ClashPost clashRes clashTxt
  have HTWO := Lib.hid (togTxt_two l ts)
  have hlen := togTxt_len l ts
  have HS0 : Hid (OwnTexts (w.alloc (.cells #[] 9)) w.heap.size (.slice (some ⟨w.heap.size, 0, none⟩) 0 0) []) := OwnTexts.empty w (Nat.le_refl _)
  clear hw ht hn hts
  generalize togTxt l ts = xs at *
  generalize graphB l ts = gb at *
  have HTS : Hid ((xs.map strOf).length = xs.length) := List.length_map _
  have HC : Hid (∀ k (hk : k < xs.length), (xs.map strOf)[k]? = some (strOf xs[k])) := fun k hk => by rw [List.getElem?_map, List.getElem?_eq_getElem hk]; rfl
  generalize xs.map strOf = tx at *
  have htl : tx.length ≤ 160 := by rw [HTS.out]; exact hlen
  obtain ⟨i0, hi0, hz0, hz1, hz2⟩ := info_parts info_str
  have I0 := Lib.hid hi0
  have Z0 := Lib.hid hz0
  have Z1 := Lib.hid hz1
  have Z2 := Lib.hid hz2
  clear hi0 hz0 hz1 hz2
  go_enter Tryz.func22, Tryz.ntmps22
  go_wp2_with fail
  refine Calls.mono HQ.out ?_
  rintro e w2 ⟨v, rfl, ho, hb⟩
  have hge : ∀ g, v.ownBlock = some g → w.heap.size + 1 ≤ g := fun g hg => by have := (World.ownsRow.lt ho g hg).1; simpa using this
  obtain ⟨A3, cap3, rfl, hs3⟩ := St.textsForm ho
  have HS3 := Lib.hid hs3
  have HGE := Lib.hid hge
  clear hge
  have HB2 : Hid (Below w.heap.size w w2) := HB0.out.trans (hb.mono HB0.out.size)
  have HS2 : Hid (OwnTexts w2 w.heap.size (.slice (some ⟨w.heap.size, 0, none⟩) 0 0) []) := HS0.out.below hb
  clear ho hs3 hb HS0 HB0 HQ
  go_wp2
  go_loopw [6, 20] (fun o i wr => ∃ (k : Nat) (vo : Value), k ≤ tx.length ∧ i = .int .i64 k ∧ vo = o ∧ Hid (OwnTexts wr w.heap.size vo (((xs.take k).filter (apart7 l)).map strOf)) ∧ Hid (∀ g, vo.ownBlock = some g → g = w.heap.size ∨ w2.heap.size ≤ g) ∧ Hid (∀ q, q < w2.heap.size → q ≠ w.heap.size → wr.heap[q]? = w2.heap[q]?) ∧ Hid (Below w.heap.size w wr) ∧ w2.heap.size ≤ wr.heap.size)
    (fun _ i _ => tx.length - (intOf i).toNat)
  case atStart => exact ⟨0, _, Nat.zero_le _, rfl, rfl, HS2, fun g hg => .inl (by injection hg with hg; exact hg.symm), fun _ _ _ => rfl, HB2, Nat.le_refl _⟩
  case round =>
    obtain ⟨k, vo, hk, rfl, rfl, HT, HOB, HKQ, HBW, hzr⟩ := hrel
    clear HS2
    have hk0 : (0 : Int) ≤ (k : Int) := Int.natCast_nonneg _
    have hbz := HB2.out.size
    have hbw := HBW.out.size
    by_cases hlt : k < tx.length
    · have hlt' : (k : Int) < (tx.length : Int) := by omega
      have hkx : k < xs.length := by rw [← HTS.out]; exact hlt
      obtain ⟨b, o, hA3, hB3, hc⟩ := HS3.out (by omega)
      subst hA3
      have c0 : wr.cell? ⟨b, o + k, none⟩ = some (.string (strOf xs[k])) := by
        have h0 : wr.heap[b]? = w2.heap[b]? := HKQ.out b hB3 (by have := HGE.out b rfl; omega)
        have h1 : wr.cell? ⟨b, o + k, none⟩ = w2.cell? ⟨b, o + k, none⟩ := by simp only [World.cell?, h0]
        exact h1.trans (hc k _ (HC.out k hkx))
      have HF := Lib.hid (filter_take (p := apart7 l) hkx)
      have h2 := HTWO.out xs[k] (List.getElem_mem hkx)
      have hz2 : (strOf xs[k]).size = 2 := by rw [str_size]; exact h2
      have HLC : Hid (Calls Tryz.prog 57 #[.slice A l.length c, .string ((strOf xs[k]).extract 0 1), .string ((strOf xs[k]).extract 1 2)] wr.drew fun e w' => e = .returned (.bool (lie7 l xs[k])) ∧ Below wr.drew.heap.size wr.drew w') := HL.out _ _ wr.drew ((HW.out.below HBW.out.drew).more HBW.out.drew.size)
      have HFL : Hid (((xs.take k).filter (apart7 l)).length ≤ 160) := by
        show _ ≤ _
        have h3 := List.length_filter_le (apart7 l) (xs.take k)
        rw [List.length_take] at h3
        omega
      clear hc h2
      generalize hxk : xs[k] = x at *
      clear hxk
      cases hd : lie7 l x with
      | true =>
        have HF1 : Hid ((xs.take (k + 1)).filter (apart7 l) = (xs.take k).filter (apart7 l)) := by
          show _ = _
          rw [HF.out, if_neg (by unfold apart7; rw [hd]; decide), List.append_nil]
        rw [hd] at HLC
        clear hd HF
        generalize strOf x = z at *
        go_wp2_with fail
        go_region_with (go_at_call 57; refine Calls.mono HLC.out ?_; rintro e w3 ⟨rfl, hb3⟩)
        replace hb3 : Below wr.heap.size wr w3 := (Below.refl wr.heap.size wr).drew.trans hb3
        have HT3 : Hid (OwnTexts w3 w.heap.size vo (((xs.take (k + 1)).filter (apart7 l)).map strOf)) := by
          show OwnTexts _ _ _ _
          rw [HF1.out]
          exact HT.out.below hb3
        have HB3 : Hid (Below w.heap.size w w3) := HBW.out.trans (hb3.mono hbw)
        have HK3 : Hid (∀ q, q < w2.heap.size → q ≠ w.heap.size → w3.heap[q]? = w2.heap[q]?) := fun q h1 h2 => (hb3.block q (by omega)).trans (HKQ.out q h1 h2)
        have hzr3 : w2.heap.size ≤ w3.heap.size := Nat.le_trans hzr hb3.size
        clear hb3 HLC
        go_wp2
        go_roundw
        case rel => exact ⟨k + 1, _, by omega, by go_num, rfl, HT3, HOB, HK3, HB3, hzr3⟩
        case measure => simp [intOf]; omega
      | false =>
        have HF1 : Hid (((xs.take (k + 1)).filter (apart7 l)).map strOf = ((xs.take k).filter (apart7 l)).map strOf ++ [strOf x]) := by
          show _ = _
          rw [HF.out, if_pos (by unfold apart7; rw [hd]; rfl), List.map_append]
          rfl
        rw [hd] at HLC
        have HFL2 : Hid ((((xs.take k).filter (apart7 l)).map strOf).length ≤ 160) := by
          show _ ≤ _
          rw [List.length_map]
          exact HFL.out
        clear hd HF HFL
        generalize ((xs.take k).filter (apart7 l)).map strOf = q at *
        generalize hz : strOf x = z at *
        have hq := HFL2.out
        go_wp2_with fail
        go_region_with (go_at_call 57; refine Calls.mono HLC.out ?_; rintro e w3 ⟨rfl, hb3⟩)
        replace hb3 : Below wr.heap.size wr w3 := (Below.refl wr.heap.size wr).drew.trans hb3
        have HB3 : Hid (Below w.heap.size w w3) := HBW.out.trans (hb3.mono hbw)
        have HK3 : Hid (∀ q, q < w2.heap.size → q ≠ w.heap.size → w3.heap[q]? = w2.heap[q]?) := fun q h1 h2 => (hb3.block q (by omega)).trans (HKQ.out q h1 h2)
        have hzr3 : w2.heap.size ≤ w3.heap.size := Nat.le_trans hzr hb3.size
        have hwz3 : w.heap.size ≤ w3.heap.size := Nat.le_trans hbw hb3.size
        have hT3 := HT.out.below hb3
        unfold OwnTexts at hT3
        have HT3 := Lib.hid (hT3.alloc (.cells #[.string z] 9))
        clear hT3 hb3 HLC HT
        go_wp2_with (at_builtin; refine wpList_append_own_at _ rfl _ _ 29 rfl w.heap.size 9 i0 (.string ByteArray.empty) 1 16 Tryz.underlying29 I0.out Z0.out Z1.out Z2.out rfl (by decide) _ _ _ rfl HT3.out ⟨w3.heap.size, 0, none⟩ 1 1 [.string z] rfl rfl (cell_one_new _ _ _) (by simp [Value.oneCell']) (by unfold maxLen; omega) (by omega) (by simp; omega) ?_; intro v4 w4 hown4 hgrow _ hob4)
        have HB4 : Hid (Below w.heap.size w w4) := (HB3.out.alloc HB3.out.size _).grown hgrow (by simp; omega) (fun r hr => (World.ownsRow.lt HT3.out r hr).1)
        have HK4 : Hid (∀ q, q < w2.heap.size → q ≠ w.heap.size → w4.heap[q]? = w2.heap[q]?) := fun q h1 h2 =>
          ((hgrow.block q (by simp; omega) (fun e => by rcases HOB.out q e.symm with h | h <;> omega)).trans (Below.heap_alloc w3 _ q (by omega))).trans (HK3.out q h1 h2)
        have hzr4 : w2.heap.size ≤ w4.heap.size := by have h1 := hgrow.size; simp at h1; omega
        have HOB4 : Hid (∀ g, v4.ownBlock = some g → g = w.heap.size ∨ w2.heap.size ≤ g) := fun g hg => by
          rcases hob4 with h | h
          · exact HOB.out g (h ▸ hg)
          · rw [h] at hg
            injection hg with hg
            right
            simp at hg
            omega
        have HT4 : Hid (OwnTexts w4 w.heap.size v4 (((xs.take (k + 1)).filter (apart7 l)).map strOf)) := by
          show OwnTexts _ _ _ _
          unfold OwnTexts
          rw [HF1.out, List.length_append, List.map_append]
          exact hown4
        clear hown4 hgrow
        go_roundw
        case rel => exact ⟨k + 1, _, by omega, by go_num, rfl, HT4, HOB4, HK4, HB4, hzr4⟩
        case measure => simp [intOf]; omega
    · have hkl : k = tx.length := by omega
      have HE : Hid (OwnTexts wr w.heap.size vo ((xs.filter (apart7 l)).map strOf)) := by
        have := HT.out
        rw [hkl, HTS.out, List.take_length] at this
        exact this
      clear hkl HT
      go_wp2
      go_ret2
      exact ⟨_, rfl, HE.out, HBW.out⟩

end Go.Proofs.YtbmfbnlmdjnddaaGreat
/- The program's HasRings. -/
namespace Go.Proofs.YtbmfbnlmdjnddaaGreat
open Go.RowKit Go.Shelf Go.Sort

theorem below_grown {X Y Z : World} {B r : Nat} (h : Below B X Y) (hg : Y.grownBy Z (some r)) (hr : B ≤ r) (hB : B ≤ Y.heap.size) : Below B X Z :=
  h.trans ⟨hg.os, hg.tape, hg.output, hg.size, fun k hk => hg.block k (by omega) (fun e => by injection e with e; omega)⟩

end Go.Proofs.YtbmfbnlmdjnddaaGreat
