/- Joined: Bg Br Bv Bs. -/
import Derived.Test.YtafpefjjeddmeaaU24
import Derived.Test.YtafpefjjeddmeaaU13
import Derived.Test.YtafpefjjeddmeaaU27
import Derived.Test.YtafpefjjeddmeaaU23
import Derived.Test.YtafpefjjeddmeaaSh
import Derived.Lib.SlKept
import Derived.Lib.SliceRun
import Derived.Lib.OwnBridge
import Derived.Sort.OwnSorted
import Derived.Sort.Grow
import Derived.Test.YtafpefjjeddmeaaU07
/- UnsafeChains and IsSafe on both sides. -/
namespace Go.Proofs.Ytafpefjjeddmeaa
open Go.RowKit Go.Shelf

/-- The chains of a trace, none if it is no trace. -/
def xsRes (l : List Seg) (t : ByteArray) : List Txt := match traceB l t.data.toList with
  | none => []
  | some f => chainsB [rootB l] f
theorem chainsRes_xs (l : List Seg) (t : ByteArray) : chainsRes l t = (xsRes l t).map strOf := by
  unfold chainsRes xsRes
  cases traceB l t.data.toList with
  | none => rfl
  | some f => rfl
theorem xsRes_two {l : List Seg} {t : ByteArray} : ∀ x ∈ xsRes l t, (∃ y u v, x = y ++ [u, v]) ∧ x.length ≤ 9 := by
  unfold xsRes
  cases hR : traceB l t.data.toList with
  | none => intro x hx; cases hx
  | some f =>
    intro x hx
    obtain ⟨⟨y, u, v, e, _⟩, h9⟩ := trace_two hR x hx
    exact ⟨⟨y, u, v, e⟩, h9⟩
theorem xsRes_len (l : List Seg) (t : ByteArray) : (xsRes l t).length ≤ 80 := by
  unfold xsRes
  cases hR : traceB l t.data.toList with
  | none => exact Nat.zero_le _
  | some f =>
    show (chainsB [rootB l] f).length ≤ 80
    rw [chainsB_len]
    exact (traceB_size hR).1
def apartB (l : List Seg) (x : Txt) : Bool := !liesB l (strOf x)
def unsafeRes (l : List Seg) (t : ByteArray) : List ByteArray := (putAll [] ((xsRes l t).filter (apartB l))).map strOf
def UnsafePost (w : World) (l : List Seg) (t : ByteArray) (e : Ending) (w' : World) : Prop :=
  ∃ v, e = .returned (.tuple #[v, .bool (traceB l t.data.toList).isSome]) ∧ OwnTexts w' w.heap.size v (unsafeRes l t) ∧ Below w.heap.size w w'
theorem filter_take {p : Txt → Bool} {xs : List Txt} {k : Nat} (hk : k < xs.length) : (xs.take (k + 1)).filter p = (xs.take k).filter p ++ if p xs[k] = true then [xs[k]] else [] := by
  rw [List.take_succ_eq_append_getElem hk, List.filter_append]
  congr 1
  by_cases h : p xs[k] = true <;> simp [h]

set_option maxRecDepth 100000 in
set_option maxHeartbeats 2000000 in
theorem specUnsafe_any (A : Option Addr) (l : List Seg) (c : Nat) (t : ByteArray) (w : World) (hw : Segs w w.heap.size A l) (hl : l.length ≤ 1048576) (hn : Short l) (ht : t.size ≤ 1048576) :
    Calls Try.prog 61 #[.slice A l.length c, .string t] w (UnsafePost w l t) := by
  have HW : Hid (Segs w w.heap.size A l) := hw
  have HB0 : Hid (Below w.heap.size w (w.alloc (.cells #[] 9))) := (Below.refl _ w).alloc (Nat.le_refl _) _
  have HQ := Lib.hid (specChainsOf_any A l c t (w.alloc (.cells #[] 9)) ((hw.below HB0.out).more HB0.out.size) hl hn ht)
  unfold ChainsResPost at HQ
  rw [chainsRes_xs] at HQ
  unfold UnsafePost unsafeRes
  have HA := Lib.hid (xsRes_two (l := l) (t := t))
  have hx80 := xsRes_len l t
  have HL := Lib.hid (fun s W h hs => specChainLies_any A l c s W h hl hn hs)
  have HS0 : Hid (SolidTexts (w.alloc (.cells #[] 9)) w.heap.size (.slice (some ⟨w.heap.size, 0, none⟩) 0 0) []) := ⟨OwnTexts.empty w (Nat.le_refl _), fun h => by cases h⟩
  clear hw hn
  generalize xsRes l t = xs at *
  generalize (traceB l t.data.toList).isSome = d at *
  have HTS : Hid ((xs.map strOf).length = xs.length) := List.length_map _
  have HC : Hid (∀ k (hk : k < xs.length), (xs.map strOf)[k]? = some (strOf xs[k])) := fun k hk => by rw [List.getElem?_map, List.getElem?_eq_getElem hk]; rfl
  have HPL : Hid (∀ k, (putAll [] ((xs.take k).filter (apartB l))).length ≤ 200) := fun k => by
    have h1 := putAll_len ((xs.take k).filter (apartB l)) []
    have h2 := List.length_filter_le (apartB l) (xs.take k)
    rw [List.length_take] at h2
    simp only [List.length_nil] at h1
    omega
  generalize xs.map strOf = ts at *
  have htl : ts.length ≤ 80 := by rw [HTS.out]; exact hx80
  go_enter Try.func61, Try.ntmps61
  go_wp2_with fail
  refine Calls.mono HQ.out ?_
  rintro e w2 ⟨v, rfl, ho, hb⟩
  obtain ⟨A2, cap2, rfl, -⟩ := St.textsForm ho
  have HB : Hid (Below w.heap.size w w2) := HB0.out.trans (hb.mono HB0.out.size)
  have HO := Lib.hid ho
  have HS2 : Hid (SolidTexts w2 w.heap.size (.slice (some ⟨w.heap.size, 0, none⟩) 0 0) []) := ⟨HS0.out.1.below hb, HS0.out.2⟩
  clear ho hb HS0 HB0 HQ
  go_wp2
  go_loopw [6, 20] (fun o i wr => ∃ (k : Nat) (vo : Value), k ≤ ts.length ∧ i = .int .i64 k ∧ vo = o ∧ Hid (SolidTexts wr w.heap.size vo ((putAll [] ((xs.take k).filter (apartB l))).map strOf)) ∧ Hid (Below w2.heap.size w2 wr))
    (fun _ i _ => ts.length - (intOf i).toNat)
  case atStart => exact ⟨0, _, Nat.zero_le _, rfl, rfl, HS2, Below.refl _ _⟩
  case round =>
    obtain ⟨k, vo, hk, rfl, rfl, HT, HBr⟩ := hrel
    clear HS2
    have hbz := HB.out.size
    have hbr := HBr.out.size
    by_cases hlt : k < ts.length
    · have hkx : k < xs.length := by rw [← HTS.out]; exact hlt
      obtain ⟨-, hx9⟩ := HA.out xs[k] (List.getElem_mem hkx)
      obtain ⟨b, o, hA2, hB2, hc⟩ := strsOf HO.out (by omega)
      subst hA2
      have c0 : wr.cell? ⟨b, o + k, none⟩ = some (.string (strOf xs[k])) := (HBr.out.cell (p := ⟨b, o + k, none⟩) hB2).trans (hc k _ (HC.out k hkx))
      have HF := Lib.hid (filter_take (p := apartB l) hkx)
      have HLC := Lib.hid (HL.out (strOf xs[k]) wr ((HW.out.below (HB.out.trans (HBr.out.mono hbz))).more (by omega)) (by rw [str_size]; omega))
      have HPT := Lib.hid (fun W v h hB hL => l4Put_any w.heap.size v (putAll [] ((xs.take k).filter (apartB l))) xs[k] W h hB hL)
      have HSN := Lib.hid (putAll_snoc [] ((xs.take k).filter (apartB l)) xs[k])
      have HPK := Lib.hid (HPL.out k)
      clear hc hx9
      generalize hxk : xs[k] = x at *
      clear hxk
      cases hd : liesB l (strOf x) with
      | true =>
        have HF1 : Hid ((xs.take (k + 1)).filter (apartB l) = (xs.take k).filter (apartB l)) := by
          show _ = _
          rw [HF.out, if_neg (by unfold apartB; rw [hd]; decide), List.append_nil]
        rw [hd] at HLC
        clear hd HF HPT HSN
        generalize strOf x = z at *
        go_wp2_with fail
        refine Calls.mono HLC.out ?_
        rintro e w3 ⟨rfl, hb3⟩
        have HT3 : Hid (SolidTexts w3 w.heap.size vo ((putAll [] ((xs.take (k + 1)).filter (apartB l))).map strOf)) := by
          show SolidTexts _ _ _ _
          rw [HF1.out]
          exact ⟨HT.out.1.below hb3, HT.out.2⟩
        have HB3 : Hid (Below w2.heap.size w2 w3) := HBr.out.trans (hb3.mono hbr)
        clear hb3 HLC
        go_wp2
        go_roundw
        case rel => exact ⟨k + 1, _, by omega, by go_num, rfl, HT3, HB3⟩
        case measure => simp [intOf]; omega
      | false =>
        have HF1 : Hid ((xs.take (k + 1)).filter (apartB l) = (xs.take k).filter (apartB l) ++ [x]) := by
          show _ = _
          rw [HF.out, if_pos (by unfold apartB; rw [hd]; rfl)]
        rw [hd] at HLC
        clear hd HF
        generalize (xs.take k).filter (apartB l) = q at *
        generalize hz : strOf x = z at *
        go_wp2_with fail
        refine Calls.mono HLC.out ?_
        rintro e w3 ⟨rfl, hb3⟩
        have HT3 := Lib.hid (HPT.out w3 _ ⟨HT.out.1.below hb3, HT.out.2⟩ (by have := hb3.size; omega) HPK.out)
        have HB3 : Hid (Below w2.heap.size w2 w3) := HBr.out.trans (hb3.mono hbr)
        clear hb3 HLC HPT HT
        go_wp2_with fail
        refine Calls.mono HT3.out ?_
        rintro e w4 ⟨v4, rfl, hs4, hb4⟩
        have HT4 : Hid (SolidTexts w4 w.heap.size v4 ((putAll [] ((xs.take (k + 1)).filter (apartB l))).map strOf)) := by
          show SolidTexts _ _ _ _
          rw [HF1.out, HSN.out]
          exact hs4
        have HB4 : Hid (Below w2.heap.size w2 w4) := HB3.out.trans (hb4.mono HB3.out.size)
        clear hs4 hb4 HT3
        go_wp2
        go_roundw
        case rel => exact ⟨k + 1, _, by omega, by go_num, rfl, HT4, HB4⟩
        case measure => simp [intOf]; omega
    · have hkl : k = ts.length := by omega
      have HE : Hid (OwnTexts wr w.heap.size vo ((putAll [] (xs.filter (apartB l))).map strOf)) := by
        have := HT.out.1
        rw [hkl, HTS.out, List.take_length] at this
        exact this
      have HBF : Hid (Below w.heap.size w wr) := HB.out.trans (HBr.out.mono hbz)
      clear hkl HT
      go_wp2
      go_ret2
      exact ⟨_, rfl, HE.out, HBF.out⟩

end Go.Proofs.Ytafpefjjeddmeaa
/- The program's UnsafeChains and IsSafe: chains struck out, sorted, compacted. -/
namespace Go.Proofs.Ytafpefjjeddmeaa
open Go.RowKit Go.Shelf

/-- A row of texts of the call's own whose cells hold an array's texts. -/
def OwnD (W : World) (B g cap : Nat) (d : Array Txt) : Prop := OwnTexts W B (.slice (some ⟨g, 0, none⟩) (d.toList.map strOf).length cap) (d.toList.map strOf)
theorem OwnD.cell {W : World} {B g cap : Nat} {d : Array Txt} (h : OwnD W B g cap d) {j : Nat} (hj : j < d.size) : W.cell? ⟨g, j, none⟩ = some (.string (strOf d[j]!)) := by
  have h1 : (d.toList.map strOf)[j]? = some (strOf d[j]!) := by
    rw [List.getElem?_map, getElem!_pos d j hj]
    simp [hj]
  exact St.textsCell h h1
theorem OwnD.free {W : World} {B g cap : Nat} {d : Array Txt} (h : OwnD W B g cap d) (j : Nat) : W.frozen? ⟨g, j, none⟩ = false := St.textsFree h j
theorem OwnD.below {W W' : World} {B g cap : Nat} {d : Array Txt} (h : OwnD W B g cap d) (hb : Below W.heap.size W W') : OwnD W' B g cap d := OwnTexts.below h hb
theorem OwnD.store {W : World} {B g cap : Nat} {d : Array Txt} (h : OwnD W B g cap d) (i : Nat) (u : Txt) : OwnD (W.setCell ⟨g, i, none⟩ (.string (strOf u))) B g cap (d.setIfInBounds i u) := by
  have h1 := St.textsStore h i (strOf u)
  have e : (d.setIfInBounds i u).toList.map strOf = (d.toList.map strOf).set i (strOf u) := by rw [Array.toList_setIfInBounds, List.map_set]
  unfold OwnD
  rw [e, List.length_set]
  exact h1
theorem OwnD.lt {W : World} {B g cap : Nat} {d : Array Txt} (h : OwnD W B g cap d) : B ≤ g ∧ g < W.heap.size := World.ownsRow.lt h g rfl
theorem OwnD.cap {W : World} {B g cap : Nat} {d : Array Txt} (h : OwnD W B g cap d) : d.size ≤ cap ∧ cap ≤ maxLen := by
  rcases h.2 with ⟨h0, _⟩ | ⟨g', cap', cur, e, _, _, h1, h2, _⟩
  · cases h0
  · injection e with _ _ e3
    rw [e3]
    exact ⟨by simpa using h1, h2⟩
/-- The row's head. -/
def HeadD (W : World) (B g cap k : Nat) (ts : List Txt) : Prop := W.ownsRow B 9 1 (.slice (some ⟨g, 0, none⟩) k cap) k (ts.map txtV)
theorem OwnD.head {W : World} {B g cap : Nat} {d : Array Txt} (h : OwnD W B g cap d) {k : Nat} (hk : k ≤ d.size) {ts : List Txt} (ht : d.toList.take k = ts) : HeadD W B g cap k ts := by
  rcases h.2 with ⟨h0, _⟩ | ⟨g', cap', cur, e, hB, hh, h1, h2, h3, h4⟩
  · cases h0
  · injection e with e1 _ e3
    injection e1 with e1
    injection e1 with e1
    subst e1 e3 ht
    have hl : (d.toList.map strOf).length = d.size := by simp
    rw [hl] at h1 h4
    refine ⟨by simp; omega, .inr ⟨g, cap, cur, rfl, hB, hh, by omega, h2, h3, ?_⟩⟩
    have h5 := congrArg (List.take k) h4
    rw [List.take_take, Nat.mul_one, Nat.min_eq_left hk] at h5
    rw [Nat.mul_one, h5, List.map_take, List.map_map]
    rfl
theorem HeadD.set {W : World} {B g cap k : Nat} {ts : List Txt} (h : HeadD W B g cap k ts) {j : Nat} (hj : k ≤ j) (u : Value) : HeadD (W.setCell ⟨g, j, none⟩ u) B g cap k ts := by
  refine ⟨h.1, ?_⟩
  rcases h.2 with ⟨h0, _⟩ | ⟨g', cap', cur, e, hB, hh, h1, h2, h3, h4⟩
  · cases h0
  · injection e with e1 _ e3
    injection e1 with e1
    injection e1 with e1
    subst e1 e3
    have hr : Row W g 9 cur := hh
    refine .inr ⟨g, cap, _, rfl, hB, hr.put j u, h1, h2, by simpa using h3, ?_⟩
    rw [← h4, Array.toList_setIfInBounds, List.take_set]
    exact List.set_eq_of_length_le (by rw [List.length_take]; omega)
theorem HeadD.sets {B g cap k : Nat} {ts : List Txt} : ∀ (us : List Value) (j : Nat) {W : World}, HeadD W B g cap k ts → k ≤ j → HeadD (W.setCells g j us) B g cap k ts
  | [], _, _, h, _ => h
  | u :: us, j, _, h, hj => HeadD.sets us (j + 1) (h.set hj u) (by omega)
theorem only_sets {g : Nat} : ∀ (us : List Value) (j : Nat) {w W : World}, Only w W (· = g) → Only w (W.setCells g j us) (· = g)
  | [], _, _, _, h => h
  | u :: us, j, _, _, h => only_sets us (j + 1) (h.set j u)
theorem HeadD.texts {W : World} {B g cap : Nat} {ts : List Txt} (h : HeadD W B g cap ts.length ts) : OwnTexts W B (.slice (some ⟨g, 0, none⟩) ts.length cap) (ts.map strOf) := by
  unfold OwnTexts
  rw [List.length_map, List.map_map]
  exact h

/-- What the closure that strikes chains out reads: the tree in its box. -/
structure BoxHeld (W : World) (B bx : Nat) (A : Option Addr) (l : List Seg) (c : Nat) : Prop where
  box : Row W bx 23 #[.slice A l.length c]
  segs : Segs W B A l
  low : B ≤ W.heap.size
theorem BoxHeld.only {W W' : World} {B bx g : Nat} {A : Option Addr} {l : List Seg} {c : Nat} (h : BoxHeld W B bx A l c) (ho : Only W W' (· = g)) (hg : B ≤ g) (hne : bx ≠ g) : BoxHeld W' B bx A l c :=
  ⟨ho.row h.box hne, h.segs.below (Only.below (Below.refl _ W) ho h.low (fun k hk e => by omega)), Nat.le_trans h.low ho.size⟩

set_option maxRecDepth 100000 in
set_option maxHeartbeats 1000000 in
theorem struck_any (A : Option Addr) (l : List Seg) (c B bx : Nat) (x : Txt) (W : World) (h : BoxHeld W B bx A l c) (hl : l.length ≤ 1048576) (hlc : l.length ≤ c) (hcm : c ≤ 9223372036854775807) (hn : Short l) (hx : x.length ≤ 9) :
    Calls Try.prog 90 #[.string (strOf x), .pointer (some ⟨bx, 0, none⟩)] W fun e w' => e = .returned (.bool (liesB l (strOf x))) ∧ Below W.heap.size W w' := by
  have c0 : W.cell? ⟨bx, 0, none⟩ = some (.slice A l.length c) := h.box.cell 0
  have HL := Lib.hid (chainLies_any A l c (strOf x) W (h.segs.more h.low) hl hlc hcm hn (by rw [str_size]; omega))
  clear h hn
  generalize strOf x = z at *
  go_enter Try.func90, Try.ntmps90
  go_wp2_with fail
  refine Calls.mono HL.out ?_
  rintro e w1 ⟨rfl, hb⟩
  go_wp2
  go_ret
  exact ⟨rfl, hb⟩

/-- Where the first text stands for which a truth holds. -/
def FirstAt (p : Txt → Bool) (d : Array Txt) (r : Int) : Prop := (r = -1 ∧ ∀ j, j < d.size → p d[j]! = false) ∨ ∃ k : Nat, k < d.size ∧ r = (k : Int) ∧ p d[k]! = true ∧ ∀ j, j < k → p d[j]! = false

set_option maxRecDepth 100000 in
set_option maxHeartbeats 1000000 in
theorem indexStruck_any (A : Option Addr) (l : List Seg) (c B bx g cap : Nat) (d : Array Txt) (W : World) (h : BoxHeld W B bx A l c) (hD : OwnD W B g cap d) (hx : ∀ j, j < d.size → d[j]!.length ≤ 9) (hd : d.size ≤ 80) (hl : l.length ≤ 1048576) (hlc : l.length ≤ c) (hcm : c ≤ 9223372036854775807) (hn : Short l) :
    Calls Try.prog 114 #[.slice (some ⟨g, 0, none⟩) d.size cap, .func (.func 90) #[] #[.pointer (some ⟨bx, 0, none⟩)]] W fun e w' => (∃ r : Int, e = .returned (.int .i64 r) ∧ FirstAt (fun x => liesB l (strOf x)) d r) ∧ Below W.heap.size W w' := by
  have HH : Hid (∀ W' x, Below W.heap.size W W' → x.length ≤ 9 → Calls Try.prog 90 #[.string (strOf x), .pointer (some ⟨bx, 0, none⟩)] W' fun e w' => e = .returned (.bool (liesB l (strOf x))) ∧ Below W'.heap.size W' w') := fun W' x hb hx =>
    struck_any A l c B bx x W' ⟨h.box.below hb h.box.lt, h.segs.below (hb.mono h.low), Nat.le_trans h.low hb.size⟩ hl hlc hcm hn hx
  have HD := Lib.hid hD
  have HX := Lib.hid hx
  have heg : ∀ args w, (callFunc 90 args).run Try.prog w = .ok (.enter 90 args) w := enters_of Try.func90 (by kernel_rfl) rfl
  clear h hD hx hn
  go_enter Try.func114, Try.ntmps114
  go_wp2
  go_loopw [8] (fun i wr => ∃ k : Nat, k ≤ d.size ∧ i = .int .i64 k ∧ Hid (∀ j, j < k → liesB l (strOf d[j]!) = false) ∧ Hid (Below W.heap.size W wr))
    (fun i _ => d.size - (intOf i).toNat)
  case atStart => exact ⟨0, Nat.zero_le _, rfl, fun j hj => absurd hj (Nat.not_lt_zero _), Below.refl _ _⟩
  case round =>
    obtain ⟨k, hk, rfl, HK, HB⟩ := hrel
    have hk0 : (0 : Int) ≤ (k : Int) := Int.natCast_nonneg _
    by_cases hlt : k < d.size
    · have hlt' : (k : Int) < (d.size : Int) := by omega
      have c0 := (HD.out.below HB.out).cell hlt
      have HC := Lib.hid (HH.out wr d[k]! HB.out (HX.out k hlt))
      obtain ⟨x, hxe⟩ : ∃ x, x = d[k]! := ⟨_, rfl⟩
      have HXE := Lib.hid hxe
      rw [← hxe] at c0 HC
      clear hxe
      cases hq : liesB l (strOf x) with
      | false =>
        rw [hq] at HC
        have HK1 : Hid (∀ j, j < k + 1 → liesB l (strOf d[j]!) = false) := by
          show ∀ j, _
          intro j hj
          by_cases hjk : j = k
          · subst hjk; rw [← HXE.out]; exact hq
          · exact HK.out j (by omega)
        clear hq HXE
        generalize strOf x = z at *
        go_wp2_with (go_at_fn 90; refine Calls.mono HC.out ?_; rintro e w1 ⟨rfl, hb1⟩)
        have HB1 : Hid (Below W.heap.size W w1) := HB.out.trans (hb1.mono HB.out.size)
        clear hb1
        go_roundw
        case rel => exact ⟨k + 1, by omega, by go_num, HK1, HB1⟩
        case measure => simp [intOf]; omega
      | true =>
        rw [hq] at HC
        have HF : Hid (FirstAt (fun x => liesB l (strOf x)) d (k : Int)) := .inr ⟨k, hlt, rfl, by rw [← HXE.out]; exact hq, HK.out⟩
        clear hq HXE HK
        generalize strOf x = z at *
        go_wp2_with (go_at_fn 90; refine Calls.mono HC.out ?_; rintro e w1 ⟨rfl, hb1⟩)
        have HB1 : Hid (Below W.heap.size W w1) := HB.out.trans (hb1.mono HB.out.size)
        clear hb1
        go_ret
        exact ⟨⟨_, rfl, HF.out⟩, HB1.out⟩
    · obtain rfl : k = d.size := by omega
      have HF : Hid (FirstAt (fun x => liesB l (strOf x)) d (-1)) := .inl ⟨rfl, HK.out⟩
      clear HK
      go_wp2
      go_ret
      exact ⟨⟨_, rfl, HF.out⟩, HB.out⟩

/-- What is behind slices.DeleteFunc: the texts that are kept, at the row's head. -/
def StruckPost (W : World) (B g cap : Nat) (ts : List Txt) (e : Ending) (w' : World) : Prop :=
  e = .returned (.slice (some ⟨g, 0, none⟩) ts.length cap) ∧ HeadD w' B g cap ts.length ts ∧ Only W w' (· = g)

set_option maxRecDepth 100000 in
set_option maxHeartbeats 2000000 in
theorem deleteStruck_any (A : Option Addr) (l : List Seg) (c B bx g cap : Nat) (d : Array Txt) (W : World) (h : BoxHeld W B bx A l c) (hne : bx ≠ g) (hD : OwnD W B g cap d) (hx : ∀ j, j < d.size → d[j]!.length ≤ 9) (hd : d.size ≤ 80) (hl : l.length ≤ 1048576) (hlc : l.length ≤ c) (hcm : c ≤ 9223372036854775807) (hn : Short l) :
    Calls Try.prog 89 #[.slice (some ⟨g, 0, none⟩) d.size cap, .func (.func 90) #[] #[.pointer (some ⟨bx, 0, none⟩)]] W (StruckPost W B g cap (d.toList.filter (apartB l))) := by
  have hI := indexStruck_any A l c B bx g cap d W h hD hx hd hl hlc hcm hn
  obtain ⟨hcap, hcapm⟩ := hD.cap
  unfold maxLen at hcapm
  obtain ⟨kp, HK⟩ : ∃ kp : Nat → Bool, Hid (kp = fun j => apartB l d[j]!) := ⟨_, rfl⟩
  have hfil : d.toList.filter (apartB l) = Lib.keptUpTo kp d d.size := by rw [HK.out]; exact (Lib.keptUpTo_filter (apartB l) d).symm
  rw [hfil]
  have HH : Hid (∀ W' x, Only W W' (· = g) → x.length ≤ 9 → Calls Try.prog 90 #[.string (strOf x), .pointer (some ⟨bx, 0, none⟩)] W' fun e w' => e = .returned (.bool (liesB l (strOf x))) ∧ Below W'.heap.size W' w') := fun W' x ho hx =>
    struck_any A l c B bx x W' (h.only ho hD.lt.1 hne) hl hlc hcm hn hx
  have heg : ∀ args w, (callFunc 90 args).run Try.prog w = .ok (.enter 90 args) w := enters_of Try.func90 (by kernel_rfl) rfl
  have HD := Lib.hid hD
  have HX := Lib.hid hx
  have HI := Lib.hid hI
  clear h hD hx hn hI hfil
  go_enter Try.func89, Try.ntmps89
  go_wp2_with fail
  refine Calls.mono HI.out ?_
  rintro e w1 ⟨⟨r, rfl, hr⟩, hb1⟩
  rcases hr with ⟨rfl, hall⟩ | ⟨k0, hk0, rfl, htrue, hall⟩
  · have hkeep : ∀ j, j < d.size → kp j = true := fun j hj => by
      rw [HK.out]
      show (!liesB l (strOf d[j]!)) = true
      rw [show liesB l (strOf d[j]!) = false from hall j hj]; rfl
    have HE : Hid (Lib.keptUpTo kp d d.size = d.toList) := (Lib.keptUpTo_all kp d _ hkeep).trans (Lib.range_map_get d)
    have HF : Hid (StruckPost W B g cap (Lib.keptUpTo kp d d.size) (.returned (.slice (some ⟨g, 0, none⟩) d.size cap)) w1) := by
      show StruckPost _ _ _ _ _ _ _
      rw [HE.out]
      have h1 := (HD.out.below hb1).head (k := d.size) (Nat.le_refl _) (ts := d.toList) (List.take_of_length_le (by simp))
      exact ⟨by simp, by simpa using h1, Only.andBelow (Only.refl W _) hb1⟩
    clear hall hkeep hb1
    go_wp2
    go_ret
    exact HF.out
  · have hkeep : ∀ j, j < k0 → kp j = true := fun j hj => by
      rw [HK.out]
      show (!liesB l (strOf d[j]!)) = true
      rw [show liesB l (strOf d[j]!) = false from hall j hj]; rfl
    have hdrop : kp k0 = false := by
      rw [HK.out]
      show (!liesB l (strOf d[k0]!)) = false
      rw [show liesB l (strOf d[k0]!) = true from htrue]; rfl
    have HI0 : Hid (Lib.KeptInv kp d (k0 + 1) k0 d) := Lib.KeptInv.start hkeep hdrop
    have HD1 : Hid (OwnD w1 B g cap d) := HD.out.below hb1
    have HO1 : Hid (Only W w1 (· = g)) := Only.andBelow (Only.refl W _) hb1
    have hne1 : ((k0 : Int) == -1) = false := beq_eq_false_iff_ne.2 (by omega)
    clear hall htrue hkeep hdrop hb1 HD HI
    go_wp2
    go_loopw [5, 6] (fun s5 s6 wr => ∃ (i j : Nat) (dk : Array Txt), s5 = .int .i64 i ∧ s6 = .int .i64 j ∧ j ≤ d.size ∧ Hid (Lib.KeptInv kp d j i dk) ∧ Hid (OwnD wr B g cap dk) ∧ Hid (Only W wr (· = g)))
      (fun _ s6 _ => d.size - (intOf s6).toNat)
    case atStart => exact ⟨k0, k0 + 1, d, rfl, by go_num, by omega, HI0, HD1, HO1⟩
    case round =>
      obtain ⟨i, j, dk, rfl, rfl, hjd, HIv, HDk, HOk⟩ := hrel
      clear HI0 HD1 HO1
      have hij := HIv.out.lt
      have hds := HIv.out.size
      have hj0 : (0 : Int) ≤ (j : Int) := Int.natCast_nonneg _
      have hi0 : (0 : Int) ≤ (i : Int) := Int.natCast_nonneg _
      by_cases hlt : j < d.size
      · have hlt' : (j : Int) < (d.size : Int) := by omega
        have hil' : (i : Int) < (d.size : Int) := by omega
        have cj := HDk.out.cell (j := j) (by omega)
        rw [HIv.out.high j (by omega)] at cj
        have HC := Lib.hid (HH.out wr d[j]! HOk.out (HX.out j hlt))
        obtain ⟨u, hue⟩ : ∃ u, u = d[j]! := ⟨_, rfl⟩
        have HUE := Lib.hid hue
        rw [← hue] at cj HC
        clear hue
        cases hq : liesB l (strOf u) with
        | false =>
          rw [hq] at HC
          have HI1 : Hid (Lib.KeptInv kp d (j + 1) (i + 1) (dk.setIfInBounds i u)) := by
            show Lib.KeptInv _ _ _ _ _
            rw [HUE.out]
            refine HIv.out.keep hlt ?_
            rw [HK.out]
            show (!liesB l (strOf d[j]!)) = true
            rw [← HUE.out, hq]; rfl
          have HST := Lib.hid (fun W' (hb : Below wr.heap.size wr W') => (HDk.out.below hb).store i u)
          have HCI : Hid (∀ W', Below wr.heap.size wr W' → (∃ old, W'.cell? ⟨g, i, none⟩ = some old) ∧ W'.frozen? ⟨g, i, none⟩ = false) := fun W' hb => ⟨⟨_, (HDk.out.below hb).cell (j := i) (by omega)⟩, (HDk.out.below hb).free i⟩
          clear hq HUE HIv
          generalize strOf u = z at *
          go_wp2_with (go_at_fn 90; refine Calls.mono HC.out ?_; rintro e w2 ⟨rfl, hb2⟩; obtain ⟨⟨old, d0⟩, z0⟩ := HCI.out w2 hb2)
          have HD2 := Lib.hid (HST.out w2 hb2)
          have HO2 : Hid (Only W (w2.setCell ⟨g, i, none⟩ (.string z)) (· = g)) := (Only.andBelow HOk.out hb2).set i _
          clear hb2 d0 z0 HST HCI HDk HOk
          go_roundw
          case rel => exact ⟨i + 1, j + 1, _, by go_num, by go_num, by omega, HI1, HD2, HO2⟩
          case measure => simp [intOf]; omega
        | true =>
          rw [hq] at HC
          have HI1 : Hid (Lib.KeptInv kp d (j + 1) i dk) := HIv.out.skip (by
            rw [HK.out]
            show (!liesB l (strOf d[j]!)) = false
            rw [← HUE.out, hq]; rfl)
          clear hq HUE HIv
          generalize strOf u = z at *
          go_wp2_with (go_at_fn 90; refine Calls.mono HC.out ?_; rintro e w2 ⟨rfl, hb2⟩)
          have HD2 := Lib.hid (HDk.out.below hb2)
          have HO2 : Hid (Only W w2 (· = g)) := Only.andBelow HOk.out hb2
          clear hb2 HDk HOk
          go_roundw
          case rel => exact ⟨i, j + 1, _, rfl, by go_num, by omega, HI1, HD2, HO2⟩
          case measure => simp [intOf]; omega
      · obtain rfl : j = d.size := by omega
        have hltz : ¬ (d.size : Int) < (d.size : Int) := by omega
        have hcl : ∀ ty, (Builtin.clear_ #[26] ty #[.slice (some ⟨g, i, none⟩) (d.size - i) (cap - i)]).run Try.prog wr = .ok (.tuple #[]) (wr.setCells g i (List.replicate (d.size - i) (.string ByteArray.empty))) :=
          fun ty => Lib.run_clear_slice wr _ _ ty _ Try.underlying26 Try.zeroValue9 rfl rfl g i _ _ (by omega) (fun t ht => by rw [HDk.out.cell (j := i + t) (by omega)]; rfl) (fun t ht => HDk.out.free _)
        have HLN := HIv.out.len
        have HHD : Hid (HeadD (wr.setCells g i (List.replicate (d.size - i) (.string ByteArray.empty))) B g cap (Lib.keptUpTo kp d d.size).length (Lib.keptUpTo kp d d.size)) := by
          show HeadD _ _ _ _ _ _
          rw [HLN]
          refine HeadD.sets _ _ (HDk.out.head (k := i) (by omega) ?_) (Nat.le_refl _)
          apply List.ext_getElem?
          intro q
          by_cases hq : q < i
          · rw [HIv.out.low q hq, List.getElem?_take_of_lt hq, getElem!_pos dk q (by omega)]
            simp
          · rw [List.getElem?_eq_none (by rw [List.length_take]; omega), List.getElem?_eq_none (by omega)]
        have HOF : Hid (Only W (wr.setCells g i (List.replicate (d.size - i) (.string ByteArray.empty))) (· = g)) := only_sets _ _ HOk.out
        have HLH := Lib.hid HLN
        have hci : ¬ cap = i := by omega
        clear HIv HDk HOk HLN
        go_wp2
        go_ret
        refine ⟨by rw [HLH.out]; rfl, HHD.out, HOF.out⟩

end Go.Proofs.Ytafpefjjeddmeaa
/- The program's UnsafeChains, and IsSafe on both sides. -/
namespace Go.Proofs.Ytafpefjjeddmeaa
open Go.RowKit Go.Shelf Go.Sort

theorem enc_txt (x : Txt) : encStr x = txtV x := rfl
theorem HeadD.holds {W : World} {B g cap : Nat} {ts : List Txt} (h : HeadD W B g cap ts.length ts) : Holds encStr W g 0 ts.toArray := fun j hj => by
  have hj' : j < ts.length := by simpa using hj
  have h1 := h.cellAt j (by omega)
  rw [Nat.zero_add]
  constructor
  · rw [h1, List.getElem?_map, List.getElem?_eq_getElem hj']
    rw [getElem!_pos ts.toArray j hj]
    simp [enc_txt]
  · rcases h.2 with ⟨h0, _⟩ | ⟨g', cap', cur, e, hB, hh, _⟩
    · cases h0
    · injection e with e1 _ e3
      injection e1 with e1
      injection e1 with e1
      subst e1
      exact Row.free (hh : Row W g 9 cur) j
theorem HeadD.lt {W : World} {B g cap k : Nat} {ts : List Txt} (h : HeadD W B g cap k ts) : B ≤ g ∧ g < W.heap.size := World.ownsRow.lt h g rfl
theorem HeadD.cap {W : World} {B g cap k : Nat} {ts : List Txt} (h : HeadD W B g cap k ts) : k ≤ cap ∧ cap ≤ maxLen := by
  rcases h.2 with ⟨h0, _⟩ | ⟨g', cap', cur, e, _, _, h1, h2, _⟩
  · cases h0
  · injection e with _ _ e3
    rw [e3]
    exact ⟨h1, h2⟩
/-- What sorting leaves. -/
theorem HeadD.sorted {W : World} {B g cap n : Nat} {os : Array Obj} {ts ss : List Txt} (h : HeadD W B g cap ts.length ts) (hl : ss.length = ts.length) :
    HeadD (grow (putRow encStr (Sort.ahead W n) g 0 ss.toArray) os) B g cap ss.length ss := by
  rcases h.2 with ⟨h0, _⟩ | ⟨g', cap', cur, e, hB, hh, h1, h2, h3, _⟩
  · cases h0
  · injection e with e1 _ e3
    injection e1 with e1
    injection e1 with e1
    subst e1 e3
    have := ownsRow_sorted (n := n) (os := os) (ss := ss) (ts := ss) rfl hB hh (by omega) h2 h3
    exact this
/-- What compacting leaves. -/
theorem HeadD.compacted {W : World} {B g cap q : Nat} {ss ys : List Txt} (h : HeadD W B g cap ss.length ss) (hy : ys.length ≤ ss.length) (zs : List Txt) (hz : zs.length = ss.length - ys.length) :
    HeadD (putRow encStr (Sort.ahead W q) g 0 (ys ++ zs).toArray) B g cap ys.length ys := by
  have := Lib.ownsRow_putRow (enc := encStr) (q := q) (k := ys.length) (ys := ys ++ zs) h (by rw [List.length_append]; omega) hy
  rw [List.take_left] at this
  exact this
theorem xs_arr {xs : List Txt} {W : World} {B g cap n : Nat} (h : OwnTexts W B (.slice (some ⟨g, 0, none⟩) n cap) (xs.map strOf)) (hn : n = xs.length) : OwnD W B g cap xs.toArray := by
  unfold OwnD
  subst hn
  rw [List.length_map]
  exact h

set_option maxRecDepth 100000 in
set_option maxHeartbeats 1000000 in
theorem deleteNil_any (bx : Nat) (W : World) :
    Calls Try.prog 89 #[.slice none 0 0, .func (.func 90) #[] #[.pointer (some ⟨bx, 0, none⟩)]] W fun e w' => e = .returned (.slice none 0 0) ∧ w' = W := by
  have HI : Hid (Calls Try.prog 114 #[.slice none 0 0, .func (.func 90) #[] #[.pointer (some ⟨bx, 0, none⟩)]] W fun e w' => e = .returned (.int .i64 (-1)) ∧ w' = W) := by
    show Calls _ _ _ _ _
    go_enter Try.func114, Try.ntmps114
    go_wp2
    go_loop [8] (fun i => i = .int .i64 0) (fun _ => 0)
    case atStart => rfl
    case round =>
      subst hrel
      go_wp2
      go_ret
      exact ⟨rfl, rfl⟩
  go_enter Try.func89, Try.ntmps89
  go_wp2_with fail
  refine Calls.mono HI.out ?_
  rintro e w1 ⟨rfl, rfl⟩
  go_wp2
  go_ret
  exact ⟨rfl, rfl⟩

set_option maxRecDepth 100000 in
set_option maxHeartbeats 2000000 in
theorem implUnsafe_any (A : Option Addr) (l : List Seg) (c : Nat) (t : ByteArray) (w : World) (hw : Segs w w.heap.size A l) (hl : l.length ≤ 1048576) (hlc : l.length ≤ c) (hcm : c ≤ 9223372036854775807) (hn : Short l) (ht : t.size ≤ 1048576) :
    Calls Try.prog 62 #[.slice A l.length c, .string t] w (UnsafePost w l t) := by
  have HB0 : Hid (Below w.heap.size w (w.alloc (.cells #[.slice A l.length c] 23))) := (Below.refl _ w).alloc (Nat.le_refl _) _
  have HBX : Hid (Row (w.alloc (.cells #[.slice A l.length c] 23)) w.heap.size 23 #[.slice A l.length c]) := Row.new w _ _
  have HZ0 : Hid ((w.alloc (.cells #[.slice A l.length c] 23)).heap.size = w.heap.size + 1) := by show _ = _; simp
  have HQ := Lib.hid (implChainsOf_any A l c t (w.alloc (.cells #[.slice A l.length c] 23)) ((hw.below HB0.out).more HB0.out.size) hl hlc hcm hn ht)
  have HW : Hid (Segs w w.heap.size A l) := hw
  unfold ChainsResPost at HQ
  rw [chainsRes_xs] at HQ
  unfold UnsafePost unsafeRes
  have hx9 : ∀ x ∈ xsRes l t, x.length ≤ 9 := fun x hx => (xsRes_two x hx).2
  have hx80 := xsRes_len l t
  have HNO : Hid ((traceB l t.data.toList).isSome = false → xsRes l t = []) := fun h => by
    unfold xsRes
    cases hR : traceB l t.data.toList with
    | none => rfl
    | some f => rw [hR] at h; cases h
  have HDN := Lib.hid (fun bx W => deleteNil_any bx W)
  have c0 : (w.alloc (.cells #[.slice A l.length c] 23)).cell? ⟨w.heap.size, 0, none⟩ = some (.slice A l.length c) := HBX.out.cell 0
  have HX9 := Lib.hid hx9
  have HDS := Lib.hid (fun B bx g cap d W h1 h2 h3 h4 h5 => deleteStruck_any A l c B bx g cap d W h1 h2 h3 h4 h5 hl hlc hcm hn)
  clear hw hn hx9
  generalize xsRes l t = xs at *
  generalize (traceB l t.data.toList).isSome = d at *
  obtain ⟨ts, hts⟩ : ∃ ts, ts = xs.filter (apartB l) := ⟨_, rfl⟩
  rw [← hts]
  have HTS := Lib.hid hts
  clear hts
  go_enter Try.func62, Try.ntmps62
  go_wp2_with fail
  refine Calls.mono HQ.out ?_
  rintro e w2 ⟨v, rfl, ho, hb⟩
  have HB2 : Hid (Below w.heap.size w w2) := HB0.out.trans (hb.mono HB0.out.size)
  have HX2 : Hid (Row w2 w.heap.size 23 #[.slice A l.length c]) := HBX.out.below hb (by have := HZ0.out; omega)
  have HOL : Hid (OwnTexts w2 (w.heap.size + 1) v (xs.map strOf)) := by
    show OwnTexts _ _ _ _
    rw [← HZ0.out]
    exact ho
  clear ho hb HQ HBX HB0 HZ0 c0
  cases d with
  | false =>
    have hx := HNO.out rfl
    subst hx
    have ht0 : ts = [] := HTS.out
    subst ht0
    go_wp2
    go_ret2
    exact ⟨_, rfl, World.ownsRow_nil w2 _ _ 1, HB2.out⟩
  | true =>
    have hol := HOL.out
    rcases hol.2 with ⟨rfl, h0⟩ | ⟨g, cap, cur, rfl, hbg, -⟩
    · have hx : xs = [] := by
        rw [List.length_map] at h0
        exact List.eq_nil_of_length_eq_zero h0
      subst hx
      have ht0 : ts = [] := HTS.out
      subst ht0
      clear hol h0 HOL
      go_wp2_with fail
      refine (HDN.out _ _).mono ?_
      rintro e w3 ⟨rfl, rfl⟩
      go_wp2_with fail
      refine (Try.slices_Sort_string_none none 0 _).mono ?_
      rintro e w4 ⟨rfl, rfl⟩
      go_wp2_with fail
      refine (Try.slices_Compact_string_empty none 0 _).mono ?_
      rintro e w5 ⟨rfl, rfl⟩
      go_wp2
      go_ret2
      exact ⟨_, rfl, World.ownsRow_nil _ _ _ 1, HB2.out⟩
    · have hlen : (xs.map strOf).length = xs.length := List.length_map _
      have hzz := HB2.out.size
      have HDD : Hid (OwnD w2 w.heap.size g cap xs.toArray) := xs_arr (own_low hol (by omega)) hlen
      have HDC := Lib.hid (HDS.out w.heap.size w.heap.size g cap xs.toArray w2 ⟨HX2.out, HW.out.below HB2.out, hzz⟩ (by omega) HDD.out (fun j hj => by
        have hj' : j < xs.length := by simpa using hj
        rw [getElem!_pos xs.toArray j hj]
        exact HX9.out _ (by simp)) (by simpa using hx80))
      have hsz : xs.toArray.size = xs.length := by simp
      rw [hsz, show xs.toArray.toList = xs from rfl, ← HTS.out] at HDC
      have HFL : Hid (ts.length ≤ 80) := by
        show _ ≤ _
        rw [HTS.out]
        exact Nat.le_trans (List.length_filter_le _ _) hx80
      have HGG : Hid (w.heap.size < g) := show w.heap.size < g by omega
      rw [hlen]
      clear hol HOL HDD hlen hsz HDS HDN HX9 hbg
      go_wp2_with fail
      refine Calls.mono HDC.out ?_
      rintro e w3 ⟨rfl, hh3, ho3⟩
      have HH3 := Lib.hid hh3
      have HO3 := Lib.hid ho3
      have HSO := Lib.hid (Try.slices_Sort_string g 0 cap ts w3 hh3.holds hh3.lt.2 (by have := HFL.out; omega))
      clear hh3 ho3 HDC
      go_wp2_with fail
      refine Calls.mono HSO.out ?_
      rintro e w4 ⟨rfl, nn, os, rfl⟩
      have hl2 : (ts.mergeSort fun x y => decide (x ≤ y)).length = ts.length := List.length_mergeSort ts
      have HH4 : Hid (HeadD (grow (putRow encStr (Sort.ahead w3 nn) g 0 (ts.mergeSort fun x y => decide (x ≤ y)).toArray) os) w.heap.size g cap (ts.mergeSort fun x y => decide (x ≤ y)).length (ts.mergeSort fun x y => decide (x ≤ y))) := HH3.out.sorted hl2
      have HB4 : Hid (Below w.heap.size w (grow (putRow encStr (Sort.ahead w3 nn) g 0 (ts.mergeSort fun x y => decide (x ≤ y)).toArray) os)) :=
        (Only.below HB2.out HO3.out hzz (fun k hk e => by have := HGG.out; omega)).grown (grownBy_sorted _) (by have := HO3.out.size; omega) (fun j hj => by injection hj with hj; have := HGG.out; omega)
      have HCO := Lib.hid (Try.slices_Compact_string g 0 cap (ts.mergeSort fun x y => decide (x ≤ y)) _ HH4.out.holds (by have := HFL.out; omega) (HH4.out.cap.1))
      rw [hl2] at HCO
      have HCS := Lib.hid (compact_sort ts)
      have HLC := Lib.hid (Lib.compact_length_le (ts.mergeSort fun x y => decide (x ≤ y)))
      have HL2 := Lib.hid hl2
      clear hl2 HH3 HO3 HSO
      generalize (ts.mergeSort fun x y => decide (x ≤ y)) = ss at *
      generalize grow (putRow encStr (Sort.ahead w3 nn) g 0 ss.toArray) os = w4 at *
      go_wp2_with fail
      refine Calls.mono HCO.out ?_
      rintro e w5 ⟨rfl, q, rfl⟩
      have HH5 : Hid (OwnTexts (putRow encStr (Sort.ahead w4 q) g 0 (Lib.compact ss ++ List.replicate (ts.length - (Lib.compact ss).length) []).toArray) w.heap.size (.slice (some ⟨g, 0, none⟩) (Lib.compact ss).length cap) ((putAll [] ts).map strOf)) := by
        show OwnTexts _ _ _ _
        rw [← HCS.out]
        exact (HH4.out.compacted HLC.out _ (by rw [List.length_replicate, HL2.out])).texts
      have HB5 : Hid (Below w.heap.size w (putRow encStr (Sort.ahead w4 q) g 0 (Lib.compact ss ++ List.replicate (ts.length - (Lib.compact ss).length) []).toArray)) := Lib.below_putRow HB4.out (by have := HGG.out; omega)
      clear HCO HCS HLC HH4 HB4
      generalize (putRow encStr (Sort.ahead w4 q) g 0 (Lib.compact ss ++ List.replicate (ts.length - (Lib.compact ss).length) []).toArray) = w5 at *
      go_wp2
      go_ret2
      exact ⟨_, rfl, HH5.out, HB5.out⟩

/-- Whether a trace is safe. -/
def safeB (l : List Seg) (t : ByteArray) : Bool := (traceB l t.data.toList).isSome && decide ((unsafeRes l t).length = 0)

set_option maxRecDepth 100000 in
set_option maxHeartbeats 1000000 in
theorem specIsSafe_any (A : Option Addr) (l : List Seg) (c : Nat) (t : ByteArray) (w : World) (hw : Segs w w.heap.size A l) (hl : l.length ≤ 1048576) (hn : Short l) (ht : t.size ≤ 1048576) :
    Calls Try.prog 36 #[.slice A l.length c, .string t] w fun e w' => e = .returned (.bool (safeB l t)) ∧ Below w.heap.size w w' := by
  have HQ := Lib.hid (specUnsafe_any A l c t w hw hl hn ht)
  unfold UnsafePost at HQ
  unfold safeB
  clear hw hn
  generalize unsafeRes l t = ts at *
  generalize (traceB l t.data.toList).isSome = d at *
  cases d with
  | false =>
    go_enter Try.func36, Try.ntmps36
    go_wp2_with fail
    refine Calls.mono HQ.out ?_
    rintro e w2 ⟨v, rfl, ho, hb⟩
    obtain ⟨A2, cap2, rfl, -⟩ := St.textsForm ho
    clear ho
    go_wp2
    go_ret
    exact ⟨rfl, hb⟩
  | true =>
    go_enter Try.func36, Try.ntmps36
    go_wp2_with fail
    refine Calls.mono HQ.out ?_
    rintro e w2 ⟨v, rfl, ho, hb⟩
    obtain ⟨A2, cap2, rfl, -⟩ := St.textsForm ho
    clear ho
    by_cases h0 : ts.length = 0
    · have h1 : ((ts.length : Int) == 0) = true := by simpa using h0
      have HF : Hid ((true && decide (ts.length = 0)) = true) := by show _ = _; rw [decide_eq_true h0]; rfl
      go_wp2
      go_ret
      exact ⟨ret_bool HF.out.symm, hb⟩
    · have h1 : ((ts.length : Int) == 0) = false := by simpa using h0
      have HF : Hid ((true && decide (ts.length = 0)) = false) := by show _ = _; rw [decide_eq_false h0]; rfl
      go_wp2
      go_ret
      exact ⟨ret_bool HF.out.symm, hb⟩

set_option maxRecDepth 100000 in
set_option maxHeartbeats 1000000 in
theorem isSafe_any (A : Option Addr) (l : List Seg) (c : Nat) (t : ByteArray) (w : World) (hw : Segs w w.heap.size A l) (hl : l.length ≤ 1048576) (hlc : l.length ≤ c) (hcm : c ≤ 9223372036854775807) (hn : Short l) (ht : t.size ≤ 1048576) :
    Calls Try.prog 37 #[.slice A l.length c, .string t] w fun e w' => e = .returned (.bool (safeB l t)) ∧ Below w.heap.size w w' := by
  have HQ := Lib.hid (implUnsafe_any A l c t w hw hl hlc hcm hn ht)
  unfold UnsafePost at HQ
  unfold safeB
  clear hw hn
  generalize unsafeRes l t = ts at *
  generalize (traceB l t.data.toList).isSome = d at *
  cases d with
  | false =>
    go_enter Try.func37, Try.ntmps37
    go_wp2_with fail
    refine Calls.mono HQ.out ?_
    rintro e w2 ⟨v, rfl, ho, hb⟩
    obtain ⟨A2, cap2, rfl, -⟩ := St.textsForm ho
    clear ho
    go_wp2
    go_ret
    exact ⟨rfl, hb⟩
  | true =>
    go_enter Try.func37, Try.ntmps37
    go_wp2_with fail
    refine Calls.mono HQ.out ?_
    rintro e w2 ⟨v, rfl, ho, hb⟩
    obtain ⟨A2, cap2, rfl, -⟩ := St.textsForm ho
    clear ho
    by_cases h0 : ts.length = 0
    · have h1 : ((ts.length : Int) == 0) = true := by simpa using h0
      have HF : Hid ((true && decide (ts.length = 0)) = true) := by show _ = _; rw [decide_eq_true h0]; rfl
      go_wp2
      go_ret
      exact ⟨ret_bool HF.out.symm, hb⟩
    · have h1 : ((ts.length : Int) == 0) = false := by simpa using h0
      have HF : Hid ((true && decide (ts.length = 0)) = false) := by show _ = _; rw [decide_eq_false h0]; rfl
      go_wp2
      go_ret
      exact ⟨ret_bool HF.out.symm, hb⟩

end Go.Proofs.Ytafpefjjeddmeaa
/- The walk of the law FnExactIsSafe. -/
namespace Go.Proofs.Ytafpefjjeddmeaa
open Go.RowKit

set_option maxRecDepth 100000 in
set_option maxHeartbeats 400000 in
theorem lawIsSafe_any (A : Option Addr) (l : List Seg) (c : Nat) (s : ByteArray) (w : World) (hw : Segs w w.heap.size A l) (hl : l.length ≤ maxLen) (hn : Short l) (hsz : s.size ≤ maxLen) :
    Calls Try.prog 7 #[.slice A l.length c, .string s] w fun e w' => e = .returned (.bool true) ∧ Below w.heap.size w w' := by
  have HW : Hid (Segs w w.heap.size A l) := hw
  clear hw
  unfold maxLen at hsz
  by_cases hbigs : 1048576 < s.size
  · go_enter Try.func7, Try.ntmps7
    go_wp2
    go_ret
    exact ⟨rfl, Below.refl _ _⟩
  by_cases hs : sizeLeft l < 0
  · go_enter Try.func7, Try.ntmps7
    go_wp2_with fail
    refine (szSegmentS_any _ _ _ _ HW.out hl hn).mono ?_
    rintro e w1 ⟨rfl, hb1⟩
    go_wp2
    go_ret
    exact ⟨rfl, hb1⟩
  · have hlen := sizeLeft_len hs
    go_enter Try.func7, Try.ntmps7
    go_wp2_with fail
    refine (szSegmentS_any _ _ _ _ HW.out hl hn).mono ?_
    rintro e w1 ⟨rfl, hb1⟩
    have hs1 := (HW.out.below hb1).more hb1.size
    go_wp2_with fail
    refine (toSegmentS_any _ _ _ _ hs1 hlen).mono ?_
    rintro e w2 ⟨rfl, hb2, hx2⟩
    have B2 : Below w.heap.size w w2 := hb1.trans (hb2.mono hb1.size)
    clear hb2 hs1
    go_wp2_with fail
    refine (specIsSafe_any _ _ _ _ _ hx2 hlen hn (Nat.le_of_not_lt hbigs)).mono ?_
    rintro e w3 ⟨rfl, hb3⟩
    have B3 : Below w.heap.size w w3 := B2.trans (hb3.mono B2.size)
    clear hb3 hx2 B2
    have hs3 := (HW.out.below B3).more B3.size
    go_wp2_with fail
    refine (toSegmentS_any _ _ _ _ hs3 hlen).mono ?_
    rintro e w4 ⟨rfl, hb4, hx4⟩
    have B4 : Below w.heap.size w w4 := B3.trans (hb4.mono B3.size)
    clear hb4 hs3
    go_wp2_with fail
    refine (isSafe_any _ _ _ _ _ hx4 hlen (Nat.le_refl _) (Nat.le_trans hlen (by decide)) hn (Nat.le_of_not_lt hbigs)).mono ?_
    rintro e w5 ⟨rfl, hb5⟩
    have B5 : Below w.heap.size w w5 := B4.trans (hb5.mono B4.size)
    have hx5 := (hx4.below hb5).more hb5.size
    clear hb5 hx4 B4
    have hs5 := (HW.out.below B5).more B5.size
    go_wp2_with fail
    refine (toSegmentS_any _ _ _ _ hs5 hlen).mono ?_
    rintro e w6 ⟨rfl, hb6, hx6⟩
    have B6 : Below w.heap.size w w6 := B5.trans (hb6.mono B5.size)
    have hx7 := (hx5.below hb6).more hb6.size
    clear hb6 hs5 hx5 B5
    go_wp2_with fail
    refine (eqSegmentS_same _ _ _ _ _ _ hx7 hx6 hlen).mono ?_
    rintro e w7 ⟨rfl, hb7⟩
    have B7 : Below w.heap.size w w7 := B6.trans (hb7.mono B6.size)
    clear hb7 hx6 hx7 B6
    go_wp2
    go_ret
    exact ⟨rfl, B7⟩

end Go.Proofs.Ytafpefjjeddmeaa
