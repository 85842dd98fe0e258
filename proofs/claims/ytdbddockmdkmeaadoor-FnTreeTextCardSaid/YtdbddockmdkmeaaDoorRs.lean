/- The program's reader: readSegment. -/
import Derived.Test.YtdbddockmdkmeaaDoorRw
import Derived.Maps.AppendAt
import Derived.Deep.AppendLies
import Derived.Defers
import Derived.Recover
namespace Go.Proofs.YtdbddockmdkmeaaDoor
open Go.RowKit

/-- The cells of a tree. -/
def segCells (l : List Seg) : List Value := l.flatMap fun s => [.string s.name, .int .i64 s.size, .int .i64 s.par]
theorem segCells_snoc (l : List Seg) (s : Seg) : segCells (l ++ [s]) = segCells l ++ [.string s.name, .int .i64 s.size, .int .i64 s.par] := by simp [segCells]
theorem segCells_len (l : List Seg) : (segCells l).length = l.length * 3 := by
  induction l with
  | nil => rfl
  | cons s l ih => simp only [segCells, List.flatMap_cons, List.length_append, List.length_cons, List.length_nil] at ih ⊢; omega
theorem segCells_at {l : List Seg} {k : Nat} {s : Seg} (h : l[k]? = some s) : (segCells l)[k * 3]? = some (.string s.name) ∧ (segCells l)[k * 3 + 1]? = some (.int .i64 s.size) ∧ (segCells l)[k * 3 + 2]? = some (.int .i64 s.par) := by
  induction l generalizing k with
  | nil => simp at h
  | cons x l ih =>
    cases k with
    | zero =>
      simp at h
      subst h
      exact ⟨rfl, rfl, rfl⟩
    | succ k =>
      rw [List.getElem?_cons_succ] at h
      have e : ∀ i, (segCells (x :: l))[i + 3]? = (segCells l)[i]? := fun i => by
        show ([Value.string x.name, .int .i64 x.size, .int .i64 x.par] ++ segCells l)[i + 3]? = _
        rw [List.getElem?_append_right (by simp)]
        simp
      obtain ⟨a, b, c⟩ := ih h
      rw [show (k + 1) * 3 = k * 3 + 3 by omega, show k * 3 + 3 + 1 = k * 3 + 1 + 3 by omega, show k * 3 + 3 + 2 = k * 3 + 2 + 3 by omega, e, e, e]
      exact ⟨a, b, c⟩

/-- A tree of the reader's own: the slice's value, and its cells. -/
def OwnTree (w : World) (B : Nat) (v : Value) (tr : List Seg) : Prop := w.ownsRow B 66 3 v tr.length (segCells tr)
theorem OwnTree.form {w : World} {B : Nat} {v : Value} {tr : List Seg} (h : OwnTree w B v tr) : ∃ A cap, v = .slice A tr.length cap ∧ Segs w w.heap.size A tr := by
  rcases h.2 with ⟨rfl, h0⟩ | ⟨g, cap, cur, rfl, hg, hh, r⟩
  · exact ⟨none, 0, by rw [h0], fun h => absurd h (by omega)⟩
  · refine ⟨_, cap, rfl, fun _ => ⟨g, 0, rfl, (Array.getElem?_eq_some_iff.1 hh).1, fun k s hk => ?_⟩⟩
    obtain ⟨a, b, c⟩ := segCells_at hk
    have hk' := (List.getElem?_eq_some_iff.1 hk).1
    have hz := segCells_len tr
    have ha : ∀ i, i < tr.length * 3 → w.cell? ⟨g, i, none⟩ = (segCells tr)[i]? := fun i hi => World.ownsRow.cellAt h i (by omega)
    simp only [Nat.zero_add]
    rw [ha _ (by omega), ha _ (by omega), ha _ (by omega)]
    exact ⟨a, b, c⟩

theorem OwnTree.far {w w' : World} {B : Nat} {v : Value} {tr : List Seg} (h : OwnTree w B v tr) (hk : ∀ g, v.ownBlock = some g → w'.heap[g]? = w.heap[g]?) : OwnTree w' B v tr := by
  refine ⟨h.1, ?_⟩
  rcases h.2 with h0 | ⟨g', cap, cur, rfl, hg, hh, r⟩
  · exact .inl h0
  · exact .inr ⟨g', cap, cur, rfl, hg, (hk g' rfl).trans hh, r⟩
/-- The reader's block is not the tree's. -/
theorem OwnTree.ne {w : World} {B : Nat} {v : Value} {tr : List Seg} (h : OwnTree w B v tr) {b : Nat} {t : TypeId} {cs : Array Value} (hr : Row w b t cs) (hne : 66 ≠ t) : ∀ g, v.ownBlock = some g → g ≠ b := by
  rintro g hg rfl
  rcases h.2 with ⟨rfl, _⟩ | ⟨g', cap, cur, rfl, _, hh, _⟩
  · simp [Value.ownBlock] at hg
  · have : g' = g := by simpa [Value.ownBlock] using hg
    subst this
    unfold Row at hr
    rw [hh] at hr
    injection hr with hr
    injection hr with _ ht
    exact hne ht
theorem OwnTree.only {w w' : World} {B b : Nat} {v : Value} {tr : List Seg} {t : TypeId} {cs : Array Value} (h : OwnTree w B v tr) (hr : Row w b t cs) (hne : 66 ≠ t) (ho : Only w w' (· = b)) : OwnTree w' B v tr :=
  h.far fun g hg => ho.block g (by
    rcases h.2 with ⟨rfl, _⟩ | ⟨g', cap, cur, rfl, _, hh, _⟩
    · simp [Value.ownBlock] at hg
    · have : g' = g := by simpa [Value.ownBlock] using hg
      subst this
      exact (Array.getElem?_eq_some_iff.1 hh).1) (h.ne hr hne g hg)

/-- What readSegment has done: the text from k on, the tree so far. -/
def SegPost (w : World) (B b : Nat) (t : ByteArray) (r : Option Read) (e : Ending) (w' : World) : Prop :=
  ((∃ (k' : Nat) (tr' : List Seg) (v' : Value), r = some (t.data.toList.drop k', tr') ∧ k' ≤ t.size ∧ e = .returned (.tuple #[]) ∧ Row w' b 62 #[.string t, .int .i64 k', v'] ∧ OwnTree w' B v' tr') ∨ (r = none ∧ Died e)) ∧ Below B w w'

theorem nextB_head {t : ByteArray} {k : Nat} {c : UInt8} (hk : k ≤ t.size) (h : nextB t k c = true) : t.data.toList.drop k = c :: t.data.toList.drop (k + 1) ∧ k < t.size := by
  by_cases hlt : k < t.size
  · refine ⟨?_, hlt⟩
    rw [nextB_at c hlt, decide_eq_true_iff] at h
    rw [List.drop_eq_getElem_cons (by simpa using hlt), ← h]
    rfl
  · rw [nextB_end c (by omega)] at h
    cases h
theorem nextB_other {t : ByteArray} {k : Nat} {c : UInt8} (h : nextB t k c = false) : ∀ d r, t.data.toList.drop k = d :: r → d ≠ c := fun d r hd he => by
  unfold nextB at h
  rw [hd, List.head?_cons, he] at h
  simp at h

/-- What comes behind a name and a size. -/
def iRest (f : Nat) (r2 : List UInt8) (tr : List Seg) (own : Nat) : Option Read := match r2 with
  | [] => some ([], tr)
  | d :: r3 => if d = 40 then (match iSeg f r3 own tr with
    | none => none
    | some (r4, t4) => iKids (fun a b => iSeg f a own b) (r4.length + 1) r4 t4) else some (d :: r3, tr)
/-- What comes behind a first child. -/
def iAfter (f own : Nat) : Option Read → Option Read
  | none => none
  | some (r4, t4) => iKids (fun a b => iSeg f a own b) (r4.length + 1) r4 t4
theorem iRest_open {f : Nat} {r3 : List UInt8} {tr : List Seg} {own : Nat} : iRest f (40 :: r3) tr own = iAfter f own (iSeg f r3 own tr) := by
  unfold iRest
  simp only [if_true]
  cases iSeg f r3 own tr <;> rfl
/-- What comes behind a further one. -/
def iMore (f own g : Nat) : Option Read → Option Read
  | none => none
  | some (r4, t4) => iKids (fun a b => iSeg f a own b) g r4 t4
theorem iSeg_open {f : Nat} {c : UInt8} {r r2 : List UInt8} {p : Int} {tr : List Seg} {n : Nat} (hn : nameOk ⟨#[c]⟩ = true) (ht : takenB tr ⟨#[c]⟩ = false) (hz : iSize r 0 = some (n, r2)) :
    iSeg (f + 1) (c :: r) p tr = iRest f r2 (tr ++ [⟨⟨#[c]⟩, n, p⟩]) tr.length := by
  conv => lhs; unfold iSeg
  simp only [hn, ht, hz, Bool.not_false, Bool.and_self, if_true]
  cases r2 <;> rfl
theorem iSeg_small {f : Nat} {c : UInt8} {r : List UInt8} {p : Int} {tr : List Seg} (hz : iSize r 0 = none) : iSeg (f + 1) (c :: r) p tr = none := by
  conv => lhs; unfold iSeg
  simp only [hz]
  split <;> rfl
theorem iKids_comma {f own g : Nat} {r : List UInt8} {tr : List Seg} : iKids (fun a b => iSeg f a own b) (g + 1) (44 :: r) tr = iMore f own g (iSeg f r own tr) := by
  conv => lhs; unfold iKids
  simp only [if_true]
  cases iSeg f r own tr <;> rfl
theorem iKids_close {iS : List UInt8 → List Seg → Option Read} {g : Nat} {r : List UInt8} {tr : List Seg} : iKids iS (g + 1) (41 :: r) tr = some (r, tr) := by
  conv => lhs; unfold iKids
  simp
theorem iKids_else {iS : List UInt8 → List Seg → Option Read} {g : Nat} {r : List UInt8} {tr : List Seg} (h1 : ∀ d u, r = d :: u → d ≠ 44) (h2 : ∀ d u, r = d :: u → d ≠ 41) : iKids iS (g + 1) r tr = none := by
  unfold iKids
  cases r with
  | nil => rfl
  | cons d u =>
    simp only
    rw [if_neg (h1 d u rfl), if_neg (h2 d u rfl)]

set_option maxRecDepth 100000 in
set_option maxHeartbeats 8000000 in
theorem readSegment_any (B b : Nat) (t : ByteArray) (ht : t.size ≤ 1048576) : ∀ (f k : Nat) (p : Int) (tr : List Seg) (v : Value) (w : World), Fine tr → 10 ≤ f + tr.length → k ≤ t.size → B ≤ b →
    Row w b 62 #[.string t, .int .i64 k, v] → OwnTree w B v tr →
    Calls Tryd.prog 53 #[.pointer (some ⟨b, 0, none⟩), .int .i64 p] w (SegPost w B b t (iSeg f (t.data.toList.drop k) p tr)) := by
  intro f
  induction f with
  | zero => intro k p tr v w hF hl; have := hF.len; omega
  | succ f ih =>
    intro k p tr v w hF hl hk hBb hr hown
    have h8 := hF.len
    obtain ⟨A, cap, rfl, hsegs⟩ := hown.form
    have HR := Lib.hid hr
    have HO := Lib.hid hown
    have HS : Hid (Segs w w.heap.size A tr) := hsegs
    have HF : Hid (Fine tr) := hF
    have IH := Lib.hid ih
    have hbw := hr.lt
    clear hr hown hsegs hF ih
    go_enter Tryd.func53, Tryd.ntmps53
    go_wp2_with fail
    refine (readName_any b t k A tr cap w HR.out HS.out (by omega) hk ht).mono ?_
    rintro e w1 ⟨(⟨c, hd, hlt, hnm, htk, rfl, hr1⟩ | ⟨hno, m, rfl⟩), ho1⟩
    · have HO1 := Lib.hid (HO.out.only HR.out (by decide) ho1)
      have HR1 := Lib.hid hr1
      have HB1 := Lib.hid (Only.below (Below.refl B w) ho1 (by omega) (fun k h1 => by omega))
      have HD := Lib.hid hd
      have HNM := Lib.hid hnm
      have HTK := Lib.hid htk
      clear HO HR HS hr1 ho1 hd hnm htk
      go_wp2_with fail
      refine (readSize_any b t (k + 1) (.slice A tr.length cap) w1 HR1.out (by omega) ht).mono ?_
      rintro e w2 ⟨(⟨n, k2, hz, hk1, hk2, rfl, hr2⟩ | ⟨hz, m, rfl⟩), ho2⟩
      · have HG := Lib.hid (iSeg_open (f := f) (p := p) HNM.out HTK.out hz)
        rw [← HD.out] at HG
        have HF1 : Hid (Fine (tr ++ [⟨⟨#[c]⟩, n, p⟩])) := HF.out.snoc HNM.out HTK.out (((size_both _).1 _ _ hz).2.2.2)
        have hown2 := HO1.out.only HR1.out (by decide) ho2
        have HO2 := Lib.hid hown2
        have HR2 := Lib.hid hr2
        have HB2 := Lib.hid (Only.below HB1.out ho2 (by have := HB1.out.size; omega) (fun k h1 => by omega))
        have hne := hown2.ne hr2 (by decide)
        have HNE := Lib.hid hne
        have c2 : w2.cell? ⟨b, 2, none⟩ = some (.slice A tr.length cap) := hr2.cell 2
        have hbw2 := hr2.lt
        obtain ⟨i0, hi0, hz0, hz1, hz2⟩ := info_parts info_seg
        have I0 := Lib.hid hi0
        have Z0 := Lib.hid hz0
        have Z1 := Lib.hid hz1
        have Z2 := Lib.hid hz2
        clear HO1 HR1 hown2 hr2 ho2 hz hne hi0 hz0 hz1 hz2
        go_wp2_with (at_builtin; go_loud (refine wpList_append_own_at _ rfl _ _ 23 rfl B 66 i0 zeroSeg 3 32 Tryd.underlying23 I0.out Z0.out Z1.out Z2.out rfl (by decide) _ _ _ rfl (HO2.out.far (w' := w2.alloc (.cells #[.string ⟨#[c]⟩, .int .i64 n, .int .i64 p] 66)) (fun g hg => Below.heap_alloc w2 _ g (World.ownsRow.lt HO2.out g hg).2)) ⟨w2.heap.size, 0, none⟩ 1 1 [.string ⟨#[c]⟩, .int .i64 n, .int .i64 p] rfl rfl (World.news_of_block (cs := #[.string ⟨#[c]⟩, .int .i64 n, .int .i64 p]) (t := 66) (fr := (0, 0)) (heap_alloc_new w2 _)) (by simp [Value.oneCell']) (by unfold maxLen; omega) (by omega) (by have := HB2.out.size; simp; omega) ?_); intro v3 w3 hown3 hgrow _ _; obtain ⟨g3, cap3, rfl, hg3, hlt3⟩ := hown3.form (by omega); have hrow3 : Row w3 b 62 #[.string t, .int .i64 k2, .slice A tr.length cap] := (hgrow.block b (by simp; omega) (fun he => HNE.out b he.symm rfl)).trans (HR2.out.alloc _); have d2 : w3.cell? ⟨b, 2, none⟩ = some (.slice A tr.length cap) := hrow3.cell 2; have z2 : w3.frozen? ⟨b, 2, none⟩ = false := hrow3.free 2; have hb3 := Lib.hid hgrow; have HO3 := Lib.hid hown3; have HR3 := Lib.hid hrow3; clear hown3 hgrow hrow3)
        have hT3 : OwnTree w3 B (.slice (some ⟨g3, 0, none⟩) (tr.length + 1) cap3) (tr ++ [⟨⟨#[c]⟩, n, p⟩]) := by
          unfold OwnTree
          rw [segCells_snoc, List.length_append]
          exact HO3.out
        have HT4 := Lib.hid (hT3.far (w' := w3.setCell ⟨b, 2, none⟩ (.slice (some ⟨g3, 0, none⟩) (tr.length + 1) cap3)) (fun g hg => Below.heap_setCell w3 ⟨b, 2, none⟩ _ g (hT3.ne HR3.out (by decide) g hg)))
        have HR4 : Hid (Row (w3.setCell ⟨b, 2, none⟩ (.slice (some ⟨g3, 0, none⟩) (tr.length + 1) cap3)) b 62 #[.string t, .int .i64 k2, .slice (some ⟨g3, 0, none⟩) (tr.length + 1) cap3]) := HR3.out.put 2 _
        have HB4 : Hid (Below B w (w3.setCell ⟨b, 2, none⟩ (.slice (some ⟨g3, 0, none⟩) (tr.length + 1) cap3))) := ((HB2.out.alloc (by have := HB2.out.size; omega) _).grown hb3.out (by have := HB2.out.size; simp; omega) (fun k e => (World.ownsRow.lt HO2.out k e).1)).setCell hBb _
        clear hT3 HO3 HR3 hb3 HO2 HR2 HB2 HNE I0 Z0 Z1 Z2 c2 d2 z2 hg3 hlt3
        generalize w3.setCell ⟨b, 2, none⟩ (.slice (some ⟨g3, 0, none⟩) (tr.length + 1) cap3) = w4 at *
        cases hnx : nextB t k2 40 with
        | false =>
          have HN : Hid (iSeg (f + 1) (t.data.toList.drop k) p tr = some (t.data.toList.drop k2, tr ++ [⟨⟨#[c]⟩, n, p⟩])) := by
            show _ = _
            rw [HG.out]
            unfold iRest
            cases hdr : t.data.toList.drop k2 with
            | nil => rfl
            | cons d r3 => exact if_neg (nextB_other hnx d r3 hdr)
          have HX := Lib.hid (skip_any b t k2 _ 40 w4 HR4.out hk2 ht)
          refine HX.out.mono ?_
          rw [hnx]
          rintro e w5 ⟨rfl, ho5, hr5⟩
          rw [stepB_no hnx] at hr5
          have HT5 := Lib.hid (HT4.out.only HR4.out (by decide) ho5)
          have HR5 := Lib.hid hr5
          have HB5 := Lib.hid (Only.below HB4.out ho5 (by have := HB4.out.size; have := HR4.out.lt; omega) (fun k h1 => by omega))
          clear hr5 ho5 hnx
          go_wp2
          refine bodyPost_ret (results_none rfl _ _ _) rfl ?_
          exact ⟨.inl ⟨k2, _, _, HN.out, hk2, rfl, HR5.out, HT5.out⟩, HB5.out⟩
        | true =>
          obtain ⟨hd2, hlt2⟩ := nextB_head hk2 hnx
          have HG2 : Hid (iSeg (f + 1) (t.data.toList.drop k) p tr = iAfter f tr.length (iSeg f (t.data.toList.drop (k2 + 1)) tr.length (tr ++ [⟨⟨#[c]⟩, n, p⟩]))) := by
            show _ = _
            rw [HG.out, hd2]
            exact iRest_open
          have HX := Lib.hid (skip_any b t k2 _ 40 w4 HR4.out hk2 ht)
          refine HX.out.mono ?_
          rw [hnx]
          rintro e w5 ⟨rfl, ho5, hr5⟩
          rw [stepB_yes hnx] at hr5
          have HT5 := Lib.hid (HT4.out.only HR4.out (by decide) ho5)
          have HR5 := Lib.hid hr5
          have HB5 := Lib.hid (Only.below HB4.out ho5 (by have := HB4.out.size; have := HR4.out.lt; omega) (fun k h1 => by omega))
          have hl1 : 10 ≤ f + (tr ++ [(⟨⟨#[c]⟩, n, p⟩ : Seg)]).length := by simp; omega
          clear hr5 ho5 hnx hd2 HT4 HR4 HB4 HG HX
          go_wp2_with fail
          have HQ := Lib.hid (IH.out (k2 + 1) tr.length (tr ++ [⟨⟨#[c]⟩, n, p⟩]) _ w5 HF1.out hl1 (by omega) hBb HR5.out HT5.out)
          refine Calls.mono HQ.out ?_
          rintro e w6 ⟨(⟨k3, tr3, v3, hi3, hk3, rfl, hr3, ho3⟩ | ⟨hi3, m, rfl⟩), hb6⟩
          · obtain ⟨-, hF3, hp3, hn3⟩ := (seg_both f _ _ _ HF1.out hl1).1 _ _ hi3
            have hl3 : 10 ≤ f + tr3.length := by have := hp3.length_le; omega
            have HG3 : Hid (iSeg (f + 1) (t.data.toList.drop k) p tr = iKids (fun a b => iSeg f a tr.length b) (t.size - k3 + 1) (t.data.toList.drop k3) tr3) := by
              show _ = _
              rw [HG2.out, hi3]
              show iKids _ _ _ _ = _
              rw [List.length_drop]
              rfl
            have HF3 : Hid (Fine tr3) := hF3
            have HR6 := Lib.hid hr3
            have HT6 := Lib.hid ho3
            have HB6 := Lib.hid (HB5.out.trans hb6)
            clear hF3 hp3 hn3 hi3 hr3 ho3 hb6 HQ HT5 HR5 HB5 HG2
            go_wp2
            go_loopw [36] (fun _ wr => ∃ (k4 g : Nat) (tr4 : List Seg) (v4 : Value), k4 ≤ t.size ∧ t.size < k4 + g ∧ 10 ≤ f + tr4.length ∧ Hid (iSeg (f + 1) (t.data.toList.drop k) p tr = iKids (fun a b => iSeg f a tr.length b) g (t.data.toList.drop k4) tr4) ∧
                Hid (Fine tr4) ∧ Hid (Row wr b 62 #[.string t, .int .i64 k4, v4]) ∧ Hid (OwnTree wr B v4 tr4) ∧ Hid (Below B w wr) ∧ wr.cell? ⟨b, 1, none⟩ = some (.int .i64 k4))
              (fun _ wr => leftAt t b wr)
            case atStart => exact ⟨k3, t.size - k3 + 1, tr3, v3, hk3, by omega, hl3, HG3, HF3, HR6, HT6, HB6, HR6.out.cell 1⟩
            case round =>
              obtain ⟨k4, g, tr4, v4, hk4, hg, hl4, HI, HF4, HR, HT, HB, c1⟩ := hrel
              have LM := Lib.hid (leftAt_of (t := t) c1)
              clear c1 HG3 HF3 HR6 HT6 HB6
              cases hn44 : nextB t k4 44 with
              | true =>
                obtain ⟨hd4, hlt4⟩ := nextB_head hk4 hn44
                obtain ⟨g', rfl⟩ : ∃ g', g = g' + 1 := ⟨g - 1, by omega⟩
                have HI4 : Hid (iSeg (f + 1) (t.data.toList.drop k) p tr = iMore f tr.length g' (iSeg f (t.data.toList.drop (k4 + 1)) tr.length tr4)) := by
                  show _ = _
                  rw [HI.out, hd4]
                  exact iKids_comma
                have HX := Lib.hid (skip_any b t k4 _ 44 wr HR.out hk4 ht)
                clear hd4 HI
                go_wp2_with fail
                refine Calls.mono HX.out ?_
                rw [hn44]
                rintro e w7 ⟨rfl, ho7, hr7⟩
                rw [stepB_yes hn44] at hr7
                have HT7 := Lib.hid (HT.out.only HR.out (by decide) ho7)
                have HR7 := Lib.hid hr7
                have HB7 := Lib.hid (Only.below HB.out ho7 (by have := HB.out.size; have := HR.out.lt; omega) (fun k h1 => by omega))
                clear hr7 ho7 hn44 HT HR HB HX
                go_wp2_with fail
                have HQ := Lib.hid (IH.out (k4 + 1) tr.length tr4 _ w7 HF4.out hl4 (by omega) hBb HR7.out HT7.out)
                refine Calls.mono HQ.out ?_
                rintro e w8 ⟨(⟨k5, tr5, v5, hi5, hk5, rfl, hr5, ho5⟩ | ⟨hi5, m, rfl⟩), hb8⟩
                · obtain ⟨-, hF5, hp5, hn5⟩ := (seg_both f _ _ _ HF4.out hl4).1 _ _ hi5
                  have hl5 : 10 ≤ f + tr5.length := by have := hp5.length_le; omega
                  rw [List.length_drop, List.length_drop] at hn5
                  have hsz : t.data.toList.length = t.size := by simp
                  rw [hsz] at hn5
                  have hk45 : k4 < k5 := by omega
                  have HI5 : Hid (iSeg (f + 1) (t.data.toList.drop k) p tr = iKids (fun a b => iSeg f a tr.length b) g' (t.data.toList.drop k5) tr5) := by
                    show _ = _
                    rw [HI4.out, hi5]
                    rfl
                  have HF5 : Hid (Fine tr5) := hF5
                  have HR8 := Lib.hid hr5
                  have HT8 := Lib.hid ho5
                  have HB8 := Lib.hid (HB7.out.trans hb8)
                  clear hF5 hp5 hn5 hi5 hr5 ho5 hb8 HQ HT7 HR7 HB7 HI4 hsz
                  go_wp2
                  go_roundw
                  case rel => exact ⟨k5, g', tr5, v5, hk5, by omega, hl5, HI5, HF5, HR8, HT8, HB8, HR8.out.cell 1⟩
                  case measure =>
                    rw [LM.out, leftAt_of (k := k5) (HR8.out.cell 1)]
                    omega
                · have HN : Hid (iSeg (f + 1) (t.data.toList.drop k) p tr = none) := by
                    show _ = _
                    rw [HI4.out, hi5]
                    rfl
                  have HB8 := Lib.hid (HB7.out.trans hb8)
                  go_wp2
                  exact ⟨rfl, .inr ⟨HN.out, _, rfl⟩, HB8.out⟩
              | false =>
                have HX := Lib.hid (skip_any b t k4 _ 44 wr HR.out hk4 ht)
                have HO4 := Lib.hid (nextB_other hn44)
                go_wp2_with fail
                refine Calls.mono HX.out ?_
                rw [hn44]
                rintro e w7 ⟨rfl, ho7, hr7⟩
                rw [stepB_no hn44] at hr7
                have HT7 := Lib.hid (HT.out.only HR.out (by decide) ho7)
                have HR7 := Lib.hid hr7
                have HB7 := Lib.hid (Only.below HB.out ho7 (by have := HB.out.size; have := HR.out.lt; omega) (fun k h1 => by omega))
                clear hr7 ho7 hn44 HT HR HB HX
                go_wp2_with fail
                have HX := Lib.hid (skip_any b t k4 _ 41 w7 HR7.out hk4 ht)
                refine Calls.mono HX.out ?_
                cases hn41 : nextB t k4 41 with
                | true =>
                  obtain ⟨hd4, hlt4⟩ := nextB_head hk4 hn41
                  obtain ⟨g', rfl⟩ : ∃ g', g = g' + 1 := ⟨g - 1, by omega⟩
                  have HN : Hid (iSeg (f + 1) (t.data.toList.drop k) p tr = some (t.data.toList.drop (k4 + 1), tr4)) := by
                    show _ = _
                    rw [HI.out, hd4]
                    exact iKids_close
                  rintro e w8 ⟨rfl, ho8, hr8⟩
                  rw [stepB_yes hn41] at hr8
                  have HT8 := Lib.hid (HT7.out.only HR7.out (by decide) ho8)
                  have HR8 := Lib.hid hr8
                  have HB8 := Lib.hid (Only.below HB7.out ho8 (by have := HB7.out.size; have := HR7.out.lt; omega) (fun k h1 => by omega))
                  clear hr8 ho8 hn41 hd4
                  go_wp2
                  go_end0
                  exact ⟨.inl ⟨k4 + 1, _, _, HN.out, by omega, rfl, HR8.out, HT8.out⟩, HB8.out⟩
                | false =>
                  obtain ⟨g', rfl⟩ : ∃ g', g = g' + 1 := ⟨g - 1, by omega⟩
                  have HN : Hid (iSeg (f + 1) (t.data.toList.drop k) p tr = none) := by
                    show _ = _
                    rw [HI.out]
                    exact iKids_else HO4.out (nextB_other hn41)
                  rintro e w8 ⟨rfl, ho8, hr8⟩
                  have HB8 := Lib.hid (Only.below HB7.out ho8 (by have := HB7.out.size; have := HR7.out.lt; omega) (fun k h1 => by omega))
                  clear hr8 ho8 hn41
                  go_wp2
                  exact ⟨rfl, .inr ⟨HN.out, _, rfl⟩, HB8.out⟩
          · have HN : Hid (iSeg (f + 1) (t.data.toList.drop k) p tr = none) := by
              show _ = _
              rw [HG2.out, hi3]
              rfl
            have HB6 := Lib.hid (HB5.out.trans hb6)
            go_wp2
            exact ⟨rfl, .inr ⟨HN.out, _, rfl⟩, HB6.out⟩
      · have HN : Hid (iSeg (f + 1) (t.data.toList.drop k) p tr = none) := by
          show _ = _
          rw [HD.out]
          exact iSeg_small hz
        have HB := Lib.hid (Only.below HB1.out ho2 (by have := HB1.out.size; omega) (fun k h1 => by omega))
        go_wp2
        exact ⟨rfl, .inr ⟨HN.out, _, rfl⟩, HB.out⟩
    · have HN : Hid (iSeg (f + 1) (t.data.toList.drop k) p tr = none) := by
        show _ = _
        cases hd : t.data.toList.drop k with
        | nil => rfl
        | cons c r =>
          unfold iSeg
          rw [if_neg (by rw [hno c r hd]; decide)]
      have HB := Lib.hid (Only.below (Below.refl B w) ho1 (by omega) (fun k h1 => by omega))
      go_wp2
      exact ⟨rfl, .inr ⟨HN.out, _, rfl⟩, HB.out⟩

end Go.Proofs.YtdbddockmdkmeaaDoor

/- The program's ParseTree: it recovers. -/
namespace Go.Proofs.YtdbddockmdkmeaaDoor
open Go.RowKit

/-- The deferred closure where nothing has panicked: it turns nothing. -/
theorem catch_idle (p q : Addr) (w : World) :
    CallsD Tryd.prog 52 #[.pointer (some p), .pointer (some q)] .returning w fun e u' w' => e = .returned (.tuple #[]) ∧ u' = .returning ∧ w = w' := by
  refine callsD_of_wpS Tryd.func52 rfl fun c₀ cs hu => ?_
  apply wpS_seq
  apply wpS_region
  simp [wpOpsS, go_sem, recoverD, hu, Tryd.ntmps52, Exit.thenS]
  refine wpS_cond (t := false) (by simp [Act.eval, Array.replicate]) ?_
  simp only [Bool.false_eq_true, if_false]
  refine wpS_of_wp (wp_skip ?_)
  cases c₀
  simp_all [bodyPostS, results, Tryd.results52]

/-- The deferred closure where the reader has given up: no tree, false. -/
theorem catch_panicking (a : Nat) (x : Value) (y : Bool) (m : ByteArray) (w : World) (hp : Row w a 23 #[x]) (hx : ∃ A n c, x = .slice A n c) (hq : Row w (a + 1) 4 #[.bool y]) :
    CallsD Tryd.prog 52 #[.pointer (some ⟨a, 0, none⟩), .pointer (some ⟨a + 1, 0, none⟩)] (.panicking [{ v := .iface 9 (.string m), recovered := false }]) w fun e u' w' =>
      e = .returned (.tuple #[]) ∧ u' = .panicking [{ v := .iface 9 (.string m), recovered := true }] ∧ w' = (w.setCell ⟨a, 0, none⟩ (.slice none 0 0)).setCell ⟨a + 1, 0, none⟩ (.bool false) := by
  obtain ⟨A, n, c, rfl⟩ := hx
  have p0 : w.cell? ⟨a, 0, none⟩ = some (.slice A n c) := hp.cell 0
  have pz : w.frozen? ⟨a, 0, none⟩ = false := hp.free 0
  have hq1 : Row (w.setCell ⟨a, 0, none⟩ (.slice none 0 0)) (a + 1) 4 #[.bool y] := hq.far (p := ⟨a, 0, none⟩) (show a + 1 ≠ a by omega) _
  have q0 : (w.setCell ⟨a, 0, none⟩ (.slice none 0 0)).cell? ⟨a + 1, 0, none⟩ = some (.bool y) := hq1.cell 0
  have qz : (w.setCell ⟨a, 0, none⟩ (.slice none 0 0)).frozen? ⟨a + 1, 0, none⟩ = false := hq1.free 0
  refine callsD_of_wpS Tryd.func52 rfl fun c₀ cs hu => ?_
  apply wpS_seq
  apply wpS_region
  simp [wpOpsS, go_sem, recoverD, hu, Tryd.ntmps52, Exit.thenS]
  refine wpS_cond (t := true) (by simp [Act.eval, Array.replicate]) ?_
  simp only [if_true]
  apply wpS_region
  simp [wpOpsS, go_sem, p0, pz, q0, qz, bodyPostS, results, Tryd.results52]

end Go.Proofs.YtdbddockmdkmeaaDoor

/- The program's ParseTree by its contract. -/
namespace Go.Proofs.YtdbddockmdkmeaaDoor
open Go.RowKit

/-- What ParseTree has done: the text's tree, of the call's own. -/
def ParsePost (w : World) (t : ByteArray) (e : Ending) (w' : World) : Prop :=
  ∃ v, e = .returned (.tuple #[v, .bool (parsed t.data.toList).isSome]) ∧ OwnTree w' w.heap.size v ((parsed t.data.toList).getD []) ∧ Below w.heap.size w w'

theorem parsed_at {t : ByteArray} {k : Nat} {tr : List Seg} (hk : k ≤ t.size) (h : iSeg 10 t.data.toList (-1) [] = some (t.data.toList.drop k, tr)) : parsed t.data.toList = if k = t.size then some tr else none := by
  unfold parsed
  rw [h]
  by_cases e : k = t.size
  · rw [if_pos e, List.drop_of_length_le (by simp; omega)]
  · rw [if_neg e, List.drop_eq_getElem_cons (by simp; omega)]

theorem OwnTree.base {w : World} {B B' : Nat} {v : Value} {tr : List Seg} (h : OwnTree w B v tr) (hB : B' ≤ B) : OwnTree w B' v tr := by
  refine ⟨h.1, ?_⟩
  rcases h.2 with h0 | ⟨g', cap, cur, rfl, hg, hh, r⟩
  · exact .inl h0
  · exact .inr ⟨g', cap, cur, rfl, Nat.le_trans hB hg, hh, r⟩

/-- Where the reader has given up: what the deferred closure leaves. -/
theorem parse_died (t : ByteArray) (w w1 : World) (m : ByteArray) (x : Value) (hx : ∃ A n c, x = .slice A n c) (y : Bool) (hp : parsed t.data.toList = none) (hb : Below w.heap.size w w1) (h1 : Row w1 w.heap.size 23 #[x]) (h2 : Row w1 (w.heap.size + 1) 4 #[.bool y]) (tmps : Array Value)
    (ht2 : tmps[2]?.getD undef = .pointer (some ⟨w.heap.size, 0, none⟩)) (ht3 : tmps[3]?.getD undef = .pointer (some ⟨w.heap.size + 1, 0, none⟩)) :
    bodyPostD Tryd.prog Tryd.f12 (ParsePost w t) (Exit.panic [{ v := .iface 9 (.string m), recovered := false }]) { tmps := tmps, defers := [{ target := Target.fn (Fn.func 52) #[.pointer (some ⟨w.heap.size, 0, none⟩), .pointer (some ⟨w.heap.size + 1, 0, none⟩)], args := #[] }] } w1 := by
  refine leaves_cons (f := 52) (args := #[.pointer (some ⟨w.heap.size, 0, none⟩), .pointer (some ⟨w.heap.size + 1, 0, none⟩)]) (by simp) (by simp [go_sem]) ?_
  refine (catch_panicking w.heap.size x y m w1 h1 hx h2).mono ?_
  rintro e u' w'' ⟨rfl, rfl, rfl⟩
  have r1 : Row ((w1.setCell ⟨w.heap.size, 0, none⟩ (.slice none 0 0)).setCell ⟨w.heap.size + 1, 0, none⟩ (.bool false)) w.heap.size 23 #[.slice none 0 0] := (h1.put 0 _).far (p := ⟨w.heap.size + 1, 0, none⟩) (show w.heap.size ≠ w.heap.size + 1 by omega) _
  have r2 : Row ((w1.setCell ⟨w.heap.size, 0, none⟩ (.slice none 0 0)).setCell ⟨w.heap.size + 1, 0, none⟩ (.bool false)) (w.heap.size + 1) 4 #[.bool false] := (h2.far (p := ⟨w.heap.size, 0, none⟩) (show w.heap.size + 1 ≠ w.heap.size by omega) _).put 0 _
  have hb2 : Below w.heap.size w ((w1.setCell ⟨w.heap.size, 0, none⟩ (.slice none 0 0)).setCell ⟨w.heap.size + 1, 0, none⟩ (.bool false)) := (hb.setCell (Nat.le_refl _) _).setCell (by simp) _
  generalize (w1.setCell ⟨w.heap.size, 0, none⟩ (.slice none 0 0)).setCell ⟨w.heap.size + 1, 0, none⟩ (.bool false) = W3 at *
  have e1 : W3.cell? ⟨w.heap.size, 0, none⟩ = some (.slice none 0 0) := r1.cell 0
  have e2 : W3.cell? ⟨w.heap.size + 1, 0, none⟩ = some (.bool false) := r2.cell 0
  have HP : ParsePost w t (.returned (.tuple #[.slice none 0 0, .bool false])) W3 := ⟨_, by rw [hp]; rfl, by rw [hp]; exact World.ownsRow_nil _ _ _ _, hb2⟩
  simp [Leaves, settle, results, Tryd.results12, go_sem, e1, e2, ht2, ht3]
  exact HP

set_option maxRecDepth 100000 in
set_option maxHeartbeats 4000000 in
theorem parseTree_any (t : ByteArray) (w : World) (ht : t.size ≤ 1048576) :
    Calls Tryd.prog 12 #[.string t] w (ParsePost w t) := by
  have hmf : ∀ (fn : Fn) (first cap : Array Value) (w : World), (Instr.makeFunc fn first cap).run Tryd.prog w = .ok (.func fn first cap) w := fun _ _ _ _ => rfl
  have hW : Below w.heap.size w (((w.alloc (.cells #[.slice none 0 0] 23)).alloc (.cells #[.bool false] 4)).alloc (.cells #[.string t, .int .i64 0, .slice none 0 0] 62)) := (((Below.refl _ w).alloc (Nat.le_refl _) _).alloc (by simp) _).alloc (by simp; omega) _
  have hr1 : Row (((w.alloc (.cells #[.slice none 0 0] 23)).alloc (.cells #[.bool false] 4)).alloc (.cells #[.string t, .int .i64 0, .slice none 0 0] 62)) w.heap.size 23 #[.slice none 0 0] := ((Row.new _ _ _).alloc _).alloc _
  have hr2 : Row (((w.alloc (.cells #[.slice none 0 0] 23)).alloc (.cells #[.bool false] 4)).alloc (.cells #[.string t, .int .i64 0, .slice none 0 0] 62)) (w.heap.size + 1) 4 #[.bool false] := by
    have := (Row.new (w.alloc (.cells #[.slice none 0 0] 23)) 4 #[.bool false]).alloc (.cells #[.string t, .int .i64 0, .slice none 0 0] 62)
    rw [World.size_alloc] at this
    exact this
  have hr3 : Row (((w.alloc (.cells #[.slice none 0 0] 23)).alloc (.cells #[.bool false] 4)).alloc (.cells #[.string t, .int .i64 0, .slice none 0 0] 62)) (w.heap.size + 1 + 1) 62 #[.string t, .int .i64 (0 : Nat), .slice none 0 0] := by
    have := Row.new ((w.alloc (.cells #[.slice none 0 0] 23)).alloc (.cells #[.bool false] 4)) 62 #[.string t, .int .i64 0, .slice none 0 0]
    rw [World.size_alloc, World.size_alloc] at this
    exact this
  have HW := Lib.hid hW
  have HR1 := Lib.hid hr1
  have HR2 := Lib.hid hr2
  have HR3 := Lib.hid hr3
  clear hW hr1 hr2 hr3
  go_enter_defers Tryd.func12, Tryd.ntmps12
  go_wp2_with fail
  generalize (((w.alloc (.cells #[.slice none 0 0] 23)).alloc (.cells #[.bool false] 4)).alloc (.cells #[.string t, .int .i64 0, .slice none 0 0] 62)) = W1 at *
  have HQ := Lib.hid (readSegment_any (w.heap.size + 1 + 1) (w.heap.size + 1 + 1) t ht 10 0 (-1) [] (.slice none 0 0) W1 (fun j hj => absurd hj (by simp)) (by simp) (Nat.zero_le _) (Nat.le_refl _) HR3.out (World.ownsRow_nil _ _ _ _))
  refine Calls.mono HQ.out ?_
  rintro e w1 ⟨(⟨k', tr', v', hi, hk, rfl, hr, ho⟩ | ⟨hi, m, rfl⟩), hb⟩
  · rw [List.drop_zero] at hi
    have HP := Lib.hid (parsed_at hk hi)
    obtain ⟨A, cap, rfl, -⟩ := ho.form
    have HB := Lib.hid (HW.out.trans (hb.mono (by omega)))
    have HX1 := Lib.hid (HR1.out.below hb (by omega))
    have HX2 := Lib.hid (HR2.out.below hb (by omega))
    have HR := Lib.hid hr
    have HO := Lib.hid ho
    clear hi hb hr ho HQ HW HR1 HR2 HR3
    go_wp2_with fail
    refine (expectEnd_any (w.heap.size + 1 + 1) t k' (.slice A tr'.length cap) w1 HR.out).mono ?_
    rintro e w2 ⟨(⟨hend, rfl⟩ | ⟨hne, m, rfl⟩), ho2⟩
    · have HP1 : Hid (parsed t.data.toList = some tr') := by
        show _ = _
        rw [HP.out, if_pos hend]
      have hX1 := ho2.row HX1.out (fun h => h)
      have hX2 := ho2.row HX2.out (fun h => h)
      have hR2 := ho2.row HR.out (fun h => h)
      have HO2 := Lib.hid (HO.out.far (w' := w2) (fun g hg => ho2.block g (World.ownsRow.lt HO.out g hg).2 (fun h => h)))
      have HB2 := Lib.hid (Only.below HB.out ho2 (by have := HB.out.size; omega) (fun _ _ h => h))
      have c2 : w2.cell? ⟨w.heap.size + 1 + 1, 2, none⟩ = some (.slice A tr'.length cap) := hR2.cell 2
      have d1 : w2.cell? ⟨w.heap.size, 0, none⟩ = some (.slice none 0 0) := hX1.cell 0
      have z1 : w2.frozen? ⟨w.heap.size, 0, none⟩ = false := hX1.free 0
      have d2 : w2.cell? ⟨w.heap.size + 1, 0, none⟩ = some (.bool false) := hX2.cell 0
      have z2 : w2.frozen? ⟨w.heap.size + 1, 0, none⟩ = false := hX2.free 0
      have HX1' := Lib.hid hX1
      have HX2' := Lib.hid hX2
      clear hX1 hX2 hR2 ho2 hend HP HB HX1 HX2 HR HO
      go_wp2
      refine leaves_cons (f := 52) (args := #[.pointer (some ⟨w.heap.size, 0, none⟩), .pointer (some ⟨w.heap.size + 1, 0, none⟩)]) (by simp) (by simp [go_sem]) ?_
      refine (catch_idle ⟨w.heap.size, 0, none⟩ ⟨w.heap.size + 1, 0, none⟩ _).mono ?_
      rintro e u' w'' ⟨rfl, rfl, rfl⟩
      have r1 : Row ((w2.setCell ⟨w.heap.size, 0, none⟩ (.slice A tr'.length cap)).setCell ⟨w.heap.size + 1, 0, none⟩ (.bool true)) w.heap.size 23 #[.slice A tr'.length cap] := (HX1'.out.put 0 _).far (p := ⟨w.heap.size + 1, 0, none⟩) (show w.heap.size ≠ w.heap.size + 1 by omega) _
      have r2 : Row ((w2.setCell ⟨w.heap.size, 0, none⟩ (.slice A tr'.length cap)).setCell ⟨w.heap.size + 1, 0, none⟩ (.bool true)) (w.heap.size + 1) 4 #[.bool true] := (HX2'.out.far (p := ⟨w.heap.size, 0, none⟩) (show w.heap.size + 1 ≠ w.heap.size by omega) _).put 0 _
      have hb2 : Below w.heap.size w ((w2.setCell ⟨w.heap.size, 0, none⟩ (.slice A tr'.length cap)).setCell ⟨w.heap.size + 1, 0, none⟩ (.bool true)) := (HB2.out.setCell (Nat.le_refl _) _).setCell (by simp) _
      have hT : OwnTree ((w2.setCell ⟨w.heap.size, 0, none⟩ (.slice A tr'.length cap)).setCell ⟨w.heap.size + 1, 0, none⟩ (.bool true)) w.heap.size (.slice A tr'.length cap) tr' :=
        (HO2.out.far fun g hg => (Below.heap_setCell _ ⟨w.heap.size + 1, 0, none⟩ _ g (by have := (World.ownsRow.lt HO2.out g hg).1; show g ≠ w.heap.size + 1; omega)).trans (Below.heap_setCell w2 ⟨w.heap.size, 0, none⟩ _ g (by have := (World.ownsRow.lt HO2.out g hg).1; show g ≠ w.heap.size; omega))).base (by omega)
      have HPP : ∀ W3 : World, OwnTree W3 w.heap.size (.slice A tr'.length cap) tr' → Below w.heap.size w W3 → ParsePost w t (.returned (.tuple #[.slice A tr'.length cap, .bool true])) W3 := fun W3 h1 h2 => ⟨_, by rw [HP1.out]; rfl, by rw [HP1.out]; exact h1, h2⟩
      have HPQ := Lib.hid (HPP _ hT hb2)
      clear hT hb2 HPP
      generalize (w2.setCell ⟨w.heap.size, 0, none⟩ (.slice A tr'.length cap)).setCell ⟨w.heap.size + 1, 0, none⟩ (.bool true) = W3 at *
      have e1 : W3.cell? ⟨w.heap.size, 0, none⟩ = some (.slice A tr'.length cap) := r1.cell 0
      have e2 : W3.cell? ⟨w.heap.size + 1, 0, none⟩ = some (.bool true) := r2.cell 0
      simp [Leaves, settle, results, Tryd.results12, go_sem, e1, e2]
      exact HPQ.out
    · have hp : parsed t.data.toList = none := by rw [HP.out, if_neg hne]
      have hX1 := ho2.row HX1.out (fun h => h)
      have hX2 := ho2.row HX2.out (fun h => h)
      have hB2 := Only.below HB.out ho2 (by have := HB.out.size; omega) (fun _ _ h => h)
      have HD := Lib.hid (fun tmps h2 h3 => parse_died t w w2 m _ ⟨_, _, _, rfl⟩ _ hp hB2 hX1 hX2 tmps h2 h3)
      clear hp hX1 hX2 hB2 ho2 hne
      go_wp2
      exact HD.out _ rfl rfl
  · have hp : parsed t.data.toList = none := by
      rw [List.drop_zero] at hi
      unfold parsed
      rw [hi]
    have hB2 := HW.out.trans (hb.mono (by omega))
    have hX1 := HR1.out.below hb (by omega)
    have hX2 := HR2.out.below hb (by omega)
    have HD := Lib.hid (fun tmps h2 h3 => parse_died t w w1 m _ ⟨_, _, _, rfl⟩ _ hp hB2 hX1 hX2 tmps h2 h3)
    clear hp hX1 hX2 hB2 hb hi HQ
    go_wp2
    exact HD.out _ rfl rfl

end Go.Proofs.YtdbddockmdkmeaaDoor
