/- The program's readTrace by its contract. -/
import Derived.Test.YtadichddgpojpaaDoorFe
import Derived.Test.YtadichddgpojpaaDoorVa
namespace Go.Proofs.YtadichddgpojpaaDoor
open Go.RowKit

/-- What readTrace has done. -/
def TracePost (w : World) (R : Option Forest) (e : Ending) (w' : World) : Prop :=
  ∃ v, e = .returned (.tuple #[v, .bool R.isSome]) ∧ ((∃ f, R = some f ∧ SliceIs w' (fun q => w.heap.size ≤ q ∧ q < w'.heap.size) v f) ∨ (R = none ∧ v = .slice none 0 0)) ∧ Below w.heap.size w w'

theorem Nodes.known {w : World} {B g b : Nat} {l : List Seg} {nb : Nat → Nat} {cv : Nat → Value} (h : Nodes w B g l.length l.length l nb cv) (hb : w.heap.size ≤ b) : Known w b g l nb := by
  obtain ⟨cs, hrow, _, hci⟩ := h.row
  refine ⟨Nat.lt_of_lt_of_le hrow.lt hb, fun i x hx => ?_⟩
  have hi := (List.getElem?_eq_some_iff.1 hx).1
  have hn := h.node i x hi hx
  exact ⟨Nat.lt_of_lt_of_le hn.lt hb, by rw [hrow.cell]; exact hci i hi, hn.cell 0⟩

/-- Where the reader has given up: what the deferred closure leaves. -/
theorem trace_died (R : Option Forest) (w w1 : World) (m : ByteArray) (x : Value) (hx : ∃ A n c, x = .slice A n c) (y : Bool) (hp : R = none) (hb : Below w.heap.size w w1) (h1 : Row w1 w.heap.size 49 #[x]) (h2 : Row w1 (w.heap.size + 1) 4 #[.bool y]) (tmps : Array Value)
    (ht2 : tmps[4]?.getD undef = .pointer (some ⟨w.heap.size, 0, none⟩)) (ht3 : tmps[5]?.getD undef = .pointer (some ⟨w.heap.size + 1, 0, none⟩)) :
    bodyPostD Tryd.prog Tryd.f21 (TracePost w R) (Exit.panic [{ v := .iface 9 (.string m), recovered := false }]) { tmps := tmps, defers := [{ target := Target.fn (Fn.func 31) #[.pointer (some ⟨w.heap.size, 0, none⟩), .pointer (some ⟨w.heap.size + 1, 0, none⟩)], args := #[] }] } w1 := by
  refine leaves_cons (f := 31) (args := #[.pointer (some ⟨w.heap.size, 0, none⟩), .pointer (some ⟨w.heap.size + 1, 0, none⟩)]) (by simp) (by simp [go_sem]) ?_
  refine (traceCatch_panicking w.heap.size x y m w1 h1 hx h2).mono ?_
  rintro e u' w'' ⟨rfl, rfl, rfl⟩
  have r1 : Row ((w1.setCell ⟨w.heap.size, 0, none⟩ (.slice none 0 0)).setCell ⟨w.heap.size + 1, 0, none⟩ (.bool false)) w.heap.size 49 #[.slice none 0 0] := (h1.put 0 _).far (p := ⟨w.heap.size + 1, 0, none⟩) (show w.heap.size ≠ w.heap.size + 1 by omega) _
  have r2 : Row ((w1.setCell ⟨w.heap.size, 0, none⟩ (.slice none 0 0)).setCell ⟨w.heap.size + 1, 0, none⟩ (.bool false)) (w.heap.size + 1) 4 #[.bool false] := (h2.far (p := ⟨w.heap.size, 0, none⟩) (show w.heap.size + 1 ≠ w.heap.size by omega) _).put 0 _
  have hb2 : Below w.heap.size w ((w1.setCell ⟨w.heap.size, 0, none⟩ (.slice none 0 0)).setCell ⟨w.heap.size + 1, 0, none⟩ (.bool false)) := (hb.setCell (Nat.le_refl _) _).setCell (by simp) _
  generalize (w1.setCell ⟨w.heap.size, 0, none⟩ (.slice none 0 0)).setCell ⟨w.heap.size + 1, 0, none⟩ (.bool false) = W3 at *
  have e1 : W3.cell? ⟨w.heap.size, 0, none⟩ = some (.slice none 0 0) := r1.cell 0
  have e2 : W3.cell? ⟨w.heap.size + 1, 0, none⟩ = some (.bool false) := r2.cell 0
  have HP : TracePost w R (.returned (.tuple #[.slice none 0 0, .bool false])) W3 := ⟨_, by rw [hp]; rfl, .inr ⟨hp, rfl⟩, hb2⟩
  simp [Leaves, settle, results, Tryd.results21, go_sem, e1, e2, ht2, ht3]
  exact HP

/-- The world behind the two results' cells. -/
def WtwoF (w : World) : World := (w.alloc (.cells #[.slice none 0 0] 49)).alloc (.cells #[.bool false] 4)
theorem WtwoF_below (w : World) : Below w.heap.size w (WtwoF w) := ((Below.refl _ w).alloc (Nat.le_refl _) _).alloc (by simp) _
theorem WtwoF_size (w : World) : (WtwoF w).heap.size = w.heap.size + 2 := by simp [WtwoF]
theorem WtwoF_one (w : World) : Row (WtwoF w) w.heap.size 49 #[.slice none 0 0] := (Row.new _ _ _).alloc _
theorem WtwoF_two (w : World) : Row (WtwoF w) (w.heap.size + 1) 4 #[.bool false] := by
  have := Row.new (w.alloc (.cells #[.slice none 0 0] 49)) 4 #[.bool false]
  rw [World.size_alloc] at this
  exact this

/-- No calls, false. -/
theorem trace_none (w w1 : World) (hb : Below w.heap.size w w1) (h1 : Row w1 w.heap.size 49 #[.slice none 0 0]) (h2 : Row w1 (w.heap.size + 1) 4 #[.bool false]) :
    let W := (w1.setCell ⟨w.heap.size, 0, none⟩ (.slice none 0 0)).setCell ⟨w.heap.size + 1, 0, none⟩ (.bool false)
    W.cell? ⟨w.heap.size, 0, none⟩ = some (.slice none 0 0) ∧ W.cell? ⟨w.heap.size + 1, 0, none⟩ = some (.bool false) ∧ TracePost w none (.returned (.tuple #[.slice none 0 0, .bool false])) W := by
  have r1 : Row ((w1.setCell ⟨w.heap.size, 0, none⟩ (.slice none 0 0)).setCell ⟨w.heap.size + 1, 0, none⟩ (.bool false)) w.heap.size 49 #[.slice none 0 0] := (h1.put 0 _).far (p := ⟨w.heap.size + 1, 0, none⟩) (show w.heap.size ≠ w.heap.size + 1 by omega) _
  have r2 : Row ((w1.setCell ⟨w.heap.size, 0, none⟩ (.slice none 0 0)).setCell ⟨w.heap.size + 1, 0, none⟩ (.bool false)) (w.heap.size + 1) 4 #[.bool false] := (h2.far (p := ⟨w.heap.size, 0, none⟩) (show w.heap.size + 1 ≠ w.heap.size by omega) _).put 0 _
  exact ⟨r1.cell 0, r2.cell 0, _, rfl, .inr ⟨rfl, rfl⟩, (hb.setCell (Nat.le_refl _) _).setCell (by simp) _⟩

set_option maxRecDepth 100000 in
set_option maxHeartbeats 4000000 in
theorem readTrace_bad (A : Option Addr) (l : List Seg) (c : Nat) (t : ByteArray) (w : World) (hw : Segs w w.heap.size A l) (hl : l.length ≤ 1048576) (hlc : l.length ≤ c) (hcm : c ≤ 9223372036854775807) (hn : Short l) (ht : t.size ≤ 1048576)
    (hv : (validB l && decide (t.size ≤ 80)) = false) :
    Calls Tryd.prog 21 #[.slice A l.length c, .string t] w (TracePost w none) := by
  have hnil := fun (W : World) (a : Option Addr) (n c : Nat) => Lib.run_eql_slice_nil (P := Tryd.prog) W 46 37 a n c 0 0 Tryd.underlying46
  have HW : Hid (Segs (WtwoF w) (WtwoF w).heap.size A l) := (hw.below (WtwoF_below w)).more (WtwoF_below w).size
  have HB : Hid (Below w.heap.size w (WtwoF w)) := WtwoF_below w
  have HR1 := Lib.hid (WtwoF_one w)
  have HR2 := Lib.hid (WtwoF_two w)
  have HWE : Hid (WtwoF w = (w.alloc (.cells #[.slice none 0 0] 49)).alloc (.cells #[.bool false] 4)) := rfl
  clear hw
  cases hvl : validB l with
  | false =>
    have HV := Lib.hid hvl
    clear hv hvl
    go_enter Tryd.func21, Tryd.ntmps21
    go_wp2_with fail
    rw [← HWE.out]
    generalize WtwoF w = W1 at *
    refine (nodesOf_bad A l c W1 HW.out hl hlc hcm hn HV.out).mono ?_
    rintro e w1 ⟨rfl, hb1⟩
    have hx1 := HR1.out.below hb1 HR1.out.lt
    have hx2 := HR2.out.below hb1 HR2.out.lt
    have HE := Lib.hid (trace_none w w1 (HB.out.trans (hb1.mono HB.out.size)) hx1 hx2)
    have c1 : w1.cell? ⟨w.heap.size, 0, none⟩ = some (.slice none 0 0) := hx1.cell 0
    have z1 : w1.frozen? ⟨w.heap.size, 0, none⟩ = false := hx1.free 0
    have c2 : w1.cell? ⟨w.heap.size + 1, 0, none⟩ = some (.bool false) := hx2.cell 0
    have z2 : w1.frozen? ⟨w.heap.size + 1, 0, none⟩ = false := hx2.free 0
    clear hb1 hx1 hx2 HWE
    go_wp2
    obtain ⟨d1, d2, hp⟩ := HE.out
    exact bodyPost_ret (v := .tuple #[.slice none 0 0, .bool false]) (by simp [results, Tryd.results21, go_sem, d1, d2]) rfl hp
  | true =>
    have ht80 : decide (t.size ≤ 80) = false := by rw [hvl, Bool.true_and] at hv; exact hv
    have h80 : 80 < t.size := by have := of_decide_eq_false ht80; omega
    have h80' : (80 : Int) < (t.size : Int) := by omega
    have hb80 : decide (80 < t.size) = true := decide_eq_true h80
    have HV := Lib.hid hvl
    clear hv hvl ht80
    go_enter Tryd.func21, Tryd.ntmps21
    go_wp2_with fail
    rw [← HWE.out]
    generalize WtwoF w = W1 at *
    refine (nodesOf_any A l c W1 HW.out hl hlc hcm hn HV.out).mono ?_
    rintro e w1 ⟨g, nb, cv, rfl, hN, hb1⟩
    have hx1 := HR1.out.below hb1 HR1.out.lt
    have hx2 := HR2.out.below hb1 HR2.out.lt
    have HE := Lib.hid (trace_none w w1 (HB.out.trans (hb1.mono HB.out.size)) hx1 hx2)
    have c1 : w1.cell? ⟨w.heap.size, 0, none⟩ = some (.slice none 0 0) := hx1.cell 0
    have z1 : w1.frozen? ⟨w.heap.size, 0, none⟩ = false := hx1.free 0
    have c2 : w1.cell? ⟨w.heap.size + 1, 0, none⟩ = some (.bool false) := hx2.cell 0
    have z2 : w1.frozen? ⟨w.heap.size + 1, 0, none⟩ = false := hx2.free 0
    clear hb1 hx1 hx2 HWE hN
    go_wp2
    obtain ⟨d1, d2, hp⟩ := HE.out
    exact bodyPost_ret (v := .tuple #[.slice none 0 0, .bool false]) (by simp [results, Tryd.results21, go_sem, d1, d2]) rfl hp

set_option maxRecDepth 100000 in
set_option maxHeartbeats 4000000 in
theorem readTrace_good (A : Option Addr) (l : List Seg) (c : Nat) (t : ByteArray) (w : World) (hw : Segs w w.heap.size A l) (hl : l.length ≤ 1048576) (hlc : l.length ≤ c) (hcm : c ≤ 9223372036854775807) (hn : Short l) (ht : t.size ≤ 80)
    (hv : validB l = true) :
    Calls Tryd.prog 21 #[.slice A l.length c, .string t] w (TracePost w (whole (calls (callP l) 8 t.data.toList))) := by
  have hmf : ∀ (fn : Fn) (first cap : Array Value) (w : World), (Instr.makeFunc fn first cap).run Tryd.prog w = .ok (.func fn first cap) w := fun _ _ _ _ => rfl
  have hnil := fun (W : World) (a : Option Addr) (n c : Nat) => Lib.run_eql_slice_nil (P := Tryd.prog) W 46 37 a n c 0 0 Tryd.underlying46
  have HW : Hid (Segs (WtwoF w) (WtwoF w).heap.size A l) := (hw.below (WtwoF_below w)).more (WtwoF_below w).size
  have HB : Hid (Below w.heap.size w (WtwoF w)) := WtwoF_below w
  have HR1 := Lib.hid (WtwoF_one w)
  have HR2 := Lib.hid (WtwoF_two w)
  have HWE : Hid (WtwoF w = (w.alloc (.cells #[.slice none 0 0] 49)).alloc (.cells #[.bool false] 4)) := rfl
  have HV := Lib.hid hv
  have h80 : ¬ 80 < t.size := by omega
  have h80' : ¬ (80 : Int) < (t.size : Int) := by omega
  have hb80 : decide (80 < t.size) = false := decide_eq_false h80
  have htl : (⟨t.data.toList.toArray⟩ : ByteArray) = t := rfl
  have HTL := Lib.hid htl
  clear hw hv htl
  go_enter_defers Tryd.func21, Tryd.ntmps21
  go_wp2_with fail
  rw [← HWE.out]
  generalize WtwoF w = W1 at *
  refine (nodesOf_any A l c W1 HW.out hl hlc hcm hn HV.out).mono ?_
  rintro e w1 ⟨g, nb, cv, rfl, hN, hb1⟩
  have hbw := HB.out.trans (hb1.mono HB.out.size)
  have HX1 := Lib.hid ((HR1.out.below hb1 HR1.out.lt).alloc (.cells #[.slice (some ⟨g, 0, none⟩) l.length l.length, .string t] 68))
  have HX2 := Lib.hid ((HR2.out.below hb1 HR2.out.lt).alloc (.cells #[.slice (some ⟨g, 0, none⟩) l.length l.length, .string t] 68))
  have HR3 := Lib.hid (Row.new w1 68 #[.slice (some ⟨g, 0, none⟩) l.length l.length, .string t])
  have HKN := Lib.hid ((hN.known (Nat.le_refl _)).below ((Below.refl _ w1).alloc (Nat.le_refl _) (.cells #[.slice (some ⟨g, 0, none⟩) l.length l.length, .string t] 68)))
  have HBW := Lib.hid (hbw.alloc hbw.size (.cells #[.slice (some ⟨g, 0, none⟩) l.length l.length, .string t] 68))
  have hz1 : w.heap.size + 1 < w1.heap.size := (HR2.out.below hb1 HR2.out.lt).lt
  have hsz : w.heap.size ≤ (w1.alloc (.cells #[.slice (some ⟨g, 0, none⟩) l.length l.length, .string t] 68)).heap.size := HBW.out.size
  clear hb1 hbw hN HR1 HR2 HB HW HWE
  go_wp2_with fail
  generalize hWr : w1.alloc (.cells #[.slice (some ⟨g, 0, none⟩) l.length l.length, .string t] 68) = W3 at *
  clear hWr
  have HQ := Lib.hid (readOutermost_any w1.heap.size g l nb HV.out t.data.toList W3 (by simp; omega) HKN.out HR3.out)
  refine Calls.mono HQ.out ?_
  generalize whole (calls (callP l) 8 t.data.toList) = R at *
  rintro e w2 ⟨(⟨f, v, hR, rfl, hof⟩ | ⟨hR, m, rfl⟩), ho2⟩
  · have hx1 := HX1.out.only ho2 (by omega)
    have hx2 := HX2.out.only ho2 (by omega)
    have HB2 := Lib.hid (Only.below HBW.out ho2 hsz (fun k hk e => by omega))
    obtain ⟨A', cap', rfl, hsl⟩ := hof.slice
    have c1 : w2.cell? ⟨w.heap.size, 0, none⟩ = some (.slice none 0 0) := hx1.cell 0
    have z1 : w2.frozen? ⟨w.heap.size, 0, none⟩ = false := hx1.free 0
    have c2 : w2.cell? ⟨w.heap.size + 1, 0, none⟩ = some (.bool false) := hx2.cell 0
    have z2 : w2.frozen? ⟨w.heap.size + 1, 0, none⟩ = false := hx2.free 0
    have HX1' := Lib.hid hx1
    have HX2' := Lib.hid hx2
    have HOF := Lib.hid hof
    have HR := Lib.hid hR
    have HXL := Lib.hid HX2.out.lt
    clear hx1 hx2 hsl hof hR ho2 HX1 HX2 HR3 HKN HBW HQ
    go_wp2
    refine leaves_cons (f := 31) (args := #[.pointer (some ⟨w.heap.size, 0, none⟩), .pointer (some ⟨w.heap.size + 1, 0, none⟩)]) (by simp) (by simp [go_sem]) ?_
    refine (traceCatch_idle ⟨w.heap.size, 0, none⟩ ⟨w.heap.size + 1, 0, none⟩ _).mono ?_
    rintro e u' w'' ⟨rfl, rfl, rfl⟩
    have r1 : Row ((w2.setCell ⟨w.heap.size, 0, none⟩ (.slice A' f.len cap')).setCell ⟨w.heap.size + 1, 0, none⟩ (.bool true)) w.heap.size 49 #[.slice A' f.len cap'] := (HX1'.out.put 0 _).far (p := ⟨w.heap.size + 1, 0, none⟩) (show w.heap.size ≠ w.heap.size + 1 by omega) _
    have r2 : Row ((w2.setCell ⟨w.heap.size, 0, none⟩ (.slice A' f.len cap')).setCell ⟨w.heap.size + 1, 0, none⟩ (.bool true)) (w.heap.size + 1) 4 #[.bool true] := (HX2'.out.far (p := ⟨w.heap.size, 0, none⟩) (show w.heap.size + 1 ≠ w.heap.size by omega) _).put 0 _
    have hb2 : Below w.heap.size w ((w2.setCell ⟨w.heap.size, 0, none⟩ (.slice A' f.len cap')).setCell ⟨w.heap.size + 1, 0, none⟩ (.bool true)) := (HB2.out.setCell (Nat.le_refl _) _).setCell (by simp) _
    have hT : SliceIs ((w2.setCell ⟨w.heap.size, 0, none⟩ (.slice A' f.len cap')).setCell ⟨w.heap.size + 1, 0, none⟩ (.bool true)) (fun q => w.heap.size ≤ q ∧ q < ((w2.setCell ⟨w.heap.size, 0, none⟩ (.slice A' f.len cap')).setCell ⟨w.heap.size + 1, 0, none⟩ (.bool true)).heap.size) (.slice A' f.len cap') f := by
      refine HOF.out.slice.keep fun q hq => ⟨⟨by omega, by simpa [World.setCell] using hq.2⟩, ?_⟩
      have hw1 : w.heap.size + 1 < W3.heap.size := HXL.out
      exact (Below.heap_setCell _ ⟨w.heap.size + 1, 0, none⟩ _ q (by show q ≠ w.heap.size + 1; omega)).trans (Below.heap_setCell w2 ⟨w.heap.size, 0, none⟩ _ q (by show q ≠ w.heap.size; omega))
    have HPP : ∀ W : World, SliceIs W (fun q => w.heap.size ≤ q ∧ q < W.heap.size) (.slice A' f.len cap') f → Below w.heap.size w W → TracePost w R (.returned (.tuple #[.slice A' f.len cap', .bool true])) W := fun W h1 h2 => ⟨_, by rw [HR.out]; rfl, .inl ⟨f, HR.out, h1⟩, h2⟩
    have HPQ := Lib.hid (HPP _ hT hb2)
    clear hT hb2 HPP
    generalize (w2.setCell ⟨w.heap.size, 0, none⟩ (.slice A' f.len cap')).setCell ⟨w.heap.size + 1, 0, none⟩ (.bool true) = W4 at *
    have e1 : W4.cell? ⟨w.heap.size, 0, none⟩ = some (.slice A' f.len cap') := r1.cell 0
    have e2 : W4.cell? ⟨w.heap.size + 1, 0, none⟩ = some (.bool true) := r2.cell 0
    simp [Leaves, settle, results, Tryd.results21, go_sem, e1, e2]
    exact HPQ.out
  · have hx1 := HX1.out.only ho2 (by omega)
    have hx2 := HX2.out.only ho2 (by omega)
    have hB2 := Only.below HBW.out ho2 hsz (fun k hk e => by omega)
    have HD := Lib.hid (fun tmps h2 h3 => trace_died R w w2 m _ ⟨_, _, _, rfl⟩ _ hR hB2 hx1 hx2 tmps h2 h3)
    clear hx1 hx2 hB2 ho2 hR HQ
    go_wp2
    exact HD.out _ rfl rfl

/-- readTrace: the calls of a trace. -/
theorem readTrace_any (A : Option Addr) (l : List Seg) (c : Nat) (t : ByteArray) (w : World) (hw : Segs w w.heap.size A l) (hl : l.length ≤ 1048576) (hlc : l.length ≤ c) (hcm : c ≤ 9223372036854775807) (hn : Short l) (ht : t.size ≤ 1048576) :
    Calls Tryd.prog 21 #[.slice A l.length c, .string t] w (TracePost w (traceB l t.data.toList)) := by
  have hlen : t.data.toList.length = t.size := by simp
  rw [traceB_eq, hlen]
  cases hv : (validB l && decide (t.size ≤ 80)) with
  | false =>
    rw [if_neg (by decide)]
    exact readTrace_bad A l c t w hw hl hlc hcm hn ht hv
  | true =>
    rw [if_pos rfl]
    simp only [Bool.and_eq_true, decide_eq_true_eq] at hv
    exact readTrace_good A l c t w hw hl hlc hcm hn hv.2 hv.1

end Go.Proofs.YtadichddgpojpaaDoor
