/- Joined: Ff Fo Wz Fw. -/
import Derived.Test.YtifkmehnikfihaaGreatU09
import Derived.Test.YtifkmehnikfihaaGreatU14
import Derived.Test.YtifkmehnikfihaaGreatU19
import Derived.Lib.FrozenHead2
/- The program's readTrace by its contract. -/
namespace Go.Proofs.YtifkmehnikfihaaGreat
open Go.RowKit

/-- What readTrace has done. -/
def TracePost (w : World) (R : Option Forest) (e : Ending) (w' : World) : Prop :=
  ∃ v, e = .returned (.tuple #[v, .bool R.isSome]) ∧ ((∃ f, R = some f ∧ SliceIs w' (fun q => w.heap.size ≤ q ∧ q < w'.heap.size) v f) ∨ (R = none ∧ v = .slice none 0 0)) ∧ Below w.heap.size w w'

theorem Nodes.known {w : World} {B g b : Nat} {l : List Seg} {nb : Nat → Nat} {cv : Nat → Value} (h : Nodes w B g l.length l.length l nb cv) (hb : w.heap.size ≤ b) : Known w b g l nb := by
  obtain ⟨cs, hrow, _, hci⟩ := h.row
  refine ⟨Nat.lt_of_lt_of_le hrow.lt hb, fun i x hx => ?_⟩
  have hi := (List.getElem?_eq_some_iff.1 hx).1
  have hn := h.node i x hi hx
  exact ⟨Nat.lt_of_lt_of_le hn.lt hb, by rw [hrow.cell]; exact hci i hi, hn.cell 0⟩

/-- Where the reader has given up: what the deferred closure leaves. -/
theorem trace_died (R : Option Forest) (w w1 : World) (m : ByteArray) (x : Value) (hx : ∃ A n c, x = .slice A n c) (y : Bool) (hp : R = none) (hb : Below w.heap.size w w1) (h1 : Row w1 w.heap.size 99 #[x]) (h2 : Row w1 (w.heap.size + 1) 4 #[.bool y]) (tmps : Array Value)
    (ht2 : tmps[4]?.getD undef = .pointer (some ⟨w.heap.size, 0, none⟩)) (ht3 : tmps[5]?.getD undef = .pointer (some ⟨w.heap.size + 1, 0, none⟩)) :
    bodyPostD Tryz.prog Tryz.f88 (TracePost w R) (Exit.panic [{ v := .iface 9 (.string m), recovered := false }]) { tmps := tmps, defers := [{ target := Target.fn (Fn.func 144) #[.pointer (some ⟨w.heap.size, 0, none⟩), .pointer (some ⟨w.heap.size + 1, 0, none⟩)], args := #[] }] } w1 := by
  refine leaves_cons (f := 144) (args := #[.pointer (some ⟨w.heap.size, 0, none⟩), .pointer (some ⟨w.heap.size + 1, 0, none⟩)]) (by simp) (by simp [go_sem]) ?_
  refine (traceCatch_panicking w.heap.size x y m w1 h1 hx h2).mono ?_
  rintro e u' w'' ⟨rfl, rfl, rfl⟩
  have r1 : Row ((w1.setCell ⟨w.heap.size, 0, none⟩ (.slice none 0 0)).setCell ⟨w.heap.size + 1, 0, none⟩ (.bool false)) w.heap.size 99 #[.slice none 0 0] := (h1.put 0 _).far (p := ⟨w.heap.size + 1, 0, none⟩) (show w.heap.size ≠ w.heap.size + 1 by omega) _
  have r2 : Row ((w1.setCell ⟨w.heap.size, 0, none⟩ (.slice none 0 0)).setCell ⟨w.heap.size + 1, 0, none⟩ (.bool false)) (w.heap.size + 1) 4 #[.bool false] := (h2.far (p := ⟨w.heap.size, 0, none⟩) (show w.heap.size + 1 ≠ w.heap.size by omega) _).put 0 _
  have hb2 : Below w.heap.size w ((w1.setCell ⟨w.heap.size, 0, none⟩ (.slice none 0 0)).setCell ⟨w.heap.size + 1, 0, none⟩ (.bool false)) := (hb.setCell (Nat.le_refl _) _).setCell (by simp) _
  generalize (w1.setCell ⟨w.heap.size, 0, none⟩ (.slice none 0 0)).setCell ⟨w.heap.size + 1, 0, none⟩ (.bool false) = W3 at *
  have e1 : W3.cell? ⟨w.heap.size, 0, none⟩ = some (.slice none 0 0) := r1.cell 0
  have e2 : W3.cell? ⟨w.heap.size + 1, 0, none⟩ = some (.bool false) := r2.cell 0
  have HP : TracePost w R (.returned (.tuple #[.slice none 0 0, .bool false])) W3 := ⟨_, by rw [hp]; rfl, .inr ⟨hp, rfl⟩, hb2⟩
  simp [Leaves, settle, results, Tryz.results88, go_sem, e1, e2, ht2, ht3]
  exact HP

/-- The world behind the two results' cells. -/
def WtwoF (w : World) : World := (w.alloc (.cells #[.slice none 0 0] 99)).alloc (.cells #[.bool false] 4)
theorem WtwoF_below (w : World) : Below w.heap.size w (WtwoF w) := ((Below.refl _ w).alloc (Nat.le_refl _) _).alloc (by simp) _
theorem WtwoF_size (w : World) : (WtwoF w).heap.size = w.heap.size + 2 := by simp [WtwoF]
theorem WtwoF_one (w : World) : Row (WtwoF w) w.heap.size 99 #[.slice none 0 0] := (Row.new _ _ _).alloc _
theorem WtwoF_two (w : World) : Row (WtwoF w) (w.heap.size + 1) 4 #[.bool false] := by
  have := Row.new (w.alloc (.cells #[.slice none 0 0] 99)) 4 #[.bool false]
  rw [World.size_alloc] at this
  exact this

/-- No calls, false. -/
theorem trace_none (w w1 : World) (hb : Below w.heap.size w w1) (h1 : Row w1 w.heap.size 99 #[.slice none 0 0]) (h2 : Row w1 (w.heap.size + 1) 4 #[.bool false]) :
    let W := (w1.setCell ⟨w.heap.size, 0, none⟩ (.slice none 0 0)).setCell ⟨w.heap.size + 1, 0, none⟩ (.bool false)
    W.cell? ⟨w.heap.size, 0, none⟩ = some (.slice none 0 0) ∧ W.cell? ⟨w.heap.size + 1, 0, none⟩ = some (.bool false) ∧ TracePost w none (.returned (.tuple #[.slice none 0 0, .bool false])) W := by
  have r1 : Row ((w1.setCell ⟨w.heap.size, 0, none⟩ (.slice none 0 0)).setCell ⟨w.heap.size + 1, 0, none⟩ (.bool false)) w.heap.size 99 #[.slice none 0 0] := (h1.put 0 _).far (p := ⟨w.heap.size + 1, 0, none⟩) (show w.heap.size ≠ w.heap.size + 1 by omega) _
  have r2 : Row ((w1.setCell ⟨w.heap.size, 0, none⟩ (.slice none 0 0)).setCell ⟨w.heap.size + 1, 0, none⟩ (.bool false)) (w.heap.size + 1) 4 #[.bool false] := (h2.far (p := ⟨w.heap.size, 0, none⟩) (show w.heap.size + 1 ≠ w.heap.size by omega) _).put 0 _
  exact ⟨r1.cell 0, r2.cell 0, _, rfl, .inr ⟨rfl, rfl⟩, (hb.setCell (Nat.le_refl _) _).setCell (by simp) _⟩

set_option maxRecDepth 100000 in
set_option maxHeartbeats 4000000 in
theorem readTrace_bad (A : Option Addr) (l : List Seg) (c : Nat) (t : ByteArray) (w : World) (hw : Segs w w.heap.size A l) (hl : l.length ≤ 1048576) (hlc : l.length ≤ c) (hcm : c ≤ 9223372036854775807) (hn : Short l) (ht : t.size ≤ 1048576)
    (hv : (validB l && decide (t.size ≤ 80)) = false) :
    Calls Tryz.prog 88 #[.slice A l.length c, .string t] w (TracePost w none) := by
  have hnil := fun (W : World) (a : Option Addr) (n c : Nat) => Lib.run_eql_slice_nil (P := Tryz.prog) W 83 87 a n c 0 0 Tryz.underlying83
  have HW : Hid (Segs (WtwoF w) (WtwoF w).heap.size A l) := (hw.below (WtwoF_below w)).more (WtwoF_below w).size
  have HB : Hid (Below w.heap.size w (WtwoF w)) := WtwoF_below w
  have HR1 := Lib.hid (WtwoF_one w)
  have HR2 := Lib.hid (WtwoF_two w)
  have HWE : Hid (WtwoF w = (w.alloc (.cells #[.slice none 0 0] 99)).alloc (.cells #[.bool false] 4)) := rfl
  clear hw
  cases hvl : validB l with
  | false =>
    have HV := Lib.hid hvl
    clear hv hvl
    go_enter Tryz.func88, Tryz.ntmps88
    go_wp2_with fail
    rw [← HWE.out]
    generalize WtwoF w = W1 at *
    refine (nodesOf_bad A l c W1 HW.out hl hlc hcm hn HV.out).mono ?_
    rintro e w1 ⟨rfl, hb1⟩
    have hx1 := HR1.out.below hb1 HR1.out.lt
    have hx2 := HR2.out.below hb1 HR2.out.lt
    have HE := Lib.hid (trace_none w w1 (HB.out.trans (hb1.mono HB.out.size)) hx1 hx2)
    have c1 : w1.cell? ⟨w.heap.size, 0, none⟩ = some (.slice none 0 0) := hx1.cell 0
    have z1 : w1.frozen? ⟨w.heap.size, 0, none⟩ = false := hx1.free 0
    have c2 : w1.cell? ⟨w.heap.size + 1, 0, none⟩ = some (.bool false) := hx2.cell 0
    have z2 : w1.frozen? ⟨w.heap.size + 1, 0, none⟩ = false := hx2.free 0
    clear hb1 hx1 hx2 HWE
    go_wp2
    obtain ⟨d1, d2, hp⟩ := HE.out
    exact bodyPost_ret (v := .tuple #[.slice none 0 0, .bool false]) (by simp [results, Tryz.results88, go_sem, d1, d2]) rfl hp
  | true =>
    have ht80 : decide (t.size ≤ 80) = false := by rw [hvl, Bool.true_and] at hv; exact hv
    have h80 : 80 < t.size := by have := of_decide_eq_false ht80; omega
    have h80' : (80 : Int) < (t.size : Int) := by omega
    have hb80 : decide (80 < t.size) = true := decide_eq_true h80
    have HV := Lib.hid hvl
    clear hv hvl ht80
    go_enter Tryz.func88, Tryz.ntmps88
    go_wp2_with fail
    rw [← HWE.out]
    generalize WtwoF w = W1 at *
    refine (nodesOf_any A l c W1 HW.out hl hlc hcm hn HV.out).mono ?_
    rintro e w1 ⟨g, nb, cv, rfl, hN, hb1⟩
    have hx1 := HR1.out.below hb1 HR1.out.lt
    have hx2 := HR2.out.below hb1 HR2.out.lt
    have HE := Lib.hid (trace_none w w1 (HB.out.trans (hb1.mono HB.out.size)) hx1 hx2)
    have c1 : w1.cell? ⟨w.heap.size, 0, none⟩ = some (.slice none 0 0) := hx1.cell 0
    have z1 : w1.frozen? ⟨w.heap.size, 0, none⟩ = false := hx1.free 0
    have c2 : w1.cell? ⟨w.heap.size + 1, 0, none⟩ = some (.bool false) := hx2.cell 0
    have z2 : w1.frozen? ⟨w.heap.size + 1, 0, none⟩ = false := hx2.free 0
    clear hb1 hx1 hx2 HWE hN
    go_wp2
    obtain ⟨d1, d2, hp⟩ := HE.out
    exact bodyPost_ret (v := .tuple #[.slice none 0 0, .bool false]) (by simp [results, Tryz.results88, go_sem, d1, d2]) rfl hp

set_option maxRecDepth 100000 in
set_option maxHeartbeats 4000000 in
theorem readTrace_good (A : Option Addr) (l : List Seg) (c : Nat) (t : ByteArray) (w : World) (hw : Segs w w.heap.size A l) (hl : l.length ≤ 1048576) (hlc : l.length ≤ c) (hcm : c ≤ 9223372036854775807) (hn : Short l) (ht : t.size ≤ 80)
    (hv : validB l = true) :
    Calls Tryz.prog 88 #[.slice A l.length c, .string t] w (TracePost w (whole (calls (callP l) 8 t.data.toList))) := by
  have hmf : ∀ (fn : Fn) (first cap : Array Value) (w : World), (Instr.makeFunc fn first cap).run Tryz.prog w = .ok (.func fn first cap) w := fun _ _ _ _ => rfl
  have hnil := fun (W : World) (a : Option Addr) (n c : Nat) => Lib.run_eql_slice_nil (P := Tryz.prog) W 83 87 a n c 0 0 Tryz.underlying83
  have HW : Hid (Segs (WtwoF w) (WtwoF w).heap.size A l) := (hw.below (WtwoF_below w)).more (WtwoF_below w).size
  have HB : Hid (Below w.heap.size w (WtwoF w)) := WtwoF_below w
  have HR1 := Lib.hid (WtwoF_one w)
  have HR2 := Lib.hid (WtwoF_two w)
  have HWE : Hid (WtwoF w = (w.alloc (.cells #[.slice none 0 0] 99)).alloc (.cells #[.bool false] 4)) := rfl
  have HV := Lib.hid hv
  have h80 : ¬ 80 < t.size := by omega
  have h80' : ¬ (80 : Int) < (t.size : Int) := by omega
  have hb80 : decide (80 < t.size) = false := decide_eq_false h80
  have htl : (⟨t.data.toList.toArray⟩ : ByteArray) = t := rfl
  have HTL := Lib.hid htl
  clear hw hv htl
  go_enter_defers Tryz.func88, Tryz.ntmps88
  go_wp2_with fail
  rw [← HWE.out]
  generalize WtwoF w = W1 at *
  refine (nodesOf_any A l c W1 HW.out hl hlc hcm hn HV.out).mono ?_
  rintro e w1 ⟨g, nb, cv, rfl, hN, hb1⟩
  have hbw := HB.out.trans (hb1.mono HB.out.size)
  have HX1 := Lib.hid ((HR1.out.below hb1 HR1.out.lt).alloc (.cells #[.slice (some ⟨g, 0, none⟩) l.length l.length, .string t] 179))
  have HX2 := Lib.hid ((HR2.out.below hb1 HR2.out.lt).alloc (.cells #[.slice (some ⟨g, 0, none⟩) l.length l.length, .string t] 179))
  have HR3 := Lib.hid (Row.new w1 179 #[.slice (some ⟨g, 0, none⟩) l.length l.length, .string t])
  have HKN := Lib.hid ((hN.known (Nat.le_refl _)).below ((Below.refl _ w1).alloc (Nat.le_refl _) (.cells #[.slice (some ⟨g, 0, none⟩) l.length l.length, .string t] 179)))
  have HBW := Lib.hid (hbw.alloc hbw.size (.cells #[.slice (some ⟨g, 0, none⟩) l.length l.length, .string t] 179))
  have hz1 : w.heap.size + 1 < w1.heap.size := (HR2.out.below hb1 HR2.out.lt).lt
  have hsz : w.heap.size ≤ (w1.alloc (.cells #[.slice (some ⟨g, 0, none⟩) l.length l.length, .string t] 179)).heap.size := HBW.out.size
  clear hb1 hbw hN HR1 HR2 HB HW HWE
  go_wp2_with fail
  generalize hWr : w1.alloc (.cells #[.slice (some ⟨g, 0, none⟩) l.length l.length, .string t] 179) = W3 at *
  clear hWr
  have HQ := Lib.hid (readOutermost_any w1.heap.size g l nb HV.out t.data.toList W3 (by simp; omega) HKN.out HR3.out)
  refine Calls.mono HQ.out ?_
  generalize whole (calls (callP l) 8 t.data.toList) = R at *
  rintro e w2 ⟨(⟨f, v, hR, rfl, hof⟩ | ⟨hR, m, rfl⟩), ho2⟩
  · have hx1 := HX1.out.only ho2 (by omega)
    have hx2 := HX2.out.only ho2 (by omega)
    have HB2 := Lib.hid (Only.below HBW.out ho2 hsz (fun k hk e => by omega))
    obtain ⟨A', cap', rfl, hsl⟩ := hof.slice
    have c1 : w2.cell? ⟨w.heap.size, 0, none⟩ = some (.slice none 0 0) := hx1.cell 0
    have z1 : w2.frozen? ⟨w.heap.size, 0, none⟩ = false := hx1.free 0
    have c2 : w2.cell? ⟨w.heap.size + 1, 0, none⟩ = some (.bool false) := hx2.cell 0
    have z2 : w2.frozen? ⟨w.heap.size + 1, 0, none⟩ = false := hx2.free 0
    have HX1' := Lib.hid hx1
    have HX2' := Lib.hid hx2
    have HOF := Lib.hid hof
    have HR := Lib.hid hR
    have HXL := Lib.hid HX2.out.lt
    clear hx1 hx2 hsl hof hR ho2 HX1 HX2 HR3 HKN HBW HQ
    go_wp2
    refine leaves_cons (f := 144) (args := #[.pointer (some ⟨w.heap.size, 0, none⟩), .pointer (some ⟨w.heap.size + 1, 0, none⟩)]) (by simp) (by simp [go_sem]) ?_
    refine (traceCatch_idle ⟨w.heap.size, 0, none⟩ ⟨w.heap.size + 1, 0, none⟩ _).mono ?_
    rintro e u' w'' ⟨rfl, rfl, rfl⟩
    have r1 : Row ((w2.setCell ⟨w.heap.size, 0, none⟩ (.slice A' f.len cap')).setCell ⟨w.heap.size + 1, 0, none⟩ (.bool true)) w.heap.size 99 #[.slice A' f.len cap'] := (HX1'.out.put 0 _).far (p := ⟨w.heap.size + 1, 0, none⟩) (show w.heap.size ≠ w.heap.size + 1 by omega) _
    have r2 : Row ((w2.setCell ⟨w.heap.size, 0, none⟩ (.slice A' f.len cap')).setCell ⟨w.heap.size + 1, 0, none⟩ (.bool true)) (w.heap.size + 1) 4 #[.bool true] := (HX2'.out.far (p := ⟨w.heap.size, 0, none⟩) (show w.heap.size + 1 ≠ w.heap.size by omega) _).put 0 _
    have hb2 : Below w.heap.size w ((w2.setCell ⟨w.heap.size, 0, none⟩ (.slice A' f.len cap')).setCell ⟨w.heap.size + 1, 0, none⟩ (.bool true)) := (HB2.out.setCell (Nat.le_refl _) _).setCell (by simp) _
    have hT : SliceIs ((w2.setCell ⟨w.heap.size, 0, none⟩ (.slice A' f.len cap')).setCell ⟨w.heap.size + 1, 0, none⟩ (.bool true)) (fun q => w.heap.size ≤ q ∧ q < ((w2.setCell ⟨w.heap.size, 0, none⟩ (.slice A' f.len cap')).setCell ⟨w.heap.size + 1, 0, none⟩ (.bool true)).heap.size) (.slice A' f.len cap') f := by
      refine HOF.out.slice.keep fun q hq => ⟨⟨by omega, by simpa [World.setCell] using hq.2⟩, ?_⟩
      have hw1 : w.heap.size + 1 < W3.heap.size := HXL.out
      exact (Below.heap_setCell _ ⟨w.heap.size + 1, 0, none⟩ _ q (by show q ≠ w.heap.size + 1; omega)).trans (Below.heap_setCell w2 ⟨w.heap.size, 0, none⟩ _ q (by show q ≠ w.heap.size; omega))
    have HPP : ∀ W : World, SliceIs W (fun q => w.heap.size ≤ q ∧ q < W.heap.size) (.slice A' f.len cap') f → Below w.heap.size w W → TracePost w R (.returned (.tuple #[.slice A' f.len cap', .bool true])) W := fun W h1 h2 => ⟨_, by rw [HR.out]; rfl, .inl ⟨f, HR.out, h1⟩, h2⟩
    have HPQ := Lib.hid (HPP _ hT hb2)
    clear hT hb2 HPP
    generalize (w2.setCell ⟨w.heap.size, 0, none⟩ (.slice A' f.len cap')).setCell ⟨w.heap.size + 1, 0, none⟩ (.bool true) = W4 at *
    have e1 : W4.cell? ⟨w.heap.size, 0, none⟩ = some (.slice A' f.len cap') := r1.cell 0
    have e2 : W4.cell? ⟨w.heap.size + 1, 0, none⟩ = some (.bool true) := r2.cell 0
    simp [Leaves, settle, results, Tryz.results88, go_sem, e1, e2]
    exact HPQ.out
  · have hx1 := HX1.out.only ho2 (by omega)
    have hx2 := HX2.out.only ho2 (by omega)
    have hB2 := Only.below HBW.out ho2 hsz (fun k hk e => by omega)
    have HD := Lib.hid (fun tmps h2 h3 => trace_died R w w2 m _ ⟨_, _, _, rfl⟩ _ hR hB2 hx1 hx2 tmps h2 h3)
    clear hx1 hx2 hB2 ho2 hR HQ
    go_wp2
    exact HD.out _ rfl rfl

/-- readTrace: the calls of a trace. -/
theorem readTrace_any (A : Option Addr) (l : List Seg) (c : Nat) (t : ByteArray) (w : World) (hw : Segs w w.heap.size A l) (hl : l.length ≤ 1048576) (hlc : l.length ≤ c) (hcm : c ≤ 9223372036854775807) (hn : Short l) (ht : t.size ≤ 1048576) :
    Calls Tryz.prog 88 #[.slice A l.length c, .string t] w (TracePost w (traceB l t.data.toList)) := by
  have hlen : t.data.toList.length = t.size := by simp
  rw [traceB_eq, hlen]
  cases hv : (validB l && decide (t.size ≤ 80)) with
  | false =>
    rw [if_neg (by decide)]
    exact readTrace_bad A l c t w hw hl hlc hcm hn ht hv
  | true =>
    rw [if_pos rfl]
    simp only [Bool.and_eq_true, decide_eq_true_eq] at hv
    exact readTrace_good A l c t w hw hl hlc hcm hn hv.2 hv.1

end Go.Proofs.YtifkmehnikfihaaGreat
/- The program's needs: writeNeeds, NeedsOf. -/
namespace Go.Proofs.YtifkmehnikfihaaGreat
open Go.RowKit

theorem byteCells_app (s t : List UInt8) : Lib.byteCells (s ++ t) = Lib.byteCells s ++ Lib.byteCells t := by simp [Lib.byteCells]
theorem strCells_one (c : UInt8) : Lib.strCells ⟨#[c]⟩ = Lib.byteCells [c] := rfl
theorem byteCells_len (s : List UInt8) : (Lib.byteCells s).length = s.length := by simp [Lib.byteCells]

/-- What the range over calls has before it. -/
def LeftC (w : World) (B : Nat) (f : Forest) (A : Option Addr) (pre rest : Forest) : Prop := f = pre.app rest ∧ (rest.isNil = false → ∃ g, A = some ⟨g, 0, none⟩ ∧ g < B ∧ Cells w (· < B) rest g pre.len)
theorem LeftC.start {w : World} {B : Nat} {f : Forest} {v : Value} (h : SliceIs w (· < B) v f) : ∃ A cap, v = .slice A f.len cap ∧ LeftC w B f A .nil f := by
  obtain ⟨A, cap, e, h⟩ := h
  refine ⟨A, cap, e, rfl, fun hr => ?_⟩
  rw [Forest.isNil_len] at hr
  have hl : f.len ≠ 0 := of_decide_eq_false hr
  exact h (by omega)
theorem LeftC.below {w w' : World} {B : Nat} {f pre rest : Forest} {A : Option Addr} (h : LeftC w B f A pre rest) (hb : Below B w w') : LeftC w' B f A pre rest := by
  refine ⟨h.1, fun hr => ?_⟩
  obtain ⟨g, e, h1, h2⟩ := h.2 hr
  exact ⟨g, e, h1, Cells.keep (fun q hq => ⟨hq, hb.block q hq⟩) rest g _ (hb.block g h1) h2⟩
/-- One call is taken. -/
theorem LeftC.take {w : World} {B : Nat} {f pre k r : Forest} {c : UInt8} {A : Option Addr} (h : LeftC w B f A pre (.cons c k r)) :
    LeftC w B f A (pre.app (.cons c k .nil)) r ∧ pre.len < f.len ∧ k.size < f.size ∧ ∃ g u, A = some ⟨g, 0, none⟩ ∧ g < B ∧ w.cell? ⟨g, pre.len, none⟩ = some u ∧ IsCall w (· < B) c k u := by
  obtain ⟨h1, h2⟩ := h
  obtain ⟨g, e, h3, h4⟩ := h2 rfl
  obtain ⟨⟨u, c0, hu⟩, hr⟩ := h4
  have hl : (pre.app (.cons c k .nil)).len = pre.len + 1 := by rw [Forest.app_len]; rfl
  refine ⟨⟨?_, fun _ => ⟨g, e, h3, ?_⟩⟩, ?_, ?_, g, u, e, h3, c0, hu⟩
  · rw [Forest.app_assoc]; exact h1
  · rw [hl]; exact hr
  · rw [h1, Forest.app_len]; show pre.len < pre.len + (r.len + 1); omega
  · rw [h1, Forest.app_size]; show k.size < pre.size + (k.size + r.size + 1); omega
theorem LeftC.done {w : World} {B : Nat} {f pre : Forest} {A : Option Addr} (h : LeftC w B f A pre .nil) : f = pre := by rw [h.1, Forest.app_nil]
theorem SliceIs.below {w w' : World} {f : Forest} {v : Value} {B : Nat} (h : SliceIs w (· < B) v f) (hb : Below B w w') : SliceIs w' (· < B) v f :=
  h.keep fun q hq => ⟨hq, hb.block q hq⟩

set_option maxRecDepth 100000 in
set_option maxHeartbeats 2000000 in
theorem writeNeeds_any (B b : Nat) : ∀ (n : Nat) (f : Forest) (a : UInt8) (v : Value) (s : List UInt8) (w : World), f.size < n → s.length + 2 * f.size ≤ 3000 → SliceIs w (· < B) v f →
    Lib.IsBuilderF 93 5 B b (Lib.byteCells s) w → B ≤ w.heap.size →
    Calls Tryz.prog 212 #[.pointer (some ⟨b, 0, none⟩), .string ⟨#[a]⟩, v] w fun e w' => e = .returned (.tuple #[]) ∧ Lib.IsBuilderF 93 5 B b (Lib.byteCells (s ++ needsB a f)) w' ∧ Below B w w' := by
  intro n
  induction n with
  | zero => intro f a v s w h; omega
  | succ n ih =>
    intro f a v s w hn hs hv hI hBw
    obtain ⟨A, cap, rfl, hl0⟩ := LeftC.start hv
    have IH := Lib.hid ih
    have HL0 := Lib.hid hl0
    have HI0 := Lib.hid hI
    have hfl : f.len ≤ 3000 := by have := f.len_size; omega
    clear ih hv hl0 hI
    go_enter Tryz.func212, Tryz.ntmps212
    go_wp2
    go_loopw [10] (fun i wr => ∃ (pre rest : Forest), i = .int .i64 pre.len ∧ Hid (LeftC wr B f A pre rest) ∧ Hid (Lib.IsBuilderF 93 5 B b (Lib.byteCells (s ++ needsB a pre)) wr) ∧ Hid (Below B w wr))
      (fun i _ => f.len - (intOf i).toNat)
    case atStart => exact ⟨.nil, f, rfl, HL0, by show Lib.IsBuilderF _ _ _ _ _ _; rw [show needsB a .nil = [] from rfl, List.append_nil]; exact HI0.out, Below.refl _ _⟩
    case round =>
      obtain ⟨pre, rest, rfl, HL, HI, HB⟩ := hrel
      clear HL0 HI0
      cases rest with
      | nil =>
        have HE := Lib.hid HL.out.done
        have hle : ¬ (pre.len < f.len) := by rw [HE.out]; omega
        go_wp2
        go_end0
        exact ⟨rfl, by rw [HE.out]; exact HI.out, HB.out⟩
      | cons c k r =>
        obtain ⟨hnext, hlt, hks, g, u, rfl, hg, c0, hu⟩ := HL.out.take
        obtain ⟨T, x, kv, rfl, hf, hkv⟩ := hu.facts
        obtain ⟨K, y, o, hm, he, hc⟩ := hf.calls
        have hnm := hf.name
        have HC := Lib.hid hc
        have HKV := Lib.hid hkv
        have HNX := Lib.hid hnext
        have hz := HB.out.size
        have hBr : B ≤ wr.heap.size := by omega
        have hpl := needsB_len a pre
        have hps : pre.size + (k.size + r.size + 1) = f.size := by rw [HL.out.1, Forest.app_size]; rfl
        have hl1 : (s ++ needsB a pre).length + 2 * k.size + 2 ≤ 3000 := by rw [List.length_append]; omega
        have HLN : Hid ((pre.app (.cons c k .nil)).len = pre.len + 1) := by show _ = _; rw [Forest.app_len]; rfl
        have HNB : Hid (s ++ needsB a (pre.app (.cons c k .nil)) = s ++ needsB a pre ++ [c] ++ needsB c k ++ [a]) := by
          show _ = _
          rw [needsB_app, needsB_one]; simp
        have hnk := needsB_len c k
        have hl2 : (s ++ needsB a pre ++ [c]).length + 2 * k.size ≤ 3000 := by simp at hl1 ⊢; omega
        have hl3 : (s ++ needsB a pre ++ [c] ++ needsB c k).length + 1 ≤ 3000 := by simp at hl1 ⊢; omega
        clear hnext hf hkv hc hu hpl hps hnk
        generalize s ++ needsB a pre = s1 at *
        go_wp2_with fail
        refine (leafName_any c _).mono ?_
        rintro e w1 ⟨rfl, rfl⟩
        have HI1 := Lib.hid (HI.out.alloc (.cells #[.string ⟨#[c]⟩] 284))
        have HB1 : Hid (Below B wr (wr.alloc (.cells #[.string ⟨#[c]⟩] 284))) := (Below.refl _ wr).alloc hBr _
        go_wp2_with fail
        generalize wr.alloc (.cells #[.string ⟨#[c]⟩] 284) = W1 at *
        refine (writeString_any B b _ ⟨#[c]⟩ _ HI1.out (by rw [byteCells_len]; show _ + 1 ≤ _; omega) (by have := HB1.out.size; omega)).mono ?_
        rintro e w2 ⟨rfl, hI2, hb2, -⟩
        rw [strCells_one, ← byteCells_app] at hI2
        have HI2 := Lib.hid hI2
        have HB2 := Lib.hid (HB1.out.trans hb2)
        clear hI2 hb2 HI1 HB1
        go_wp2_with fail
        refine (leafName_any c _).mono ?_
        rintro e w3 ⟨rfl, rfl⟩
        have HI3 := Lib.hid (HI2.out.alloc (.cells #[.string ⟨#[c]⟩] 284))
        have HB3 : Hid (Below B wr (w2.alloc (.cells #[.string ⟨#[c]⟩] 284))) := HB2.out.alloc (by have := HB2.out.size; omega) _
        go_wp2_with fail
        generalize w2.alloc (.cells #[.string ⟨#[c]⟩] 284) = W3 at *
        refine (HC.out _).mono ?_
        rintro e w4 ⟨rfl, rfl⟩
        have HI4 := Lib.hid (HI3.out.alloc o)
        have HB4 : Hid (Below B wr (W3.alloc o)) := HB3.out.alloc (by have := HB3.out.size; omega) _
        go_wp2_with fail
        generalize W3.alloc o = W4 at *
        refine (IH.out k c kv _ W4 (by omega) hl2 (HKV.out.below HB4.out) HI4.out (by have := HB4.out.size; omega)).mono ?_
        rintro e w5 ⟨rfl, hI5, hb5⟩
        have HI5 := Lib.hid hI5
        have HB5 := Lib.hid (HB4.out.trans hb5)
        clear hI5 hb5 HI4 HB4 HI3 HB3 HI2 HB2
        go_wp2_with fail
        refine (writeString_any B b _ ⟨#[a]⟩ _ HI5.out (by rw [byteCells_len]; show _ + 1 ≤ _; omega) (by have := HB5.out.size; omega)).mono ?_
        rintro e w6 ⟨rfl, hI6, hb6, -⟩
        rw [strCells_one, ← byteCells_app, ← HNB.out] at hI6
        have HI6 := Lib.hid hI6
        have HB6 := Lib.hid (HB.out.trans (HB5.out.trans hb6))
        have HL6 := Lib.hid (HNX.out.below (HB5.out.trans hb6))
        clear hI6 hb6 HI5 HB5 HNX HL HI HB HC HKV hm he hnm c0
        go_wp2
        go_roundw
        case rel => exact ⟨_, r, by rw [HLN.out]; go_num, HL6, HI6, HB6⟩
        case measure => simp [intOf]; omega

set_option maxRecDepth 100000 in
set_option maxHeartbeats 2000000 in
theorem needsOf_any (A : Option Addr) (l : List Seg) (c : Nat) (t : ByteArray) (w : World) (hw : Segs w w.heap.size A l) (hl : l.length ≤ 1048576) (hlc : l.length ≤ c) (hcm : c ≤ 9223372036854775807) (hn : Short l) (ht : t.size ≤ 1048576) :
    Calls Tryz.prog 148 #[.slice A l.length c, .string t] w fun e w' => e = .returned (.tuple #[.string (needsRes l t), .bool (traceB l t.data.toList).isSome]) ∧ Below w.heap.size w w' := by
  have HQ := Lib.hid (readTrace_any A l c t w hw hl hlc hcm hn ht)
  have HW : Hid (Segs w w.heap.size A l) := hw
  unfold needsRes
  cases hR : traceB l t.data.toList with
  | none =>
    rw [hR] at HQ
    clear hw hn hR
    go_enter Tryz.func148, Tryz.ntmps148
    go_wp2_with fail
    refine Calls.mono HQ.out ?_
    rintro e w2 ⟨v, rfl, -, hb⟩
    go_wp2
    go_ret2
    exact ⟨rfl, hb⟩
  | some f =>
    obtain ⟨hv, h80, hcl⟩ := traceB_some hR
    have hsz := (traceB_size hR).1
    have HV := Lib.hid hv
    have hl1 := (valid_all hv).2.2
    rw [hR] at HQ
    clear hw hn hR h80 hcl hv
    go_enter Tryz.func148, Tryz.ntmps148
    go_wp2_with fail
    refine Calls.mono HQ.out ?_
    rintro e w2 ⟨v, rfl, (⟨f', hf', hsl⟩ | ⟨h0, -⟩), hb⟩
    · obtain rfl : f = f' := by injection hf'
      have HSL := Lib.hid hsl
      have HB := Lib.hid hb
      obtain ⟨b0, o0, rfl, hB0, c0⟩ := (HW.out.below hb).root HV.out
      clear hsl hb hf' HQ
      go_wp2_with fail
      have HI0 : Hid (Lib.IsBuilderF 93 5 w2.heap.size w2.heap.size (Lib.byteCells []) (w2.alloc (.cells #[.pointer none, .slice none 0 0] 93))) := Lib.IsBuilderF.of (Lib.fresh_isBuilder _ _ w2)
      have HB1 : Hid (Below w2.heap.size w2 (w2.alloc (.cells #[.pointer none, .slice none 0 0] 93))) := (Below.refl _ w2).alloc (Nat.le_refl _) _
      generalize w2.alloc (.cells #[.pointer none, .slice none 0 0] 93) = W1 at *
      refine (writeString_any w2.heap.size w2.heap.size _ ⟨#[rootB l]⟩ _ HI0.out (by rw [byteCells_len]; show 0 + 1 ≤ _; omega) HB1.out.size).mono ?_
      rintro e w3 ⟨rfl, hI3, hb3, -⟩
      rw [strCells_one, ← byteCells_app] at hI3
      have HI3 := Lib.hid hI3
      have HB3 := Lib.hid (HB1.out.trans hb3)
      have HSL3 : Hid (SliceIs w3 (· < w2.heap.size) v f) := SliceIs.below (HSL.out.keep fun q hq => ⟨hq.2, rfl⟩) HB3.out
      clear hI3 hb3 HI0 HB1 HSL
      go_wp2_with fail
      refine (writeNeeds_any w2.heap.size w2.heap.size (f.size + 1) f (rootB l) v _ w3 (by omega) (by simp; omega) HSL3.out HI3.out HB3.out.size).mono ?_
      rintro e w4 ⟨rfl, hI4, hb4⟩
      have HI4 := Lib.hid hI4
      have HB4 := Lib.hid (HB3.out.trans hb4)
      clear hI4 hb4 HI3 HB3 HSL3
      go_wp2_with fail
      refine (Tryz.Builder_String_any_k w2.heap.size w2.heap.size _ _ HI4.out HB4.out.size).mono ?_
      rintro e w5 ⟨rfl, -, hb5, -⟩
      have HB5 := Lib.hid (HB.out.trans ((HB4.out.trans hb5).mono HB.out.size))
      clear hb5 HI4 HB4
      go_wp2
      go_ret2
      exact ⟨rfl, HB5.out⟩
    · cases h0

end Go.Proofs.YtifkmehnikfihaaGreat
/- A byte written into a Builder. -/
namespace Go.Proofs.YtifkmehnikfihaaGreat
open Go.RowKit

/-- What a writing call of one byte has done. -/
def WroteB (w : World) (B b : Nat) (bs : List Value) (e : Ending) (w' : World) : Prop :=
  e = .returned .nilIface ∧ Lib.IsBuilderF 93 5 B b bs w' ∧ Below B w w' ∧ Lib.OthersKept 5 (some b) w w'

set_option maxRecDepth 100000 in
set_option maxHeartbeats 1000000 in
theorem writeByte_any (B b : Nat) (bs : List Value) (n : Int) (w : World) (h : Lib.IsBuilderF 93 5 B b bs w) (hlen : bs.length ≤ 1000000) (hBw : B ≤ w.heap.size) :
    Calls Tryz.prog 295 #[.pointer (some ⟨b, 0, none⟩), .int .u8 n] w (WroteB w B b (bs ++ [.int .u8 n])) := by
  obtain ⟨i0, hi, hz0, hz1, hz2⟩ := info_parts info_byte
  have I0 := Lib.hid hi
  have Z0 := Lib.hid hz0
  have Z1 := Lib.hid hz1
  have Z2 := Lib.hid hz2
  clear hi hz0 hz1 hz2
  go_enter Tryz.func295, Tryz.ntmps295
  go_wp2_with fail
  refine (copyCheck_any B b bs _ h).mono ?_
  rintro e w1 ⟨rfl, h1, hb1, hk1⟩
  obtain ⟨hB, v, hbk, hown, hne⟩ := h1
  have c0 : w1.cell? ⟨b, 0, none⟩ = some (.pointer (some ⟨b, 0, none⟩)) := by rw [Lib.cell_of_heap hbk]; rfl
  have c1 : w1.cell? ⟨b, 1, none⟩ = some v := by rw [Lib.cell_of_heap hbk]; rfl
  have hz1 := hb1.size
  have HNW := Lib.hid (cell_one_new w1 (.int .u8 n) 5)
  have HO := Lib.hid (hown.alloc (.cells #[.int .u8 n] 5))
  have HOWN := Lib.hid hown
  clear hown
  go_wp2_with (at_builtin; go_must (refine wpList_append_ownF _ rfl _ _ 22 rfl B 5 i0 (.int .u8 0) 1 1 Tryz.underlying22 I0.out Z0.out Z1.out Z2.out rfl (by decide) v bs.length bs rfl HO.out ⟨w1.heap.size, 0, none⟩ 1 1 [.int .u8 n] rfl rfl HNW.out (by simp [Value.oneCell']) (by unfold maxLen; omega) (by omega) (by simp; omega) ?_))
  intro v' w2 hown' hgrow' _
  have hgrow : World.grownBy (w1.alloc (.cells #[.int .u8 n] 5)) w2 v.ownBlock := hgrow'
  clear hgrow'
  have hlt : b < w1.heap.size := (Array.getElem?_eq_some_iff.1 hbk).1
  have hb2 : w2.heap[b]? = some (.cells #[.pointer (some ⟨b, 0, none⟩), v] 93 (0, 0)) := (hgrow.block b (by simp; omega) (fun e => hne e.symm)).trans ((Below.heap_alloc w1 _ b hlt).trans hbk)
  have d1 : w2.cell? ⟨b, 1, none⟩ = some v := by rw [Lib.cell_of_heap hb2]; rfl
  have f1 : w2.frozen? ⟨b, 1, none⟩ = false := Lib.frozen_of_heap hb2 1
  obtain ⟨ao, n', cap, rfl⟩ : ∃ ao n' cap, v' = .slice ao n' cap := by
    rcases hown'.2 with ⟨hv, _⟩ | ⟨g, cap, cur, fz, hv, _⟩
    · exact ⟨_, _, _, hv⟩
    · exact ⟨_, _, _, hv⟩
  have HK := Lib.hid (((hk1.alloc (.cells #[.int .u8 n] 5)).grown hgrow (Lib.ownsRowF_kind HO.out)).setCell ⟨b, 1, none⟩ rfl (.slice ao n' cap))
  have HP := Lib.hid (Lib.BuilderAtF.put (T := 93) (e := 5) hB hb2 (bs' := bs ++ [.int .u8 n]) (by simpa using hown') (by decide))
  have HW := Lib.hid (((hb1.alloc (by omega) (.cells #[.int .u8 n] 5)).grown hgrow (by simp; omega) (fun k hk => (HOWN.out.lt k hk).1)).setCell (p := ⟨b, 1, none⟩) hB (.slice ao n' cap))
  clear hown' hgrow hbk hb2 c0 c1 HO HOWN HNW hk1
  go_wp2
  go_ret
  exact ⟨rfl, .inr HP.out, HW.out, HK.out⟩

theorem kept_rowW {w w' : World} {b X : Nat} {T : TypeId} {cs : Array Value} (hk : Lib.OthersKept 5 (some b) w w') (hr : Row w X T cs) (h1 : X ≠ b) (h2 : T ≠ 5) : Row w' X T cs :=
  hk X _ hr (fun e => by injection e with e; exact h1 e) (fun c fz e => by injection e with _ e; exact h2 e)
theorem isB_ltW' {B b : Nat} {bs : List Value} {w : World} (h : Lib.IsBuilderF 93 5 B b bs w) : B ≤ w.heap.size := by
  rcases h with h | h
  · obtain ⟨h1, v, hb, _⟩ := h; have := (Array.getElem?_eq_some_iff.1 hb).1; omega
  · obtain ⟨h1, v, hb, _⟩ := h; have := (Array.getElem?_eq_some_iff.1 hb).1; omega
theorem isB_ltW {B b : Nat} {bs : List Value} {w : World} (h : Lib.IsBuilderF 93 5 B b bs w) : b < w.heap.size := by
  rcases h with h | h
  · obtain ⟨_, v, hb, _⟩ := h; exact (Array.getElem?_eq_some_iff.1 hb).1
  · obtain ⟨_, v, hb, _⟩ := h; exact (Array.getElem?_eq_some_iff.1 hb).1

end Go.Proofs.YtifkmehnikfihaaGreat
/- The program's Without: what is left, and its text. -/
namespace Go.Proofs.YtifkmehnikfihaaGreat
open Go.RowKit

theorem meth_write_leaf (c : UInt8) (w : World) : (method 426 284 (.agg #[.string ⟨#[c]⟩]) "loop.example/segmentrooms/impl.write").run Tryz.prog w = .ok (314, .agg #[.string ⟨#[c]⟩]) w := by kernel_rfl
theorem meth_write_branch (c : UInt8) (A : Option Addr) (n cap : Nat) (w : World) : (method 426 286 (.agg #[.string ⟨#[c]⟩, .slice A n cap]) "loop.example/segmentrooms/impl.write").run Tryz.prog w = .ok (316, .agg #[.string ⟨#[c]⟩, .slice A n cap]) w := by kernel_rfl

/-- What the builder holds behind a call that writes. -/
def Written (w : World) (B b : Nat) (s : List UInt8) (e : Ending) (w' : World) : Prop :=
  e = .returned (.tuple #[]) ∧ Lib.IsBuilderF 93 5 B b (Lib.byteCells s) w' ∧ Below B w w' ∧ Lib.OthersKept 5 (some b) w w'

set_option maxRecDepth 100000 in
set_option maxHeartbeats 1000000 in
theorem leafWrite_any (B b : Nat) (c : UInt8) (s : List UInt8) (w : World) (h : Lib.IsBuilderF 93 5 B b (Lib.byteCells s) w) (hs : s.length ≤ 100000) (hBw : B ≤ w.heap.size) :
    Calls Tryz.prog 314 #[.agg #[.string ⟨#[c]⟩], .pointer (some ⟨b, 0, none⟩)] w (Written w B b (s ++ [c])) := by
  have HI := Lib.hid (h.alloc (.cells #[.string ⟨#[c]⟩] 284))
  have HB : Hid (Below B w (w.alloc (.cells #[.string ⟨#[c]⟩] 284))) := (Below.refl _ w).alloc hBw _
  have HK : Hid (Lib.OthersKept 5 (some b) w (w.alloc (.cells #[.string ⟨#[c]⟩] 284))) := (Lib.OthersKept.refl _ _ w).alloc _
  have c0 : (w.alloc (.cells #[.string ⟨#[c]⟩] 284)).cell? ⟨w.heap.size, 0, none⟩ = some (.string ⟨#[c]⟩) := Row.cell (Row.new w 284 #[.string ⟨#[c]⟩]) 0
  clear h
  go_enter Tryz.func314, Tryz.ntmps314
  go_wp2_with fail
  generalize w.alloc (.cells #[.string ⟨#[c]⟩] 284) = W1 at *
  refine (writeString_any B b _ ⟨#[c]⟩ _ HI.out (by rw [byteCells_len]; show _ + 1 ≤ _; omega) (by have := HB.out.size; omega)).mono ?_
  rintro e w2 ⟨rfl, hI2, hb2, hk2⟩
  rw [strCells_one, ← byteCells_app] at hI2
  have HI2 := Lib.hid hI2
  have HB2 := Lib.hid (HB.out.trans hb2)
  have HK2 := Lib.hid (HK.out.trans hk2)
  clear hI2 hb2 hk2
  go_wp2
  go_end0
  exact ⟨rfl, HI2.out, HB2.out, HK2.out⟩

set_option maxRecDepth 100000 in
set_option maxHeartbeats 1000000 in
theorem branchWrite_of (B b : Nat) (c : UInt8) (k : Forest) (A : Option Addr) (cap : Nat) (s : List UInt8) (w : World) (h : Lib.IsBuilderF 93 5 B b (Lib.byteCells s) w) (hs : s.length + (textB k).length ≤ 90000) (hBw : B ≤ w.heap.size)
    (hk : ∀ W, Below B w W → Lib.OthersKept 5 (some b) w W → Lib.IsBuilderF 93 5 B b (Lib.byteCells (s ++ [c] ++ [40])) W → Calls Tryz.prog 317 #[.pointer (some ⟨b, 0, none⟩), .slice A k.len cap] W (Written W B b (s ++ [c] ++ [40] ++ textB k))) :
    Calls Tryz.prog 316 #[.agg #[.string ⟨#[c]⟩, .slice A k.len cap], .pointer (some ⟨b, 0, none⟩)] w (Written w B b (s ++ [c] ++ [40] ++ textB k ++ [41])) := by
  have HI := Lib.hid (h.alloc (.cells #[.string ⟨#[c]⟩, .slice A k.len cap] 286))
  have HB : Hid (Below B w (w.alloc (.cells #[.string ⟨#[c]⟩, .slice A k.len cap] 286))) := (Below.refl _ w).alloc hBw _
  have HO1 : Hid (Lib.OthersKept 5 (some b) w (w.alloc (.cells #[.string ⟨#[c]⟩, .slice A k.len cap] 286))) := (Lib.OthersKept.refl _ _ w).alloc _
  have HK := Lib.hid hk
  have hbX : w.heap.size ≠ b := by have := isB_ltW h; omega
  have HR : Hid (Row (w.alloc (.cells #[.string ⟨#[c]⟩, .slice A k.len cap] 286)) w.heap.size 286 #[.string ⟨#[c]⟩, .slice A k.len cap]) := Row.new w _ _
  have c0 : (w.alloc (.cells #[.string ⟨#[c]⟩, .slice A k.len cap] 286)).cell? ⟨w.heap.size, 0, none⟩ = some (.string ⟨#[c]⟩) := HR.out.cell 0
  clear h hk
  go_enter Tryz.func316, Tryz.ntmps316
  go_wp2_with fail
  generalize w.alloc (.cells #[.string ⟨#[c]⟩, .slice A k.len cap] 286) = W1 at *
  refine (leafWrite_any B b c s _ HI.out (by omega) (by have := HB.out.size; omega)).mono ?_
  rintro e w2 ⟨rfl, hI2, hb2, hk2⟩
  have HO2 := Lib.hid (HO1.out.trans hk2)
  have HI2 := Lib.hid hI2
  have HB2 := Lib.hid (HB.out.trans hb2)
  have HR2 : Hid (Row w2 w.heap.size 286 #[.string ⟨#[c]⟩, .slice A k.len cap]) := kept_rowW hk2 HR.out hbX (by decide)
  clear hI2 hb2 hk2 c0
  go_wp2_with fail
  refine (writeByte_any B b _ 40 _ HI2.out (by rw [byteCells_len]; simp; omega) (by have := HB2.out.size; omega)).mono ?_
  rintro e w3 ⟨rfl, hI3, hb3, hk3⟩
  have HI3 : Hid (Lib.IsBuilderF 93 5 B b (Lib.byteCells (s ++ [c] ++ [40])) w3) := by
    show Lib.IsBuilderF _ _ _ _ _ _
    rw [byteCells_app]
    exact hI3
  have HB3 := Lib.hid (HB2.out.trans hb3)
  have HO3 := Lib.hid (HO2.out.trans hk3)
  have c1 : w3.cell? ⟨w.heap.size, 1, none⟩ = some (.slice A k.len cap) := (kept_rowW hk3 HR2.out hbX (by decide)).cell 1
  clear hI3 hb3 hk3 HR2 HR HI2 HI
  go_wp2_with fail
  refine (HK.out w3 HB3.out HO3.out HI3.out).mono ?_
  rintro e w4 ⟨rfl, hI4, hb4, hk4⟩
  have HO4 := Lib.hid (HO3.out.trans hk4)
  have HI4 := Lib.hid hI4
  have HB4 := Lib.hid (HB3.out.trans hb4)
  clear hI4 hb4 c1 hk4
  go_wp2_with fail
  refine (writeByte_any B b _ 41 _ HI4.out (by rw [byteCells_len]; simp; omega) (by have := HB4.out.size; omega)).mono ?_
  rintro e w5 ⟨rfl, hI5, hb5, hk5⟩
  have HO5 := Lib.hid (HO4.out.trans hk5)
  have HI5 : Hid (Lib.IsBuilderF 93 5 B b (Lib.byteCells (s ++ [c] ++ [40] ++ textB k ++ [41])) w5) := by
    show Lib.IsBuilderF _ _ _ _ _ _
    rw [byteCells_app]
    exact hI5
  have HB5 := Lib.hid (HB4.out.trans hb5)
  clear hI5 hb5 hk5
  go_wp2
  go_end0
  exact ⟨rfl, HI5.out, HB5.out, HO5.out⟩

/-- A row of calls. -/
def CRow (w : World) (q : Nat) : Prop := ∃ cs, Row w q 135 cs
/-- Rows of calls that a builder's writes leave as they are. -/
def SafeC (w : World) (b : Nat) (q : Nat) : Prop := q ≠ b ∧ CRow w q
theorem SafeC.keep {w w' : World} {b q : Nat} (h : SafeC w b q) (hk : Lib.OthersKept 5 (some b) w w') : SafeC w' b q ∧ w'.heap[q]? = w.heap[q]? := by
  obtain ⟨h1, cs, h2⟩ := h
  have h3 : Row w' q 135 cs := kept_rowW hk h2 h1 (by decide)
  exact ⟨⟨h1, cs, h3⟩, (h3 : w'.heap[q]? = _).trans (h2 : w.heap[q]? = _).symm⟩
/-- What the range over calls has before it. -/
def LeftK (w : World) (b : Nat) (f : Forest) (A : Option Addr) (pre rest : Forest) : Prop := f = pre.app rest ∧ (rest.isNil = false → ∃ g, A = some ⟨g, 0, none⟩ ∧ SafeC w b g ∧ Cells w (SafeC w b) rest g pre.len)
theorem LeftK.start {w : World} {b : Nat} {f : Forest} {v : Value} (h : SliceIs w (SafeC w b) v f) : ∃ A cap, v = .slice A f.len cap ∧ LeftK w b f A .nil f := by
  obtain ⟨A, cap, e, h⟩ := h
  refine ⟨A, cap, e, rfl, fun hr => ?_⟩
  rw [Forest.isNil_len] at hr
  have hl : f.len ≠ 0 := of_decide_eq_false hr
  exact h (by omega)
theorem LeftK.kept {w w' : World} {b : Nat} {f pre rest : Forest} {A : Option Addr} (h : LeftK w b f A pre rest) (hk : Lib.OthersKept 5 (some b) w w') : LeftK w' b f A pre rest := by
  refine ⟨h.1, fun hr => ?_⟩
  obtain ⟨g, e, h1, h2⟩ := h.2 hr
  exact ⟨g, e, (h1.keep hk).1, Cells.keep (fun q hq => hq.keep hk) rest g _ (h1.keep hk).2 h2⟩
theorem SliceIs.kept {w w' : World} {b : Nat} {f : Forest} {v : Value} (h : SliceIs w (SafeC w b) v f) (hk : Lib.OthersKept 5 (some b) w w') : SliceIs w' (SafeC w' b) v f := h.keep fun _ hq => hq.keep hk
/-- One call is taken. -/
theorem LeftK.take {w : World} {b : Nat} {f pre k r : Forest} {c : UInt8} {A : Option Addr} (h : LeftK w b f A pre (.cons c k r)) :
    LeftK w b f A (pre.app (.cons c k .nil)) r ∧ pre.len < f.len ∧ k.size < f.size ∧ ∃ g u, A = some ⟨g, 0, none⟩ ∧ w.cell? ⟨g, pre.len, none⟩ = some u ∧ IsCall w (SafeC w b) c k u := by
  obtain ⟨h1, h2⟩ := h
  obtain ⟨g, e, h3, h4⟩ := h2 rfl
  obtain ⟨⟨u, c0, hu⟩, hr⟩ := h4
  have hl : (pre.app (.cons c k .nil)).len = pre.len + 1 := by rw [Forest.app_len]; rfl
  refine ⟨⟨?_, fun _ => ⟨g, e, h3, ?_⟩⟩, ?_, ?_, g, u, e, c0, hu⟩
  · rw [Forest.app_assoc]; exact h1
  · rw [hl]; exact hr
  · rw [h1, Forest.app_len]; show pre.len < pre.len + (r.len + 1); omega
  · rw [h1, Forest.app_size]; show k.size < pre.size + (k.size + r.size + 1); omega
theorem LeftK.done {w : World} {b : Nat} {f pre : Forest} {A : Option Addr} (h : LeftK w b f A pre .nil) : f = pre := by rw [h.1, Forest.app_nil]

/-- What a call writes. -/
theorem callWrite_of (B b : Nat) (c : UInt8) (k : Forest) (v : Value) (s : List UInt8) (w : World) (hu : IsCall w (SafeC w b) c k v) (h : Lib.IsBuilderF 93 5 B b (Lib.byteCells s) w) (hs : s.length + (textB k).length ≤ 90000) (hBw : B ≤ w.heap.size)
    (hk : ∀ (W : World) (u : Value) (s' : List UInt8), k.isNil = false → s'.length ≤ s.length + 2 → SliceIs W (SafeC W b) u k → Below B w W → Lib.IsBuilderF 93 5 B b (Lib.byteCells s') W → Calls Tryz.prog 317 #[.pointer (some ⟨b, 0, none⟩), u] W (Written W B b (s' ++ textB k))) :
    ∃ T x K y, v = .iface T x ∧ (∀ w : World, (method 426 T x "loop.example/segmentrooms/impl.write").run Tryz.prog w = .ok (K, y) w) ∧ (∀ w : World, (callFunc K #[y, .pointer (some ⟨b, 0, none⟩)]).run Tryz.prog w = .ok (.enter K #[y, .pointer (some ⟨b, 0, none⟩)]) w) ∧
      Calls Tryz.prog K #[y, .pointer (some ⟨b, 0, none⟩)] w (Written w B b (s ++ textOne c k)) := by
  rcases hu with ⟨h1, rfl⟩ | ⟨h1, q, cap, rfl, hq, hc⟩
  · refine ⟨_, _, _, _, rfl, meth_write_leaf c, fun w => enters_of Tryz.func314 (by kernel_rfl) rfl _ w, ?_⟩
    have e1 : textOne c k = [c] := by unfold textOne; rw [if_pos h1]
    rw [e1]
    exact leafWrite_any B b c s w h (by omega) hBw
  · refine ⟨_, _, _, _, rfl, meth_write_branch c _ _ _, fun w => enters_of Tryz.func316 (by kernel_rfl) rfl _ w, ?_⟩
    have e1 : s ++ textOne c k = s ++ [c] ++ [40] ++ textB k ++ [41] := by unfold textOne; rw [if_neg (by rw [h1]; decide)]; simp
    rw [e1]
    exact branchWrite_of B b c k _ cap s w h hs hBw fun W hb ho hi => hk W _ _ h1 (by simp) ⟨_, cap, rfl, fun _ => ⟨q, rfl, (hq.keep ho).1, Cells.keep (fun x hx => hx.keep ho) k q 0 (hq.keep ho).2 hc⟩⟩ hb hi

set_option maxRecDepth 100000 in
set_option maxHeartbeats 1000000 in
theorem writeCalls_any (B b : Nat) : ∀ (m : Nat) (f : Forest) (v : Value) (s : List UInt8) (w : World), f.size < m → s.length + 3 * f.size ≤ 80000 → SliceIs w (SafeC w b) v f → Lib.IsBuilderF 93 5 B b (Lib.byteCells s) w → B ≤ w.heap.size →
    Calls Tryz.prog 317 #[.pointer (some ⟨b, 0, none⟩), v] w (Written w B b (s ++ textB f)) := by
  intro m
  induction m with
  | zero => intro f v s w h; omega
  | succ m ih =>
    intro f v s w hm hs hv hI hBw
    obtain ⟨A, cap, rfl, hl0⟩ := LeftK.start hv
    have IH := Lib.hid ih
    have HL0 := Lib.hid hl0
    have HI0 := Lib.hid hI
    have hfl : f.len ≤ 80000 := by have := f.len_size; omega
    clear ih hv hl0 hI
    go_enter Tryz.func317, Tryz.ntmps317
    go_wp2
    go_loopw [8] (fun i wr => ∃ (pre rest : Forest), i = .int .i64 pre.len ∧ Hid (LeftK wr b f A pre rest) ∧ Hid (Lib.IsBuilderF 93 5 B b (Lib.byteCells (s ++ textB pre)) wr) ∧ Hid (Below B w wr) ∧ Hid (Lib.OthersKept 5 (some b) w wr))
      (fun i _ => f.len - (intOf i).toNat)
    case atStart => exact ⟨.nil, f, rfl, HL0, by show Lib.IsBuilderF _ _ _ _ _ _; rw [show textB .nil = [] from rfl, List.append_nil]; exact HI0.out, Below.refl _ _, Lib.OthersKept.refl _ _ _⟩
    case round =>
      obtain ⟨pre, rest, rfl, HL, HI, HB, HO⟩ := hrel
      clear HL0 HI0
      cases rest with
      | nil =>
        have HE := Lib.hid HL.out.done
        have hle : ¬ (pre.len < f.len) := by rw [HE.out]; omega
        go_wp2
        go_end0
        exact ⟨rfl, by rw [HE.out]; exact HI.out, HB.out, HO.out⟩
      | cons c k r =>
        obtain ⟨hnext, hlt, hks, g, u, rfl, c0, hu⟩ := HL.out.take
        have hz := HB.out.size
        have hBr : B ≤ wr.heap.size := by omega
        have hpl := textB_len pre
        have hkl := textB_len k
        have hps : pre.size + (k.size + r.size + 1) = f.size := by rw [HL.out.1, Forest.app_size]; rfl
        have hl1 : (s ++ textB pre).length + 3 * k.size + 3 ≤ 80000 := by rw [List.length_append]; omega
        have HNX := Lib.hid hnext
        have HLN : Hid ((pre.app (.cons c k .nil)).len = pre.len + 1) := by show _ = _; rw [Forest.app_len]; rfl
        have HNB : Hid (s ++ textB (pre.app (.cons c k .nil)) = s ++ textB pre ++ textOne c k) := by
          show _ = _
          rw [textB_app, textB_one, List.append_assoc]
        obtain ⟨T, x, K, y, rfl, hmt, hen, hc⟩ := callWrite_of B b c k u _ wr hu HI.out (by omega) hBr (fun W u' s' _ hs' hsl _ hi' => IH.out k u' s' W (by omega) (by omega) hsl hi' (isB_ltW' hi'))
        have HC := Lib.hid hc
        clear hnext hpl hkl hc hu
        go_wp2_with fail
        refine HC.out.mono ?_
        rintro e w2 ⟨rfl, hI2, hb2, hk2⟩
        rw [← HNB.out] at hI2
        have HI2 := Lib.hid hI2
        have HB2 := Lib.hid (HB.out.trans hb2)
        have HL2 := Lib.hid (HNX.out.kept hk2)
        have HO2 := Lib.hid (HO.out.trans hk2)
        clear hI2 hb2 hk2 HC HNX HL HI HB HO hmt hen c0
        go_wp2
        go_roundw
        case rel => exact ⟨_, r, by rw [HLN.out]; go_num, HL2, HI2, HB2, HO2⟩
        case measure => simp [intOf]; omega

end Go.Proofs.YtifkmehnikfihaaGreat
