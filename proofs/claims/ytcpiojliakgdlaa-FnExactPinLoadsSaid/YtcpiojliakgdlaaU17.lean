/- Joined: Ff Fo Fy Fz Gz Bb Bf Bo. -/
import Derived.Test.YtcpiojliakgdlaaU13
import Derived.Test.YtcpiojliakgdlaaU05
import Derived.Test.YtcpiojliakgdlaaU16
import Derived.Maps.OwnIn
import Derived.Maps.AppendAt
import Derived.Deep.AppendLies
import Derived.Test.YtcpiojliakgdlaaU06
import Derived.Lib.SlicesCompact
import Derived.Sort.OwnSorted
import Derived.Test.YtcpiojliakgdlaaU02
import Derived.Sort.Walk0
import Derived.BigRegion
/- The program's readTrace by its contract. -/
namespace Go.Proofs.Ytcpiojliakgdlaa
open Go.RowKit

/-- What readTrace has done. -/
def TracePost (w : World) (R : Option Forest) (e : Ending) (w' : World) : Prop :=
  ∃ v, e = .returned (.tuple #[v, .bool R.isSome]) ∧ ((∃ f, R = some f ∧ SliceIs w' (fun q => w.heap.size ≤ q ∧ q < w'.heap.size) v f) ∨ (R = none ∧ v = .slice none 0 0)) ∧ Below w.heap.size w w'

theorem Nodes.known {w : World} {B g b : Nat} {l : List Seg} {nb : Nat → Nat} {cv : Nat → Value} (h : Nodes w B g l.length l.length l nb cv) (hb : w.heap.size ≤ b) : Known w b g l nb := by
  obtain ⟨cs, hrow, _, hci⟩ := h.row
  refine ⟨Nat.lt_of_lt_of_le hrow.lt hb, fun i x hx => ?_⟩
  have hi := (List.getElem?_eq_some_iff.1 hx).1
  have hn := h.node i x hi hx
  exact ⟨Nat.lt_of_lt_of_le hn.lt hb, by rw [hrow.cell]; exact hci i hi, hn.cell 0⟩

/-- Where the reader has given up: what the deferred closure leaves. -/
theorem trace_died (R : Option Forest) (w w1 : World) (m : ByteArray) (x : Value) (hx : ∃ A n c, x = .slice A n c) (y : Bool) (hp : R = none) (hb : Below w.heap.size w w1) (h1 : Row w1 w.heap.size 182 #[x]) (h2 : Row w1 (w.heap.size + 1) 4 #[.bool y]) (tmps : Array Value)
    (ht2 : tmps[4]?.getD undef = .pointer (some ⟨w.heap.size, 0, none⟩)) (ht3 : tmps[5]?.getD undef = .pointer (some ⟨w.heap.size + 1, 0, none⟩)) :
    bodyPostD Try.prog Try.f157 (TracePost w R) (Exit.panic [{ v := .iface 9 (.string m), recovered := false }]) { tmps := tmps, defers := [{ target := Target.fn (Fn.func 161) #[.pointer (some ⟨w.heap.size, 0, none⟩), .pointer (some ⟨w.heap.size + 1, 0, none⟩)], args := #[] }] } w1 := by
  refine leaves_cons (f := 161) (args := #[.pointer (some ⟨w.heap.size, 0, none⟩), .pointer (some ⟨w.heap.size + 1, 0, none⟩)]) (by simp) (by simp [go_sem]) ?_
  refine (traceCatch_panicking w.heap.size x y m w1 h1 hx h2).mono ?_
  rintro e u' w'' ⟨rfl, rfl, rfl⟩
  have r1 : Row ((w1.setCell ⟨w.heap.size, 0, none⟩ (.slice none 0 0)).setCell ⟨w.heap.size + 1, 0, none⟩ (.bool false)) w.heap.size 182 #[.slice none 0 0] := (h1.put 0 _).far (p := ⟨w.heap.size + 1, 0, none⟩) (show w.heap.size ≠ w.heap.size + 1 by omega) _
  have r2 : Row ((w1.setCell ⟨w.heap.size, 0, none⟩ (.slice none 0 0)).setCell ⟨w.heap.size + 1, 0, none⟩ (.bool false)) (w.heap.size + 1) 4 #[.bool false] := (h2.far (p := ⟨w.heap.size, 0, none⟩) (show w.heap.size + 1 ≠ w.heap.size by omega) _).put 0 _
  have hb2 : Below w.heap.size w ((w1.setCell ⟨w.heap.size, 0, none⟩ (.slice none 0 0)).setCell ⟨w.heap.size + 1, 0, none⟩ (.bool false)) := (hb.setCell (Nat.le_refl _) _).setCell (by simp) _
  generalize (w1.setCell ⟨w.heap.size, 0, none⟩ (.slice none 0 0)).setCell ⟨w.heap.size + 1, 0, none⟩ (.bool false) = W3 at *
  have e1 : W3.cell? ⟨w.heap.size, 0, none⟩ = some (.slice none 0 0) := r1.cell 0
  have e2 : W3.cell? ⟨w.heap.size + 1, 0, none⟩ = some (.bool false) := r2.cell 0
  have HP : TracePost w R (.returned (.tuple #[.slice none 0 0, .bool false])) W3 := ⟨_, by rw [hp]; rfl, .inr ⟨hp, rfl⟩, hb2⟩
  simp [Leaves, settle, results, Try.results157, go_sem, e1, e2, ht2, ht3]
  exact HP

/-- The world behind the two results' cells. -/
def WtwoF (w : World) : World := (w.alloc (.cells #[.slice none 0 0] 182)).alloc (.cells #[.bool false] 4)
theorem WtwoF_below (w : World) : Below w.heap.size w (WtwoF w) := ((Below.refl _ w).alloc (Nat.le_refl _) _).alloc (by simp) _
theorem WtwoF_one (w : World) : Row (WtwoF w) w.heap.size 182 #[.slice none 0 0] := (Row.new _ _ _).alloc _
theorem WtwoF_two (w : World) : Row (WtwoF w) (w.heap.size + 1) 4 #[.bool false] := by
  have := Row.new (w.alloc (.cells #[.slice none 0 0] 182)) 4 #[.bool false]
  rw [World.size_alloc] at this
  exact this

/-- No calls, false. -/
theorem trace_none (w w1 : World) (hb : Below w.heap.size w w1) (h1 : Row w1 w.heap.size 182 #[.slice none 0 0]) (h2 : Row w1 (w.heap.size + 1) 4 #[.bool false]) :
    let W := (w1.setCell ⟨w.heap.size, 0, none⟩ (.slice none 0 0)).setCell ⟨w.heap.size + 1, 0, none⟩ (.bool false)
    W.cell? ⟨w.heap.size, 0, none⟩ = some (.slice none 0 0) ∧ W.cell? ⟨w.heap.size + 1, 0, none⟩ = some (.bool false) ∧ TracePost w none (.returned (.tuple #[.slice none 0 0, .bool false])) W := by
  have r1 : Row ((w1.setCell ⟨w.heap.size, 0, none⟩ (.slice none 0 0)).setCell ⟨w.heap.size + 1, 0, none⟩ (.bool false)) w.heap.size 182 #[.slice none 0 0] := (h1.put 0 _).far (p := ⟨w.heap.size + 1, 0, none⟩) (show w.heap.size ≠ w.heap.size + 1 by omega) _
  have r2 : Row ((w1.setCell ⟨w.heap.size, 0, none⟩ (.slice none 0 0)).setCell ⟨w.heap.size + 1, 0, none⟩ (.bool false)) (w.heap.size + 1) 4 #[.bool false] := (h2.far (p := ⟨w.heap.size, 0, none⟩) (show w.heap.size + 1 ≠ w.heap.size by omega) _).put 0 _
  exact ⟨r1.cell 0, r2.cell 0, _, rfl, .inr ⟨rfl, rfl⟩, (hb.setCell (Nat.le_refl _) _).setCell (by simp) _⟩

set_option maxRecDepth 100000 in
set_option maxHeartbeats 4000000 in
theorem readTrace_bad (A : Option Addr) (l : List Seg) (c : Nat) (t : ByteArray) (w : World) (hw : Segs w w.heap.size A l) (hl : l.length ≤ 1048576) (hlc : l.length ≤ c) (hcm : c ≤ 9223372036854775807) (hn : Short l) (ht : t.size ≤ 1048576)
    (hv : (validB l && decide (t.size ≤ 80)) = false) :
    Calls Try.prog 157 #[.slice A l.length c, .string t] w (TracePost w none) := by
  have hnil := fun (W : World) (a : Option Addr) (n c : Nat) => Lib.run_eql_slice_nil (P := Try.prog) W 61 72 a n c 0 0 Try.underlying61
  have HW : Hid (Segs (WtwoF w) (WtwoF w).heap.size A l) := (hw.below (WtwoF_below w)).more (WtwoF_below w).size
  have HB : Hid (Below w.heap.size w (WtwoF w)) := WtwoF_below w
  have HR1 := Lib.hid (WtwoF_one w)
  have HR2 := Lib.hid (WtwoF_two w)
  have HWE : Hid (WtwoF w = (w.alloc (.cells #[.slice none 0 0] 182)).alloc (.cells #[.bool false] 4)) := rfl
  clear hw
  cases hvl : validB l with
  | false =>
    have HV := Lib.hid hvl
    clear hv hvl
    go_enter Try.func157, Try.ntmps157
    go_wp2_with fail
    rw [← HWE.out]
    generalize WtwoF w = W1 at *
    refine (nodesOf_bad A l c W1 HW.out hl hlc hcm hn HV.out).mono ?_
    rintro e w1 ⟨rfl, hb1⟩
    have hx1 := HR1.out.below hb1 HR1.out.lt
    have hx2 := HR2.out.below hb1 HR2.out.lt
    have HE := Lib.hid (trace_none w w1 (HB.out.trans (hb1.mono HB.out.size)) hx1 hx2)
    have c1 : w1.cell? ⟨w.heap.size, 0, none⟩ = some (.slice none 0 0) := hx1.cell 0
    have z1 : w1.frozen? ⟨w.heap.size, 0, none⟩ = false := hx1.free 0
    have c2 : w1.cell? ⟨w.heap.size + 1, 0, none⟩ = some (.bool false) := hx2.cell 0
    have z2 : w1.frozen? ⟨w.heap.size + 1, 0, none⟩ = false := hx2.free 0
    clear hb1 hx1 hx2 HWE
    go_wp2
    obtain ⟨d1, d2, hp⟩ := HE.out
    exact bodyPost_ret (v := .tuple #[.slice none 0 0, .bool false]) (by simp [results, Try.results157, go_sem, d1, d2]) rfl hp
  | true =>
    have ht80 : decide (t.size ≤ 80) = false := by rw [hvl, Bool.true_and] at hv; exact hv
    have h80 : 80 < t.size := by have := of_decide_eq_false ht80; omega
    have h80' : (80 : Int) < (t.size : Int) := by omega
    have hb80 : decide (80 < t.size) = true := decide_eq_true h80
    have HV := Lib.hid hvl
    clear hv hvl ht80
    go_enter Try.func157, Try.ntmps157
    go_wp2_with fail
    rw [← HWE.out]
    generalize WtwoF w = W1 at *
    refine (nodesOf_any A l c W1 HW.out hl hlc hcm hn HV.out).mono ?_
    rintro e w1 ⟨g, nb, cv, rfl, hN, hb1⟩
    have hx1 := HR1.out.below hb1 HR1.out.lt
    have hx2 := HR2.out.below hb1 HR2.out.lt
    have HE := Lib.hid (trace_none w w1 (HB.out.trans (hb1.mono HB.out.size)) hx1 hx2)
    have c1 : w1.cell? ⟨w.heap.size, 0, none⟩ = some (.slice none 0 0) := hx1.cell 0
    have z1 : w1.frozen? ⟨w.heap.size, 0, none⟩ = false := hx1.free 0
    have c2 : w1.cell? ⟨w.heap.size + 1, 0, none⟩ = some (.bool false) := hx2.cell 0
    have z2 : w1.frozen? ⟨w.heap.size + 1, 0, none⟩ = false := hx2.free 0
    clear hb1 hx1 hx2 HWE hN
    go_wp2
    obtain ⟨d1, d2, hp⟩ := HE.out
    exact bodyPost_ret (v := .tuple #[.slice none 0 0, .bool false]) (by simp [results, Try.results157, go_sem, d1, d2]) rfl hp

set_option maxRecDepth 100000 in
set_option maxHeartbeats 4000000 in
theorem readTrace_good (A : Option Addr) (l : List Seg) (c : Nat) (t : ByteArray) (w : World) (hw : Segs w w.heap.size A l) (hl : l.length ≤ 1048576) (hlc : l.length ≤ c) (hcm : c ≤ 9223372036854775807) (hn : Short l) (ht : t.size ≤ 80)
    (hv : validB l = true) :
    Calls Try.prog 157 #[.slice A l.length c, .string t] w (TracePost w (whole (calls (callP l) 8 t.data.toList))) := by
  have hmf : ∀ (fn : Fn) (first cap : Array Value) (w : World), (Instr.makeFunc fn first cap).run Try.prog w = .ok (.func fn first cap) w := fun _ _ _ _ => rfl
  have hnil := fun (W : World) (a : Option Addr) (n c : Nat) => Lib.run_eql_slice_nil (P := Try.prog) W 61 72 a n c 0 0 Try.underlying61
  have HW : Hid (Segs (WtwoF w) (WtwoF w).heap.size A l) := (hw.below (WtwoF_below w)).more (WtwoF_below w).size
  have HB : Hid (Below w.heap.size w (WtwoF w)) := WtwoF_below w
  have HR1 := Lib.hid (WtwoF_one w)
  have HR2 := Lib.hid (WtwoF_two w)
  have HWE : Hid (WtwoF w = (w.alloc (.cells #[.slice none 0 0] 182)).alloc (.cells #[.bool false] 4)) := rfl
  have HV := Lib.hid hv
  have h80 : ¬ 80 < t.size := by omega
  have h80' : ¬ (80 : Int) < (t.size : Int) := by omega
  have hb80 : decide (80 < t.size) = false := decide_eq_false h80
  have htl : (⟨t.data.toList.toArray⟩ : ByteArray) = t := rfl
  have HTL := Lib.hid htl
  clear hw hv htl
  go_enter_defers Try.func157, Try.ntmps157
  go_wp2_with fail
  rw [← HWE.out]
  generalize WtwoF w = W1 at *
  refine (nodesOf_any A l c W1 HW.out hl hlc hcm hn HV.out).mono ?_
  rintro e w1 ⟨g, nb, cv, rfl, hN, hb1⟩
  have hbw := HB.out.trans (hb1.mono HB.out.size)
  have HX1 := Lib.hid ((HR1.out.below hb1 HR1.out.lt).alloc (.cells #[.slice (some ⟨g, 0, none⟩) l.length l.length, .string t] 190))
  have HX2 := Lib.hid ((HR2.out.below hb1 HR2.out.lt).alloc (.cells #[.slice (some ⟨g, 0, none⟩) l.length l.length, .string t] 190))
  have HR3 := Lib.hid (Row.new w1 190 #[.slice (some ⟨g, 0, none⟩) l.length l.length, .string t])
  have HKN := Lib.hid ((hN.known (Nat.le_refl _)).below ((Below.refl _ w1).alloc (Nat.le_refl _) (.cells #[.slice (some ⟨g, 0, none⟩) l.length l.length, .string t] 190)))
  have HBW := Lib.hid (hbw.alloc hbw.size (.cells #[.slice (some ⟨g, 0, none⟩) l.length l.length, .string t] 190))
  have hz1 : w.heap.size + 1 < w1.heap.size := (HR2.out.below hb1 HR2.out.lt).lt
  have hsz : w.heap.size ≤ (w1.alloc (.cells #[.slice (some ⟨g, 0, none⟩) l.length l.length, .string t] 190)).heap.size := HBW.out.size
  clear hb1 hbw hN HR1 HR2 HB HW HWE
  go_wp2_with fail
  generalize hWr : w1.alloc (.cells #[.slice (some ⟨g, 0, none⟩) l.length l.length, .string t] 190) = W3 at *
  clear hWr
  have HQ := Lib.hid (readOutermost_any w1.heap.size g l nb HV.out t.data.toList W3 (by simp; omega) HKN.out HR3.out)
  refine Calls.mono HQ.out ?_
  generalize whole (calls (callP l) 8 t.data.toList) = R at *
  rintro e w2 ⟨(⟨f, v, hR, rfl, hof⟩ | ⟨hR, m, rfl⟩), ho2⟩
  · have hx1 := HX1.out.only ho2 (by omega)
    have hx2 := HX2.out.only ho2 (by omega)
    have HB2 := Lib.hid (Only.below HBW.out ho2 hsz (fun k hk e => by omega))
    obtain ⟨A', cap', rfl, hsl⟩ := hof.slice
    have c1 : w2.cell? ⟨w.heap.size, 0, none⟩ = some (.slice none 0 0) := hx1.cell 0
    have z1 : w2.frozen? ⟨w.heap.size, 0, none⟩ = false := hx1.free 0
    have c2 : w2.cell? ⟨w.heap.size + 1, 0, none⟩ = some (.bool false) := hx2.cell 0
    have z2 : w2.frozen? ⟨w.heap.size + 1, 0, none⟩ = false := hx2.free 0
    have HX1' := Lib.hid hx1
    have HX2' := Lib.hid hx2
    have HOF := Lib.hid hof
    have HR := Lib.hid hR
    have HXL := Lib.hid HX2.out.lt
    clear hx1 hx2 hsl hof hR ho2 HX1 HX2 HR3 HKN HBW HQ
    go_wp2
    refine leaves_cons (f := 161) (args := #[.pointer (some ⟨w.heap.size, 0, none⟩), .pointer (some ⟨w.heap.size + 1, 0, none⟩)]) (by simp) (by simp [go_sem]) ?_
    refine (traceCatch_idle ⟨w.heap.size, 0, none⟩ ⟨w.heap.size + 1, 0, none⟩ _).mono ?_
    rintro e u' w'' ⟨rfl, rfl, rfl⟩
    have r1 : Row ((w2.setCell ⟨w.heap.size, 0, none⟩ (.slice A' f.len cap')).setCell ⟨w.heap.size + 1, 0, none⟩ (.bool true)) w.heap.size 182 #[.slice A' f.len cap'] := (HX1'.out.put 0 _).far (p := ⟨w.heap.size + 1, 0, none⟩) (show w.heap.size ≠ w.heap.size + 1 by omega) _
    have r2 : Row ((w2.setCell ⟨w.heap.size, 0, none⟩ (.slice A' f.len cap')).setCell ⟨w.heap.size + 1, 0, none⟩ (.bool true)) (w.heap.size + 1) 4 #[.bool true] := (HX2'.out.far (p := ⟨w.heap.size, 0, none⟩) (show w.heap.size + 1 ≠ w.heap.size by omega) _).put 0 _
    have hb2 : Below w.heap.size w ((w2.setCell ⟨w.heap.size, 0, none⟩ (.slice A' f.len cap')).setCell ⟨w.heap.size + 1, 0, none⟩ (.bool true)) := (HB2.out.setCell (Nat.le_refl _) _).setCell (by simp) _
    have hT : SliceIs ((w2.setCell ⟨w.heap.size, 0, none⟩ (.slice A' f.len cap')).setCell ⟨w.heap.size + 1, 0, none⟩ (.bool true)) (fun q => w.heap.size ≤ q ∧ q < ((w2.setCell ⟨w.heap.size, 0, none⟩ (.slice A' f.len cap')).setCell ⟨w.heap.size + 1, 0, none⟩ (.bool true)).heap.size) (.slice A' f.len cap') f := by
      refine HOF.out.slice.keep fun q hq => ⟨⟨by omega, by simpa [World.setCell] using hq.2⟩, ?_⟩
      have hw1 : w.heap.size + 1 < W3.heap.size := HXL.out
      exact (Below.heap_setCell _ ⟨w.heap.size + 1, 0, none⟩ _ q (by show q ≠ w.heap.size + 1; omega)).trans (Below.heap_setCell w2 ⟨w.heap.size, 0, none⟩ _ q (by show q ≠ w.heap.size; omega))
    have HPP : ∀ W : World, SliceIs W (fun q => w.heap.size ≤ q ∧ q < W.heap.size) (.slice A' f.len cap') f → Below w.heap.size w W → TracePost w R (.returned (.tuple #[.slice A' f.len cap', .bool true])) W := fun W h1 h2 => ⟨_, by rw [HR.out]; rfl, .inl ⟨f, HR.out, h1⟩, h2⟩
    have HPQ := Lib.hid (HPP _ hT hb2)
    clear hT hb2 HPP
    generalize (w2.setCell ⟨w.heap.size, 0, none⟩ (.slice A' f.len cap')).setCell ⟨w.heap.size + 1, 0, none⟩ (.bool true) = W4 at *
    have e1 : W4.cell? ⟨w.heap.size, 0, none⟩ = some (.slice A' f.len cap') := r1.cell 0
    have e2 : W4.cell? ⟨w.heap.size + 1, 0, none⟩ = some (.bool true) := r2.cell 0
    simp [Leaves, settle, results, Try.results157, go_sem, e1, e2]
    exact HPQ.out
  · have hx1 := HX1.out.only ho2 (by omega)
    have hx2 := HX2.out.only ho2 (by omega)
    have hB2 := Only.below HBW.out ho2 hsz (fun k hk e => by omega)
    have HD := Lib.hid (fun tmps h2 h3 => trace_died R w w2 m _ ⟨_, _, _, rfl⟩ _ hR hB2 hx1 hx2 tmps h2 h3)
    clear hx1 hx2 hB2 ho2 hR HQ
    go_wp2
    exact HD.out _ rfl rfl

/-- readTrace: the calls of a trace. -/
theorem readTrace_any (A : Option Addr) (l : List Seg) (c : Nat) (t : ByteArray) (w : World) (hw : Segs w w.heap.size A l) (hl : l.length ≤ 1048576) (hlc : l.length ≤ c) (hcm : c ≤ 9223372036854775807) (hn : Short l) (ht : t.size ≤ 1048576) :
    Calls Try.prog 157 #[.slice A l.length c, .string t] w (TracePost w (traceB l t.data.toList)) := by
  have hlen : t.data.toList.length = t.size := by simp
  rw [traceB_eq, hlen]
  cases hv : (validB l && decide (t.size ≤ 80)) with
  | false =>
    rw [if_neg (by decide)]
    exact readTrace_bad A l c t w hw hl hlc hcm hn ht hv
  | true =>
    rw [if_pos rfl]
    simp only [Bool.and_eq_true, decide_eq_true_eq] at hv
    exact readTrace_good A l c t w hw hl hlc hcm hn hv.2 hv.1

end Go.Proofs.Ytcpiojliakgdlaa
/- The program's needs: writeNeeds, NeedsOf. -/
namespace Go.Proofs.Ytcpiojliakgdlaa
open Go.RowKit

theorem byteCells_app (s t : List UInt8) : Lib.byteCells (s ++ t) = Lib.byteCells s ++ Lib.byteCells t := by simp [Lib.byteCells]
theorem strCells_one (c : UInt8) : Lib.strCells ⟨#[c]⟩ = Lib.byteCells [c] := rfl
theorem byteCells_len (s : List UInt8) : (Lib.byteCells s).length = s.length := by simp [Lib.byteCells]

/-- What the range over calls has before it. -/
def LeftC (w : World) (B : Nat) (f : Forest) (A : Option Addr) (pre rest : Forest) : Prop := f = pre.app rest ∧ (rest.isNil = false → ∃ g, A = some ⟨g, 0, none⟩ ∧ g < B ∧ Cells w (· < B) rest g pre.len)
theorem LeftC.start {w : World} {B : Nat} {f : Forest} {v : Value} (h : SliceIs w (· < B) v f) : ∃ A cap, v = .slice A f.len cap ∧ LeftC w B f A .nil f := by
  obtain ⟨A, cap, e, h⟩ := h
  refine ⟨A, cap, e, rfl, fun hr => ?_⟩
  rw [Forest.isNil_len] at hr
  have hl : f.len ≠ 0 := of_decide_eq_false hr
  exact h (by omega)
theorem LeftC.below {w w' : World} {B : Nat} {f pre rest : Forest} {A : Option Addr} (h : LeftC w B f A pre rest) (hb : Below B w w') : LeftC w' B f A pre rest := by
  refine ⟨h.1, fun hr => ?_⟩
  obtain ⟨g, e, h1, h2⟩ := h.2 hr
  exact ⟨g, e, h1, Cells.keep (fun q hq => ⟨hq, hb.block q hq⟩) rest g _ (hb.block g h1) h2⟩
/-- One call is taken. -/
theorem LeftC.take {w : World} {B : Nat} {f pre k r : Forest} {c : UInt8} {A : Option Addr} (h : LeftC w B f A pre (.cons c k r)) :
    LeftC w B f A (pre.app (.cons c k .nil)) r ∧ pre.len < f.len ∧ k.size < f.size ∧ ∃ g u, A = some ⟨g, 0, none⟩ ∧ g < B ∧ w.cell? ⟨g, pre.len, none⟩ = some u ∧ IsCall w (· < B) c k u := by
  obtain ⟨h1, h2⟩ := h
  obtain ⟨g, e, h3, h4⟩ := h2 rfl
  obtain ⟨⟨u, c0, hu⟩, hr⟩ := h4
  have hl : (pre.app (.cons c k .nil)).len = pre.len + 1 := by rw [Forest.app_len]; rfl
  refine ⟨⟨?_, fun _ => ⟨g, e, h3, ?_⟩⟩, ?_, ?_, g, u, e, h3, c0, hu⟩
  · rw [Forest.app_assoc]; exact h1
  · rw [hl]; exact hr
  · rw [h1, Forest.app_len]; show pre.len < pre.len + (r.len + 1); omega
  · rw [h1, Forest.app_size]; show k.size < pre.size + (k.size + r.size + 1); omega
theorem LeftC.done {w : World} {B : Nat} {f pre : Forest} {A : Option Addr} (h : LeftC w B f A pre .nil) : f = pre := by rw [h.1, Forest.app_nil]
theorem SliceIs.below {w w' : World} {f : Forest} {v : Value} {B : Nat} (h : SliceIs w (· < B) v f) (hb : Below B w w') : SliceIs w' (· < B) v f :=
  h.keep fun q hq => ⟨hq, hb.block q hq⟩

set_option maxRecDepth 100000 in
set_option maxHeartbeats 2000000 in
theorem writeNeeds_any (B b : Nat) : ∀ (n : Nat) (f : Forest) (a : UInt8) (v : Value) (s : List UInt8) (w : World), f.size < n → s.length + 2 * f.size ≤ 3000 → SliceIs w (· < B) v f →
    Lib.IsBuilderF 90 5 B b (Lib.byteCells s) w → B ≤ w.heap.size →
    Calls Try.prog 158 #[.pointer (some ⟨b, 0, none⟩), .string ⟨#[a]⟩, v] w fun e w' => e = .returned (.tuple #[]) ∧ Lib.IsBuilderF 90 5 B b (Lib.byteCells (s ++ needsB a f)) w' ∧ Below B w w' := by
  intro n
  induction n with
  | zero => intro f a v s w h; omega
  | succ n ih =>
    intro f a v s w hn hs hv hI hBw
    obtain ⟨A, cap, rfl, hl0⟩ := LeftC.start hv
    have IH := Lib.hid ih
    have HL0 := Lib.hid hl0
    have HI0 := Lib.hid hI
    have hfl : f.len ≤ 3000 := by have := f.len_size; omega
    clear ih hv hl0 hI
    go_enter Try.func158, Try.ntmps158
    go_wp2
    go_loopw [10] (fun i wr => ∃ (pre rest : Forest), i = .int .i64 pre.len ∧ Hid (LeftC wr B f A pre rest) ∧ Hid (Lib.IsBuilderF 90 5 B b (Lib.byteCells (s ++ needsB a pre)) wr) ∧ Hid (Below B w wr))
      (fun i _ => f.len - (intOf i).toNat)
    case atStart => exact ⟨.nil, f, rfl, HL0, by show Lib.IsBuilderF _ _ _ _ _ _; rw [show needsB a .nil = [] from rfl, List.append_nil]; exact HI0.out, Below.refl _ _⟩
    case round =>
      obtain ⟨pre, rest, rfl, HL, HI, HB⟩ := hrel
      clear HL0 HI0
      cases rest with
      | nil =>
        have HE := Lib.hid HL.out.done
        have hle : ¬ (pre.len < f.len) := by rw [HE.out]; omega
        go_wp2
        go_end0
        exact ⟨rfl, by rw [HE.out]; exact HI.out, HB.out⟩
      | cons c k r =>
        obtain ⟨hnext, hlt, hks, g, u, rfl, hg, c0, hu⟩ := HL.out.take
        obtain ⟨T, x, kv, rfl, hf, hkv⟩ := hu.facts
        obtain ⟨K, y, o, hm, he, hc⟩ := hf.calls
        have hnm := hf.name
        have HC := Lib.hid hc
        have HKV := Lib.hid hkv
        have HNX := Lib.hid hnext
        have hz := HB.out.size
        have hBr : B ≤ wr.heap.size := by omega
        have hpl := needsB_len a pre
        have hps : pre.size + (k.size + r.size + 1) = f.size := by rw [HL.out.1, Forest.app_size]; rfl
        have hl1 : (s ++ needsB a pre).length + 2 * k.size + 2 ≤ 3000 := by rw [List.length_append]; omega
        have HLN : Hid ((pre.app (.cons c k .nil)).len = pre.len + 1) := by show _ = _; rw [Forest.app_len]; rfl
        have HNB : Hid (s ++ needsB a (pre.app (.cons c k .nil)) = s ++ needsB a pre ++ [c] ++ needsB c k ++ [a]) := by
          show _ = _
          rw [needsB_app, needsB_one]; simp
        have hnk := needsB_len c k
        have hl2 : (s ++ needsB a pre ++ [c]).length + 2 * k.size ≤ 3000 := by simp at hl1 ⊢; omega
        have hl3 : (s ++ needsB a pre ++ [c] ++ needsB c k).length + 1 ≤ 3000 := by simp at hl1 ⊢; omega
        clear hnext hf hkv hc hu hpl hps hnk
        generalize s ++ needsB a pre = s1 at *
        go_wp2_with fail
        refine (leafName_any c _).mono ?_
        rintro e w1 ⟨rfl, rfl⟩
        have HI1 := Lib.hid (HI.out.alloc (.cells #[.string ⟨#[c]⟩] 205))
        have HB1 : Hid (Below B wr (wr.alloc (.cells #[.string ⟨#[c]⟩] 205))) := (Below.refl _ wr).alloc hBr _
        go_wp2_with fail
        generalize wr.alloc (.cells #[.string ⟨#[c]⟩] 205) = W1 at *
        refine (writeString_any B b _ ⟨#[c]⟩ _ HI1.out (by rw [byteCells_len]; show _ + 1 ≤ _; omega) (by have := HB1.out.size; omega)).mono ?_
        rintro e w2 ⟨rfl, hI2, hb2, -⟩
        rw [strCells_one, ← byteCells_app] at hI2
        have HI2 := Lib.hid hI2
        have HB2 := Lib.hid (HB1.out.trans hb2)
        clear hI2 hb2 HI1 HB1
        go_wp2_with fail
        refine (leafName_any c _).mono ?_
        rintro e w3 ⟨rfl, rfl⟩
        have HI3 := Lib.hid (HI2.out.alloc (.cells #[.string ⟨#[c]⟩] 205))
        have HB3 : Hid (Below B wr (w2.alloc (.cells #[.string ⟨#[c]⟩] 205))) := HB2.out.alloc (by have := HB2.out.size; omega) _
        go_wp2_with fail
        generalize w2.alloc (.cells #[.string ⟨#[c]⟩] 205) = W3 at *
        refine (HC.out _).mono ?_
        rintro e w4 ⟨rfl, rfl⟩
        have HI4 := Lib.hid (HI3.out.alloc o)
        have HB4 : Hid (Below B wr (W3.alloc o)) := HB3.out.alloc (by have := HB3.out.size; omega) _
        go_wp2_with fail
        generalize W3.alloc o = W4 at *
        refine (IH.out k c kv _ W4 (by omega) hl2 (HKV.out.below HB4.out) HI4.out (by have := HB4.out.size; omega)).mono ?_
        rintro e w5 ⟨rfl, hI5, hb5⟩
        have HI5 := Lib.hid hI5
        have HB5 := Lib.hid (HB4.out.trans hb5)
        clear hI5 hb5 HI4 HB4 HI3 HB3 HI2 HB2
        go_wp2_with fail
        refine (writeString_any B b _ ⟨#[a]⟩ _ HI5.out (by rw [byteCells_len]; show _ + 1 ≤ _; omega) (by have := HB5.out.size; omega)).mono ?_
        rintro e w6 ⟨rfl, hI6, hb6, -⟩
        rw [strCells_one, ← byteCells_app, ← HNB.out] at hI6
        have HI6 := Lib.hid hI6
        have HB6 := Lib.hid (HB.out.trans (HB5.out.trans hb6))
        have HL6 := Lib.hid (HNX.out.below (HB5.out.trans hb6))
        clear hI6 hb6 HI5 HB5 HNX HL HI HB HC HKV hm he hnm c0
        go_wp2
        go_roundw
        case rel => exact ⟨_, r, by rw [HLN.out]; go_num, HL6, HI6, HB6⟩
        case measure => simp [intOf]; omega

set_option maxRecDepth 100000 in
set_option maxHeartbeats 2000000 in
theorem needsOf_any (A : Option Addr) (l : List Seg) (c : Nat) (t : ByteArray) (w : World) (hw : Segs w w.heap.size A l) (hl : l.length ≤ 1048576) (hlc : l.length ≤ c) (hcm : c ≤ 9223372036854775807) (hn : Short l) (ht : t.size ≤ 1048576) :
    Calls Try.prog 146 #[.slice A l.length c, .string t] w fun e w' => e = .returned (.tuple #[.string (needsRes l t), .bool (traceB l t.data.toList).isSome]) ∧ Below w.heap.size w w' := by
  have HQ := Lib.hid (readTrace_any A l c t w hw hl hlc hcm hn ht)
  have HW : Hid (Segs w w.heap.size A l) := hw
  unfold needsRes
  cases hR : traceB l t.data.toList with
  | none =>
    rw [hR] at HQ
    clear hw hn hR
    go_enter Try.func146, Try.ntmps146
    go_wp2_with fail
    refine Calls.mono HQ.out ?_
    rintro e w2 ⟨v, rfl, -, hb⟩
    go_wp2
    go_ret2
    exact ⟨rfl, hb⟩
  | some f =>
    obtain ⟨hv, h80, hcl⟩ := traceB_some hR
    have hsz := (traceB_size hR).1
    have HV := Lib.hid hv
    have hl1 := (valid_all hv).2.2
    rw [hR] at HQ
    clear hw hn hR h80 hcl hv
    go_enter Try.func146, Try.ntmps146
    go_wp2_with fail
    refine Calls.mono HQ.out ?_
    rintro e w2 ⟨v, rfl, (⟨f', hf', hsl⟩ | ⟨h0, -⟩), hb⟩
    · obtain rfl : f = f' := by injection hf'
      have HSL := Lib.hid hsl
      have HB := Lib.hid hb
      obtain ⟨b0, o0, rfl, hB0, c0⟩ := (HW.out.below hb).root HV.out
      clear hsl hb hf' HQ
      go_wp2_with fail
      have HI0 : Hid (Lib.IsBuilderF 90 5 w2.heap.size w2.heap.size (Lib.byteCells []) (w2.alloc (.cells #[.pointer none, .slice none 0 0] 90))) := Lib.IsBuilderF.of (Lib.fresh_isBuilder _ _ w2)
      have HB1 : Hid (Below w2.heap.size w2 (w2.alloc (.cells #[.pointer none, .slice none 0 0] 90))) := (Below.refl _ w2).alloc (Nat.le_refl _) _
      generalize w2.alloc (.cells #[.pointer none, .slice none 0 0] 90) = W1 at *
      refine (writeString_any w2.heap.size w2.heap.size _ ⟨#[rootB l]⟩ _ HI0.out (by rw [byteCells_len]; show 0 + 1 ≤ _; omega) HB1.out.size).mono ?_
      rintro e w3 ⟨rfl, hI3, hb3, -⟩
      rw [strCells_one, ← byteCells_app] at hI3
      have HI3 := Lib.hid hI3
      have HB3 := Lib.hid (HB1.out.trans hb3)
      have HSL3 : Hid (SliceIs w3 (· < w2.heap.size) v f) := SliceIs.below (HSL.out.keep fun q hq => ⟨hq.2, rfl⟩) HB3.out
      clear hI3 hb3 HI0 HB1 HSL
      go_wp2_with fail
      refine (writeNeeds_any w2.heap.size w2.heap.size (f.size + 1) f (rootB l) v _ w3 (by omega) (by simp; omega) HSL3.out HI3.out HB3.out.size).mono ?_
      rintro e w4 ⟨rfl, hI4, hb4⟩
      have HI4 := Lib.hid hI4
      have HB4 := Lib.hid (HB3.out.trans hb4)
      clear hI4 hb4 HI3 HB3 HSL3
      go_wp2_with fail
      refine (Try.Builder_String_any_k w2.heap.size w2.heap.size _ _ HI4.out HB4.out.size).mono ?_
      rintro e w5 ⟨rfl, -, hb5, -⟩
      have HB5 := Lib.hid (HB.out.trans ((HB4.out.trans hb5).mono HB.out.size))
      clear hb5 HI4 HB4
      go_wp2
      go_ret2
      exact ⟨rfl, HB5.out⟩
    · cases h0

end Go.Proofs.Ytcpiojliakgdlaa
/- The program's chains: an iterator that calls itself. -/
namespace Go.Proofs.Ytcpiojliakgdlaa
open Go.RowKit Go.Shelf
attribute [local go_sem] Oper.semAt_some

theorem grown_of_below {X Y : World} (h : Below X.heap.size X Y) : X.grownBy Y none := ⟨h.os, h.tape, h.output, h.size, fun k hk _ => h.block k hk⟩
/-- Blocks for deferred calls, all empty: each loop over an iterator leaves one. -/
def MarksIn (lo hi : Nat) (W : World) (Ls : List Nat) : Prop := Ls.Nodup ∧ ∀ L ∈ Ls, lo ≤ L ∧ L < hi ∧ W.heap[L]? = some (.deferred (some []))
def marksOf (Ls : List Nat) : List Deferred := Ls.map fun L => { target := .collected L, args := #[] }
theorem MarksIn.nil (lo hi : Nat) (W : World) : MarksIn lo hi W [] := ⟨List.nodup_nil, fun L h => by cases h⟩
theorem MarksIn.keep {lo hi D : Nat} {W W' : World} {Ls : List Nat} (h : MarksIn lo hi W Ls) (hk : KeepsN D W W') (hD : D ≤ lo) : MarksIn lo hi W' Ls :=
  ⟨h.1, fun L hL => ⟨(h.2 L hL).1, (h.2 L hL).2.1, hk.same L _ (Nat.le_trans hD (h.2 L hL).1) (h.2 L hL).2.2 (fun c t fz he => by cases he)⟩⟩
theorem MarksIn.up {lo hi hi' : Nat} {W : World} {Ls : List Nat} (h : MarksIn lo hi W Ls) (hh : hi ≤ hi') : MarksIn lo hi' W Ls := ⟨h.1, fun L hL => ⟨(h.2 L hL).1, by have := (h.2 L hL).2.1; omega, (h.2 L hL).2.2⟩⟩
theorem MarksIn.grown {lo hi B : Nat} {W W' : World} {Ls : List Nat} {row : Option Nat} (h : MarksIn lo hi W Ls) (hg : W.grownBy W' row) (hr : ∀ r, row = some r → B ≤ r) (hB : hi ≤ B) : MarksIn lo hi W' Ls :=
  ⟨h.1, fun L hL => ⟨(h.2 L hL).1, (h.2 L hL).2.1, (hg.block L (Array.getElem?_eq_some_iff.1 (h.2 L hL).2.2).1 (fun e => by have := hr L e.symm; have := (h.2 L hL).2.1; omega)).trans (h.2 L hL).2.2⟩⟩
theorem MarksIn.cons {lo hi L : Nat} {W : World} {Ls : List Nat} (h : MarksIn lo hi W Ls) (h1 : hi ≤ L) (h2 : lo ≤ L) (h3 : W.heap[L]? = some (.deferred (some []))) : MarksIn lo (L + 1) W (L :: Ls) :=
  ⟨List.nodup_cons.2 ⟨fun hm => by have := (h.2 L hm).2.1; omega, h.1⟩, fun M hM => by
    rcases List.mem_cons.1 hM with rfl | hM
    · exact ⟨h2, by omega, h3⟩
    · exact ⟨(h.2 M hM).1, by have := (h.2 M hM).2.1; omega, (h.2 M hM).2.2⟩⟩
/-- A function whose frame holds marks alone leaves. -/
theorem marks_leave {F : Fence} {n : Nat} {P : Program} {fn : Func} {tmps : Array Value} {R : Ending → World → Prop} {lo hi : Nat} {I : World → Prop} (hI : ∀ (W : World) (L : Nat), I W → lo ≤ L → W.heap[L]? = some (.deferred (some [])) → I (W.putObj L (.deferred none)))
    (hres : fn.results = #[]) (hR : ∀ W, I W → R (.returned (.tuple #[])) W) : ∀ (Ls : List Nat) (W : World), MarksIn lo hi W Ls → I W → LeavesInM F n P fn tmps R (marksOf Ls) .returning W
  | [], W, _, h => ⟨_, results_none hres _ _ _, hR W h⟩
  | L :: Ls, W, hm, h => by
    have hL := hm.2 L (by simp)
    refine ⟨by simp, .inl ⟨L, _, rfl, run_takeDeferred hL.2.2, ?_⟩⟩
    refine marks_leave (hi := hi) hI hres hR Ls _ ⟨(List.nodup_cons.1 hm.1).2, fun M hM => ?_⟩ (hI W L h hL.1 hL.2.2)
    have hM' := hm.2 M (by simp [hM])
    refine ⟨hM'.1, hM'.2.1, ?_⟩
    rw [World.putObj_heap_other (fun e => (List.nodup_cons.1 hm.1).1 (by subst e; exact hM))]
    exact hM'.2.2

/-- What holds at the head of a round of the iterator. -/
structure ChHead (W : World) (n₀ D : Nat) (f : Forest) (a : List UInt8) (A : Option Addr) (cap Bc Bs l' : Nat) (J : List (List UInt8) → World → Prop) (pre rest : Forest) (Ls : List Nat) (W' : World) : Prop where
  left : LeftC W' n₀ f A pre rest
  come : J (chainsB a pre) W'
  low : Below n₀ W W'
  size : W.heap.size + 1 ≤ W'.heap.size
  boxY : BoxAt W' n₀ D W.heap.size (.func (.yield l') #[] #[]) 150
  boxC : BoxAt W' n₀ D Bc (.slice A f.len cap) 182
  boxS : BoxAt W' n₀ D Bs (.string (strOf a)) 9
  marks : MarksIn W.heap.size W'.heap.size W' Ls
/-- Later, with nothing old written. -/
theorem ChHead.later {W : World} {n₀ D : Nat} {f : Forest} {a : List UInt8} {A : Option Addr} {cap Bc Bs l' : Nat} {J : List (List UInt8) → World → Prop} {pre rest : Forest} {Ls : List Nat} {W1 W2 : World} (h : ChHead W n₀ D f a A cap Bc Bs l' J pre rest Ls W1)
    (hJ : OwnFrom W.heap.size J) (hb : Below W1.heap.size W1 W2) (hn : n₀ ≤ W.heap.size) : ChHead W n₀ D f a A cap Bc Bs l' J pre rest Ls W2 := by
  have hg := grown_of_below hb
  have hz := h.size
  have hb0 : Below n₀ W1 W2 := hb.mono (by omega)
  exact ⟨h.left.below hb0, hJ _ _ _ _ h.come hg (fun r e => by cases e), h.low.trans hb0, Nat.le_trans h.size hb.size, h.boxY.grown hg (fun r e => by cases e), h.boxC.grown hg (fun r e => by cases e), h.boxS.grown hg (fun r e => by cases e),
    (h.marks.grown hg (B := W1.heap.size) (fun r e => by cases e) (Nat.le_refl _)).up hb.size⟩
/-- What holds between two rounds of the loop within. -/
structure ChMid (W W3 : World) (n₀ D hi : Nat) (n : Nat) (a : List UInt8) (A : Option Addr) (cap Bc Bs l' : Nat) (Ls : List Nat) (W' : World) : Prop where
  low : Below n₀ W3 W'
  size : hi ≤ W'.heap.size
  boxY : BoxAt W' n₀ D W.heap.size (.func (.yield l') #[] #[]) 150
  boxC : BoxAt W' n₀ D Bc (.slice A n cap) 182
  boxS : BoxAt W' n₀ D Bs (.string (strOf a)) 9
  marks : MarksIn W.heap.size hi W' Ls
theorem ChMid.grown {W W3 : World} {n₀ D hi n : Nat} {a : List UInt8} {A : Option Addr} {cap Bc Bs l' : Nat} {Ls : List Nat} {X Y : World} {row : Option Nat} (h : ChMid W W3 n₀ D hi n a A cap Bc Bs l' Ls X) (hg : X.grownBy Y row)
    (hr : ∀ r, row = some r → hi ≤ r ∧ ∃ o : Obj, X.heap[r]? = some o ∧ o.isCells = false) (hn : n₀ ≤ hi) : ChMid W W3 n₀ D hi n a A cap Bc Bs l' Ls Y :=
  ⟨h.low.grown hg (Nat.le_trans hn h.size) (fun k e => Nat.le_trans hn (hr k e).1), Nat.le_trans h.size hg.size, h.boxY.grown hg (fun r e => (hr r e).2), h.boxC.grown hg (fun r e => (hr r e).2), h.boxS.grown hg (fun r e => (hr r e).2), h.marks.grown hg (fun r e => (hr r e).1) (Nat.le_refl _)⟩
theorem ChMid.keep {W W3 : World} {n₀ D hi n : Nat} {a : List UInt8} {A : Option Addr} {cap Bc Bs l' : Nat} {Ls : List Nat} {X Y : World} (h : ChMid W W3 n₀ D hi n a A cap Bc Bs l' Ls X) (hb : Below n₀ X Y) (hk : KeepsN D X Y) (hD : D ≤ W.heap.size) : ChMid W W3 n₀ D hi n a A cap Bc Bs l' Ls Y :=
  ⟨h.low.trans hb, Nat.le_trans h.size hk.size, h.boxY.keep hb hk, h.boxC.keep hb hk, h.boxS.keep hb hk, h.marks.keep hk hD⟩
end Go.Proofs.Ytcpiojliakgdlaa
/- Chains gathered into a slice: the program's ChainsOf and CountCalls. -/
namespace Go.Proofs.Ytcpiojliakgdlaa
open Go.RowKit Go.Shelf
attribute [local go_sem] Oper.semAt_some

def txt (x : List UInt8) : Value := .string (strOf x)
theorem row_grownT {W W' : World} {b : Nat} {t : TypeId} {cs : Array Value} {row : Option Nat} (h : Row W b t cs) (hg : W.grownBy W' row) {B : Nat} (hr : ∀ r, row = some r → B ≤ r ∧ ∃ o : Obj, W.heap[r]? = some o ∧ o.isCells = false) : Row W' b t cs :=
  (hg.block b h.lt (fun he => by
    obtain ⟨_, o, ho, hc⟩ := hr b he.symm
    have h' : W.heap[b]? = some (.cells cs t (0, 0)) := h
    rw [h'] at ho
    injection ho with ho
    subst ho
    cases hc)).trans h
theorem own_grownT {W W' : World} {base n : Nat} {e : TypeId} {v : Value} {xs : List Value} {row : Option Nat} (h : W.ownsRow base e 1 v n xs) (hg : W.grownBy W' row) (hr : ∀ r, row = some r → ∃ o : Obj, W.heap[r]? = some o ∧ o.isCells = false) : W'.ownsRow base e 1 v n xs :=
  own_keep h fun g hb => hg.block g ((h.lt g hb).2) (fun he => by
    obtain ⟨o, ho, hc⟩ := hr g he.symm
    rcases h.2 with ⟨rfl, _⟩ | ⟨g', cap, cur, rfl, _, hh, _⟩
    · simp [Value.ownBlock] at hb
    · have : g' = g := by simpa [Value.ownBlock] using hb
      subst this
      rw [hh] at ho
      injection ho with ho
      subst ho
      cases hc)

/-- What is firm stays. -/
def SteadyT (W W' : World) : Prop := ∀ (k : Nat) (o : Obj), W.heap[k]? = some o → Firm o → W'.heap[k]? = some o

/-- One node's pointer is put behind those that were gathered: only a row of two cells or more is written in place. -/
theorem run_append_firmT (w : World) (ty base n : Nat) (v : Value) (xs : List Value) (hown : w.ownsRow base 9 1 v n xs) (h0 : n = 0 → v = .slice none 0 0) (ad : Addr) (u : Value)
    (hnews : ∀ j y, [u][j]? = some y → w.cell? (ad.add j) = some y) (h1 : ∀ y ∈ [u], y.oneCell' = true) (hn : n ≤ 1000) (hbase : base ≤ w.heap.size) :
    ∃ g cap w', (Builtin.append_ #[40, 40] ty #[v, .slice (some ad) 1 1]).run Try.prog w = .ok (.slice (some ⟨g, 0, none⟩) (n + 1) cap) w' ∧
      w'.ownsRow base 9 1 (.slice (some ⟨g, 0, none⟩) (n + 1) cap) (n + 1) (xs ++ [u]) ∧ w.grownBy w' v.ownBlock ∧ SteadyT w w' := by
  obtain ⟨i0, hi, hz0, hz1, hz2⟩ := info_parts info_str
  obtain ⟨v', w', hr, h2, h3, -, -⟩ := run_append_own_at (P := Try.prog) w base 40 ty 9 i0 (.string ByteArray.empty) 1 16 Try.underlying40 hi hz0 hz1 hz2 rfl (by decide) v n xs hown ad 1 1 [u] rfl hnews h1 (by unfold maxLen; omega) (by omega) hbase
  obtain ⟨g, cap, rfl⟩ := own_form h2 (by omega)
  refine ⟨g, cap, w', hr, h2, h3, ?_⟩
  rcases hown.2 with ⟨rfl, rfl⟩ | ⟨g', cap', cur, rfl, hbg, hg, hnc, hcm, hcs, htake⟩
  · have hr2 := run_append_nil (P := Try.prog) w 40 ty 9 i0 (.string ByteArray.empty) Try.underlying40 hi hz0 ad 1 1 [u] (by rw [hz1]; rfl) hnews (by decide) (by decide) (by rw [hz2]; decide)
    rw [hr] at hr2
    injection hr2 with _ hw
    subst hw
    exact fun k o hk _ => (Below.heap_alloc w.drew _ k (Array.getElem?_eq_some_iff.1 hk).1).trans hk
  · by_cases hc : n + 1 ≤ cap'
    · refine fun k o hk hf => (h3.block k (Array.getElem?_eq_some_iff.1 hk).1 (fun he => ?_)).trans hk
      have he' : k = g' := by simpa [Value.ownBlock] using he
      subst he'
      rw [hg] at hk
      injection hk with hk
      have := (hf cur _ _ hk.symm).2.resolve_right (by decide)
      have hn1 : 0 < n := Nat.pos_of_ne_zero fun e => by have := h0 e; cases this
      omega
    · obtain ⟨v2, w2, hr2, -, hg2⟩ := run_append_arg_grows (P := Try.prog) w 40 ty 9 i0 (.string ByteArray.empty) 1 16 Try.underlying40 hi hz0 hz1 hz2 rfl (by decide) ⟨g', 0, none⟩ n cap' xs hown.1
        (fun j y hj => by
          have h5 : w.cell? ⟨g', 0 + j, none⟩ = some y := by
            rw [Nat.zero_add, hown.cellAt j (by have := (List.getElem?_eq_some_iff.1 hj).1; have := hown.1; omega)]
            exact hj
          rw [WideShapes.add_plain]
          exact h5) ad 1 1 [u] rfl hnews (by omega) (by unfold maxLen; omega) (by omega)
      rw [hr] at hr2
      injection hr2 with _ hw
      subst hw
      exact fun k o hk _ => (hg2.block k (Array.getElem?_eq_some_iff.1 hk).1 (fun he => by cases he)).trans hk

/-- What was gathered: the box holds a slice of the call's own. -/
structure GathT (w : World) (T : List (List UInt8)) (W : World) : Prop where
  ex : ∃ v, Row W w.heap.size 40 #[v] ∧ W.ownsRow (w.heap.size + 1) 9 1 v T.length (T.map txt) ∧ (T.length = 0 → v = .slice none 0 0)
  below : Below w.heap.size w W
theorem GathT.grown {w W W' : World} {T : List (List UInt8)} {B : Nat} {row : Option Nat} (h : GathT w T W) (hg : W.grownBy W' row) (hB : w.heap.size ≤ B) (hr : ∀ r, row = some r → B ≤ r ∧ ∃ o : Obj, W.heap[r]? = some o ∧ o.isCells = false) : GathT w T W' := by
  obtain ⟨⟨v, h1, h2, h3⟩, hb⟩ := h
  exact ⟨⟨v, row_grownT h1 hg hr, own_grownT h2 hg (fun r e => (hr r e).2), h3⟩, hb.grown hg hb.size (fun k e => by have := (hr k e).1; omega)⟩

end Go.Proofs.Ytcpiojliakgdlaa
/- How often each segment is called: the program's. -/
namespace Go.Proofs.Ytcpiojliakgdlaa
open Go.RowKit Go.Shelf
attribute [local go_sem] Oper.semAt_some

end Go.Proofs.Ytcpiojliakgdlaa
/- Chains and the kinds of their last calls: plain. -/
namespace Go.Proofs.Ytcpiojliakgdlaa
open Go.RowKit

end Go.Proofs.Ytcpiojliakgdlaa
/- Texts put into their places one by one, and sorted and compacted at once: plain. -/
namespace Go.Proofs.Ytcpiojliakgdlaa
open Go.RowKit

abbrev Txt := List UInt8
/-- One text in its place. -/
def putB (L : List Txt) (s : Txt) : List Txt :=
  if (L.dropWhile fun x => decide (x < s)).head? = some s then L else L.takeWhile (fun x => decide (x < s)) ++ s :: L.dropWhile (fun x => decide (x < s))
def putAll (L : List Txt) (xs : List Txt) : List Txt := xs.foldl putB L
theorem take_drop_while {p : Txt → Bool} (L : List Txt) : L.takeWhile p ++ L.dropWhile p = L := List.takeWhile_append_dropWhile
theorem takeWhile_all {p : Txt → Bool} : ∀ (L : List Txt), ∀ x ∈ L.takeWhile p, p x = true
  | [], x, h => by cases h
  | y :: L, x, h => by
    rw [List.takeWhile_cons] at h
    by_cases hy : p y = true
    · rw [if_pos hy] at h
      rcases List.mem_cons.1 h with rfl | h
      · exact hy
      · exact takeWhile_all L x h
    · rw [if_neg hy] at h
      cases h
theorem dropWhile_head {p : Txt → Bool} : ∀ (L : List Txt) (y : Txt) (r : List Txt), L.dropWhile p = y :: r → p y = false
  | [], y, r, h => by cases h
  | z :: L, y, r, h => by
    rw [List.dropWhile_cons] at h
    by_cases hz : p z = true
    · rw [if_pos hz] at h
      exact dropWhile_head L y r h
    · rw [if_neg hz] at h
      injection h with h1 _
      subst h1
      simpa using hz
theorem txt_tri (x y : Txt) : x < y ∨ x = y ∨ y < x := by
  by_cases h1 : x < y
  · exact .inl h1
  · by_cases h2 : y < x
    · exact .inr (.inr h2)
    · exact .inr (.inl (List.le_antisymm (List.not_lt.1 h2) (List.not_lt.1 h1)))
theorem txt_irr (x : Txt) : ¬ x < x := List.lt_irrefl x
theorem txt_trans {x y z : Txt} (h1 : x < y) (h2 : y < z) : x < z := List.lt_trans h1 h2
theorem putB_mem (L : List Txt) (s x : Txt) : x ∈ putB L s ↔ x ∈ L ∨ x = s := by
  have e := take_drop_while (p := fun x => decide (x < s)) L
  unfold putB
  by_cases h : (L.dropWhile fun x => decide (x < s)).head? = some s
  · rw [if_pos h]
    constructor
    · exact .inl
    · rintro (h' | rfl)
      · exact h'
      · have h2 : x ∈ L.dropWhile fun y => decide (y < x) := List.mem_of_mem_head? h
        rw [← e]
        exact List.mem_append.2 (.inr h2)
  · rw [if_neg h]
    constructor
    · intro h'
      rcases List.mem_append.1 h' with h' | h'
      · exact .inl (by rw [← e]; exact List.mem_append.2 (.inl h'))
      · rcases List.mem_cons.1 h' with h' | h'
        · exact .inr h'
        · exact .inl (by rw [← e]; exact List.mem_append.2 (.inr h'))
    · rintro (h' | rfl)
      · rw [← e] at h'
        rcases List.mem_append.1 h' with h' | h'
        · exact List.mem_append.2 (.inl h')
        · exact List.mem_append.2 (.inr (List.mem_cons_of_mem _ h'))
      · exact List.mem_append.2 (.inr List.mem_cons_self)
theorem putB_sorted {L : List Txt} (hL : L.Pairwise (· < ·)) (s : Txt) : (putB L s).Pairwise (· < ·) := by
  have e := take_drop_while (p := fun x => decide (x < s)) L
  unfold putB
  by_cases h : (L.dropWhile fun x => decide (x < s)).head? = some s
  · rw [if_pos h]; exact hL
  · rw [if_neg h]
    rw [← e, List.pairwise_append] at hL
    obtain ⟨h1, h2, h3⟩ := hL
    have hlo : ∀ x ∈ L.takeWhile (fun x => decide (x < s)), x < s := fun x hx => of_decide_eq_true (takeWhile_all (p := fun x => decide (x < s)) L x hx)
    have hhi : ∀ x ∈ L.dropWhile (fun x => decide (x < s)), s < x := by
      cases hd : L.dropWhile (fun x => decide (x < s)) with
      | nil => intro x hx; cases hx
      | cons y r =>
        rw [hd] at h h2
        have hy := of_decide_eq_false (dropWhile_head (p := fun x => decide (x < s)) L y r hd)
        have hsy : s < y := by
          rcases txt_tri y s with h' | h' | h'
          · exact absurd h' hy
          · exact absurd (by rw [h']; rfl) h
          · exact h'
        intro x hx
        rcases List.mem_cons.1 hx with rfl | hx
        · exact hsy
        · exact txt_trans hsy ((List.pairwise_cons.1 h2).1 x hx)
    rw [List.pairwise_append]
    refine ⟨h1, List.pairwise_cons.2 ⟨hhi, h2⟩, fun a ha b hb => ?_⟩
    rcases List.mem_cons.1 hb with rfl | hb
    · exact hlo a ha
    · exact h3 a ha b hb
theorem putAll_sorted : ∀ (xs L : List Txt), L.Pairwise (· < ·) → (putAll L xs).Pairwise (· < ·)
  | [], _, h => h
  | x :: xs, L, h => putAll_sorted xs (putB L x) (putB_sorted h x)
theorem putAll_mem : ∀ (xs L : List Txt) (x : Txt), x ∈ putAll L xs ↔ x ∈ L ∨ x ∈ xs
  | [], L, x => by simp [putAll]
  | y :: xs, L, x => by
    show x ∈ putAll (putB L y) xs ↔ _
    rw [putAll_mem xs (putB L y) x, putB_mem, List.mem_cons]
    constructor
    · rintro ((h | h) | h)
      · exact .inl h
      · exact .inr (.inl h)
      · exact .inr (.inr h)
    · rintro (h | h | h)
      · exact .inl (.inl h)
      · exact .inl (.inr h)
      · exact .inr h
end Go.Proofs.Ytcpiojliakgdlaa
/- spec.l4Put: a text put into its place in a row of texts. -/
namespace Go.Proofs.Ytcpiojliakgdlaa
open Go.RowKit

end Go.Proofs.Ytcpiojliakgdlaa
