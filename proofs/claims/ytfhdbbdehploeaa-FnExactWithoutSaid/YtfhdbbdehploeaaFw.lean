/- The program's Without: what is left, and its text. -/
import Derived.Test.YtfhdbbdehploeaaFo
import Derived.Lib.FrozenHead2
namespace Go.Proofs.Ytfhdbbdehploeaa
open Go.RowKit

/-- What a writing call of one byte has done. -/
def WroteB (w : World) (B b : Nat) (bs : List Value) (e : Ending) (w' : World) : Prop :=
  e = .returned .nilIface ∧ Lib.IsBuilderF 94 5 B b bs w' ∧ Below B w w' ∧ Lib.OthersKept 5 (some b) w w'

set_option maxRecDepth 100000 in
set_option maxHeartbeats 1000000 in
theorem writeByte_any (B b : Nat) (bs : List Value) (n : Int) (w : World) (h : Lib.IsBuilderF 94 5 B b bs w) (hlen : bs.length ≤ 1000000) (hBw : B ≤ w.heap.size) :
    Calls Try.prog 217 #[.pointer (some ⟨b, 0, none⟩), .int .u8 n] w (WroteB w B b (bs ++ [.int .u8 n])) := by
  obtain ⟨i0, hi, hz0, hz1, hz2⟩ := info_parts info_byte
  have I0 := Lib.hid hi
  have Z0 := Lib.hid hz0
  have Z1 := Lib.hid hz1
  have Z2 := Lib.hid hz2
  clear hi hz0 hz1 hz2
  go_enter Try.func217, Try.ntmps217
  go_wp2_with fail
  refine (copyCheck_any B b bs _ h).mono ?_
  rintro e w1 ⟨rfl, h1, hb1, hk1⟩
  obtain ⟨hB, v, hbk, hown, hne⟩ := h1
  have c0 : w1.cell? ⟨b, 0, none⟩ = some (.pointer (some ⟨b, 0, none⟩)) := by rw [Lib.cell_of_heap hbk]; rfl
  have c1 : w1.cell? ⟨b, 1, none⟩ = some v := by rw [Lib.cell_of_heap hbk]; rfl
  have hz1 := hb1.size
  have HNW := Lib.hid (cell_one_new w1 (.int .u8 n) 5)
  have HO := Lib.hid (hown.alloc (.cells #[.int .u8 n] 5))
  have HOWN := Lib.hid hown
  clear hown
  go_wp2_with (at_builtin; go_must (refine wpList_append_ownF _ rfl _ _ 22 rfl B 5 i0 (.int .u8 0) 1 1 Try.underlying22 I0.out Z0.out Z1.out Z2.out rfl (by decide) v bs.length bs rfl HO.out ⟨w1.heap.size, 0, none⟩ 1 1 [.int .u8 n] rfl rfl HNW.out (by simp [Value.oneCell']) (by unfold maxLen; omega) (by omega) (by simp; omega) ?_))
  intro v' w2 hown' hgrow' _
  have hgrow : World.grownBy (w1.alloc (.cells #[.int .u8 n] 5)) w2 v.ownBlock := hgrow'
  clear hgrow'
  have hlt : b < w1.heap.size := (Array.getElem?_eq_some_iff.1 hbk).1
  have hb2 : w2.heap[b]? = some (.cells #[.pointer (some ⟨b, 0, none⟩), v] 94 (0, 0)) := (hgrow.block b (by simp; omega) (fun e => hne e.symm)).trans ((Below.heap_alloc w1 _ b hlt).trans hbk)
  have d1 : w2.cell? ⟨b, 1, none⟩ = some v := by rw [Lib.cell_of_heap hb2]; rfl
  have f1 : w2.frozen? ⟨b, 1, none⟩ = false := Lib.frozen_of_heap hb2 1
  obtain ⟨ao, n', cap, rfl⟩ : ∃ ao n' cap, v' = .slice ao n' cap := by
    rcases hown'.2 with ⟨hv, _⟩ | ⟨g, cap, cur, fz, hv, _⟩
    · exact ⟨_, _, _, hv⟩
    · exact ⟨_, _, _, hv⟩
  have HK := Lib.hid (((hk1.alloc (.cells #[.int .u8 n] 5)).grown hgrow (Lib.ownsRowF_kind HO.out)).setCell ⟨b, 1, none⟩ rfl (.slice ao n' cap))
  have HP := Lib.hid (Lib.BuilderAtF.put (T := 94) (e := 5) hB hb2 (bs' := bs ++ [.int .u8 n]) (by simpa using hown') (by decide))
  have HW := Lib.hid (((hb1.alloc (by omega) (.cells #[.int .u8 n] 5)).grown hgrow (by simp; omega) (fun k hk => (HOWN.out.lt k hk).1)).setCell (p := ⟨b, 1, none⟩) hB (.slice ao n' cap))
  clear hown' hgrow hbk hb2 c0 c1 HO HOWN HNW hk1
  go_wp2
  go_ret
  exact ⟨rfl, .inr HP.out, HW.out, HK.out⟩

theorem meth_write_leaf (c : UInt8) (w : World) : (method 344 189 (.agg #[.string ⟨#[c]⟩]) "loop.example/segmentrooms/impl.write").run Try.prog w = .ok (235, .agg #[.string ⟨#[c]⟩]) w := by kernel_rfl
theorem meth_write_branch (c : UInt8) (A : Option Addr) (n cap : Nat) (w : World) : (method 344 191 (.agg #[.string ⟨#[c]⟩, .slice A n cap]) "loop.example/segmentrooms/impl.write").run Try.prog w = .ok (237, .agg #[.string ⟨#[c]⟩, .slice A n cap]) w := by kernel_rfl

/-- What the builder holds behind a call that writes. -/
def Written (w : World) (B b : Nat) (s : List UInt8) (e : Ending) (w' : World) : Prop :=
  e = .returned (.tuple #[]) ∧ Lib.IsBuilderF 94 5 B b (Lib.byteCells s) w' ∧ Below B w w' ∧ Lib.OthersKept 5 (some b) w w'

set_option maxRecDepth 100000 in
set_option maxHeartbeats 1000000 in
theorem leafWrite_any (B b : Nat) (c : UInt8) (s : List UInt8) (w : World) (h : Lib.IsBuilderF 94 5 B b (Lib.byteCells s) w) (hs : s.length ≤ 100000) (hBw : B ≤ w.heap.size) :
    Calls Try.prog 235 #[.agg #[.string ⟨#[c]⟩], .pointer (some ⟨b, 0, none⟩)] w (Written w B b (s ++ [c])) := by
  have HI := Lib.hid (h.alloc (.cells #[.string ⟨#[c]⟩] 189))
  have HB : Hid (Below B w (w.alloc (.cells #[.string ⟨#[c]⟩] 189))) := (Below.refl _ w).alloc hBw _
  have HK : Hid (Lib.OthersKept 5 (some b) w (w.alloc (.cells #[.string ⟨#[c]⟩] 189))) := (Lib.OthersKept.refl _ _ w).alloc _
  have c0 : (w.alloc (.cells #[.string ⟨#[c]⟩] 189)).cell? ⟨w.heap.size, 0, none⟩ = some (.string ⟨#[c]⟩) := Row.cell (Row.new w 189 #[.string ⟨#[c]⟩]) 0
  clear h
  go_enter Try.func235, Try.ntmps235
  go_wp2_with fail
  generalize w.alloc (.cells #[.string ⟨#[c]⟩] 189) = W1 at *
  refine (writeString_any B b _ ⟨#[c]⟩ _ HI.out (by rw [byteCells_len]; show _ + 1 ≤ _; omega) (by have := HB.out.size; omega)).mono ?_
  rintro e w2 ⟨rfl, hI2, hb2, hk2⟩
  rw [strCells_one, ← byteCells_app] at hI2
  have HI2 := Lib.hid hI2
  have HB2 := Lib.hid (HB.out.trans hb2)
  have HK2 := Lib.hid (HK.out.trans hk2)
  clear hI2 hb2 hk2
  go_wp2
  go_end0
  exact ⟨rfl, HI2.out, HB2.out, HK2.out⟩

theorem kept_row {w w' : World} {b X : Nat} {T : TypeId} {cs : Array Value} (hk : Lib.OthersKept 5 (some b) w w') (hr : Row w X T cs) (h1 : X ≠ b) (h2 : T ≠ 5) : Row w' X T cs :=
  hk X _ hr (fun e => by injection e with e; exact h1 e) (fun c fz e => by injection e with _ e; exact h2 e)
theorem isB_lt' {B b : Nat} {bs : List Value} {w : World} (h : Lib.IsBuilderF 94 5 B b bs w) : B ≤ w.heap.size := by
  rcases h with h | h
  · obtain ⟨h1, v, hb, _⟩ := h; have := (Array.getElem?_eq_some_iff.1 hb).1; omega
  · obtain ⟨h1, v, hb, _⟩ := h; have := (Array.getElem?_eq_some_iff.1 hb).1; omega
theorem isB_lt {B b : Nat} {bs : List Value} {w : World} (h : Lib.IsBuilderF 94 5 B b bs w) : b < w.heap.size := by
  rcases h with h | h
  · obtain ⟨_, v, hb, _⟩ := h; exact (Array.getElem?_eq_some_iff.1 hb).1
  · obtain ⟨_, v, hb, _⟩ := h; exact (Array.getElem?_eq_some_iff.1 hb).1

set_option maxRecDepth 100000 in
set_option maxHeartbeats 1000000 in
theorem branchWrite_of (B b : Nat) (c : UInt8) (k : Forest) (A : Option Addr) (cap : Nat) (s : List UInt8) (w : World) (h : Lib.IsBuilderF 94 5 B b (Lib.byteCells s) w) (hs : s.length + (textB k).length ≤ 90000) (hBw : B ≤ w.heap.size)
    (hk : ∀ W, Below B w W → Lib.OthersKept 5 (some b) w W → Lib.IsBuilderF 94 5 B b (Lib.byteCells (s ++ [c] ++ [40])) W → Calls Try.prog 129 #[.pointer (some ⟨b, 0, none⟩), .slice A k.len cap] W (Written W B b (s ++ [c] ++ [40] ++ textB k))) :
    Calls Try.prog 237 #[.agg #[.string ⟨#[c]⟩, .slice A k.len cap], .pointer (some ⟨b, 0, none⟩)] w (Written w B b (s ++ [c] ++ [40] ++ textB k ++ [41])) := by
  have HI := Lib.hid (h.alloc (.cells #[.string ⟨#[c]⟩, .slice A k.len cap] 191))
  have HB : Hid (Below B w (w.alloc (.cells #[.string ⟨#[c]⟩, .slice A k.len cap] 191))) := (Below.refl _ w).alloc hBw _
  have HO1 : Hid (Lib.OthersKept 5 (some b) w (w.alloc (.cells #[.string ⟨#[c]⟩, .slice A k.len cap] 191))) := (Lib.OthersKept.refl _ _ w).alloc _
  have HK := Lib.hid hk
  have hbX : w.heap.size ≠ b := by have := isB_lt h; omega
  have HR : Hid (Row (w.alloc (.cells #[.string ⟨#[c]⟩, .slice A k.len cap] 191)) w.heap.size 191 #[.string ⟨#[c]⟩, .slice A k.len cap]) := Row.new w _ _
  have c0 : (w.alloc (.cells #[.string ⟨#[c]⟩, .slice A k.len cap] 191)).cell? ⟨w.heap.size, 0, none⟩ = some (.string ⟨#[c]⟩) := HR.out.cell 0
  clear h hk
  go_enter Try.func237, Try.ntmps237
  go_wp2_with fail
  generalize w.alloc (.cells #[.string ⟨#[c]⟩, .slice A k.len cap] 191) = W1 at *
  refine (leafWrite_any B b c s _ HI.out (by omega) (by have := HB.out.size; omega)).mono ?_
  rintro e w2 ⟨rfl, hI2, hb2, hk2⟩
  have HO2 := Lib.hid (HO1.out.trans hk2)
  have HI2 := Lib.hid hI2
  have HB2 := Lib.hid (HB.out.trans hb2)
  have HR2 : Hid (Row w2 w.heap.size 191 #[.string ⟨#[c]⟩, .slice A k.len cap]) := kept_row hk2 HR.out hbX (by decide)
  clear hI2 hb2 hk2 c0
  go_wp2_with fail
  refine (writeByte_any B b _ 40 _ HI2.out (by rw [byteCells_len]; simp; omega) (by have := HB2.out.size; omega)).mono ?_
  rintro e w3 ⟨rfl, hI3, hb3, hk3⟩
  have HI3 : Hid (Lib.IsBuilderF 94 5 B b (Lib.byteCells (s ++ [c] ++ [40])) w3) := by
    show Lib.IsBuilderF _ _ _ _ _ _
    rw [byteCells_app]
    exact hI3
  have HB3 := Lib.hid (HB2.out.trans hb3)
  have HO3 := Lib.hid (HO2.out.trans hk3)
  have c1 : w3.cell? ⟨w.heap.size, 1, none⟩ = some (.slice A k.len cap) := (kept_row hk3 HR2.out hbX (by decide)).cell 1
  clear hI3 hb3 hk3 HR2 HR HI2 HI
  go_wp2_with fail
  refine (HK.out w3 HB3.out HO3.out HI3.out).mono ?_
  rintro e w4 ⟨rfl, hI4, hb4, hk4⟩
  have HO4 := Lib.hid (HO3.out.trans hk4)
  have HI4 := Lib.hid hI4
  have HB4 := Lib.hid (HB3.out.trans hb4)
  clear hI4 hb4 c1 hk4
  go_wp2_with fail
  refine (writeByte_any B b _ 41 _ HI4.out (by rw [byteCells_len]; simp; omega) (by have := HB4.out.size; omega)).mono ?_
  rintro e w5 ⟨rfl, hI5, hb5, hk5⟩
  have HO5 := Lib.hid (HO4.out.trans hk5)
  have HI5 : Hid (Lib.IsBuilderF 94 5 B b (Lib.byteCells (s ++ [c] ++ [40] ++ textB k ++ [41])) w5) := by
    show Lib.IsBuilderF _ _ _ _ _ _
    rw [byteCells_app]
    exact hI5
  have HB5 := Lib.hid (HB4.out.trans hb5)
  clear hI5 hb5 hk5
  go_wp2
  go_end0
  exact ⟨rfl, HI5.out, HB5.out, HO5.out⟩

/-- A row of calls. -/
def CRow (w : World) (q : Nat) : Prop := ∃ cs, Row w q 164 cs
/-- Rows of calls that a builder's writes leave as they are. -/
def SafeC (w : World) (b : Nat) (q : Nat) : Prop := q ≠ b ∧ CRow w q
theorem SafeC.keep {w w' : World} {b q : Nat} (h : SafeC w b q) (hk : Lib.OthersKept 5 (some b) w w') : SafeC w' b q ∧ w'.heap[q]? = w.heap[q]? := by
  obtain ⟨h1, cs, h2⟩ := h
  have h3 : Row w' q 164 cs := kept_row hk h2 h1 (by decide)
  exact ⟨⟨h1, cs, h3⟩, (h3 : w'.heap[q]? = _).trans (h2 : w.heap[q]? = _).symm⟩
/-- What the range over calls has before it. -/
def LeftK (w : World) (b : Nat) (f : Forest) (A : Option Addr) (pre rest : Forest) : Prop := f = pre.app rest ∧ (rest.isNil = false → ∃ g, A = some ⟨g, 0, none⟩ ∧ SafeC w b g ∧ Cells w (SafeC w b) rest g pre.len)
theorem LeftK.start {w : World} {b : Nat} {f : Forest} {v : Value} (h : SliceIs w (SafeC w b) v f) : ∃ A cap, v = .slice A f.len cap ∧ LeftK w b f A .nil f := by
  obtain ⟨A, cap, e, h⟩ := h
  refine ⟨A, cap, e, rfl, fun hr => ?_⟩
  rw [Forest.isNil_len] at hr
  have hl : f.len ≠ 0 := of_decide_eq_false hr
  exact h (by omega)
theorem LeftK.kept {w w' : World} {b : Nat} {f pre rest : Forest} {A : Option Addr} (h : LeftK w b f A pre rest) (hk : Lib.OthersKept 5 (some b) w w') : LeftK w' b f A pre rest := by
  refine ⟨h.1, fun hr => ?_⟩
  obtain ⟨g, e, h1, h2⟩ := h.2 hr
  exact ⟨g, e, (h1.keep hk).1, Cells.keep (fun q hq => hq.keep hk) rest g _ (h1.keep hk).2 h2⟩
theorem SliceIs.kept {w w' : World} {b : Nat} {f : Forest} {v : Value} (h : SliceIs w (SafeC w b) v f) (hk : Lib.OthersKept 5 (some b) w w') : SliceIs w' (SafeC w' b) v f := h.keep fun _ hq => hq.keep hk
/-- One call is taken. -/
theorem LeftK.take {w : World} {b : Nat} {f pre k r : Forest} {c : UInt8} {A : Option Addr} (h : LeftK w b f A pre (.cons c k r)) :
    LeftK w b f A (pre.app (.cons c k .nil)) r ∧ pre.len < f.len ∧ k.size < f.size ∧ ∃ g u, A = some ⟨g, 0, none⟩ ∧ w.cell? ⟨g, pre.len, none⟩ = some u ∧ IsCall w (SafeC w b) c k u := by
  obtain ⟨h1, h2⟩ := h
  obtain ⟨g, e, h3, h4⟩ := h2 rfl
  obtain ⟨⟨u, c0, hu⟩, hr⟩ := h4
  have hl : (pre.app (.cons c k .nil)).len = pre.len + 1 := by rw [Forest.app_len]; rfl
  refine ⟨⟨?_, fun _ => ⟨g, e, h3, ?_⟩⟩, ?_, ?_, g, u, e, c0, hu⟩
  · rw [Forest.app_assoc]; exact h1
  · rw [hl]; exact hr
  · rw [h1, Forest.app_len]; show pre.len < pre.len + (r.len + 1); omega
  · rw [h1, Forest.app_size]; show k.size < pre.size + (k.size + r.size + 1); omega
theorem LeftK.done {w : World} {b : Nat} {f pre : Forest} {A : Option Addr} (h : LeftK w b f A pre .nil) : f = pre := by rw [h.1, Forest.app_nil]

/-- What a call writes. -/
theorem callWrite_of (B b : Nat) (c : UInt8) (k : Forest) (v : Value) (s : List UInt8) (w : World) (hu : IsCall w (SafeC w b) c k v) (h : Lib.IsBuilderF 94 5 B b (Lib.byteCells s) w) (hs : s.length + (textB k).length ≤ 90000) (hBw : B ≤ w.heap.size)
    (hk : ∀ (W : World) (u : Value) (s' : List UInt8), k.isNil = false → s'.length ≤ s.length + 2 → SliceIs W (SafeC W b) u k → Below B w W → Lib.IsBuilderF 94 5 B b (Lib.byteCells s') W → Calls Try.prog 129 #[.pointer (some ⟨b, 0, none⟩), u] W (Written W B b (s' ++ textB k))) :
    ∃ T x K y, v = .iface T x ∧ (∀ w : World, (method 344 T x "loop.example/segmentrooms/impl.write").run Try.prog w = .ok (K, y) w) ∧ (∀ w : World, (callFunc K #[y, .pointer (some ⟨b, 0, none⟩)]).run Try.prog w = .ok (.enter K #[y, .pointer (some ⟨b, 0, none⟩)]) w) ∧
      Calls Try.prog K #[y, .pointer (some ⟨b, 0, none⟩)] w (Written w B b (s ++ textOne c k)) := by
  rcases hu with ⟨h1, rfl⟩ | ⟨h1, q, cap, rfl, hq, hc⟩
  · refine ⟨_, _, _, _, rfl, meth_write_leaf c, fun w => enters_of Try.func235 (by kernel_rfl) rfl _ w, ?_⟩
    have e1 : textOne c k = [c] := by unfold textOne; rw [if_pos h1]
    rw [e1]
    exact leafWrite_any B b c s w h (by omega) hBw
  · refine ⟨_, _, _, _, rfl, meth_write_branch c _ _ _, fun w => enters_of Try.func237 (by kernel_rfl) rfl _ w, ?_⟩
    have e1 : s ++ textOne c k = s ++ [c] ++ [40] ++ textB k ++ [41] := by unfold textOne; rw [if_neg (by rw [h1]; decide)]; simp
    rw [e1]
    exact branchWrite_of B b c k _ cap s w h hs hBw fun W hb ho hi => hk W _ _ h1 (by simp) ⟨_, cap, rfl, fun _ => ⟨q, rfl, (hq.keep ho).1, Cells.keep (fun x hx => hx.keep ho) k q 0 (hq.keep ho).2 hc⟩⟩ hb hi

set_option maxRecDepth 100000 in
set_option maxHeartbeats 1000000 in
theorem writeCalls_any (B b : Nat) : ∀ (m : Nat) (f : Forest) (v : Value) (s : List UInt8) (w : World), f.size < m → s.length + 3 * f.size ≤ 80000 → SliceIs w (SafeC w b) v f → Lib.IsBuilderF 94 5 B b (Lib.byteCells s) w → B ≤ w.heap.size →
    Calls Try.prog 129 #[.pointer (some ⟨b, 0, none⟩), v] w (Written w B b (s ++ textB f)) := by
  intro m
  induction m with
  | zero => intro f v s w h; omega
  | succ m ih =>
    intro f v s w hm hs hv hI hBw
    obtain ⟨A, cap, rfl, hl0⟩ := LeftK.start hv
    have IH := Lib.hid ih
    have HL0 := Lib.hid hl0
    have HI0 := Lib.hid hI
    have hfl : f.len ≤ 80000 := by have := f.len_size; omega
    clear ih hv hl0 hI
    go_enter Try.func129, Try.ntmps129
    go_wp2
    go_loopw [8] (fun i wr => ∃ (pre rest : Forest), i = .int .i64 pre.len ∧ Hid (LeftK wr b f A pre rest) ∧ Hid (Lib.IsBuilderF 94 5 B b (Lib.byteCells (s ++ textB pre)) wr) ∧ Hid (Below B w wr) ∧ Hid (Lib.OthersKept 5 (some b) w wr))
      (fun i _ => f.len - (intOf i).toNat)
    case atStart => exact ⟨.nil, f, rfl, HL0, by show Lib.IsBuilderF _ _ _ _ _ _; rw [show textB .nil = [] from rfl, List.append_nil]; exact HI0.out, Below.refl _ _, Lib.OthersKept.refl _ _ _⟩
    case round =>
      obtain ⟨pre, rest, rfl, HL, HI, HB, HO⟩ := hrel
      clear HL0 HI0
      cases rest with
      | nil =>
        have HE := Lib.hid HL.out.done
        have hle : ¬ (pre.len < f.len) := by rw [HE.out]; omega
        go_wp2
        go_end0
        exact ⟨rfl, by rw [HE.out]; exact HI.out, HB.out, HO.out⟩
      | cons c k r =>
        obtain ⟨hnext, hlt, hks, g, u, rfl, c0, hu⟩ := HL.out.take
        have hz := HB.out.size
        have hBr : B ≤ wr.heap.size := by omega
        have hpl := textB_len pre
        have hkl := textB_len k
        have hps : pre.size + (k.size + r.size + 1) = f.size := by rw [HL.out.1, Forest.app_size]; rfl
        have hl1 : (s ++ textB pre).length + 3 * k.size + 3 ≤ 80000 := by rw [List.length_append]; omega
        have HNX := Lib.hid hnext
        have HLN : Hid ((pre.app (.cons c k .nil)).len = pre.len + 1) := by show _ = _; rw [Forest.app_len]; rfl
        have HNB : Hid (s ++ textB (pre.app (.cons c k .nil)) = s ++ textB pre ++ textOne c k) := by
          show _ = _
          rw [textB_app, textB_one, List.append_assoc]
        obtain ⟨T, x, K, y, rfl, hmt, hen, hc⟩ := callWrite_of B b c k u _ wr hu HI.out (by omega) hBr (fun W u' s' _ hs' hsl _ hi' => IH.out k u' s' W (by omega) (by omega) hsl hi' (isB_lt' hi'))
        have HC := Lib.hid hc
        clear hnext hpl hkl hc hu
        go_wp2_with fail
        refine HC.out.mono ?_
        rintro e w2 ⟨rfl, hI2, hb2, hk2⟩
        rw [← HNB.out] at hI2
        have HI2 := Lib.hid hI2
        have HB2 := Lib.hid (HB.out.trans hb2)
        have HL2 := Lib.hid (HNX.out.kept hk2)
        have HO2 := Lib.hid (HO.out.trans hk2)
        clear hI2 hb2 hk2 HC HNX HL HI HB HO hmt hen c0
        go_wp2
        go_roundw
        case rel => exact ⟨_, r, by rw [HLN.out]; go_num, HL2, HI2, HB2, HO2⟩
        case measure => simp [intOf]; omega

end Go.Proofs.Ytfhdbbdehploeaa
