/- The program's needs: writeNeeds, NeedsOf. -/
import Derived.Test.YtfhdbbdehploeaaFn
import Derived.Test.YtfhdbbdehploeaaFf
namespace Go.Proofs.Ytfhdbbdehploeaa
open Go.RowKit

theorem byteCells_app (s t : List UInt8) : Lib.byteCells (s ++ t) = Lib.byteCells s ++ Lib.byteCells t := by simp [Lib.byteCells]
theorem strCells_one (c : UInt8) : Lib.strCells ⟨#[c]⟩ = Lib.byteCells [c] := rfl
theorem byteCells_len (s : List UInt8) : (Lib.byteCells s).length = s.length := by simp [Lib.byteCells]

/-- What the range over calls has before it. -/
def LeftC (w : World) (B : Nat) (f : Forest) (A : Option Addr) (pre rest : Forest) : Prop := f = pre.app rest ∧ (rest.isNil = false → ∃ g, A = some ⟨g, 0, none⟩ ∧ g < B ∧ Cells w (· < B) rest g pre.len)
theorem LeftC.start {w : World} {B : Nat} {f : Forest} {v : Value} (h : SliceIs w (· < B) v f) : ∃ A cap, v = .slice A f.len cap ∧ LeftC w B f A .nil f := by
  obtain ⟨A, cap, e, h⟩ := h
  refine ⟨A, cap, e, rfl, fun hr => ?_⟩
  rw [Forest.isNil_len] at hr
  have hl : f.len ≠ 0 := of_decide_eq_false hr
  exact h (by omega)
theorem LeftC.below {w w' : World} {B : Nat} {f pre rest : Forest} {A : Option Addr} (h : LeftC w B f A pre rest) (hb : Below B w w') : LeftC w' B f A pre rest := by
  refine ⟨h.1, fun hr => ?_⟩
  obtain ⟨g, e, h1, h2⟩ := h.2 hr
  exact ⟨g, e, h1, Cells.keep (fun q hq => ⟨hq, hb.block q hq⟩) rest g _ (hb.block g h1) h2⟩
/-- One call is taken. -/
theorem LeftC.take {w : World} {B : Nat} {f pre k r : Forest} {c : UInt8} {A : Option Addr} (h : LeftC w B f A pre (.cons c k r)) :
    LeftC w B f A (pre.app (.cons c k .nil)) r ∧ pre.len < f.len ∧ k.size < f.size ∧ ∃ g u, A = some ⟨g, 0, none⟩ ∧ g < B ∧ w.cell? ⟨g, pre.len, none⟩ = some u ∧ IsCall w (· < B) c k u := by
  obtain ⟨h1, h2⟩ := h
  obtain ⟨g, e, h3, h4⟩ := h2 rfl
  obtain ⟨⟨u, c0, hu⟩, hr⟩ := h4
  have hl : (pre.app (.cons c k .nil)).len = pre.len + 1 := by rw [Forest.app_len]; rfl
  refine ⟨⟨?_, fun _ => ⟨g, e, h3, ?_⟩⟩, ?_, ?_, g, u, e, h3, c0, hu⟩
  · rw [Forest.app_assoc]; exact h1
  · rw [hl]; exact hr
  · rw [h1, Forest.app_len]; show pre.len < pre.len + (r.len + 1); omega
  · rw [h1, Forest.app_size]; show k.size < pre.size + (k.size + r.size + 1); omega
theorem LeftC.done {w : World} {B : Nat} {f pre : Forest} {A : Option Addr} (h : LeftC w B f A pre .nil) : f = pre := by rw [h.1, Forest.app_nil]
theorem SliceIs.below {w w' : World} {f : Forest} {v : Value} {B : Nat} (h : SliceIs w (· < B) v f) (hb : Below B w w') : SliceIs w' (· < B) v f :=
  h.keep fun q hq => ⟨hq, hb.block q hq⟩

set_option maxRecDepth 100000 in
set_option maxHeartbeats 2000000 in
theorem writeNeeds_any (B b : Nat) : ∀ (n : Nat) (f : Forest) (a : UInt8) (v : Value) (s : List UInt8) (w : World), f.size < n → s.length + 2 * f.size ≤ 3000 → SliceIs w (· < B) v f →
    Lib.IsBuilderF 94 5 B b (Lib.byteCells s) w → B ≤ w.heap.size →
    Calls Try.prog 113 #[.pointer (some ⟨b, 0, none⟩), .string ⟨#[a]⟩, v] w fun e w' => e = .returned (.tuple #[]) ∧ Lib.IsBuilderF 94 5 B b (Lib.byteCells (s ++ needsB a f)) w' ∧ Below B w w' := by
  intro n
  induction n with
  | zero => intro f a v s w h; omega
  | succ n ih =>
    intro f a v s w hn hs hv hI hBw
    obtain ⟨A, cap, rfl, hl0⟩ := LeftC.start hv
    have IH := Lib.hid ih
    have HL0 := Lib.hid hl0
    have HI0 := Lib.hid hI
    have hfl : f.len ≤ 3000 := by have := f.len_size; omega
    clear ih hv hl0 hI
    go_enter Try.func113, Try.ntmps113
    go_wp2
    go_loopw [10] (fun i wr => ∃ (pre rest : Forest), i = .int .i64 pre.len ∧ Hid (LeftC wr B f A pre rest) ∧ Hid (Lib.IsBuilderF 94 5 B b (Lib.byteCells (s ++ needsB a pre)) wr) ∧ Hid (Below B w wr))
      (fun i _ => f.len - (intOf i).toNat)
    case atStart => exact ⟨.nil, f, rfl, HL0, by show Lib.IsBuilderF _ _ _ _ _ _; rw [show needsB a .nil = [] from rfl, List.append_nil]; exact HI0.out, Below.refl _ _⟩
    case round =>
      obtain ⟨pre, rest, rfl, HL, HI, HB⟩ := hrel
      clear HL0 HI0
      cases rest with
      | nil =>
        have HE := Lib.hid HL.out.done
        have hle : ¬ (pre.len < f.len) := by rw [HE.out]; omega
        go_wp2
        go_end0
        exact ⟨rfl, by rw [HE.out]; exact HI.out, HB.out⟩
      | cons c k r =>
        obtain ⟨hnext, hlt, hks, g, u, rfl, hg, c0, hu⟩ := HL.out.take
        obtain ⟨T, x, kv, rfl, hf, hkv⟩ := hu.facts
        obtain ⟨K, y, o, hm, he, hc⟩ := hf.calls
        have hnm := hf.name
        have HC := Lib.hid hc
        have HKV := Lib.hid hkv
        have HNX := Lib.hid hnext
        have hz := HB.out.size
        have hBr : B ≤ wr.heap.size := by omega
        have hpl := needsB_len a pre
        have hps : pre.size + (k.size + r.size + 1) = f.size := by rw [HL.out.1, Forest.app_size]; rfl
        have hl1 : (s ++ needsB a pre).length + 2 * k.size + 2 ≤ 3000 := by rw [List.length_append]; omega
        have HLN : Hid ((pre.app (.cons c k .nil)).len = pre.len + 1) := by show _ = _; rw [Forest.app_len]; rfl
        have HNB : Hid (s ++ needsB a (pre.app (.cons c k .nil)) = s ++ needsB a pre ++ [c] ++ needsB c k ++ [a]) := by
          show _ = _
          rw [needsB_app, needsB_one]; simp
        have hnk := needsB_len c k
        have hl2 : (s ++ needsB a pre ++ [c]).length + 2 * k.size ≤ 3000 := by simp at hl1 ⊢; omega
        have hl3 : (s ++ needsB a pre ++ [c] ++ needsB c k).length + 1 ≤ 3000 := by simp at hl1 ⊢; omega
        clear hnext hf hkv hc hu hpl hps hnk
        generalize s ++ needsB a pre = s1 at *
        go_wp2_with fail
        refine (leafName_any c _).mono ?_
        rintro e w1 ⟨rfl, rfl⟩
        have HI1 := Lib.hid (HI.out.alloc (.cells #[.string ⟨#[c]⟩] 189))
        have HB1 : Hid (Below B wr (wr.alloc (.cells #[.string ⟨#[c]⟩] 189))) := (Below.refl _ wr).alloc hBr _
        go_wp2_with fail
        generalize wr.alloc (.cells #[.string ⟨#[c]⟩] 189) = W1 at *
        refine (writeString_any B b _ ⟨#[c]⟩ _ HI1.out (by rw [byteCells_len]; show _ + 1 ≤ _; omega) (by have := HB1.out.size; omega)).mono ?_
        rintro e w2 ⟨rfl, hI2, hb2, -⟩
        rw [strCells_one, ← byteCells_app] at hI2
        have HI2 := Lib.hid hI2
        have HB2 := Lib.hid (HB1.out.trans hb2)
        clear hI2 hb2 HI1 HB1
        go_wp2_with fail
        refine (leafName_any c _).mono ?_
        rintro e w3 ⟨rfl, rfl⟩
        have HI3 := Lib.hid (HI2.out.alloc (.cells #[.string ⟨#[c]⟩] 189))
        have HB3 : Hid (Below B wr (w2.alloc (.cells #[.string ⟨#[c]⟩] 189))) := HB2.out.alloc (by have := HB2.out.size; omega) _
        go_wp2_with fail
        generalize w2.alloc (.cells #[.string ⟨#[c]⟩] 189) = W3 at *
        refine (HC.out _).mono ?_
        rintro e w4 ⟨rfl, rfl⟩
        have HI4 := Lib.hid (HI3.out.alloc o)
        have HB4 : Hid (Below B wr (W3.alloc o)) := HB3.out.alloc (by have := HB3.out.size; omega) _
        go_wp2_with fail
        generalize W3.alloc o = W4 at *
        refine (IH.out k c kv _ W4 (by omega) hl2 (HKV.out.below HB4.out) HI4.out (by have := HB4.out.size; omega)).mono ?_
        rintro e w5 ⟨rfl, hI5, hb5⟩
        have HI5 := Lib.hid hI5
        have HB5 := Lib.hid (HB4.out.trans hb5)
        clear hI5 hb5 HI4 HB4 HI3 HB3 HI2 HB2
        go_wp2_with fail
        refine (writeString_any B b _ ⟨#[a]⟩ _ HI5.out (by rw [byteCells_len]; show _ + 1 ≤ _; omega) (by have := HB5.out.size; omega)).mono ?_
        rintro e w6 ⟨rfl, hI6, hb6, -⟩
        rw [strCells_one, ← byteCells_app, ← HNB.out] at hI6
        have HI6 := Lib.hid hI6
        have HB6 := Lib.hid (HB.out.trans (HB5.out.trans hb6))
        have HL6 := Lib.hid (HNX.out.below (HB5.out.trans hb6))
        clear hI6 hb6 HI5 HB5 HNX HL HI HB HC HKV hm he hnm c0
        go_wp2
        go_roundw
        case rel => exact ⟨_, r, by rw [HLN.out]; go_num, HL6, HI6, HB6⟩
        case measure => simp [intOf]; omega

set_option maxRecDepth 100000 in
set_option maxHeartbeats 2000000 in
theorem needsOf_any (A : Option Addr) (l : List Seg) (c : Nat) (t : ByteArray) (w : World) (hw : Segs w w.heap.size A l) (hl : l.length ≤ 1048576) (hlc : l.length ≤ c) (hcm : c ≤ 9223372036854775807) (hn : Short l) (ht : t.size ≤ 1048576) :
    Calls Try.prog 46 #[.slice A l.length c, .string t] w fun e w' => e = .returned (.tuple #[.string (needsRes l t), .bool (traceB l t.data.toList).isSome]) ∧ Below w.heap.size w w' := by
  have HQ := Lib.hid (readTrace_any A l c t w hw hl hlc hcm hn ht)
  have HW : Hid (Segs w w.heap.size A l) := hw
  unfold needsRes
  cases hR : traceB l t.data.toList with
  | none =>
    rw [hR] at HQ
    clear hw hn hR
    go_enter Try.func46, Try.ntmps46
    go_wp2_with fail
    refine Calls.mono HQ.out ?_
    rintro e w2 ⟨v, rfl, -, hb⟩
    go_wp2
    go_ret2
    exact ⟨rfl, hb⟩
  | some f =>
    obtain ⟨hv, h80, hcl⟩ := traceB_some hR
    have hsz := (traceB_size hR).1
    have HV := Lib.hid hv
    have hl1 := (valid_all hv).2.2
    rw [hR] at HQ
    clear hw hn hR h80 hcl hv
    go_enter Try.func46, Try.ntmps46
    go_wp2_with fail
    refine Calls.mono HQ.out ?_
    rintro e w2 ⟨v, rfl, (⟨f', hf', hsl⟩ | ⟨h0, -⟩), hb⟩
    · obtain rfl : f = f' := by injection hf'
      have HSL := Lib.hid hsl
      have HB := Lib.hid hb
      obtain ⟨b0, o0, rfl, hB0, c0⟩ := (HW.out.below hb).root HV.out
      clear hsl hb hf' HQ
      go_wp2_with fail
      have HI0 : Hid (Lib.IsBuilderF 94 5 w2.heap.size w2.heap.size (Lib.byteCells []) (w2.alloc (.cells #[.pointer none, .slice none 0 0] 94))) := Lib.IsBuilderF.of (Lib.fresh_isBuilder _ _ w2)
      have HB1 : Hid (Below w2.heap.size w2 (w2.alloc (.cells #[.pointer none, .slice none 0 0] 94))) := (Below.refl _ w2).alloc (Nat.le_refl _) _
      generalize w2.alloc (.cells #[.pointer none, .slice none 0 0] 94) = W1 at *
      refine (writeString_any w2.heap.size w2.heap.size _ ⟨#[rootB l]⟩ _ HI0.out (by rw [byteCells_len]; show 0 + 1 ≤ _; omega) HB1.out.size).mono ?_
      rintro e w3 ⟨rfl, hI3, hb3, -⟩
      rw [strCells_one, ← byteCells_app] at hI3
      have HI3 := Lib.hid hI3
      have HB3 := Lib.hid (HB1.out.trans hb3)
      have HSL3 : Hid (SliceIs w3 (· < w2.heap.size) v f) := SliceIs.below (HSL.out.keep fun q hq => ⟨hq.2, rfl⟩) HB3.out
      clear hI3 hb3 HI0 HB1 HSL
      go_wp2_with fail
      refine (writeNeeds_any w2.heap.size w2.heap.size (f.size + 1) f (rootB l) v _ w3 (by omega) (by simp; omega) HSL3.out HI3.out HB3.out.size).mono ?_
      rintro e w4 ⟨rfl, hI4, hb4⟩
      have HI4 := Lib.hid hI4
      have HB4 := Lib.hid (HB3.out.trans hb4)
      clear hI4 hb4 HI3 HB3 HSL3
      go_wp2_with fail
      refine (Try.Builder_String_any_k w2.heap.size w2.heap.size _ _ HI4.out HB4.out.size).mono ?_
      rintro e w5 ⟨rfl, -, hb5, -⟩
      have HB5 := Lib.hid (HB.out.trans ((HB4.out.trans hb5).mono HB.out.size))
      clear hb5 HI4 HB4
      go_wp2
      go_ret2
      exact ⟨rfl, HB5.out⟩
    · cases h0

end Go.Proofs.Ytfhdbbdehploeaa
