/- The reference's l4Read and TraceValid by their contracts. -/
import Derived.Test.YtadichddgpojpaaDoorFh
import Derived.Test.YtadichddgpojpaaDoorTs
namespace Go.Proofs.YtadichddgpojpaaDoor
open Go.RowKit

/-- What l4Read has done. -/
def ReadPost (w : World) (R : Option Forest) (e : Ending) (w' : World) : Prop :=
  ∃ v, e = .returned (.tuple #[v, .bool R.isSome]) ∧ ((∃ f, R = some f ∧ IsKids w' (fun q => w.heap.size ≤ q ∧ q < w'.heap.size) f v) ∨ (R = none ∧ ∃ A cap, v = .slice A 0 cap)) ∧ Below w.heap.size w w'

set_option maxRecDepth 100000 in
set_option maxHeartbeats 4000000 in
theorem l4Read_any (A : Option Addr) (l : List Seg) (c : Nat) (t : ByteArray) (w : World) (hw : Segs w w.heap.size A l) (hl : l.length ≤ 1048576) (hn : Short l) (ht : t.size ≤ 1048576) :
    Calls Tryd.prog 17 #[.slice A l.length c, .string t] w (ReadPost w (traceB l t.data.toList)) := by
  have HW : Hid (Segs w w.heap.size A l) := hw
  have hlen : t.data.toList.length = t.size := by simp
  have HT : Hid (traceB l t.data.toList = if (validB l && decide (t.size ≤ 80)) = true then whole (calls (callP l) 8 t.data.toList) else none) := by
    show _ = _
    rw [traceB_eq, hlen]
  have HLEN := Lib.hid hlen
  clear hw hlen
  have HB0 : Hid (Below w.heap.size w (w.alloc (.cells #[.string t, .int .i64 0, .bool false, .slice A l.length c, .int .i64 0] 55))) := (Below.refl _ w).alloc (Nat.le_refl _) _
  have HR0 : Hid (Row (w.alloc (.cells #[.string t, .int .i64 0, .bool false, .slice A l.length c, .int .i64 0] 55)) w.heap.size 55 (rdCells t ((0 : Nat) : Int) false (.slice A l.length c) 0)) := Row.new w _ _
  have HN : Hid (∀ (R : Option Forest) (W : World), R = none → Below w.heap.size w W → ReadPost w R (.returned (.tuple #[.slice (some ⟨W.heap.size, 0, none⟩) 0 0, .bool false])) (W.alloc (.cells #[] 84))) := fun R W h0 h1 => by
    subst h0
    exact ⟨_, rfl, .inr ⟨rfl, _, _, rfl⟩, h1.alloc h1.size _⟩
  go_enter Tryd.func17, Tryd.ntmps17
  go_wp2_with fail
  generalize w.alloc (.cells #[.string t, .int .i64 0, .bool false, .slice A l.length c, .int .i64 0] 55) = W1 at *
  have HWX : Hid (Segs W1 w.heap.size A l) := HW.out.below HB0.out
  have HQ := Lib.hid (specCalls_any w.heap.size t ht A l c hl hn 8 0 0 W1 (by omega) (by omega) (by omega) HWX.out HR0.out)
  refine Calls.mono HQ.out ?_
  rintro e w2 ⟨v, rfl, ho, (⟨F, k, hk, how, hr, hc⟩ | ⟨a, A', n', cap', rfl, ha0, ha1, hr, hc⟩)⟩
  · rw [List.drop_zero] at hc
    obtain ⟨A2, cap2, rfl⟩ := how.form
    have HB2 : Hid (Below w.heap.size w w2) := HB0.out.trans (ho.belowRow (Nat.le_of_lt HR0.out.lt))
    have hbw := HR0.out.lt
    have HZ : Hid (w.heap.size < W1.heap.size) := hbw
    have HS2 : Hid (Segs w2 w2.heap.size A l) := (HW.out.below HB2.out).more HB2.out.size
    have HK2 := Lib.hid how.kids
    have c1 : w2.cell? ⟨w.heap.size, 1, none⟩ = some (.int .i64 k) := hr.cell 1
    have c2 : w2.cell? ⟨w.heap.size, 2, none⟩ = some (.bool false) := hr.cell 2
    have HC := Lib.hid hc
    clear HQ HR0 HB0 HWX ho how hr hc hbw
    by_cases hke : k = t.size
    · have HWH : Hid (whole (calls (callP l) 8 t.data.toList) = some F) := by
        show _ = _
        rw [HC.out, hke, List.drop_of_length_le (by rw [HLEN.out]; exact Nat.le_refl _)]
        rfl
      have hneq : ((k : Int) != (t.size : Int)) = false := by rw [hke]; simp
      have heq : (k : Int) = (t.size : Int) := by omega
      by_cases h80 : 80 < t.size
      · have h80' : ¬ (t.size ≤ 80) := by omega
        have h80i : (80 : Int) < (t.size : Int) := by omega
        have HR : Hid (traceB l t.data.toList = none) := by
          show _ = _
          rw [HT.out, if_neg (by simp [h80'])]
        clear HT HC HWH hke
        have q : decide (80 < t.size) = true := decide_eq_true h80
        go_wp2
        go_ret2
        exact HN.out _ _ HR.out HB2.out
      · have h80' : t.size ≤ 80 := by omega
        have h80i : ¬ (80 : Int) < (t.size : Int) := by omega
        have q : decide (80 < t.size) = false := decide_eq_false h80
        have HTV := Lib.hid (specTreeValid_any A l c w2 HS2.out hl hn)
        cases hv : validB l with
        | false =>
          have HR : Hid (traceB l t.data.toList = none) := by
            show _ = _
            rw [HT.out, hv]; rfl
          clear HT HC HWH hke
          go_wp2_with fail
          refine Calls.mono HTV.out ?_
          rw [hv]
          clear HTV hv
          rintro e w3 ⟨rfl, hb3⟩
          have HB3 := Lib.hid (HB2.out.trans (hb3.mono HB2.out.size))
          clear hb3
          go_wp2
          go_ret2
          exact HN.out _ _ HR.out HB3.out
        | true =>
          have HR : Hid (traceB l t.data.toList = some F) := by
            show _ = _
            rw [HT.out, hv, decide_eq_true h80', HWH.out]; rfl
          clear HT HC HWH hke
          go_wp2_with fail
          refine Calls.mono HTV.out ?_
          rw [hv]
          clear HTV hv
          rintro e w3 ⟨rfl, hb3⟩
          have HB3 := Lib.hid (HB2.out.trans (hb3.mono HB2.out.size))
          have HK3 : Hid (IsKids w3 (fun q => w.heap.size ≤ q ∧ q < w3.heap.size) F (.slice A2 F.len cap2)) :=
            HK2.out.keep fun q hq => ⟨⟨by have := HZ.out; omega, Nat.lt_of_lt_of_le hq.2 hb3.size⟩, hb3.block q hq.2⟩
          clear hb3
          go_wp2
          go_ret2
          exact ⟨_, by rw [HR.out]; rfl, .inl ⟨F, HR.out, HK3.out⟩, HB3.out⟩
    · have HR : Hid (traceB l t.data.toList = none) := by
        show _ = _
        rw [HT.out, HC.out]
        have hd : t.data.toList.drop k = t[k]'(by omega) :: t.data.toList.drop (k + 1) := List.drop_eq_getElem_cons (by rw [HLEN.out]; omega)
        rw [hd]
        split <;> rfl
      have hneq : ((k : Int) != (t.size : Int)) = true := by rw [bne_iff_ne]; omega
      have hne' : ¬ (k : Int) = (t.size : Int) := by omega
      clear HT HC hke
      go_wp2
      go_ret2
      exact HN.out _ _ HR.out HB2.out
  · rw [List.drop_zero] at hc
    have HR : Hid (traceB l t.data.toList = none) := by
      show _ = _
      rw [HT.out, hc]
      split <;> rfl
    have HB2 : Hid (Below w.heap.size w w2) := HB0.out.trans (ho.belowRow (Nat.le_of_lt HR0.out.lt))
    have c2 : w2.cell? ⟨w.heap.size, 2, none⟩ = some (.bool true) := hr.cell 2
    clear HQ HR0 HB0 HWX ho hr hc HT
    go_wp2
    go_ret2
    exact HN.out _ _ HR.out HB2.out

set_option maxRecDepth 100000 in
set_option maxHeartbeats 400000 in
theorem specTraceValid_any (A : Option Addr) (l : List Seg) (c : Nat) (t : ByteArray) (w : World) (hw : Segs w w.heap.size A l) (hl : l.length ≤ 1048576) (hn : Short l) (ht : t.size ≤ 1048576) :
    Calls Tryd.prog 10 #[.slice A l.length c, .string t] w fun e w' => e = .returned (.bool (traceB l t.data.toList).isSome) ∧ Below w.heap.size w w' := by
  have HQ := Lib.hid (l4Read_any A l c t w hw hl hn ht)
  clear hw hn
  generalize traceB l t.data.toList = R at *
  go_enter Tryd.func10, Tryd.ntmps10
  go_wp2_with fail
  refine Calls.mono HQ.out ?_
  rintro e w2 ⟨v, rfl, -, hb⟩
  go_wp2
  go_ret
  exact ⟨rfl, hb⟩

end Go.Proofs.YtadichddgpojpaaDoor
