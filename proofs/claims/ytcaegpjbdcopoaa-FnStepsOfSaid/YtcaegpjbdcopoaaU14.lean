/- Joined: Fk Fm Lk Tx Fp Fq Fr Fs. -/
import Derived.Test.YtcaegpjbdcopoaaU13
import Derived.Test.YtcaegpjbdcopoaaU02
import Derived.Test.YtcaegpjbdcopoaaU12
import Derived.Test.YtcaegpjbdcopoaaU09
import Derived.Test.YtcaegpjbdcopoaaU01
import Derived.Test.YtcaegpjbdcopoaaU10
import Derived.BigQuiet
import Derived.Maps.AppendAt
import Derived.Deep.AppendLies
import Derived.WalkLawsBesides
/- The reference's l4Read and TraceValid by their contracts. -/
namespace Go.Proofs.Ytcaegpjbdcopoaa
open Go.RowKit

/-- What l4Read has done. -/
def ReadPost (w : World) (R : Option Forest) (e : Ending) (w' : World) : Prop :=
  ∃ v, e = .returned (.tuple #[v, .bool R.isSome]) ∧ ((∃ f, R = some f ∧ IsKids w' (fun q => w.heap.size ≤ q ∧ q < w'.heap.size) f v) ∨ (R = none ∧ ∃ A cap, v = .slice A 0 cap)) ∧ Below w.heap.size w w'

set_option maxRecDepth 100000 in
set_option maxHeartbeats 4000000 in
theorem l4Read_any (A : Option Addr) (l : List Seg) (c : Nat) (t : ByteArray) (w : World) (hw : Segs w w.heap.size A l) (hl : l.length ≤ 1048576) (hn : Short l) (ht : t.size ≤ 1048576) :
    Calls Try.prog 68 #[.slice A l.length c, .string t] w (ReadPost w (traceB l t.data.toList)) := by
  have HW : Hid (Segs w w.heap.size A l) := hw
  have hlen : t.data.toList.length = t.size := by simp
  have HT : Hid (traceB l t.data.toList = if (validB l && decide (t.size ≤ 80)) = true then whole (calls (callP l) 8 t.data.toList) else none) := by
    show _ = _
    rw [traceB_eq, hlen]
  have HLEN := Lib.hid hlen
  clear hw hlen
  have HB0 : Hid (Below w.heap.size w (w.alloc (.cells #[.string t, .int .i64 0, .bool false, .slice A l.length c, .int .i64 0] 144))) := (Below.refl _ w).alloc (Nat.le_refl _) _
  have HR0 : Hid (Row (w.alloc (.cells #[.string t, .int .i64 0, .bool false, .slice A l.length c, .int .i64 0] 144)) w.heap.size 144 (rdCells t ((0 : Nat) : Int) false (.slice A l.length c) 0)) := Row.new w _ _
  have HN : Hid (∀ (R : Option Forest) (W : World), R = none → Below w.heap.size w W → ReadPost w R (.returned (.tuple #[.slice (some ⟨W.heap.size, 0, none⟩) 0 0, .bool false])) (W.alloc (.cells #[] 147))) := fun R W h0 h1 => by
    subst h0
    exact ⟨_, rfl, .inr ⟨rfl, _, _, rfl⟩, h1.alloc h1.size _⟩
  go_enter Try.func68, Try.ntmps68
  go_wp2_with fail
  generalize w.alloc (.cells #[.string t, .int .i64 0, .bool false, .slice A l.length c, .int .i64 0] 144) = W1 at *
  have HWX : Hid (Segs W1 w.heap.size A l) := HW.out.below HB0.out
  have HQ := Lib.hid (specCalls_any w.heap.size t ht A l c hl hn 8 0 0 W1 (by omega) (by omega) (by omega) HWX.out HR0.out)
  refine Calls.mono HQ.out ?_
  rintro e w2 ⟨v, rfl, ho, (⟨F, k, hk, how, hr, hc⟩ | ⟨a, A', n', cap', rfl, ha0, ha1, hr, hc⟩)⟩
  · rw [List.drop_zero] at hc
    obtain ⟨A2, cap2, rfl⟩ := how.form
    have HB2 : Hid (Below w.heap.size w w2) := HB0.out.trans (ho.belowRow (Nat.le_of_lt HR0.out.lt))
    have hbw := HR0.out.lt
    have HZ : Hid (w.heap.size < W1.heap.size) := hbw
    have HS2 : Hid (Segs w2 w2.heap.size A l) := (HW.out.below HB2.out).more HB2.out.size
    have HK2 := Lib.hid how.kids
    have c1 : w2.cell? ⟨w.heap.size, 1, none⟩ = some (.int .i64 k) := hr.cell 1
    have c2 : w2.cell? ⟨w.heap.size, 2, none⟩ = some (.bool false) := hr.cell 2
    have HC := Lib.hid hc
    clear HQ HR0 HB0 HWX ho how hr hc hbw
    by_cases hke : k = t.size
    · have HWH : Hid (whole (calls (callP l) 8 t.data.toList) = some F) := by
        show _ = _
        rw [HC.out, hke, List.drop_of_length_le (by rw [HLEN.out]; exact Nat.le_refl _)]
        rfl
      have hneq : ((k : Int) != (t.size : Int)) = false := by rw [hke]; simp
      have heq : (k : Int) = (t.size : Int) := by omega
      by_cases h80 : 80 < t.size
      · have h80' : ¬ (t.size ≤ 80) := by omega
        have h80i : (80 : Int) < (t.size : Int) := by omega
        have HR : Hid (traceB l t.data.toList = none) := by
          show _ = _
          rw [HT.out, if_neg (by simp [h80'])]
        clear HT HC HWH hke
        have q : decide (80 < t.size) = true := decide_eq_true h80
        go_wp2
        go_ret2
        exact HN.out _ _ HR.out HB2.out
      · have h80' : t.size ≤ 80 := by omega
        have h80i : ¬ (80 : Int) < (t.size : Int) := by omega
        have q : decide (80 < t.size) = false := decide_eq_false h80
        have HTV := Lib.hid (specTreeValid_any A l c w2 HS2.out hl hn)
        cases hv : validB l with
        | false =>
          have HR : Hid (traceB l t.data.toList = none) := by
            show _ = _
            rw [HT.out, hv]; rfl
          clear HT HC HWH hke
          go_wp2_with fail
          refine Calls.mono HTV.out ?_
          rw [hv]
          clear HTV hv
          rintro e w3 ⟨rfl, hb3⟩
          have HB3 := Lib.hid (HB2.out.trans (hb3.mono HB2.out.size))
          clear hb3
          go_wp2
          go_ret2
          exact HN.out _ _ HR.out HB3.out
        | true =>
          have HR : Hid (traceB l t.data.toList = some F) := by
            show _ = _
            rw [HT.out, hv, decide_eq_true h80', HWH.out]; rfl
          clear HT HC HWH hke
          go_wp2_with fail
          refine Calls.mono HTV.out ?_
          rw [hv]
          clear HTV hv
          rintro e w3 ⟨rfl, hb3⟩
          have HB3 := Lib.hid (HB2.out.trans (hb3.mono HB2.out.size))
          have HK3 : Hid (IsKids w3 (fun q => w.heap.size ≤ q ∧ q < w3.heap.size) F (.slice A2 F.len cap2)) :=
            HK2.out.keep fun q hq => ⟨⟨by have := HZ.out; omega, Nat.lt_of_lt_of_le hq.2 hb3.size⟩, hb3.block q hq.2⟩
          clear hb3
          go_wp2
          go_ret2
          exact ⟨_, by rw [HR.out]; rfl, .inl ⟨F, HR.out, HK3.out⟩, HB3.out⟩
    · have HR : Hid (traceB l t.data.toList = none) := by
        show _ = _
        rw [HT.out, HC.out]
        have hd : t.data.toList.drop k = t[k]'(by omega) :: t.data.toList.drop (k + 1) := List.drop_eq_getElem_cons (by rw [HLEN.out]; omega)
        rw [hd]
        split <;> rfl
      have hneq : ((k : Int) != (t.size : Int)) = true := by rw [bne_iff_ne]; omega
      have hne' : ¬ (k : Int) = (t.size : Int) := by omega
      clear HT HC hke
      go_wp2
      go_ret2
      exact HN.out _ _ HR.out HB2.out
  · rw [List.drop_zero] at hc
    have HR : Hid (traceB l t.data.toList = none) := by
      show _ = _
      rw [HT.out, hc]
      split <;> rfl
    have HB2 : Hid (Below w.heap.size w w2) := HB0.out.trans (ho.belowRow (Nat.le_of_lt HR0.out.lt))
    have c2 : w2.cell? ⟨w.heap.size, 2, none⟩ = some (.bool true) := hr.cell 2
    clear HQ HR0 HB0 HWX ho hr hc HT
    go_wp2
    go_ret2
    exact HN.out _ _ HR.out HB2.out

end Go.Proofs.Ytcaegpjbdcopoaa
/- The reference's needs and texts of calls. -/
namespace Go.Proofs.Ytcaegpjbdcopoaa
open Go.RowKit

/-- What of the reference's calls is left behind those that were taken. -/
theorem IsKids.nil_or {w : World} {S : Nat → Prop} {f : Forest} {v : Value} (h : IsKids w S f v) : ∃ A cap, v = .slice A f.len cap ∧ (f.isNil = false → ∃ g, A = some ⟨g, 0, none⟩ ∧ S g ∧ SCells w S f g 0) := h
theorem SCells.kids {w : World} {S : Nat → Prop} {c : UInt8} {k r : Forest} {g o : Nat} (h : SCells w S (.cons c k r) g o) : w.cell? ⟨g, o, none⟩ = some (.string ⟨#[c]⟩) ∧ (∃ v, w.cell? ⟨g, o + 1, none⟩ = some v ∧ IsKids w S k v) ∧ SCells w S r g (o + 2) := by
  obtain ⟨h1, ⟨A, cap, h2, h3⟩, h4⟩ := h
  exact ⟨h1, ⟨_, h2, A, cap, rfl, h3⟩, h4⟩
theorem SCells.below {w w' : World} {f : Forest} {g o B : Nat} (h : SCells w (· < B) f g o) (hb : Below B w w') (hg : g < B) : SCells w' (· < B) f g o :=
  SCells.keep (fun q hq => ⟨hq, hb.block q hq⟩) f g o (hb.block g hg) h
theorem IsKids.below {w w' : World} {f : Forest} {v : Value} {B : Nat} (h : IsKids w (· < B) f v) (hb : Below B w w') : IsKids w' (· < B) f v :=
  h.keep fun q hq => ⟨hq, hb.block q hq⟩
theorem IsKids.up {w : World} {f : Forest} {v : Value} {B B' : Nat} (h : IsKids w (· < B) f v) (hB : B ≤ B') : IsKids w (· < B') f v :=
  h.keep fun _ hq => ⟨Nat.lt_of_lt_of_le hq hB, rfl⟩

/-- What the range over calls has before it. -/
def LeftS (w : World) (B : Nat) (f : Forest) (A : Option Addr) (pre rest : Forest) : Prop := f = pre.app rest ∧ (rest.isNil = false → ∃ g, A = some ⟨g, 0, none⟩ ∧ g < B ∧ SCells w (· < B) rest g (pre.len * 2))
theorem LeftS.start {w : World} {B : Nat} {f : Forest} {A : Option Addr} (h : f.isNil = false → ∃ g, A = some ⟨g, 0, none⟩ ∧ g < B ∧ SCells w (· < B) f g 0) : LeftS w B f A .nil f := ⟨rfl, h⟩
theorem LeftS.below {w w' : World} {B : Nat} {f pre rest : Forest} {A : Option Addr} (h : LeftS w B f A pre rest) (hb : Below B w w') : LeftS w' B f A pre rest := by
  refine ⟨h.1, fun hr => ?_⟩
  obtain ⟨g, e, h1, h2⟩ := h.2 hr
  exact ⟨g, e, h1, h2.below hb h1⟩
/-- One call is taken. -/
theorem LeftS.take {w : World} {B : Nat} {f pre k r : Forest} {c : UInt8} {A : Option Addr} (h : LeftS w B f A pre (.cons c k r)) :
    LeftS w B f A (pre.app (.cons c k .nil)) r ∧ pre.len < f.len ∧ k.size < f.size ∧ ∃ g v, A = some ⟨g, 0, none⟩ ∧ g < B ∧ w.cell? ⟨g, pre.len * 2, none⟩ = some (.string ⟨#[c]⟩) ∧ w.cell? ⟨g, pre.len * 2 + 1, none⟩ = some v ∧ IsKids w (· < B) k v := by
  obtain ⟨h1, h2⟩ := h
  obtain ⟨g, e, h3, h4⟩ := h2 rfl
  obtain ⟨c0, ⟨v, c1, hv⟩, hr⟩ := h4.kids
  have hl : (pre.app (.cons c k .nil)).len = pre.len + 1 := by rw [Forest.app_len]; rfl
  refine ⟨⟨?_, fun _ => ⟨g, e, h3, ?_⟩⟩, ?_, ?_, g, v, e, h3, c0, c1, hv⟩
  · rw [Forest.app_assoc]; exact h1
  · rw [hl, show (pre.len + 1) * 2 = pre.len * 2 + 2 by omega]; exact hr
  · rw [h1, Forest.app_len]; show pre.len < pre.len + (r.len + 1); omega
  · rw [h1, Forest.app_size]; show k.size < pre.size + (k.size + r.size + 1); omega
theorem LeftS.done {w : World} {B : Nat} {f pre : Forest} {A : Option Addr} (h : LeftS w B f A pre .nil) : f = pre := by rw [h.1, Forest.app_nil]

end Go.Proofs.Ytcaegpjbdcopoaa
/- A list that is not too large. -/
namespace Go.Proofs.Ytcaegpjbdcopoaa
open Go.RowKit

theorem sizeLeft_len {l : List Seg} (h : ¬ sizeLeft l < 0) : l.length ≤ 1048576 := by
  unfold sizeLeft at h
  by_cases h1 : 1048576 - (l.length : Int) < 0
  · rw [if_pos h1] at h; omega
  · omega

end Go.Proofs.Ytcaegpjbdcopoaa
/- A row of texts of the call's own; marks in segments and in texts: what a law writes into what it was given, and whether it is held. -/
namespace Go.Proofs.Ytcaegpjbdcopoaa
open Go.RowKit

/-- Texts in a row of the call's own. -/
def OwnTexts (w : World) (B : Nat) (v : Value) (ts : List ByteArray) : Prop := w.ownsRow B 9 1 v ts.length (ts.map Value.string)
theorem OwnTexts.far {w w' : World} {B : Nat} {v : Value} {ts : List ByteArray} (h : OwnTexts w B v ts) (hk : ∀ g, v.ownBlock = some g → w'.heap[g]? = w.heap[g]?) : OwnTexts w' B v ts := by
  refine ⟨h.1, ?_⟩
  rcases h.2 with h0 | ⟨g', cap, cur, rfl, hg, hh, r⟩
  · exact .inl h0
  · exact .inr ⟨g', cap, cur, rfl, hg, (hk g' rfl).trans hh, r⟩
theorem OwnTexts.below {w w' : World} {B : Nat} {v : Value} {ts : List ByteArray} (h : OwnTexts w B v ts) (hb : Below w.heap.size w w') : OwnTexts w' B v ts := h.far fun g hg => hb.block g (World.ownsRow.lt h g hg).2
theorem info_str : (Try.prog.info? 9).map (fun i => (i.zero, i.size, i.bytes)) = some (some (.string ByteArray.empty), 1, 16) := by kernel_rfl

theorem OwnTexts.empty (w : World) {B : Nat} (hB : B ≤ w.heap.size) : OwnTexts (w.alloc (.cells #[] 9)) B (.slice (some ⟨w.heap.size, 0, none⟩) 0 0) [] :=
  World.ownsRow_lit w #[] 0 hB (by simp [maxLen]) rfl
theorem OwnTexts.one (w : World) {B : Nat} (hB : B ≤ w.heap.size) (s : ByteArray) : OwnTexts (w.alloc (.cells #[.string s] 9)) B (.slice (some ⟨w.heap.size, 0, none⟩) 1 1) [s] :=
  World.ownsRow_lit w #[.string s] 1 hB (by simp [maxLen]) rfl
theorem OwnTexts.form {w : World} {B : Nat} {v : Value} {ts : List ByteArray} (h : OwnTexts w B v ts) (hn : 0 < ts.length) : ∃ g cap, v = .slice (some ⟨g, 0, none⟩) ts.length cap := own_form h hn

end Go.Proofs.Ytcaegpjbdcopoaa
namespace Go.Proofs.Ytcaegpjbdcopoaa.St
open Go.RowKit

def digC (m : Nat) : UInt8 := UInt8.ofNat (48 + m % 10)
theorem digC_nat (m : Nat) : (digC m).toNat = 48 + m % 10 := by
  unfold digC
  rw [UInt8.toNat_ofNat']
  omega
/-- The decimal digits of a number, ahead of a text. -/
def mtl (k : Nat) (out : ByteArray) : ByteArray := if _h : k = 0 then out else mtl (k / 10) (⟨#[digC k]⟩ ++ out)
termination_by k
decreasing_by omega
theorem mtl_zero (out : ByteArray) : mtl 0 out = out := by
  rw [mtl]
  exact dif_pos rfl
theorem mtl_step {k : Nat} (h : 0 < k) (out : ByteArray) : mtl k out = mtl (k / 10) (⟨#[digC k]⟩ ++ out) := by
  conv => lhs; rw [mtl]
  exact dif_neg (by omega)
def mt (k : Nat) : ByteArray := ⟨#[109]⟩ ++ mtl k ⟨#[]⟩

set_option maxRecDepth 100000 in
set_option maxHeartbeats 1000000 in
theorem markText_any (k : Nat) (w : World) (h0 : 0 < k) (hk : k ≤ 10000000) :
    Calls Try.prog 57 #[.int .i64 k] w fun e w' => e = .returned (.string (mt k)) ∧ Below w.heap.size w w' := by
  have HM : Hid (mt k = ⟨#[109]⟩ ++ mtl k ⟨#[]⟩) := rfl
  have h0' : ¬ (k : Int) ≤ 0 := by omega
  go_enter Try.func57, Try.ntmps57
  go_wp2
  go_loopw [0, 3] (fun v o wr => ∃ (m : Nat) (s : ByteArray), v = .int .i64 m ∧ o = .string s ∧ s.size + m ≤ 10000000 ∧ Hid (mtl k ⟨#[]⟩ = mtl m s) ∧ Below w.heap.size w wr)
    (fun v _ _ => (intOf v).toNat)
  case atStart => exact ⟨k, ⟨#[]⟩, rfl, rfl, (by have h : (⟨#[]⟩ : ByteArray).size = 0 := rfl; omega), rfl, Below.refl _ _⟩
  case round =>
    obtain ⟨m, s, rfl, rfl, hs, HK, hb⟩ := hrel
    have hm0 : (0 : Int) ≤ (m : Int) := Int.natCast_nonneg _
    by_cases hm : 0 < m
    · have hm' : (0 : Int) < (m : Int) := by omega
      have HS := Lib.hid (HK.out.trans (mtl_step hm s))
      have hcv : (convert 22 9 (.slice (some ⟨wr.heap.size, 0, none⟩) 1 1)).run Try.prog (wr.alloc (.cells #[.int .u8 (48 + (m : Int) % 10)] 5)) = .ok (.string ⟨#[digC m]⟩) (wr.alloc (.cells #[.int .u8 (48 + (m : Int) % 10)] 5)) :=
        run_convert_bytes_back (P := Try.prog) _ 22 9 5 ⟨wr.heap.size, 0, none⟩ 1 [digC m] Try.underlying22 Try.underlying5 Try.underlying9 (fun j hj => by
          have : j = 0 := by simp at hj; omega
          subst this
          have h := (Row.new wr 5 #[.int .u8 (48 + (m : Int) % 10)]).cell 0
          have e : (48 + (m : Int) % 10) = ((digC m).toNat : Int) := by rw [digC_nat]; omega
          rw [e] at h ⊢
          exact h)
      have hsz : (⟨#[digC m]⟩ ++ s : ByteArray).size + m / 10 ≤ 10000000 := by
        have h1 : (⟨#[digC m]⟩ ++ s : ByteArray).size = 1 + s.size := by rw [ByteArray.size_append]; rfl
        omega
      go_wp2
      go_roundw
      case rel => exact ⟨m / 10, ⟨#[digC m]⟩ ++ s, congrArg (Value.int .i64) (by omega), rfl, hsz, HS, hb.alloc hb.size _⟩
      case measure => simp [intOf]; omega
    · obtain rfl : m = 0 := by omega
      have HZ := Lib.hid (HK.out.trans (mtl_zero s))
      go_wp2
      go_ret
      exact ⟨by rw [HM.out, HZ.out]; rfl, hb⟩


theorem onlyRefl (w : World) (may : Nat → Prop) : Only w w may := ⟨rfl, rfl, rfl, Nat.le_refl _, fun _ _ _ => rfl⟩
theorem onlyBelow {w w1 w2 : World} {may : Nat → Prop} (h : Only w w1 may) (hb : Below w1.heap.size w1 w2) : Only w w2 may :=
  ⟨hb.os.trans h.os, hb.tape.trans h.tape, hb.output.trans h.output, Nat.le_trans h.size hb.size, fun k hk hn => (hb.block k (Nat.lt_of_lt_of_le hk h.size)).trans (h.block k hk hn)⟩
theorem onlyPut {w w' : World} {may : Nat → Prop} (h : Only w w' may) {b : Nat} (hm : may b) (i : Nat) (u : Value) : Only w (w'.setCell ⟨b, i, none⟩ u) may := by
  have hb : Below 0 w' (w'.setCell ⟨b, i, none⟩ u) := (Below.refl 0 w').setCell (Nat.zero_le _) u
  exact ⟨hb.os.trans h.os, hb.tape.trans h.tape, hb.output.trans h.output, by have := h.size; have := hb.size; omega, fun k hk hn => (Below.heap_setCell w' ⟨b, i, none⟩ u k (fun e => hn (by rw [e]; exact hm))).trans (h.block k hk hn)⟩

/-- A slice of texts in memory below 'B'. -/
def Strs (w : World) (B : Nat) (A : Option Addr) (ts : List ByteArray) : Prop :=
  0 < ts.length → ∃ b o, A = some ⟨b, o, none⟩ ∧ b < B ∧ ∀ (k : Nat) (s : ByteArray), ts[k]? = some s → w.cell? ⟨b, o + k, none⟩ = some (.string s)
theorem Strs.below {w w' : World} {B : Nat} {A : Option Addr} {l : List ByteArray} (h : Strs w B A l) (hb : Below B w w') : Strs w' B A l := fun hl => by
  obtain ⟨b, o, e, hB, hc⟩ := h hl
  refine ⟨b, o, e, hB, fun k s hk => ?_⟩
  rw [hb.cell hB]
  exact hc k s hk
theorem Strs.more {w : World} {B B' : Nat} {A : Option Addr} {l : List ByteArray} (h : Strs w B A l) (hB : B ≤ B') : Strs w B' A l := fun hl => by
  obtain ⟨b, o, e, hb, hc⟩ := h hl
  exact ⟨b, o, e, Nat.lt_of_lt_of_le hb hB, hc⟩
theorem textsCell {w : World} {B g cap : Nat} {ts : List ByteArray} (h : OwnTexts w B (.slice (some ⟨g, 0, none⟩) ts.length cap) ts) {i : Nat} {s : ByteArray} (hi : ts[i]? = some s) : w.cell? ⟨g, i, none⟩ = some (.string s) := by
  have hlt := (List.getElem?_eq_some_iff.1 hi).1
  have := World.ownsRow.cellAt h i (by omega)
  rw [this, List.getElem?_map, hi]
  rfl
theorem textsForm {w : World} {B : Nat} {v : Value} {ts : List ByteArray} (h : OwnTexts w B v ts) : ∃ A cap, v = .slice A ts.length cap ∧ Strs w w.heap.size A ts := by
  have h' := h
  rcases h.2 with ⟨rfl, h0⟩ | ⟨g, cap, cur, rfl, hg, hh, r⟩
  · exact ⟨none, 0, by rw [h0], fun h => absurd h (by omega)⟩
  · refine ⟨_, cap, rfl, fun _ => ⟨g, 0, rfl, (Array.getElem?_eq_some_iff.1 hh).1, fun k s hk => ?_⟩⟩
    rw [Nat.zero_add]
    exact textsCell h' hk
theorem textsFree {w : World} {B g cap n : Nat} {ts : List ByteArray} (h : OwnTexts w B (.slice (some ⟨g, 0, none⟩) n cap) ts) (j : Nat) : w.frozen? ⟨g, j, none⟩ = false := by
  rcases h.2 with ⟨h0, _⟩ | ⟨g', cap', cur, hv, hg, hh, _⟩
  · cases h0
  · injection hv with hv1 _ hv3
    injection hv1 with hv1
    injection hv1 with hv1
    subst hv1
    exact Row.free (hh : Row w g _ cur) j
theorem textsStore {w : World} {B g cap : Nat} {ts : List ByteArray} (h : OwnTexts w B (.slice (some ⟨g, 0, none⟩) ts.length cap) ts) (i : Nat) (s : ByteArray) :
    OwnTexts (w.setCell ⟨g, i, none⟩ (.string s)) B (.slice (some ⟨g, 0, none⟩) ts.length cap) (ts.set i s) := by
  unfold OwnTexts at h ⊢
  rw [List.length_set]
  refine ⟨by simp, ?_⟩
  rcases h.2 with ⟨h0, _⟩ | ⟨g', cap', cur, hv, hg, hh, h1, h2, h3, h4⟩
  · cases h0
  · injection hv with hv1 _ hv3
    injection hv1 with hv1
    injection hv1 with hv1
    subst hv1 hv3
    have hr : Row w g 9 cur := hh
    refine .inr ⟨g, cap, _, rfl, hg, hr.put i _, h1, h2, by simpa using h3, ?_⟩
    rw [List.map_set, ← h4]
    simp only [Array.toList_setIfInBounds, List.take_set]
theorem textsFar {w w' : World} {B : Nat} {v : Value} {ts : List ByteArray} {may : Nat → Prop} (h : OwnTexts w B v ts) (ho : Only w w' may) (hm : ∀ g, v.ownBlock = some g → ¬ may g) : OwnTexts w' B v ts :=
  h.far fun g hg => ho.block g (World.ownsRow.lt h g hg).2 (hm g hg)

/-- The first 'i' are marked. -/
def smarked (ts : List ByteArray) (k : Nat) : Nat → List ByteArray
  | 0 => ts
  | i + 1 => (smarked ts k i).set i (mt (k + i))
theorem smarked_len (l : List ByteArray) (k : Nat) : ∀ i, (smarked l k i).length = l.length
  | 0 => rfl
  | i + 1 => by
    show ((smarked l k i).set i _).length = _
    rw [List.length_set, smarked_len l k i]
theorem smarked_at (l : List ByteArray) (k : Nat) : ∀ i j, j < i → i ≤ l.length → (smarked l k i)[j]? = some (mt (k + j))
  | 0, _, h, _ => absurd h (by omega)
  | i + 1, j, h, hi => by
    show ((smarked l k i).set i _)[j]? = _
    by_cases hj : j = i
    · subst hj
      rw [List.getElem?_set_self (by rw [smarked_len]; omega)]
    · rw [List.getElem?_set_ne (by omega)]
      exact smarked_at l k i j (by omega) (by omega)

set_option maxRecDepth 100000 in
set_option maxHeartbeats 2000000 in
theorem markSegmentS_only (k g n cap : Nat) (cs : Array Value) (w : World) (hr : Row w g 75 cs) (hc : cs.size = n * 3) (hk : k = 1) (hn : n ≤ 1048576) :
    Calls Try.prog 25 #[.slice (some ⟨g, 0, none⟩) n cap, .int .i64 k] w fun e w' => e = .returned (.int .i64 ((k + 3 * n : Nat) : Int)) ∧ Only w w' (· = g) := by
  have h0k : 0 < k := by omega
  have hk9 : k ≤ 10 := by omega
  clear hk
  have HR0 : Hid (Row w g 75 cs) := hr
  clear hr
  go_enter Try.func25, Try.ntmps25
  go_wp2
  go_loopw [1, 5] (fun a c wr => ∃ (i : Nat) (cs' : Array Value), i ≤ n ∧ c = .int .i64 i ∧ a = .int .i64 ((k + 3 * i : Nat) : Int) ∧ cs'.size = n * 3 ∧ Hid (Row wr g 75 cs') ∧ Hid (Only w wr (· = g)))
    (fun _ c _ => n - (intOf c).toNat)
  case atStart => exact ⟨0, cs, Nat.zero_le _, rfl, rfl, hc, HR0, onlyRefl _ _⟩
  case round =>
    obtain ⟨i, cs', hi, rfl, rfl, hz, HR, HY⟩ := hrel
    by_cases hlt : i < n
    · have hlt' : (i : Int) < (n : Int) := by omega
      have hi0 : (0 : Int) ≤ (i : Int) := Int.natCast_nonneg _
      go_wp2_with fail
      refine (markText_any (k + 3 * i) _ (by omega) (by omega)).mono ?_
      rintro e w1 ⟨rfl, hb1⟩
      have hr1 := HR.out.below hb1 HR.out.lt
      have z0 := hr1.free (i * 3)
      have z1 := hr1.free (i * 3 + 1)
      have z2 := hr1.free (i * 3 + 2)
      have d0 : w1.cell? ⟨g, i * 3, none⟩ = some (cs'[i * 3]'(by omega)) := by rw [hr1.cell, Array.getElem?_eq_getElem]
      have d1 : w1.cell? ⟨g, i * 3 + 1, none⟩ = some (cs'[i * 3 + 1]'(by omega)) := by rw [hr1.cell, Array.getElem?_eq_getElem]
      have d2 : w1.cell? ⟨g, i * 3 + 2, none⟩ = some (cs'[i * 3 + 2]'(by omega)) := by rw [hr1.cell, Array.getElem?_eq_getElem]
      have HR2 : Hid (∀ u0 u1 u2, Row (((w1.setCell ⟨g, i * 3, none⟩ u0).setCell ⟨g, i * 3 + 1, none⟩ u1).setCell ⟨g, i * 3 + 2, none⟩ u2) g 75 (((cs'.setIfInBounds (i * 3) u0).setIfInBounds (i * 3 + 1) u1).setIfInBounds (i * 3 + 2) u2)) := fun u0 u1 u2 => ((hr1.put _ _).put _ _).put _ _
      have HZ2 : Hid (∀ u0 u1 u2, (((cs'.setIfInBounds (i * 3) u0).setIfInBounds (i * 3 + 1) u1).setIfInBounds (i * 3 + 2) u2).size = n * 3) := fun u0 u1 u2 => by simpa using hz
      have HY1 : Hid (Only w w1 (· = g)) := onlyBelow HY.out hb1
      clear hr1 hb1 HR HY
      generalize cs'[i * 3]'_ = v0 at *
      generalize cs'[i * 3 + 1]'_ = v1 at *
      generalize cs'[i * 3 + 2]'_ = v2 at *
      generalize mt (k + 3 * i) = mm at *
      clear hz
      go_wp2
      go_roundw
      case rel => exact ⟨i + 1, _, by omega, by go_num, congrArg (Value.int .i64) (by omega), HZ2.out _ _ _, HR2.out _ _ _, onlyPut (onlyPut (onlyPut HY1.out rfl _ _) rfl _ _) rfl _ _⟩
      case measure => simp [intOf]; omega
    · obtain rfl : i = n := by omega
      go_wp2
      go_ret
      exact ⟨rfl, HY.out⟩

set_option maxHeartbeats 400000 in
theorem toSegmentS_row (A : Option Addr) (l : List Seg) (c : Nat) (w : World) (hw : Segs w w.heap.size A l) (hl : l.length ≤ 1048576) :
    Calls Try.prog 22 #[.slice A l.length c] w fun e w' => e = .returned (.slice (some ⟨w.heap.size, 0, none⟩) l.length l.length) ∧ Below w.heap.size w w' ∧ Segs w' w'.heap.size (some ⟨w.heap.size, 0, none⟩) l ∧ ∃ cs, Row w' w.heap.size 75 cs ∧ cs.size = l.length * 3 := by
  have HW : Hid (Segs w w.heap.size A l) := hw
  clear hw
  have hmk := run_make_segs l.length hl
  go_enter Try.func22, Try.ntmps22
  go_wp2
  go_loopw [4] (fun i wr => ∃ (k : Nat) (cs : Array Value), k ≤ l.length ∧ i = .int .i64 k ∧ Below w.heap.size w wr ∧ Row wr w.heap.size 75 cs ∧ Filled l k cs)
    (fun i _ => l.length - (intOf i).toNat)
  case atStart => exact ⟨0, _, Nat.zero_le _, rfl, (Below.refl _ _).alloc (Nat.le_refl _) _, Row.new _ _ _, Filled.start _ (size_madeCells _ _)⟩
  case round =>
    obtain ⟨k, cs, hk, rfl, hb, hrow, hf⟩ := hrel
    have hz : w.heap.size < wr.heap.size := hrow.lt
    by_cases hlt : k < l.length
    · obtain ⟨b, o, rfl, hB, hc⟩ := HW.out (by omega)
      obtain ⟨c0, c1, c2⟩ := hc k l[k] (List.getElem?_eq_getElem hlt)
      clear hc
      rw [← hb.cell hB] at c0 c1 c2
      have HN := Lib.hid (hf.next hlt)
      have HS := Lib.hid hf.1
      clear hf
      generalize l[k] = s at *
      go_wp2_with fail
      refine (toSegment_any s.name s.size s.par _).mono ?_
      rintro e w1 ⟨rfl, hb1⟩
      have hrow1 := hrow.below hb1 hz
      clear hrow
      have hb2 : Below w.heap.size w w1 := hb.trans (hb1.mono hb.size)
      have f0 := hrow1.free (k * 3)
      have f1 := hrow1.free (k * 3 + 1)
      have f2 := hrow1.free (k * 3 + 2)
      have d0 : w1.cell? ⟨w.heap.size, k * 3, none⟩ = some (cs[k * 3]'(by have := HS.out; omega)) := by rw [hrow1.cell, Array.getElem?_eq_getElem]
      have d1 : w1.cell? ⟨w.heap.size, k * 3 + 1, none⟩ = some (cs[k * 3 + 1]'(by have := HS.out; omega)) := by rw [hrow1.cell, Array.getElem?_eq_getElem]
      have d2 : w1.cell? ⟨w.heap.size, k * 3 + 2, none⟩ = some (cs[k * 3 + 2]'(by have := HS.out; omega)) := by rw [hrow1.cell, Array.getElem?_eq_getElem]
      have HR := Lib.hid hrow1
      clear hrow1
      generalize cs[k * 3]'_ = u0 at *
      generalize cs[k * 3 + 1]'_ = u1 at *
      generalize cs[k * 3 + 2]'_ = u2 at *
      go_wp2
      go_roundw
      case rel => exact ⟨k + 1, _, by omega, by go_num, ((hb2.setCell (Nat.le_refl _) _).setCell (Nat.le_refl _) _).setCell (Nat.le_refl _) _, ((HR.out.put _ _).put _ _).put _ _, HN.out⟩
      case measure => simp [intOf]; omega
    · obtain rfl : k = l.length := by omega
      have hd := hf.done hrow
      have HQ := Lib.hid hrow
      have HQ2 := Lib.hid hf.1
      clear hf hrow
      go_wp2
      go_ret
      exact ⟨rfl, hb, hd, _, HQ.out, HQ2.out⟩

end Go.Proofs.Ytcaegpjbdcopoaa.St

namespace Go.Proofs.Ytcaegpjbdcopoaa
open Go.RowKit

theorem mark1 (g n cap : Nat) (cs : Array Value) (w : World) (hr : Row w g 75 cs) (hc : cs.size = n * 3) (hn : n ≤ 1048576) :
    Calls Try.prog 25 #[.slice (some ⟨g, 0, none⟩) n cap, .int .i64 1] w fun e w' => e = .returned (.int .i64 ((1 + 3 * n : Nat) : Int)) ∧ Only w w' (· = g) :=
  St.markSegmentS_only 1 g n cap cs w hr hc rfl hn

theorem strsOf {w : World} {B n cap : Nat} {A : Option Addr} {ts : List ByteArray} (h : OwnTexts w B (.slice A n cap) ts) : St.Strs w w.heap.size A ts := by
  obtain ⟨A', cap', e, h'⟩ := St.textsForm h
  injection e with e1 e2 e3
  rw [e1]
  exact h'

end Go.Proofs.Ytcaegpjbdcopoaa
/- The reference's chains, texts and calls that are left. -/
namespace Go.Proofs.Ytcaegpjbdcopoaa
open Go.RowKit

/-- A row of texts that is no nil. -/
def SolidTexts (w : World) (B : Nat) (v : Value) (ts : List ByteArray) : Prop := OwnTexts w B v ts ∧ v ≠ .slice none 0 0
theorem SolidTexts.form {w : World} {B : Nat} {v : Value} {ts : List ByteArray} (h : SolidTexts w B v ts) : ∃ g cap, v = .slice (some ⟨g, 0, none⟩) ts.length cap := by
  rcases h.1.2 with ⟨h0, _⟩ | ⟨g, cap, cur, e, _⟩
  · exact absurd h0 h.2
  · exact ⟨g, cap, e⟩
def ChainsPost (w : World) (L : List ByteArray) (e : Ending) (w' : World) : Prop := ∃ v, e = .returned v ∧ SolidTexts w' w.heap.size v L ∧ Below w.heap.size w w'

end Go.Proofs.Ytcaegpjbdcopoaa
/- The reference's texts of calls. -/
namespace Go.Proofs.Ytcaegpjbdcopoaa
open Go.RowKit

theorem str_cat (x y : List UInt8) : strOf x ++ strOf y = strOf (x ++ y) := bytes_cat x y
theorem str_size (x : List UInt8) : (strOf x).size = x.length := bytes_size x
theorem Forest.isNil_pos {k : Forest} (h : k.isNil = false) : 0 < k.len := by
  rw [Forest.isNil_len] at h
  have := of_decide_eq_false h
  omega
theorem Forest.isNil_zero {k : Forest} (h : k.isNil = true) : k.len = 0 := by
  rw [Forest.isNil_len] at h
  exact of_decide_eq_true h

end Go.Proofs.Ytcaegpjbdcopoaa
/- The reference's calls that are left. -/
namespace Go.Proofs.Ytcaegpjbdcopoaa
open Go.RowKit

theorem oper_append_own {P : Program} {w : World} {o : Oper} {a : Act} {K : Act → World → Prop} {Q : Exit → Act → World → Prop} (s x : Operand) (t : TypeId)
    (ho : o.op = .call { callee := .builtin .append, args := #[s, x], argTypes := #[t, t] })
    (base : Nat) (e : TypeId) (i : TypeInfo) (z : Value) (size bytes : Nat) (ht : P.underlying t = some (.slice e)) (hi : P.info? e = some i) (hz : i.zero = some z)
    (hsize : i.size = size) (hby : i.bytes = bytes) (hzs : z.cells.size = size) (hsz : 0 < size)
    (v : Value) (n : Nat) (xs : List Value) (hs : a.eval s = v) (hown : w.ownsRow base e size v n xs)
    (ad : Addr) (m c : Nat) (news : List Value) (hx : a.eval x = .slice (some ad) m c) (hl : news.length = m * size) (hnews : ∀ j u, news[j]? = some u → w.cell? (ad.add j) = some u) (h1 : ∀ u ∈ news, u.oneCell' = true)
    (h63 : n + m ≤ maxLen) (hbytes : (n + m) * bytes ≤ 140737488355328) (hbase : base ≤ w.heap.size)
    (h : ∀ v' w', w'.ownsRow base e size v' (n + m) (xs ++ news) → w.grownBy w' v.ownBlock → (v' = .slice none 0 0 ↔ v = .slice none 0 0 ∧ m = 0) → (v'.ownBlock = v.ownBlock ∨ v'.ownBlock = some w.heap.size) → K (a.put o.dst v') w') :
    Oper.wp P o a w K Q := by
  obtain ⟨v', w', hr, h2, h3, h4, h5⟩ := run_append_own_at (P := P) w base t o.type e i z size bytes ht hi hz hsize hby hzs hsz v n xs hown ad m c news hl hnews h1 h63 hbytes hbase
  unfold Oper.wp execOp
  simp only [ho, resolve, invoke, builtin, Sem.run_bind, Sem.run_pure, Result.andThen_ok, List.map_toArray, List.map_cons, List.map_nil, hs, hx, hr]
  exact h v' w' h2 h3 h4 h5

/-- A slice of the reference's calls that is no nil. -/
def SolidS (w : World) (B : Nat) (v : Value) (f : Forest) : Prop := OwnS w B v f ∧ v ≠ .slice none 0 0
theorem SolidS.form {w : World} {B : Nat} {v : Value} {f : Forest} (h : SolidS w B v f) : ∃ g cap, v = .slice (some ⟨g, 0, none⟩) f.len cap := by
  obtain ⟨⟨xs, hown, _⟩, hn⟩ := h
  rcases hown.2 with ⟨h0, _⟩ | ⟨g, cap, cur, e, _⟩
  · exact absurd h0 hn
  · exact ⟨g, cap, e⟩
theorem SolidS.below {w w' : World} {B : Nat} {v : Value} {f : Forest} (h : SolidS w B v f) (hb : Below w.heap.size w w') : SolidS w' B v f :=
  ⟨h.1.far hb.size fun q _ h2 => hb.block q h2, h.2⟩
def LessPost (w : World) (f : Forest) (e : Ending) (w' : World) : Prop := ∃ v, e = .returned v ∧ SolidS w' w.heap.size v f ∧ Below w.heap.size w w'

/-- What holds in a round while one call is put behind those that are left. -/
structure LessHeld (w : World) (X : Nat) (c : UInt8) (kv v : Value) (F f pre k r : Forest) (A : Option Addr) (w' : World) : Prop where
  box : Row w' X 147 #[.string ⟨#[c]⟩, kv]
  own : SolidS w' w.heap.size v F
  left : LeftS w' w.heap.size f A (pre.app (.cons c k .nil)) r
  kids : IsKids w' (· < w.heap.size) k kv
  below : Below w.heap.size w w'
theorem LessHeld.later {w : World} {X : Nat} {c : UInt8} {kv v : Value} {F f pre k r : Forest} {A : Option Addr} {w1 w2 : World} (h : LessHeld w X c kv v F f pre k r A w1) (hb : Below w1.heap.size w1 w2) : LessHeld w X c kv v F f pre k r A w2 :=
  ⟨h.box.below hb h.box.lt, h.own.below hb, h.left.below (hb.mono h.below.size), h.kids.below (hb.mono h.below.size), h.below.trans (hb.mono h.below.size)⟩

end Go.Proofs.Ytcaegpjbdcopoaa
/- The reference's NeedsOf, ChainsOf, CountCalls, DepthOf. -/
namespace Go.Proofs.Ytcaegpjbdcopoaa
open Go.RowKit

theorem own_low {w : World} {B B' : Nat} {e : TypeId} {size : Nat} {v : Value} {n : Nat} {xs : List Value} (h : w.ownsRow B e size v n xs) (hB : B' ≤ B) : w.ownsRow B' e size v n xs := by
  refine ⟨h.1, ?_⟩
  rcases h.2 with h0 | ⟨g, cap, cur, e1, hg, r⟩
  · exact .inl h0
  · exact .inr ⟨g, cap, cur, e1, by omega, r⟩
/-- The chains of a trace. -/
def chainsRes (l : List Seg) (t : ByteArray) : List ByteArray := match traceB l t.data.toList with
  | none => []
  | some f => (chainsB [rootB l] f).map strOf
def ChainsResPost (w : World) (l : List Seg) (t : ByteArray) (e : Ending) (w' : World) : Prop :=
  ∃ v, e = .returned (.tuple #[v, .bool (traceB l t.data.toList).isSome]) ∧ OwnTexts w' w.heap.size v (chainsRes l t) ∧ Below w.heap.size w w'

def countRes (l : List Seg) (t : ByteArray) : Int := match traceB l t.data.toList with
  | none => -1
  | some f => f.size
theorem chainsRes_len {l : List Seg} {t : ByteArray} {f : Forest} (h : traceB l t.data.toList = some f) : (chainsRes l t).length = f.size := by
  unfold chainsRes
  rw [h]
  show ((chainsB [rootB l] f).map strOf).length = _
  rw [List.length_map, chainsB_len]

/-- The greatest length. -/
def mxLen (L : List (List UInt8)) : Nat := L.foldl (fun m x => max m x.length) 0
theorem mxLen_snoc (L : List (List UInt8)) (x : List UInt8) : mxLen (L ++ [x]) = max (mxLen L) x.length := by simp [mxLen, List.foldl_append]
theorem mxLen_le {L : List (List UInt8)} {n : Nat} (h : ∀ x ∈ L, x.length ≤ n) : mxLen L ≤ n := by
  have key : ∀ (L : List (List UInt8)) (m : Nat), m ≤ n → (∀ x ∈ L, x.length ≤ n) → L.foldl (fun m x => max m x.length) m ≤ n := by
    intro L
    induction L with
    | nil => intro m hm _; exact hm
    | cons y L ih => intro m hm hx; exact ih _ (Nat.max_le.2 ⟨hm, hx y (by simp)⟩) (fun x hx' => hx x (by simp [hx']))
  exact key L 0 (Nat.zero_le _) h
def depthRes (l : List Seg) (t : ByteArray) : Int := match traceB l t.data.toList with
  | none => -1
  | some f => mxLen (chainsB [] f)

end Go.Proofs.Ytcaegpjbdcopoaa
