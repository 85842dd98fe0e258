/- Joined: Fk Fm Fp Fq Fr Fs An Fn. -/
import Derived.Test.YtifkmehnikfihaaGreatU18
import Derived.Test.YtifkmehnikfihaaGreatU02
import Derived.Test.YtifkmehnikfihaaGreatU16
import Derived.Test.YtifkmehnikfihaaGreatU09
import Derived.Test.YtifkmehnikfihaaGreatU11
import Derived.Maps.AppendAt
import Derived.Deep.AppendLies
import Derived.BigQuiet
import Derived.WalkLawsBesides
import Derived.Test.YtifkmehnikfihaaGreatU08
import Derived.Test.YtifkmehnikfihaaGreatU14
/- The reference's l4Read and TraceValid by their contracts. -/
namespace Go.Proofs.YtifkmehnikfihaaGreat
open Go.RowKit

/-- What l4Read has done. -/
def ReadPost (w : World) (R : Option Forest) (e : Ending) (w' : World) : Prop :=
  ∃ v, e = .returned (.tuple #[v, .bool R.isSome]) ∧ ((∃ f, R = some f ∧ IsKids w' (fun q => w.heap.size ≤ q ∧ q < w'.heap.size) f v) ∨ (R = none ∧ ∃ A cap, v = .slice A 0 cap)) ∧ Below w.heap.size w w'

set_option maxRecDepth 100000 in
set_option maxHeartbeats 4000000 in
theorem l4Read_any (A : Option Addr) (l : List Seg) (c : Nat) (t : ByteArray) (w : World) (hw : Segs w w.heap.size A l) (hl : l.length ≤ 1048576) (hn : Short l) (ht : t.size ≤ 1048576) :
    Calls Tryz.prog 139 #[.slice A l.length c, .string t] w (ReadPost w (traceB l t.data.toList)) := by
  have HW : Hid (Segs w w.heap.size A l) := hw
  have hlen : t.data.toList.length = t.size := by simp
  have HT : Hid (traceB l t.data.toList = if (validB l && decide (t.size ≤ 80)) = true then whole (calls (callP l) 8 t.data.toList) else none) := by
    show _ = _
    rw [traceB_eq, hlen]
  have HLEN := Lib.hid hlen
  clear hw hlen
  have HB0 : Hid (Below w.heap.size w (w.alloc (.cells #[.string t, .int .i64 0, .bool false, .slice A l.length c, .int .i64 0] 239))) := (Below.refl _ w).alloc (Nat.le_refl _) _
  have HR0 : Hid (Row (w.alloc (.cells #[.string t, .int .i64 0, .bool false, .slice A l.length c, .int .i64 0] 239)) w.heap.size 239 (rdCells t ((0 : Nat) : Int) false (.slice A l.length c) 0)) := Row.new w _ _
  have HN : Hid (∀ (R : Option Forest) (W : World), R = none → Below w.heap.size w W → ReadPost w R (.returned (.tuple #[.slice (some ⟨W.heap.size, 0, none⟩) 0 0, .bool false])) (W.alloc (.cells #[] 210))) := fun R W h0 h1 => by
    subst h0
    exact ⟨_, rfl, .inr ⟨rfl, _, _, rfl⟩, h1.alloc h1.size _⟩
  go_enter Tryz.func139, Tryz.ntmps139
  go_wp2_with fail
  generalize w.alloc (.cells #[.string t, .int .i64 0, .bool false, .slice A l.length c, .int .i64 0] 239) = W1 at *
  have HWX : Hid (Segs W1 w.heap.size A l) := HW.out.below HB0.out
  have HQ := Lib.hid (specCalls_any w.heap.size t ht A l c hl hn 8 0 0 W1 (by omega) (by omega) (by omega) HWX.out HR0.out)
  refine Calls.mono HQ.out ?_
  rintro e w2 ⟨v, rfl, ho, (⟨F, k, hk, how, hr, hc⟩ | ⟨a, A', n', cap', rfl, ha0, ha1, hr, hc⟩)⟩
  · rw [List.drop_zero] at hc
    obtain ⟨A2, cap2, rfl⟩ := how.form
    have HB2 : Hid (Below w.heap.size w w2) := HB0.out.trans (ho.belowRow (Nat.le_of_lt HR0.out.lt))
    have hbw := HR0.out.lt
    have HZ : Hid (w.heap.size < W1.heap.size) := hbw
    have HS2 : Hid (Segs w2 w2.heap.size A l) := (HW.out.below HB2.out).more HB2.out.size
    have HK2 := Lib.hid how.kids
    have c1 : w2.cell? ⟨w.heap.size, 1, none⟩ = some (.int .i64 k) := hr.cell 1
    have c2 : w2.cell? ⟨w.heap.size, 2, none⟩ = some (.bool false) := hr.cell 2
    have HC := Lib.hid hc
    clear HQ HR0 HB0 HWX ho how hr hc hbw
    by_cases hke : k = t.size
    · have HWH : Hid (whole (calls (callP l) 8 t.data.toList) = some F) := by
        show _ = _
        rw [HC.out, hke, List.drop_of_length_le (by rw [HLEN.out]; exact Nat.le_refl _)]
        rfl
      have hneq : ((k : Int) != (t.size : Int)) = false := by rw [hke]; simp
      have heq : (k : Int) = (t.size : Int) := by omega
      by_cases h80 : 80 < t.size
      · have h80' : ¬ (t.size ≤ 80) := by omega
        have h80i : (80 : Int) < (t.size : Int) := by omega
        have HR : Hid (traceB l t.data.toList = none) := by
          show _ = _
          rw [HT.out, if_neg (by simp [h80'])]
        clear HT HC HWH hke
        have q : decide (80 < t.size) = true := decide_eq_true h80
        go_wp2
        go_ret2
        exact HN.out _ _ HR.out HB2.out
      · have h80' : t.size ≤ 80 := by omega
        have h80i : ¬ (80 : Int) < (t.size : Int) := by omega
        have q : decide (80 < t.size) = false := decide_eq_false h80
        have HTV := Lib.hid (specTreeValid_any A l c w2 HS2.out hl hn)
        cases hv : validB l with
        | false =>
          have HR : Hid (traceB l t.data.toList = none) := by
            show _ = _
            rw [HT.out, hv]; rfl
          clear HT HC HWH hke
          go_wp2_with fail
          refine Calls.mono HTV.out ?_
          rw [hv]
          clear HTV hv
          rintro e w3 ⟨rfl, hb3⟩
          have HB3 := Lib.hid (HB2.out.trans (hb3.mono HB2.out.size))
          clear hb3
          go_wp2
          go_ret2
          exact HN.out _ _ HR.out HB3.out
        | true =>
          have HR : Hid (traceB l t.data.toList = some F) := by
            show _ = _
            rw [HT.out, hv, decide_eq_true h80', HWH.out]; rfl
          clear HT HC HWH hke
          go_wp2_with fail
          refine Calls.mono HTV.out ?_
          rw [hv]
          clear HTV hv
          rintro e w3 ⟨rfl, hb3⟩
          have HB3 := Lib.hid (HB2.out.trans (hb3.mono HB2.out.size))
          have HK3 : Hid (IsKids w3 (fun q => w.heap.size ≤ q ∧ q < w3.heap.size) F (.slice A2 F.len cap2)) :=
            HK2.out.keep fun q hq => ⟨⟨by have := HZ.out; omega, Nat.lt_of_lt_of_le hq.2 hb3.size⟩, hb3.block q hq.2⟩
          clear hb3
          go_wp2
          go_ret2
          exact ⟨_, by rw [HR.out]; rfl, .inl ⟨F, HR.out, HK3.out⟩, HB3.out⟩
    · have HR : Hid (traceB l t.data.toList = none) := by
        show _ = _
        rw [HT.out, HC.out]
        have hd : t.data.toList.drop k = t[k]'(by omega) :: t.data.toList.drop (k + 1) := List.drop_eq_getElem_cons (by rw [HLEN.out]; omega)
        rw [hd]
        split <;> rfl
      have hneq : ((k : Int) != (t.size : Int)) = true := by rw [bne_iff_ne]; omega
      have hne' : ¬ (k : Int) = (t.size : Int) := by omega
      clear HT HC hke
      go_wp2
      go_ret2
      exact HN.out _ _ HR.out HB2.out
  · rw [List.drop_zero] at hc
    have HR : Hid (traceB l t.data.toList = none) := by
      show _ = _
      rw [HT.out, hc]
      split <;> rfl
    have HB2 : Hid (Below w.heap.size w w2) := HB0.out.trans (ho.belowRow (Nat.le_of_lt HR0.out.lt))
    have c2 : w2.cell? ⟨w.heap.size, 2, none⟩ = some (.bool true) := hr.cell 2
    clear HQ HR0 HB0 HWX ho hr hc HT
    go_wp2
    go_ret2
    exact HN.out _ _ HR.out HB2.out

end Go.Proofs.YtifkmehnikfihaaGreat
/- The reference's needs and texts of calls. -/
namespace Go.Proofs.YtifkmehnikfihaaGreat
open Go.RowKit

/-- What of the reference's calls is left behind those that were taken. -/
theorem IsKids.nil_or {w : World} {S : Nat → Prop} {f : Forest} {v : Value} (h : IsKids w S f v) : ∃ A cap, v = .slice A f.len cap ∧ (f.isNil = false → ∃ g, A = some ⟨g, 0, none⟩ ∧ S g ∧ SCells w S f g 0) := h
theorem SCells.kids {w : World} {S : Nat → Prop} {c : UInt8} {k r : Forest} {g o : Nat} (h : SCells w S (.cons c k r) g o) : w.cell? ⟨g, o, none⟩ = some (.string ⟨#[c]⟩) ∧ (∃ v, w.cell? ⟨g, o + 1, none⟩ = some v ∧ IsKids w S k v) ∧ SCells w S r g (o + 2) := by
  obtain ⟨h1, ⟨A, cap, h2, h3⟩, h4⟩ := h
  exact ⟨h1, ⟨_, h2, A, cap, rfl, h3⟩, h4⟩
theorem SCells.below {w w' : World} {f : Forest} {g o B : Nat} (h : SCells w (· < B) f g o) (hb : Below B w w') (hg : g < B) : SCells w' (· < B) f g o :=
  SCells.keep (fun q hq => ⟨hq, hb.block q hq⟩) f g o (hb.block g hg) h
theorem IsKids.below {w w' : World} {f : Forest} {v : Value} {B : Nat} (h : IsKids w (· < B) f v) (hb : Below B w w') : IsKids w' (· < B) f v :=
  h.keep fun q hq => ⟨hq, hb.block q hq⟩
theorem IsKids.up {w : World} {f : Forest} {v : Value} {B B' : Nat} (h : IsKids w (· < B) f v) (hB : B ≤ B') : IsKids w (· < B') f v :=
  h.keep fun _ hq => ⟨Nat.lt_of_lt_of_le hq hB, rfl⟩

/-- What the range over calls has before it. -/
def LeftS (w : World) (B : Nat) (f : Forest) (A : Option Addr) (pre rest : Forest) : Prop := f = pre.app rest ∧ (rest.isNil = false → ∃ g, A = some ⟨g, 0, none⟩ ∧ g < B ∧ SCells w (· < B) rest g (pre.len * 2))
theorem LeftS.start {w : World} {B : Nat} {f : Forest} {A : Option Addr} (h : f.isNil = false → ∃ g, A = some ⟨g, 0, none⟩ ∧ g < B ∧ SCells w (· < B) f g 0) : LeftS w B f A .nil f := ⟨rfl, h⟩
theorem LeftS.below {w w' : World} {B : Nat} {f pre rest : Forest} {A : Option Addr} (h : LeftS w B f A pre rest) (hb : Below B w w') : LeftS w' B f A pre rest := by
  refine ⟨h.1, fun hr => ?_⟩
  obtain ⟨g, e, h1, h2⟩ := h.2 hr
  exact ⟨g, e, h1, h2.below hb h1⟩
/-- One call is taken. -/
theorem LeftS.take {w : World} {B : Nat} {f pre k r : Forest} {c : UInt8} {A : Option Addr} (h : LeftS w B f A pre (.cons c k r)) :
    LeftS w B f A (pre.app (.cons c k .nil)) r ∧ pre.len < f.len ∧ k.size < f.size ∧ ∃ g v, A = some ⟨g, 0, none⟩ ∧ g < B ∧ w.cell? ⟨g, pre.len * 2, none⟩ = some (.string ⟨#[c]⟩) ∧ w.cell? ⟨g, pre.len * 2 + 1, none⟩ = some v ∧ IsKids w (· < B) k v := by
  obtain ⟨h1, h2⟩ := h
  obtain ⟨g, e, h3, h4⟩ := h2 rfl
  obtain ⟨c0, ⟨v, c1, hv⟩, hr⟩ := h4.kids
  have hl : (pre.app (.cons c k .nil)).len = pre.len + 1 := by rw [Forest.app_len]; rfl
  refine ⟨⟨?_, fun _ => ⟨g, e, h3, ?_⟩⟩, ?_, ?_, g, v, e, h3, c0, c1, hv⟩
  · rw [Forest.app_assoc]; exact h1
  · rw [hl, show (pre.len + 1) * 2 = pre.len * 2 + 2 by omega]; exact hr
  · rw [h1, Forest.app_len]; show pre.len < pre.len + (r.len + 1); omega
  · rw [h1, Forest.app_size]; show k.size < pre.size + (k.size + r.size + 1); omega
theorem LeftS.done {w : World} {B : Nat} {f pre : Forest} {A : Option Addr} (h : LeftS w B f A pre .nil) : f = pre := by rw [h.1, Forest.app_nil]

set_option maxRecDepth 100000 in
set_option maxHeartbeats 1000000 in
theorem l4Needs_any : ∀ (n : Nat) (f : Forest) (a : UInt8) (v : Value) (w : World), f.size < n → f.size ≤ 1000 → IsKids w (· < w.heap.size) f v →
    Calls Tryz.prog 158 #[.string ⟨#[a]⟩, v] w fun e w' => e = .returned (.string ⟨(a :: needsB a f).toArray⟩) ∧ Below w.heap.size w w' := by
  intro n
  induction n with
  | zero => intro f a v w h; omega
  | succ n ih =>
    intro f a v w hn h80 hk
    obtain ⟨A, cap, rfl, hcs⟩ := hk.nil_or
    have IH := Lib.hid ih
    have HL0 : Hid (LeftS w w.heap.size f A .nil f) := LeftS.start hcs
    have hfl : f.len ≤ 1000 := Nat.le_trans f.len_size h80
    clear ih hk hcs
    go_enter Tryz.func158, Tryz.ntmps158
    go_wp2
    go_loopw [5, 11] (fun s i wr => ∃ (pre rest : Forest) (x : ByteArray), s = .string x ∧ i = .int .i64 pre.len ∧ Hid (x = ⟨(a :: needsB a pre).toArray⟩) ∧ Hid (LeftS wr w.heap.size f A pre rest) ∧ Hid (Below w.heap.size w wr))
      (fun _ i _ => f.len - (intOf i).toNat)
    case atStart => exact ⟨.nil, f, _, rfl, rfl, rfl, HL0, Below.refl _ _⟩
    case round =>
      obtain ⟨pre, rest, x, rfl, rfl, HX, HL, HB⟩ := hrel
      clear HL0
      cases rest with
      | nil =>
        have HE := Lib.hid HL.out.done
        have hle : ¬ (pre.len < f.len) := by rw [HE.out]; omega
        go_wp2
        go_ret
        exact ⟨by rw [HX.out, HE.out]; rfl, HB.out⟩
      | cons c k r =>
        obtain ⟨hnext, hlt, hks, g, u, rfl, hg, c0, c1, hu⟩ := HL.out.take
        have HNX := Lib.hid hnext
        have hz := HB.out.size
        obtain ⟨A2, cap2, rfl, -⟩ := id hu
        have hu' := (hu.up hz).below ((Below.refl wr.heap.size wr).alloc (Nat.le_refl _) (.cells #[.string ⟨#[c]⟩, .slice A2 k.len cap2] 210))
        have HQ := Lib.hid (IH.out k c _ (wr.alloc (.cells #[.string ⟨#[c]⟩, .slice A2 k.len cap2] 210)) (by omega) (by omega) (hu'.up (by simp)))
        have hnl := needsB_len c k
        have hpl := needsB_len a pre
        have hps : pre.size ≤ f.size := by rw [HL.out.1, Forest.app_size]; omega
        have hxs : x.size ≤ 3000 := by rw [HX.out, bytes_size]; simp; omega
        have HXN : Hid (x ++ ⟨(c :: needsB c k).toArray⟩ ++ ⟨#[a]⟩ = ⟨(a :: needsB a (pre.app (.cons c k .nil))).toArray⟩) := by
          show _ = _
          rw [HX.out]
          refine (bytes_cat3 _ _ [a]).trans ?_
          rw [needsB_app, needsB_one]
          simp
        have hys : (⟨(c :: needsB c k).toArray⟩ : ByteArray).size ≤ 3000 := by rw [bytes_size]; simp; omega
        have HLN : Hid ((pre.app (.cons c k .nil)).len = pre.len + 1) := by show _ = _; rw [Forest.app_len]; rfl
        clear hnext hu hu' hnl hpl hps
        generalize hyy : (⟨(c :: needsB c k).toArray⟩ : ByteArray) = y at *
        clear hyy
        go_wp2_with fail
        refine Calls.mono HQ.out ?_
        rintro e w1 ⟨rfl, hb1⟩
        have HB1 : Hid (Below w.heap.size w w1) := (HB.out.alloc hz _).trans (hb1.mono (by simp; omega))
        have HL1 : Hid (LeftS w1 w.heap.size f (some ⟨g, 0, none⟩) (pre.app (.cons c k .nil)) r) := HNX.out.below (((Below.refl _ wr).alloc hz _).trans (hb1.mono (by simp; omega)))
        clear hb1 HQ HNX HL HB
        go_wp2
        go_roundw
        case rel => exact ⟨_, r, _, rfl, by rw [HLN.out]; go_num, HXN, HL1, HB1⟩
        case measure => simp [intOf]; omega

end Go.Proofs.YtifkmehnikfihaaGreat
/- The reference's chains, texts and calls that are left. -/
namespace Go.Proofs.YtifkmehnikfihaaGreat
open Go.RowKit

/-- A row of texts that is no nil. -/
def SolidTexts (w : World) (B : Nat) (v : Value) (ts : List ByteArray) : Prop := OwnTexts w B v ts ∧ v ≠ .slice none 0 0
theorem SolidTexts.form {w : World} {B : Nat} {v : Value} {ts : List ByteArray} (h : SolidTexts w B v ts) : ∃ g cap, v = .slice (some ⟨g, 0, none⟩) ts.length cap := by
  rcases h.1.2 with ⟨h0, _⟩ | ⟨g, cap, cur, e, _⟩
  · exact absurd h0 h.2
  · exact ⟨g, cap, e⟩
def ChainsPost (w : World) (L : List ByteArray) (e : Ending) (w' : World) : Prop := ∃ v, e = .returned v ∧ SolidTexts w' w.heap.size v L ∧ Below w.heap.size w w'

end Go.Proofs.YtifkmehnikfihaaGreat
/- The reference's texts of calls. -/
namespace Go.Proofs.YtifkmehnikfihaaGreat
open Go.RowKit

theorem str_cat (x y : List UInt8) : strOf x ++ strOf y = strOf (x ++ y) := bytes_cat x y
theorem str_size (x : List UInt8) : (strOf x).size = x.length := bytes_size x
theorem Forest.isNil_pos {k : Forest} (h : k.isNil = false) : 0 < k.len := by
  rw [Forest.isNil_len] at h
  have := of_decide_eq_false h
  omega
theorem Forest.isNil_zero {k : Forest} (h : k.isNil = true) : k.len = 0 := by
  rw [Forest.isNil_len] at h
  exact of_decide_eq_true h

set_option maxRecDepth 100000 in
set_option maxHeartbeats 2000000 in
theorem l4Text_any : ∀ (n : Nat) (f : Forest) (v : Value) (w : World), f.size < n → f.size ≤ 1000 → IsKids w (· < w.heap.size) f v →
    Calls Tryz.prog 176 #[v] w fun e w' => e = .returned (.string (strOf (textB f))) ∧ Below w.heap.size w w' := by
  intro n
  induction n with
  | zero => intro f v w h; omega
  | succ n ih =>
    intro f v w hn h80 hk
    obtain ⟨A, cap, rfl, hcs⟩ := hk.nil_or
    have IH := Lib.hid ih
    have HL0 : Hid (LeftS w w.heap.size f A .nil f) := LeftS.start hcs
    have hfl : f.len ≤ 1000 := Nat.le_trans f.len_size h80
    clear ih hk hcs
    go_enter Tryz.func176, Tryz.ntmps176
    go_wp2
    go_loopw [3, 8] (fun s i wr => ∃ (pre rest : Forest) (x : ByteArray), s = .string x ∧ i = .int .i64 pre.len ∧ Hid (x = strOf (textB pre)) ∧ Hid (LeftS wr w.heap.size f A pre rest) ∧ Hid (Below w.heap.size w wr))
      (fun _ i _ => f.len - (intOf i).toNat)
    case atStart => exact ⟨.nil, f, _, rfl, rfl, rfl, HL0, Below.refl _ _⟩
    case round =>
      obtain ⟨pre, rest, x, rfl, rfl, HX, HL, HB⟩ := hrel
      clear HL0
      cases rest with
      | nil =>
        have HE := Lib.hid HL.out.done
        have hle : ¬ (pre.len < f.len) := by rw [HE.out]; omega
        go_wp2
        go_ret
        exact ⟨by rw [HX.out, HE.out]; rfl, HB.out⟩
      | cons c k r =>
        obtain ⟨hnext, hlt, hks, g, u, rfl, hg, c0, c1, hu⟩ := HL.out.take
        have HNX := Lib.hid hnext
        have hz := HB.out.size
        obtain ⟨A2, cap2, rfl, -⟩ := id hu
        have hu' := (hu.up hz).below ((Below.refl wr.heap.size wr).alloc (Nat.le_refl _) (.cells #[.string ⟨#[c]⟩, .slice A2 k.len cap2] 210))
        have HQ := Lib.hid (IH.out k _ (wr.alloc (.cells #[.string ⟨#[c]⟩, .slice A2 k.len cap2] 210)) (by omega) (by omega) (hu'.up (by simp)))
        have hnl := textB_len k
        have hpl := textB_len pre
        have hps : pre.size ≤ f.size := by rw [HL.out.1, Forest.app_size]; omega
        have hxs : x.size ≤ 4000 := by rw [HX.out, str_size]; omega
        have hys : (strOf (textB k)).size ≤ 4000 := by rw [str_size]; omega
        have HLN : Hid ((pre.app (.cons c k .nil)).len = pre.len + 1) := by show _ = _; rw [Forest.app_len]; rfl
        have hq : ∀ q : List UInt8, textOne c k = c :: q → x ++ ⟨#[c]⟩ ++ strOf q = strOf (textB (pre.app (.cons c k .nil))) := fun q hq => by
          rw [HX.out, show (⟨#[c]⟩ : ByteArray) = strOf [c] from rfl, str_cat, str_cat, textB_app, textB_one, hq]
          simp
        cases hkn : k.isNil with
        | true =>
          have h0 := Forest.isNil_zero hkn
          have hq0 : x ++ ⟨#[c]⟩ = strOf (textB (pre.app (.cons c k .nil))) := by
            have := hq [] (by unfold textOne; rw [hkn]; rfl)
            rw [← this]
            apply ByteArray.ext
            simp [ByteArray.data_append, strOf]
          have HQ0 := Lib.hid hq0
          have HB1 : Hid (Below w.heap.size w (wr.alloc (.cells #[.string ⟨#[c]⟩, .slice A2 k.len cap2] 210))) := HB.out.alloc hz _
          have HL1 : Hid (LeftS (wr.alloc (.cells #[.string ⟨#[c]⟩, .slice A2 k.len cap2] 210)) w.heap.size f (some ⟨g, 0, none⟩) (pre.app (.cons c k .nil)) r) := HNX.out.below ((Below.refl _ wr).alloc hz _)
          have t1 : ¬ (0 < k.len) := by omega
          have t2 : decide (0 < k.len) = false := decide_eq_false t1
          clear hnext hu hu' hnl hpl hps hq hq0 h0 hkn HQ HNX HL HB
          go_wp2
          go_roundw
          case rel => exact ⟨_, r, _, rfl, by rw [HLN.out]; go_num, HQ0, HL1, HB1⟩
          case measure => simp [intOf]; omega
        | false =>
          have h0 := Forest.isNil_pos hkn
          have hq0 : x ++ ⟨#[c]⟩ ++ ⟨#[40]⟩ ++ strOf (textB k) ++ ⟨#[41]⟩ = strOf (textB (pre.app (.cons c k .nil))) := by
            have := hq (40 :: (textB k ++ [41])) (by unfold textOne; rw [hkn]; rfl)
            rw [← this]
            apply ByteArray.ext
            simp [ByteArray.data_append, strOf]
          have HQ0 := Lib.hid hq0
          have t2 : decide (0 < k.len) = true := decide_eq_true h0
          clear hnext hu hu' hnl hpl hps hq hq0 hkn
          generalize strOf (textB k) = y at *
          go_wp2_with fail
          refine Calls.mono HQ.out ?_
          rintro e w1 ⟨rfl, hb1⟩
          have HB1 : Hid (Below w.heap.size w w1) := (HB.out.alloc hz _).trans (hb1.mono (by simp; omega))
          have HL1 : Hid (LeftS w1 w.heap.size f (some ⟨g, 0, none⟩) (pre.app (.cons c k .nil)) r) := HNX.out.below (((Below.refl _ wr).alloc hz _).trans (hb1.mono (by simp; omega)))
          clear hb1 HQ HNX HL HB
          go_wp2
          go_roundw
          case rel => exact ⟨_, r, _, rfl, by rw [HLN.out]; go_num, HQ0, HL1, HB1⟩
          case measure => simp [intOf]; omega

end Go.Proofs.YtifkmehnikfihaaGreat
/- The reference's calls that are left. -/
namespace Go.Proofs.YtifkmehnikfihaaGreat
open Go.RowKit

theorem oper_append_own {P : Program} {w : World} {o : Oper} {a : Act} {K : Act → World → Prop} {Q : Exit → Act → World → Prop} (s x : Operand) (t : TypeId)
    (ho : o.op = .call { callee := .builtin .append, args := #[s, x], argTypes := #[t, t] })
    (base : Nat) (e : TypeId) (i : TypeInfo) (z : Value) (size bytes : Nat) (ht : P.underlying t = some (.slice e)) (hi : P.info? e = some i) (hz : i.zero = some z)
    (hsize : i.size = size) (hby : i.bytes = bytes) (hzs : z.cells.size = size) (hsz : 0 < size)
    (v : Value) (n : Nat) (xs : List Value) (hs : a.eval s = v) (hown : w.ownsRow base e size v n xs)
    (ad : Addr) (m c : Nat) (news : List Value) (hx : a.eval x = .slice (some ad) m c) (hl : news.length = m * size) (hnews : ∀ j u, news[j]? = some u → w.cell? (ad.add j) = some u) (h1 : ∀ u ∈ news, u.oneCell' = true)
    (h63 : n + m ≤ maxLen) (hbytes : (n + m) * bytes ≤ 140737488355328) (hbase : base ≤ w.heap.size)
    (h : ∀ v' w', w'.ownsRow base e size v' (n + m) (xs ++ news) → w.grownBy w' v.ownBlock → (v' = .slice none 0 0 ↔ v = .slice none 0 0 ∧ m = 0) → (v'.ownBlock = v.ownBlock ∨ v'.ownBlock = some w.heap.size) → K (a.put o.dst v') w') :
    Oper.wp P o a w K Q := by
  obtain ⟨v', w', hr, h2, h3, h4, h5⟩ := run_append_own_at (P := P) w base t o.type e i z size bytes ht hi hz hsize hby hzs hsz v n xs hown ad m c news hl hnews h1 h63 hbytes hbase
  unfold Oper.wp execOp
  simp only [ho, resolve, invoke, builtin, Sem.run_bind, Sem.run_pure, Result.andThen_ok, List.map_toArray, List.map_cons, List.map_nil, hs, hx, hr]
  exact h v' w' h2 h3 h4 h5

/-- A slice of the reference's calls that is no nil. -/
def SolidS (w : World) (B : Nat) (v : Value) (f : Forest) : Prop := OwnS w B v f ∧ v ≠ .slice none 0 0
theorem SolidS.form {w : World} {B : Nat} {v : Value} {f : Forest} (h : SolidS w B v f) : ∃ g cap, v = .slice (some ⟨g, 0, none⟩) f.len cap := by
  obtain ⟨⟨xs, hown, _⟩, hn⟩ := h
  rcases hown.2 with ⟨h0, _⟩ | ⟨g, cap, cur, e, _⟩
  · exact absurd h0 hn
  · exact ⟨g, cap, e⟩
theorem SolidS.below {w w' : World} {B : Nat} {v : Value} {f : Forest} (h : SolidS w B v f) (hb : Below w.heap.size w w') : SolidS w' B v f :=
  ⟨h.1.far hb.size fun q _ h2 => hb.block q h2, h.2⟩
def LessPost (w : World) (f : Forest) (e : Ending) (w' : World) : Prop := ∃ v, e = .returned v ∧ SolidS w' w.heap.size v f ∧ Below w.heap.size w w'

/-- What holds in a round while one call is put behind those that are left. -/
structure LessHeld (w : World) (X : Nat) (c : UInt8) (kv v : Value) (F f pre k r : Forest) (A : Option Addr) (w' : World) : Prop where
  box : Row w' X 210 #[.string ⟨#[c]⟩, kv]
  own : SolidS w' w.heap.size v F
  left : LeftS w' w.heap.size f A (pre.app (.cons c k .nil)) r
  kids : IsKids w' (· < w.heap.size) k kv
  below : Below w.heap.size w w'
theorem LessHeld.later {w : World} {X : Nat} {c : UInt8} {kv v : Value} {F f pre k r : Forest} {A : Option Addr} {w1 w2 : World} (h : LessHeld w X c kv v F f pre k r A w1) (hb : Below w1.heap.size w1 w2) : LessHeld w X c kv v F f pre k r A w2 :=
  ⟨h.box.below hb h.box.lt, h.own.below hb, h.left.below (hb.mono h.below.size), h.kids.below (hb.mono h.below.size), h.below.trans (hb.mono h.below.size)⟩

end Go.Proofs.YtifkmehnikfihaaGreat
/- The reference's NeedsOf, ChainsOf, CountCalls, DepthOf. -/
namespace Go.Proofs.YtifkmehnikfihaaGreat
open Go.RowKit

theorem own_low {w : World} {B B' : Nat} {e : TypeId} {size : Nat} {v : Value} {n : Nat} {xs : List Value} (h : w.ownsRow B e size v n xs) (hB : B' ≤ B) : w.ownsRow B' e size v n xs := by
  refine ⟨h.1, ?_⟩
  rcases h.2 with h0 | ⟨g, cap, cur, e1, hg, r⟩
  · exact .inl h0
  · exact .inr ⟨g, cap, cur, e1, by omega, r⟩
set_option maxRecDepth 100000 in
set_option maxHeartbeats 1000000 in
theorem specNeedsOf_any (A : Option Addr) (l : List Seg) (c : Nat) (t : ByteArray) (w : World) (hw : Segs w w.heap.size A l) (hl : l.length ≤ 1048576) (hn : Short l) (ht : t.size ≤ 1048576) :
    Calls Tryz.prog 95 #[.slice A l.length c, .string t] w fun e w' => e = .returned (.tuple #[.string (needsRes l t), .bool (traceB l t.data.toList).isSome]) ∧ Below w.heap.size w w' := by
  have HQ := Lib.hid (l4Read_any A l c t w hw hl hn ht)
  have HW : Hid (Segs w w.heap.size A l) := hw
  unfold needsRes
  cases hR : traceB l t.data.toList with
  | none =>
    rw [hR] at HQ
    clear hw hn hR
    go_enter Tryz.func95, Tryz.ntmps95
    go_wp2_with fail
    refine Calls.mono HQ.out ?_
    rintro e w2 ⟨v, rfl, -, hb⟩
    go_wp2
    go_ret2
    exact ⟨rfl, hb⟩
  | some f =>
    obtain ⟨hv, h80, hcl⟩ := traceB_some hR
    have hsz := (traceB_size hR).1
    have HV := Lib.hid hv
    have hl1 := (valid_all hv).2.2
    rw [hR] at HQ
    clear hw hn hR h80 hcl hv
    go_enter Tryz.func95, Tryz.ntmps95
    go_wp2_with fail
    refine Calls.mono HQ.out ?_
    rintro e w2 ⟨v, rfl, (⟨f', hf', hsl⟩ | ⟨h0, -⟩), hb⟩
    · obtain rfl : f = f' := by injection hf'
      have HSL : Hid (IsKids w2 (· < w2.heap.size) f v) := hsl.keep fun q hq => ⟨hq.2, rfl⟩
      have HB := Lib.hid hb
      obtain ⟨b0, o0, rfl, hB0, c0⟩ := (HW.out.below hb).root HV.out
      clear hsl hb hf' HQ
      go_wp2_with fail
      refine (l4Needs_any (f.size + 1) f (rootB l) v w2 (by omega) (by omega) HSL.out).mono ?_
      rintro e w3 ⟨rfl, hb3⟩
      have HB3 := Lib.hid (HB.out.trans (hb3.mono HB.out.size))
      clear hb3
      go_wp2
      go_ret2
      exact ⟨rfl, HB3.out⟩
    · cases h0

/-- The chains of a trace. -/
def chainsRes (l : List Seg) (t : ByteArray) : List ByteArray := match traceB l t.data.toList with
  | none => []
  | some f => (chainsB [rootB l] f).map strOf
def ChainsResPost (w : World) (l : List Seg) (t : ByteArray) (e : Ending) (w' : World) : Prop :=
  ∃ v, e = .returned (.tuple #[v, .bool (traceB l t.data.toList).isSome]) ∧ OwnTexts w' w.heap.size v (chainsRes l t) ∧ Below w.heap.size w w'

def countRes (l : List Seg) (t : ByteArray) : Int := match traceB l t.data.toList with
  | none => -1
  | some f => f.size
theorem chainsRes_len {l : List Seg} {t : ByteArray} {f : Forest} (h : traceB l t.data.toList = some f) : (chainsRes l t).length = f.size := by
  unfold chainsRes
  rw [h]
  show ((chainsB [rootB l] f).map strOf).length = _
  rw [List.length_map, chainsB_len]

/-- The greatest length. -/
def mxLen (L : List (List UInt8)) : Nat := L.foldl (fun m x => max m x.length) 0
theorem mxLen_snoc (L : List (List UInt8)) (x : List UInt8) : mxLen (L ++ [x]) = max (mxLen L) x.length := by simp [mxLen, List.foldl_append]
theorem mxLen_le {L : List (List UInt8)} {n : Nat} (h : ∀ x ∈ L, x.length ≤ n) : mxLen L ≤ n := by
  have key : ∀ (L : List (List UInt8)) (m : Nat), m ≤ n → (∀ x ∈ L, x.length ≤ n) → L.foldl (fun m x => max m x.length) m ≤ n := by
    intro L
    induction L with
    | nil => intro m hm _; exact hm
    | cons y L ih => intro m hm hx; exact ih _ (Nat.max_le.2 ⟨hm, hx y (by simp)⟩) (fun x hx' => hx x (by simp [hx']))
  exact key L 0 (Nat.zero_le _) h
def depthRes (l : List Seg) (t : ByteArray) : Int := match traceB l t.data.toList with
  | none => -1
  | some f => mxLen (chainsB [] f)

end Go.Proofs.YtifkmehnikfihaaGreat
/- The reference's TopCalls. -/
namespace Go.Proofs.YtifkmehnikfihaaGreat
open Go.RowKit

set_option maxRecDepth 100000 in
/-- Texts put behind texts: append, where what is put behind lies somewhere else. -/
theorem wp_app11 {ops : Array Oper} {rest : List Oper} {o : Oper} {a : Act} {Q : Exit → Act → World → Prop} (hgd : o.guard = none) (S X : Operand)
    (ho : o.op = Op.call { callee := Callee.builtin Builtin.append, args := #[S, X], argTypes := #[50, 50] })
    (B : Nat) (v : Value) (ts : List ByteArray) (W : World) (hs : a.eval S = v) (hown : OwnTexts W B v ts) (htl : ts.length ≤ 1000) (hB : B ≤ W.heap.size)
    (g off m c : Nat) (us : List ByteArray) (hx : a.eval X = .slice (some ⟨g, off, none⟩) m c) (hm : us.length = m) (hul : us.length ≤ 1000)
    (hnew : ∀ j x, us[j]? = some x → W.cell? ⟨g, off + j, none⟩ = some (.string x))
    (h : ∀ v' w', OwnTexts w' B v' (ts ++ us) → Below B W w' → (∀ k, k < W.heap.size → v.ownBlock ≠ some k → w'.heap[k]? = W.heap[k]?) → (v' = .slice none 0 0 ↔ v = .slice none 0 0 ∧ m = 0) → wpList Tryz.prog ops Q rest (a.put o.dst v') w') :
    wpList Tryz.prog ops Q (o :: rest) a W := by
  obtain ⟨i0, hi, hz0, hz1, hz2⟩ := info_parts info_str
  refine wpList_append_own W hgd S X 50 ho B 9 i0 (.string ByteArray.empty) 1 16 Tryz.underlying50 hi hz0 hz1 hz2 rfl (by decide) v ts.length (ts.map Value.string) hs hown ⟨g, off, none⟩ m c (us.map Value.string) hx (by rw [List.length_map, hm, Nat.mul_one]) ?_ ?_ (by unfold maxLen; omega) (by omega) hB ?_
  · intro j u hj
    rw [List.getElem?_map] at hj
    rw [Addr.add_lit]
    cases hu : us[j]? with
    | none => rw [hu] at hj; cases hj
    | some x =>
      rw [hu] at hj
      injection hj with hj
      rw [← hj]
      exact hnew j x hu
  · intro u hu
    obtain ⟨x, _, rfl⟩ := List.mem_map.1 hu
    rfl
  · intro v' w' h1 h2 h3
    refine h v' w' ?_ ?_ ?_ h3
    · show w'.ownsRow B _ 1 v' (ts ++ us).length ((ts ++ us).map Value.string)
      rw [List.length_append, List.map_append, hm]
      exact h1
    · exact (Below.refl B W).grown h2 hB (fun k e => (World.ownsRow.lt hown k e).1)
    · exact fun k hk hne => h2.block k hk (fun e => hne e.symm)

/-- What TopCalls hands back. -/
def TopsPost (w : World) (l : List Seg) (t : ByteArray) (e : Ending) (w' : World) : Prop :=
  ∃ v, e = .returned (.tuple #[v, .bool (traceB l t.data.toList).isSome]) ∧ OwnTexts w' w.heap.size v (topsRes l t) ∧ Below w.heap.size w w'

/-- What was read, or nothing. -/
theorem readKids {w w' : World} {l : List Seg} {t : ByteArray} {e : Ending} (h : ReadPost w (traceB l t.data.toList) e w') :
    ∃ v f, e = .returned (.tuple #[v, .bool (traceB l t.data.toList).isSome]) ∧ topsRes l t = (topsB f).map strOf ∧ f.size ≤ 80 ∧ IsKids w' (· < w'.heap.size) f v ∧ Below w.heap.size w w' := by
  obtain ⟨v, e1, h1, hb⟩ := h
  unfold topsRes
  cases hR : traceB l t.data.toList with
  | none =>
    rw [hR] at h1 e1
    rcases h1 with ⟨f, h0, _⟩ | ⟨_, A, cap, rfl⟩
    · cases h0
    · exact ⟨_, .nil, e1, rfl, Nat.zero_le _, ⟨A, cap, rfl, fun h => by cases h⟩, hb⟩
  | some f =>
    rw [hR] at h1 e1
    rcases h1 with ⟨f', h0, hk⟩ | ⟨h0, _⟩
    · obtain rfl : f = f' := by injection h0
      exact ⟨v, f, e1, rfl, (traceB_size hR).1, hk.keep fun q hq => ⟨hq.2, rfl⟩, hb⟩
    · cases h0

/-- A row of one call. -/
theorem kids_one {W : World} {c : UInt8} {k : Forest} {A : Option Addr} {cap : Nat} (hk : IsKids W (· < W.heap.size) k (.slice A k.len cap)) :
    IsKids (W.alloc (.cells #[.string ⟨#[c]⟩, .slice A k.len cap] 210)) (· < (W.alloc (.cells #[.string ⟨#[c]⟩, .slice A k.len cap] 210)).heap.size) (.cons c k .nil) (.slice (some ⟨W.heap.size, 0, none⟩) 1 1) := by
  have hr : Row (W.alloc (.cells #[.string ⟨#[c]⟩, .slice A k.len cap] 210)) W.heap.size 210 #[.string ⟨#[c]⟩, .slice A k.len cap] := Row.new W _ _
  have h1 := (hk.below ((Below.refl _ W).alloc (Nat.le_refl _) (.cells #[.string ⟨#[c]⟩, .slice A k.len cap] 210))).up (B' := (W.alloc (.cells #[.string ⟨#[c]⟩, .slice A k.len cap] 210)).heap.size) (by simp)
  obtain ⟨A', cap', e, h2⟩ := h1
  injection e with e1 e2 e3
  subst e1 e3
  exact ⟨_, 1, rfl, fun _ => ⟨W.heap.size, rfl, by simp, hr.cell 0, ⟨_, _, hr.cell 1, h2⟩, trivial⟩⟩

set_option maxRecDepth 100000 in
set_option maxHeartbeats 2000000 in
theorem l11Top_any (A : Option Addr) (l : List Seg) (c : Nat) (t : ByteArray) (w : World) (hw : Segs w w.heap.size A l) (hl : l.length ≤ 1048576) (hn : Short l) (ht : t.size ≤ 1048576) :
    Calls Tryz.prog 118 #[.slice A l.length c, .string t] w (TopsPost w l t) := by
  have HQ := Lib.hid (l4Read_any A l c t w hw hl hn ht)
  have HRK := Lib.hid (fun e w' => readKids (w := w) (w' := w') (l := l) (t := t) (e := e))
  unfold TopsPost
  generalize (traceB l t.data.toList).isSome = d at *
  generalize topsRes l t = ts0 at *
  clear hw hn
  go_enter Tryz.func118, Tryz.ntmps118
  go_wp2_with fail
  refine Calls.mono HQ.out ?_
  intro e w2 hrd
  obtain ⟨v, f, rfl, htr, h80, hk, hb⟩ := HRK.out e w2 hrd
  subst htr
  obtain ⟨A3, cap, rfl, hcs⟩ := hk.nil_or
  have HL0 : Hid (LeftS w2 w2.heap.size f A3 .nil f) := LeftS.start hcs
  have HB := Lib.hid hb
  have hfl : f.len ≤ 80 := Nat.le_trans f.len_size h80
  clear hrd HRK HQ hk hcs hb
  have HS0 : Hid (OwnTexts (w2.alloc (.cells #[] 9)) w2.heap.size (.slice (some ⟨w2.heap.size, 0, none⟩) 0 0) []) := OwnTexts.empty w2 (Nat.le_refl _)
  have HB0 : Hid (Below w2.heap.size w2 (w2.alloc (.cells #[] 9))) := (Below.refl _ w2).alloc (Nat.le_refl _) _
  go_wp2
  go_loopw [8, 20] (fun o i wr => ∃ (pre rest : Forest), i = .int .i64 pre.len ∧ Hid (OwnTexts wr w2.heap.size o ((topsB pre).map strOf)) ∧ Hid (LeftS wr w2.heap.size f A3 pre rest) ∧ Hid (Below w2.heap.size w2 wr))
    (fun _ i _ => f.len - (intOf i).toNat)
  case atStart => exact ⟨.nil, f, rfl, HS0, HL0.out.below HB0.out, HB0.out⟩
  case round =>
    obtain ⟨pre, rest, rfl, HT, HL, HB2⟩ := hrel
    clear HL0 HS0 HB0
    cases rest with
    | nil =>
      have HE := Lib.hid HL.out.done
      have hle : ¬ (pre.len < f.len) := by rw [HE.out]; omega
      go_wp2
      go_ret2
      exact ⟨_, rfl, by rw [HE.out]; exact own_low HT.out HB.out.size, HB.out.trans (HB2.out.mono HB.out.size)⟩
    | cons c k r =>
      obtain ⟨hnext, hlt, hks, g, u, rfl, hg, c0, c1, hu⟩ := HL.out.take
      obtain ⟨A2, cap2, rfl, -⟩ := id hu
      have HNX := Lib.hid hnext
      have hz := HB2.out.size
      obtain ⟨A1, cap1, rfl, -⟩ := St.textsForm HT.out
      have htl : ((topsB pre).map strOf).length ≤ 80 := by rw [List.length_map, topsB_len]; omega
      have HLN : Hid ((pre.app (.cons c k .nil)).len = pre.len + 1) := by show _ = _; rw [Forest.app_len]; rfl
      have HCH : Hid ((topsB (pre.app (.cons c k .nil))).map strOf = (topsB pre).map strOf ++ [strOf (textOne c k)]) := by
        show _ = _
        rw [topsB_app, topsB_one, List.map_append]; rfl
      have hu1 := (hu.up hz).below ((Below.refl wr.heap.size wr).alloc (Nat.le_refl _) (.cells #[.string ⟨#[c]⟩, .slice A2 k.len cap2] 210))
      have hu2 := kids_one (c := c) (hu1.up (B' := (wr.alloc (.cells #[.string ⟨#[c]⟩, .slice A2 k.len cap2] 210)).heap.size) (by simp))
      have HQ := Lib.hid (l4Text_any (k.size + 2) (.cons c k .nil) _ _ (by show k.size + 0 + 1 < _; omega) (by show k.size + 0 + 1 ≤ _; omega) hu2)
      rw [textB_one] at HQ
      rw [World.size_alloc] at HQ
      have HB3 : Hid (Below wr.heap.size wr ((wr.alloc (.cells #[.string ⟨#[c]⟩, .slice A2 k.len cap2] 210)).alloc (.cells #[.string ⟨#[c]⟩, .slice A2 k.len cap2] 210))) := ((Below.refl _ wr).alloc (Nat.le_refl _) _).alloc (by simp) _
      have hys : (strOf (textOne c k)).size ≤ 1000 := by
        have := textOne_len c k
        unfold strOf
        show (textOne c k).toArray.size ≤ 1000
        rw [List.size_toArray]; omega
      clear hnext hu hu1 hu2
      generalize (topsB pre).map strOf = ts at *
      generalize strOf (textOne c k) = y at *
      go_wp2_with fail
      refine Calls.mono HQ.out ?_
      rintro e w5 ⟨rfl, hb5⟩
      have HB5 : Hid (Below wr.heap.size wr w5) := HB3.out.trans (hb5.mono (by simp; omega))
      have HT5 : Hid (OwnTexts w5 w2.heap.size (.slice A1 ts.length cap1) ts) := HT.out.below HB5.out
      clear hb5 HB3 HQ c0 c1
      have HT6 : Hid (OwnTexts (w5.alloc (.cells #[.string y] 9)) w2.heap.size (.slice A1 ts.length cap1) ts) := HT5.out.below ((Below.refl _ w5).alloc (Nat.le_refl _) _)
      have HN6 : Hid (∀ j x, [y][j]? = some x → (w5.alloc (.cells #[.string y] 9)).cell? ⟨w5.heap.size, 0 + j, none⟩ = some (.string x)) := by
        intro j x hj
        have hj0 : j = 0 := by have := (List.getElem?_eq_some_iff.1 hj).1; simp at this; omega
        subst hj0
        simp at hj
        subst hj
        exact Row.cell (Row.new w5 9 #[.string y]) 0
      have hz5 := HB5.out.size
      go_wp2_with (at_builtin; go_loud (refine wp_app11 rfl (.tmp 24) (.tmp 28) rfl w2.heap.size _ ts _ rfl HT6.out (by omega) (by simp; omega) w5.heap.size 0 1 1 [y] rfl rfl (by simp) HN6.out ?_); intro v7 w7 ho7 hb7 _ _; have HO7 := Lib.hid ho7; have HB7 : Hid (Below w2.heap.size w5 w7) := ((Below.refl _ w5).alloc (by omega) _).trans hb7; clear ho7 hb7 HN6 HT6)
      rw [← HCH.out] at HO7
      have HB8 : Hid (Below w2.heap.size wr w7) := (HB5.out.mono hz).trans HB7.out
      have HB9 : Hid (Below w2.heap.size w2 w7) := HB2.out.trans HB8.out
      have HL9 := Lib.hid (HNX.out.below HB8.out)
      clear HB5 HB7 HT5 HT HL HNX HB8 HB2
      go_roundw
      case rel => exact ⟨_, r, by rw [HLN.out]; go_num, HO7, HL9, HB9⟩
      case measure => simp [intOf]; omega

set_option maxRecDepth 100000 in
theorem specTopCalls_any (A : Option Addr) (l : List Seg) (c : Nat) (t : ByteArray) (w : World) (hw : Segs w w.heap.size A l) (hl : l.length ≤ 1048576) (hn : Short l) (ht : t.size ≤ 1048576) :
    Calls Tryz.prog 57 #[.slice A l.length c, .string t] w (TopsPost w l t) := by
  have HQ := Lib.hid (l11Top_any A l c t w hw hl hn ht)
  unfold TopsPost at HQ ⊢
  generalize (traceB l t.data.toList).isSome = d at *
  generalize topsRes l t = ts at *
  clear hw hn
  go_enter Tryz.func57, Tryz.ntmps57
  go_wp2_with fail
  refine Calls.mono HQ.out ?_
  rintro e w2 ⟨v, rfl, ho, hb⟩
  have HO := Lib.hid ho
  clear ho
  go_wp2
  go_ret2
  exact ⟨_, rfl, HO.out, hb⟩

end Go.Proofs.YtifkmehnikfihaaGreat
/- The program's calls: their methods, and what is needed for them, written out. -/
namespace Go.Proofs.YtifkmehnikfihaaGreat
open Go.RowKit

theorem meth_name_leaf (c : UInt8) (w : World) : (method 426 284 (.agg #[.string ⟨#[c]⟩]) "loop.example/segmentrooms/impl.name").run Tryz.prog w = .ok (313, .agg #[.string ⟨#[c]⟩]) w := by kernel_rfl
theorem meth_calls_leaf (c : UInt8) (w : World) : (method 426 284 (.agg #[.string ⟨#[c]⟩]) "loop.example/segmentrooms/impl.calls").run Tryz.prog w = .ok (312, .agg #[.string ⟨#[c]⟩]) w := by kernel_rfl
theorem meth_name_branch (c : UInt8) (A : Option Addr) (n cap : Nat) (w : World) : (method 426 286 (.agg #[.string ⟨#[c]⟩, .slice A n cap]) "loop.example/segmentrooms/impl.name").run Tryz.prog w = .ok (313, .agg #[.string ⟨#[c]⟩]) w := by kernel_rfl
theorem meth_calls_branch (c : UInt8) (A : Option Addr) (n cap : Nat) (w : World) : (method 426 286 (.agg #[.string ⟨#[c]⟩, .slice A n cap]) "loop.example/segmentrooms/impl.calls").run Tryz.prog w = .ok (315, .agg #[.string ⟨#[c]⟩, .slice A n cap]) w := by kernel_rfl

set_option maxRecDepth 100000 in
theorem leafName_any (c : UInt8) (w : World) : Calls Tryz.prog 313 #[.agg #[.string ⟨#[c]⟩]] w fun e w' => e = .returned (.string ⟨#[c]⟩) ∧ w' = w.alloc (.cells #[.string ⟨#[c]⟩] 284) := by
  go_enter Tryz.func313, Tryz.ntmps313
  go_wp2
  go_ret
  exact ⟨rfl, rfl⟩
set_option maxRecDepth 100000 in
theorem leafCalls_any (c : UInt8) (w : World) : Calls Tryz.prog 312 #[.agg #[.string ⟨#[c]⟩]] w fun e w' => e = .returned (.slice none 0 0) ∧ w' = w.alloc (.cells #[.string ⟨#[c]⟩] 284) := by
  go_enter Tryz.func312, Tryz.ntmps312
  go_wp2
  go_ret
  exact ⟨rfl, rfl⟩
set_option maxRecDepth 100000 in
theorem branchCalls_any (c : UInt8) (A : Option Addr) (n cap : Nat) (w : World) : Calls Tryz.prog 315 #[.agg #[.string ⟨#[c]⟩, .slice A n cap]] w fun e w' => e = .returned (.slice A n cap) ∧ w' = w.alloc (.cells #[.string ⟨#[c]⟩, .slice A n cap] 286) := by
  go_enter Tryz.func315, Tryz.ntmps315
  go_wp2
  go_ret
  exact ⟨rfl, rfl⟩

/-- What the methods of a call say, whichever of the two it is. -/
structure CallFacts (T : TypeId) (x : Value) (c : UInt8) (kv : Value) : Prop where
  name : ∀ w : World, (method 426 T x "loop.example/segmentrooms/impl.name").run Tryz.prog w = .ok (313, .agg #[.string ⟨#[c]⟩]) w
  calls : ∃ K y o, (∀ w : World, (method 426 T x "loop.example/segmentrooms/impl.calls").run Tryz.prog w = .ok (K, y) w) ∧ (∀ w : World, (callFunc K #[y]).run Tryz.prog w = .ok (.enter K #[y]) w) ∧ ∀ w : World, Calls Tryz.prog K #[y] w fun e w' => e = .returned kv ∧ w' = w.alloc o
theorem IsCall.facts {w : World} {S : Nat → Prop} {c : UInt8} {k : Forest} {v : Value} (h : IsCall w S c k v) : ∃ T x kv, v = .iface T x ∧ CallFacts T x c kv ∧ SliceIs w S kv k := by
  rcases h with ⟨h1, rfl⟩ | ⟨h1, q, cap, rfl, hs, hk⟩
  · have h0 : k.len = 0 := by rw [Forest.isNil_len] at h1; exact of_decide_eq_true h1
    exact ⟨_, _, .slice none 0 0, rfl, ⟨meth_name_leaf c, _, _, _, meth_calls_leaf c, fun w => enters_of Tryz.func312 (by kernel_rfl) rfl _ w, leafCalls_any c⟩, none, 0, by rw [h0], fun h => by omega⟩
  · exact ⟨_, _, .slice (some ⟨q, 0, none⟩) k.len cap, rfl, ⟨meth_name_branch c _ _ _, _, _, _, meth_calls_branch c _ _ _, fun w => enters_of Tryz.func315 (by kernel_rfl) rfl _ w, branchCalls_any c _ _ _⟩, _, cap, rfl, fun _ => ⟨q, rfl, hs, hk⟩⟩

end Go.Proofs.YtifkmehnikfihaaGreat
