/- The reference's needs and texts of calls. -/
import Derived.Test.YtfhdbbdehploeaaFg
import Derived.Test.YtfhdbbdehploeaaFi
namespace Go.Proofs.Ytfhdbbdehploeaa
open Go.RowKit

/-- What of the reference's calls is left behind those that were taken. -/
theorem IsKids.nil_or {w : World} {S : Nat → Prop} {f : Forest} {v : Value} (h : IsKids w S f v) : ∃ A cap, v = .slice A f.len cap ∧ (f.isNil = false → ∃ g, A = some ⟨g, 0, none⟩ ∧ S g ∧ SCells w S f g 0) := h
theorem SCells.kids {w : World} {S : Nat → Prop} {c : UInt8} {k r : Forest} {g o : Nat} (h : SCells w S (.cons c k r) g o) : w.cell? ⟨g, o, none⟩ = some (.string ⟨#[c]⟩) ∧ (∃ v, w.cell? ⟨g, o + 1, none⟩ = some v ∧ IsKids w S k v) ∧ SCells w S r g (o + 2) := by
  obtain ⟨h1, ⟨A, cap, h2, h3⟩, h4⟩ := h
  exact ⟨h1, ⟨_, h2, A, cap, rfl, h3⟩, h4⟩
theorem SCells.below {w w' : World} {f : Forest} {g o B : Nat} (h : SCells w (· < B) f g o) (hb : Below B w w') (hg : g < B) : SCells w' (· < B) f g o :=
  SCells.keep (fun q hq => ⟨hq, hb.block q hq⟩) f g o (hb.block g hg) h
theorem IsKids.below {w w' : World} {f : Forest} {v : Value} {B : Nat} (h : IsKids w (· < B) f v) (hb : Below B w w') : IsKids w' (· < B) f v :=
  h.keep fun q hq => ⟨hq, hb.block q hq⟩
theorem IsKids.up {w : World} {f : Forest} {v : Value} {B B' : Nat} (h : IsKids w (· < B) f v) (hB : B ≤ B') : IsKids w (· < B') f v :=
  h.keep fun _ hq => ⟨Nat.lt_of_lt_of_le hq hB, rfl⟩

/-- What the range over calls has before it. -/
def LeftS (w : World) (B : Nat) (f : Forest) (A : Option Addr) (pre rest : Forest) : Prop := f = pre.app rest ∧ (rest.isNil = false → ∃ g, A = some ⟨g, 0, none⟩ ∧ g < B ∧ SCells w (· < B) rest g (pre.len * 2))
theorem LeftS.start {w : World} {B : Nat} {f : Forest} {A : Option Addr} (h : f.isNil = false → ∃ g, A = some ⟨g, 0, none⟩ ∧ g < B ∧ SCells w (· < B) f g 0) : LeftS w B f A .nil f := ⟨rfl, h⟩
theorem LeftS.below {w w' : World} {B : Nat} {f pre rest : Forest} {A : Option Addr} (h : LeftS w B f A pre rest) (hb : Below B w w') : LeftS w' B f A pre rest := by
  refine ⟨h.1, fun hr => ?_⟩
  obtain ⟨g, e, h1, h2⟩ := h.2 hr
  exact ⟨g, e, h1, h2.below hb h1⟩
/-- One call is taken. -/
theorem LeftS.take {w : World} {B : Nat} {f pre k r : Forest} {c : UInt8} {A : Option Addr} (h : LeftS w B f A pre (.cons c k r)) :
    LeftS w B f A (pre.app (.cons c k .nil)) r ∧ pre.len < f.len ∧ k.size < f.size ∧ ∃ g v, A = some ⟨g, 0, none⟩ ∧ g < B ∧ w.cell? ⟨g, pre.len * 2, none⟩ = some (.string ⟨#[c]⟩) ∧ w.cell? ⟨g, pre.len * 2 + 1, none⟩ = some v ∧ IsKids w (· < B) k v := by
  obtain ⟨h1, h2⟩ := h
  obtain ⟨g, e, h3, h4⟩ := h2 rfl
  obtain ⟨c0, ⟨v, c1, hv⟩, hr⟩ := h4.kids
  have hl : (pre.app (.cons c k .nil)).len = pre.len + 1 := by rw [Forest.app_len]; rfl
  refine ⟨⟨?_, fun _ => ⟨g, e, h3, ?_⟩⟩, ?_, ?_, g, v, e, h3, c0, c1, hv⟩
  · rw [Forest.app_assoc]; exact h1
  · rw [hl, show (pre.len + 1) * 2 = pre.len * 2 + 2 by omega]; exact hr
  · rw [h1, Forest.app_len]; show pre.len < pre.len + (r.len + 1); omega
  · rw [h1, Forest.app_size]; show k.size < pre.size + (k.size + r.size + 1); omega
theorem LeftS.done {w : World} {B : Nat} {f pre : Forest} {A : Option Addr} (h : LeftS w B f A pre .nil) : f = pre := by rw [h.1, Forest.app_nil]

set_option maxRecDepth 100000 in
set_option maxHeartbeats 1000000 in
theorem l4Needs_any : ∀ (n : Nat) (f : Forest) (a : UInt8) (v : Value) (w : World), f.size < n → f.size ≤ 1000 → IsKids w (· < w.heap.size) f v →
    Calls Try.prog 115 #[.string ⟨#[a]⟩, v] w fun e w' => e = .returned (.string ⟨(a :: needsB a f).toArray⟩) ∧ Below w.heap.size w w' := by
  intro n
  induction n with
  | zero => intro f a v w h; omega
  | succ n ih =>
    intro f a v w hn h80 hk
    obtain ⟨A, cap, rfl, hcs⟩ := hk.nil_or
    have IH := Lib.hid ih
    have HL0 : Hid (LeftS w w.heap.size f A .nil f) := LeftS.start hcs
    have hfl : f.len ≤ 1000 := Nat.le_trans f.len_size h80
    clear ih hk hcs
    go_enter Try.func115, Try.ntmps115
    go_wp2
    go_loopw [5, 11] (fun s i wr => ∃ (pre rest : Forest) (x : ByteArray), s = .string x ∧ i = .int .i64 pre.len ∧ Hid (x = ⟨(a :: needsB a pre).toArray⟩) ∧ Hid (LeftS wr w.heap.size f A pre rest) ∧ Hid (Below w.heap.size w wr))
      (fun _ i _ => f.len - (intOf i).toNat)
    case atStart => exact ⟨.nil, f, _, rfl, rfl, rfl, HL0, Below.refl _ _⟩
    case round =>
      obtain ⟨pre, rest, x, rfl, rfl, HX, HL, HB⟩ := hrel
      clear HL0
      cases rest with
      | nil =>
        have HE := Lib.hid HL.out.done
        have hle : ¬ (pre.len < f.len) := by rw [HE.out]; omega
        go_wp2
        go_ret
        exact ⟨by rw [HX.out, HE.out]; rfl, HB.out⟩
      | cons c k r =>
        obtain ⟨hnext, hlt, hks, g, u, rfl, hg, c0, c1, hu⟩ := HL.out.take
        have HNX := Lib.hid hnext
        have hz := HB.out.size
        obtain ⟨A2, cap2, rfl, -⟩ := id hu
        have hu' := (hu.up hz).below ((Below.refl wr.heap.size wr).alloc (Nat.le_refl _) (.cells #[.string ⟨#[c]⟩, .slice A2 k.len cap2] 170))
        have HQ := Lib.hid (IH.out k c _ (wr.alloc (.cells #[.string ⟨#[c]⟩, .slice A2 k.len cap2] 170)) (by omega) (by omega) (hu'.up (by simp)))
        have hnl := needsB_len c k
        have hpl := needsB_len a pre
        have hps : pre.size ≤ f.size := by rw [HL.out.1, Forest.app_size]; omega
        have hxs : x.size ≤ 3000 := by rw [HX.out, bytes_size]; simp; omega
        have HXN : Hid (x ++ ⟨(c :: needsB c k).toArray⟩ ++ ⟨#[a]⟩ = ⟨(a :: needsB a (pre.app (.cons c k .nil))).toArray⟩) := by
          show _ = _
          rw [HX.out]
          refine (bytes_cat3 _ _ [a]).trans ?_
          rw [needsB_app, needsB_one]
          simp
        have hys : (⟨(c :: needsB c k).toArray⟩ : ByteArray).size ≤ 3000 := by rw [bytes_size]; simp; omega
        have HLN : Hid ((pre.app (.cons c k .nil)).len = pre.len + 1) := by show _ = _; rw [Forest.app_len]; rfl
        clear hnext hu hu' hnl hpl hps
        generalize hyy : (⟨(c :: needsB c k).toArray⟩ : ByteArray) = y at *
        clear hyy
        go_wp2_with fail
        refine Calls.mono HQ.out ?_
        rintro e w1 ⟨rfl, hb1⟩
        have HB1 : Hid (Below w.heap.size w w1) := (HB.out.alloc hz _).trans (hb1.mono (by simp; omega))
        have HL1 : Hid (LeftS w1 w.heap.size f (some ⟨g, 0, none⟩) (pre.app (.cons c k .nil)) r) := HNX.out.below (((Below.refl _ wr).alloc hz _).trans (hb1.mono (by simp; omega)))
        clear hb1 HQ HNX HL HB
        go_wp2
        go_roundw
        case rel => exact ⟨_, r, _, rfl, by rw [HLN.out]; go_num, HXN, HL1, HB1⟩
        case measure => simp [intOf]; omega

end Go.Proofs.Ytfhdbbdehploeaa
