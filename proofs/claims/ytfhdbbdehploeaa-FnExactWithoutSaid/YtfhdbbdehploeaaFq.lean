/- The reference's texts of calls. -/
import Derived.Test.YtfhdbbdehploeaaFp
import Derived.BigQuiet
namespace Go.Proofs.Ytfhdbbdehploeaa
open Go.RowKit

theorem str_cat (x y : List UInt8) : strOf x ++ strOf y = strOf (x ++ y) := bytes_cat x y
theorem str_size (x : List UInt8) : (strOf x).size = x.length := bytes_size x
theorem Forest.isNil_pos {k : Forest} (h : k.isNil = false) : 0 < k.len := by
  rw [Forest.isNil_len] at h
  have := of_decide_eq_false h
  omega
theorem Forest.isNil_zero {k : Forest} (h : k.isNil = true) : k.len = 0 := by
  rw [Forest.isNil_len] at h
  exact of_decide_eq_true h

set_option maxRecDepth 100000 in
set_option maxHeartbeats 2000000 in
theorem l4Text_any : ∀ (n : Nat) (f : Forest) (v : Value) (w : World), f.size < n → f.size ≤ 1000 → IsKids w (· < w.heap.size) f v →
    Calls Try.prog 131 #[v] w fun e w' => e = .returned (.string (strOf (textB f))) ∧ Below w.heap.size w w' := by
  intro n
  induction n with
  | zero => intro f v w h; omega
  | succ n ih =>
    intro f v w hn h80 hk
    obtain ⟨A, cap, rfl, hcs⟩ := hk.nil_or
    have IH := Lib.hid ih
    have HL0 : Hid (LeftS w w.heap.size f A .nil f) := LeftS.start hcs
    have hfl : f.len ≤ 1000 := Nat.le_trans f.len_size h80
    clear ih hk hcs
    go_enter Try.func131, Try.ntmps131
    go_wp2
    go_loopw [3, 8] (fun s i wr => ∃ (pre rest : Forest) (x : ByteArray), s = .string x ∧ i = .int .i64 pre.len ∧ Hid (x = strOf (textB pre)) ∧ Hid (LeftS wr w.heap.size f A pre rest) ∧ Hid (Below w.heap.size w wr))
      (fun _ i _ => f.len - (intOf i).toNat)
    case atStart => exact ⟨.nil, f, _, rfl, rfl, rfl, HL0, Below.refl _ _⟩
    case round =>
      obtain ⟨pre, rest, x, rfl, rfl, HX, HL, HB⟩ := hrel
      clear HL0
      cases rest with
      | nil =>
        have HE := Lib.hid HL.out.done
        have hle : ¬ (pre.len < f.len) := by rw [HE.out]; omega
        go_wp2
        go_ret
        exact ⟨by rw [HX.out, HE.out]; rfl, HB.out⟩
      | cons c k r =>
        obtain ⟨hnext, hlt, hks, g, u, rfl, hg, c0, c1, hu⟩ := HL.out.take
        have HNX := Lib.hid hnext
        have hz := HB.out.size
        obtain ⟨A2, cap2, rfl, -⟩ := id hu
        have hu' := (hu.up hz).below ((Below.refl wr.heap.size wr).alloc (Nat.le_refl _) (.cells #[.string ⟨#[c]⟩, .slice A2 k.len cap2] 170))
        have HQ := Lib.hid (IH.out k _ (wr.alloc (.cells #[.string ⟨#[c]⟩, .slice A2 k.len cap2] 170)) (by omega) (by omega) (hu'.up (by simp)))
        have hnl := textB_len k
        have hpl := textB_len pre
        have hps : pre.size ≤ f.size := by rw [HL.out.1, Forest.app_size]; omega
        have hxs : x.size ≤ 4000 := by rw [HX.out, str_size]; omega
        have hys : (strOf (textB k)).size ≤ 4000 := by rw [str_size]; omega
        have HLN : Hid ((pre.app (.cons c k .nil)).len = pre.len + 1) := by show _ = _; rw [Forest.app_len]; rfl
        have hq : ∀ q : List UInt8, textOne c k = c :: q → x ++ ⟨#[c]⟩ ++ strOf q = strOf (textB (pre.app (.cons c k .nil))) := fun q hq => by
          rw [HX.out, show (⟨#[c]⟩ : ByteArray) = strOf [c] from rfl, str_cat, str_cat, textB_app, textB_one, hq]
          simp
        cases hkn : k.isNil with
        | true =>
          have h0 := Forest.isNil_zero hkn
          have hq0 : x ++ ⟨#[c]⟩ = strOf (textB (pre.app (.cons c k .nil))) := by
            have := hq [] (by unfold textOne; rw [hkn]; rfl)
            rw [← this]
            apply ByteArray.ext
            simp [ByteArray.data_append, strOf]
          have HQ0 := Lib.hid hq0
          have HB1 : Hid (Below w.heap.size w (wr.alloc (.cells #[.string ⟨#[c]⟩, .slice A2 k.len cap2] 170))) := HB.out.alloc hz _
          have HL1 : Hid (LeftS (wr.alloc (.cells #[.string ⟨#[c]⟩, .slice A2 k.len cap2] 170)) w.heap.size f (some ⟨g, 0, none⟩) (pre.app (.cons c k .nil)) r) := HNX.out.below ((Below.refl _ wr).alloc hz _)
          have t1 : ¬ (0 < k.len) := by omega
          have t2 : decide (0 < k.len) = false := decide_eq_false t1
          clear hnext hu hu' hnl hpl hps hq hq0 h0 hkn HQ HNX HL HB
          go_wp2
          go_roundw
          case rel => exact ⟨_, r, _, rfl, by rw [HLN.out]; go_num, HQ0, HL1, HB1⟩
          case measure => simp [intOf]; omega
        | false =>
          have h0 := Forest.isNil_pos hkn
          have hq0 : x ++ ⟨#[c]⟩ ++ ⟨#[40]⟩ ++ strOf (textB k) ++ ⟨#[41]⟩ = strOf (textB (pre.app (.cons c k .nil))) := by
            have := hq (40 :: (textB k ++ [41])) (by unfold textOne; rw [hkn]; rfl)
            rw [← this]
            apply ByteArray.ext
            simp [ByteArray.data_append, strOf]
          have HQ0 := Lib.hid hq0
          have t2 : decide (0 < k.len) = true := decide_eq_true h0
          clear hnext hu hu' hnl hpl hps hq hq0 hkn
          generalize strOf (textB k) = y at *
          go_wp2_with fail
          refine Calls.mono HQ.out ?_
          rintro e w1 ⟨rfl, hb1⟩
          have HB1 : Hid (Below w.heap.size w w1) := (HB.out.alloc hz _).trans (hb1.mono (by simp; omega))
          have HL1 : Hid (LeftS w1 w.heap.size f (some ⟨g, 0, none⟩) (pre.app (.cons c k .nil)) r) := HNX.out.below (((Below.refl _ wr).alloc hz _).trans (hb1.mono (by simp; omega)))
          clear hb1 HQ HNX HL HB
          go_wp2
          go_roundw
          case rel => exact ⟨_, r, _, rfl, by rw [HLN.out]; go_num, HQ0, HL1, HB1⟩
          case measure => simp [intOf]; omega

end Go.Proofs.Ytfhdbbdehploeaa
