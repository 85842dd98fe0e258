/- The walk of the law FnExactParseTree. -/
import Derived.Test.YtfdcmlmemcbblaaKc
import Derived.Test.YtfdcmlmemcbblaaEq
namespace Go.Proofs.Ytfdcmlmemcbblaa
open Go.RowKit

theorem Segs.only {w w' : World} {B : Nat} {A : Option Addr} {l : List Seg} {may : Nat → Prop} (h : Segs w B A l) (ho : Only w w' may) (hB : B ≤ w.heap.size) (hm : ∀ k, k < B → ¬ may k) : Segs w' B A l :=
  h.below (Only.below (Below.refl B w) ho hB hm)
theorem parsed_len (t : List UInt8) : ((parsed t).getD []).length ≤ 8 := by
  cases hp : parsed t with
  | none => exact Nat.zero_le _
  | some tr => exact (valid_all (parsed_some hp).2).2.1
theorem OwnTree.is {w : World} {B n cap : Nat} {A : Option Addr} {tr : List Seg} (h : OwnTree w B (.slice A n cap) tr) : Segs w w.heap.size A tr := by
  obtain ⟨A', c', e, hs⟩ := h.form
  injection e with e1 e2 e3
  subst e1
  exact hs

theorem mark1 (B : Nat) (v : Value) (l : List Seg) (w : World) (hown : OwnTree w B v l) (hl : l.length ≤ 1000) :
    Calls Try.prog 50 #[v, .int .i64 1] w fun e w' => e = .returned (.int .i64 ((1 + 3 * l.length : Nat) : Int)) ∧ OwnTree w' B v (marked l 1 l.length) ∧ Only w w' (fun b => v.ownBlock = some b) :=
  markSegmentS_any B 1 v l w hown rfl hl
theorem held1 (A : Option Addr) (n cap : Nat) (l : List Seg) (w : World) (hn : l.length = n) (hw : Segs w w.heap.size A (marked l 1 l.length)) (hl : l.length ≤ 1000) :
    Calls Try.prog 51 #[.slice A n cap, .int .i64 1] w fun e w' => e = .returned (.int .i64 ((1 + 3 * l.length : Nat) : Int)) ∧ Below w.heap.size w w' := by
  have h := heldSegmentS_any 1 A cap (marked l 1 l.length) w hw (fun j hj => marked_at l 1 l.length j (by rw [marked_len] at hj; exact hj) (Nat.le_refl _)) rfl (by rw [marked_len]; exact hl)
  rw [marked_len, hn] at h
  rw [hn]
  exact h

set_option maxRecDepth 100000 in
set_option maxHeartbeats 2000000 in
theorem lawParseTree_any (s : ByteArray) (w : World) (hsz : s.size ≤ maxLen) :
    Calls Try.prog 7 #[.string s] w fun e w' => e = .returned (.bool true) ∧ Below w.heap.size w w' := by
  unfold maxLen at hsz
  by_cases hbig : 1048576 < s.size
  · go_enter Try.func7, Try.ntmps7
    go_wp2
    go_ret
    exact ⟨rfl, Below.refl _ _⟩
  have ht : s.size ≤ 1048576 := by omega
  have HP := Lib.hid (fun W => specParse_any s W ht)
  have HI := Lib.hid (fun W => parseTree_any s W ht)
  have hl := parsed_len s.data.toList
  go_enter Try.func7, Try.ntmps7
  go_wp2_with fail
  refine Calls.mono (HP.out w) ?_
  unfold ParsePost at HI ⊢
  generalize (parsed s.data.toList).getD [] = tr at *
  generalize (parsed s.data.toList).isSome = d at *
  rintro e w1 ⟨v0, rfl, ho0, hb1⟩
  obtain ⟨A0, cap0, rfl, hs0⟩ := ho0.form
  have HS0 : Hid (Segs w1 w1.heap.size A0 tr) := hs0
  have HB1 := Lib.hid hb1
  clear hs0 hb1 ho0 HP
  go_wp2_with fail
  refine Calls.mono (HI.out w1) ?_
  rintro e w2 ⟨v1, rfl, ho1, hb2⟩
  obtain ⟨A1, cap1, rfl, hs1⟩ := ho1.form
  have HS2 : Hid (Segs w2 w1.heap.size A0 tr) := HS0.out.below hb2
  have HZ2 : Hid (w1.heap.size ≤ w2.heap.size) := hb2.size
  have HO2 := Lib.hid ho1
  have HS1 : Hid (Segs w2 w2.heap.size A1 tr) := hs1
  have HB2 := Lib.hid (HB1.out.trans (hb2.mono HB1.out.size))
  clear hs1 hb2 ho1 HS0
  go_wp2_with fail
  refine (eqSegmentS_same A1 A0 tr cap1 cap0 w2 HS1.out (HS2.out.more HZ2.out) (by omega)).mono ?_
  rintro e w3 ⟨rfl, hb3⟩
  have HS3 : Hid (Segs w3 w1.heap.size A0 tr) := HS2.out.below (hb3.mono HZ2.out)
  have HZ3 : Hid (w1.heap.size ≤ w3.heap.size) := by have := HZ2.out; have := hb3.size; show _ ≤ _; omega
  have HO3 := Lib.hid (HO2.out.far (w' := w3) (fun g hg => hb3.block g (World.ownsRow.lt HO2.out g hg).2))
  have HB3 := Lib.hid (HB2.out.trans (hb3.mono HB2.out.size))
  clear hb3 HS2 HZ2 HO2 HS1 HB2
  go_wp2_with fail
  refine (mark1 _ _ tr w3 HO3.out (by omega)).mono ?_
  rintro e w4 ⟨rfl, ho4, hy4⟩
  have HS4 : Hid (Segs w4 w1.heap.size A0 tr) := HS3.out.only hy4 HZ3.out (fun k hk e => by have := (World.ownsRow.lt HO3.out k e).1; omega)
  have HZ4 : Hid (w1.heap.size ≤ w4.heap.size) := by have := HZ3.out; have := hy4.size; show _ ≤ _; omega
  have HM4 : Hid (Segs w4 w4.heap.size A1 (marked tr 1 tr.length)) := ho4.is
  have HB4 := Lib.hid (Only.below HB3.out hy4 HB3.out.size (fun k hk e => by have := (World.ownsRow.lt HO3.out k e).1; have := HB1.out.size; omega))
  clear ho4 hy4 HS3 HZ3 HO3 HB3
  have hm1 : ¬ ((1 + 3 * tr.length : Nat) : Int) < 0 := by omega
  have hm0 : (0 : Int) ≤ ((1 + 3 * tr.length : Nat) : Int) := by omega
  have HH := Lib.hid (fun W h => held1 A1 tr.length cap1 tr W rfl h (by omega))
  have HMK := Lib.hid (fun W W' h hb => (Segs.more (Segs.below (w := W) (w' := W') (B := W.heap.size) (A := A1) (l := marked tr 1 tr.length) h hb) hb.size : Segs W' W'.heap.size A1 (marked tr 1 tr.length)))
  generalize ((1 + 3 * tr.length : Nat) : Int) = m at *
  go_wp2_with fail
  refine Calls.mono (HH.out w4 HM4.out) ?_
  rintro e w5 ⟨rfl, hb5⟩
  have HM5 : Hid (Segs w5 w5.heap.size A1 (marked tr 1 tr.length)) := HMK.out w4 w5 HM4.out hb5
  have HS5 : Hid (Segs w5 w1.heap.size A0 tr) := HS4.out.below (hb5.mono HZ4.out)
  have HZ5 : Hid (w1.heap.size ≤ w5.heap.size) := by have := HZ4.out; have := hb5.size; show _ ≤ _; omega
  have HB5 := Lib.hid (HB4.out.trans (hb5.mono HB4.out.size))
  clear hb5 HM4 HS4 HZ4 HB4
  go_wp2_with fail
  refine Calls.mono (HI.out w5) ?_
  rintro e w6 ⟨v2, rfl, ho2, hb6⟩
  obtain ⟨A2, cap2, rfl, hs2⟩ := ho2.form
  have HM6 : Hid (Segs w6 w6.heap.size A1 (marked tr 1 tr.length)) := HMK.out w5 w6 HM5.out hb6
  have HS6 : Hid (Segs w6 w6.heap.size A0 tr) := (HS5.out.below (hb6.mono HZ5.out)).more (by have := HZ5.out; have := hb6.size; omega)
  have HT6 : Hid (Segs w6 w6.heap.size A2 tr) := hs2
  have HB6 := Lib.hid (HB5.out.trans (hb6.mono HB5.out.size))
  clear hs2 hb6 ho2 HM5 HS5 HZ5 HB5
  go_wp2_with fail
  refine (eqSegmentS_same A2 A0 tr cap2 cap0 w6 HT6.out HS6.out (by omega)).mono ?_
  rintro e w7 ⟨rfl, hb7⟩
  have HM7 : Hid (Segs w7 w7.heap.size A1 (marked tr 1 tr.length)) := HMK.out w6 w7 HM6.out hb7
  have HB7 := Lib.hid (HB6.out.trans (hb7.mono HB6.out.size))
  clear hb7 HM6 HS6 HT6 HB6
  go_wp2_with fail
  refine Calls.mono (HH.out w7 HM7.out) ?_
  rintro e w8 ⟨rfl, hb8⟩
  have HB8 := Lib.hid (HB7.out.trans (hb8.mono HB7.out.size))
  clear hb8 HM7 HB7
  go_wp2
  go_ret
  exact ⟨rfl, HB8.out⟩

end Go.Proofs.Ytfdcmlmemcbblaa
