/- Joined: Kc Op Jb Ie Oa Od. -/
import Derived.Test.YtadichddgpojpaaU11
import Derived.Test.YtadichddgpojpaaU04
import Derived.Test.YtadichddgpojpaaU01
import Derived.ProofKit
import Derived.OpenShut
import Derived.ShutString
import Derived.ChangeOld
import Derived.Deep.Slices
import Derived.Deep.Fields
import Derived.Test.YtadichddgpojpaaU08
/- The law's marks: what is written into a result, and whether it is held. -/
namespace Go.Proofs.Ytadichddgpojpaa
open Go.RowKit

def digC (m : Nat) : UInt8 := UInt8.ofNat (48 + m % 10)
theorem digC_nat (m : Nat) : (digC m).toNat = 48 + m % 10 := by
  unfold digC
  rw [UInt8.toNat_ofNat']
  omega
/-- The decimal digits of a number, ahead of a text. -/
def mtl (k : Nat) (out : ByteArray) : ByteArray := if _h : k = 0 then out else mtl (k / 10) (⟨#[digC k]⟩ ++ out)
termination_by k
decreasing_by omega
theorem mtl_zero (out : ByteArray) : mtl 0 out = out := by
  rw [mtl]
  exact dif_pos rfl
theorem mtl_step {k : Nat} (h : 0 < k) (out : ByteArray) : mtl k out = mtl (k / 10) (⟨#[digC k]⟩ ++ out) := by
  conv => lhs; rw [mtl]
  exact dif_neg (by omega)
def mt (k : Nat) : ByteArray := ⟨#[109]⟩ ++ mtl k ⟨#[]⟩

set_option maxRecDepth 100000 in
set_option maxHeartbeats 1000000 in
theorem markText_any (k : Nat) (w : World) (h0 : 0 < k) (hk : k ≤ 1000000) :
    Calls Try.prog 82 #[.int .i64 k] w fun e w' => e = .returned (.string (mt k)) ∧ Below w.heap.size w w' := by
  have HM : Hid (mt k = ⟨#[109]⟩ ++ mtl k ⟨#[]⟩) := rfl
  have h0' : ¬ (k : Int) ≤ 0 := by omega
  go_enter Try.func82, Try.ntmps82
  go_wp2
  go_loopw [0, 3] (fun v o wr => ∃ (m : Nat) (s : ByteArray), v = .int .i64 m ∧ o = .string s ∧ s.size + m ≤ 1000000 ∧ Hid (mtl k ⟨#[]⟩ = mtl m s) ∧ Below w.heap.size w wr)
    (fun v _ _ => (intOf v).toNat)
  case atStart => exact ⟨k, ⟨#[]⟩, rfl, rfl, (by have h : (⟨#[]⟩ : ByteArray).size = 0 := rfl; omega), rfl, Below.refl _ _⟩
  case round =>
    obtain ⟨m, s, rfl, rfl, hs, HK, hb⟩ := hrel
    have hm0 : (0 : Int) ≤ (m : Int) := Int.natCast_nonneg _
    by_cases hm : 0 < m
    · have hm' : (0 : Int) < (m : Int) := by omega
      have HS := Lib.hid (HK.out.trans (mtl_step hm s))
      have hcv : (convert 22 9 (.slice (some ⟨wr.heap.size, 0, none⟩) 1 1)).run Try.prog (wr.alloc (.cells #[.int .u8 (48 + (m : Int) % 10)] 5)) = .ok (.string ⟨#[digC m]⟩) (wr.alloc (.cells #[.int .u8 (48 + (m : Int) % 10)] 5)) :=
        run_convert_bytes_back (P := Try.prog) _ 22 9 5 ⟨wr.heap.size, 0, none⟩ 1 [digC m] Try.underlying22 Try.underlying5 Try.underlying9 (fun j hj => by
          have : j = 0 := by simp at hj; omega
          subst this
          have h := (Row.new wr 5 #[.int .u8 (48 + (m : Int) % 10)]).cell 0
          have e : (48 + (m : Int) % 10) = ((digC m).toNat : Int) := by rw [digC_nat]; omega
          rw [e] at h ⊢
          exact h)
      have hsz : (⟨#[digC m]⟩ ++ s : ByteArray).size + m / 10 ≤ 1000000 := by
        have h1 : (⟨#[digC m]⟩ ++ s : ByteArray).size = 1 + s.size := by rw [ByteArray.size_append]; rfl
        omega
      go_wp2
      go_roundw
      case rel => exact ⟨m / 10, ⟨#[digC m]⟩ ++ s, congrArg (Value.int .i64) (by omega), rfl, hsz, HS, hb.alloc hb.size _⟩
      case measure => simp [intOf]; omega
    · obtain rfl : m = 0 := by omega
      have HZ := Lib.hid (HK.out.trans (mtl_zero s))
      go_wp2
      go_ret
      exact ⟨by rw [HM.out, HZ.out]; rfl, hb⟩

theorem segCells_set : ∀ (tr : List Seg) (i : Nat) (s : Seg), i < tr.length → segCells (tr.set i s) = (((segCells tr).set (i * 3) (.string s.name)).set (i * 3 + 1) (.int .i64 s.size)).set (i * 3 + 2) (.int .i64 s.par)
  | [], _, _, h => absurd h (by simp)
  | x :: tr, 0, s, _ => rfl
  | x :: tr, i + 1, s, h => by
    have h1 := segCells_set tr i s (by simpa using h)
    have e : ∀ l : List Seg, ∀ y : Seg, segCells (y :: l) = .string y.name :: .int .i64 y.size :: .int .i64 y.par :: segCells l := fun l y => rfl
    rw [List.set_cons_succ, e, e, h1, show (i + 1) * 3 = i * 3 + 3 by omega, show i * 3 + 3 + 1 = i * 3 + 1 + 3 by omega, show i * 3 + 3 + 2 = i * 3 + 2 + 3 by omega]
    rfl

theorem OwnTree.store {w : World} {B g cap : Nat} {tr : List Seg} (h : OwnTree w B (.slice (some ⟨g, 0, none⟩) tr.length cap) tr) {i : Nat} (hi : i < tr.length) (s : Seg) :
    OwnTree (((w.setCell ⟨g, i * 3, none⟩ (.string s.name)).setCell ⟨g, i * 3 + 1, none⟩ (.int .i64 s.size)).setCell ⟨g, i * 3 + 2, none⟩ (.int .i64 s.par)) B (.slice (some ⟨g, 0, none⟩) tr.length cap) (tr.set i s) := by
  unfold OwnTree at h ⊢
  rw [List.length_set]
  refine ⟨by rw [segCells_len, List.length_set], ?_⟩
  rcases h.2 with ⟨h0, _⟩ | ⟨g', cap', cur, hv, hg, hh, h1, h2, h3, h4⟩
  · cases h0
  · injection hv with hv1 _ hv3
    injection hv1 with hv1
    injection hv1 with hv1
    subst hv1 hv3
    have hr : Row w g 36 cur := hh
    refine .inr ⟨g, cap, _, rfl, hg, ((hr.put (i * 3) _).put (i * 3 + 1) _).put (i * 3 + 2) _, h1, h2, by simpa using h3, ?_⟩
    rw [segCells_set tr i s hi, ← h4]
    simp only [Array.toList_setIfInBounds, List.take_set]
theorem OwnTree.cells {w : World} {B g cap : Nat} {tr : List Seg} (h : OwnTree w B (.slice (some ⟨g, 0, none⟩) tr.length cap) tr) {i : Nat} {s : Seg} (hi : tr[i]? = some s) :
    (w.cell? ⟨g, i * 3, none⟩ = some (.string s.name) ∧ w.cell? ⟨g, i * 3 + 1, none⟩ = some (.int .i64 s.size) ∧ w.cell? ⟨g, i * 3 + 2, none⟩ = some (.int .i64 s.par)) ∧ ∀ j, w.frozen? ⟨g, j, none⟩ = false := by
  have hlt := (List.getElem?_eq_some_iff.1 hi).1
  have hz := segCells_len tr
  obtain ⟨a, b, c⟩ := segCells_at hi
  have ha : ∀ j, j < tr.length * 3 → w.cell? ⟨g, j, none⟩ = (segCells tr)[j]? := fun j hj => World.ownsRow.cellAt h j (by omega)
  refine ⟨⟨(ha _ (by omega)).trans a, (ha _ (by omega)).trans b, (ha _ (by omega)).trans c⟩, fun j => ?_⟩
  rcases h.2 with ⟨h0, _⟩ | ⟨g', cap', cur, hv, hg, hh, _⟩
  · cases h0
  · injection hv with hv1 _ hv3
    injection hv1 with hv1
    injection hv1 with hv1
    subst hv1
    exact Row.free (hh : Row w g _ cur) j

theorem Only.put {w w' : World} {may : Nat → Prop} (h : Only w w' may) {b : Nat} (hm : may b) (i : Nat) (u : Value) : Only w (w'.setCell ⟨b, i, none⟩ u) may := by
  have hb : Below 0 w' (w'.setCell ⟨b, i, none⟩ u) := (Below.refl 0 w').setCell (Nat.zero_le _) u
  exact ⟨hb.os.trans h.os, hb.tape.trans h.tape, hb.output.trans h.output, by have := h.size; have := hb.size; omega, fun k hk hn => (Below.heap_setCell w' ⟨b, i, none⟩ u k (fun e => hn (by rw [e]; exact hm))).trans (h.block k hk hn)⟩

/-- The marks of the segment at 'j'. -/
def markAt (k j : Nat) : Seg := ⟨mt (k + 3 * j), (k + 3 * j + 1 : Nat), (k + 3 * j + 2 : Nat)⟩
/-- The first 'i' are marked. -/
def marked (l : List Seg) (k : Nat) : Nat → List Seg
  | 0 => l
  | i + 1 => (marked l k i).set i (markAt k i)
theorem marked_len (l : List Seg) (k : Nat) : ∀ i, (marked l k i).length = l.length
  | 0 => rfl
  | i + 1 => by
    show ((marked l k i).set i _).length = _
    rw [List.length_set, marked_len l k i]
theorem marked_at (l : List Seg) (k : Nat) : ∀ i j, j < i → i ≤ l.length → (marked l k i)[j]? = some (markAt k j)
  | 0, _, h, _ => absurd h (by omega)
  | i + 1, j, h, hi => by
    show ((marked l k i).set i _)[j]? = _
    by_cases hj : j = i
    · subst hj
      rw [List.getElem?_set_self (by rw [marked_len]; omega)]
    · rw [List.getElem?_set_ne (by omega)]
      exact marked_at l k i j (by omega) (by omega)

set_option maxRecDepth 100000 in
set_option maxHeartbeats 2000000 in
theorem markSegmentS_any (B k : Nat) (v : Value) (l : List Seg) (w : World) (hown : OwnTree w B v l) (hk : k = 1) (hl : l.length ≤ 1000) :
    Calls Try.prog 41 #[v, .int .i64 k] w fun e w' => e = .returned (.int .i64 ((k + 3 * l.length : Nat) : Int)) ∧ OwnTree w' B v (marked l k l.length) ∧ Only w w' (fun b => v.ownBlock = some b) := by
  have h0k : 0 < k := by omega
  have hk9 : k ≤ 10 := by omega
  clear hk
  obtain ⟨A, cap, rfl, -⟩ := hown.form
  have HO := Lib.hid hown
  clear hown
  go_enter Try.func41, Try.ntmps41
  go_wp2
  go_loopw [1, 5] (fun a c wr => ∃ (i : Nat), i ≤ l.length ∧ c = .int .i64 i ∧ a = .int .i64 ((k + 3 * i : Nat) : Int) ∧ Hid (OwnTree wr B (.slice A l.length cap) (marked l k i)) ∧ Hid (Only w wr (fun b => (Value.slice A l.length cap).ownBlock = some b)))
    (fun _ c _ => l.length - (intOf c).toNat)
  case atStart => exact ⟨0, Nat.zero_le _, rfl, rfl, HO, Only.refl _ _⟩
  case round =>
    obtain ⟨i, hi, rfl, rfl, HT, HY⟩ := hrel
    by_cases hlt : i < l.length
    · have hlt' : (i : Int) < (l.length : Int) := by omega
      have hi0 : (0 : Int) ≤ (i : Int) := Int.natCast_nonneg _
      have hml := marked_len l k i
      have hT := HT.out
      rw [← hml] at hT
      obtain ⟨g, cap', hv, hg, hglt⟩ := World.ownsRow.form hT (by omega)
      injection hv with hA _ hc
      subst hA hc
      have hold : (marked l k i)[i]? = some ((marked l k i)[i]'(by omega)) := List.getElem?_eq_getElem (by omega)
      have hst := fun W (hW : OwnTree W B (.slice (some ⟨g, 0, none⟩) (marked l k i).length cap) (marked l k i)) => hW.store (i := i) (by omega) (markAt k i)
      generalize (marked l k i)[i]'_ = old at *
      have HST := Lib.hid hst
      have HT' := Lib.hid hT
      have HOLD := Lib.hid hold
      have HML := Lib.hid hml
      clear hT hst hold hml
      go_wp2_with fail
      refine (markText_any (k + 3 * i) _ (by omega) (by omega)).mono ?_
      rintro e w1 ⟨rfl, hb1⟩
      have hT1 : OwnTree w1 B (.slice (some ⟨g, 0, none⟩) (marked l k i).length cap) (marked l k i) := HT'.out.far (fun q hq => hb1.block q (World.ownsRow.lt HT'.out q hq).2)
      obtain ⟨⟨d0, d1, d2⟩, z⟩ := hT1.cells HOLD.out
      have z0 := z (i * 3)
      have z1 := z (i * 3 + 1)
      have z2 := z (i * 3 + 2)
      have hT2 := HST.out w1 hT1
      rw [HML.out] at hT2
      have HT2 : Hid (OwnTree (((w1.setCell ⟨g, i * 3, none⟩ (.string (mt (k + 3 * i)))).setCell ⟨g, i * 3 + 1, none⟩ (.int .i64 ((k + 3 * i + 1 : Nat) : Int))).setCell ⟨g, i * 3 + 2, none⟩ (.int .i64 ((k + 3 * i + 2 : Nat) : Int))) B (.slice (some ⟨g, 0, none⟩) l.length cap) (marked l k (i + 1))) := hT2
      have HY1 : Hid (Only w w1 (fun b => (Value.slice (some ⟨g, 0, none⟩) l.length cap).ownBlock = some b)) := HY.out.andBelow hb1
      clear z hT1 hT2 hb1 HT HY
      have q1 : ((k + 3 * i + 1 : Nat) : Int) = (k : Int) + 3 * (i : Int) + 1 := by omega
      have q2 : ((k + 3 * i + 2 : Nat) : Int) = (k : Int) + 3 * (i : Int) + 1 + 1 := by omega
      rw [q1, q2] at HT2
      clear q1 q2
      generalize mt (k + 3 * i) = mm at *
      go_wp2
      go_roundw
      case rel => exact ⟨i + 1, by omega, by go_num, congrArg (Value.int .i64) (by omega), HT2, ((HY1.out.put rfl _ _).put rfl _ _).put rfl _ _⟩
      case measure => simp [intOf]; omega
    · obtain rfl : i = l.length := by omega
      go_wp2
      go_ret
      exact ⟨rfl, HT.out, HY.out⟩

set_option maxRecDepth 100000 in
set_option maxHeartbeats 2000000 in
theorem heldSegmentS_any (k : Nat) (A : Option Addr) (cap : Nat) (l : List Seg) (w : World) (hw : Segs w w.heap.size A l) (hm : ∀ j, j < l.length → l[j]? = some (markAt k j)) (hk : k = 1) (hl : l.length ≤ 1000) :
    Calls Try.prog 42 #[.slice A l.length cap, .int .i64 k] w fun e w' => e = .returned (.int .i64 ((k + 3 * l.length : Nat) : Int)) ∧ Below w.heap.size w w' := by
  have h0k : 0 < k := by omega
  have hk9 : k ≤ 10 := by omega
  clear hk
  have HW : Hid (Segs w w.heap.size A l) := hw
  have HM := Lib.hid hm
  clear hw hm
  go_enter Try.func42, Try.ntmps42
  go_wp2
  go_loopw [1, 5] (fun a c wr => ∃ (i : Nat), i ≤ l.length ∧ c = .int .i64 i ∧ a = .int .i64 ((k + 3 * i : Nat) : Int) ∧ Below w.heap.size w wr)
    (fun _ c _ => l.length - (intOf c).toNat)
  case atStart => exact ⟨0, Nat.zero_le _, rfl, rfl, Below.refl _ _⟩
  case round =>
    obtain ⟨i, hi, rfl, rfl, hb⟩ := hrel
    by_cases hlt : i < l.length
    · have hlt' : (i : Int) < (l.length : Int) := by omega
      have hi0 : (0 : Int) ≤ (i : Int) := Int.natCast_nonneg _
      obtain ⟨b, o, rfl, hB, hc⟩ := HW.out (by omega)
      obtain ⟨c0, c1, c2⟩ := hc i _ (HM.out i hlt)
      clear hc
      rw [← hb.cell hB] at c0 c1 c2
      have e0 : wr.cell? ⟨b, o + i * 3, none⟩ = some (.string (mt (k + 3 * i))) := c0
      have e1 : wr.cell? ⟨b, o + i * 3 + 1, none⟩ = some (.int .i64 ((k + 3 * i + 1 : Nat) : Int)) := c1
      have e2 : wr.cell? ⟨b, o + i * 3 + 2, none⟩ = some (.int .i64 ((k + 3 * i + 2 : Nat) : Int)) := c2
      have q1 : ((k + 3 * i + 1 : Nat) : Int) = (k : Int) + 3 * (i : Int) + 1 := by omega
      have q2 : ((k + 3 * i + 2 : Nat) : Int) = (k : Int) + 3 * (i : Int) + 1 + 1 := by omega
      rw [q1] at e1
      rw [q2] at e2
      clear c0 c1 c2 q1 q2
      have HMT := Lib.hid (fun W => markText_any (k + 3 * i) W (by omega) (by omega))
      generalize mt (k + 3 * i) = mm at *
      go_wp2_with fail
      refine wp_region_held_drew (S := (fun w' => w'.cell? ⟨b, o + i * 3, none⟩ = some (.string mm) ∧ Below w.heap.size w w' ∧ Below wr.heap.size wr w')) (by kernel_rfl) ?_ (fun hHeld => ?_)
      · exact ⟨e0, hb.drew, (Below.refl _ _).drew⟩
      refine take_at (i := 0) (d := 12) (v := .slice (some ⟨b, o, none⟩) l.length cap) rfl rfl (by kernel_rfl) (by kernel_rfl) (by kernel_rfl) (fun _ _ _ h => h) (by kernel_rfl) (by (intro w hSw; (try dsimp only at hSw); go_simp)) (by assumption) ?_
      simp only [List.setIfInBounds_toArray, List.set_cons_succ, List.set_cons_zero]
      refine take_at (i := 1) (d := 13) (v := .int .i64 i) rfl rfl (by kernel_rfl) (by kernel_rfl) (by kernel_rfl) (fun _ _ _ h => h) (by kernel_rfl) (by (intro w hSw; (try dsimp only at hSw); go_simp)) (by assumption) ?_
      simp only [List.setIfInBounds_toArray, List.set_cons_succ, List.set_cons_zero]
      refine take_at (i := 2) (d := 14) (v := .pointer (some ⟨b, o + i * 3, none⟩)) rfl rfl (by kernel_rfl) (by kernel_rfl) (by kernel_rfl) (fun _ _ _ h => h) (by kernel_rfl) (by (intro w hSw; (try dsimp only at hSw); go_simp)) (by assumption) ?_
      simp only [List.setIfInBounds_toArray, List.set_cons_succ, List.set_cons_zero]
      refine take_at (i := 3) (d := 15) (v := .pointer (some ⟨b, o + i * 3, none⟩)) rfl rfl (by kernel_rfl) (by kernel_rfl) (by kernel_rfl) (fun _ _ _ h => h) (by kernel_rfl) (by (intro w hSw; (try dsimp only at hSw); go_simp)) (by assumption) ?_
      simp only [List.setIfInBounds_toArray, List.set_cons_succ, List.set_cons_zero]
      refine take_at (i := 4) (d := 16) (v := .string mm) rfl rfl (by kernel_rfl) (by kernel_rfl) (by kernel_rfl) (fun _ _ _ h => h) (by kernel_rfl) (by (intro w hSw; (try dsimp only at hSw); go_simp)) (by assumption) ?_
      simp only [List.setIfInBounds_toArray, List.set_cons_succ, List.set_cons_zero]
      refine take_at (i := 5) (d := 17) (v := .int .i64 ((k + 3 * i : Nat) : Int)) rfl rfl (by kernel_rfl) (by kernel_rfl) (by kernel_rfl) (fun _ _ _ h => h) (by kernel_rfl) (by (intro w hSw; (try dsimp only at hSw); go_simp)) (by assumption) ?_
      simp only [List.setIfInBounds_toArray, List.set_cons_succ, List.set_cons_zero]
      refine wpAnyH_ready (rs := [6]) (by kernel_rfl) (by simp) ?_
      refine AllReadyH.cons rfl (fun K hK => ?_) AllReadyH.nil
      go_simp
      refine (HMT.out _).mono ?_
      rintro e w2 ⟨rfl, hb2⟩
      have hs2 : w2.cell? ⟨b, o + i * 3, none⟩ = some (.string mm) ∧ Below w.heap.size w w2 ∧ Below wr.heap.size wr w2 := ⟨(hb2.cell (p := ⟨b, o + i * 3, none⟩) (Nat.lt_of_lt_of_le hB hHeld.2.1.size)).trans hHeld.1, hHeld.2.1.trans (hb2.mono hHeld.2.1.size), hHeld.2.2.trans (hb2.mono hHeld.2.2.size)⟩
      clear hb2 hHeld
      refine hK.out _ _ hs2 (fun hHeld => ?_)
      clear hK K hs2
      refine take_at (i := 7) (d := 19) (v := .bool false) rfl rfl (by kernel_rfl) (by kernel_rfl) (by kernel_rfl) (fun _ _ _ h => h) (by kernel_rfl) (by (intro w hSw; (try dsimp only at hSw); go_simp)) (by assumption) ?_
      simp only [List.setIfInBounds_toArray, List.set_cons_succ, List.set_cons_zero]
      refine wpAnyH_done (by kernel_rfl) ?_ _
      have hb3 := hHeld.2.1
      have hB3 : b < wr.heap.size := Nat.lt_of_lt_of_le hB hb.size
      have f1 : w2.cell? ⟨b, o + i * 3 + 1, none⟩ = some (.int .i64 ((k : Int) + 3 * (i : Int) + 1)) := (hHeld.2.2.cell (p := ⟨b, o + i * 3 + 1, none⟩) hB3).trans e1
      have f2 : w2.cell? ⟨b, o + i * 3 + 2, none⟩ = some (.int .i64 ((k : Int) + 3 * (i : Int) + 1 + 1)) := (hHeld.2.2.cell (p := ⟨b, o + i * 3 + 2, none⟩) hB3).trans e2
      clear hHeld e0 e1 e2 hb
      go_wp2
      go_roundw
      case rel => exact ⟨i + 1, by omega, by go_num, congrArg (Value.int .i64) (by omega), hb3⟩
      case measure => simp [intOf]; omega
    · obtain rfl : i = l.length := by omega
      go_wp2
      go_ret
      exact ⟨rfl, hb⟩

end Go.Proofs.Ytadichddgpojpaa
/- The argument of a law, opened: a slice of segments reads as a list. -/
namespace Go.Proofs.Ytadichddgpojpaa
open Go.ChangeShapes Go.WideShapes Go.ChangeAt Go.RowKit

theorem list_of {Q : Nat → Seg → Prop} : ∀ (n : Nat), (∀ i, i < n → ∃ s, Q i s) → ∃ l : List Seg, l.length = n ∧ ∀ i s, l[i]? = some s → Q i s
  | 0, _ => ⟨[], rfl, fun i s h => by simp at h⟩
  | n + 1, h => by
    obtain ⟨l, hl, hq⟩ := list_of n fun i hi => h i (by omega)
    obtain ⟨s, hs⟩ := h n (by omega)
    refine ⟨l ++ [s], by simp [hl], fun i t ht => ?_⟩
    rcases Nat.lt_or_ge i n with hlt | hge
    · rw [List.getElem?_append_left (by omega)] at ht
      exact hq i t ht
    · rw [List.getElem?_append_right (by omega)] at ht
      have hi : i - l.length < 1 := by
        have := (List.getElem?_eq_some_iff.1 ht).1
        simpa using this
      have h0 : i - l.length = 0 := by omega
      rw [h0] at ht
      simp at ht
      obtain rfl : i = n := by omega
      exact ht ▸ hs

theorem three_of {l : List Value} (h : l.length = 3) : ∃ a b c, l = [a, b, c] := by
  match l, h with
  | [a, b, c], _ => exact ⟨a, b, c, rfl⟩
theorem cells_seg : Try.prog.cellsOf 79 = 3 := by kernel_rfl
theorem cells_str : Try.prog.cellsOf 9 = 1 := by kernel_rfl
theorem cells_int : Try.prog.cellsOf 3 = 1 := by kernel_rfl

theorem open_segs {H : Type} {enc : TypeId × Value → H} {w : World} {base : Nat} {spare : Nat → Bool} {held : Bool} {fuel : Nat} {a0 : Option Addr} {n c : Nat} {x : DataW H × List MemPlace}
    (h : DataW.trod enc Try.prog w base spare held fuel 37 [.slice a0 n c] = some x) : ∃ l : List Seg, l.length = n ∧ n ≤ maxLen ∧ Segs w w.heap.size a0 l ∧ Short l := by
  rcases Deep.open_slice Try.underlying37 h with ⟨hcs, _⟩ | ⟨a, len, cap, m, n', D, Pl, hcs, hb, hl, hm, hmm, hx, hi⟩
  · simp at hcs
    obtain ⟨rfl, rfl, rfl⟩ := hcs
    exact ⟨[], rfl, Nat.zero_le _, fun h0 => absurd h0 (by simp), fun s hs => by simp at hs⟩
  · simp at hcs
    obtain ⟨rfl, rfl, rfl⟩ := hcs
    have hlm : n ≤ m := by rw [hmm]; split <;> omega
    have hs : ∀ i, i < n → ∃ s : Seg, (w.cell? (a.add (i * 3)) = some (.string s.name) ∧ w.cell? (a.add (i * 3 + 1)) = some (.int .i64 s.size) ∧ w.cell? (a.add (i * 3 + 2)) = some (.int .i64 s.par)) ∧ s.name.size ≤ maxLen := by
      intro i hin
      obtain ⟨cs', hc, ht'⟩ := hi i (by omega)
      rw [cells_seg] at hc
      obtain ⟨ys, n'', hn', hy, hlen, hyl, hf⟩ := DataW.trod_struct Try.underlying79 ht'
      obtain ⟨_, hcl, hat⟩ := World.cells?_some hc
      obtain ⟨u0, u1, u2, rfl⟩ := three_of hcl
      have e0 := hat 0 (by omega)
      have e1 := hat 1 (by omega)
      have e2 := hat 2 (by omega)
      have f0 : DataW.trod enc Try.prog w base spare held n'' 9 (([u0, u1, u2].drop 0).take (Try.prog.cellsOf 9)) = ys[0]? := hf 0 _ rfl
      rw [cells_str] at f0
      have f1 : DataW.trod enc Try.prog w base spare held n'' 3 (([u0, u1, u2].drop 1).take (Try.prog.cellsOf 3)) = ys[1]? := hf 1 _ rfl
      rw [cells_int] at f1
      have f2 : DataW.trod enc Try.prog w base spare held n'' 3 (([u0, u1, u2].drop 2).take (Try.prog.cellsOf 3)) = ys[2]? := hf 2 _ rfl
      rw [cells_int] at f2
      obtain ⟨y0, g0⟩ : ∃ y, ys[0]? = some y := ⟨_, List.getElem?_eq_getElem (by rw [hyl]; decide)⟩
      obtain ⟨y1, g1⟩ : ∃ y, ys[1]? = some y := ⟨_, List.getElem?_eq_getElem (by rw [hyl]; decide)⟩
      obtain ⟨y2, g2⟩ : ∃ y, ys[2]? = some y := ⟨_, List.getElem?_eq_getElem (by rw [hyl]; decide)⟩
      rw [g0] at f0
      rw [g1] at f1
      rw [g2] at f2
      obtain ⟨s, hs, _, hss⟩ := DataW.trod_string Try.underlying9 f0
      obtain ⟨p, hp, _, _⟩ := DataW.trod_int Try.underlying3 f1
      obtain ⟨q, hq, _, _⟩ := DataW.trod_int Try.underlying3 f2
      simp at hs hp hq
      subst hs hp hq
      rw [Deep.add_add] at e0 e1 e2
      exact ⟨⟨s, p, q⟩, ⟨e0, e1, e2⟩, hss⟩
    obtain ⟨l, hll, hq⟩ := list_of n hs
    refine ⟨l, hll, by omega, fun h0 => ?_, fun s hs => ?_⟩
    · obtain ⟨b, o, spot⟩ := a
      have hc0 := (hq 0 l[0] (List.getElem?_eq_getElem h0)).1.1
      have hspot : spot = none := by simpa [Addr.add] using World.cell?_spot hc0
      subst hspot
      have hlt := World.block_lt_of_cell? w _ hc0
      rw [WideShapes.add_plain] at hlt
      refine ⟨b, o, rfl, hlt, fun k s hk => ?_⟩
      have := (hq k s hk).1
      rw [WideShapes.add_plain, WideShapes.add_plain, WideShapes.add_plain, ← Nat.add_assoc, ← Nat.add_assoc] at this
      exact this
    · obtain ⟨j, hj, rfl⟩ := List.getElem_of_mem hs
      exact (hq j _ (List.getElem?_eq_getElem hj)).2

theorem own : ownKnob Try.prog.godebug = none := by kernel_rfl
theorem laidOut : laidOutB Try.prog = true := by kernel_rfl

end Go.Proofs.Ytadichddgpojpaa
/- A law's argument that is a row of texts: opened, sized, turned into the program's own. -/
namespace Go.Proofs.Ytadichddgpojpaa
open Go.ChangeShapes Go.WideShapes Go.ChangeAt Go.RowKit

/-- Texts no longer than Go allows. -/
def Shorts (ts : List ByteArray) : Prop := ∀ s ∈ ts, s.size ≤ maxLen
theorem list_ofT {Q : Nat → ByteArray → Prop} : ∀ (n : Nat), (∀ i, i < n → ∃ s, Q i s) → ∃ l : List ByteArray, l.length = n ∧ ∀ i s, l[i]? = some s → Q i s
  | 0, _ => ⟨[], rfl, fun i s h => by simp at h⟩
  | n + 1, h => by
    obtain ⟨l, hl, hq⟩ := list_ofT n fun i hi => h i (by omega)
    obtain ⟨s, hs⟩ := h n (by omega)
    refine ⟨l ++ [s], by simp [hl], fun i t ht => ?_⟩
    rcases Nat.lt_or_ge i n with hlt | hge
    · rw [List.getElem?_append_left (by omega)] at ht
      exact hq i t ht
    · rw [List.getElem?_append_right (by omega)] at ht
      have hi : i - l.length < 1 := by
        have := (List.getElem?_eq_some_iff.1 ht).1
        simpa using this
      have h0 : i - l.length = 0 := by omega
      rw [h0] at ht
      simp at ht
      obtain rfl : i = n := by omega
      exact ht ▸ hs
theorem one_ofV {l : List Value} (h : l.length = 1) : ∃ a, l = [a] := by
  match l, h with
  | [a], _ => exact ⟨a, rfl⟩
theorem open_strs {H : Type} {enc : TypeId × Value → H} {w : World} {base : Nat} {spare : Nat → Bool} {held : Bool} {fuel : Nat} {a0 : Option Addr} {n c : Nat} {x : DataW H × List MemPlace}
    (h : DataW.trod enc Try.prog w base spare held fuel 38 [.slice a0 n c] = some x) : ∃ ts : List ByteArray, ts.length = n ∧ n ≤ maxLen ∧ St.Strs w w.heap.size a0 ts ∧ Shorts ts := by
  rcases Deep.open_slice Try.underlying38 h with ⟨hcs, _⟩ | ⟨a, len, cap, m, n', D, Pl, hcs, hb, hl, hm, hmm, hx, hi⟩
  · simp at hcs
    obtain ⟨rfl, rfl, rfl⟩ := hcs
    exact ⟨[], rfl, Nat.zero_le _, fun h0 => absurd h0 (by simp), fun s hs => by simp at hs⟩
  · simp at hcs
    obtain ⟨rfl, rfl, rfl⟩ := hcs
    have hlm : n ≤ m := by rw [hmm]; split <;> omega
    have hs : ∀ i, i < n → ∃ s : ByteArray, w.cell? (a.add i) = some (.string s) ∧ s.size ≤ maxLen := by
      intro i hin
      obtain ⟨cs', hc, ht'⟩ := hi i (by omega)
      rw [cells_str] at hc
      obtain ⟨_, hcl, hat⟩ := World.cells?_some hc
      obtain ⟨u0, rfl⟩ := one_ofV hcl
      have e0 := hat 0 (by omega)
      obtain ⟨s, hs, _, hss⟩ := DataW.trod_string Try.underlying9 ht'
      simp at hs
      subst hs
      rw [Deep.add_add] at e0
      exact ⟨s, by simpa using e0, hss⟩
    obtain ⟨l, hll, hq⟩ := list_ofT n hs
    refine ⟨l, hll, by omega, fun h0 => ?_, fun s hs => ?_⟩
    · obtain ⟨b, o, spot⟩ := a
      have hc0 := (hq 0 l[0] (List.getElem?_eq_getElem h0)).1
      have hspot : spot = none := by simpa [Addr.add] using World.cell?_spot hc0
      subst hspot
      have hlt := World.block_lt_of_cell? w _ hc0
      rw [WideShapes.add_plain] at hlt
      refine ⟨b, o, rfl, hlt, fun k s hk => ?_⟩
      have := (hq k s hk).1
      rw [WideShapes.add_plain] at this
      exact this
    · obtain ⟨j, hj, rfl⟩ := List.getElem_of_mem hs
      exact (hq j _ (List.getElem?_eq_getElem hj)).2

/-- The number that is left: -1 where it runs out. -/
def textsFrom : List ByteArray → Int → Int
  | [], n => n
  | s :: l, n => if n - s.size < 0 then -1 else textsFrom l (n - s.size)
def textsLeft (ts : List ByteArray) (n : Int) : Int := if n - (ts.length : Int) < 0 then -1 else textsFrom ts (n - ts.length)
theorem textsFrom_le : ∀ (ts : List ByteArray) (n : Int), ¬ textsFrom ts n < 0 → textsFrom ts n ≤ n ∧ ∀ s ∈ ts, (s.size : Int) ≤ n
  | [], n, _ => ⟨Int.le_refl _, fun s hs => by cases hs⟩
  | s :: l, n, h => by
    unfold textsFrom at h ⊢
    by_cases hs : n - s.size < 0
    · rw [if_pos hs] at h; omega
    · rw [if_neg hs] at h ⊢
      obtain ⟨h1, h2⟩ := textsFrom_le l _ h
      refine ⟨by omega, fun x hx => ?_⟩
      rcases List.mem_cons.1 hx with rfl | hx
      · omega
      · have := h2 x hx; omega
theorem textsLeft_ok {ts : List ByteArray} {n : Int} (hn : n ≤ 1048576) (h : ¬ textsLeft ts n < 0) : ts.length ≤ 1048576 ∧ ∀ s ∈ ts, s.size ≤ 1048576 := by
  unfold textsLeft at h
  by_cases hl : n - (ts.length : Int) < 0
  · rw [if_pos hl] at h; omega
  · rw [if_neg hl] at h
    obtain ⟨h1, h2⟩ := textsFrom_le ts _ h
    refine ⟨by omega, fun s hs => ?_⟩
    have := h2 s hs
    omega

theorem leftOf_le : ∀ (l : List Seg) (n : Int), leftOf l n = -1 ∨ leftOf l n ≤ n
  | [], n => .inr (Int.le_refl n)
  | s :: l, n => by
    unfold leftOf
    by_cases h : n - s.name.size < 0
    · rw [if_pos h]; exact .inl rfl
    · rw [if_neg h]
      rcases leftOf_le l (n - s.name.size) with h1 | h1
      · exact .inl h1
      · right; omega
theorem sizeLeft_le (l : List Seg) : sizeLeft l ≤ 1048576 := by
  unfold sizeLeft
  by_cases h : 1048576 - (l.length : Int) < 0
  · rw [if_pos h]; decide
  · rw [if_neg h]
    rcases leftOf_le l (1048576 - l.length) with h1 | h1 <;> omega

set_option maxRecDepth 100000 in
set_option maxHeartbeats 400000 in
theorem szStringS_any (A : Option Addr) (ts : List ByteArray) (c : Nat) (left : Int) (w : World) (hw : St.Strs w w.heap.size A ts) (hl : ts.length ≤ maxLen) (hn : Shorts ts) (h1 : 0 ≤ left) (h2 : left ≤ 1048576) :
    Calls Try.prog 32 #[.slice A ts.length c, .int .i64 left] w fun e w' => e = .returned (.int .i64 (textsLeft ts left)) ∧ Below w.heap.size w w' := by
  unfold maxLen at hl
  by_cases h : left - (ts.length : Int) < 0
  · have HF : Hid (textsLeft ts left = -1) := if_pos h
    go_enter Try.func32, Try.ntmps32
    go_wp2
    go_ret
    exact ⟨ret_int HF.out.symm, Below.refl _ _⟩
  · have HW : Hid (St.Strs w w.heap.size A ts) := hw
    clear hw
    have HF : Hid (textsLeft ts left = textsFrom ts (left - ts.length)) := if_neg h
    go_enter Try.func32, Try.ntmps32
    go_wp2
    go_loopw [1, 5] (fun v i wr => ∃ (k : Nat) (n : Int), k ≤ ts.length ∧ i = .int .i64 k ∧ v = .int .i64 n ∧ 0 ≤ n ∧ n ≤ 1048576 ∧ Hid (textsFrom ts (left - ts.length) = textsFrom (ts.drop k) n) ∧ Below w.heap.size w wr)
      (fun _ i _ => ts.length - (intOf i).toNat)
    case atStart => exact ⟨0, _, Nat.zero_le _, rfl, rfl, by omega, by omega, rfl, Below.refl _ _⟩
    case round =>
      obtain ⟨k, n, hk, rfl, rfl, h0, h1', HE, hb⟩ := hrel
      by_cases hlt : k < ts.length
      · obtain ⟨b, o, rfl, hB, hc⟩ := HW.out (by omega)
        have c0 := hc k ts[k] (List.getElem?_eq_getElem hlt)
        clear hc
        rw [← hb.cell hB] at c0
        have hs := hn ts[k] (List.getElem_mem hlt)
        unfold maxLen at hs
        have HD : Hid (textsFrom (ts.drop k) n = if n - ts[k].size < 0 then -1 else textsFrom (ts.drop (k + 1)) (n - ts[k].size)) := by
          rw [List.drop_eq_getElem_cons hlt]; rfl
        generalize ts[k] = s at *
        by_cases hle : n - s.size < 0
        · have HG : Hid (textsFrom (ts.drop k) n = -1) := HD.out.trans (if_pos hle)
          clear HD
          go_wp2
          go_ret
          exact ⟨ret_int (HF.out.trans (HE.out.trans HG.out)).symm, hb⟩
        · have HG : Hid (textsFrom (ts.drop k) n = textsFrom (ts.drop (k + 1)) (n - s.size)) := HD.out.trans (if_neg hle)
          clear HD
          go_wp2
          go_roundw
          case rel => exact ⟨k + 1, _, by omega, by go_num, rfl, by omega, by omega, HE.out.trans HG.out, hb⟩
          case measure => simp [intOf]; omega
      · go_wp2
        go_ret
        refine ⟨ret_int ?_, hb⟩
        rw [HF.out, HE.out, List.drop_of_length_le (by omega)]; rfl

theorem run_make_strs (n : Nat) (hn : n ≤ 1048576) (W : World) :
    (Instr.makeSlice 38 (.int .i64 (n : Int)) (.int .i64 (n : Int))).run Try.prog W = .ok (.slice (some ⟨W.heap.size, 0, none⟩) n n) (W.alloc (.cells (madeCells (Value.string ByteArray.empty).cells (n * 1)) 9)) := by
  obtain ⟨i0, hi, hz0, hz1, hz2⟩ := info_parts info_str
  have hr := run_make (P := Try.prog) W 38 9 i0 (.string ByteArray.empty) Try.underlying38 hi hz0 .i64 .i64 n n (by omega) (by omega) (by rw [hz2]; omega) (by omega)
  simp only [Int.toNat_natCast, hz1] at hr
  exact hr
/-- The first 'k' of the texts lie in the cells. -/
def FilledT (ts : List ByteArray) (k : Nat) (cs : Array Value) : Prop := cs.size = ts.length ∧ ∀ (j : Nat) (s : ByteArray), j < k → ts[j]? = some s → cs[j]? = some (.string s)
theorem FilledT.next {ts : List ByteArray} {k : Nat} {cs : Array Value} (h : FilledT ts k cs) (hk : k < ts.length) : FilledT ts (k + 1) (cs.setIfInBounds k (.string ts[k])) := by
  refine ⟨by simpa using h.1, fun j s hj hs => ?_⟩
  have hz := h.1
  rcases Nat.lt_or_ge j k with hlt | hge
  · rw [Array.getElem?_setIfInBounds_ne (by omega)]
    exact h.2 j s hlt hs
  · obtain rfl : j = k := by omega
    rw [List.getElem?_eq_getElem hk] at hs
    injection hs with hs
    subst hs
    rw [Array.getElem?_setIfInBounds_self_of_lt (by omega)]
theorem FilledT.done {ts : List ByteArray} {cs : Array Value} {w : World} {g B : Nat} (h : FilledT ts ts.length cs) (hr : Row w g 9 cs) (hB : B ≤ g) (hm : ts.length ≤ maxLen) : OwnTexts w B (.slice (some ⟨g, 0, none⟩) ts.length ts.length) ts := by
  unfold OwnTexts
  have hl : cs.toList = ts.map Value.string := by
    apply List.ext_getElem?
    intro i
    rw [Array.getElem?_toList, List.getElem?_map]
    rcases Nat.lt_or_ge i ts.length with hlt | hge
    · rw [h.2 i ts[i] hlt (List.getElem?_eq_getElem hlt), List.getElem?_eq_getElem hlt]
      rfl
    · rw [List.getElem?_eq_none hge, Array.getElem?_eq_none (by rw [h.1]; exact hge)]
      rfl
  refine ⟨by simp, .inr ⟨g, ts.length, cs, rfl, hB, hr, Nat.le_refl _, hm, by rw [h.1]; simp, ?_⟩⟩
  rw [hl, Nat.mul_one]
  exact List.take_of_length_le (by simp)

set_option maxRecDepth 100000 in
set_option maxHeartbeats 400000 in
theorem toStringS_any (A : Option Addr) (ts : List ByteArray) (c : Nat) (w : World) (hw : St.Strs w w.heap.size A ts) (hl : ts.length ≤ 1048576) :
    Calls Try.prog 35 #[.slice A ts.length c] w fun e w' => e = .returned (.slice (some ⟨w.heap.size, 0, none⟩) ts.length ts.length) ∧ Below w.heap.size w w' ∧ OwnTexts w' w.heap.size (.slice (some ⟨w.heap.size, 0, none⟩) ts.length ts.length) ts := by
  have HW : Hid (St.Strs w w.heap.size A ts) := hw
  clear hw
  have hmk := run_make_strs ts.length hl
  go_enter Try.func35, Try.ntmps35
  go_wp2
  go_loopw [4] (fun i wr => ∃ (k : Nat) (cs : Array Value), k ≤ ts.length ∧ i = .int .i64 k ∧ Below w.heap.size w wr ∧ Row wr w.heap.size 9 cs ∧ FilledT ts k cs)
    (fun i _ => ts.length - (intOf i).toNat)
  case atStart => exact ⟨0, _, Nat.zero_le _, rfl, (Below.refl _ _).alloc (Nat.le_refl _) _, Row.new _ _ _, ⟨size_madeCells _ _, fun j _ hj => absurd hj (by omega)⟩⟩
  case round =>
    obtain ⟨k, cs, hk, rfl, hb, hrow, hf⟩ := hrel
    have hz : w.heap.size < wr.heap.size := hrow.lt
    by_cases hlt : k < ts.length
    · obtain ⟨b, o, rfl, hB, hc⟩ := HW.out (by omega)
      have c0 := hc k ts[k] (List.getElem?_eq_getElem hlt)
      clear hc
      rw [← hb.cell hB] at c0
      have HN := Lib.hid (hf.next hlt)
      have HS := Lib.hid hf.1
      clear hf
      generalize ts[k] = s at *
      have f0 := hrow.free k
      have d0 : wr.cell? ⟨w.heap.size, k, none⟩ = some (cs[k]'(by have := HS.out; omega)) := by rw [hrow.cell, Array.getElem?_eq_getElem]
      have HR := Lib.hid hrow
      clear hrow
      generalize cs[k]'_ = u0 at *
      go_wp2
      go_roundw
      case rel => exact ⟨k + 1, _, by omega, by go_num, hb.setCell (Nat.le_refl _) _, HR.out.put _ _, HN.out⟩
      case measure => simp [intOf]; omega
    · obtain rfl : k = ts.length := by omega
      have hd := hf.done hrow (B := w.heap.size) (Nat.le_refl _) (by unfold maxLen; omega)
      clear hf
      go_wp2
      go_ret
      exact ⟨rfl, hb, hd⟩

end Go.Proofs.Ytadichddgpojpaa
/- Marks in a row of texts whose own texts don't matter. -/
namespace Go.Proofs.Ytadichddgpojpaa
open Go.RowKit

theorem rowOf_texts {W : World} {B g n : Nat} {ts : List ByteArray} (h : OwnTexts W B (.slice (some ⟨g, 0, none⟩) ts.length n) ts) : ∃ cs, Row W g 9 cs ∧ ts.length ≤ cs.size := by
  rcases h.2 with ⟨h0, _⟩ | ⟨g', cap', cur, e, hB, hh, h1, h2, h3, h4⟩
  · cases h0
  · injection e with e1 _ e3
    injection e1 with e1
    injection e1 with e1
    subst e1 e3
    exact ⟨cur, hh, by omega⟩
namespace St
end St

end Go.Proofs.Ytadichddgpojpaa
/- A tree and a truth as an answer: whether it stays, and its marks. -/
namespace Go.Proofs.Ytadichddgpojpaa
open Go.RowKit

/-- A tree in memory of the call's own, and whether there is one. -/
def TreeAns (w : World) (tr : List Seg) (d : Bool) (e : Ending) (w' : World) : Prop :=
  ∃ v, e = .returned (.tuple #[v, .bool d]) ∧ OwnTree w' w.heap.size v tr ∧ Below w.heap.size w w'
theorem treeFar {w w' : World} {B : Nat} {v : Value} {tr : List Seg} {may : Nat → Prop} (h : OwnTree w B v tr) (ho : Only w w' may) (hm : ∀ g, v.ownBlock = some g → ¬ may g) : OwnTree w' B v tr :=
  h.far fun g hg => ho.block g (World.ownsRow.lt h g hg).2 (hm g hg)
theorem treeBelow {w w' : World} {B : Nat} {v : Value} {tr : List Seg} (h : OwnTree w B v tr) (hb : Below w.heap.size w w') : OwnTree w' B v tr :=
  h.far fun g hg => hb.block g (World.ownsRow.lt h g hg).2
theorem treeIs {w : World} {B n cap : Nat} {A : Option Addr} {tr : List Seg} (h : OwnTree w B (.slice A n cap) tr) : Segs w w.heap.size A tr := by
  obtain ⟨A', c', e, hs⟩ := h.form
  injection e with e1 e2 e3
  subst e1
  exact hs
theorem tmark1 (B : Nat) (v : Value) (l : List Seg) (w : World) (hown : OwnTree w B v l) (hl : l.length ≤ 1000) :
    Calls Try.prog 41 #[v, .int .i64 1] w fun e w' => e = .returned (.int .i64 ((1 + 3 * l.length : Nat) : Int)) ∧ OwnTree w' B v (marked l 1 l.length) ∧ Only w w' (fun b => v.ownBlock = some b) :=
  markSegmentS_any B 1 v l w hown rfl hl
theorem theld1 (A : Option Addr) (n cap : Nat) (l : List Seg) (w : World) (hn : l.length = n) (hw : Segs w w.heap.size A (marked l 1 l.length)) (hl : l.length ≤ 1000) :
    Calls Try.prog 42 #[.slice A n cap, .int .i64 1] w fun e w' => e = .returned (.int .i64 ((1 + 3 * l.length : Nat) : Int)) ∧ Below w.heap.size w w' := by
  have h := heldSegmentS_any 1 A cap (marked l 1 l.length) w hw (fun j hj => marked_at l 1 l.length j (by rw [marked_len] at hj; exact hj) (Nat.le_refl _)) rfl (by rw [marked_len]; exact hl)
  rw [marked_len, hn] at h
  rw [hn]
  exact h

end Go.Proofs.Ytadichddgpojpaa
/- FlatTree and ChainTree on both sides. -/
namespace Go.Proofs.Ytadichddgpojpaa
open Go.RowKit

theorem root_par {l : List Seg} (h : validB l = true) (h0 : 0 < l.length) : l[0].par = -1 := by
  have h1 := (valid_all h).1 0 h0
  unfold segOk at h1
  rw [List.getElem?_eq_getElem h0] at h1
  simp only [Bool.and_eq_true] at h1
  have h2 := h1.2
  unfold parOk parAt at h2
  rw [if_pos rfl, List.getElem?_eq_getElem h0] at h2
  exact beq_iff_eq.1 h2
theorem own_snoc {w : World} {B : Nat} {v : Value} {tr : List Seg} {n : Nat} {s : Seg} (hn : n = tr.length) (h : w.ownsRow B 36 3 v (n + 1) (segCells tr ++ [.string s.name, .int .i64 s.size, .int .i64 s.par])) : OwnTree w B v (tr ++ [s]) := by
  unfold OwnTree
  rw [segCells_snoc, List.length_append, ← hn]
  exact h
/-- append of one segment, laid as a row of its own, to a tree of the call's own. -/
theorem wp_append_seg {ops : Array Oper} {rest : List Oper} {o : Oper} {a : Act} {Q : Exit → Act → World → Prop} (hgd : o.guard = none) (S X : Operand)
    (ho : o.op = Op.call { callee := Callee.builtin Builtin.append, args := #[S, X], argTypes := #[23, 23] })
    (B : Nat) (v : Value) (tr : List Seg) (nm : ByteArray) (sz p : Int) (W : World) (hs : a.eval S = v) (hown : OwnTree W B v tr) (htl : tr.length ≤ 1000) (hB : B ≤ W.heap.size)
    (g : Nat) (hx : a.eval X = .slice (some ⟨g, 0, none⟩) 1 1) (hg : g = W.heap.size)
    (h : ∀ v' w', OwnTree w' B v' (tr ++ [⟨nm, sz, p⟩]) → Below B W w' → (∀ k, k < W.heap.size → v.ownBlock ≠ some k → w'.heap[k]? = W.heap[k]?) → wpList Try.prog ops Q rest (a.put o.dst v') w') :
    wpList Try.prog ops Q (o :: rest) a (W.alloc (.cells #[.string nm, .int .i64 sz, .int .i64 p] 36)) := by
  subst hg
  obtain ⟨i0, hi0, hz0, hz1, hz2⟩ := info_parts info_seg
  refine wpList_append_own _ hgd S X 23 ho B 36 i0 zeroSeg 3 32 Try.underlying23 hi0 hz0 hz1 hz2 rfl (by decide) v tr.length (segCells tr) hs (hown.alloc (.cells #[.string nm, .int .i64 sz, .int .i64 p] 36)) ⟨W.heap.size, 0, none⟩ 1 1 [.string nm, .int .i64 sz, .int .i64 p] hx rfl
    (World.news_of_block (cs := #[.string nm, .int .i64 sz, .int .i64 p]) (t := 36) (fr := (0, 0)) (heap_alloc_new W _)) (by simp [Value.oneCell']) (by unfold maxLen; omega) (by omega) (by simp; omega) ?_
  intro v' w' hown' hgrow _
  refine h v' w' (own_snoc rfl hown') ?_ ?_
  · exact ((Below.refl B W).alloc hB _).grown hgrow (by simp; omega) (fun k e => (World.ownsRow.lt hown k e).1)
  · intro k hk hne
    exact (hgrow.block k (by simp; omega) (fun e => hne e.symm)).trans (Below.heap_alloc W _ k hk)
theorem flatRes_bad {l : List Seg} (h : validB l = false) : flatRes l = [] := if_neg (by rw [h]; decide)
theorem chainRes_bad {l : List Seg} (h : validB l = false) : chainRes l = [] := if_neg (by rw [h]; decide)
theorem flatRes_len (l : List Seg) : (flatRes l).length ≤ 200 := by
  unfold flatRes
  split
  · next h => rw [show (flatL l).length = l.length from parL_len _ _]; have := (valid_all h).2.1; omega
  · exact Nat.zero_le _
theorem chainRes_len (l : List Seg) : (chainRes l).length ≤ 200 := by
  unfold chainRes
  split
  · next h => rw [show (chainL l).length = l.length from parL_len _ _]; have := (valid_all h).2.1; omega
  · exact Nat.zero_le _
theorem flatRes_ok {l : List Seg} (h : validB l = true) : flatRes l = parL flatP l := if_pos h
theorem chainRes_ok {l : List Seg} (h : validB l = true) : chainRes l = parL chainP l := if_pos h

theorem set_same {α : Type} {L : List α} {j : Nat} {x : α} (h : L[j]? = some x) : L.set j x = L := by
  apply List.ext_getElem?
  intro k
  by_cases hk : k = j
  · subst hk
    rw [List.getElem?_set_self (List.getElem?_eq_some_iff.1 h).1, h]
  · rw [List.getElem?_set_ne (fun e => hk e.symm)]
theorem treeLow {w : World} {B B' : Nat} {v : Value} {tr : List Seg} (h : OwnTree w B v tr) (hB : B' ≤ B) : OwnTree w B' v tr := by
  refine ⟨h.1, ?_⟩
  rcases h.2 with h0 | ⟨g, cap, cur, e1, hg, r⟩
  · exact .inl h0
  · exact .inr ⟨g, cap, cur, e1, Nat.le_trans hB hg, r⟩
theorem OwnTree.setPar {w : World} {B g cap : Nat} {tr : List Seg} (h : OwnTree w B (.slice (some ⟨g, 0, none⟩) tr.length cap) tr) {i : Nat} {x : Seg} (hx : tr[i]? = some x) (p : Int) :
    OwnTree (w.setCell ⟨g, i * 3 + 2, none⟩ (.int .i64 p)) B (.slice (some ⟨g, 0, none⟩) tr.length cap) (tr.set i ⟨x.name, x.size, p⟩) := by
  have hi := (List.getElem?_eq_some_iff.1 hx).1
  obtain ⟨s0, s1, -⟩ := segCells_at hx
  unfold OwnTree at h ⊢
  rw [List.length_set]
  refine ⟨by rw [segCells_len, List.length_set], ?_⟩
  rcases h.2 with ⟨h0, _⟩ | ⟨g', cap', cur, hv, hg, hh, h1, h2, h3, h4⟩
  · cases h0
  · injection hv with hv1 _ hv3
    injection hv1 with hv1
    injection hv1 with hv1
    subst hv1 hv3
    have hr : Row w g 36 cur := hh
    refine .inr ⟨g, cap, _, rfl, hg, hr.put (i * 3 + 2) _, h1, h2, by simpa using h3, ?_⟩
    rw [segCells_set tr i _ hi, set_same s0, set_same s1, ← h4]
    simp only [Array.toList_setIfInBounds, List.take_set]
theorem Segs.news {w : World} {B b o : Nat} {l : List Seg} (h : Segs w B (some ⟨b, o, none⟩) l) : ∀ j u, (segCells l)[j]? = some u → w.cell? ((⟨b, o, none⟩ : Addr).add j) = some u := fun j u hj => by
  have hlt := (List.getElem?_eq_some_iff.1 hj).1
  rw [segCells_len] at hlt
  have hi : j / 3 < l.length := by omega
  obtain ⟨b', o', e, _, hc⟩ := h (by omega)
  injection e with e
  injection e with e1 e2
  subst e1 e2
  obtain ⟨c0, c1, c2⟩ := hc (j / 3) _ (List.getElem?_eq_getElem hi)
  obtain ⟨s0, s1, s2⟩ := segCells_at (List.getElem?_eq_getElem hi)
  rw [Addr.add_lit]
  have hr : j = j / 3 * 3 ∨ j = j / 3 * 3 + 1 ∨ j = j / 3 * 3 + 2 := by omega
  rcases hr with hr | hr | hr
  · rw [hr] at hj ⊢
    rw [s0] at hj
    rw [← hj]
    exact c0
  · rw [hr] at hj ⊢
    rw [s1] at hj
    rw [← hj]
    exact c1
  · rw [hr] at hj ⊢
    rw [s2] at hj
    rw [← hj]
    exact c2
theorem segCells_one' (l : List Seg) : ∀ u ∈ segCells l, u.oneCell' = true := by
  intro u hu
  obtain ⟨s, _, hs⟩ := List.mem_flatMap.1 hu
  simp at hs
  rcases hs with rfl | rfl | rfl <;> rfl

def mixL (f : Nat → Int) (l : List Seg) (i : Nat) : List Seg := (parL f l).take i ++ l.drop i
theorem mixL_len (f : Nat → Int) (l : List Seg) (i : Nat) : (mixL f l i).length = l.length := by
  unfold mixL
  rw [List.length_append, List.length_take, List.length_drop, parL_len]
  omega
theorem mixL_at {f : Nat → Int} {l : List Seg} {i : Nat} (h : i < l.length) : (mixL f l i)[i]? = some l[i] := by
  unfold mixL
  have h1 : ((parL f l).take i).length = i := by rw [List.length_take, parL_len]; omega
  rw [List.getElem?_append_right (by omega), h1, Nat.sub_self, List.getElem?_drop, Nat.add_zero, List.getElem?_eq_getElem h]
theorem mixL_succ {f : Nat → Int} {l : List Seg} {i : Nat} (h : i < l.length) : mixL f l (i + 1) = (mixL f l i).set i ⟨l[i].name, l[i].size, f i⟩ := by
  unfold mixL
  have h1 : ((parL f l).take i).length = i := by rw [List.length_take, parL_len]; omega
  rw [parL_take f l h, List.set_append_right _ _ (by omega), h1, Nat.sub_self, List.drop_eq_getElem_cons h, List.set_cons_zero, List.append_assoc]
  rfl
theorem mixL_one {f : Nat → Int} {l : List Seg} (hv : validB l = true) (h0 : f 0 = -1) : mixL f l 1 = l := by
  have h1 := (valid_all hv).2.2
  rw [mixL_succ (by omega : 0 < l.length)]
  have h2 : mixL f l 0 = l := by unfold mixL; simp
  rw [h2, h0, ← root_par hv (by omega)]
  exact set_same (List.getElem?_eq_getElem (by omega))
theorem mixL_all (f : Nat → Int) (l : List Seg) : mixL f l l.length = parL f l := by
  unfold mixL
  rw [parL_all, List.drop_of_length_le (Nat.le_refl _), List.append_nil]

end Go.Proofs.Ytadichddgpojpaa
