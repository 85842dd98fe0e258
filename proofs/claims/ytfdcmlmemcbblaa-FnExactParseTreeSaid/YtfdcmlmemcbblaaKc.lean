/- The law's marks: what is written into a result, and whether it is held. -/
import Derived.Test.YtfdcmlmemcbblaaKb
import Derived.Test.YtfdcmlmemcbblaaRg
namespace Go.Proofs.Ytfdcmlmemcbblaa
open Go.RowKit

def digC (m : Nat) : UInt8 := UInt8.ofNat (48 + m % 10)
theorem digC_nat (m : Nat) : (digC m).toNat = 48 + m % 10 := by
  unfold digC
  rw [UInt8.toNat_ofNat']
  omega
/-- The decimal digits of a number, ahead of a text. -/
def mtl (k : Nat) (out : ByteArray) : ByteArray := if _h : k = 0 then out else mtl (k / 10) (⟨#[digC k]⟩ ++ out)
termination_by k
decreasing_by omega
theorem mtl_zero (out : ByteArray) : mtl 0 out = out := by
  rw [mtl]
  exact dif_pos rfl
theorem mtl_step {k : Nat} (h : 0 < k) (out : ByteArray) : mtl k out = mtl (k / 10) (⟨#[digC k]⟩ ++ out) := by
  conv => lhs; rw [mtl]
  exact dif_neg (by omega)
def mt (k : Nat) : ByteArray := ⟨#[109]⟩ ++ mtl k ⟨#[]⟩

set_option maxRecDepth 100000 in
set_option maxHeartbeats 1000000 in
theorem markText_any (k : Nat) (w : World) (h0 : 0 < k) (hk : k ≤ 1000000) :
    Calls Try.prog 101 #[.int .i64 k] w fun e w' => e = .returned (.string (mt k)) ∧ Below w.heap.size w w' := by
  have HM : Hid (mt k = ⟨#[109]⟩ ++ mtl k ⟨#[]⟩) := rfl
  have h0' : ¬ (k : Int) ≤ 0 := by omega
  go_enter Try.func101, Try.ntmps101
  go_wp2
  go_loopw [0, 3] (fun v o wr => ∃ (m : Nat) (s : ByteArray), v = .int .i64 m ∧ o = .string s ∧ s.size + m ≤ 1000000 ∧ Hid (mtl k ⟨#[]⟩ = mtl m s) ∧ Below w.heap.size w wr)
    (fun v _ _ => (intOf v).toNat)
  case atStart => exact ⟨k, ⟨#[]⟩, rfl, rfl, (by have h : (⟨#[]⟩ : ByteArray).size = 0 := rfl; omega), rfl, Below.refl _ _⟩
  case round =>
    obtain ⟨m, s, rfl, rfl, hs, HK, hb⟩ := hrel
    have hm0 : (0 : Int) ≤ (m : Int) := Int.natCast_nonneg _
    by_cases hm : 0 < m
    · have hm' : (0 : Int) < (m : Int) := by omega
      have HS := Lib.hid (HK.out.trans (mtl_step hm s))
      have hcv : (convert 22 9 (.slice (some ⟨wr.heap.size, 0, none⟩) 1 1)).run Try.prog (wr.alloc (.cells #[.int .u8 (48 + (m : Int) % 10)] 5)) = .ok (.string ⟨#[digC m]⟩) (wr.alloc (.cells #[.int .u8 (48 + (m : Int) % 10)] 5)) :=
        run_convert_bytes_back (P := Try.prog) _ 22 9 5 ⟨wr.heap.size, 0, none⟩ 1 [digC m] Try.underlying22 Try.underlying5 Try.underlying9 (fun j hj => by
          have : j = 0 := by simp at hj; omega
          subst this
          have h := (Row.new wr 5 #[.int .u8 (48 + (m : Int) % 10)]).cell 0
          have e : (48 + (m : Int) % 10) = ((digC m).toNat : Int) := by rw [digC_nat]; omega
          rw [e] at h ⊢
          exact h)
      have hsz : (⟨#[digC m]⟩ ++ s : ByteArray).size + m / 10 ≤ 1000000 := by
        have h1 : (⟨#[digC m]⟩ ++ s : ByteArray).size = 1 + s.size := by rw [ByteArray.size_append]; rfl
        omega
      go_wp2
      go_roundw
      case rel => exact ⟨m / 10, ⟨#[digC m]⟩ ++ s, congrArg (Value.int .i64) (by omega), rfl, hsz, HS, hb.alloc hb.size _⟩
      case measure => simp [intOf]; omega
    · obtain rfl : m = 0 := by omega
      have HZ := Lib.hid (HK.out.trans (mtl_zero s))
      go_wp2
      go_ret
      exact ⟨by rw [HM.out, HZ.out]; rfl, hb⟩

theorem segCells_set : ∀ (tr : List Seg) (i : Nat) (s : Seg), i < tr.length → segCells (tr.set i s) = (((segCells tr).set (i * 3) (.string s.name)).set (i * 3 + 1) (.int .i64 s.size)).set (i * 3 + 2) (.int .i64 s.par)
  | [], _, _, h => absurd h (by simp)
  | x :: tr, 0, s, _ => rfl
  | x :: tr, i + 1, s, h => by
    have h1 := segCells_set tr i s (by simpa using h)
    have e : ∀ l : List Seg, ∀ y : Seg, segCells (y :: l) = .string y.name :: .int .i64 y.size :: .int .i64 y.par :: segCells l := fun l y => rfl
    rw [List.set_cons_succ, e, e, h1, show (i + 1) * 3 = i * 3 + 3 by omega, show i * 3 + 3 + 1 = i * 3 + 1 + 3 by omega, show i * 3 + 3 + 2 = i * 3 + 2 + 3 by omega]
    rfl

theorem OwnTree.store {w : World} {B g cap : Nat} {tr : List Seg} (h : OwnTree w B (.slice (some ⟨g, 0, none⟩) tr.length cap) tr) {i : Nat} (hi : i < tr.length) (s : Seg) :
    OwnTree (((w.setCell ⟨g, i * 3, none⟩ (.string s.name)).setCell ⟨g, i * 3 + 1, none⟩ (.int .i64 s.size)).setCell ⟨g, i * 3 + 2, none⟩ (.int .i64 s.par)) B (.slice (some ⟨g, 0, none⟩) tr.length cap) (tr.set i s) := by
  unfold OwnTree at h ⊢
  rw [List.length_set]
  refine ⟨by rw [segCells_len, List.length_set], ?_⟩
  rcases h.2 with ⟨h0, _⟩ | ⟨g', cap', cur, hv, hg, hh, h1, h2, h3, h4⟩
  · cases h0
  · injection hv with hv1 _ hv3
    injection hv1 with hv1
    injection hv1 with hv1
    subst hv1 hv3
    have hr : Row w g 73 cur := hh
    refine .inr ⟨g, cap, _, rfl, hg, ((hr.put (i * 3) _).put (i * 3 + 1) _).put (i * 3 + 2) _, h1, h2, by simpa using h3, ?_⟩
    rw [segCells_set tr i s hi, ← h4]
    simp only [Array.toList_setIfInBounds, List.take_set]
theorem OwnTree.cells {w : World} {B g cap : Nat} {tr : List Seg} (h : OwnTree w B (.slice (some ⟨g, 0, none⟩) tr.length cap) tr) {i : Nat} {s : Seg} (hi : tr[i]? = some s) :
    (w.cell? ⟨g, i * 3, none⟩ = some (.string s.name) ∧ w.cell? ⟨g, i * 3 + 1, none⟩ = some (.int .i64 s.size) ∧ w.cell? ⟨g, i * 3 + 2, none⟩ = some (.int .i64 s.par)) ∧ ∀ j, w.frozen? ⟨g, j, none⟩ = false := by
  have hlt := (List.getElem?_eq_some_iff.1 hi).1
  have hz := segCells_len tr
  obtain ⟨a, b, c⟩ := segCells_at hi
  have ha : ∀ j, j < tr.length * 3 → w.cell? ⟨g, j, none⟩ = (segCells tr)[j]? := fun j hj => World.ownsRow.cellAt h j (by omega)
  refine ⟨⟨(ha _ (by omega)).trans a, (ha _ (by omega)).trans b, (ha _ (by omega)).trans c⟩, fun j => ?_⟩
  rcases h.2 with ⟨h0, _⟩ | ⟨g', cap', cur, hv, hg, hh, _⟩
  · cases h0
  · injection hv with hv1 _ hv3
    injection hv1 with hv1
    injection hv1 with hv1
    subst hv1
    exact Row.free (hh : Row w g _ cur) j

theorem Only.put {w w' : World} {may : Nat → Prop} (h : Only w w' may) {b : Nat} (hm : may b) (i : Nat) (u : Value) : Only w (w'.setCell ⟨b, i, none⟩ u) may := by
  have hb : Below 0 w' (w'.setCell ⟨b, i, none⟩ u) := (Below.refl 0 w').setCell (Nat.zero_le _) u
  exact ⟨hb.os.trans h.os, hb.tape.trans h.tape, hb.output.trans h.output, by have := h.size; have := hb.size; omega, fun k hk hn => (Below.heap_setCell w' ⟨b, i, none⟩ u k (fun e => hn (by rw [e]; exact hm))).trans (h.block k hk hn)⟩

/-- The marks of the segment at 'j'. -/
def markAt (k j : Nat) : Seg := ⟨mt (k + 3 * j), (k + 3 * j + 1 : Nat), (k + 3 * j + 2 : Nat)⟩
/-- The first 'i' are marked. -/
def marked (l : List Seg) (k : Nat) : Nat → List Seg
  | 0 => l
  | i + 1 => (marked l k i).set i (markAt k i)
theorem marked_len (l : List Seg) (k : Nat) : ∀ i, (marked l k i).length = l.length
  | 0 => rfl
  | i + 1 => by
    show ((marked l k i).set i _).length = _
    rw [List.length_set, marked_len l k i]
theorem marked_at (l : List Seg) (k : Nat) : ∀ i j, j < i → i ≤ l.length → (marked l k i)[j]? = some (markAt k j)
  | 0, _, h, _ => absurd h (by omega)
  | i + 1, j, h, hi => by
    show ((marked l k i).set i _)[j]? = _
    by_cases hj : j = i
    · subst hj
      rw [List.getElem?_set_self (by rw [marked_len]; omega)]
    · rw [List.getElem?_set_ne (by omega)]
      exact marked_at l k i j (by omega) (by omega)

set_option maxRecDepth 100000 in
set_option maxHeartbeats 2000000 in
theorem markSegmentS_any (B k : Nat) (v : Value) (l : List Seg) (w : World) (hown : OwnTree w B v l) (hk : k = 1) (hl : l.length ≤ 1000) :
    Calls Try.prog 50 #[v, .int .i64 k] w fun e w' => e = .returned (.int .i64 ((k + 3 * l.length : Nat) : Int)) ∧ OwnTree w' B v (marked l k l.length) ∧ Only w w' (fun b => v.ownBlock = some b) := by
  have h0k : 0 < k := by omega
  have hk9 : k ≤ 10 := by omega
  clear hk
  obtain ⟨A, cap, rfl, -⟩ := hown.form
  have HO := Lib.hid hown
  clear hown
  go_enter Try.func50, Try.ntmps50
  go_wp2
  go_loopw [1, 5] (fun a c wr => ∃ (i : Nat), i ≤ l.length ∧ c = .int .i64 i ∧ a = .int .i64 ((k + 3 * i : Nat) : Int) ∧ Hid (OwnTree wr B (.slice A l.length cap) (marked l k i)) ∧ Hid (Only w wr (fun b => (Value.slice A l.length cap).ownBlock = some b)))
    (fun _ c _ => l.length - (intOf c).toNat)
  case atStart => exact ⟨0, Nat.zero_le _, rfl, rfl, HO, Only.refl _ _⟩
  case round =>
    obtain ⟨i, hi, rfl, rfl, HT, HY⟩ := hrel
    by_cases hlt : i < l.length
    · have hlt' : (i : Int) < (l.length : Int) := by omega
      have hi0 : (0 : Int) ≤ (i : Int) := Int.natCast_nonneg _
      have hml := marked_len l k i
      have hT := HT.out
      rw [← hml] at hT
      obtain ⟨g, cap', hv, hg, hglt⟩ := World.ownsRow.form hT (by omega)
      injection hv with hA _ hc
      subst hA hc
      have hold : (marked l k i)[i]? = some ((marked l k i)[i]'(by omega)) := List.getElem?_eq_getElem (by omega)
      have hst := fun W (hW : OwnTree W B (.slice (some ⟨g, 0, none⟩) (marked l k i).length cap) (marked l k i)) => hW.store (i := i) (by omega) (markAt k i)
      generalize (marked l k i)[i]'_ = old at *
      have HST := Lib.hid hst
      have HT' := Lib.hid hT
      have HOLD := Lib.hid hold
      have HML := Lib.hid hml
      clear hT hst hold hml
      go_wp2_with fail
      refine (markText_any (k + 3 * i) _ (by omega) (by omega)).mono ?_
      rintro e w1 ⟨rfl, hb1⟩
      have hT1 : OwnTree w1 B (.slice (some ⟨g, 0, none⟩) (marked l k i).length cap) (marked l k i) := HT'.out.far (fun q hq => hb1.block q (World.ownsRow.lt HT'.out q hq).2)
      obtain ⟨⟨d0, d1, d2⟩, z⟩ := hT1.cells HOLD.out
      have z0 := z (i * 3)
      have z1 := z (i * 3 + 1)
      have z2 := z (i * 3 + 2)
      have hT2 := HST.out w1 hT1
      rw [HML.out] at hT2
      have HT2 : Hid (OwnTree (((w1.setCell ⟨g, i * 3, none⟩ (.string (mt (k + 3 * i)))).setCell ⟨g, i * 3 + 1, none⟩ (.int .i64 ((k + 3 * i + 1 : Nat) : Int))).setCell ⟨g, i * 3 + 2, none⟩ (.int .i64 ((k + 3 * i + 2 : Nat) : Int))) B (.slice (some ⟨g, 0, none⟩) l.length cap) (marked l k (i + 1))) := hT2
      have HY1 : Hid (Only w w1 (fun b => (Value.slice (some ⟨g, 0, none⟩) l.length cap).ownBlock = some b)) := HY.out.andBelow hb1
      clear z hT1 hT2 hb1 HT HY
      have q1 : ((k + 3 * i + 1 : Nat) : Int) = (k : Int) + 3 * (i : Int) + 1 := by omega
      have q2 : ((k + 3 * i + 2 : Nat) : Int) = (k : Int) + 3 * (i : Int) + 1 + 1 := by omega
      rw [q1, q2] at HT2
      clear q1 q2
      generalize mt (k + 3 * i) = mm at *
      go_wp2
      go_roundw
      case rel => exact ⟨i + 1, by omega, by go_num, congrArg (Value.int .i64) (by omega), HT2, ((HY1.out.put rfl _ _).put rfl _ _).put rfl _ _⟩
      case measure => simp [intOf]; omega
    · obtain rfl : i = l.length := by omega
      go_wp2
      go_ret
      exact ⟨rfl, HT.out, HY.out⟩

set_option maxRecDepth 100000 in
set_option maxHeartbeats 2000000 in
theorem heldSegmentS_any (k : Nat) (A : Option Addr) (cap : Nat) (l : List Seg) (w : World) (hw : Segs w w.heap.size A l) (hm : ∀ j, j < l.length → l[j]? = some (markAt k j)) (hk : k = 1) (hl : l.length ≤ 1000) :
    Calls Try.prog 51 #[.slice A l.length cap, .int .i64 k] w fun e w' => e = .returned (.int .i64 ((k + 3 * l.length : Nat) : Int)) ∧ Below w.heap.size w w' := by
  have h0k : 0 < k := by omega
  have hk9 : k ≤ 10 := by omega
  clear hk
  have HW : Hid (Segs w w.heap.size A l) := hw
  have HM := Lib.hid hm
  clear hw hm
  go_enter Try.func51, Try.ntmps51
  go_wp2
  go_loopw [1, 5] (fun a c wr => ∃ (i : Nat), i ≤ l.length ∧ c = .int .i64 i ∧ a = .int .i64 ((k + 3 * i : Nat) : Int) ∧ Below w.heap.size w wr)
    (fun _ c _ => l.length - (intOf c).toNat)
  case atStart => exact ⟨0, Nat.zero_le _, rfl, rfl, Below.refl _ _⟩
  case round =>
    obtain ⟨i, hi, rfl, rfl, hb⟩ := hrel
    by_cases hlt : i < l.length
    · have hlt' : (i : Int) < (l.length : Int) := by omega
      have hi0 : (0 : Int) ≤ (i : Int) := Int.natCast_nonneg _
      obtain ⟨b, o, rfl, hB, hc⟩ := HW.out (by omega)
      obtain ⟨c0, c1, c2⟩ := hc i _ (HM.out i hlt)
      clear hc
      rw [← hb.cell hB] at c0 c1 c2
      have e0 : wr.cell? ⟨b, o + i * 3, none⟩ = some (.string (mt (k + 3 * i))) := c0
      have e1 : wr.cell? ⟨b, o + i * 3 + 1, none⟩ = some (.int .i64 ((k + 3 * i + 1 : Nat) : Int)) := c1
      have e2 : wr.cell? ⟨b, o + i * 3 + 2, none⟩ = some (.int .i64 ((k + 3 * i + 2 : Nat) : Int)) := c2
      have q1 : ((k + 3 * i + 1 : Nat) : Int) = (k : Int) + 3 * (i : Int) + 1 := by omega
      have q2 : ((k + 3 * i + 2 : Nat) : Int) = (k : Int) + 3 * (i : Int) + 1 + 1 := by omega
      rw [q1] at e1
      rw [q2] at e2
      clear c0 c1 c2 q1 q2
      have HMT := Lib.hid (fun W => markText_any (k + 3 * i) W (by omega) (by omega))
      generalize mt (k + 3 * i) = mm at *
      go_wp2_with fail
      refine wp_region_held_drew (S := (fun w' => w'.cell? ⟨b, o + i * 3, none⟩ = some (.string mm) ∧ Below w.heap.size w w' ∧ Below wr.heap.size wr w')) (by kernel_rfl) ?_ (fun hHeld => ?_)
      · exact ⟨e0, hb.drew, (Below.refl _ _).drew⟩
      refine take_at (i := 0) (d := 12) (v := .slice (some ⟨b, o, none⟩) l.length cap) rfl rfl (by kernel_rfl) (by kernel_rfl) (by kernel_rfl) (fun _ _ _ h => h) (by kernel_rfl) (by (intro w hSw; (try dsimp only at hSw); go_simp)) (by assumption) ?_
      simp only [List.setIfInBounds_toArray, List.set_cons_succ, List.set_cons_zero]
      refine take_at (i := 1) (d := 13) (v := .int .i64 i) rfl rfl (by kernel_rfl) (by kernel_rfl) (by kernel_rfl) (fun _ _ _ h => h) (by kernel_rfl) (by (intro w hSw; (try dsimp only at hSw); go_simp)) (by assumption) ?_
      simp only [List.setIfInBounds_toArray, List.set_cons_succ, List.set_cons_zero]
      refine take_at (i := 2) (d := 14) (v := .pointer (some ⟨b, o + i * 3, none⟩)) rfl rfl (by kernel_rfl) (by kernel_rfl) (by kernel_rfl) (fun _ _ _ h => h) (by kernel_rfl) (by (intro w hSw; (try dsimp only at hSw); go_simp)) (by assumption) ?_
      simp only [List.setIfInBounds_toArray, List.set_cons_succ, List.set_cons_zero]
      refine take_at (i := 3) (d := 15) (v := .pointer (some ⟨b, o + i * 3, none⟩)) rfl rfl (by kernel_rfl) (by kernel_rfl) (by kernel_rfl) (fun _ _ _ h => h) (by kernel_rfl) (by (intro w hSw; (try dsimp only at hSw); go_simp)) (by assumption) ?_
      simp only [List.setIfInBounds_toArray, List.set_cons_succ, List.set_cons_zero]
      refine take_at (i := 4) (d := 16) (v := .string mm) rfl rfl (by kernel_rfl) (by kernel_rfl) (by kernel_rfl) (fun _ _ _ h => h) (by kernel_rfl) (by (intro w hSw; (try dsimp only at hSw); go_simp)) (by assumption) ?_
      simp only [List.setIfInBounds_toArray, List.set_cons_succ, List.set_cons_zero]
      refine take_at (i := 5) (d := 17) (v := .int .i64 ((k + 3 * i : Nat) : Int)) rfl rfl (by kernel_rfl) (by kernel_rfl) (by kernel_rfl) (fun _ _ _ h => h) (by kernel_rfl) (by (intro w hSw; (try dsimp only at hSw); go_simp)) (by assumption) ?_
      simp only [List.setIfInBounds_toArray, List.set_cons_succ, List.set_cons_zero]
      refine wpAnyH_ready (rs := [6]) (by kernel_rfl) (by simp) ?_
      refine AllReadyH.cons rfl (fun K hK => ?_) AllReadyH.nil
      go_simp
      refine (HMT.out _).mono ?_
      rintro e w2 ⟨rfl, hb2⟩
      have hs2 : w2.cell? ⟨b, o + i * 3, none⟩ = some (.string mm) ∧ Below w.heap.size w w2 ∧ Below wr.heap.size wr w2 := ⟨(hb2.cell (p := ⟨b, o + i * 3, none⟩) (Nat.lt_of_lt_of_le hB hHeld.2.1.size)).trans hHeld.1, hHeld.2.1.trans (hb2.mono hHeld.2.1.size), hHeld.2.2.trans (hb2.mono hHeld.2.2.size)⟩
      clear hb2 hHeld
      refine hK.out _ _ hs2 (fun hHeld => ?_)
      clear hK K hs2
      refine take_at (i := 7) (d := 19) (v := .bool false) rfl rfl (by kernel_rfl) (by kernel_rfl) (by kernel_rfl) (fun _ _ _ h => h) (by kernel_rfl) (by (intro w hSw; (try dsimp only at hSw); go_simp)) (by assumption) ?_
      simp only [List.setIfInBounds_toArray, List.set_cons_succ, List.set_cons_zero]
      refine wpAnyH_done (by kernel_rfl) ?_ _
      have hb3 := hHeld.2.1
      have hB3 : b < wr.heap.size := Nat.lt_of_lt_of_le hB hb.size
      have f1 : w2.cell? ⟨b, o + i * 3 + 1, none⟩ = some (.int .i64 ((k : Int) + 3 * (i : Int) + 1)) := (hHeld.2.2.cell (p := ⟨b, o + i * 3 + 1, none⟩) hB3).trans e1
      have f2 : w2.cell? ⟨b, o + i * 3 + 2, none⟩ = some (.int .i64 ((k : Int) + 3 * (i : Int) + 1 + 1)) := (hHeld.2.2.cell (p := ⟨b, o + i * 3 + 2, none⟩) hB3).trans e2
      clear hHeld e0 e1 e2 hb
      go_wp2
      go_roundw
      case rel => exact ⟨i + 1, by omega, by go_num, congrArg (Value.int .i64) (by omega), hb3⟩
      case measure => simp [intOf]; omega
    · obtain rfl : i = l.length := by omega
      go_wp2
      go_ret
      exact ⟨rfl, hb⟩

end Go.Proofs.Ytfdcmlmemcbblaa
