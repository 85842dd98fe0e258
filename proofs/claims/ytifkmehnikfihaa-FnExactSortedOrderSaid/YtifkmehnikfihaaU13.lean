/- Joined: Tx Fp Fq Fr Fs. -/
import Derived.Test.YtifkmehnikfihaaU01
import Derived.Test.YtifkmehnikfihaaU12
import Derived.BigQuiet
import Derived.Maps.AppendAt
import Derived.Deep.AppendLies
import Derived.WalkLawsBesides
/- A row of texts of the call's own; marks in segments and in texts: what a law writes into what it was given, and whether it is held. -/
namespace Go.Proofs.Ytifkmehnikfihaa
open Go.RowKit

/-- Texts in a row of the call's own. -/
def OwnTexts (w : World) (B : Nat) (v : Value) (ts : List ByteArray) : Prop := w.ownsRow B 9 1 v ts.length (ts.map Value.string)
theorem OwnTexts.far {w w' : World} {B : Nat} {v : Value} {ts : List ByteArray} (h : OwnTexts w B v ts) (hk : ∀ g, v.ownBlock = some g → w'.heap[g]? = w.heap[g]?) : OwnTexts w' B v ts := by
  refine ⟨h.1, ?_⟩
  rcases h.2 with h0 | ⟨g', cap, cur, rfl, hg, hh, r⟩
  · exact .inl h0
  · exact .inr ⟨g', cap, cur, rfl, hg, (hk g' rfl).trans hh, r⟩
theorem OwnTexts.below {w w' : World} {B : Nat} {v : Value} {ts : List ByteArray} (h : OwnTexts w B v ts) (hb : Below w.heap.size w w') : OwnTexts w' B v ts := h.far fun g hg => hb.block g (World.ownsRow.lt h g hg).2
theorem info_str : (Try.prog.info? 9).map (fun i => (i.zero, i.size, i.bytes)) = some (some (.string ByteArray.empty), 1, 16) := by kernel_rfl

theorem OwnTexts.empty (w : World) {B : Nat} (hB : B ≤ w.heap.size) : OwnTexts (w.alloc (.cells #[] 9)) B (.slice (some ⟨w.heap.size, 0, none⟩) 0 0) [] :=
  World.ownsRow_lit w #[] 0 hB (by simp [maxLen]) rfl
theorem OwnTexts.one (w : World) {B : Nat} (hB : B ≤ w.heap.size) (s : ByteArray) : OwnTexts (w.alloc (.cells #[.string s] 9)) B (.slice (some ⟨w.heap.size, 0, none⟩) 1 1) [s] :=
  World.ownsRow_lit w #[.string s] 1 hB (by simp [maxLen]) rfl
theorem OwnTexts.form {w : World} {B : Nat} {v : Value} {ts : List ByteArray} (h : OwnTexts w B v ts) (hn : 0 < ts.length) : ∃ g cap, v = .slice (some ⟨g, 0, none⟩) ts.length cap := own_form h hn

end Go.Proofs.Ytifkmehnikfihaa
namespace Go.Proofs.Ytifkmehnikfihaa.St
open Go.RowKit

def digC (m : Nat) : UInt8 := UInt8.ofNat (48 + m % 10)
theorem digC_nat (m : Nat) : (digC m).toNat = 48 + m % 10 := by
  unfold digC
  rw [UInt8.toNat_ofNat']
  omega
/-- The decimal digits of a number, ahead of a text. -/
def mtl (k : Nat) (out : ByteArray) : ByteArray := if _h : k = 0 then out else mtl (k / 10) (⟨#[digC k]⟩ ++ out)
termination_by k
decreasing_by omega
theorem mtl_zero (out : ByteArray) : mtl 0 out = out := by
  rw [mtl]
  exact dif_pos rfl
theorem mtl_step {k : Nat} (h : 0 < k) (out : ByteArray) : mtl k out = mtl (k / 10) (⟨#[digC k]⟩ ++ out) := by
  conv => lhs; rw [mtl]
  exact dif_neg (by omega)
def mt (k : Nat) : ByteArray := ⟨#[109]⟩ ++ mtl k ⟨#[]⟩

set_option maxRecDepth 100000 in
set_option maxHeartbeats 1000000 in
theorem markText_any (k : Nat) (w : World) (h0 : 0 < k) (hk : k ≤ 10000000) :
    Calls Try.prog 29 #[.int .i64 k] w fun e w' => e = .returned (.string (mt k)) ∧ Below w.heap.size w w' := by
  have HM : Hid (mt k = ⟨#[109]⟩ ++ mtl k ⟨#[]⟩) := rfl
  have h0' : ¬ (k : Int) ≤ 0 := by omega
  go_enter Try.func29, Try.ntmps29
  go_wp2
  go_loopw [0, 3] (fun v o wr => ∃ (m : Nat) (s : ByteArray), v = .int .i64 m ∧ o = .string s ∧ s.size + m ≤ 10000000 ∧ Hid (mtl k ⟨#[]⟩ = mtl m s) ∧ Below w.heap.size w wr)
    (fun v _ _ => (intOf v).toNat)
  case atStart => exact ⟨k, ⟨#[]⟩, rfl, rfl, (by have h : (⟨#[]⟩ : ByteArray).size = 0 := rfl; omega), rfl, Below.refl _ _⟩
  case round =>
    obtain ⟨m, s, rfl, rfl, hs, HK, hb⟩ := hrel
    have hm0 : (0 : Int) ≤ (m : Int) := Int.natCast_nonneg _
    by_cases hm : 0 < m
    · have hm' : (0 : Int) < (m : Int) := by omega
      have HS := Lib.hid (HK.out.trans (mtl_step hm s))
      have hcv : (convert 54 9 (.slice (some ⟨wr.heap.size, 0, none⟩) 1 1)).run Try.prog (wr.alloc (.cells #[.int .u8 (48 + (m : Int) % 10)] 5)) = .ok (.string ⟨#[digC m]⟩) (wr.alloc (.cells #[.int .u8 (48 + (m : Int) % 10)] 5)) :=
        run_convert_bytes_back (P := Try.prog) _ 54 9 5 ⟨wr.heap.size, 0, none⟩ 1 [digC m] Try.underlying54 Try.underlying5 Try.underlying9 (fun j hj => by
          have : j = 0 := by simp at hj; omega
          subst this
          have h := (Row.new wr 5 #[.int .u8 (48 + (m : Int) % 10)]).cell 0
          have e : (48 + (m : Int) % 10) = ((digC m).toNat : Int) := by rw [digC_nat]; omega
          rw [e] at h ⊢
          exact h)
      have hsz : (⟨#[digC m]⟩ ++ s : ByteArray).size + m / 10 ≤ 10000000 := by
        have h1 : (⟨#[digC m]⟩ ++ s : ByteArray).size = 1 + s.size := by rw [ByteArray.size_append]; rfl
        omega
      go_wp2
      go_roundw
      case rel => exact ⟨m / 10, ⟨#[digC m]⟩ ++ s, congrArg (Value.int .i64) (by omega), rfl, hsz, HS, hb.alloc hb.size _⟩
      case measure => simp [intOf]; omega
    · obtain rfl : m = 0 := by omega
      have HZ := Lib.hid (HK.out.trans (mtl_zero s))
      go_wp2
      go_ret
      exact ⟨by rw [HM.out, HZ.out]; rfl, hb⟩


theorem onlyRefl (w : World) (may : Nat → Prop) : Only w w may := ⟨rfl, rfl, rfl, Nat.le_refl _, fun _ _ _ => rfl⟩
theorem onlyBelow {w w1 w2 : World} {may : Nat → Prop} (h : Only w w1 may) (hb : Below w1.heap.size w1 w2) : Only w w2 may :=
  ⟨hb.os.trans h.os, hb.tape.trans h.tape, hb.output.trans h.output, Nat.le_trans h.size hb.size, fun k hk hn => (hb.block k (Nat.lt_of_lt_of_le hk h.size)).trans (h.block k hk hn)⟩
theorem onlyPut {w w' : World} {may : Nat → Prop} (h : Only w w' may) {b : Nat} (hm : may b) (i : Nat) (u : Value) : Only w (w'.setCell ⟨b, i, none⟩ u) may := by
  have hb : Below 0 w' (w'.setCell ⟨b, i, none⟩ u) := (Below.refl 0 w').setCell (Nat.zero_le _) u
  exact ⟨hb.os.trans h.os, hb.tape.trans h.tape, hb.output.trans h.output, by have := h.size; have := hb.size; omega, fun k hk hn => (Below.heap_setCell w' ⟨b, i, none⟩ u k (fun e => hn (by rw [e]; exact hm))).trans (h.block k hk hn)⟩

/-- A slice of texts in memory below 'B'. -/
def Strs (w : World) (B : Nat) (A : Option Addr) (ts : List ByteArray) : Prop :=
  0 < ts.length → ∃ b o, A = some ⟨b, o, none⟩ ∧ b < B ∧ ∀ (k : Nat) (s : ByteArray), ts[k]? = some s → w.cell? ⟨b, o + k, none⟩ = some (.string s)
theorem Strs.below {w w' : World} {B : Nat} {A : Option Addr} {l : List ByteArray} (h : Strs w B A l) (hb : Below B w w') : Strs w' B A l := fun hl => by
  obtain ⟨b, o, e, hB, hc⟩ := h hl
  refine ⟨b, o, e, hB, fun k s hk => ?_⟩
  rw [hb.cell hB]
  exact hc k s hk
theorem Strs.more {w : World} {B B' : Nat} {A : Option Addr} {l : List ByteArray} (h : Strs w B A l) (hB : B ≤ B') : Strs w B' A l := fun hl => by
  obtain ⟨b, o, e, hb, hc⟩ := h hl
  exact ⟨b, o, e, Nat.lt_of_lt_of_le hb hB, hc⟩
theorem textsCell {w : World} {B g cap : Nat} {ts : List ByteArray} (h : OwnTexts w B (.slice (some ⟨g, 0, none⟩) ts.length cap) ts) {i : Nat} {s : ByteArray} (hi : ts[i]? = some s) : w.cell? ⟨g, i, none⟩ = some (.string s) := by
  have hlt := (List.getElem?_eq_some_iff.1 hi).1
  have := World.ownsRow.cellAt h i (by omega)
  rw [this, List.getElem?_map, hi]
  rfl
theorem textsForm {w : World} {B : Nat} {v : Value} {ts : List ByteArray} (h : OwnTexts w B v ts) : ∃ A cap, v = .slice A ts.length cap ∧ Strs w w.heap.size A ts := by
  have h' := h
  rcases h.2 with ⟨rfl, h0⟩ | ⟨g, cap, cur, rfl, hg, hh, r⟩
  · exact ⟨none, 0, by rw [h0], fun h => absurd h (by omega)⟩
  · refine ⟨_, cap, rfl, fun _ => ⟨g, 0, rfl, (Array.getElem?_eq_some_iff.1 hh).1, fun k s hk => ?_⟩⟩
    rw [Nat.zero_add]
    exact textsCell h' hk
theorem textsFree {w : World} {B g cap n : Nat} {ts : List ByteArray} (h : OwnTexts w B (.slice (some ⟨g, 0, none⟩) n cap) ts) (j : Nat) : w.frozen? ⟨g, j, none⟩ = false := by
  rcases h.2 with ⟨h0, _⟩ | ⟨g', cap', cur, hv, hg, hh, _⟩
  · cases h0
  · injection hv with hv1 _ hv3
    injection hv1 with hv1
    injection hv1 with hv1
    subst hv1
    exact Row.free (hh : Row w g _ cur) j
theorem textsStore {w : World} {B g cap : Nat} {ts : List ByteArray} (h : OwnTexts w B (.slice (some ⟨g, 0, none⟩) ts.length cap) ts) (i : Nat) (s : ByteArray) :
    OwnTexts (w.setCell ⟨g, i, none⟩ (.string s)) B (.slice (some ⟨g, 0, none⟩) ts.length cap) (ts.set i s) := by
  unfold OwnTexts at h ⊢
  rw [List.length_set]
  refine ⟨by simp, ?_⟩
  rcases h.2 with ⟨h0, _⟩ | ⟨g', cap', cur, hv, hg, hh, h1, h2, h3, h4⟩
  · cases h0
  · injection hv with hv1 _ hv3
    injection hv1 with hv1
    injection hv1 with hv1
    subst hv1 hv3
    have hr : Row w g 9 cur := hh
    refine .inr ⟨g, cap, _, rfl, hg, hr.put i _, h1, h2, by simpa using h3, ?_⟩
    rw [List.map_set, ← h4]
    simp only [Array.toList_setIfInBounds, List.take_set]
theorem textsFar {w w' : World} {B : Nat} {v : Value} {ts : List ByteArray} {may : Nat → Prop} (h : OwnTexts w B v ts) (ho : Only w w' may) (hm : ∀ g, v.ownBlock = some g → ¬ may g) : OwnTexts w' B v ts :=
  h.far fun g hg => ho.block g (World.ownsRow.lt h g hg).2 (hm g hg)

/-- The first 'i' are marked. -/
def smarked (ts : List ByteArray) (k : Nat) : Nat → List ByteArray
  | 0 => ts
  | i + 1 => (smarked ts k i).set i (mt (k + i))
theorem smarked_len (l : List ByteArray) (k : Nat) : ∀ i, (smarked l k i).length = l.length
  | 0 => rfl
  | i + 1 => by
    show ((smarked l k i).set i _).length = _
    rw [List.length_set, smarked_len l k i]
theorem smarked_at (l : List ByteArray) (k : Nat) : ∀ i j, j < i → i ≤ l.length → (smarked l k i)[j]? = some (mt (k + j))
  | 0, _, h, _ => absurd h (by omega)
  | i + 1, j, h, hi => by
    show ((smarked l k i).set i _)[j]? = _
    by_cases hj : j = i
    · subst hj
      rw [List.getElem?_set_self (by rw [smarked_len]; omega)]
    · rw [List.getElem?_set_ne (by omega)]
      exact smarked_at l k i j (by omega) (by omega)

set_option maxRecDepth 100000 in
set_option maxHeartbeats 1000000 in
theorem eqStringS_same (A A' : Option Addr) (l : List ByteArray) (c c' : Nat) (w : World) (hw : Strs w w.heap.size A l) (hw' : Strs w w.heap.size A' l) (hl : l.length ≤ 1048576) :
    Calls Try.prog 10 #[.slice A l.length c, .slice A' l.length c'] w fun e w' => e = .returned (.bool true) ∧ Below w.heap.size w w' := by
  have HW : Hid (Strs w w.heap.size A l) := hw
  have HW' : Hid (Strs w w.heap.size A' l) := hw'
  clear hw hw'
  go_enter Try.func10, Try.ntmps10
  go_wp2
  go_loopw [5] (fun i wr => ∃ (k : Nat), k ≤ l.length ∧ i = .int .i64 k ∧ Below w.heap.size w wr)
    (fun i _ => l.length - (intOf i).toNat)
  case atStart => exact ⟨0, Nat.zero_le _, rfl, Below.refl _ _⟩
  case round =>
    obtain ⟨k, hk, rfl, hb⟩ := hrel
    by_cases hlt : k < l.length
    · have hlt' : (k : Int) < (l.length : Int) := by omega
      have hk0 : (0 : Int) ≤ (k : Int) := Int.natCast_nonneg _
      obtain ⟨b, o, rfl, hB, hc⟩ := HW.out (by omega)
      obtain ⟨b', o', rfl, hB', hc'⟩ := HW'.out (by omega)
      have c0 := hc k l[k] (List.getElem?_eq_getElem hlt)
      have d0 := hc' k l[k] (List.getElem?_eq_getElem hlt)
      clear hc hc'
      rw [← hb.cell hB] at c0
      rw [← hb.cell hB'] at d0
      generalize l[k] = s at *
      have HB2 := Lib.hid hb.drew
      go_wp2
      go_quiet (fail)
      go_wp2
      go_roundw
      case rel => exact ⟨k + 1, by omega, by go_num, below_drewN hb _⟩
      case measure => simp [intOf]; omega
    · go_wp2
      go_ret
      exact ⟨rfl, hb⟩

set_option maxRecDepth 100000 in
set_option maxHeartbeats 1000000 in
theorem markStringS_any (B k : Nat) (v : Value) (l : List ByteArray) (w : World) (hown : OwnTexts w B v l) (hk : k = 1) (hl : l.length ≤ 1000) :
    Calls Try.prog 13 #[v, .int .i64 k] w fun e w' => e = .returned (.int .i64 ((k + l.length : Nat) : Int)) ∧ OwnTexts w' B v (smarked l k l.length) ∧ Only w w' (fun b => v.ownBlock = some b) := by
  have h0k : 0 < k := by omega
  have hk9 : k ≤ 10 := by omega
  clear hk
  obtain ⟨A, cap, rfl, -⟩ := textsForm hown
  have HO := Lib.hid hown
  clear hown
  go_enter Try.func13, Try.ntmps13
  go_wp2
  go_loopw [1, 5] (fun a c wr => ∃ (i : Nat), i ≤ l.length ∧ c = .int .i64 i ∧ a = .int .i64 ((k + i : Nat) : Int) ∧ Hid (OwnTexts wr B (.slice A l.length cap) (smarked l k i)) ∧ Hid (Only w wr (fun b => (Value.slice A l.length cap).ownBlock = some b)))
    (fun _ c _ => l.length - (intOf c).toNat)
  case atStart => exact ⟨0, Nat.zero_le _, rfl, rfl, HO, onlyRefl _ _⟩
  case round =>
    obtain ⟨i, hi, rfl, rfl, HT, HY⟩ := hrel
    by_cases hlt : i < l.length
    · have hlt' : (i : Int) < (l.length : Int) := by omega
      have hi0 : (0 : Int) ≤ (i : Int) := Int.natCast_nonneg _
      have hml := smarked_len l k i
      have hT := HT.out
      rw [← hml] at hT
      obtain ⟨g, cap', hv⟩ := hT.form (by omega)
      injection hv with hA _ hc
      subst hA hc
      have hold : (smarked l k i)[i]? = some ((smarked l k i)[i]'(by omega)) := List.getElem?_eq_getElem (by omega)
      have hst := fun W (hW : OwnTexts W B (.slice (some ⟨g, 0, none⟩) (smarked l k i).length cap) (smarked l k i)) => textsStore hW i (mt (k + i))
      generalize (smarked l k i)[i]'_ = old at *
      have HST := Lib.hid hst
      have HT' := Lib.hid hT
      have HOLD := Lib.hid hold
      have HML := Lib.hid hml
      clear hT hst hold hml
      go_wp2_with fail
      refine (markText_any (k + i) _ (by omega) (by omega)).mono ?_
      rintro e w1 ⟨rfl, hb1⟩
      have hT1 : OwnTexts w1 B (.slice (some ⟨g, 0, none⟩) (smarked l k i).length cap) (smarked l k i) := HT'.out.far (fun q hq => hb1.block q (World.ownsRow.lt HT'.out q hq).2)
      have d0 := textsCell hT1 HOLD.out
      have z0 := textsFree hT1 i
      have hT2 := HST.out w1 hT1
      rw [HML.out] at hT2
      have HT2 : Hid (OwnTexts (w1.setCell ⟨g, i, none⟩ (.string (mt (k + i)))) B (.slice (some ⟨g, 0, none⟩) l.length cap) (smarked l k (i + 1))) := hT2
      have HY1 : Hid (Only w w1 (fun b => (Value.slice (some ⟨g, 0, none⟩) l.length cap).ownBlock = some b)) := onlyBelow HY.out hb1
      clear hT1 hT2 hb1 HT HY
      generalize mt (k + i) = mm at *
      go_wp2
      go_roundw
      case rel => exact ⟨i + 1, by omega, by go_num, congrArg (Value.int .i64) (by omega), HT2, onlyPut HY1 rfl _ _⟩
      case measure => simp [intOf]; omega
    · obtain rfl : i = l.length := by omega
      go_wp2
      go_ret
      exact ⟨rfl, HT.out, HY.out⟩

set_option maxRecDepth 100000 in
set_option maxHeartbeats 2000000 in
theorem heldStringS_any (k : Nat) (A : Option Addr) (cap : Nat) (l : List ByteArray) (w : World) (hw : Strs w w.heap.size A l) (hm : ∀ j, j < l.length → l[j]? = some (mt (k + j))) (hk : k = 1) (hl : l.length ≤ 1000) :
    Calls Try.prog 14 #[.slice A l.length cap, .int .i64 k] w fun e w' => e = .returned (.int .i64 ((k + l.length : Nat) : Int)) ∧ Below w.heap.size w w' := by
  have h0k : 0 < k := by omega
  have hk9 : k ≤ 10 := by omega
  clear hk
  have HW : Hid (Strs w w.heap.size A l) := hw
  have HM := Lib.hid hm
  clear hw hm
  go_enter Try.func14, Try.ntmps14
  go_wp2
  go_loopw [1, 5] (fun a c wr => ∃ (i : Nat), i ≤ l.length ∧ c = .int .i64 i ∧ a = .int .i64 ((k + i : Nat) : Int) ∧ Below w.heap.size w wr)
    (fun _ c _ => l.length - (intOf c).toNat)
  case atStart => exact ⟨0, Nat.zero_le _, rfl, rfl, Below.refl _ _⟩
  case round =>
    obtain ⟨i, hi, rfl, rfl, hb⟩ := hrel
    by_cases hlt : i < l.length
    · have hlt' : (i : Int) < (l.length : Int) := by omega
      have hi0 : (0 : Int) ≤ (i : Int) := Int.natCast_nonneg _
      obtain ⟨b, o, rfl, hB, hc⟩ := HW.out (by omega)
      have c0 := hc i _ (HM.out i hlt)
      clear hc
      rw [← hb.cell hB] at c0
      have HMT := Lib.hid (fun W => markText_any (k + i) W (by omega) (by omega))
      generalize mt (k + i) = mm at *
      go_wp2_with fail
      refine wp_region_held_drew (S := (fun w' => w'.cell? ⟨b, o + i, none⟩ = some (.string mm) ∧ Below w.heap.size w w' ∧ Below wr.heap.size wr w')) (by kernel_rfl) ?_ (fun hHeld => ?_)
      · exact ⟨c0, hb.drew, (Below.refl _ _).drew⟩
      refine take_at (i := 0) (d := 12) (v := .slice (some ⟨b, o, none⟩) l.length cap) rfl rfl (by kernel_rfl) (by kernel_rfl) (by kernel_rfl) (fun _ _ _ h => h) (by kernel_rfl) (by (intro w hSw; (try dsimp only at hSw); go_simp)) (by assumption) ?_
      simp only [List.setIfInBounds_toArray, List.set_cons_succ, List.set_cons_zero]
      refine take_at (i := 1) (d := 13) (v := .int .i64 i) rfl rfl (by kernel_rfl) (by kernel_rfl) (by kernel_rfl) (fun _ _ _ h => h) (by kernel_rfl) (by (intro w hSw; (try dsimp only at hSw); go_simp)) (by assumption) ?_
      simp only [List.setIfInBounds_toArray, List.set_cons_succ, List.set_cons_zero]
      refine take_at (i := 2) (d := 14) (v := .pointer (some ⟨b, o + i, none⟩)) rfl rfl (by kernel_rfl) (by kernel_rfl) (by kernel_rfl) (fun _ _ _ h => h) (by kernel_rfl) (by (intro w hSw; (try dsimp only at hSw); go_simp)) (by assumption) ?_
      simp only [List.setIfInBounds_toArray, List.set_cons_succ, List.set_cons_zero]
      refine take_at (i := 3) (d := 15) (v := .string mm) rfl rfl (by kernel_rfl) (by kernel_rfl) (by kernel_rfl) (fun _ _ _ h => h) (by kernel_rfl) (by (intro w hSw; (try dsimp only at hSw); go_simp)) (by assumption) ?_
      simp only [List.setIfInBounds_toArray, List.set_cons_succ, List.set_cons_zero]
      refine take_at (i := 4) (d := 16) (v := .int .i64 ((k + i : Nat) : Int)) rfl rfl (by kernel_rfl) (by kernel_rfl) (by kernel_rfl) (fun _ _ _ h => h) (by kernel_rfl) (by (intro w hSw; (try dsimp only at hSw); go_simp)) (by assumption) ?_
      simp only [List.setIfInBounds_toArray, List.set_cons_succ, List.set_cons_zero]
      refine wpAnyH_ready (rs := [5]) (by kernel_rfl) (by simp) ?_
      refine AllReadyH.cons rfl (fun K hK => ?_) AllReadyH.nil
      go_simp
      refine (HMT.out _).mono ?_
      rintro e w2 ⟨rfl, hb2⟩
      have hs2 : w2.cell? ⟨b, o + i, none⟩ = some (.string mm) ∧ Below w.heap.size w w2 ∧ Below wr.heap.size wr w2 := ⟨(hb2.cell (p := ⟨b, o + i, none⟩) (Nat.lt_of_lt_of_le hB hHeld.2.1.size)).trans hHeld.1, hHeld.2.1.trans (hb2.mono hHeld.2.1.size), hHeld.2.2.trans (hb2.mono hHeld.2.2.size)⟩
      clear hb2 hHeld
      refine hK.out _ _ hs2 (fun hHeld => ?_)
      clear hK K hs2
      refine take_at (i := 6) (d := 18) (v := .bool false) rfl rfl (by kernel_rfl) (by kernel_rfl) (by kernel_rfl) (fun _ _ _ h => h) (by kernel_rfl) (by (intro w hSw; (try dsimp only at hSw); go_simp)) (by assumption) ?_
      simp only [List.setIfInBounds_toArray, List.set_cons_succ, List.set_cons_zero]
      refine wpAnyH_done (by kernel_rfl) ?_ _
      have hb3 := hHeld.2.1
      clear hHeld c0 hb
      go_wp2
      go_roundw
      case rel => exact ⟨i + 1, by omega, by go_num, congrArg (Value.int .i64) (by omega), hb3⟩
      case measure => simp [intOf]; omega
    · obtain rfl : i = l.length := by omega
      go_wp2
      go_ret
      exact ⟨rfl, hb⟩

set_option maxRecDepth 100000 in
set_option maxHeartbeats 2000000 in
theorem markSegmentS_only (k g n cap : Nat) (cs : Array Value) (w : World) (hr : Row w g 46 cs) (hc : cs.size = n * 3) (hk : k = 1) (hn : n ≤ 1048576) :
    Calls Try.prog 12 #[.slice (some ⟨g, 0, none⟩) n cap, .int .i64 k] w fun e w' => e = .returned (.int .i64 ((k + 3 * n : Nat) : Int)) ∧ Only w w' (· = g) := by
  have h0k : 0 < k := by omega
  have hk9 : k ≤ 10 := by omega
  clear hk
  have HR0 : Hid (Row w g 46 cs) := hr
  clear hr
  go_enter Try.func12, Try.ntmps12
  go_wp2
  go_loopw [1, 5] (fun a c wr => ∃ (i : Nat) (cs' : Array Value), i ≤ n ∧ c = .int .i64 i ∧ a = .int .i64 ((k + 3 * i : Nat) : Int) ∧ cs'.size = n * 3 ∧ Hid (Row wr g 46 cs') ∧ Hid (Only w wr (· = g)))
    (fun _ c _ => n - (intOf c).toNat)
  case atStart => exact ⟨0, cs, Nat.zero_le _, rfl, rfl, hc, HR0, onlyRefl _ _⟩
  case round =>
    obtain ⟨i, cs', hi, rfl, rfl, hz, HR, HY⟩ := hrel
    by_cases hlt : i < n
    · have hlt' : (i : Int) < (n : Int) := by omega
      have hi0 : (0 : Int) ≤ (i : Int) := Int.natCast_nonneg _
      go_wp2_with fail
      refine (markText_any (k + 3 * i) _ (by omega) (by omega)).mono ?_
      rintro e w1 ⟨rfl, hb1⟩
      have hr1 := HR.out.below hb1 HR.out.lt
      have z0 := hr1.free (i * 3)
      have z1 := hr1.free (i * 3 + 1)
      have z2 := hr1.free (i * 3 + 2)
      have d0 : w1.cell? ⟨g, i * 3, none⟩ = some (cs'[i * 3]'(by omega)) := by rw [hr1.cell, Array.getElem?_eq_getElem]
      have d1 : w1.cell? ⟨g, i * 3 + 1, none⟩ = some (cs'[i * 3 + 1]'(by omega)) := by rw [hr1.cell, Array.getElem?_eq_getElem]
      have d2 : w1.cell? ⟨g, i * 3 + 2, none⟩ = some (cs'[i * 3 + 2]'(by omega)) := by rw [hr1.cell, Array.getElem?_eq_getElem]
      have HR2 : Hid (∀ u0 u1 u2, Row (((w1.setCell ⟨g, i * 3, none⟩ u0).setCell ⟨g, i * 3 + 1, none⟩ u1).setCell ⟨g, i * 3 + 2, none⟩ u2) g 46 (((cs'.setIfInBounds (i * 3) u0).setIfInBounds (i * 3 + 1) u1).setIfInBounds (i * 3 + 2) u2)) := fun u0 u1 u2 => ((hr1.put _ _).put _ _).put _ _
      have HZ2 : Hid (∀ u0 u1 u2, (((cs'.setIfInBounds (i * 3) u0).setIfInBounds (i * 3 + 1) u1).setIfInBounds (i * 3 + 2) u2).size = n * 3) := fun u0 u1 u2 => by simpa using hz
      have HY1 : Hid (Only w w1 (· = g)) := onlyBelow HY.out hb1
      clear hr1 hb1 HR HY
      generalize cs'[i * 3]'_ = v0 at *
      generalize cs'[i * 3 + 1]'_ = v1 at *
      generalize cs'[i * 3 + 2]'_ = v2 at *
      generalize mt (k + 3 * i) = mm at *
      clear hz
      go_wp2
      go_roundw
      case rel => exact ⟨i + 1, _, by omega, by go_num, congrArg (Value.int .i64) (by omega), HZ2.out _ _ _, HR2.out _ _ _, onlyPut (onlyPut (onlyPut HY1.out rfl _ _) rfl _ _) rfl _ _⟩
      case measure => simp [intOf]; omega
    · obtain rfl : i = n := by omega
      go_wp2
      go_ret
      exact ⟨rfl, HY.out⟩

set_option maxHeartbeats 400000 in
theorem toSegmentS_row (A : Option Addr) (l : List Seg) (c : Nat) (w : World) (hw : Segs w w.heap.size A l) (hl : l.length ≤ 1048576) :
    Calls Try.prog 8 #[.slice A l.length c] w fun e w' => e = .returned (.slice (some ⟨w.heap.size, 0, none⟩) l.length l.length) ∧ Below w.heap.size w w' ∧ Segs w' w'.heap.size (some ⟨w.heap.size, 0, none⟩) l ∧ ∃ cs, Row w' w.heap.size 46 cs ∧ cs.size = l.length * 3 := by
  have HW : Hid (Segs w w.heap.size A l) := hw
  clear hw
  have hmk := run_make_segs l.length hl
  go_enter Try.func8, Try.ntmps8
  go_wp2
  go_loopw [4] (fun i wr => ∃ (k : Nat) (cs : Array Value), k ≤ l.length ∧ i = .int .i64 k ∧ Below w.heap.size w wr ∧ Row wr w.heap.size 46 cs ∧ Filled l k cs)
    (fun i _ => l.length - (intOf i).toNat)
  case atStart => exact ⟨0, _, Nat.zero_le _, rfl, (Below.refl _ _).alloc (Nat.le_refl _) _, Row.new _ _ _, Filled.start _ (size_madeCells _ _)⟩
  case round =>
    obtain ⟨k, cs, hk, rfl, hb, hrow, hf⟩ := hrel
    have hz : w.heap.size < wr.heap.size := hrow.lt
    by_cases hlt : k < l.length
    · obtain ⟨b, o, rfl, hB, hc⟩ := HW.out (by omega)
      obtain ⟨c0, c1, c2⟩ := hc k l[k] (List.getElem?_eq_getElem hlt)
      clear hc
      rw [← hb.cell hB] at c0 c1 c2
      have HN := Lib.hid (hf.next hlt)
      have HS := Lib.hid hf.1
      clear hf
      generalize l[k] = s at *
      go_wp2_with fail
      refine (toSegment_any s.name s.size s.par _).mono ?_
      rintro e w1 ⟨rfl, hb1⟩
      have hrow1 := hrow.below hb1 hz
      clear hrow
      have hb2 : Below w.heap.size w w1 := hb.trans (hb1.mono hb.size)
      have f0 := hrow1.free (k * 3)
      have f1 := hrow1.free (k * 3 + 1)
      have f2 := hrow1.free (k * 3 + 2)
      have d0 : w1.cell? ⟨w.heap.size, k * 3, none⟩ = some (cs[k * 3]'(by have := HS.out; omega)) := by rw [hrow1.cell, Array.getElem?_eq_getElem]
      have d1 : w1.cell? ⟨w.heap.size, k * 3 + 1, none⟩ = some (cs[k * 3 + 1]'(by have := HS.out; omega)) := by rw [hrow1.cell, Array.getElem?_eq_getElem]
      have d2 : w1.cell? ⟨w.heap.size, k * 3 + 2, none⟩ = some (cs[k * 3 + 2]'(by have := HS.out; omega)) := by rw [hrow1.cell, Array.getElem?_eq_getElem]
      have HR := Lib.hid hrow1
      clear hrow1
      generalize cs[k * 3]'_ = u0 at *
      generalize cs[k * 3 + 1]'_ = u1 at *
      generalize cs[k * 3 + 2]'_ = u2 at *
      go_wp2
      go_roundw
      case rel => exact ⟨k + 1, _, by omega, by go_num, ((hb2.setCell (Nat.le_refl _) _).setCell (Nat.le_refl _) _).setCell (Nat.le_refl _) _, ((HR.out.put _ _).put _ _).put _ _, HN.out⟩
      case measure => simp [intOf]; omega
    · obtain rfl : k = l.length := by omega
      have hd := hf.done hrow
      have HQ := Lib.hid hrow
      have HQ2 := Lib.hid hf.1
      clear hf hrow
      go_wp2
      go_ret
      exact ⟨rfl, hb, hd, _, HQ.out, HQ2.out⟩

end Go.Proofs.Ytifkmehnikfihaa.St

namespace Go.Proofs.Ytifkmehnikfihaa
open Go.RowKit

theorem smark1 (B : Nat) (v : Value) (l : List ByteArray) (w : World) (hown : OwnTexts w B v l) (hl : l.length ≤ 1000) :
    Calls Try.prog 13 #[v, .int .i64 1] w fun e w' => e = .returned (.int .i64 ((1 + l.length : Nat) : Int)) ∧ OwnTexts w' B v (St.smarked l 1 l.length) ∧ Only w w' (fun b => v.ownBlock = some b) :=
  St.markStringS_any B 1 v l w hown rfl hl
theorem sheld1 (A : Option Addr) (n cap : Nat) (l : List ByteArray) (w : World) (hn : l.length = n) (hw : St.Strs w w.heap.size A (St.smarked l 1 l.length)) (hl : l.length ≤ 1000) :
    Calls Try.prog 14 #[.slice A n cap, .int .i64 1] w fun e w' => e = .returned (.int .i64 ((1 + l.length : Nat) : Int)) ∧ Below w.heap.size w w' := by
  have h := St.heldStringS_any 1 A cap (St.smarked l 1 l.length) w hw (fun j hj => St.smarked_at l 1 l.length j (by rw [St.smarked_len] at hj; exact hj) (Nat.le_refl _)) rfl (by rw [St.smarked_len]; exact hl)
  rw [St.smarked_len, hn] at h
  rw [hn]
  exact h
theorem mark1 (g n cap : Nat) (cs : Array Value) (w : World) (hr : Row w g 46 cs) (hc : cs.size = n * 3) (hn : n ≤ 1048576) :
    Calls Try.prog 12 #[.slice (some ⟨g, 0, none⟩) n cap, .int .i64 1] w fun e w' => e = .returned (.int .i64 ((1 + 3 * n : Nat) : Int)) ∧ Only w w' (· = g) :=
  St.markSegmentS_only 1 g n cap cs w hr hc rfl hn

theorem strsOf {w : World} {B n cap : Nat} {A : Option Addr} {ts : List ByteArray} (h : OwnTexts w B (.slice A n cap) ts) : St.Strs w w.heap.size A ts := by
  obtain ⟨A', cap', e, h'⟩ := St.textsForm h
  injection e with e1 e2 e3
  rw [e1]
  exact h'

end Go.Proofs.Ytifkmehnikfihaa
/- The reference's chains, texts and calls that are left. -/
namespace Go.Proofs.Ytifkmehnikfihaa
open Go.RowKit

/-- A row of texts that is no nil. -/
def SolidTexts (w : World) (B : Nat) (v : Value) (ts : List ByteArray) : Prop := OwnTexts w B v ts ∧ v ≠ .slice none 0 0
theorem SolidTexts.form {w : World} {B : Nat} {v : Value} {ts : List ByteArray} (h : SolidTexts w B v ts) : ∃ g cap, v = .slice (some ⟨g, 0, none⟩) ts.length cap := by
  rcases h.1.2 with ⟨h0, _⟩ | ⟨g, cap, cur, e, _⟩
  · exact absurd h0 h.2
  · exact ⟨g, cap, e⟩
def ChainsPost (w : World) (L : List ByteArray) (e : Ending) (w' : World) : Prop := ∃ v, e = .returned v ∧ SolidTexts w' w.heap.size v L ∧ Below w.heap.size w w'

end Go.Proofs.Ytifkmehnikfihaa
/- The reference's texts of calls. -/
namespace Go.Proofs.Ytifkmehnikfihaa
open Go.RowKit

theorem str_cat (x y : List UInt8) : strOf x ++ strOf y = strOf (x ++ y) := bytes_cat x y
theorem str_size (x : List UInt8) : (strOf x).size = x.length := bytes_size x
theorem Forest.isNil_pos {k : Forest} (h : k.isNil = false) : 0 < k.len := by
  rw [Forest.isNil_len] at h
  have := of_decide_eq_false h
  omega
theorem Forest.isNil_zero {k : Forest} (h : k.isNil = true) : k.len = 0 := by
  rw [Forest.isNil_len] at h
  exact of_decide_eq_true h

set_option maxRecDepth 100000 in
set_option maxHeartbeats 2000000 in
theorem l4Text_any : ∀ (n : Nat) (f : Forest) (v : Value) (w : World), f.size < n → f.size ≤ 1000 → IsKids w (· < w.heap.size) f v →
    Calls Try.prog 42 #[v] w fun e w' => e = .returned (.string (strOf (textB f))) ∧ Below w.heap.size w w' := by
  intro n
  induction n with
  | zero => intro f v w h; omega
  | succ n ih =>
    intro f v w hn h80 hk
    obtain ⟨A, cap, rfl, hcs⟩ := hk.nil_or
    have IH := Lib.hid ih
    have HL0 : Hid (LeftS w w.heap.size f A .nil f) := LeftS.start hcs
    have hfl : f.len ≤ 1000 := Nat.le_trans f.len_size h80
    clear ih hk hcs
    go_enter Try.func42, Try.ntmps42
    go_wp2
    go_loopw [3, 8] (fun s i wr => ∃ (pre rest : Forest) (x : ByteArray), s = .string x ∧ i = .int .i64 pre.len ∧ Hid (x = strOf (textB pre)) ∧ Hid (LeftS wr w.heap.size f A pre rest) ∧ Hid (Below w.heap.size w wr))
      (fun _ i _ => f.len - (intOf i).toNat)
    case atStart => exact ⟨.nil, f, _, rfl, rfl, rfl, HL0, Below.refl _ _⟩
    case round =>
      obtain ⟨pre, rest, x, rfl, rfl, HX, HL, HB⟩ := hrel
      clear HL0
      cases rest with
      | nil =>
        have HE := Lib.hid HL.out.done
        have hle : ¬ (pre.len < f.len) := by rw [HE.out]; omega
        go_wp2
        go_ret
        exact ⟨by rw [HX.out, HE.out]; rfl, HB.out⟩
      | cons c k r =>
        obtain ⟨hnext, hlt, hks, g, u, rfl, hg, c0, c1, hu⟩ := HL.out.take
        have HNX := Lib.hid hnext
        have hz := HB.out.size
        obtain ⟨A2, cap2, rfl, -⟩ := id hu
        have hu' := (hu.up hz).below ((Below.refl wr.heap.size wr).alloc (Nat.le_refl _) (.cells #[.string ⟨#[c]⟩, .slice A2 k.len cap2] 74))
        have HQ := Lib.hid (IH.out k _ (wr.alloc (.cells #[.string ⟨#[c]⟩, .slice A2 k.len cap2] 74)) (by omega) (by omega) (hu'.up (by simp)))
        have hnl := textB_len k
        have hpl := textB_len pre
        have hps : pre.size ≤ f.size := by rw [HL.out.1, Forest.app_size]; omega
        have hxs : x.size ≤ 4000 := by rw [HX.out, str_size]; omega
        have hys : (strOf (textB k)).size ≤ 4000 := by rw [str_size]; omega
        have HLN : Hid ((pre.app (.cons c k .nil)).len = pre.len + 1) := by show _ = _; rw [Forest.app_len]; rfl
        have hq : ∀ q : List UInt8, textOne c k = c :: q → x ++ ⟨#[c]⟩ ++ strOf q = strOf (textB (pre.app (.cons c k .nil))) := fun q hq => by
          rw [HX.out, show (⟨#[c]⟩ : ByteArray) = strOf [c] from rfl, str_cat, str_cat, textB_app, textB_one, hq]
          simp
        cases hkn : k.isNil with
        | true =>
          have h0 := Forest.isNil_zero hkn
          have hq0 : x ++ ⟨#[c]⟩ = strOf (textB (pre.app (.cons c k .nil))) := by
            have := hq [] (by unfold textOne; rw [hkn]; rfl)
            rw [← this]
            apply ByteArray.ext
            simp [ByteArray.data_append, strOf]
          have HQ0 := Lib.hid hq0
          have HB1 : Hid (Below w.heap.size w (wr.alloc (.cells #[.string ⟨#[c]⟩, .slice A2 k.len cap2] 74))) := HB.out.alloc hz _
          have HL1 : Hid (LeftS (wr.alloc (.cells #[.string ⟨#[c]⟩, .slice A2 k.len cap2] 74)) w.heap.size f (some ⟨g, 0, none⟩) (pre.app (.cons c k .nil)) r) := HNX.out.below ((Below.refl _ wr).alloc hz _)
          have t1 : ¬ (0 < k.len) := by omega
          have t2 : decide (0 < k.len) = false := decide_eq_false t1
          clear hnext hu hu' hnl hpl hps hq hq0 h0 hkn HQ HNX HL HB
          go_wp2
          go_roundw
          case rel => exact ⟨_, r, _, rfl, by rw [HLN.out]; go_num, HQ0, HL1, HB1⟩
          case measure => simp [intOf]; omega
        | false =>
          have h0 := Forest.isNil_pos hkn
          have hq0 : x ++ ⟨#[c]⟩ ++ ⟨#[40]⟩ ++ strOf (textB k) ++ ⟨#[41]⟩ = strOf (textB (pre.app (.cons c k .nil))) := by
            have := hq (40 :: (textB k ++ [41])) (by unfold textOne; rw [hkn]; rfl)
            rw [← this]
            apply ByteArray.ext
            simp [ByteArray.data_append, strOf]
          have HQ0 := Lib.hid hq0
          have t2 : decide (0 < k.len) = true := decide_eq_true h0
          clear hnext hu hu' hnl hpl hps hq hq0 hkn
          generalize strOf (textB k) = y at *
          go_wp2_with fail
          refine Calls.mono HQ.out ?_
          rintro e w1 ⟨rfl, hb1⟩
          have HB1 : Hid (Below w.heap.size w w1) := (HB.out.alloc hz _).trans (hb1.mono (by simp; omega))
          have HL1 : Hid (LeftS w1 w.heap.size f (some ⟨g, 0, none⟩) (pre.app (.cons c k .nil)) r) := HNX.out.below (((Below.refl _ wr).alloc hz _).trans (hb1.mono (by simp; omega)))
          clear hb1 HQ HNX HL HB
          go_wp2
          go_roundw
          case rel => exact ⟨_, r, _, rfl, by rw [HLN.out]; go_num, HQ0, HL1, HB1⟩
          case measure => simp [intOf]; omega

end Go.Proofs.Ytifkmehnikfihaa
/- The reference's calls that are left. -/
namespace Go.Proofs.Ytifkmehnikfihaa
open Go.RowKit

theorem oper_append_own {P : Program} {w : World} {o : Oper} {a : Act} {K : Act → World → Prop} {Q : Exit → Act → World → Prop} (s x : Operand) (t : TypeId)
    (ho : o.op = .call { callee := .builtin .append, args := #[s, x], argTypes := #[t, t] })
    (base : Nat) (e : TypeId) (i : TypeInfo) (z : Value) (size bytes : Nat) (ht : P.underlying t = some (.slice e)) (hi : P.info? e = some i) (hz : i.zero = some z)
    (hsize : i.size = size) (hby : i.bytes = bytes) (hzs : z.cells.size = size) (hsz : 0 < size)
    (v : Value) (n : Nat) (xs : List Value) (hs : a.eval s = v) (hown : w.ownsRow base e size v n xs)
    (ad : Addr) (m c : Nat) (news : List Value) (hx : a.eval x = .slice (some ad) m c) (hl : news.length = m * size) (hnews : ∀ j u, news[j]? = some u → w.cell? (ad.add j) = some u) (h1 : ∀ u ∈ news, u.oneCell' = true)
    (h63 : n + m ≤ maxLen) (hbytes : (n + m) * bytes ≤ 140737488355328) (hbase : base ≤ w.heap.size)
    (h : ∀ v' w', w'.ownsRow base e size v' (n + m) (xs ++ news) → w.grownBy w' v.ownBlock → (v' = .slice none 0 0 ↔ v = .slice none 0 0 ∧ m = 0) → (v'.ownBlock = v.ownBlock ∨ v'.ownBlock = some w.heap.size) → K (a.put o.dst v') w') :
    Oper.wp P o a w K Q := by
  obtain ⟨v', w', hr, h2, h3, h4, h5⟩ := run_append_own_at (P := P) w base t o.type e i z size bytes ht hi hz hsize hby hzs hsz v n xs hown ad m c news hl hnews h1 h63 hbytes hbase
  unfold Oper.wp execOp
  simp only [ho, resolve, invoke, builtin, Sem.run_bind, Sem.run_pure, Result.andThen_ok, List.map_toArray, List.map_cons, List.map_nil, hs, hx, hr]
  exact h v' w' h2 h3 h4 h5

/-- A slice of the reference's calls that is no nil. -/
def SolidS (w : World) (B : Nat) (v : Value) (f : Forest) : Prop := OwnS w B v f ∧ v ≠ .slice none 0 0
theorem SolidS.form {w : World} {B : Nat} {v : Value} {f : Forest} (h : SolidS w B v f) : ∃ g cap, v = .slice (some ⟨g, 0, none⟩) f.len cap := by
  obtain ⟨⟨xs, hown, _⟩, hn⟩ := h
  rcases hown.2 with ⟨h0, _⟩ | ⟨g, cap, cur, e, _⟩
  · exact absurd h0 hn
  · exact ⟨g, cap, e⟩
theorem SolidS.below {w w' : World} {B : Nat} {v : Value} {f : Forest} (h : SolidS w B v f) (hb : Below w.heap.size w w') : SolidS w' B v f :=
  ⟨h.1.far hb.size fun q _ h2 => hb.block q h2, h.2⟩
def LessPost (w : World) (f : Forest) (e : Ending) (w' : World) : Prop := ∃ v, e = .returned v ∧ SolidS w' w.heap.size v f ∧ Below w.heap.size w w'

/-- What holds in a round while one call is put behind those that are left. -/
structure LessHeld (w : World) (X : Nat) (c : UInt8) (kv v : Value) (F f pre k r : Forest) (A : Option Addr) (w' : World) : Prop where
  box : Row w' X 74 #[.string ⟨#[c]⟩, kv]
  own : SolidS w' w.heap.size v F
  left : LeftS w' w.heap.size f A (pre.app (.cons c k .nil)) r
  kids : IsKids w' (· < w.heap.size) k kv
  below : Below w.heap.size w w'
theorem LessHeld.later {w : World} {X : Nat} {c : UInt8} {kv v : Value} {F f pre k r : Forest} {A : Option Addr} {w1 w2 : World} (h : LessHeld w X c kv v F f pre k r A w1) (hb : Below w1.heap.size w1 w2) : LessHeld w X c kv v F f pre k r A w2 :=
  ⟨h.box.below hb h.box.lt, h.own.below hb, h.left.below (hb.mono h.below.size), h.kids.below (hb.mono h.below.size), h.below.trans (hb.mono h.below.size)⟩

end Go.Proofs.Ytifkmehnikfihaa
/- The reference's NeedsOf, ChainsOf, CountCalls, DepthOf. -/
namespace Go.Proofs.Ytifkmehnikfihaa
open Go.RowKit

theorem own_low {w : World} {B B' : Nat} {e : TypeId} {size : Nat} {v : Value} {n : Nat} {xs : List Value} (h : w.ownsRow B e size v n xs) (hB : B' ≤ B) : w.ownsRow B' e size v n xs := by
  refine ⟨h.1, ?_⟩
  rcases h.2 with h0 | ⟨g, cap, cur, e1, hg, r⟩
  · exact .inl h0
  · exact .inr ⟨g, cap, cur, e1, by omega, r⟩
/-- The chains of a trace. -/
def chainsRes (l : List Seg) (t : ByteArray) : List ByteArray := match traceB l t.data.toList with
  | none => []
  | some f => (chainsB [rootB l] f).map strOf
def ChainsResPost (w : World) (l : List Seg) (t : ByteArray) (e : Ending) (w' : World) : Prop :=
  ∃ v, e = .returned (.tuple #[v, .bool (traceB l t.data.toList).isSome]) ∧ OwnTexts w' w.heap.size v (chainsRes l t) ∧ Below w.heap.size w w'

def countRes (l : List Seg) (t : ByteArray) : Int := match traceB l t.data.toList with
  | none => -1
  | some f => f.size
theorem chainsRes_len {l : List Seg} {t : ByteArray} {f : Forest} (h : traceB l t.data.toList = some f) : (chainsRes l t).length = f.size := by
  unfold chainsRes
  rw [h]
  show ((chainsB [rootB l] f).map strOf).length = _
  rw [List.length_map, chainsB_len]

/-- The greatest length. -/
def mxLen (L : List (List UInt8)) : Nat := L.foldl (fun m x => max m x.length) 0
theorem mxLen_snoc (L : List (List UInt8)) (x : List UInt8) : mxLen (L ++ [x]) = max (mxLen L) x.length := by simp [mxLen, List.foldl_append]
theorem mxLen_le {L : List (List UInt8)} {n : Nat} (h : ∀ x ∈ L, x.length ≤ n) : mxLen L ≤ n := by
  have key : ∀ (L : List (List UInt8)) (m : Nat), m ≤ n → (∀ x ∈ L, x.length ≤ n) → L.foldl (fun m x => max m x.length) m ≤ n := by
    intro L
    induction L with
    | nil => intro m hm _; exact hm
    | cons y L ih => intro m hm hx; exact ih _ (Nat.max_le.2 ⟨hm, hx y (by simp)⟩) (fun x hx' => hx x (by simp [hx']))
  exact key L 0 (Nat.zero_le _) h
def depthRes (l : List Seg) (t : ByteArray) : Int := match traceB l t.data.toList with
  | none => -1
  | some f => mxLen (chainsB [] f)

end Go.Proofs.Ytifkmehnikfihaa
