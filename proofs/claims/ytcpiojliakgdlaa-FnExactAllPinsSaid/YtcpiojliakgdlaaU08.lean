/- Joined: Tx Gf Gj Gk Gl Gm. -/
import Derived.Test.YtcpiojliakgdlaaU02
import Derived.Test.YtcpiojliakgdlaaU07
import Derived.Test.YtcpiojliakgdlaaU04
import Derived.BigQuiet
import Derived.Test.YtcpiojliakgdlaaU06
import Derived.Maps.AppendAt
import Derived.Deep.AppendLies
/- A row of texts of the call's own; marks in segments and in texts: what a law writes into what it was given, and whether it is held. -/
namespace Go.Proofs.Ytcpiojliakgdlaa
open Go.RowKit

/-- Texts in a row of the call's own. -/
def OwnTexts (w : World) (B : Nat) (v : Value) (ts : List ByteArray) : Prop := w.ownsRow B 9 1 v ts.length (ts.map Value.string)
theorem OwnTexts.far {w w' : World} {B : Nat} {v : Value} {ts : List ByteArray} (h : OwnTexts w B v ts) (hk : ∀ g, v.ownBlock = some g → w'.heap[g]? = w.heap[g]?) : OwnTexts w' B v ts := by
  refine ⟨h.1, ?_⟩
  rcases h.2 with h0 | ⟨g', cap, cur, rfl, hg, hh, r⟩
  · exact .inl h0
  · exact .inr ⟨g', cap, cur, rfl, hg, (hk g' rfl).trans hh, r⟩
theorem OwnTexts.below {w w' : World} {B : Nat} {v : Value} {ts : List ByteArray} (h : OwnTexts w B v ts) (hb : Below w.heap.size w w') : OwnTexts w' B v ts := h.far fun g hg => hb.block g (World.ownsRow.lt h g hg).2
theorem info_str : (Try.prog.info? 9).map (fun i => (i.zero, i.size, i.bytes)) = some (some (.string ByteArray.empty), 1, 16) := by kernel_rfl

theorem OwnTexts.empty (w : World) {B : Nat} (hB : B ≤ w.heap.size) : OwnTexts (w.alloc (.cells #[] 9)) B (.slice (some ⟨w.heap.size, 0, none⟩) 0 0) [] :=
  World.ownsRow_lit w #[] 0 hB (by simp [maxLen]) rfl
theorem OwnTexts.one (w : World) {B : Nat} (hB : B ≤ w.heap.size) (s : ByteArray) : OwnTexts (w.alloc (.cells #[.string s] 9)) B (.slice (some ⟨w.heap.size, 0, none⟩) 1 1) [s] :=
  World.ownsRow_lit w #[.string s] 1 hB (by simp [maxLen]) rfl
theorem OwnTexts.form {w : World} {B : Nat} {v : Value} {ts : List ByteArray} (h : OwnTexts w B v ts) (hn : 0 < ts.length) : ∃ g cap, v = .slice (some ⟨g, 0, none⟩) ts.length cap := own_form h hn

end Go.Proofs.Ytcpiojliakgdlaa
namespace Go.Proofs.Ytcpiojliakgdlaa.St
open Go.RowKit

def digC (m : Nat) : UInt8 := UInt8.ofNat (48 + m % 10)
theorem digC_nat (m : Nat) : (digC m).toNat = 48 + m % 10 := by
  unfold digC
  rw [UInt8.toNat_ofNat']
  omega
/-- The decimal digits of a number, ahead of a text. -/
def mtl (k : Nat) (out : ByteArray) : ByteArray := if _h : k = 0 then out else mtl (k / 10) (⟨#[digC k]⟩ ++ out)
termination_by k
decreasing_by omega
theorem mtl_zero (out : ByteArray) : mtl 0 out = out := by
  rw [mtl]
  exact dif_pos rfl
theorem mtl_step {k : Nat} (h : 0 < k) (out : ByteArray) : mtl k out = mtl (k / 10) (⟨#[digC k]⟩ ++ out) := by
  conv => lhs; rw [mtl]
  exact dif_neg (by omega)
def mt (k : Nat) : ByteArray := ⟨#[109]⟩ ++ mtl k ⟨#[]⟩

set_option maxRecDepth 100000 in
set_option maxHeartbeats 1000000 in
theorem markText_any (k : Nat) (w : World) (h0 : 0 < k) (hk : k ≤ 10000000) :
    Calls Try.prog 110 #[.int .i64 k] w fun e w' => e = .returned (.string (mt k)) ∧ Below w.heap.size w w' := by
  have HM : Hid (mt k = ⟨#[109]⟩ ++ mtl k ⟨#[]⟩) := rfl
  have h0' : ¬ (k : Int) ≤ 0 := by omega
  go_enter Try.func110, Try.ntmps110
  go_wp2
  go_loopw [0, 3] (fun v o wr => ∃ (m : Nat) (s : ByteArray), v = .int .i64 m ∧ o = .string s ∧ s.size + m ≤ 10000000 ∧ Hid (mtl k ⟨#[]⟩ = mtl m s) ∧ Below w.heap.size w wr)
    (fun v _ _ => (intOf v).toNat)
  case atStart => exact ⟨k, ⟨#[]⟩, rfl, rfl, (by have h : (⟨#[]⟩ : ByteArray).size = 0 := rfl; omega), rfl, Below.refl _ _⟩
  case round =>
    obtain ⟨m, s, rfl, rfl, hs, HK, hb⟩ := hrel
    have hm0 : (0 : Int) ≤ (m : Int) := Int.natCast_nonneg _
    by_cases hm : 0 < m
    · have hm' : (0 : Int) < (m : Int) := by omega
      have HS := Lib.hid (HK.out.trans (mtl_step hm s))
      have hcv : (convert 22 9 (.slice (some ⟨wr.heap.size, 0, none⟩) 1 1)).run Try.prog (wr.alloc (.cells #[.int .u8 (48 + (m : Int) % 10)] 5)) = .ok (.string ⟨#[digC m]⟩) (wr.alloc (.cells #[.int .u8 (48 + (m : Int) % 10)] 5)) :=
        run_convert_bytes_back (P := Try.prog) _ 22 9 5 ⟨wr.heap.size, 0, none⟩ 1 [digC m] Try.underlying22 Try.underlying5 Try.underlying9 (fun j hj => by
          have : j = 0 := by simp at hj; omega
          subst this
          have h := (Row.new wr 5 #[.int .u8 (48 + (m : Int) % 10)]).cell 0
          have e : (48 + (m : Int) % 10) = ((digC m).toNat : Int) := by rw [digC_nat]; omega
          rw [e] at h ⊢
          exact h)
      have hsz : (⟨#[digC m]⟩ ++ s : ByteArray).size + m / 10 ≤ 10000000 := by
        have h1 : (⟨#[digC m]⟩ ++ s : ByteArray).size = 1 + s.size := by rw [ByteArray.size_append]; rfl
        omega
      go_wp2
      go_roundw
      case rel => exact ⟨m / 10, ⟨#[digC m]⟩ ++ s, congrArg (Value.int .i64) (by omega), rfl, hsz, HS, hb.alloc hb.size _⟩
      case measure => simp [intOf]; omega
    · obtain rfl : m = 0 := by omega
      have HZ := Lib.hid (HK.out.trans (mtl_zero s))
      go_wp2
      go_ret
      exact ⟨by rw [HM.out, HZ.out]; rfl, hb⟩


theorem onlyRefl (w : World) (may : Nat → Prop) : Only w w may := ⟨rfl, rfl, rfl, Nat.le_refl _, fun _ _ _ => rfl⟩
theorem onlyBelow {w w1 w2 : World} {may : Nat → Prop} (h : Only w w1 may) (hb : Below w1.heap.size w1 w2) : Only w w2 may :=
  ⟨hb.os.trans h.os, hb.tape.trans h.tape, hb.output.trans h.output, Nat.le_trans h.size hb.size, fun k hk hn => (hb.block k (Nat.lt_of_lt_of_le hk h.size)).trans (h.block k hk hn)⟩
theorem onlyPut {w w' : World} {may : Nat → Prop} (h : Only w w' may) {b : Nat} (hm : may b) (i : Nat) (u : Value) : Only w (w'.setCell ⟨b, i, none⟩ u) may := by
  have hb : Below 0 w' (w'.setCell ⟨b, i, none⟩ u) := (Below.refl 0 w').setCell (Nat.zero_le _) u
  exact ⟨hb.os.trans h.os, hb.tape.trans h.tape, hb.output.trans h.output, by have := h.size; have := hb.size; omega, fun k hk hn => (Below.heap_setCell w' ⟨b, i, none⟩ u k (fun e => hn (by rw [e]; exact hm))).trans (h.block k hk hn)⟩

/-- A slice of texts in memory below 'B'. -/
def Strs (w : World) (B : Nat) (A : Option Addr) (ts : List ByteArray) : Prop :=
  0 < ts.length → ∃ b o, A = some ⟨b, o, none⟩ ∧ b < B ∧ ∀ (k : Nat) (s : ByteArray), ts[k]? = some s → w.cell? ⟨b, o + k, none⟩ = some (.string s)
theorem Strs.below {w w' : World} {B : Nat} {A : Option Addr} {l : List ByteArray} (h : Strs w B A l) (hb : Below B w w') : Strs w' B A l := fun hl => by
  obtain ⟨b, o, e, hB, hc⟩ := h hl
  refine ⟨b, o, e, hB, fun k s hk => ?_⟩
  rw [hb.cell hB]
  exact hc k s hk
theorem Strs.more {w : World} {B B' : Nat} {A : Option Addr} {l : List ByteArray} (h : Strs w B A l) (hB : B ≤ B') : Strs w B' A l := fun hl => by
  obtain ⟨b, o, e, hb, hc⟩ := h hl
  exact ⟨b, o, e, Nat.lt_of_lt_of_le hb hB, hc⟩
theorem textsCell {w : World} {B g cap : Nat} {ts : List ByteArray} (h : OwnTexts w B (.slice (some ⟨g, 0, none⟩) ts.length cap) ts) {i : Nat} {s : ByteArray} (hi : ts[i]? = some s) : w.cell? ⟨g, i, none⟩ = some (.string s) := by
  have hlt := (List.getElem?_eq_some_iff.1 hi).1
  have := World.ownsRow.cellAt h i (by omega)
  rw [this, List.getElem?_map, hi]
  rfl
theorem textsForm {w : World} {B : Nat} {v : Value} {ts : List ByteArray} (h : OwnTexts w B v ts) : ∃ A cap, v = .slice A ts.length cap ∧ Strs w w.heap.size A ts := by
  have h' := h
  rcases h.2 with ⟨rfl, h0⟩ | ⟨g, cap, cur, rfl, hg, hh, r⟩
  · exact ⟨none, 0, by rw [h0], fun h => absurd h (by omega)⟩
  · refine ⟨_, cap, rfl, fun _ => ⟨g, 0, rfl, (Array.getElem?_eq_some_iff.1 hh).1, fun k s hk => ?_⟩⟩
    rw [Nat.zero_add]
    exact textsCell h' hk
theorem textsFree {w : World} {B g cap n : Nat} {ts : List ByteArray} (h : OwnTexts w B (.slice (some ⟨g, 0, none⟩) n cap) ts) (j : Nat) : w.frozen? ⟨g, j, none⟩ = false := by
  rcases h.2 with ⟨h0, _⟩ | ⟨g', cap', cur, hv, hg, hh, _⟩
  · cases h0
  · injection hv with hv1 _ hv3
    injection hv1 with hv1
    injection hv1 with hv1
    subst hv1
    exact Row.free (hh : Row w g _ cur) j
theorem textsStore {w : World} {B g cap : Nat} {ts : List ByteArray} (h : OwnTexts w B (.slice (some ⟨g, 0, none⟩) ts.length cap) ts) (i : Nat) (s : ByteArray) :
    OwnTexts (w.setCell ⟨g, i, none⟩ (.string s)) B (.slice (some ⟨g, 0, none⟩) ts.length cap) (ts.set i s) := by
  unfold OwnTexts at h ⊢
  rw [List.length_set]
  refine ⟨by simp, ?_⟩
  rcases h.2 with ⟨h0, _⟩ | ⟨g', cap', cur, hv, hg, hh, h1, h2, h3, h4⟩
  · cases h0
  · injection hv with hv1 _ hv3
    injection hv1 with hv1
    injection hv1 with hv1
    subst hv1 hv3
    have hr : Row w g 9 cur := hh
    refine .inr ⟨g, cap, _, rfl, hg, hr.put i _, h1, h2, by simpa using h3, ?_⟩
    rw [List.map_set, ← h4]
    simp only [Array.toList_setIfInBounds, List.take_set]
theorem textsFar {w w' : World} {B : Nat} {v : Value} {ts : List ByteArray} {may : Nat → Prop} (h : OwnTexts w B v ts) (ho : Only w w' may) (hm : ∀ g, v.ownBlock = some g → ¬ may g) : OwnTexts w' B v ts :=
  h.far fun g hg => ho.block g (World.ownsRow.lt h g hg).2 (hm g hg)

/-- The first 'i' are marked. -/
def smarked (ts : List ByteArray) (k : Nat) : Nat → List ByteArray
  | 0 => ts
  | i + 1 => (smarked ts k i).set i (mt (k + i))
theorem smarked_len (l : List ByteArray) (k : Nat) : ∀ i, (smarked l k i).length = l.length
  | 0 => rfl
  | i + 1 => by
    show ((smarked l k i).set i _).length = _
    rw [List.length_set, smarked_len l k i]
theorem smarked_at (l : List ByteArray) (k : Nat) : ∀ i j, j < i → i ≤ l.length → (smarked l k i)[j]? = some (mt (k + j))
  | 0, _, h, _ => absurd h (by omega)
  | i + 1, j, h, hi => by
    show ((smarked l k i).set i _)[j]? = _
    by_cases hj : j = i
    · subst hj
      rw [List.getElem?_set_self (by rw [smarked_len]; omega)]
    · rw [List.getElem?_set_ne (by omega)]
      exact smarked_at l k i j (by omega) (by omega)

set_option maxRecDepth 100000 in
set_option maxHeartbeats 1000000 in
theorem eqStringS_same (A A' : Option Addr) (l : List ByteArray) (c c' : Nat) (w : World) (hw : Strs w w.heap.size A l) (hw' : Strs w w.heap.size A' l) (hl : l.length ≤ 1048576) :
    Calls Try.prog 55 #[.slice A l.length c, .slice A' l.length c'] w fun e w' => e = .returned (.bool true) ∧ Below w.heap.size w w' := by
  have HW : Hid (Strs w w.heap.size A l) := hw
  have HW' : Hid (Strs w w.heap.size A' l) := hw'
  clear hw hw'
  go_enter Try.func55, Try.ntmps55
  go_wp2
  go_loopw [5] (fun i wr => ∃ (k : Nat), k ≤ l.length ∧ i = .int .i64 k ∧ Below w.heap.size w wr)
    (fun i _ => l.length - (intOf i).toNat)
  case atStart => exact ⟨0, Nat.zero_le _, rfl, Below.refl _ _⟩
  case round =>
    obtain ⟨k, hk, rfl, hb⟩ := hrel
    by_cases hlt : k < l.length
    · have hlt' : (k : Int) < (l.length : Int) := by omega
      have hk0 : (0 : Int) ≤ (k : Int) := Int.natCast_nonneg _
      obtain ⟨b, o, rfl, hB, hc⟩ := HW.out (by omega)
      obtain ⟨b', o', rfl, hB', hc'⟩ := HW'.out (by omega)
      have c0 := hc k l[k] (List.getElem?_eq_getElem hlt)
      have d0 := hc' k l[k] (List.getElem?_eq_getElem hlt)
      clear hc hc'
      rw [← hb.cell hB] at c0
      rw [← hb.cell hB'] at d0
      generalize l[k] = s at *
      have HB2 := Lib.hid hb.drew
      go_wp2
      go_quiet (fail)
      go_wp2
      go_roundw
      case rel => exact ⟨k + 1, by omega, by go_num, below_drewN hb _⟩
      case measure => simp [intOf]; omega
    · go_wp2
      go_ret
      exact ⟨rfl, hb⟩

set_option maxRecDepth 100000 in
set_option maxHeartbeats 1000000 in
theorem markStringS_any (B k : Nat) (v : Value) (l : List ByteArray) (w : World) (hown : OwnTexts w B v l) (hk : k = 1) (hl : l.length ≤ 1000) :
    Calls Try.prog 57 #[v, .int .i64 k] w fun e w' => e = .returned (.int .i64 ((k + l.length : Nat) : Int)) ∧ OwnTexts w' B v (smarked l k l.length) ∧ Only w w' (fun b => v.ownBlock = some b) := by
  have h0k : 0 < k := by omega
  have hk9 : k ≤ 10 := by omega
  clear hk
  obtain ⟨A, cap, rfl, -⟩ := textsForm hown
  have HO := Lib.hid hown
  clear hown
  go_enter Try.func57, Try.ntmps57
  go_wp2
  go_loopw [1, 5] (fun a c wr => ∃ (i : Nat), i ≤ l.length ∧ c = .int .i64 i ∧ a = .int .i64 ((k + i : Nat) : Int) ∧ Hid (OwnTexts wr B (.slice A l.length cap) (smarked l k i)) ∧ Hid (Only w wr (fun b => (Value.slice A l.length cap).ownBlock = some b)))
    (fun _ c _ => l.length - (intOf c).toNat)
  case atStart => exact ⟨0, Nat.zero_le _, rfl, rfl, HO, onlyRefl _ _⟩
  case round =>
    obtain ⟨i, hi, rfl, rfl, HT, HY⟩ := hrel
    by_cases hlt : i < l.length
    · have hlt' : (i : Int) < (l.length : Int) := by omega
      have hi0 : (0 : Int) ≤ (i : Int) := Int.natCast_nonneg _
      have hml := smarked_len l k i
      have hT := HT.out
      rw [← hml] at hT
      obtain ⟨g, cap', hv⟩ := hT.form (by omega)
      injection hv with hA _ hc
      subst hA hc
      have hold : (smarked l k i)[i]? = some ((smarked l k i)[i]'(by omega)) := List.getElem?_eq_getElem (by omega)
      have hst := fun W (hW : OwnTexts W B (.slice (some ⟨g, 0, none⟩) (smarked l k i).length cap) (smarked l k i)) => textsStore hW i (mt (k + i))
      generalize (smarked l k i)[i]'_ = old at *
      have HST := Lib.hid hst
      have HT' := Lib.hid hT
      have HOLD := Lib.hid hold
      have HML := Lib.hid hml
      clear hT hst hold hml
      go_wp2_with fail
      refine (markText_any (k + i) _ (by omega) (by omega)).mono ?_
      rintro e w1 ⟨rfl, hb1⟩
      have hT1 : OwnTexts w1 B (.slice (some ⟨g, 0, none⟩) (smarked l k i).length cap) (smarked l k i) := HT'.out.far (fun q hq => hb1.block q (World.ownsRow.lt HT'.out q hq).2)
      have d0 := textsCell hT1 HOLD.out
      have z0 := textsFree hT1 i
      have hT2 := HST.out w1 hT1
      rw [HML.out] at hT2
      have HT2 : Hid (OwnTexts (w1.setCell ⟨g, i, none⟩ (.string (mt (k + i)))) B (.slice (some ⟨g, 0, none⟩) l.length cap) (smarked l k (i + 1))) := hT2
      have HY1 : Hid (Only w w1 (fun b => (Value.slice (some ⟨g, 0, none⟩) l.length cap).ownBlock = some b)) := onlyBelow HY.out hb1
      clear hT1 hT2 hb1 HT HY
      generalize mt (k + i) = mm at *
      go_wp2
      go_roundw
      case rel => exact ⟨i + 1, by omega, by go_num, congrArg (Value.int .i64) (by omega), HT2, onlyPut HY1 rfl _ _⟩
      case measure => simp [intOf]; omega
    · obtain rfl : i = l.length := by omega
      go_wp2
      go_ret
      exact ⟨rfl, HT.out, HY.out⟩

set_option maxRecDepth 100000 in
set_option maxHeartbeats 2000000 in
theorem heldStringS_any (k : Nat) (A : Option Addr) (cap : Nat) (l : List ByteArray) (w : World) (hw : Strs w w.heap.size A l) (hm : ∀ j, j < l.length → l[j]? = some (mt (k + j))) (hk : k = 1) (hl : l.length ≤ 1000) :
    Calls Try.prog 58 #[.slice A l.length cap, .int .i64 k] w fun e w' => e = .returned (.int .i64 ((k + l.length : Nat) : Int)) ∧ Below w.heap.size w w' := by
  have h0k : 0 < k := by omega
  have hk9 : k ≤ 10 := by omega
  clear hk
  have HW : Hid (Strs w w.heap.size A l) := hw
  have HM := Lib.hid hm
  clear hw hm
  go_enter Try.func58, Try.ntmps58
  go_wp2
  go_loopw [1, 5] (fun a c wr => ∃ (i : Nat), i ≤ l.length ∧ c = .int .i64 i ∧ a = .int .i64 ((k + i : Nat) : Int) ∧ Below w.heap.size w wr)
    (fun _ c _ => l.length - (intOf c).toNat)
  case atStart => exact ⟨0, Nat.zero_le _, rfl, rfl, Below.refl _ _⟩
  case round =>
    obtain ⟨i, hi, rfl, rfl, hb⟩ := hrel
    by_cases hlt : i < l.length
    · have hlt' : (i : Int) < (l.length : Int) := by omega
      have hi0 : (0 : Int) ≤ (i : Int) := Int.natCast_nonneg _
      obtain ⟨b, o, rfl, hB, hc⟩ := HW.out (by omega)
      have c0 := hc i _ (HM.out i hlt)
      clear hc
      rw [← hb.cell hB] at c0
      have HMT := Lib.hid (fun W => markText_any (k + i) W (by omega) (by omega))
      generalize mt (k + i) = mm at *
      go_wp2_with fail
      refine wp_region_held_drew (S := (fun w' => w'.cell? ⟨b, o + i, none⟩ = some (.string mm) ∧ Below w.heap.size w w' ∧ Below wr.heap.size wr w')) (by kernel_rfl) ?_ (fun hHeld => ?_)
      · exact ⟨c0, hb.drew, (Below.refl _ _).drew⟩
      refine take_at (i := 0) (d := 12) (v := .slice (some ⟨b, o, none⟩) l.length cap) rfl rfl (by kernel_rfl) (by kernel_rfl) (by kernel_rfl) (fun _ _ _ h => h) (by kernel_rfl) (by (intro w hSw; (try dsimp only at hSw); go_simp)) (by assumption) ?_
      simp only [List.setIfInBounds_toArray, List.set_cons_succ, List.set_cons_zero]
      refine take_at (i := 1) (d := 13) (v := .int .i64 i) rfl rfl (by kernel_rfl) (by kernel_rfl) (by kernel_rfl) (fun _ _ _ h => h) (by kernel_rfl) (by (intro w hSw; (try dsimp only at hSw); go_simp)) (by assumption) ?_
      simp only [List.setIfInBounds_toArray, List.set_cons_succ, List.set_cons_zero]
      refine take_at (i := 2) (d := 14) (v := .pointer (some ⟨b, o + i, none⟩)) rfl rfl (by kernel_rfl) (by kernel_rfl) (by kernel_rfl) (fun _ _ _ h => h) (by kernel_rfl) (by (intro w hSw; (try dsimp only at hSw); go_simp)) (by assumption) ?_
      simp only [List.setIfInBounds_toArray, List.set_cons_succ, List.set_cons_zero]
      refine take_at (i := 3) (d := 15) (v := .string mm) rfl rfl (by kernel_rfl) (by kernel_rfl) (by kernel_rfl) (fun _ _ _ h => h) (by kernel_rfl) (by (intro w hSw; (try dsimp only at hSw); go_simp)) (by assumption) ?_
      simp only [List.setIfInBounds_toArray, List.set_cons_succ, List.set_cons_zero]
      refine take_at (i := 4) (d := 16) (v := .int .i64 ((k + i : Nat) : Int)) rfl rfl (by kernel_rfl) (by kernel_rfl) (by kernel_rfl) (fun _ _ _ h => h) (by kernel_rfl) (by (intro w hSw; (try dsimp only at hSw); go_simp)) (by assumption) ?_
      simp only [List.setIfInBounds_toArray, List.set_cons_succ, List.set_cons_zero]
      refine wpAnyH_ready (rs := [5]) (by kernel_rfl) (by simp) ?_
      refine AllReadyH.cons rfl (fun K hK => ?_) AllReadyH.nil
      go_simp
      refine (HMT.out _).mono ?_
      rintro e w2 ⟨rfl, hb2⟩
      have hs2 : w2.cell? ⟨b, o + i, none⟩ = some (.string mm) ∧ Below w.heap.size w w2 ∧ Below wr.heap.size wr w2 := ⟨(hb2.cell (p := ⟨b, o + i, none⟩) (Nat.lt_of_lt_of_le hB hHeld.2.1.size)).trans hHeld.1, hHeld.2.1.trans (hb2.mono hHeld.2.1.size), hHeld.2.2.trans (hb2.mono hHeld.2.2.size)⟩
      clear hb2 hHeld
      refine hK.out _ _ hs2 (fun hHeld => ?_)
      clear hK K hs2
      refine take_at (i := 6) (d := 18) (v := .bool false) rfl rfl (by kernel_rfl) (by kernel_rfl) (by kernel_rfl) (fun _ _ _ h => h) (by kernel_rfl) (by (intro w hSw; (try dsimp only at hSw); go_simp)) (by assumption) ?_
      simp only [List.setIfInBounds_toArray, List.set_cons_succ, List.set_cons_zero]
      refine wpAnyH_done (by kernel_rfl) ?_ _
      have hb3 := hHeld.2.1
      clear hHeld c0 hb
      go_wp2
      go_roundw
      case rel => exact ⟨i + 1, by omega, by go_num, congrArg (Value.int .i64) (by omega), hb3⟩
      case measure => simp [intOf]; omega
    · obtain rfl : i = l.length := by omega
      go_wp2
      go_ret
      exact ⟨rfl, hb⟩

set_option maxRecDepth 100000 in
set_option maxHeartbeats 2000000 in
theorem markSegmentS_only (k g n cap : Nat) (cs : Array Value) (w : World) (hr : Row w g 99 cs) (hc : cs.size = n * 3) (hk : k = 1) (hn : n ≤ 1048576) :
    Calls Try.prog 56 #[.slice (some ⟨g, 0, none⟩) n cap, .int .i64 k] w fun e w' => e = .returned (.int .i64 ((k + 3 * n : Nat) : Int)) ∧ Only w w' (· = g) := by
  have h0k : 0 < k := by omega
  have hk9 : k ≤ 10 := by omega
  clear hk
  have HR0 : Hid (Row w g 99 cs) := hr
  clear hr
  go_enter Try.func56, Try.ntmps56
  go_wp2
  go_loopw [1, 5] (fun a c wr => ∃ (i : Nat) (cs' : Array Value), i ≤ n ∧ c = .int .i64 i ∧ a = .int .i64 ((k + 3 * i : Nat) : Int) ∧ cs'.size = n * 3 ∧ Hid (Row wr g 99 cs') ∧ Hid (Only w wr (· = g)))
    (fun _ c _ => n - (intOf c).toNat)
  case atStart => exact ⟨0, cs, Nat.zero_le _, rfl, rfl, hc, HR0, onlyRefl _ _⟩
  case round =>
    obtain ⟨i, cs', hi, rfl, rfl, hz, HR, HY⟩ := hrel
    by_cases hlt : i < n
    · have hlt' : (i : Int) < (n : Int) := by omega
      have hi0 : (0 : Int) ≤ (i : Int) := Int.natCast_nonneg _
      go_wp2_with fail
      refine (markText_any (k + 3 * i) _ (by omega) (by omega)).mono ?_
      rintro e w1 ⟨rfl, hb1⟩
      have hr1 := HR.out.below hb1 HR.out.lt
      have z0 := hr1.free (i * 3)
      have z1 := hr1.free (i * 3 + 1)
      have z2 := hr1.free (i * 3 + 2)
      have d0 : w1.cell? ⟨g, i * 3, none⟩ = some (cs'[i * 3]'(by omega)) := by rw [hr1.cell, Array.getElem?_eq_getElem]
      have d1 : w1.cell? ⟨g, i * 3 + 1, none⟩ = some (cs'[i * 3 + 1]'(by omega)) := by rw [hr1.cell, Array.getElem?_eq_getElem]
      have d2 : w1.cell? ⟨g, i * 3 + 2, none⟩ = some (cs'[i * 3 + 2]'(by omega)) := by rw [hr1.cell, Array.getElem?_eq_getElem]
      have HR2 : Hid (∀ u0 u1 u2, Row (((w1.setCell ⟨g, i * 3, none⟩ u0).setCell ⟨g, i * 3 + 1, none⟩ u1).setCell ⟨g, i * 3 + 2, none⟩ u2) g 99 (((cs'.setIfInBounds (i * 3) u0).setIfInBounds (i * 3 + 1) u1).setIfInBounds (i * 3 + 2) u2)) := fun u0 u1 u2 => ((hr1.put _ _).put _ _).put _ _
      have HZ2 : Hid (∀ u0 u1 u2, (((cs'.setIfInBounds (i * 3) u0).setIfInBounds (i * 3 + 1) u1).setIfInBounds (i * 3 + 2) u2).size = n * 3) := fun u0 u1 u2 => by simpa using hz
      have HY1 : Hid (Only w w1 (· = g)) := onlyBelow HY.out hb1
      clear hr1 hb1 HR HY
      generalize cs'[i * 3]'_ = v0 at *
      generalize cs'[i * 3 + 1]'_ = v1 at *
      generalize cs'[i * 3 + 2]'_ = v2 at *
      generalize mt (k + 3 * i) = mm at *
      clear hz
      go_wp2
      go_roundw
      case rel => exact ⟨i + 1, _, by omega, by go_num, congrArg (Value.int .i64) (by omega), HZ2.out _ _ _, HR2.out _ _ _, onlyPut (onlyPut (onlyPut HY1.out rfl _ _) rfl _ _) rfl _ _⟩
      case measure => simp [intOf]; omega
    · obtain rfl : i = n := by omega
      go_wp2
      go_ret
      exact ⟨rfl, HY.out⟩

set_option maxHeartbeats 400000 in
theorem toSegmentS_row (A : Option Addr) (l : List Seg) (c : Nat) (w : World) (hw : Segs w w.heap.size A l) (hl : l.length ≤ 1048576) :
    Calls Try.prog 49 #[.slice A l.length c] w fun e w' => e = .returned (.slice (some ⟨w.heap.size, 0, none⟩) l.length l.length) ∧ Below w.heap.size w w' ∧ Segs w' w'.heap.size (some ⟨w.heap.size, 0, none⟩) l ∧ ∃ cs, Row w' w.heap.size 99 cs ∧ cs.size = l.length * 3 := by
  have HW : Hid (Segs w w.heap.size A l) := hw
  clear hw
  have hmk := run_make_segs l.length hl
  go_enter Try.func49, Try.ntmps49
  go_wp2
  go_loopw [4] (fun i wr => ∃ (k : Nat) (cs : Array Value), k ≤ l.length ∧ i = .int .i64 k ∧ Below w.heap.size w wr ∧ Row wr w.heap.size 99 cs ∧ Filled l k cs)
    (fun i _ => l.length - (intOf i).toNat)
  case atStart => exact ⟨0, _, Nat.zero_le _, rfl, (Below.refl _ _).alloc (Nat.le_refl _) _, Row.new _ _ _, Filled.start _ (size_madeCells _ _)⟩
  case round =>
    obtain ⟨k, cs, hk, rfl, hb, hrow, hf⟩ := hrel
    have hz : w.heap.size < wr.heap.size := hrow.lt
    by_cases hlt : k < l.length
    · obtain ⟨b, o, rfl, hB, hc⟩ := HW.out (by omega)
      obtain ⟨c0, c1, c2⟩ := hc k l[k] (List.getElem?_eq_getElem hlt)
      clear hc
      rw [← hb.cell hB] at c0 c1 c2
      have HN := Lib.hid (hf.next hlt)
      have HS := Lib.hid hf.1
      clear hf
      generalize l[k] = s at *
      go_wp2_with fail
      refine (toSegment_any s.name s.size s.par _).mono ?_
      rintro e w1 ⟨rfl, hb1⟩
      have hrow1 := hrow.below hb1 hz
      clear hrow
      have hb2 : Below w.heap.size w w1 := hb.trans (hb1.mono hb.size)
      have f0 := hrow1.free (k * 3)
      have f1 := hrow1.free (k * 3 + 1)
      have f2 := hrow1.free (k * 3 + 2)
      have d0 : w1.cell? ⟨w.heap.size, k * 3, none⟩ = some (cs[k * 3]'(by have := HS.out; omega)) := by rw [hrow1.cell, Array.getElem?_eq_getElem]
      have d1 : w1.cell? ⟨w.heap.size, k * 3 + 1, none⟩ = some (cs[k * 3 + 1]'(by have := HS.out; omega)) := by rw [hrow1.cell, Array.getElem?_eq_getElem]
      have d2 : w1.cell? ⟨w.heap.size, k * 3 + 2, none⟩ = some (cs[k * 3 + 2]'(by have := HS.out; omega)) := by rw [hrow1.cell, Array.getElem?_eq_getElem]
      have HR := Lib.hid hrow1
      clear hrow1
      generalize cs[k * 3]'_ = u0 at *
      generalize cs[k * 3 + 1]'_ = u1 at *
      generalize cs[k * 3 + 2]'_ = u2 at *
      go_wp2
      go_roundw
      case rel => exact ⟨k + 1, _, by omega, by go_num, ((hb2.setCell (Nat.le_refl _) _).setCell (Nat.le_refl _) _).setCell (Nat.le_refl _) _, ((HR.out.put _ _).put _ _).put _ _, HN.out⟩
      case measure => simp [intOf]; omega
    · obtain rfl : k = l.length := by omega
      have hd := hf.done hrow
      have HQ := Lib.hid hrow
      have HQ2 := Lib.hid hf.1
      clear hf hrow
      go_wp2
      go_ret
      exact ⟨rfl, hb, hd, _, HQ.out, HQ2.out⟩

end Go.Proofs.Ytcpiojliakgdlaa.St

namespace Go.Proofs.Ytcpiojliakgdlaa
open Go.RowKit

theorem smark1 (B : Nat) (v : Value) (l : List ByteArray) (w : World) (hown : OwnTexts w B v l) (hl : l.length ≤ 1000) :
    Calls Try.prog 57 #[v, .int .i64 1] w fun e w' => e = .returned (.int .i64 ((1 + l.length : Nat) : Int)) ∧ OwnTexts w' B v (St.smarked l 1 l.length) ∧ Only w w' (fun b => v.ownBlock = some b) :=
  St.markStringS_any B 1 v l w hown rfl hl
theorem sheld1 (A : Option Addr) (n cap : Nat) (l : List ByteArray) (w : World) (hn : l.length = n) (hw : St.Strs w w.heap.size A (St.smarked l 1 l.length)) (hl : l.length ≤ 1000) :
    Calls Try.prog 58 #[.slice A n cap, .int .i64 1] w fun e w' => e = .returned (.int .i64 ((1 + l.length : Nat) : Int)) ∧ Below w.heap.size w w' := by
  have h := St.heldStringS_any 1 A cap (St.smarked l 1 l.length) w hw (fun j hj => St.smarked_at l 1 l.length j (by rw [St.smarked_len] at hj; exact hj) (Nat.le_refl _)) rfl (by rw [St.smarked_len]; exact hl)
  rw [St.smarked_len, hn] at h
  rw [hn]
  exact h
theorem mark1 (g n cap : Nat) (cs : Array Value) (w : World) (hr : Row w g 99 cs) (hc : cs.size = n * 3) (hn : n ≤ 1048576) :
    Calls Try.prog 56 #[.slice (some ⟨g, 0, none⟩) n cap, .int .i64 1] w fun e w' => e = .returned (.int .i64 ((1 + 3 * n : Nat) : Int)) ∧ Only w w' (· = g) :=
  St.markSegmentS_only 1 g n cap cs w hr hc rfl hn

theorem strsOf {w : World} {B n cap : Nat} {A : Option Addr} {ts : List ByteArray} (h : OwnTexts w B (.slice A n cap) ts) : St.Strs w w.heap.size A ts := by
  obtain ⟨A', cap', e, h'⟩ := St.textsForm h
  injection e with e1 e2 e3
  rw [e1]
  exact h'

end Go.Proofs.Ytcpiojliakgdlaa
/- The model's NeedAll and CheapestNeed. -/
namespace Go.Proofs.Ytcpiojliakgdlaa
open Go.RowKit

end Go.Proofs.Ytcpiojliakgdlaa

/- The model's StatesOf: all states, as texts of the call's own. -/
namespace Go.Proofs.Ytcpiojliakgdlaa
open Go.RowKit

end Go.Proofs.Ytcpiojliakgdlaa
/- All states, yielded one by one. -/
namespace Go.Proofs.Ytcpiojliakgdlaa
open Go.RowKit Go.Shelf
attribute [local go_sem] Oper.semAt_some

/-- Nodes lie where all blocks below 'w' but one are kept. -/
theorem Nodes.kept {w w' : World} {B g m k bb : Nat} {l : List Seg} {nb : Nat → Nat} {cv : Nat → Value} (h : Nodes w B g m k l nb cv) (hk : Kept w.heap.size bb w w') (hbb : ∀ q, B ≤ q → q < w.heap.size → q ≠ bb) (hkm : k ≤ m) : Nodes w' B g m k l nb cv := by
  obtain ⟨cs, hg, hcs, hci⟩ := h.row
  refine ⟨⟨cs, hk.row hg hg.lt (hbb _ h.low.1 hg.lt) (by decide), hcs, hci⟩, fun i t hi ht => ?_, fun i t hi hi2 ht => ?_, fun i hi => ?_, h.apart, h.apartC, h.notg, h.low⟩
  · have h1 := h.node i t hi ht
    exact hk.row h1 h1.lt (hbb _ (h.low.2 i (by omega)) h1.lt) (by decide)
  · have h1 := h.fresh i t hi hi2 ht
    exact hk.row h1 h1.lt (hbb _ (h.low.2 i hi2) h1.lt) (by decide)
  · refine own_keep (h.kids i hi) fun b hb' => ?_
    have hlt := (h.kids i hi).lt b hb'
    rcases (h.kids i hi).2 with ⟨he, _⟩ | ⟨g', cap, cur, he, _, hh, _⟩
    · rw [he] at hb'
      cases hb'
    · rw [he] at hb'
      have : g' = b := by simpa [Value.ownBlock] using hb'
      subst this
      rw [hh]
      exact hk g' _ hlt.2 (hbb _ hlt.1 hlt.2) hh (fun c fz e => by injection e with _ e2; exact absurd e2 (by decide))

theorem Kept.less {n₀ n₁ bb : Nat} {A B : World} (h : Kept n₀ bb A B) (hn : n₁ ≤ n₀) : Kept n₁ bb A B := fun k o h1 h2 h3 h4 => h k o (Nat.lt_of_lt_of_le h1 hn) h2 h3 h4
end Go.Proofs.Ytcpiojliakgdlaa
/- impl.findState over whatever iterator that yields states. -/
namespace Go.Proofs.Ytcpiojliakgdlaa
open Go.RowKit Go.Shelf
attribute [local go_sem] Oper.semAt_some

/-- What the loop keeps. -/
structure Finding (w : World) (v : Value) (s : ByteArray) (nm : List Nat → ByteArray) (pre : List (List Nat)) (W : World) : Prop where
  nodes : Row W w.heap.size 61 #[v]
  text : Row W (w.heap.size + 1) 9 #[.string s]
  res : Row W (w.heap.size + 1 + 1) 64 (bitCells fun _ => false)
  ok : Row W (w.heap.size + 1 + 1 + 1) 4 #[.bool false]
  below : Below w.heap.size w W
  none : ∀ T ∈ pre, sameB (nm T) s = false
theorem Finding.grown {w W W' : World} {v : Value} {s : ByteArray} {nm : List Nat → ByteArray} {pre : List (List Nat)} {B : Nat} {row : Option Nat} (h : Finding w v s nm pre W) (hg : W.grownBy W' row) (hB : w.heap.size ≤ B) (hr : ∀ r, row = some r → B ≤ r ∧ ∃ o : Obj, W.heap[r]? = some o ∧ o.isCells = false) : Finding w v s nm pre W' :=
  ⟨row_grown h.nodes hg hr, row_grown h.text hg hr, row_grown h.res hg hr, row_grown h.ok hg hr, h.below.grown hg h.below.size (fun k e => by have := (hr k e).1; omega), h.none⟩
theorem Finding.below' {w W W' : World} {v : Value} {s : ByteArray} {nm : List Nat → ByteArray} {pre : List (List Nat)} (h : Finding w v s nm pre W) (hb : Below W.heap.size W W') : Finding w v s nm pre W' := h.grown (B := w.heap.size) (grownBy_of_below hb) (Nat.le_refl _) (fun r e => by cases e)
theorem Finding.next {w W : World} {v : Value} {s : ByteArray} {nm : List Nat → ByteArray} {pre : List (List Nat)} {T : List Nat} (h : Finding w v s nm pre W) (hT : sameB (nm T) s = false) : Finding w v s nm (pre ++ [T]) W :=
  ⟨h.nodes, h.text, h.res, h.ok, h.below, fun U hU => by
    rcases List.mem_append.1 hU with hU | hU
    · exact h.none U hU
    · rw [List.mem_singleton.1 hU]; exact hT⟩
/-- How it stops: the state is found and told. -/
structure Found (w : World) (s : ByteArray) (nm : List Nat → ByteArray) (pre : List (List Nat)) (W : World) : Prop where
  ex : ∃ P T, pre = P ++ [T] ∧ (∀ U ∈ P, sameB (nm U) s = false) ∧ sameB (nm T) s = true ∧ Row W (w.heap.size + 1 + 1) 64 (bitCells fun j => decide (j ∈ T))
  ok : Row W (w.heap.size + 1 + 1 + 1) 4 #[.bool true]
  below : Below w.heap.size w W
theorem Found.grown {w W W' : World} {s : ByteArray} {nm : List Nat → ByteArray} {pre : List (List Nat)} {B : Nat} {row : Option Nat} (h : Found w s nm pre W) (hg : W.grownBy W' row) (hB : w.heap.size ≤ B) (hr : ∀ r, row = some r → B ≤ r ∧ ∃ o : Obj, W.heap[r]? = some o ∧ o.isCells = false) : Found w s nm pre W' := by
  obtain ⟨P, T, h1, h2, h3, h4⟩ := h.ex
  exact ⟨⟨P, T, h1, h2, h3, row_grown h4 hg hr⟩, row_grown h.ok hg hr, h.below.grown hg h.below.size (fun k e => by have := (hr k e).1; omega)⟩

end Go.Proofs.Ytcpiojliakgdlaa
/- impl.findState at nodes; needFor, meet; StateValid. -/
namespace Go.Proofs.Ytcpiojliakgdlaa
open Go.RowKit Go.Shelf

/-- The truths of a state. -/
def inT (T : List Nat) (j : Nat) : Bool := decide (j ∈ T)

set_option maxRecDepth 100000 in
set_option maxHeartbeats 400000 in
theorem needFor_any (B g i : Nat) (l : List Seg) (nb : Nat → Nat) (cv : Nat → Value) (w : World) (h : Nodes w B g l.length l.length l nb cv) (hv : validB l = true) (hi : i < l.length) :
    Calls Try.prog 113 #[.slice (some ⟨g, 0, none⟩) l.length l.length, .pointer (some ⟨nb i, 0, none⟩)] w fun e w' => e = .returned (bitsV (inT (rp l i))) ∧ Below w.heap.size w w' := by
  have HN := Lib.hid h
  clear h
  go_enter Try.func113, Try.ntmps113
  go_wp2_with fail
  refine (pathState_any B g i l nb cv _ (HN.out.below ((Below.refl _ w).alloc (Nat.le_refl _) _)) hv hi).mono ?_
  rintro e w1 ⟨rfl, hb1⟩
  have hR1 : Row w1 w.heap.size 142 (bitCells fun _ => false) := (Row.new w _ _).below hb1 (by simp)
  obtain ⟨⟨d0, d1, d2, d3⟩, d4, d5, d6, d7⟩ := bits_cells hR1
  have hfz := fun j => hR1.free j
  have z0 := hfz 0
  have z1 := hfz 1
  have z2 := hfz 2
  have z3 := hfz 3
  have z4 := hfz 4
  have z5 := hfz 5
  have z6 := hfz 6
  have z7 := hfz 7
  have HRow : Hid (Row (putBits w1 w.heap.size fun j => decide (j ∈ rp l i)) w.heap.size 142 (bitCells fun j => decide (j ∈ rp l i))) := putBits_row hR1
  have HBel : Hid (Below w.heap.size w (putBits w1 w.heap.size fun j => decide (j ∈ rp l i))) := putBits_below (((Below.refl _ w).alloc (Nat.le_refl _) _).trans (hb1.mono (by simp))) (Nat.le_refl _)
  clear hR1 hfz hb1
  unfold bitsV bitCells
  go_wp2
  exact bodyPost_ret (v := bitsV (inT (rp l i))) (results_cell_row (p := 4) (ty := 142) rfl _ (putBits w1 w.heap.size fun j => decide (j ∈ rp l i)) w.heap.size 142 _ (0, 0) _ rfl HRow.out Try.underlying142 rfl (by kernel_rfl)) rfl ⟨rfl, HBel.out⟩

theorem eql_none (w : World) : (Op.equalIn 10000 64 (.agg #[.bool false, .bool false, .bool false, .bool false, .bool false, .bool false, .bool false, .bool false]) (.agg #[.bool false, .bool false, .bool false, .bool false, .bool false, .bool false, .bool false, .bool false])).run Try.prog w = .ok true w := by kernel_rfl
theorem eql_true0 (b1 b2 b3 b4 b5 b6 b7 : Bool) (w : World) : (Op.equalIn 10000 64 (.agg #[.bool true, .bool b1, .bool b2, .bool b3, .bool b4, .bool b5, .bool b6, .bool b7]) (.agg #[.bool false, .bool false, .bool false, .bool false, .bool false, .bool false, .bool false, .bool false])).run Try.prog w = .ok false w := by kernel_rfl
theorem eql_true1 (b2 b3 b4 b5 b6 b7 : Bool) (w : World) : (Op.equalIn 10000 64 (.agg #[.bool false, .bool true, .bool b2, .bool b3, .bool b4, .bool b5, .bool b6, .bool b7]) (.agg #[.bool false, .bool false, .bool false, .bool false, .bool false, .bool false, .bool false, .bool false])).run Try.prog w = .ok false w := by kernel_rfl
theorem eql_true2 (b3 b4 b5 b6 b7 : Bool) (w : World) : (Op.equalIn 10000 64 (.agg #[.bool false, .bool false, .bool true, .bool b3, .bool b4, .bool b5, .bool b6, .bool b7]) (.agg #[.bool false, .bool false, .bool false, .bool false, .bool false, .bool false, .bool false, .bool false])).run Try.prog w = .ok false w := by kernel_rfl
theorem eql_true3 (b4 b5 b6 b7 : Bool) (w : World) : (Op.equalIn 10000 64 (.agg #[.bool false, .bool false, .bool false, .bool true, .bool b4, .bool b5, .bool b6, .bool b7]) (.agg #[.bool false, .bool false, .bool false, .bool false, .bool false, .bool false, .bool false, .bool false])).run Try.prog w = .ok false w := by kernel_rfl
theorem eql_true4 (b5 b6 b7 : Bool) (w : World) : (Op.equalIn 10000 64 (.agg #[.bool false, .bool false, .bool false, .bool false, .bool true, .bool b5, .bool b6, .bool b7]) (.agg #[.bool false, .bool false, .bool false, .bool false, .bool false, .bool false, .bool false, .bool false])).run Try.prog w = .ok false w := by kernel_rfl
theorem eql_true5 (b6 b7 : Bool) (w : World) : (Op.equalIn 10000 64 (.agg #[.bool false, .bool false, .bool false, .bool false, .bool false, .bool true, .bool b6, .bool b7]) (.agg #[.bool false, .bool false, .bool false, .bool false, .bool false, .bool false, .bool false, .bool false])).run Try.prog w = .ok false w := by kernel_rfl
theorem eql_true6 (b7 : Bool) (w : World) : (Op.equalIn 10000 64 (.agg #[.bool false, .bool false, .bool false, .bool false, .bool false, .bool false, .bool true, .bool b7]) (.agg #[.bool false, .bool false, .bool false, .bool false, .bool false, .bool false, .bool false, .bool false])).run Try.prog w = .ok false w := by kernel_rfl
theorem eql_true7 (w : World) : (Op.equalIn 10000 64 (.agg #[.bool false, .bool false, .bool false, .bool false, .bool false, .bool false, .bool false, .bool true]) (.agg #[.bool false, .bool false, .bool false, .bool false, .bool false, .bool false, .bool false, .bool false])).run Try.prog w = .ok false w := by kernel_rfl
theorem eql_bools (b0 b1 b2 b3 b4 b5 b6 b7 : Bool) (w : World) : (Op.equalIn 10000 64 (.agg #[.bool b0, .bool b1, .bool b2, .bool b3, .bool b4, .bool b5, .bool b6, .bool b7]) (.agg #[.bool false, .bool false, .bool false, .bool false, .bool false, .bool false, .bool false, .bool false])).run Try.prog w = .ok (!b0 && !b1 && !b2 && !b3 && !b4 && !b5 && !b6 && !b7) w := by
  cases b0 with
  | true => exact eql_true0 b1 b2 b3 b4 b5 b6 b7 w
  | false =>
    cases b1 with
    | true => exact eql_true1 b2 b3 b4 b5 b6 b7 w
    | false =>
      cases b2 with
      | true => exact eql_true2 b3 b4 b5 b6 b7 w
      | false =>
        cases b3 with
        | true => exact eql_true3 b4 b5 b6 b7 w
        | false =>
          cases b4 with
          | true => exact eql_true4 b5 b6 b7 w
          | false =>
            cases b5 with
            | true => exact eql_true5 b6 b7 w
            | false =>
              cases b6 with
              | true => exact eql_true6 b7 w
              | false =>
                cases b7 with
                | true => exact eql_true7  w
                | false =>
                  exact eql_none w
def offB (f : Nat → Bool) : Bool := !f 0 && !f 1 && !f 2 && !f 3 && !f 4 && !f 5 && !f 6 && !f 7
theorem offB_iff (f : Nat → Bool) : offB f = true ↔ ∀ j, j < 8 → f j = false := by
  unfold offB
  simp only [Bool.and_eq_true, Bool.not_eq_true']
  constructor
  · rintro ⟨⟨⟨⟨⟨⟨⟨h0, h1⟩, h2⟩, h3⟩, h4⟩, h5⟩, h6⟩, h7⟩ j hj
    match j, hj with
    | 0, _ => exact h0
    | 1, _ => exact h1
    | 2, _ => exact h2
    | 3, _ => exact h3
    | 4, _ => exact h4
    | 5, _ => exact h5
    | 6, _ => exact h6
    | 7, _ => exact h7
  · intro h
    exact ⟨⟨⟨⟨⟨⟨⟨h 0 (by decide), h 1 (by decide)⟩, h 2 (by decide)⟩, h 3 (by decide)⟩, h 4 (by decide)⟩, h 5 (by decide)⟩, h 6 (by decide)⟩, h 7 (by decide)⟩

set_option maxRecDepth 100000 in
set_option maxHeartbeats 400000 in
theorem meet_any (T P : List Nat) (w : World) (hP : ∀ j ∈ P, j < 8) :
    Calls Try.prog 114 #[bitsV (inT P), bitsV (inT T)] w fun e w' => e = .returned (bitsV (inT (needT T P))) ∧ Below w.heap.size w w' := by
  have HL := Lib.hid (fun W => less_any (inT P) (inT T) W)
  have HE := Lib.hid (fun W => eql_bools (inT P 0 && !inT T 0) (inT P 1 && !inT T 1) (inT P 2 && !inT T 2) (inT P 3 && !inT T 3) (inT P 4 && !inT T 4) (inT P 5 && !inT T 5) (inT P 6 && !inT T 6) (inT P 7 && !inT T 7) W)
  have hiff : offB (fun j => inT P j && !inT T j) = true ↔ ∀ x ∈ P, x ∈ T := by
    rw [offB_iff]
    constructor
    · intro h x hx
      have := h x (hP x hx)
      unfold inT at this
      rw [decide_eq_true hx] at this
      simpa using this
    · intro h j _
      unfold inT
      by_cases hj : j ∈ P
      · rw [decide_eq_true (h j hj)]
        simp
      · rw [decide_eq_false hj]
        rfl
  by_cases hs : ∀ x ∈ P, x ∈ T
  · have HT : Hid (needT T P = T) := if_pos hs
    have HO : Hid (offB (fun j => inT P j && !inT T j) = true) := hiff.2 hs
    have he : ∀ W, (Op.equalIn 10000 64 (bitsV fun j => inT P j && !inT T j) (bitsV fun _ => false)).run Try.prog W = .ok true W := fun W => by
      have h1 := HE.out W
      exact h1.trans (congrArg (fun b => Result.ok b W) HO.out)
    unfold bitsV bitCells at HL he ⊢
    clear hiff hs HE
    rw [HT.out]
    have hR1 : ∀ W1, Below (w.heap.size + 1 + 1 + 1) (((w.alloc (.cells (bitCells (inT P)) 142)).alloc (.cells (bitCells (inT T)) 64)).alloc (.cells (bitCells fun _ => false) 64)) W1 → Row W1 (w.heap.size + 1 + 1) 64 (bitCells fun _ => false) ∧ Row W1 (w.heap.size + 1) 64 (bitCells (inT T)) ∧ Row W1 w.heap.size 142 (bitCells (inT P)) ∧ Below w.heap.size w W1 := fun W1 hb => by
      refine ⟨Row.below ?_ hb (by omega), Row.below ?_ hb (by omega), (((Row.new w _ _).alloc _).alloc _).below hb (by omega), ((((Below.refl _ w).alloc (Nat.le_refl _) _).alloc (by simp) _).alloc (by simp; omega) _).trans (hb.mono (by omega))⟩
      · have := Row.new ((w.alloc (.cells (bitCells (inT P)) 142)).alloc (.cells (bitCells (inT T)) 64)) 64 (bitCells fun _ => false)
        simpa using this
      · have := (Row.new (w.alloc (.cells (bitCells (inT P)) 142)) 64 (bitCells (inT T))).alloc (.cells (bitCells fun _ => false) 64)
        simpa using this
    have HR1 := Lib.hid hR1
    clear hR1
    go_enter Try.func114, Try.ntmps114
    go_wp2_with fail
    refine (HL.out _).mono ?_
    rintro e w1 ⟨rfl, hb1⟩
    rw [World.size_alloc, World.size_alloc, World.size_alloc] at hb1
    obtain ⟨r1, r2, r3, r4⟩ := HR1.out w1 hb1
    obtain ⟨⟨d0, d1, d2, d3⟩, d4, d5, d6, d7⟩ := bits_cells r1
    obtain ⟨⟨e0, e1, e2, e3⟩, e4, e5, e6, e7⟩ := bits_cells r2
    have hfz := fun j => r1.free j
    have z0 := hfz 0
    have z1 := hfz 1
    have z2 := hfz 2
    have z3 := hfz 3
    have z4 := hfz 4
    have z5 := hfz 5
    have z6 := hfz 6
    have z7 := hfz 7
    have HRow : Hid (Row (putBits w1 (w.heap.size + 1 + 1) (inT T)) (w.heap.size + 1 + 1) 64 (bitCells (inT T))) := putBits_row r1
    have HBel : Hid (Below w.heap.size w (putBits w1 (w.heap.size + 1 + 1) (inT T))) := putBits_below r4 (by omega)
    clear r1 r2 r3 r4 hfz hb1
    go_wp2
    exact bodyPost_ret (v := bitsV (inT T)) (results_cell_row (p := 4) (ty := 64) rfl _ (putBits w1 (w.heap.size + 1 + 1) (inT T)) (w.heap.size + 1 + 1) 64 _ (0, 0) _ rfl HRow.out Try.underlying64 rfl (by kernel_rfl)) rfl ⟨rfl, HBel.out⟩
  · have HT : Hid (needT T P = P) := if_neg hs
    have HO : Hid (offB (fun j => inT P j && !inT T j) = false) := Bool.eq_false_iff.2 (fun h => hs (hiff.1 h))
    have he : ∀ W, (Op.equalIn 10000 64 (bitsV fun j => inT P j && !inT T j) (bitsV fun _ => false)).run Try.prog W = .ok false W := fun W => by
      have h1 := HE.out W
      exact h1.trans (congrArg (fun b => Result.ok b W) HO.out)
    unfold bitsV bitCells at HL he ⊢
    clear hiff hs HE
    rw [HT.out]
    have hR1 : ∀ W1, Below (w.heap.size + 1 + 1 + 1) (((w.alloc (.cells (bitCells (inT P)) 142)).alloc (.cells (bitCells (inT T)) 64)).alloc (.cells (bitCells fun _ => false) 64)) W1 → Row W1 (w.heap.size + 1 + 1) 64 (bitCells fun _ => false) ∧ Row W1 (w.heap.size + 1) 64 (bitCells (inT T)) ∧ Row W1 w.heap.size 142 (bitCells (inT P)) ∧ Below w.heap.size w W1 := fun W1 hb => by
      refine ⟨Row.below ?_ hb (by omega), Row.below ?_ hb (by omega), (((Row.new w _ _).alloc _).alloc _).below hb (by omega), ((((Below.refl _ w).alloc (Nat.le_refl _) _).alloc (by simp) _).alloc (by simp; omega) _).trans (hb.mono (by omega))⟩
      · have := Row.new ((w.alloc (.cells (bitCells (inT P)) 142)).alloc (.cells (bitCells (inT T)) 64)) 64 (bitCells fun _ => false)
        simpa using this
      · have := (Row.new (w.alloc (.cells (bitCells (inT P)) 142)) 64 (bitCells (inT T))).alloc (.cells (bitCells fun _ => false) 64)
        simpa using this
    have HR1 := Lib.hid hR1
    clear hR1
    go_enter Try.func114, Try.ntmps114
    go_wp2_with fail
    refine (HL.out _).mono ?_
    rintro e w1 ⟨rfl, hb1⟩
    rw [World.size_alloc, World.size_alloc, World.size_alloc] at hb1
    obtain ⟨r1, r2, r3, r4⟩ := HR1.out w1 hb1
    obtain ⟨⟨d0, d1, d2, d3⟩, d4, d5, d6, d7⟩ := bits_cells r1
    obtain ⟨⟨e0, e1, e2, e3⟩, e4, e5, e6, e7⟩ := bits_cells r3
    have hfz := fun j => r1.free j
    have z0 := hfz 0
    have z1 := hfz 1
    have z2 := hfz 2
    have z3 := hfz 3
    have z4 := hfz 4
    have z5 := hfz 5
    have z6 := hfz 6
    have z7 := hfz 7
    have HRow : Hid (Row (putBits w1 (w.heap.size + 1 + 1) (inT P)) (w.heap.size + 1 + 1) 64 (bitCells (inT P))) := putBits_row r1
    have HBel : Hid (Below w.heap.size w (putBits w1 (w.heap.size + 1 + 1) (inT P))) := putBits_below r4 (by omega)
    clear r1 r2 r3 r4 hfz hb1
    go_wp2
    exact bodyPost_ret (v := bitsV (inT P)) (results_cell_row (p := 4) (ty := 64) rfl _ (putBits w1 (w.heap.size + 1 + 1) (inT P)) (w.heap.size + 1 + 1) 64 _ (0, 0) _ rfl HRow.out Try.underlying64 rfl (by kernel_rfl)) rfl ⟨rfl, HBel.out⟩

end Go.Proofs.Ytcpiojliakgdlaa
/- impl.meetNeed: the states ahead of a need and behind it. -/
namespace Go.Proofs.Ytcpiojliakgdlaa
open Go.RowKit Go.Shelf

end Go.Proofs.Ytcpiojliakgdlaa
