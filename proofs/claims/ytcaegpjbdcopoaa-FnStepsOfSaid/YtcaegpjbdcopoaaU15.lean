/- Joined: Ti Gy Fz Gz Jr Ch Po. -/
import Derived.Test.YtcaegpjbdcopoaaU14
import Derived.Test.YtcaegpjbdcopoaaU12
import Derived.Maps.OwnIn
import Derived.Maps.AppendAt
import Derived.Deep.AppendLies
import Derived.Test.YtcaegpjbdcopoaaU11
import Derived.Test.YtcaegpjbdcopoaaU10
/- A row of numbers of the call's own; marks in numbers: what a law writes into what it was given, and whether it is held. -/
namespace Go.Proofs.Ytcaegpjbdcopoaa.Si
open Go.RowKit

/-- Numbers in a row of the call's own. -/
def OwnInts (w : World) (B : Nat) (v : Value) (ts : List Int) : Prop := w.ownsRow B 3 1 v ts.length (ts.map (Value.int .i64))
theorem OwnInts.far {w w' : World} {B : Nat} {v : Value} {ts : List Int} (h : OwnInts w B v ts) (hk : ∀ g, v.ownBlock = some g → w'.heap[g]? = w.heap[g]?) : OwnInts w' B v ts := by
  refine ⟨h.1, ?_⟩
  rcases h.2 with h0 | ⟨g', cap, cur, rfl, hg, hh, r⟩
  · exact .inl h0
  · exact .inr ⟨g', cap, cur, rfl, hg, (hk g' rfl).trans hh, r⟩
theorem OwnInts.below {w w' : World} {B : Nat} {v : Value} {ts : List Int} (h : OwnInts w B v ts) (hb : Below w.heap.size w w') : OwnInts w' B v ts := h.far fun g hg => hb.block g (World.ownsRow.lt h g hg).2
theorem OwnInts.empty (w : World) {B : Nat} (hB : B ≤ w.heap.size) : OwnInts (w.alloc (.cells #[] 3)) B (.slice (some ⟨w.heap.size, 0, none⟩) 0 0) [] :=
  World.ownsRow_lit w #[] 0 hB (by simp [maxLen]) rfl
/-- A slice of numbers in memory below 'B'. -/
def Ints (w : World) (B : Nat) (A : Option Addr) (ts : List Int) : Prop :=
  0 < ts.length → ∃ b o, A = some ⟨b, o, none⟩ ∧ b < B ∧ ∀ (k : Nat) (s : Int), ts[k]? = some s → w.cell? ⟨b, o + k, none⟩ = some (.int .i64 s)
theorem Ints.below {w w' : World} {B : Nat} {A : Option Addr} {l : List Int} (h : Ints w B A l) (hb : Below B w w') : Ints w' B A l := fun hl => by
  obtain ⟨b, o, e, hB, hc⟩ := h hl
  refine ⟨b, o, e, hB, fun k s hk => ?_⟩
  rw [hb.cell hB]
  exact hc k s hk
theorem Ints.more {w : World} {B B' : Nat} {A : Option Addr} {l : List Int} (h : Ints w B A l) (hB : B ≤ B') : Ints w B' A l := fun hl => by
  obtain ⟨b, o, e, hb, hc⟩ := h hl
  exact ⟨b, o, e, Nat.lt_of_lt_of_le hb hB, hc⟩
theorem intsCell {w : World} {B g cap : Nat} {ts : List Int} (h : OwnInts w B (.slice (some ⟨g, 0, none⟩) ts.length cap) ts) {i : Nat} {s : Int} (hi : ts[i]? = some s) : w.cell? ⟨g, i, none⟩ = some (.int .i64 s) := by
  have hlt := (List.getElem?_eq_some_iff.1 hi).1
  have := World.ownsRow.cellAt h i (by omega)
  rw [this, List.getElem?_map, hi]
  rfl
theorem intsForm {w : World} {B : Nat} {v : Value} {ts : List Int} (h : OwnInts w B v ts) : ∃ A cap, v = .slice A ts.length cap ∧ Ints w w.heap.size A ts := by
  have h' := h
  rcases h.2 with ⟨rfl, h0⟩ | ⟨g, cap, cur, rfl, hg, hh, r⟩
  · exact ⟨none, 0, by rw [h0], fun h => absurd h (by omega)⟩
  · refine ⟨_, cap, rfl, fun _ => ⟨g, 0, rfl, (Array.getElem?_eq_some_iff.1 hh).1, fun k s hk => ?_⟩⟩
    rw [Nat.zero_add]
    exact intsCell h' hk
theorem intsOf {w : World} {B n cap : Nat} {A : Option Addr} {ts : List Int} (h : OwnInts w B (.slice A n cap) ts) : Ints w w.heap.size A ts := by
  obtain ⟨A', cap', e, h'⟩ := intsForm h
  injection e with e1 e2 e3
  rw [e1]
  exact h'
theorem intsFree {w : World} {B g cap n : Nat} {ts : List Int} (h : OwnInts w B (.slice (some ⟨g, 0, none⟩) n cap) ts) (j : Nat) : w.frozen? ⟨g, j, none⟩ = false := by
  rcases h.2 with ⟨h0, _⟩ | ⟨g', cap', cur, hv, hg, hh, _⟩
  · cases h0
  · injection hv with hv1 _ hv3
    injection hv1 with hv1
    injection hv1 with hv1
    subst hv1
    exact Row.free (hh : Row w g _ cur) j
theorem intsStore {w : World} {B g cap : Nat} {ts : List Int} (h : OwnInts w B (.slice (some ⟨g, 0, none⟩) ts.length cap) ts) (i : Nat) (s : Int) :
    OwnInts (w.setCell ⟨g, i, none⟩ (.int .i64 s)) B (.slice (some ⟨g, 0, none⟩) ts.length cap) (ts.set i s) := by
  unfold OwnInts at h ⊢
  rw [List.length_set]
  refine ⟨by simp, ?_⟩
  rcases h.2 with ⟨h0, _⟩ | ⟨g', cap', cur, hv, hg, hh, h1, h2, h3, h4⟩
  · cases h0
  · injection hv with hv1 _ hv3
    injection hv1 with hv1
    injection hv1 with hv1
    subst hv1 hv3
    have hr : Row w g 3 cur := hh
    refine .inr ⟨g, cap, _, rfl, hg, hr.put i _, h1, h2, by simpa using h3, ?_⟩
    rw [List.map_set, ← h4]
    simp only [Array.toList_setIfInBounds, List.take_set]
theorem intsFar {w w' : World} {B : Nat} {v : Value} {ts : List Int} {may : Nat → Prop} (h : OwnInts w B v ts) (ho : Only w w' may) (hm : ∀ g, v.ownBlock = some g → ¬ may g) : OwnInts w' B v ts :=
  h.far fun g hg => ho.block g (World.ownsRow.lt h g hg).2 (hm g hg)

/-- The first 'i' are marked. -/
def imarked (ts : List Int) (k : Nat) : Nat → List Int
  | 0 => ts
  | i + 1 => (imarked ts k i).set i ((k + i : Nat) : Int)
theorem imarked_len (l : List Int) (k : Nat) : ∀ i, (imarked l k i).length = l.length
  | 0 => rfl
  | i + 1 => by
    show ((imarked l k i).set i _).length = _
    rw [List.length_set, imarked_len l k i]
theorem imarked_at (l : List Int) (k : Nat) : ∀ i j, j < i → i ≤ l.length → (imarked l k i)[j]? = some ((k + j : Nat) : Int)
  | 0, _, h, _ => absurd h (by omega)
  | i + 1, j, h, hi => by
    show ((imarked l k i).set i _)[j]? = _
    by_cases hj : j = i
    · subst hj
      rw [List.getElem?_set_self (by rw [imarked_len]; omega)]
    · rw [List.getElem?_set_ne (by omega)]
      exact imarked_at l k i j (by omega) (by omega)

set_option maxRecDepth 100000 in
set_option maxHeartbeats 1000000 in
theorem eqIntS_same (A A' : Option Addr) (l : List Int) (c c' : Nat) (w : World) (hw : Ints w w.heap.size A l) (hw' : Ints w w.heap.size A' l) (hl : l.length ≤ 1048576) :
    Calls Try.prog 30 #[.slice A l.length c, .slice A' l.length c'] w fun e w' => e = .returned (.bool true) ∧ Below w.heap.size w w' := by
  have HW : Hid (Ints w w.heap.size A l) := hw
  have HW' : Hid (Ints w w.heap.size A' l) := hw'
  clear hw hw'
  go_enter Try.func30, Try.ntmps30
  go_wp2
  go_loopw [5] (fun i wr => ∃ (k : Nat), k ≤ l.length ∧ i = .int .i64 k ∧ Below w.heap.size w wr)
    (fun i _ => l.length - (intOf i).toNat)
  case atStart => exact ⟨0, Nat.zero_le _, rfl, Below.refl _ _⟩
  case round =>
    obtain ⟨k, hk, rfl, hb⟩ := hrel
    by_cases hlt : k < l.length
    · have hlt' : (k : Int) < (l.length : Int) := by omega
      have hk0 : (0 : Int) ≤ (k : Int) := Int.natCast_nonneg _
      obtain ⟨b, o, rfl, hB, hc⟩ := HW.out (by omega)
      obtain ⟨b', o', rfl, hB', hc'⟩ := HW'.out (by omega)
      have c0 := hc k l[k] (List.getElem?_eq_getElem hlt)
      have d0 := hc' k l[k] (List.getElem?_eq_getElem hlt)
      clear hc hc'
      rw [← hb.cell hB] at c0
      rw [← hb.cell hB'] at d0
      generalize l[k] = s at *
      have HB2 := Lib.hid hb.drew
      go_wp2
      go_quiet (fail)
      go_wp2
      go_roundw
      case rel => exact ⟨k + 1, by omega, by go_num, below_drewN hb _⟩
      case measure => simp [intOf]; omega
    · go_wp2
      go_ret
      exact ⟨rfl, hb⟩

set_option maxRecDepth 100000 in
set_option maxHeartbeats 1000000 in
theorem markIntS_any (B k : Nat) (v : Value) (l : List Int) (w : World) (hown : OwnInts w B v l) (hk : k = 1) (hl : l.length ≤ 1000) :
    Calls Try.prog 31 #[v, .int .i64 k] w fun e w' => e = .returned (.int .i64 ((k + l.length : Nat) : Int)) ∧ OwnInts w' B v (imarked l k l.length) ∧ Only w w' (fun b => v.ownBlock = some b) := by
  have hk9 : k ≤ 10 := by omega
  clear hk
  obtain ⟨A, cap, rfl, -⟩ := intsForm hown
  have HO := Lib.hid hown
  clear hown
  go_enter Try.func31, Try.ntmps31
  go_wp2
  go_loopw [1, 5] (fun a c wr => ∃ (i : Nat), i ≤ l.length ∧ c = .int .i64 i ∧ a = .int .i64 ((k + i : Nat) : Int) ∧ Hid (OwnInts wr B (.slice A l.length cap) (imarked l k i)) ∧ Hid (Only w wr (fun b => (Value.slice A l.length cap).ownBlock = some b)))
    (fun _ c _ => l.length - (intOf c).toNat)
  case atStart => exact ⟨0, Nat.zero_le _, rfl, rfl, HO, St.onlyRefl _ _⟩
  case round =>
    obtain ⟨i, hi, rfl, rfl, HT, HY⟩ := hrel
    by_cases hlt : i < l.length
    · have hlt' : (i : Int) < (l.length : Int) := by omega
      have hi0 : (0 : Int) ≤ (i : Int) := Int.natCast_nonneg _
      have hml := imarked_len l k i
      have hT := HT.out
      rw [← hml] at hT
      obtain ⟨g, cap', hv⟩ := own_form hT (by omega)
      injection hv with hA _ hc
      subst hA hc
      have hold : (imarked l k i)[i]? = some ((imarked l k i)[i]'(by omega)) := List.getElem?_eq_getElem (by omega)
      have hst := fun W (hW : OwnInts W B (.slice (some ⟨g, 0, none⟩) (imarked l k i).length cap) (imarked l k i)) => intsStore hW i ((k + i : Nat) : Int)
      generalize (imarked l k i)[i]'_ = old at *
      have d0 := intsCell hT hold
      have z0 := intsFree hT i
      have hT2 := hst wr hT
      rw [hml] at hT2
      have HT2 : Hid (OwnInts (wr.setCell ⟨g, i, none⟩ (.int .i64 ((k + i : Nat) : Int))) B (.slice (some ⟨g, 0, none⟩) l.length cap) (imarked l k (i + 1))) := hT2
      clear hT hst hold hml hT2 HT
      go_wp2
      go_roundw
      case rel => exact ⟨i + 1, by omega, by go_num, congrArg (Value.int .i64) (by omega), HT2, St.onlyPut HY.out rfl _ _⟩
      case measure => simp [intOf]; omega
    · obtain rfl : i = l.length := by omega
      go_wp2
      go_ret
      exact ⟨rfl, HT.out, HY.out⟩

set_option maxRecDepth 100000 in
set_option maxHeartbeats 2000000 in
theorem heldIntS_any (k : Nat) (A : Option Addr) (cap : Nat) (l : List Int) (w : World) (hw : Ints w w.heap.size A l) (hm : ∀ j, j < l.length → l[j]? = some ((k + j : Nat) : Int)) (hk : k = 1) (hl : l.length ≤ 1000) :
    Calls Try.prog 32 #[.slice A l.length cap, .int .i64 k] w fun e w' => e = .returned (.int .i64 ((k + l.length : Nat) : Int)) ∧ Below w.heap.size w w' := by
  have hk9 : k ≤ 10 := by omega
  clear hk
  have HW : Hid (Ints w w.heap.size A l) := hw
  have HM := Lib.hid hm
  clear hw hm
  go_enter Try.func32, Try.ntmps32
  go_wp2
  go_loopw [1, 5] (fun a c wr => ∃ (i : Nat), i ≤ l.length ∧ c = .int .i64 i ∧ a = .int .i64 ((k + i : Nat) : Int) ∧ Below w.heap.size w wr)
    (fun _ c _ => l.length - (intOf c).toNat)
  case atStart => exact ⟨0, Nat.zero_le _, rfl, rfl, Below.refl _ _⟩
  case round =>
    obtain ⟨i, hi, rfl, rfl, hb⟩ := hrel
    by_cases hlt : i < l.length
    · have hlt' : (i : Int) < (l.length : Int) := by omega
      have hi0 : (0 : Int) ≤ (i : Int) := Int.natCast_nonneg _
      obtain ⟨b, o, rfl, hB, hc⟩ := HW.out (by omega)
      have c0 := hc i _ (HM.out i hlt)
      clear hc
      rw [← hb.cell hB] at c0
      have HB2 := Lib.hid hb
      go_wp2
      go_roundw
      case rel => exact ⟨i + 1, by omega, by go_num, congrArg (Value.int .i64) (by omega), HB2.out⟩
      case measure => simp [intOf]; omega
    · obtain rfl : i = l.length := by omega
      go_wp2
      go_ret
      exact ⟨rfl, hb⟩

end Go.Proofs.Ytcaegpjbdcopoaa.Si

namespace Go.Proofs.Ytcaegpjbdcopoaa
open Go.RowKit

theorem imark1 (B : Nat) (v : Value) (l : List Int) (w : World) (hown : Si.OwnInts w B v l) (hl : l.length ≤ 1000) :
    Calls Try.prog 31 #[v, .int .i64 1] w fun e w' => e = .returned (.int .i64 ((1 + l.length : Nat) : Int)) ∧ Si.OwnInts w' B v (Si.imarked l 1 l.length) ∧ Only w w' (fun b => v.ownBlock = some b) :=
  Si.markIntS_any B 1 v l w hown rfl hl
theorem iheld1 (A : Option Addr) (n cap : Nat) (l : List Int) (w : World) (hn : l.length = n) (hw : Si.Ints w w.heap.size A (Si.imarked l 1 l.length)) (hl : l.length ≤ 1000) :
    Calls Try.prog 32 #[.slice A n cap, .int .i64 1] w fun e w' => e = .returned (.int .i64 ((1 + l.length : Nat) : Int)) ∧ Below w.heap.size w w' := by
  have h := Si.heldIntS_any 1 A cap (Si.imarked l 1 l.length) w hw (fun j hj => Si.imarked_at l 1 l.length j (by rw [Si.imarked_len] at hj; exact hj) (Nat.le_refl _)) rfl (by rw [Si.imarked_len]; exact hl)
  rw [Si.imarked_len, hn] at h
  rw [hn]
  exact h

end Go.Proofs.Ytcaegpjbdcopoaa
/- How often each segment is called: plain, and the reference's. -/
namespace Go.Proofs.Ytcaegpjbdcopoaa
open Go.RowKit

def lastB (x : List UInt8) : UInt8 := x.getLastD 0
/-- How many chains end with the segment of an index. -/
def cntAt (l : List Seg) (xs : List (List UInt8)) (i : Nat) : Nat := (xs.filter fun x => decide (indexB l ⟨#[lastB x]⟩ = (i : Int))).length
theorem cntAt_snoc (l : List Seg) (xs : List (List UInt8)) (x : List UInt8) (i : Nat) : cntAt l (xs ++ [x]) i = cntAt l xs i + if indexB l ⟨#[lastB x]⟩ = (i : Int) then 1 else 0 := by
  unfold cntAt
  rw [List.filter_append, List.length_append]
  congr 1
  by_cases h : indexB l ⟨#[lastB x]⟩ = (i : Int)
  · simp [h]
  · simp [h]
theorem cntAt_le (l : List Seg) (xs : List (List UInt8)) (i : Nat) : cntAt l xs i ≤ xs.length := List.length_filter_le _ _
def cntRow (l : List Seg) (xs : List (List UInt8)) : List Int := (List.range l.length).map fun i => (cntAt l xs i : Int)
theorem cntRow_len (l : List Seg) (xs : List (List UInt8)) : (cntRow l xs).length = l.length := by simp [cntRow]
theorem cntRow_at (l : List Seg) (xs : List (List UInt8)) {i : Nat} (hi : i < l.length) : (cntRow l xs)[i]? = some (cntAt l xs i : Int) := by simp [cntRow, hi]
theorem cntRow_snoc (l : List Seg) (xs : List (List UInt8)) (x : List UInt8) {j : Nat} (hj : indexB l ⟨#[lastB x]⟩ = (j : Int)) (hjl : j < l.length) : cntRow l (xs ++ [x]) = (cntRow l xs).set j ((cntAt l xs j : Int) + 1) := by
  apply List.ext_getElem?
  intro i
  by_cases hi : i < l.length
  · rw [cntRow_at l _ hi, cntAt_snoc, hj]
    by_cases hij : i = j
    · subst hij
      rw [List.getElem?_set_self (by rw [cntRow_len]; exact hi), if_pos rfl]
      rfl
    · rw [List.getElem?_set_ne (fun e => hij e.symm), cntRow_at l _ hi, if_neg (by omega)]
      rfl
  · rw [List.getElem?_eq_none (by rw [cntRow_len]; omega), List.getElem?_eq_none (by rw [List.length_set, cntRow_len]; omega)]
def callsRes (l : List Seg) (t : ByteArray) : List Int := match traceB l t.data.toList with
  | none => []
  | some f => cntRow l (chainsB [] f)
def CallsResPost (w : World) (l : List Seg) (t : ByteArray) (e : Ending) (w' : World) : Prop :=
  ∃ v, e = .returned (.tuple #[v, .bool (traceB l t.data.toList).isSome]) ∧ Si.OwnInts w' w.heap.size v (callsRes l t) ∧ Below w.heap.size w w'

theorem str_last (p : List UInt8) (d : UInt8) : (strOf (p ++ [d])).extract ((strOf (p ++ [d])).size - 1) (strOf (p ++ [d])).size = ⟨#[d]⟩ := by
  have hs : (strOf (p ++ [d])).size = p.length + 1 := by rw [str_size]; simp
  rw [hs]
  apply ByteArray.ext
  rw [ByteArray.data_extract]
  apply Array.ext'
  simp [strOf]
/-- Each chain ends with a name. -/
theorem chainsB_last {P : UInt8 → Bool} : ∀ (f : Forest) (a : List UInt8), f.all P → ∀ x ∈ chainsB a f, ∃ y c, x = y ++ [c] ∧ P c = true
  | .nil, _, _, x, h => by cases h
  | .cons c k r, a, hp, x, h => by
    obtain ⟨h1, h2, h3⟩ := hp
    have h' : x ∈ (a ++ [c]) :: (chainsB (a ++ [c]) k ++ chainsB a r) := h
    rcases List.mem_cons.1 h' with rfl | h'
    · exact ⟨a, c, rfl, h1⟩
    · rcases List.mem_append.1 h' with h' | h'
      · exact chainsB_last k _ h2 x h'
      · exact chainsB_last r _ h3 x h'
theorem lastB_snoc (y : List UInt8) (c : UInt8) : lastB (y ++ [c]) = c := by simp [lastB]
theorem callP_index {l : List Seg} {c : UInt8} (h : callP l c = true) : ∃ j : Nat, indexB l ⟨#[c]⟩ = (j : Int) ∧ j < l.length := by
  have h0 : 0 ≤ indexB l ⟨#[c]⟩ := of_decide_eq_true h
  obtain ⟨j, hj⟩ := Int.eq_ofNat_of_zero_le h0
  rcases indexB_bd l ⟨#[c]⟩ with hi | ⟨_, hi⟩
  · omega
  · exact ⟨j, hj, by omega⟩

theorem run_make_ints (n : Nat) (hn : n ≤ 1048576) (W : World) :
    (Instr.makeSlice 46 (.int .i64 (n : Int)) (.int .i64 (n : Int))).run Try.prog W = .ok (.slice (some ⟨W.heap.size, 0, none⟩) n n) (W.alloc (.cells (madeCells #[.int .i64 0] n) 3)) := by
  obtain ⟨i0, hi, hz0, hz1, hz2⟩ := info_parts info_int
  have hr := run_make (P := Try.prog) W 46 3 i0 (.int .i64 0) Try.underlying46 hi hz0 .i64 .i64 n n (by omega) (by omega) (by rw [hz2]; omega) (by omega)
  simp only [Int.toNat_natCast, hz1, Nat.mul_one] at hr
  exact hr
/-- A new row of noughts. -/
theorem OwnInts_made (W : World) {B : Nat} (hB : B ≤ W.heap.size) (l : List Seg) (hl : l.length ≤ 1048576) : Si.OwnInts (W.alloc (.cells (madeCells #[.int .i64 0] l.length) 3)) B (.slice (some ⟨W.heap.size, 0, none⟩) l.length l.length) (cntRow l []) := by
  have hlen := cntRow_len l []
  unfold Si.OwnInts
  rw [hlen]
  have hcs : madeCells #[.int .i64 0] l.length = ((cntRow l []).map (Value.int .i64)).toArray := by
    apply Array.toList_inj.1
    apply List.ext_getElem?
    intro i
    unfold madeCells cntRow
    by_cases hi : i < l.length
    · simp [hi, cntAt, Nat.mod_one]
    · simp [hi]
  rw [hcs]
  have := World.ownsRow_lit (base := B) (e := 3) (size := 1) W ((cntRow l []).map (Value.int .i64)).toArray l.length hB (by unfold maxLen; omega) (by simp [hlen])
  simpa using this

end Go.Proofs.Ytcaegpjbdcopoaa
/- Chains gathered into a slice: the program's ChainsOf and CountCalls. -/
namespace Go.Proofs.Ytcaegpjbdcopoaa
open Go.RowKit Go.Shelf
attribute [local go_sem] Oper.semAt_some

def txt (x : List UInt8) : Value := .string (strOf x)
theorem row_grownT {W W' : World} {b : Nat} {t : TypeId} {cs : Array Value} {row : Option Nat} (h : Row W b t cs) (hg : W.grownBy W' row) {B : Nat} (hr : ∀ r, row = some r → B ≤ r ∧ ∃ o : Obj, W.heap[r]? = some o ∧ o.isCells = false) : Row W' b t cs :=
  (hg.block b h.lt (fun he => by
    obtain ⟨_, o, ho, hc⟩ := hr b he.symm
    have h' : W.heap[b]? = some (.cells cs t (0, 0)) := h
    rw [h'] at ho
    injection ho with ho
    subst ho
    cases hc)).trans h
theorem own_grownT {W W' : World} {base n : Nat} {e : TypeId} {v : Value} {xs : List Value} {row : Option Nat} (h : W.ownsRow base e 1 v n xs) (hg : W.grownBy W' row) (hr : ∀ r, row = some r → ∃ o : Obj, W.heap[r]? = some o ∧ o.isCells = false) : W'.ownsRow base e 1 v n xs :=
  own_keep h fun g hb => hg.block g ((h.lt g hb).2) (fun he => by
    obtain ⟨o, ho, hc⟩ := hr g he.symm
    rcases h.2 with ⟨rfl, _⟩ | ⟨g', cap, cur, rfl, _, hh, _⟩
    · simp [Value.ownBlock] at hb
    · have : g' = g := by simpa [Value.ownBlock] using hb
      subst this
      rw [hh] at ho
      injection ho with ho
      subst ho
      cases hc)

/-- What is firm stays. -/
def SteadyT (W W' : World) : Prop := ∀ (k : Nat) (o : Obj), W.heap[k]? = some o → Firm o → W'.heap[k]? = some o

/-- One node's pointer is put behind those that were gathered: only a row of two cells or more is written in place. -/
theorem run_append_firmT (w : World) (ty base n : Nat) (v : Value) (xs : List Value) (hown : w.ownsRow base 9 1 v n xs) (h0 : n = 0 → v = .slice none 0 0) (ad : Addr) (u : Value)
    (hnews : ∀ j y, [u][j]? = some y → w.cell? (ad.add j) = some y) (h1 : ∀ y ∈ [u], y.oneCell' = true) (hn : n ≤ 1000) (hbase : base ≤ w.heap.size) :
    ∃ g cap w', (Builtin.append_ #[98, 98] ty #[v, .slice (some ad) 1 1]).run Try.prog w = .ok (.slice (some ⟨g, 0, none⟩) (n + 1) cap) w' ∧
      w'.ownsRow base 9 1 (.slice (some ⟨g, 0, none⟩) (n + 1) cap) (n + 1) (xs ++ [u]) ∧ w.grownBy w' v.ownBlock ∧ SteadyT w w' := by
  obtain ⟨i0, hi, hz0, hz1, hz2⟩ := info_parts info_str
  obtain ⟨v', w', hr, h2, h3, -, -⟩ := run_append_own_at (P := Try.prog) w base 98 ty 9 i0 (.string ByteArray.empty) 1 16 Try.underlying98 hi hz0 hz1 hz2 rfl (by decide) v n xs hown ad 1 1 [u] rfl hnews h1 (by unfold maxLen; omega) (by omega) hbase
  obtain ⟨g, cap, rfl⟩ := own_form h2 (by omega)
  refine ⟨g, cap, w', hr, h2, h3, ?_⟩
  rcases hown.2 with ⟨rfl, rfl⟩ | ⟨g', cap', cur, rfl, hbg, hg, hnc, hcm, hcs, htake⟩
  · have hr2 := run_append_nil (P := Try.prog) w 98 ty 9 i0 (.string ByteArray.empty) Try.underlying98 hi hz0 ad 1 1 [u] (by rw [hz1]; rfl) hnews (by decide) (by decide) (by rw [hz2]; decide)
    rw [hr] at hr2
    injection hr2 with _ hw
    subst hw
    exact fun k o hk _ => (Below.heap_alloc w.drew _ k (Array.getElem?_eq_some_iff.1 hk).1).trans hk
  · by_cases hc : n + 1 ≤ cap'
    · refine fun k o hk hf => (h3.block k (Array.getElem?_eq_some_iff.1 hk).1 (fun he => ?_)).trans hk
      have he' : k = g' := by simpa [Value.ownBlock] using he
      subst he'
      rw [hg] at hk
      injection hk with hk
      have := (hf cur _ _ hk.symm).2.resolve_right (by decide)
      have hn1 : 0 < n := Nat.pos_of_ne_zero fun e => by have := h0 e; cases this
      omega
    · obtain ⟨v2, w2, hr2, -, hg2⟩ := run_append_arg_grows (P := Try.prog) w 98 ty 9 i0 (.string ByteArray.empty) 1 16 Try.underlying98 hi hz0 hz1 hz2 rfl (by decide) ⟨g', 0, none⟩ n cap' xs hown.1
        (fun j y hj => by
          have h5 : w.cell? ⟨g', 0 + j, none⟩ = some y := by
            rw [Nat.zero_add, hown.cellAt j (by have := (List.getElem?_eq_some_iff.1 hj).1; have := hown.1; omega)]
            exact hj
          rw [WideShapes.add_plain]
          exact h5) ad 1 1 [u] rfl hnews (by omega) (by unfold maxLen; omega) (by omega)
      rw [hr] at hr2
      injection hr2 with _ hw
      subst hw
      exact fun k o hk _ => (hg2.block k (Array.getElem?_eq_some_iff.1 hk).1 (fun he => by cases he)).trans hk

theorem wpListIn_append_firmT {F : Fence} {nF : Nat} {w : World} {ops : Array Oper} {rest : List Oper} {o : Oper} {a : Act} {Q : Exit → Act → World → Prop} (hgd : o.guard = none) (s x : Operand)
    (ho : o.op = .call { callee := .builtin .append, args := #[s, x], argTypes := #[98, 98] })
    (base n : Nat) (v : Value) (xs : List Value) (hs : a.eval s = v) (hown : w.ownsRow base 9 1 v n xs) (h0 : n = 0 → v = .slice none 0 0) (ad : Addr) (u : Value) (hx : a.eval x = .slice (some ad) 1 1)
    (hnews : ∀ j y, [u][j]? = some y → w.cell? (ad.add j) = some y) (h1 : ∀ y ∈ [u], y.oneCell' = true) (hn : n ≤ 1000) (hbase : base ≤ w.heap.size)
    (h : ∀ g cap w', w'.ownsRow base 9 1 (.slice (some ⟨g, 0, none⟩) (n + 1) cap) (n + 1) (xs ++ [u]) → w.grownBy w' v.ownBlock → SteadyT w w' → wpListIn F nF Try.prog ops Q rest (a.put o.dst (.slice (some ⟨g, 0, none⟩) (n + 1) cap)) w') :
    wpListIn F nF Try.prog ops Q (o :: rest) a w := by
  refine wpListIn_plain hgd fun K hK => ?_
  obtain ⟨g, cap, w', hr, h2, h3, h4⟩ := run_append_firmT w o.type base n v xs hown h0 ad u hnews h1 hn hbase
  unfold Oper.wpIn
  refine ⟨by simp [Oper.about, ho, resolve, Target.leads, Sem.run_pure], ?_⟩
  rw [Oper.semAt_plain F _ _ (by rw [ho]; intro c hc'; cases hc')]
  simp [execOp, ho, resolve, invoke, builtin, hs, hx, hr, Result.andThen]
  exact hK _ _ (h g cap w' h2 h3 h4)

/-- What was gathered: the box holds a slice of the call's own. -/
structure GathT (w : World) (T : List (List UInt8)) (W : World) : Prop where
  ex : ∃ v, Row W w.heap.size 98 #[v] ∧ W.ownsRow (w.heap.size + 1) 9 1 v T.length (T.map txt) ∧ (T.length = 0 → v = .slice none 0 0)
  below : Below w.heap.size w W
theorem GathT.grown {w W W' : World} {T : List (List UInt8)} {B : Nat} {row : Option Nat} (h : GathT w T W) (hg : W.grownBy W' row) (hB : w.heap.size ≤ B) (hr : ∀ r, row = some r → B ≤ r ∧ ∃ o : Obj, W.heap[r]? = some o ∧ o.isCells = false) : GathT w T W' := by
  obtain ⟨⟨v, h1, h2, h3⟩, hb⟩ := h
  exact ⟨⟨v, row_grownT h1 hg hr, own_grownT h2 hg (fun r e => (hr r e).2), h3⟩, hb.grown hg hb.size (fun k e => by have := (hr k e).1; omega)⟩

end Go.Proofs.Ytcaegpjbdcopoaa
/- How often each segment is called: the program's. -/
namespace Go.Proofs.Ytcaegpjbdcopoaa
open Go.RowKit Go.Shelf
attribute [local go_sem] Oper.semAt_some

/-- A chain as a round is handed it: never empty, never long. -/
def fixC (x : List UInt8) : List UInt8 := if x ≠ [] ∧ x.length ≤ 1000 then x else [0]
theorem fixC_ok (x : List UInt8) : fixC x ≠ [] ∧ (fixC x).length ≤ 1000 := by
  unfold fixC
  split
  · next h => exact h
  · exact ⟨by simp, by simp⟩

theorem names_apart {l : List Seg} (hv : validB l = true) {u v : Nat} (huv : u < v) (hvl : v < l.length) : (l[u]'(by omega)).name ≠ l[v].name := fun e => by
  have h1 := (valid_all hv).1 v hvl
  rw [segOk_of hvl] at h1
  simp only [Bool.and_eq_true, Bool.not_eq_true'] at h1
  have h2 := h1.1.1.2
  have h3 : takenB (l.take v) l[v].name = true := by
    refine List.any_eq_true.2 ⟨l[u]'(by omega), ?_, sameB_iff.2 e⟩
    have h4 : (l.take v)[u]? = some (l[u]'(by omega)) := by rw [List.getElem?_take_of_lt huv]; exact List.getElem?_eq_getElem (by omega)
    exact List.mem_of_getElem? h4
  rw [h3] at h2
  cases h2
theorem name_index {l : List Seg} (hv : validB l = true) {i : Nat} (hi : i < l.length) : indexB l l[i].name = (i : Int) := by
  have h1 : indexB l l[i].name = seek l l[i].name := if_pos hv
  have h2 : 0 ≤ seek l l[i].name := by
    have := seekFrom_has l[i].name l 0
    have h3 : takenB l l[i].name = true := List.any_eq_true.2 ⟨l[i], List.getElem_mem hi, sameB_iff.2 rfl⟩
    rw [h3] at this
    exact of_decide_eq_true this
  obtain ⟨j, hj⟩ := Int.eq_ofNat_of_zero_le h2
  obtain ⟨x, hx, hn⟩ := seek_name hj
  obtain ⟨hjl, rfl⟩ := List.getElem?_eq_some_iff.1 hx
  rw [h1, hj]
  rcases Nat.lt_trichotomy j i with h | h | h
  · exact absurd hn (names_apart hv h hi)
  · rw [h]
  · exact absurd hn.symm (names_apart hv h hjl)
/-- A chain ends with a segment's name just where this is the one that is called last. -/
theorem suffix_index {l : List Seg} (hv : validB l = true) {i : Nat} (hi : i < l.length) {x : List UInt8} (hx : x ≠ []) : Lib.hasSuffix x l[i].name.data.toList = decide (indexB l ⟨#[lastB x]⟩ = (i : Int)) := by
  obtain ⟨d, hd, _, _⟩ := nameOk_one (validB_names hv (List.getElem_mem hi))
  obtain ⟨y, c, rfl⟩ : ∃ y c, x = y ++ [c] := ⟨x.dropLast, x.getLast hx, (List.dropLast_concat_getLast hx).symm⟩
  have hni := name_index hv hi
  rw [hd] at hni ⊢
  rw [lastB_snoc]
  unfold Lib.hasSuffix
  show [d].isSuffixOf (y ++ [c]) = _
  have h1 : [d].isSuffixOf (y ++ [c]) = decide (d = c) := by
    by_cases h : d = c
    · subst h; simp [List.isSuffixOf_iff_suffix]
    · have : ¬ [d] <:+ y ++ [c] := fun ⟨z, hz⟩ => h (by have := congrArg List.getLast? hz; simpa using this)
      rw [decide_eq_false h, Bool.eq_false_iff]
      exact fun hh => this (List.isSuffixOf_iff_suffix.1 hh)
  rw [h1]
  by_cases h : d = c
  · subst h; rw [decide_eq_true rfl, hni]; simp
  · rw [decide_eq_false h]
    symm
    refine decide_eq_false fun e => h ?_
    rw [show indexB l ⟨#[c]⟩ = seek l ⟨#[c]⟩ from if_pos hv] at e
    obtain ⟨z, hz, hzn⟩ := seek_name (s := ⟨#[c]⟩) e
    obtain ⟨_, rfl⟩ := List.getElem?_eq_some_iff.1 hz
    rw [hd] at hzn
    injection hzn with hzn
    have h3 : [d] = [c] := congrArg Array.toList hzn
    injection h3

/-- The row while the segments are gone through for one more chain. -/
def midRow (l : List Seg) (xs : List (List UInt8)) (x : List UInt8) (k : Nat) : List Int := (List.range l.length).map fun i => (cntAt l xs i : Int) + if i < k ∧ indexB l ⟨#[lastB x]⟩ = (i : Int) then 1 else 0
theorem midRow_len (l : List Seg) (xs : List (List UInt8)) (x : List UInt8) (k : Nat) : (midRow l xs x k).length = l.length := by simp [midRow]
theorem midRow_at (l : List Seg) (xs : List (List UInt8)) (x : List UInt8) (k : Nat) {i : Nat} (hi : i < l.length) : (midRow l xs x k)[i]? = some ((cntAt l xs i : Int) + if i < k ∧ indexB l ⟨#[lastB x]⟩ = (i : Int) then 1 else 0) := by simp [midRow, hi]
theorem midRow_zero (l : List Seg) (xs : List (List UInt8)) (x : List UInt8) : midRow l xs x 0 = cntRow l xs := by simp [midRow, cntRow]
theorem midRow_end (l : List Seg) (xs : List (List UInt8)) (x : List UInt8) : midRow l xs x l.length = cntRow l (xs ++ [x]) := by
  apply List.ext_getElem?
  intro i
  by_cases hi : i < l.length
  · rw [midRow_at l _ _ _ hi, cntRow_at l _ hi, cntAt_snoc]
    by_cases h : indexB l ⟨#[lastB x]⟩ = (i : Int)
    · rw [if_pos ⟨hi, h⟩, if_pos h]; rfl
    · rw [if_neg (fun e => h e.2), if_neg h]; rfl
  · rw [List.getElem?_eq_none (by rw [midRow_len]; omega), List.getElem?_eq_none (by rw [cntRow_len]; omega)]
theorem midRow_no {l : List Seg} {xs : List (List UInt8)} {x : List UInt8} {k : Nat} (h : indexB l ⟨#[lastB x]⟩ ≠ (k : Int)) : midRow l xs x (k + 1) = midRow l xs x k := by
  unfold midRow
  refine List.map_congr_left fun i _ => ?_
  by_cases h1 : i = k
  · subst h1; rw [if_neg (fun e => h e.2), if_neg (fun e => h e.2)]
  · by_cases h2 : i < k
    · by_cases h3 : indexB l ⟨#[lastB x]⟩ = (i : Int)
      · rw [if_pos ⟨by omega, h3⟩, if_pos ⟨h2, h3⟩]
      · rw [if_neg (fun e => h3 e.2), if_neg (fun e => h3 e.2)]
    · rw [if_neg (fun e => by omega), if_neg (fun e => h2 e.1)]
theorem midRow_yes {l : List Seg} {xs : List (List UInt8)} {x : List UInt8} {k : Nat} (h : indexB l ⟨#[lastB x]⟩ = (k : Int)) (hk : k < l.length) : midRow l xs x (k + 1) = (midRow l xs x k).set k ((cntAt l xs k : Int) + 1) := by
  apply List.ext_getElem?
  intro i
  by_cases hi : i < l.length
  · rw [midRow_at l _ _ _ hi]
    by_cases hik : i = k
    · subst hik
      rw [List.getElem?_set_self (by rw [midRow_len]; exact hi), if_pos ⟨by omega, h⟩]
    · rw [List.getElem?_set_ne (fun e => hik e.symm), midRow_at l _ _ _ hi, if_neg (fun e => hik (by have := e.2; omega)), if_neg (fun e => hik (by have := e.2; omega))]
  · rw [List.getElem?_eq_none (by rw [midRow_len]; omega), List.getElem?_eq_none (by rw [List.length_set, midRow_len]; omega)]

end Go.Proofs.Ytcaegpjbdcopoaa
/- impl.joinNames and impl.PathOf over paths. -/
namespace Go.Proofs.Ytcaegpjbdcopoaa
open Go.RowKit Go.Shelf
attribute [local go_sem] Oper.semAt_some

theorem keptN_from {w w' : World} {b B Bl : Nat} (h : Lib.OthersKept 5 (some b) w w') (hb : Below Bl w w') (hB : b < B) : KeepsN B w w' :=
  ⟨hb.size, fun k o hk ho hn => h k o ho (fun he => by injection he with he; omega) (fun c fz he => (hn c _ fz he).1 rfl)⟩

end Go.Proofs.Ytcaegpjbdcopoaa
/- ChildrenOf: the program's and the model's. -/
namespace Go.Proofs.Ytcaegpjbdcopoaa
open Go.RowKit Go.Shelf

def kidNames (l : List Seg) (i k : Nat) : ByteArray := ⟨((kidsOf l i k).flatMap (nmAt l)).toArray⟩
theorem kidNames_zero (l : List Seg) (i : Nat) : kidNames l i 0 = ⟨#[]⟩ := rfl
theorem kidNames_yes {l : List Seg} {i k : Nat} (hk : k < l.length) (h : parAt l k = (i : Int)) : kidNames l i (k + 1) = kidNames l i k ++ l[k].name := by
  apply WideShapes.bytes_inj
  show _ = (kidNames l i k ++ l[k].name).data.toList
  rw [ByteArray.data_append, Array.toList_append]
  show (kidsOf l i (k + 1)).flatMap (nmAt l) = (kidsOf l i k).flatMap (nmAt l) ++ _
  rw [kidsOf_succ, if_pos h, List.flatMap_append, List.flatMap_cons, List.flatMap_nil, List.append_nil, nmAt_of hk]
theorem kidNames_no {l : List Seg} {i k : Nat} (h : parAt l k ≠ (i : Int)) : kidNames l i (k + 1) = kidNames l i k := by
  unfold kidNames
  rw [kidsOf_succ, if_neg h, List.append_nil]
theorem kidNames_len {l : List Seg} (h : ∀ s ∈ l, s.name.size ≤ 1) (i : Nat) : ∀ k, k ≤ l.length → (kidNames l i k).size ≤ k
  | 0, _ => Nat.zero_le _
  | k + 1, hk => by
    have h1 := kidNames_len h i k (by omega)
    by_cases hp : parAt l k = (i : Int)
    · rw [kidNames_yes (by omega) hp, ByteArray.size_append]
      have := h _ (List.getElem_mem (show k < l.length by omega))
      omega
    · rw [kidNames_no hp]; omega

def kidsStr (l : List Seg) (s : ByteArray) : ByteArray := if indexB l s < 0 then ⟨#[]⟩ else kidNames l (indexB l s).toNat l.length
def hasSeg (l : List Seg) (s : ByteArray) : Bool := decide (0 ≤ indexB l s)
theorem index_valid {l : List Seg} {s : ByteArray} (h : 0 ≤ indexB l s) : validB l = true := by
  unfold indexB at h
  by_cases hv : validB l = true
  · exact hv
  · rw [if_neg hv] at h; omega

end Go.Proofs.Ytcaegpjbdcopoaa
/- PathOf: the program's and the model's. -/
namespace Go.Proofs.Ytcaegpjbdcopoaa
open Go.RowKit Go.Shelf

def namesAt (l : List Seg) (js : List Nat) : ByteArray := ⟨(js.flatMap (nmAt l)).toArray⟩
theorem namesAt_snoc {l : List Seg} (js : List Nat) {j : Nat} (hj : j < l.length) : namesAt l (js ++ [j]) = namesAt l js ++ l[j].name := by
  apply WideShapes.bytes_inj
  show _ = (namesAt l js ++ l[j].name).data.toList
  rw [ByteArray.data_append, Array.toList_append]
  show (js ++ [j]).flatMap (nmAt l) = js.flatMap (nmAt l) ++ _
  rw [List.flatMap_append, List.flatMap_cons, List.flatMap_nil, List.append_nil, nmAt_of hj]
theorem nmAt_len {l : List Seg} (h : ∀ s ∈ l, s.name.size ≤ 1) (j : Nat) : (nmAt l j).length ≤ 1 := by
  unfold nmAt
  cases hj : l[j]? with
  | none => exact Nat.zero_le _
  | some s =>
    have := h s (List.mem_of_getElem? hj)
    simpa using this
theorem namesAt_len {l : List Seg} (h : ∀ s ∈ l, s.name.size ≤ 1) : ∀ js : List Nat, (namesAt l js).size ≤ js.length
  | [] => Nat.le_refl 0
  | j :: js => by
    have h1 := namesAt_len h js
    have h2 := nmAt_len h j
    have e1 : ∀ is : List Nat, (namesAt l is).size = (is.flatMap (nmAt l)).length := fun is => by simp [namesAt, ByteArray.size]
    rw [e1] at h1 ⊢
    rw [List.flatMap_cons, List.length_append, List.length_cons]
    omega

set_option maxRecDepth 100000 in
set_option maxHeartbeats 400000 in
theorem l1Names_any (A : Option Addr) (l : List Seg) (c g cap base : Nat) (js : List Nat) (w : World) (hw : Segs w w.heap.size A l) (hl : l.length ≤ 1048576) (hone : ∀ s ∈ l, s.name.size ≤ 1) (hjs : ∀ j ∈ js, j < l.length) (hjl : js.length ≤ 1048577)
    (hown : w.ownsRow base 3 1 (.slice (some ⟨g, 0, none⟩) js.length cap) js.length ((js.map fun j : Nat => (j : Int)).map (Value.int .i64))) :
    Calls Try.prog 109 #[.slice A l.length c, .slice (some ⟨g, 0, none⟩) js.length cap] w fun e w' => e = .returned (.string (namesAt l js)) ∧ w = w' := by
  have HW : Hid (Segs w w.heap.size A l) := hw
  have HO := Lib.hid hown
  have HJ := Lib.hid hjs
  have H1 := Lib.hid hone
  clear hw hown hjs hone
  go_enter Try.func109, Try.ntmps109
  go_wp2
  go_loop [5, 10] (fun s i => ∃ (k : Nat), k ≤ js.length ∧ i = .int .i64 k ∧ s = .string (namesAt l (js.take k)))
    (fun _ i => js.length - (intOf i).toNat)
  case atStart => exact ⟨0, Nat.zero_le _, rfl, rfl⟩
  case round =>
    obtain ⟨k, hk, rfl, rfl⟩ := hrel
    by_cases hlt : k < js.length
    · have hj := HJ.out js[k] (List.getElem_mem hlt)
      have hc : w.cell? ⟨g, k, none⟩ = some (.int .i64 (js[k] : Int)) := by
        rw [HO.out.cellAt k (by omega)]
        simp [hlt]
      obtain ⟨b, o, rfl, hB, hc'⟩ := HW.out (by omega)
      obtain ⟨c0, c1, c2⟩ := hc' js[k] l[js[k]] (List.getElem?_eq_getElem hj)
      clear hc' c1 c2
      have HQ : Hid (namesAt l (js.take (k + 1)) = namesAt l (js.take k) ++ l[js[k]].name) := by
        show _ = _
        rw [List.take_succ_eq_append_getElem hlt, namesAt_snoc _ hj]
      have hlen : (namesAt l (js.take k)).size ≤ 1048577 := by
        have h1 := namesAt_len H1.out (js.take k)
        rw [List.length_take] at h1
        omega
      have hx1 := H1.out l[js[k]] (List.getElem_mem hj)
      have hj0 : (0 : Int) ≤ (js[k] : Int) := Int.natCast_nonneg _
      have hj1 : (js[k] : Int) < (l.length : Int) := by omega
      generalize l[js[k]] = x at *
      generalize js[k] = j at *
      go_wp2
      go_round
      case rel => exact ⟨k + 1, by omega, by go_num, by rw [HQ.out]⟩
      case measure => simp [intOf]; omega
    · obtain rfl : k = js.length := by omega
      have HE : Hid (namesAt l (js.take js.length) = namesAt l js) := by
        show _ = _
        rw [List.take_length]
      go_wp2
      go_ret
      exact ⟨by rw [← HE.out]; rfl, rfl⟩

def pathStr (l : List Seg) (s : ByteArray) : ByteArray := if indexB l s < 0 then ⟨#[]⟩ else namesAt l (rootPath l ((indexB l s).toNat + 1) (indexB l s).toNat)

set_option maxRecDepth 100000 in
set_option maxHeartbeats 400000 in
theorem specPath_any (A : Option Addr) (l : List Seg) (c : Nat) (s : ByteArray) (w : World) (hw : Segs w w.heap.size A l) (hl : l.length ≤ 1048576) (hn : Short l) :
    Calls Try.prog 94 #[.slice A l.length c, .string s] w fun e w' => e = .returned (.tuple #[.string (pathStr l s), .bool (hasSeg l s)]) ∧ Below w.heap.size w w' := by
  have HW : Hid (Segs w w.heap.size A l) := hw
  clear hw
  rcases indexB_bd l s with hi | ⟨h0, hi⟩
  · have HF : Hid (pathStr l s = ⟨#[]⟩ ∧ hasSeg l s = false) := ⟨if_pos (by omega), decide_eq_false (by omega)⟩
    have HI := Lib.hid hi
    clear hi
    go_enter Try.func94, Try.ntmps94
    go_wp2_with fail
    refine (l1Index_any _ _ _ _ _ HW.out hl hn).mono ?_
    rw [HI.out]
    rintro e w1 ⟨rfl, hb1⟩
    go_wp2
    go_ret2
    exact ⟨ret_two HF.out.1.symm HF.out.2.symm, hb1⟩
  · have HO : Hid _ := valid_names (index_valid h0)
    have HD : Hid (Down l l.length) := (valid_all (index_valid h0)).1.down
    obtain ⟨i, hk⟩ := Int.eq_ofNat_of_zero_le h0
    have HI := Lib.hid hk
    have hil : i < l.length := by omega
    have HF : Hid (pathStr l s = namesAt l (rootPath l (i + 1) i) ∧ hasSeg l s = true) := by
      refine ⟨?_, decide_eq_true h0⟩
      unfold pathStr
      rw [if_neg (by omega), hk, Int.toNat_natCast]
    have HP : Hid (pathOf l i = (rootPath l (i + 1) i).map fun j : Nat => (j : Int)) := rootPath_chain HD.out (i + 1) i hil (by omega)
    have HL : Hid (∀ j ∈ rootPath l (i + 1) i, j < l.length) := rootPath_lt HD.out (i + 1) i hil
    have HZ : Hid ((rootPath l (i + 1) i).length ≤ 1048577) := Nat.le_trans (rootPath_len l (i + 1) i) (by omega)
    clear hk hi h0
    go_enter Try.func94, Try.ntmps94
    go_wp2_with fail
    refine (l1Index_any _ _ _ _ _ HW.out hl hn).mono ?_
    rw [HI.out]
    rintro e w1 ⟨rfl, hb1⟩
    go_wp2_with fail
    refine (l1Path_any _ _ _ _ _ ((HW.out.below hb1).more hb1.size) hl hil (HD.out.mono (by omega))).mono ?_
    rw [HP.out]
    rintro e w2 ⟨g, cap, rfl, hown, hb2⟩
    rw [List.length_map] at hown ⊢
    have HO2 := Lib.hid hown
    have B2 := hb1.trans (hb2.mono hb1.size)
    clear hown hb1 hb2
    go_wp2_with fail
    refine (l1Names_any _ _ _ _ _ _ _ _ ((HW.out.below B2).more B2.size) hl HO.out HL.out HZ.out HO2.out).mono ?_
    rintro e w3 ⟨rfl, rfl⟩
    go_wp2
    go_ret2
    exact ⟨ret_two HF.out.1.symm HF.out.2.symm, B2⟩

end Go.Proofs.Ytcaegpjbdcopoaa
