/- Joined: Fj Ti Gy Fn. -/
import Derived.Test.YtafpefjjeddmeaaU20
import Derived.Test.YtafpefjjeddmeaaU12
import Derived.Test.YtafpefjjeddmeaaU17
import Derived.Test.YtafpefjjeddmeaaU04
import Derived.BigQuiet
/- A trace twice, plain; which letters stand in a trace. -/
namespace Go.Proofs.Ytafpefjjeddmeaa
open Go.RowKit

theorem callA_some {P : UInt8 → Bool} {d : Nat} {c : UInt8} {s : List UInt8} {k : Forest} {r1 : List UInt8} (h : callA P d c s = some (k, r1)) : ∃ d', d = d' + 1 ∧ P c = true ∧
    ((k = .nil ∧ r1 = s ∧ ∀ x u, s = x :: u → x ≠ 40) ∨ (∃ s', s = 40 :: s' ∧ k.isNil = false ∧ calls P d' s' = some (k, 41 :: r1))) := by
  cases d with
  | zero => rw [callA_zero] at h; cases h
  | succ d =>
    refine ⟨d, rfl, ?_⟩
    cases hP : P c with
    | false => rw [callA_no hP] at h; cases h
    | true =>
      refine ⟨rfl, ?_⟩
      cases s with
      | nil =>
        rw [callA_leaf hP (fun x u e => by cases e)] at h
        injection h with h
        injection h with h1 h2
        exact .inl ⟨h1.symm, h2.symm, fun x u e => by cases e⟩
      | cons x u =>
        by_cases hx : x = 40
        · subst hx
          rw [callA_open hP] at h
          refine .inr ⟨u, rfl, ?_⟩
          unfold closed at h
          split at h
          · cases h
          · cases h
          · cases h
          · next c' k' f' x' r' h7 =>
            split at h
            · next h8 =>
              injection h with h
              injection h with h1 h2
              subst h1 h2 h8
              exact ⟨rfl, h7⟩
            · cases h
        · rw [callA_leaf hP (fun y v e => by injection e with e1 e2; rw [← e1]; exact hx)] at h
          injection h with h
          injection h with h1 h2
          exact .inl ⟨h1.symm, h2.symm, fun y v e => by injection e with e1 e2; rw [← e1]; exact hx⟩

theorem calls_some_cons {P : UInt8 → Bool} {d : Nat} {c : UInt8} {s : List UInt8} {f : Forest} {r : List UInt8} (hc : c ≠ 41) (h : calls P d (c :: s) = some (f, r)) :
    ∃ k r1 f', callA P d c s = some (k, r1) ∧ calls P d r1 = some (f', r) ∧ f = .cons c k f' := by
  rw [calls_cons P d s hc] at h
  unfold thenBy at h
  split at h
  · cases h
  · next k r1 h2 =>
    split at h
    · cases h
    · next f' r2 h4 =>
      injection h with h
      injection h with h1 h2'
      subst h1 h2'
      exact ⟨k, r1, f', h2, h4, rfl⟩

theorem calls_more {P : UInt8 → Bool} {u : List UInt8} (hu : ∀ x v, u = x :: v → x ≠ 40) : ∀ (n d : Nat) (s : List UInt8), s.length ≤ n → ∀ f r, calls P d s = some (f, r) → calls P d (s ++ u) = if r = [] then ahead f (calls P d u) else some (f, r ++ u)
  | n, d, [], _, f, r, h => by
    rw [calls_nil] at h
    injection h with h
    injection h with h1 h2
    subst h1 h2
    rw [if_pos rfl, List.nil_append, ahead_nil]
  | 0, d, c :: s, hn, f, r, h => absurd hn (by simp)
  | n + 1, d, c :: s, hn, f, r, h => by
    by_cases hc : c = 41
    · subst hc
      rw [calls_close] at h
      injection h with h
      injection h with h1 h2
      subst h1 h2
      rw [if_neg (by simp), List.cons_append, calls_close]
    · obtain ⟨k, r1, f', h1, h2, rfl⟩ := calls_some_cons hc h
      have hl : r1.length ≤ s.length := callA_less P d c s k r1 h1
      have hn' : s.length ≤ n := by simpa using hn
      have h3 : callA P d c (s ++ u) = some (k, r1 ++ u) := by
        obtain ⟨d', rfl, hP, ⟨rfl, rfl, hx⟩ | ⟨s', rfl, hk, hcs⟩⟩ := callA_some h1
        · refine callA_leaf hP fun x v e => ?_
          cases r1 with
          | nil => exact hu x v e
          | cons y w => injection e with e1 e2; rw [← e1]; exact hx y w rfl
        · have := calls_more hu n d' s' (by simp at hn'; omega) _ _ hcs
          rw [if_neg (by simp)] at this
          rw [List.cons_append, callA_open hP, this]
          exact closed_app hk _
      rw [List.cons_append, calls_step .nil hc h3 |> (ahead_nil _).symm.trans, calls_more hu n d r1 (by omega) _ _ h2]
      split
      · rw [ahead_ahead]; rfl
      · rfl

theorem trace_head {l : List Seg} {d : Nat} {t : List UInt8} {f : Forest} (h : calls (callP l) d t = some (f, [])) : ∀ x v, t = x :: v → x ≠ 40 := by
  rintro x v rfl rfl
  obtain ⟨k, r1, f', h1, _⟩ := calls_some_cons (by decide) h
  rw [callA_no (callP_open l)] at h1
  cases h1

/-- A trace twice is one, unless it is too long. -/
theorem traceB_twice {l : List Seg} {t : List UInt8} {f : Forest} (h : traceB l t = some f) : traceB l (t ++ t) = if t.length + t.length ≤ 80 then some (f.app f) else none := by
  obtain ⟨h1, h2, h3⟩ := traceB_some h
  rw [traceB_eq, h1, Bool.true_and, List.length_append]
  by_cases hl : t.length + t.length ≤ 80
  · rw [if_pos (decide_eq_true hl), if_pos hl, calls_more (trace_head h3) _ _ _ (Nat.le_refl _) _ _ h3, if_pos rfl, h3]
    rfl
  · rw [if_neg (by simpa using hl), if_neg hl]

/-- All letters of calls are names. -/
def Forest.all (P : UInt8 → Bool) : Forest → Prop
  | .nil => True
  | .cons c k r => P c = true ∧ k.all P ∧ r.all P
theorem calls_all {P : UInt8 → Bool} : ∀ (n d : Nat) (s : List UInt8), s.length ≤ n → ∀ f r, calls P d s = some (f, r) → f.all P
  | n, d, [], _, f, r, h => by
    rw [calls_nil] at h
    injection h with h
    injection h with h1 h2
    subst h1
    exact trivial
  | 0, d, c :: s, hn, f, r, h => absurd hn (by simp)
  | n + 1, d, c :: s, hn, f, r, h => by
    by_cases hc : c = 41
    · subst hc
      rw [calls_close] at h
      injection h with h
      injection h with h1 h2
      subst h1
      exact trivial
    · obtain ⟨k, r1, f', h1, h2, rfl⟩ := calls_some_cons hc h
      have hl : r1.length ≤ s.length := callA_less P d c s k r1 h1
      have hn' : s.length ≤ n := by simpa using hn
      obtain ⟨d', rfl, hP, h4⟩ := callA_some h1
      refine ⟨hP, ?_, calls_all n _ r1 (by omega) _ _ h2⟩
      rcases h4 with ⟨rfl, _⟩ | ⟨s', rfl, _, hcs⟩
      · exact trivial
      · exact calls_all n d' s' (by simp at hn'; omega) _ _ hcs
theorem traceB_all {l : List Seg} {t : List UInt8} {f : Forest} (h : traceB l t = some f) : f.all (callP l) := by
  obtain ⟨_, _, h3⟩ := traceB_some h
  exact calls_all _ _ _ (Nat.le_refl _) _ _ h3

end Go.Proofs.Ytafpefjjeddmeaa
/- A row of numbers of the call's own; marks in numbers: what a law writes into what it was given, and whether it is held. -/
namespace Go.Proofs.Ytafpefjjeddmeaa.Si
open Go.RowKit

/-- Numbers in a row of the call's own. -/
def OwnInts (w : World) (B : Nat) (v : Value) (ts : List Int) : Prop := w.ownsRow B 3 1 v ts.length (ts.map (Value.int .i64))
theorem OwnInts.far {w w' : World} {B : Nat} {v : Value} {ts : List Int} (h : OwnInts w B v ts) (hk : ∀ g, v.ownBlock = some g → w'.heap[g]? = w.heap[g]?) : OwnInts w' B v ts := by
  refine ⟨h.1, ?_⟩
  rcases h.2 with h0 | ⟨g', cap, cur, rfl, hg, hh, r⟩
  · exact .inl h0
  · exact .inr ⟨g', cap, cur, rfl, hg, (hk g' rfl).trans hh, r⟩
theorem OwnInts.below {w w' : World} {B : Nat} {v : Value} {ts : List Int} (h : OwnInts w B v ts) (hb : Below w.heap.size w w') : OwnInts w' B v ts := h.far fun g hg => hb.block g (World.ownsRow.lt h g hg).2
theorem OwnInts.empty (w : World) {B : Nat} (hB : B ≤ w.heap.size) : OwnInts (w.alloc (.cells #[] 3)) B (.slice (some ⟨w.heap.size, 0, none⟩) 0 0) [] :=
  World.ownsRow_lit w #[] 0 hB (by simp [maxLen]) rfl
/-- A slice of numbers in memory below 'B'. -/
def Ints (w : World) (B : Nat) (A : Option Addr) (ts : List Int) : Prop :=
  0 < ts.length → ∃ b o, A = some ⟨b, o, none⟩ ∧ b < B ∧ ∀ (k : Nat) (s : Int), ts[k]? = some s → w.cell? ⟨b, o + k, none⟩ = some (.int .i64 s)
theorem Ints.below {w w' : World} {B : Nat} {A : Option Addr} {l : List Int} (h : Ints w B A l) (hb : Below B w w') : Ints w' B A l := fun hl => by
  obtain ⟨b, o, e, hB, hc⟩ := h hl
  refine ⟨b, o, e, hB, fun k s hk => ?_⟩
  rw [hb.cell hB]
  exact hc k s hk
theorem Ints.more {w : World} {B B' : Nat} {A : Option Addr} {l : List Int} (h : Ints w B A l) (hB : B ≤ B') : Ints w B' A l := fun hl => by
  obtain ⟨b, o, e, hb, hc⟩ := h hl
  exact ⟨b, o, e, Nat.lt_of_lt_of_le hb hB, hc⟩
theorem intsCell {w : World} {B g cap : Nat} {ts : List Int} (h : OwnInts w B (.slice (some ⟨g, 0, none⟩) ts.length cap) ts) {i : Nat} {s : Int} (hi : ts[i]? = some s) : w.cell? ⟨g, i, none⟩ = some (.int .i64 s) := by
  have hlt := (List.getElem?_eq_some_iff.1 hi).1
  have := World.ownsRow.cellAt h i (by omega)
  rw [this, List.getElem?_map, hi]
  rfl
theorem intsForm {w : World} {B : Nat} {v : Value} {ts : List Int} (h : OwnInts w B v ts) : ∃ A cap, v = .slice A ts.length cap ∧ Ints w w.heap.size A ts := by
  have h' := h
  rcases h.2 with ⟨rfl, h0⟩ | ⟨g, cap, cur, rfl, hg, hh, r⟩
  · exact ⟨none, 0, by rw [h0], fun h => absurd h (by omega)⟩
  · refine ⟨_, cap, rfl, fun _ => ⟨g, 0, rfl, (Array.getElem?_eq_some_iff.1 hh).1, fun k s hk => ?_⟩⟩
    rw [Nat.zero_add]
    exact intsCell h' hk
theorem intsOf {w : World} {B n cap : Nat} {A : Option Addr} {ts : List Int} (h : OwnInts w B (.slice A n cap) ts) : Ints w w.heap.size A ts := by
  obtain ⟨A', cap', e, h'⟩ := intsForm h
  injection e with e1 e2 e3
  rw [e1]
  exact h'
theorem intsFree {w : World} {B g cap n : Nat} {ts : List Int} (h : OwnInts w B (.slice (some ⟨g, 0, none⟩) n cap) ts) (j : Nat) : w.frozen? ⟨g, j, none⟩ = false := by
  rcases h.2 with ⟨h0, _⟩ | ⟨g', cap', cur, hv, hg, hh, _⟩
  · cases h0
  · injection hv with hv1 _ hv3
    injection hv1 with hv1
    injection hv1 with hv1
    subst hv1
    exact Row.free (hh : Row w g _ cur) j
theorem intsStore {w : World} {B g cap : Nat} {ts : List Int} (h : OwnInts w B (.slice (some ⟨g, 0, none⟩) ts.length cap) ts) (i : Nat) (s : Int) :
    OwnInts (w.setCell ⟨g, i, none⟩ (.int .i64 s)) B (.slice (some ⟨g, 0, none⟩) ts.length cap) (ts.set i s) := by
  unfold OwnInts at h ⊢
  rw [List.length_set]
  refine ⟨by simp, ?_⟩
  rcases h.2 with ⟨h0, _⟩ | ⟨g', cap', cur, hv, hg, hh, h1, h2, h3, h4⟩
  · cases h0
  · injection hv with hv1 _ hv3
    injection hv1 with hv1
    injection hv1 with hv1
    subst hv1 hv3
    have hr : Row w g 3 cur := hh
    refine .inr ⟨g, cap, _, rfl, hg, hr.put i _, h1, h2, by simpa using h3, ?_⟩
    rw [List.map_set, ← h4]
    simp only [Array.toList_setIfInBounds, List.take_set]
theorem intsFar {w w' : World} {B : Nat} {v : Value} {ts : List Int} {may : Nat → Prop} (h : OwnInts w B v ts) (ho : Only w w' may) (hm : ∀ g, v.ownBlock = some g → ¬ may g) : OwnInts w' B v ts :=
  h.far fun g hg => ho.block g (World.ownsRow.lt h g hg).2 (hm g hg)

/-- The first 'i' are marked. -/
def imarked (ts : List Int) (k : Nat) : Nat → List Int
  | 0 => ts
  | i + 1 => (imarked ts k i).set i ((k + i : Nat) : Int)
theorem imarked_len (l : List Int) (k : Nat) : ∀ i, (imarked l k i).length = l.length
  | 0 => rfl
  | i + 1 => by
    show ((imarked l k i).set i _).length = _
    rw [List.length_set, imarked_len l k i]
theorem imarked_at (l : List Int) (k : Nat) : ∀ i j, j < i → i ≤ l.length → (imarked l k i)[j]? = some ((k + j : Nat) : Int)
  | 0, _, h, _ => absurd h (by omega)
  | i + 1, j, h, hi => by
    show ((imarked l k i).set i _)[j]? = _
    by_cases hj : j = i
    · subst hj
      rw [List.getElem?_set_self (by rw [imarked_len]; omega)]
    · rw [List.getElem?_set_ne (by omega)]
      exact imarked_at l k i j (by omega) (by omega)

set_option maxRecDepth 100000 in
set_option maxHeartbeats 1000000 in
theorem eqIntS_same (A A' : Option Addr) (l : List Int) (c c' : Nat) (w : World) (hw : Ints w w.heap.size A l) (hw' : Ints w w.heap.size A' l) (hl : l.length ≤ 1048576) :
    Calls Try.prog 33 #[.slice A l.length c, .slice A' l.length c'] w fun e w' => e = .returned (.bool true) ∧ Below w.heap.size w w' := by
  have HW : Hid (Ints w w.heap.size A l) := hw
  have HW' : Hid (Ints w w.heap.size A' l) := hw'
  clear hw hw'
  go_enter Try.func33, Try.ntmps33
  go_wp2
  go_loopw [5] (fun i wr => ∃ (k : Nat), k ≤ l.length ∧ i = .int .i64 k ∧ Below w.heap.size w wr)
    (fun i _ => l.length - (intOf i).toNat)
  case atStart => exact ⟨0, Nat.zero_le _, rfl, Below.refl _ _⟩
  case round =>
    obtain ⟨k, hk, rfl, hb⟩ := hrel
    by_cases hlt : k < l.length
    · have hlt' : (k : Int) < (l.length : Int) := by omega
      have hk0 : (0 : Int) ≤ (k : Int) := Int.natCast_nonneg _
      obtain ⟨b, o, rfl, hB, hc⟩ := HW.out (by omega)
      obtain ⟨b', o', rfl, hB', hc'⟩ := HW'.out (by omega)
      have c0 := hc k l[k] (List.getElem?_eq_getElem hlt)
      have d0 := hc' k l[k] (List.getElem?_eq_getElem hlt)
      clear hc hc'
      rw [← hb.cell hB] at c0
      rw [← hb.cell hB'] at d0
      generalize l[k] = s at *
      have HB2 := Lib.hid hb.drew
      go_wp2
      go_quiet (fail)
      go_wp2
      go_roundw
      case rel => exact ⟨k + 1, by omega, by go_num, below_drewN hb _⟩
      case measure => simp [intOf]; omega
    · go_wp2
      go_ret
      exact ⟨rfl, hb⟩

set_option maxRecDepth 100000 in
set_option maxHeartbeats 1000000 in
theorem markIntS_any (B k : Nat) (v : Value) (l : List Int) (w : World) (hown : OwnInts w B v l) (hk : k = 1) (hl : l.length ≤ 1000) :
    Calls Try.prog 34 #[v, .int .i64 k] w fun e w' => e = .returned (.int .i64 ((k + l.length : Nat) : Int)) ∧ OwnInts w' B v (imarked l k l.length) ∧ Only w w' (fun b => v.ownBlock = some b) := by
  have hk9 : k ≤ 10 := by omega
  clear hk
  obtain ⟨A, cap, rfl, -⟩ := intsForm hown
  have HO := Lib.hid hown
  clear hown
  go_enter Try.func34, Try.ntmps34
  go_wp2
  go_loopw [1, 5] (fun a c wr => ∃ (i : Nat), i ≤ l.length ∧ c = .int .i64 i ∧ a = .int .i64 ((k + i : Nat) : Int) ∧ Hid (OwnInts wr B (.slice A l.length cap) (imarked l k i)) ∧ Hid (Only w wr (fun b => (Value.slice A l.length cap).ownBlock = some b)))
    (fun _ c _ => l.length - (intOf c).toNat)
  case atStart => exact ⟨0, Nat.zero_le _, rfl, rfl, HO, St.onlyRefl _ _⟩
  case round =>
    obtain ⟨i, hi, rfl, rfl, HT, HY⟩ := hrel
    by_cases hlt : i < l.length
    · have hlt' : (i : Int) < (l.length : Int) := by omega
      have hi0 : (0 : Int) ≤ (i : Int) := Int.natCast_nonneg _
      have hml := imarked_len l k i
      have hT := HT.out
      rw [← hml] at hT
      obtain ⟨g, cap', hv⟩ := own_form hT (by omega)
      injection hv with hA _ hc
      subst hA hc
      have hold : (imarked l k i)[i]? = some ((imarked l k i)[i]'(by omega)) := List.getElem?_eq_getElem (by omega)
      have hst := fun W (hW : OwnInts W B (.slice (some ⟨g, 0, none⟩) (imarked l k i).length cap) (imarked l k i)) => intsStore hW i ((k + i : Nat) : Int)
      generalize (imarked l k i)[i]'_ = old at *
      have d0 := intsCell hT hold
      have z0 := intsFree hT i
      have hT2 := hst wr hT
      rw [hml] at hT2
      have HT2 : Hid (OwnInts (wr.setCell ⟨g, i, none⟩ (.int .i64 ((k + i : Nat) : Int))) B (.slice (some ⟨g, 0, none⟩) l.length cap) (imarked l k (i + 1))) := hT2
      clear hT hst hold hml hT2 HT
      go_wp2
      go_roundw
      case rel => exact ⟨i + 1, by omega, by go_num, congrArg (Value.int .i64) (by omega), HT2, St.onlyPut HY.out rfl _ _⟩
      case measure => simp [intOf]; omega
    · obtain rfl : i = l.length := by omega
      go_wp2
      go_ret
      exact ⟨rfl, HT.out, HY.out⟩

set_option maxRecDepth 100000 in
set_option maxHeartbeats 2000000 in
theorem heldIntS_any (k : Nat) (A : Option Addr) (cap : Nat) (l : List Int) (w : World) (hw : Ints w w.heap.size A l) (hm : ∀ j, j < l.length → l[j]? = some ((k + j : Nat) : Int)) (hk : k = 1) (hl : l.length ≤ 1000) :
    Calls Try.prog 35 #[.slice A l.length cap, .int .i64 k] w fun e w' => e = .returned (.int .i64 ((k + l.length : Nat) : Int)) ∧ Below w.heap.size w w' := by
  have hk9 : k ≤ 10 := by omega
  clear hk
  have HW : Hid (Ints w w.heap.size A l) := hw
  have HM := Lib.hid hm
  clear hw hm
  go_enter Try.func35, Try.ntmps35
  go_wp2
  go_loopw [1, 5] (fun a c wr => ∃ (i : Nat), i ≤ l.length ∧ c = .int .i64 i ∧ a = .int .i64 ((k + i : Nat) : Int) ∧ Below w.heap.size w wr)
    (fun _ c _ => l.length - (intOf c).toNat)
  case atStart => exact ⟨0, Nat.zero_le _, rfl, rfl, Below.refl _ _⟩
  case round =>
    obtain ⟨i, hi, rfl, rfl, hb⟩ := hrel
    by_cases hlt : i < l.length
    · have hlt' : (i : Int) < (l.length : Int) := by omega
      have hi0 : (0 : Int) ≤ (i : Int) := Int.natCast_nonneg _
      obtain ⟨b, o, rfl, hB, hc⟩ := HW.out (by omega)
      have c0 := hc i _ (HM.out i hlt)
      clear hc
      rw [← hb.cell hB] at c0
      have HB2 := Lib.hid hb
      go_wp2
      go_roundw
      case rel => exact ⟨i + 1, by omega, by go_num, congrArg (Value.int .i64) (by omega), HB2.out⟩
      case measure => simp [intOf]; omega
    · obtain rfl : i = l.length := by omega
      go_wp2
      go_ret
      exact ⟨rfl, hb⟩

end Go.Proofs.Ytafpefjjeddmeaa.Si

namespace Go.Proofs.Ytafpefjjeddmeaa
open Go.RowKit

theorem imark1 (B : Nat) (v : Value) (l : List Int) (w : World) (hown : Si.OwnInts w B v l) (hl : l.length ≤ 1000) :
    Calls Try.prog 34 #[v, .int .i64 1] w fun e w' => e = .returned (.int .i64 ((1 + l.length : Nat) : Int)) ∧ Si.OwnInts w' B v (Si.imarked l 1 l.length) ∧ Only w w' (fun b => v.ownBlock = some b) :=
  Si.markIntS_any B 1 v l w hown rfl hl
theorem iheld1 (A : Option Addr) (n cap : Nat) (l : List Int) (w : World) (hn : l.length = n) (hw : Si.Ints w w.heap.size A (Si.imarked l 1 l.length)) (hl : l.length ≤ 1000) :
    Calls Try.prog 35 #[.slice A n cap, .int .i64 1] w fun e w' => e = .returned (.int .i64 ((1 + l.length : Nat) : Int)) ∧ Below w.heap.size w w' := by
  have h := Si.heldIntS_any 1 A cap (Si.imarked l 1 l.length) w hw (fun j hj => Si.imarked_at l 1 l.length j (by rw [Si.imarked_len] at hj; exact hj) (Nat.le_refl _)) rfl (by rw [Si.imarked_len]; exact hl)
  rw [Si.imarked_len, hn] at h
  rw [hn]
  exact h

end Go.Proofs.Ytafpefjjeddmeaa
/- How often each segment is called: plain, and the reference's. -/
namespace Go.Proofs.Ytafpefjjeddmeaa
open Go.RowKit

def lastB (x : List UInt8) : UInt8 := x.getLastD 0
/-- How many chains end with the segment of an index. -/
def cntAt (l : List Seg) (xs : List (List UInt8)) (i : Nat) : Nat := (xs.filter fun x => decide (indexB l ⟨#[lastB x]⟩ = (i : Int))).length
theorem cntAt_snoc (l : List Seg) (xs : List (List UInt8)) (x : List UInt8) (i : Nat) : cntAt l (xs ++ [x]) i = cntAt l xs i + if indexB l ⟨#[lastB x]⟩ = (i : Int) then 1 else 0 := by
  unfold cntAt
  rw [List.filter_append, List.length_append]
  congr 1
  by_cases h : indexB l ⟨#[lastB x]⟩ = (i : Int)
  · simp [h]
  · simp [h]
theorem cntAt_le (l : List Seg) (xs : List (List UInt8)) (i : Nat) : cntAt l xs i ≤ xs.length := List.length_filter_le _ _
def cntRow (l : List Seg) (xs : List (List UInt8)) : List Int := (List.range l.length).map fun i => (cntAt l xs i : Int)
theorem cntRow_len (l : List Seg) (xs : List (List UInt8)) : (cntRow l xs).length = l.length := by simp [cntRow]
theorem cntRow_at (l : List Seg) (xs : List (List UInt8)) {i : Nat} (hi : i < l.length) : (cntRow l xs)[i]? = some (cntAt l xs i : Int) := by simp [cntRow, hi]
theorem cntRow_snoc (l : List Seg) (xs : List (List UInt8)) (x : List UInt8) {j : Nat} (hj : indexB l ⟨#[lastB x]⟩ = (j : Int)) (hjl : j < l.length) : cntRow l (xs ++ [x]) = (cntRow l xs).set j ((cntAt l xs j : Int) + 1) := by
  apply List.ext_getElem?
  intro i
  by_cases hi : i < l.length
  · rw [cntRow_at l _ hi, cntAt_snoc, hj]
    by_cases hij : i = j
    · subst hij
      rw [List.getElem?_set_self (by rw [cntRow_len]; exact hi), if_pos rfl]
      rfl
    · rw [List.getElem?_set_ne (fun e => hij e.symm), cntRow_at l _ hi, if_neg (by omega)]
      rfl
  · rw [List.getElem?_eq_none (by rw [cntRow_len]; omega), List.getElem?_eq_none (by rw [List.length_set, cntRow_len]; omega)]
def callsRes (l : List Seg) (t : ByteArray) : List Int := match traceB l t.data.toList with
  | none => []
  | some f => cntRow l (chainsB [] f)
def CallsResPost (w : World) (l : List Seg) (t : ByteArray) (e : Ending) (w' : World) : Prop :=
  ∃ v, e = .returned (.tuple #[v, .bool (traceB l t.data.toList).isSome]) ∧ Si.OwnInts w' w.heap.size v (callsRes l t) ∧ Below w.heap.size w w'

theorem str_last (p : List UInt8) (d : UInt8) : (strOf (p ++ [d])).extract ((strOf (p ++ [d])).size - 1) (strOf (p ++ [d])).size = ⟨#[d]⟩ := by
  have hs : (strOf (p ++ [d])).size = p.length + 1 := by rw [str_size]; simp
  rw [hs]
  apply ByteArray.ext
  rw [ByteArray.data_extract]
  apply Array.ext'
  simp [strOf]
/-- Each chain ends with a name. -/
theorem chainsB_last {P : UInt8 → Bool} : ∀ (f : Forest) (a : List UInt8), f.all P → ∀ x ∈ chainsB a f, ∃ y c, x = y ++ [c] ∧ P c = true
  | .nil, _, _, x, h => by cases h
  | .cons c k r, a, hp, x, h => by
    obtain ⟨h1, h2, h3⟩ := hp
    have h' : x ∈ (a ++ [c]) :: (chainsB (a ++ [c]) k ++ chainsB a r) := h
    rcases List.mem_cons.1 h' with rfl | h'
    · exact ⟨a, c, rfl, h1⟩
    · rcases List.mem_append.1 h' with h' | h'
      · exact chainsB_last k _ h2 x h'
      · exact chainsB_last r _ h3 x h'
theorem lastB_snoc (y : List UInt8) (c : UInt8) : lastB (y ++ [c]) = c := by simp [lastB]
theorem callP_index {l : List Seg} {c : UInt8} (h : callP l c = true) : ∃ j : Nat, indexB l ⟨#[c]⟩ = (j : Int) ∧ j < l.length := by
  have h0 : 0 ≤ indexB l ⟨#[c]⟩ := of_decide_eq_true h
  obtain ⟨j, hj⟩ := Int.eq_ofNat_of_zero_le h0
  rcases indexB_bd l ⟨#[c]⟩ with hi | ⟨_, hi⟩
  · omega
  · exact ⟨j, hj, by omega⟩

theorem run_make_ints (n : Nat) (hn : n ≤ 1048576) (W : World) :
    (Instr.makeSlice 29 (.int .i64 (n : Int)) (.int .i64 (n : Int))).run Try.prog W = .ok (.slice (some ⟨W.heap.size, 0, none⟩) n n) (W.alloc (.cells (madeCells #[.int .i64 0] n) 3)) := by
  obtain ⟨i0, hi, hz0, hz1, hz2⟩ := info_parts info_int
  have hr := run_make (P := Try.prog) W 29 3 i0 (.int .i64 0) Try.underlying29 hi hz0 .i64 .i64 n n (by omega) (by omega) (by rw [hz2]; omega) (by omega)
  simp only [Int.toNat_natCast, hz1, Nat.mul_one] at hr
  exact hr
/-- A new row of noughts. -/
theorem OwnInts_made (W : World) {B : Nat} (hB : B ≤ W.heap.size) (l : List Seg) (hl : l.length ≤ 1048576) : Si.OwnInts (W.alloc (.cells (madeCells #[.int .i64 0] l.length) 3)) B (.slice (some ⟨W.heap.size, 0, none⟩) l.length l.length) (cntRow l []) := by
  have hlen := cntRow_len l []
  unfold Si.OwnInts
  rw [hlen]
  have hcs : madeCells #[.int .i64 0] l.length = ((cntRow l []).map (Value.int .i64)).toArray := by
    apply Array.toList_inj.1
    apply List.ext_getElem?
    intro i
    unfold madeCells cntRow
    by_cases hi : i < l.length
    · simp [hi, cntAt, Nat.mod_one]
    · simp [hi]
  rw [hcs]
  have := World.ownsRow_lit (base := B) (e := 3) (size := 1) W ((cntRow l []).map (Value.int .i64)).toArray l.length hB (by unfold maxLen; omega) (by simp [hlen])
  simpa using this

set_option maxRecDepth 100000 in
set_option maxHeartbeats 2000000 in
theorem specCallsOf_any (A : Option Addr) (l : List Seg) (c : Nat) (t : ByteArray) (w : World) (hw : Segs w w.heap.size A l) (hl : l.length ≤ 1048576) (hn : Short l) (ht : t.size ≤ 1048576) :
    Calls Try.prog 16 #[.slice A l.length c, .string t] w (CallsResPost w l t) := by
  have HW : Hid (Segs w w.heap.size A l) := hw
  have HQ := Lib.hid (specChainsOf_any A l c t w hw hl hn ht)
  unfold CallsResPost callsRes
  unfold ChainsResPost at HQ
  cases hR : traceB l t.data.toList with
  | none =>
    rw [hR] at HQ
    have HE : Hid (∀ W : World, Below w.heap.size w W → ∃ v, Ending.returned (.tuple #[.slice (some ⟨W.heap.size, 0, none⟩) 0 0, .bool false]) = .returned (.tuple #[v, .bool (none : Option Forest).isSome]) ∧ Si.OwnInts (W.alloc (.cells #[] 3)) w.heap.size v [] ∧ Below w.heap.size w (W.alloc (.cells #[] 3))) :=
      fun W hb => ⟨_, rfl, Si.OwnInts.empty W hb.size, hb.alloc hb.size _⟩
    clear hw hn hR
    go_enter Try.func16, Try.ntmps16
    go_wp2_with fail
    refine Calls.mono HQ.out ?_
    rintro e w2 ⟨v, rfl, -, hb⟩
    go_wp2
    go_ret2
    exact HE.out _ hb
  | some f =>
    have HL := Lib.hid (chainsRes_len hR)
    have HC : Hid (chainsRes l t = (chainsB [] f).map (fun x => strOf (rootB l :: x))) := by
      show _ = _
      unfold chainsRes
      rw [hR]
      show (chainsB [rootB l] f).map strOf = _
      rw [show [rootB l] = [rootB l] ++ [] from rfl, chainsB_pre, List.map_map]
      rfl
    have HN : Hid ((chainsB [] f).length = f.size) := chainsB_len f []
    have HA : Hid (∀ x ∈ chainsB [] f, (∃ y c, x = y ++ [c] ∧ callP l c = true) ∧ x.length ≤ 8) := fun x hx => by
      refine ⟨chainsB_last f [] (traceB_all hR) x hx, ?_⟩
      have h1 := (chainsB_bound f [] x hx).1
      have h2 := (traceB_size hR).2
      simp at h1
      omega
    have hsz := (traceB_size hR).1
    have HI := Lib.hid (fun s W h => l1Index_any A l c s W h hl hn)
    rw [hR] at HQ
    have HE : Hid (∀ (v : Value) (W : World), Si.OwnInts W w.heap.size v (cntRow l (chainsB [] f)) → Below w.heap.size w W → ∃ u, Ending.returned (.tuple #[v, .bool true]) = .returned (.tuple #[u, .bool (some f).isSome]) ∧ Si.OwnInts W w.heap.size u (cntRow l (chainsB [] f)) ∧ Below w.heap.size w W) :=
      fun v W h hb => ⟨v, rfl, h, hb⟩
    clear hw hn hR
    generalize chainsRes l t = ts at *
    generalize hxs : chainsB [] f = xs at *
    have HXS := Lib.hid hxs
    clear hxs
    have HTS : Hid (ts.length = xs.length) := by show _ = _; rw [HL.out, HN.out]
    have htl : ts.length ≤ 80 := by rw [HL.out]; exact hsz
    have hmk := run_make_ints l.length hl
    go_enter Try.func16, Try.ntmps16
    go_wp2_with fail
    refine Calls.mono HQ.out ?_
    rintro e w2 ⟨v, rfl, ho, hb⟩
    obtain ⟨A2, cap2, rfl, -⟩ := St.textsForm ho
    have HB := Lib.hid hb
    have HO := Lib.hid ho
    have HM0 := Lib.hid (OwnInts_made w2 hb.size l hl)
    have HB0 : Hid (Below w2.heap.size w2 (w2.alloc (.cells (madeCells #[.int .i64 0] l.length) 3))) := (Below.refl _ w2).alloc (Nat.le_refl _) _
    clear ho hb
    go_wp2
    go_loopw [25] (fun i wr => ∃ k : Nat, k ≤ ts.length ∧ i = .int .i64 k ∧ Hid (Si.OwnInts wr w.heap.size (.slice (some ⟨w2.heap.size, 0, none⟩) l.length l.length) (cntRow l (xs.take k))) ∧ Hid (Below w2.heap.size w2 wr) ∧ Hid (w2.heap.size < wr.heap.size))
      (fun i _ => ts.length - (intOf i).toNat)
    case atStart => exact ⟨0, Nat.zero_le _, rfl, HM0, HB0, by show _ < _; simp⟩
    case round =>
      obtain ⟨k, hk, rfl, HM, HBr, HZ⟩ := hrel
      clear HM0 HB0
      by_cases hlt : k < ts.length
      · have hkx : k < xs.length := by rw [← HTS.out]; exact hlt
        obtain ⟨⟨y, d, hyd, hcp⟩, hx8⟩ := HA.out xs[k] (List.getElem_mem hkx)
        obtain ⟨j, hj, hjl⟩ := callP_index hcp
        have hts : ts[k]? = some (strOf (rootB l :: xs[k])) := by rw [HC.out, List.getElem?_map, List.getElem?_eq_getElem hkx]; rfl
        obtain ⟨b, o, hA2, hB2, hc⟩ := strsOf HO.out (by omega)
        subst hA2
        have c0 : wr.cell? ⟨b, o + k, none⟩ = some (.string (strOf (rootB l :: xs[k]))) := (HBr.out.cell (p := ⟨b, o + k, none⟩) hB2).trans (hc k _ hts)
        have hsz1 : (strOf (rootB l :: xs[k])).size = xs[k].length + 1 := by rw [str_size]; rfl
        have hlen1 : 1 ≤ xs[k].length := by rw [hyd]; simp
        have hext : (strOf (rootB l :: xs[k])).extract ((strOf (rootB l :: xs[k])).size - 1) (strOf (rootB l :: xs[k])).size = ⟨#[d]⟩ := by
          rw [hyd]
          exact str_last (rootB l :: y) d
        have h3 : ((strOf (rootB l :: xs[k])).size : Int) - 1 = (((strOf (rootB l :: xs[k])).size - 1 : Nat) : Int) := by omega
        have hzz : 2 ≤ (strOf (rootB l :: xs[k])).size ∧ (strOf (rootB l :: xs[k])).size ≤ 9 := by omega
        have hj2 : indexB l ⟨#[lastB xs[k]]⟩ = (j : Int) := by rw [hyd, lastB_snoc]; exact hj
        have HSN : Hid (cntRow l (xs.take (k + 1)) = (cntRow l (xs.take k)).set j ((cntAt l (xs.take k) j : Int) + 1)) := by
          show _ = _
          rw [List.take_succ_eq_append_getElem hkx]
          exact cntRow_snoc l _ _ hj2 hjl
        have hcl := cntAt_le l (xs.take k) j
        have hct : cntAt l (xs.take k) j ≤ 80 := by
          rw [List.length_take] at hcl
          omega
        have HCA : Hid ((cntRow l (xs.take k))[j]? = some (cntAt l (xs.take k) j : Int)) := cntRow_at l _ hjl
        have HLC := Lib.hid (cntRow_len l (xs.take k))
        have HJ := Lib.hid hj
        have HX := Lib.hid hext
        have h3' := h3
        obtain ⟨z1, z2⟩ := hzz
        clear hts hc hsz1 hlen1 hext hj2 hcl hyd hcp hj h3'
        generalize strOf (rootB l :: xs[k]) = z at *
        generalize cntAt l (xs.take k) j = q at *
        generalize cntRow l (xs.take k) = row at *
        go_wp2_with fail
        rw [HX.out]
        refine (HI.out _ _ ((HW.out.below (HB.out.trans (HBr.out.mono HB.out.size))).more (Nat.le_trans HB.out.size HBr.out.size))).mono ?_
        rw [HJ.out]
        rintro e w3 ⟨rfl, hb3⟩
        have hM3 : Si.OwnInts w3 w.heap.size (.slice (some ⟨w2.heap.size, 0, none⟩) row.length l.length) row := by rw [HLC.out]; exact HM.out.below hb3
        have d0 := Si.intsCell hM3 HCA.out
        have z0 := Si.intsFree hM3 j
        have hM4 := Si.intsStore hM3 j ((q : Int) + 1)
        rw [HLC.out, ← HSN.out] at hM4
        have HM4 := Lib.hid hM4
        have HB4 : Hid (Below w2.heap.size w2 (w3.setCell ⟨w2.heap.size, j, none⟩ (.int .i64 ((q : Int) + 1)))) := (HBr.out.trans (hb3.mono HBr.out.size)).setCell (p := ⟨w2.heap.size, j, none⟩) (Nat.le_refl _) _
        have HZ4 : Hid (w2.heap.size < (w3.setCell ⟨w2.heap.size, j, none⟩ (.int .i64 ((q : Int) + 1))).heap.size) := by
          show _ < _
          have := hb3.size
          have := HZ.out
          simp [World.setCell]
          omega
        have hj0 : (0 : Int) ≤ (j : Int) := Int.natCast_nonneg _
        have hj1 : (j : Int) < (l.length : Int) := by omega
        clear hM3 hM4 hb3 HM HBr HZ
        go_wp2
        go_roundw
        case rel => exact ⟨k + 1, by omega, by go_num, HM4, HB4, HZ4⟩
        case measure => simp [intOf]; omega
      · have hkl : k = ts.length := by omega
        have HMF : Hid (Si.OwnInts wr w.heap.size (.slice (some ⟨w2.heap.size, 0, none⟩) l.length l.length) (cntRow l xs)) := by
          have := HM.out
          rw [hkl, HTS.out, List.take_length] at this
          exact this
        have hfin := HE.out _ _ HMF.out (HB.out.trans (HBr.out.mono HB.out.size))
        rw [← HXS.out] at hfin
        have HFIN := Lib.hid hfin
        clear hkl hfin
        go_wp2
        go_ret2
        exact HFIN.out

end Go.Proofs.Ytafpefjjeddmeaa
/- The program's calls: their methods, and what is needed for them, written out. -/
namespace Go.Proofs.Ytafpefjjeddmeaa
open Go.RowKit

theorem meth_name_leaf (c : UInt8) (w : World) : (method 306 172 (.agg #[.string ⟨#[c]⟩]) "loop.example/segmentrooms/impl.name").run Try.prog w = .ok (178, .agg #[.string ⟨#[c]⟩]) w := by kernel_rfl
theorem meth_calls_leaf (c : UInt8) (w : World) : (method 306 172 (.agg #[.string ⟨#[c]⟩]) "loop.example/segmentrooms/impl.calls").run Try.prog w = .ok (177, .agg #[.string ⟨#[c]⟩]) w := by kernel_rfl
theorem meth_name_branch (c : UInt8) (A : Option Addr) (n cap : Nat) (w : World) : (method 306 174 (.agg #[.string ⟨#[c]⟩, .slice A n cap]) "loop.example/segmentrooms/impl.name").run Try.prog w = .ok (178, .agg #[.string ⟨#[c]⟩]) w := by kernel_rfl
theorem meth_calls_branch (c : UInt8) (A : Option Addr) (n cap : Nat) (w : World) : (method 306 174 (.agg #[.string ⟨#[c]⟩, .slice A n cap]) "loop.example/segmentrooms/impl.calls").run Try.prog w = .ok (180, .agg #[.string ⟨#[c]⟩, .slice A n cap]) w := by kernel_rfl

set_option maxRecDepth 100000 in
theorem leafName_any (c : UInt8) (w : World) : Calls Try.prog 178 #[.agg #[.string ⟨#[c]⟩]] w fun e w' => e = .returned (.string ⟨#[c]⟩) ∧ w' = w.alloc (.cells #[.string ⟨#[c]⟩] 172) := by
  go_enter Try.func178, Try.ntmps178
  go_wp2
  go_ret
  exact ⟨rfl, rfl⟩
set_option maxRecDepth 100000 in
theorem leafCalls_any (c : UInt8) (w : World) : Calls Try.prog 177 #[.agg #[.string ⟨#[c]⟩]] w fun e w' => e = .returned (.slice none 0 0) ∧ w' = w.alloc (.cells #[.string ⟨#[c]⟩] 172) := by
  go_enter Try.func177, Try.ntmps177
  go_wp2
  go_ret
  exact ⟨rfl, rfl⟩
set_option maxRecDepth 100000 in
theorem branchCalls_any (c : UInt8) (A : Option Addr) (n cap : Nat) (w : World) : Calls Try.prog 180 #[.agg #[.string ⟨#[c]⟩, .slice A n cap]] w fun e w' => e = .returned (.slice A n cap) ∧ w' = w.alloc (.cells #[.string ⟨#[c]⟩, .slice A n cap] 174) := by
  go_enter Try.func180, Try.ntmps180
  go_wp2
  go_ret
  exact ⟨rfl, rfl⟩

/-- What the methods of a call say, whichever of the two it is. -/
structure CallFacts (T : TypeId) (x : Value) (c : UInt8) (kv : Value) : Prop where
  name : ∀ w : World, (method 306 T x "loop.example/segmentrooms/impl.name").run Try.prog w = .ok (178, .agg #[.string ⟨#[c]⟩]) w
  calls : ∃ K y o, (∀ w : World, (method 306 T x "loop.example/segmentrooms/impl.calls").run Try.prog w = .ok (K, y) w) ∧ (∀ w : World, (callFunc K #[y]).run Try.prog w = .ok (.enter K #[y]) w) ∧ ∀ w : World, Calls Try.prog K #[y] w fun e w' => e = .returned kv ∧ w' = w.alloc o
theorem IsCall.facts {w : World} {S : Nat → Prop} {c : UInt8} {k : Forest} {v : Value} (h : IsCall w S c k v) : ∃ T x kv, v = .iface T x ∧ CallFacts T x c kv ∧ SliceIs w S kv k := by
  rcases h with ⟨h1, rfl⟩ | ⟨h1, q, cap, rfl, hs, hk⟩
  · have h0 : k.len = 0 := by rw [Forest.isNil_len] at h1; exact of_decide_eq_true h1
    exact ⟨_, _, .slice none 0 0, rfl, ⟨meth_name_leaf c, _, _, _, meth_calls_leaf c, fun w => enters_of Try.func177 (by kernel_rfl) rfl _ w, leafCalls_any c⟩, none, 0, by rw [h0], fun h => by omega⟩
  · exact ⟨_, _, .slice (some ⟨q, 0, none⟩) k.len cap, rfl, ⟨meth_name_branch c _ _ _, _, _, _, meth_calls_branch c _ _ _, fun w => enters_of Try.func180 (by kernel_rfl) rfl _ w, branchCalls_any c _ _ _⟩, _, cap, rfl, fun _ => ⟨q, rfl, hs, hk⟩⟩

end Go.Proofs.Ytafpefjjeddmeaa
