/- Joined: Fs Fj Ti Gy Fn Ff Fo. -/
import Derived.Test.YtnknfpfpjijemaaU14
import Derived.Test.YtnknfpfpjijemaaU15
import Derived.WalkLawsBesides
import Derived.Test.YtnknfpfpjijemaaU11
import Derived.Test.YtnknfpfpjijemaaU04
import Derived.BigQuiet
import Derived.Test.YtnknfpfpjijemaaU12
import Derived.Test.YtnknfpfpjijemaaU05
/- The reference's NeedsOf, ChainsOf, CountCalls, DepthOf. -/
namespace Go.Proofs.Ytnknfpfpjijemaa
open Go.RowKit

theorem own_low {w : World} {B B' : Nat} {e : TypeId} {size : Nat} {v : Value} {n : Nat} {xs : List Value} (h : w.ownsRow B e size v n xs) (hB : B' ≤ B) : w.ownsRow B' e size v n xs := by
  refine ⟨h.1, ?_⟩
  rcases h.2 with h0 | ⟨g, cap, cur, e1, hg, r⟩
  · exact .inl h0
  · exact .inr ⟨g, cap, cur, e1, by omega, r⟩
/-- The chains of a trace. -/
def chainsRes (l : List Seg) (t : ByteArray) : List ByteArray := match traceB l t.data.toList with
  | none => []
  | some f => (chainsB [rootB l] f).map strOf
def ChainsResPost (w : World) (l : List Seg) (t : ByteArray) (e : Ending) (w' : World) : Prop :=
  ∃ v, e = .returned (.tuple #[v, .bool (traceB l t.data.toList).isSome]) ∧ OwnTexts w' w.heap.size v (chainsRes l t) ∧ Below w.heap.size w w'

set_option maxRecDepth 100000 in
set_option maxHeartbeats 1000000 in
theorem specChainsOf_any (A : Option Addr) (l : List Seg) (c : Nat) (t : ByteArray) (w : World) (hw : Segs w w.heap.size A l) (hl : l.length ≤ 1048576) (hn : Short l) (ht : t.size ≤ 1048576) :
    Calls Try.prog 85 #[.slice A l.length c, .string t] w (ChainsResPost w l t) := by
  have HQ := Lib.hid (l4Read_any A l c t w hw hl hn ht)
  have HW : Hid (Segs w w.heap.size A l) := hw
  unfold ChainsResPost chainsRes
  cases hR : traceB l t.data.toList with
  | none =>
    rw [hR] at HQ
    have HE : Hid (∀ W : World, Below w.heap.size w W → ∃ v, Ending.returned (.tuple #[.slice (some ⟨W.heap.size, 0, none⟩) 0 0, .bool false]) = .returned (.tuple #[v, .bool (none : Option Forest).isSome]) ∧ OwnTexts (W.alloc (.cells #[] 9)) w.heap.size v [] ∧ Below w.heap.size w (W.alloc (.cells #[] 9))) :=
      fun W hb => ⟨_, rfl, OwnTexts.empty W hb.size, hb.alloc hb.size _⟩
    clear hw hn hR
    go_enter Try.func85, Try.ntmps85
    go_wp2_with fail
    refine Calls.mono HQ.out ?_
    rintro e w2 ⟨v, rfl, -, hb⟩
    go_wp2
    go_ret2
    exact HE.out _ hb
  | some f =>
    obtain ⟨hv, h80, hcl⟩ := traceB_some hR
    have hsz := (traceB_size hR).1
    have HV := Lib.hid hv
    have hl1 := (valid_all hv).2.2
    rw [hR] at HQ
    have HE : Hid (∀ (v : Value) (W : World), SolidTexts W w.heap.size v ((chainsB [rootB l] f).map strOf) → Below w.heap.size w W → ∃ u, Ending.returned (.tuple #[v, .bool true]) = .returned (.tuple #[u, .bool (some f).isSome]) ∧ OwnTexts W w.heap.size u ((chainsB [rootB l] f).map strOf) ∧ Below w.heap.size w W) :=
      fun v W h hb => ⟨v, rfl, h.1, hb⟩
    clear hw hn hR h80 hcl hv
    go_enter Try.func85, Try.ntmps85
    go_wp2_with fail
    refine Calls.mono HQ.out ?_
    rintro e w2 ⟨v, rfl, (⟨f', hf', hsl⟩ | ⟨h0, -⟩), hb⟩
    · obtain rfl : f = f' := by injection hf'
      have HSL : Hid (IsKids w2 (· < w2.heap.size) f v) := hsl.keep fun q hq => ⟨hq.2, rfl⟩
      have HB := Lib.hid hb
      obtain ⟨b0, o0, rfl, hB0, c0⟩ := (HW.out.below hb).root HV.out
      clear hsl hb hf' HQ
      go_wp2_with fail
      refine (l4Chains_any (f.size + 1) f [rootB l] v w2 (by omega) (by simp; omega) HSL.out).mono ?_
      rintro e w3 ⟨v3, rfl, hs3, hb3⟩
      have HB3 := Lib.hid (HB.out.trans (hb3.mono HB.out.size))
      have HS3 : Hid (SolidTexts w3 w.heap.size v3 ((chainsB [rootB l] f).map strOf)) := ⟨own_low hs3.1 HB.out.size, hs3.2⟩
      clear hb3 hs3
      go_wp2
      go_ret2
      exact HE.out _ _ HS3.out HB3.out
    · cases h0

def countRes (l : List Seg) (t : ByteArray) : Int := match traceB l t.data.toList with
  | none => -1
  | some f => f.size
theorem chainsRes_len {l : List Seg} {t : ByteArray} {f : Forest} (h : traceB l t.data.toList = some f) : (chainsRes l t).length = f.size := by
  unfold chainsRes
  rw [h]
  show ((chainsB [rootB l] f).map strOf).length = _
  rw [List.length_map, chainsB_len]

/-- The greatest length. -/
def mxLen (L : List (List UInt8)) : Nat := L.foldl (fun m x => max m x.length) 0
theorem mxLen_snoc (L : List (List UInt8)) (x : List UInt8) : mxLen (L ++ [x]) = max (mxLen L) x.length := by simp [mxLen, List.foldl_append]
theorem mxLen_le {L : List (List UInt8)} {n : Nat} (h : ∀ x ∈ L, x.length ≤ n) : mxLen L ≤ n := by
  have key : ∀ (L : List (List UInt8)) (m : Nat), m ≤ n → (∀ x ∈ L, x.length ≤ n) → L.foldl (fun m x => max m x.length) m ≤ n := by
    intro L
    induction L with
    | nil => intro m hm _; exact hm
    | cons y L ih => intro m hm hx; exact ih _ (Nat.max_le.2 ⟨hm, hx y (by simp)⟩) (fun x hx' => hx x (by simp [hx']))
  exact key L 0 (Nat.zero_le _) h
def depthRes (l : List Seg) (t : ByteArray) : Int := match traceB l t.data.toList with
  | none => -1
  | some f => mxLen (chainsB [] f)

end Go.Proofs.Ytnknfpfpjijemaa
/- A trace twice, plain; which letters stand in a trace. -/
namespace Go.Proofs.Ytnknfpfpjijemaa
open Go.RowKit

theorem callA_some {P : UInt8 → Bool} {d : Nat} {c : UInt8} {s : List UInt8} {k : Forest} {r1 : List UInt8} (h : callA P d c s = some (k, r1)) : ∃ d', d = d' + 1 ∧ P c = true ∧
    ((k = .nil ∧ r1 = s ∧ ∀ x u, s = x :: u → x ≠ 40) ∨ (∃ s', s = 40 :: s' ∧ k.isNil = false ∧ calls P d' s' = some (k, 41 :: r1))) := by
  cases d with
  | zero => rw [callA_zero] at h; cases h
  | succ d =>
    refine ⟨d, rfl, ?_⟩
    cases hP : P c with
    | false => rw [callA_no hP] at h; cases h
    | true =>
      refine ⟨rfl, ?_⟩
      cases s with
      | nil =>
        rw [callA_leaf hP (fun x u e => by cases e)] at h
        injection h with h
        injection h with h1 h2
        exact .inl ⟨h1.symm, h2.symm, fun x u e => by cases e⟩
      | cons x u =>
        by_cases hx : x = 40
        · subst hx
          rw [callA_open hP] at h
          refine .inr ⟨u, rfl, ?_⟩
          unfold closed at h
          split at h
          · cases h
          · cases h
          · cases h
          · next c' k' f' x' r' h7 =>
            split at h
            · next h8 =>
              injection h with h
              injection h with h1 h2
              subst h1 h2 h8
              exact ⟨rfl, h7⟩
            · cases h
        · rw [callA_leaf hP (fun y v e => by injection e with e1 e2; rw [← e1]; exact hx)] at h
          injection h with h
          injection h with h1 h2
          exact .inl ⟨h1.symm, h2.symm, fun y v e => by injection e with e1 e2; rw [← e1]; exact hx⟩

theorem calls_some_cons {P : UInt8 → Bool} {d : Nat} {c : UInt8} {s : List UInt8} {f : Forest} {r : List UInt8} (hc : c ≠ 41) (h : calls P d (c :: s) = some (f, r)) :
    ∃ k r1 f', callA P d c s = some (k, r1) ∧ calls P d r1 = some (f', r) ∧ f = .cons c k f' := by
  rw [calls_cons P d s hc] at h
  unfold thenBy at h
  split at h
  · cases h
  · next k r1 h2 =>
    split at h
    · cases h
    · next f' r2 h4 =>
      injection h with h
      injection h with h1 h2'
      subst h1 h2'
      exact ⟨k, r1, f', h2, h4, rfl⟩

theorem calls_more {P : UInt8 → Bool} {u : List UInt8} (hu : ∀ x v, u = x :: v → x ≠ 40) : ∀ (n d : Nat) (s : List UInt8), s.length ≤ n → ∀ f r, calls P d s = some (f, r) → calls P d (s ++ u) = if r = [] then ahead f (calls P d u) else some (f, r ++ u)
  | n, d, [], _, f, r, h => by
    rw [calls_nil] at h
    injection h with h
    injection h with h1 h2
    subst h1 h2
    rw [if_pos rfl, List.nil_append, ahead_nil]
  | 0, d, c :: s, hn, f, r, h => absurd hn (by simp)
  | n + 1, d, c :: s, hn, f, r, h => by
    by_cases hc : c = 41
    · subst hc
      rw [calls_close] at h
      injection h with h
      injection h with h1 h2
      subst h1 h2
      rw [if_neg (by simp), List.cons_append, calls_close]
    · obtain ⟨k, r1, f', h1, h2, rfl⟩ := calls_some_cons hc h
      have hl : r1.length ≤ s.length := callA_less P d c s k r1 h1
      have hn' : s.length ≤ n := by simpa using hn
      have h3 : callA P d c (s ++ u) = some (k, r1 ++ u) := by
        obtain ⟨d', rfl, hP, ⟨rfl, rfl, hx⟩ | ⟨s', rfl, hk, hcs⟩⟩ := callA_some h1
        · refine callA_leaf hP fun x v e => ?_
          cases r1 with
          | nil => exact hu x v e
          | cons y w => injection e with e1 e2; rw [← e1]; exact hx y w rfl
        · have := calls_more hu n d' s' (by simp at hn'; omega) _ _ hcs
          rw [if_neg (by simp)] at this
          rw [List.cons_append, callA_open hP, this]
          exact closed_app hk _
      rw [List.cons_append, calls_step .nil hc h3 |> (ahead_nil _).symm.trans, calls_more hu n d r1 (by omega) _ _ h2]
      split
      · rw [ahead_ahead]; rfl
      · rfl

theorem trace_head {l : List Seg} {d : Nat} {t : List UInt8} {f : Forest} (h : calls (callP l) d t = some (f, [])) : ∀ x v, t = x :: v → x ≠ 40 := by
  rintro x v rfl rfl
  obtain ⟨k, r1, f', h1, _⟩ := calls_some_cons (by decide) h
  rw [callA_no (callP_open l)] at h1
  cases h1

/-- A trace twice is one, unless it is too long. -/
theorem traceB_twice {l : List Seg} {t : List UInt8} {f : Forest} (h : traceB l t = some f) : traceB l (t ++ t) = if t.length + t.length ≤ 80 then some (f.app f) else none := by
  obtain ⟨h1, h2, h3⟩ := traceB_some h
  rw [traceB_eq, h1, Bool.true_and, List.length_append]
  by_cases hl : t.length + t.length ≤ 80
  · rw [if_pos (decide_eq_true hl), if_pos hl, calls_more (trace_head h3) _ _ _ (Nat.le_refl _) _ _ h3, if_pos rfl, h3]
    rfl
  · rw [if_neg (by simpa using hl), if_neg hl]

/-- All letters of calls are names. -/
def Forest.all (P : UInt8 → Bool) : Forest → Prop
  | .nil => True
  | .cons c k r => P c = true ∧ k.all P ∧ r.all P
theorem calls_all {P : UInt8 → Bool} : ∀ (n d : Nat) (s : List UInt8), s.length ≤ n → ∀ f r, calls P d s = some (f, r) → f.all P
  | n, d, [], _, f, r, h => by
    rw [calls_nil] at h
    injection h with h
    injection h with h1 h2
    subst h1
    exact trivial
  | 0, d, c :: s, hn, f, r, h => absurd hn (by simp)
  | n + 1, d, c :: s, hn, f, r, h => by
    by_cases hc : c = 41
    · subst hc
      rw [calls_close] at h
      injection h with h
      injection h with h1 h2
      subst h1
      exact trivial
    · obtain ⟨k, r1, f', h1, h2, rfl⟩ := calls_some_cons hc h
      have hl : r1.length ≤ s.length := callA_less P d c s k r1 h1
      have hn' : s.length ≤ n := by simpa using hn
      obtain ⟨d', rfl, hP, h4⟩ := callA_some h1
      refine ⟨hP, ?_, calls_all n _ r1 (by omega) _ _ h2⟩
      rcases h4 with ⟨rfl, _⟩ | ⟨s', rfl, _, hcs⟩
      · exact trivial
      · exact calls_all n d' s' (by simp at hn'; omega) _ _ hcs
theorem traceB_all {l : List Seg} {t : List UInt8} {f : Forest} (h : traceB l t = some f) : f.all (callP l) := by
  obtain ⟨_, _, h3⟩ := traceB_some h
  exact calls_all _ _ _ (Nat.le_refl _) _ _ h3

end Go.Proofs.Ytnknfpfpjijemaa
/- A row of numbers of the call's own; marks in numbers: what a law writes into what it was given, and whether it is held. -/
namespace Go.Proofs.Ytnknfpfpjijemaa.Si
open Go.RowKit

/-- Numbers in a row of the call's own. -/
def OwnInts (w : World) (B : Nat) (v : Value) (ts : List Int) : Prop := w.ownsRow B 3 1 v ts.length (ts.map (Value.int .i64))
theorem OwnInts.far {w w' : World} {B : Nat} {v : Value} {ts : List Int} (h : OwnInts w B v ts) (hk : ∀ g, v.ownBlock = some g → w'.heap[g]? = w.heap[g]?) : OwnInts w' B v ts := by
  refine ⟨h.1, ?_⟩
  rcases h.2 with h0 | ⟨g', cap, cur, rfl, hg, hh, r⟩
  · exact .inl h0
  · exact .inr ⟨g', cap, cur, rfl, hg, (hk g' rfl).trans hh, r⟩
theorem OwnInts.below {w w' : World} {B : Nat} {v : Value} {ts : List Int} (h : OwnInts w B v ts) (hb : Below w.heap.size w w') : OwnInts w' B v ts := h.far fun g hg => hb.block g (World.ownsRow.lt h g hg).2
theorem OwnInts.empty (w : World) {B : Nat} (hB : B ≤ w.heap.size) : OwnInts (w.alloc (.cells #[] 3)) B (.slice (some ⟨w.heap.size, 0, none⟩) 0 0) [] :=
  World.ownsRow_lit w #[] 0 hB (by simp [maxLen]) rfl
/-- A slice of numbers in memory below 'B'. -/
def Ints (w : World) (B : Nat) (A : Option Addr) (ts : List Int) : Prop :=
  0 < ts.length → ∃ b o, A = some ⟨b, o, none⟩ ∧ b < B ∧ ∀ (k : Nat) (s : Int), ts[k]? = some s → w.cell? ⟨b, o + k, none⟩ = some (.int .i64 s)
theorem Ints.below {w w' : World} {B : Nat} {A : Option Addr} {l : List Int} (h : Ints w B A l) (hb : Below B w w') : Ints w' B A l := fun hl => by
  obtain ⟨b, o, e, hB, hc⟩ := h hl
  refine ⟨b, o, e, hB, fun k s hk => ?_⟩
  rw [hb.cell hB]
  exact hc k s hk
theorem Ints.more {w : World} {B B' : Nat} {A : Option Addr} {l : List Int} (h : Ints w B A l) (hB : B ≤ B') : Ints w B' A l := fun hl => by
  obtain ⟨b, o, e, hb, hc⟩ := h hl
  exact ⟨b, o, e, Nat.lt_of_lt_of_le hb hB, hc⟩
theorem intsCell {w : World} {B g cap : Nat} {ts : List Int} (h : OwnInts w B (.slice (some ⟨g, 0, none⟩) ts.length cap) ts) {i : Nat} {s : Int} (hi : ts[i]? = some s) : w.cell? ⟨g, i, none⟩ = some (.int .i64 s) := by
  have hlt := (List.getElem?_eq_some_iff.1 hi).1
  have := World.ownsRow.cellAt h i (by omega)
  rw [this, List.getElem?_map, hi]
  rfl
theorem intsForm {w : World} {B : Nat} {v : Value} {ts : List Int} (h : OwnInts w B v ts) : ∃ A cap, v = .slice A ts.length cap ∧ Ints w w.heap.size A ts := by
  have h' := h
  rcases h.2 with ⟨rfl, h0⟩ | ⟨g, cap, cur, rfl, hg, hh, r⟩
  · exact ⟨none, 0, by rw [h0], fun h => absurd h (by omega)⟩
  · refine ⟨_, cap, rfl, fun _ => ⟨g, 0, rfl, (Array.getElem?_eq_some_iff.1 hh).1, fun k s hk => ?_⟩⟩
    rw [Nat.zero_add]
    exact intsCell h' hk
theorem intsOf {w : World} {B n cap : Nat} {A : Option Addr} {ts : List Int} (h : OwnInts w B (.slice A n cap) ts) : Ints w w.heap.size A ts := by
  obtain ⟨A', cap', e, h'⟩ := intsForm h
  injection e with e1 e2 e3
  rw [e1]
  exact h'
theorem intsFree {w : World} {B g cap n : Nat} {ts : List Int} (h : OwnInts w B (.slice (some ⟨g, 0, none⟩) n cap) ts) (j : Nat) : w.frozen? ⟨g, j, none⟩ = false := by
  rcases h.2 with ⟨h0, _⟩ | ⟨g', cap', cur, hv, hg, hh, _⟩
  · cases h0
  · injection hv with hv1 _ hv3
    injection hv1 with hv1
    injection hv1 with hv1
    subst hv1
    exact Row.free (hh : Row w g _ cur) j
theorem intsStore {w : World} {B g cap : Nat} {ts : List Int} (h : OwnInts w B (.slice (some ⟨g, 0, none⟩) ts.length cap) ts) (i : Nat) (s : Int) :
    OwnInts (w.setCell ⟨g, i, none⟩ (.int .i64 s)) B (.slice (some ⟨g, 0, none⟩) ts.length cap) (ts.set i s) := by
  unfold OwnInts at h ⊢
  rw [List.length_set]
  refine ⟨by simp, ?_⟩
  rcases h.2 with ⟨h0, _⟩ | ⟨g', cap', cur, hv, hg, hh, h1, h2, h3, h4⟩
  · cases h0
  · injection hv with hv1 _ hv3
    injection hv1 with hv1
    injection hv1 with hv1
    subst hv1 hv3
    have hr : Row w g 3 cur := hh
    refine .inr ⟨g, cap, _, rfl, hg, hr.put i _, h1, h2, by simpa using h3, ?_⟩
    rw [List.map_set, ← h4]
    simp only [Array.toList_setIfInBounds, List.take_set]
theorem intsFar {w w' : World} {B : Nat} {v : Value} {ts : List Int} {may : Nat → Prop} (h : OwnInts w B v ts) (ho : Only w w' may) (hm : ∀ g, v.ownBlock = some g → ¬ may g) : OwnInts w' B v ts :=
  h.far fun g hg => ho.block g (World.ownsRow.lt h g hg).2 (hm g hg)

/-- The first 'i' are marked. -/
def imarked (ts : List Int) (k : Nat) : Nat → List Int
  | 0 => ts
  | i + 1 => (imarked ts k i).set i ((k + i : Nat) : Int)
theorem imarked_len (l : List Int) (k : Nat) : ∀ i, (imarked l k i).length = l.length
  | 0 => rfl
  | i + 1 => by
    show ((imarked l k i).set i _).length = _
    rw [List.length_set, imarked_len l k i]
theorem imarked_at (l : List Int) (k : Nat) : ∀ i j, j < i → i ≤ l.length → (imarked l k i)[j]? = some ((k + j : Nat) : Int)
  | 0, _, h, _ => absurd h (by omega)
  | i + 1, j, h, hi => by
    show ((imarked l k i).set i _)[j]? = _
    by_cases hj : j = i
    · subst hj
      rw [List.getElem?_set_self (by rw [imarked_len]; omega)]
    · rw [List.getElem?_set_ne (by omega)]
      exact imarked_at l k i j (by omega) (by omega)

end Go.Proofs.Ytnknfpfpjijemaa.Si

namespace Go.Proofs.Ytnknfpfpjijemaa
open Go.RowKit

end Go.Proofs.Ytnknfpfpjijemaa
/- How often each segment is called: plain, and the reference's. -/
namespace Go.Proofs.Ytnknfpfpjijemaa
open Go.RowKit

def lastB (x : List UInt8) : UInt8 := x.getLastD 0
/-- How many chains end with the segment of an index. -/
def cntAt (l : List Seg) (xs : List (List UInt8)) (i : Nat) : Nat := (xs.filter fun x => decide (indexB l ⟨#[lastB x]⟩ = (i : Int))).length
theorem cntAt_snoc (l : List Seg) (xs : List (List UInt8)) (x : List UInt8) (i : Nat) : cntAt l (xs ++ [x]) i = cntAt l xs i + if indexB l ⟨#[lastB x]⟩ = (i : Int) then 1 else 0 := by
  unfold cntAt
  rw [List.filter_append, List.length_append]
  congr 1
  by_cases h : indexB l ⟨#[lastB x]⟩ = (i : Int)
  · simp [h]
  · simp [h]
theorem cntAt_le (l : List Seg) (xs : List (List UInt8)) (i : Nat) : cntAt l xs i ≤ xs.length := List.length_filter_le _ _
def cntRow (l : List Seg) (xs : List (List UInt8)) : List Int := (List.range l.length).map fun i => (cntAt l xs i : Int)
theorem cntRow_len (l : List Seg) (xs : List (List UInt8)) : (cntRow l xs).length = l.length := by simp [cntRow]
theorem cntRow_at (l : List Seg) (xs : List (List UInt8)) {i : Nat} (hi : i < l.length) : (cntRow l xs)[i]? = some (cntAt l xs i : Int) := by simp [cntRow, hi]
theorem cntRow_snoc (l : List Seg) (xs : List (List UInt8)) (x : List UInt8) {j : Nat} (hj : indexB l ⟨#[lastB x]⟩ = (j : Int)) (hjl : j < l.length) : cntRow l (xs ++ [x]) = (cntRow l xs).set j ((cntAt l xs j : Int) + 1) := by
  apply List.ext_getElem?
  intro i
  by_cases hi : i < l.length
  · rw [cntRow_at l _ hi, cntAt_snoc, hj]
    by_cases hij : i = j
    · subst hij
      rw [List.getElem?_set_self (by rw [cntRow_len]; exact hi), if_pos rfl]
      rfl
    · rw [List.getElem?_set_ne (fun e => hij e.symm), cntRow_at l _ hi, if_neg (by omega)]
      rfl
  · rw [List.getElem?_eq_none (by rw [cntRow_len]; omega), List.getElem?_eq_none (by rw [List.length_set, cntRow_len]; omega)]
def callsRes (l : List Seg) (t : ByteArray) : List Int := match traceB l t.data.toList with
  | none => []
  | some f => cntRow l (chainsB [] f)
def CallsResPost (w : World) (l : List Seg) (t : ByteArray) (e : Ending) (w' : World) : Prop :=
  ∃ v, e = .returned (.tuple #[v, .bool (traceB l t.data.toList).isSome]) ∧ Si.OwnInts w' w.heap.size v (callsRes l t) ∧ Below w.heap.size w w'

theorem str_last (p : List UInt8) (d : UInt8) : (strOf (p ++ [d])).extract ((strOf (p ++ [d])).size - 1) (strOf (p ++ [d])).size = ⟨#[d]⟩ := by
  have hs : (strOf (p ++ [d])).size = p.length + 1 := by rw [str_size]; simp
  rw [hs]
  apply ByteArray.ext
  rw [ByteArray.data_extract]
  apply Array.ext'
  simp [strOf]
/-- Each chain ends with a name. -/
theorem chainsB_last {P : UInt8 → Bool} : ∀ (f : Forest) (a : List UInt8), f.all P → ∀ x ∈ chainsB a f, ∃ y c, x = y ++ [c] ∧ P c = true
  | .nil, _, _, x, h => by cases h
  | .cons c k r, a, hp, x, h => by
    obtain ⟨h1, h2, h3⟩ := hp
    have h' : x ∈ (a ++ [c]) :: (chainsB (a ++ [c]) k ++ chainsB a r) := h
    rcases List.mem_cons.1 h' with rfl | h'
    · exact ⟨a, c, rfl, h1⟩
    · rcases List.mem_append.1 h' with h' | h'
      · exact chainsB_last k _ h2 x h'
      · exact chainsB_last r _ h3 x h'
theorem lastB_snoc (y : List UInt8) (c : UInt8) : lastB (y ++ [c]) = c := by simp [lastB]
theorem callP_index {l : List Seg} {c : UInt8} (h : callP l c = true) : ∃ j : Nat, indexB l ⟨#[c]⟩ = (j : Int) ∧ j < l.length := by
  have h0 : 0 ≤ indexB l ⟨#[c]⟩ := of_decide_eq_true h
  obtain ⟨j, hj⟩ := Int.eq_ofNat_of_zero_le h0
  rcases indexB_bd l ⟨#[c]⟩ with hi | ⟨_, hi⟩
  · omega
  · exact ⟨j, hj, by omega⟩

theorem run_make_ints (n : Nat) (hn : n ≤ 1048576) (W : World) :
    (Instr.makeSlice 93 (.int .i64 (n : Int)) (.int .i64 (n : Int))).run Try.prog W = .ok (.slice (some ⟨W.heap.size, 0, none⟩) n n) (W.alloc (.cells (madeCells #[.int .i64 0] n) 3)) := by
  obtain ⟨i0, hi, hz0, hz1, hz2⟩ := info_parts info_int
  have hr := run_make (P := Try.prog) W 93 3 i0 (.int .i64 0) Try.underlying93 hi hz0 .i64 .i64 n n (by omega) (by omega) (by rw [hz2]; omega) (by omega)
  simp only [Int.toNat_natCast, hz1, Nat.mul_one] at hr
  exact hr
/-- A new row of noughts. -/
theorem OwnInts_made (W : World) {B : Nat} (hB : B ≤ W.heap.size) (l : List Seg) (hl : l.length ≤ 1048576) : Si.OwnInts (W.alloc (.cells (madeCells #[.int .i64 0] l.length) 3)) B (.slice (some ⟨W.heap.size, 0, none⟩) l.length l.length) (cntRow l []) := by
  have hlen := cntRow_len l []
  unfold Si.OwnInts
  rw [hlen]
  have hcs : madeCells #[.int .i64 0] l.length = ((cntRow l []).map (Value.int .i64)).toArray := by
    apply Array.toList_inj.1
    apply List.ext_getElem?
    intro i
    unfold madeCells cntRow
    by_cases hi : i < l.length
    · simp [hi, cntAt, Nat.mod_one]
    · simp [hi]
  rw [hcs]
  have := World.ownsRow_lit (base := B) (e := 3) (size := 1) W ((cntRow l []).map (Value.int .i64)).toArray l.length hB (by unfold maxLen; omega) (by simp [hlen])
  simpa using this

end Go.Proofs.Ytnknfpfpjijemaa
/- The program's calls: their methods, and what is needed for them, written out. -/
namespace Go.Proofs.Ytnknfpfpjijemaa
open Go.RowKit

theorem meth_name_leaf (c : UInt8) (w : World) : (method 310 188 (.agg #[.string ⟨#[c]⟩]) "loop.example/segmentrooms/impl.name").run Try.prog w = .ok (170, .agg #[.string ⟨#[c]⟩]) w := by kernel_rfl
theorem meth_calls_leaf (c : UInt8) (w : World) : (method 310 188 (.agg #[.string ⟨#[c]⟩]) "loop.example/segmentrooms/impl.calls").run Try.prog w = .ok (169, .agg #[.string ⟨#[c]⟩]) w := by kernel_rfl
theorem meth_name_branch (c : UInt8) (A : Option Addr) (n cap : Nat) (w : World) : (method 310 190 (.agg #[.string ⟨#[c]⟩, .slice A n cap]) "loop.example/segmentrooms/impl.name").run Try.prog w = .ok (170, .agg #[.string ⟨#[c]⟩]) w := by kernel_rfl
theorem meth_calls_branch (c : UInt8) (A : Option Addr) (n cap : Nat) (w : World) : (method 310 190 (.agg #[.string ⟨#[c]⟩, .slice A n cap]) "loop.example/segmentrooms/impl.calls").run Try.prog w = .ok (172, .agg #[.string ⟨#[c]⟩, .slice A n cap]) w := by kernel_rfl

set_option maxRecDepth 100000 in
theorem leafName_any (c : UInt8) (w : World) : Calls Try.prog 170 #[.agg #[.string ⟨#[c]⟩]] w fun e w' => e = .returned (.string ⟨#[c]⟩) ∧ w' = w.alloc (.cells #[.string ⟨#[c]⟩] 188) := by
  go_enter Try.func170, Try.ntmps170
  go_wp2
  go_ret
  exact ⟨rfl, rfl⟩
set_option maxRecDepth 100000 in
theorem leafCalls_any (c : UInt8) (w : World) : Calls Try.prog 169 #[.agg #[.string ⟨#[c]⟩]] w fun e w' => e = .returned (.slice none 0 0) ∧ w' = w.alloc (.cells #[.string ⟨#[c]⟩] 188) := by
  go_enter Try.func169, Try.ntmps169
  go_wp2
  go_ret
  exact ⟨rfl, rfl⟩
set_option maxRecDepth 100000 in
theorem branchCalls_any (c : UInt8) (A : Option Addr) (n cap : Nat) (w : World) : Calls Try.prog 172 #[.agg #[.string ⟨#[c]⟩, .slice A n cap]] w fun e w' => e = .returned (.slice A n cap) ∧ w' = w.alloc (.cells #[.string ⟨#[c]⟩, .slice A n cap] 190) := by
  go_enter Try.func172, Try.ntmps172
  go_wp2
  go_ret
  exact ⟨rfl, rfl⟩

/-- What the methods of a call say, whichever of the two it is. -/
structure CallFacts (T : TypeId) (x : Value) (c : UInt8) (kv : Value) : Prop where
  name : ∀ w : World, (method 310 T x "loop.example/segmentrooms/impl.name").run Try.prog w = .ok (170, .agg #[.string ⟨#[c]⟩]) w
  calls : ∃ K y o, (∀ w : World, (method 310 T x "loop.example/segmentrooms/impl.calls").run Try.prog w = .ok (K, y) w) ∧ (∀ w : World, (callFunc K #[y]).run Try.prog w = .ok (.enter K #[y]) w) ∧ ∀ w : World, Calls Try.prog K #[y] w fun e w' => e = .returned kv ∧ w' = w.alloc o
theorem IsCall.facts {w : World} {S : Nat → Prop} {c : UInt8} {k : Forest} {v : Value} (h : IsCall w S c k v) : ∃ T x kv, v = .iface T x ∧ CallFacts T x c kv ∧ SliceIs w S kv k := by
  rcases h with ⟨h1, rfl⟩ | ⟨h1, q, cap, rfl, hs, hk⟩
  · have h0 : k.len = 0 := by rw [Forest.isNil_len] at h1; exact of_decide_eq_true h1
    exact ⟨_, _, .slice none 0 0, rfl, ⟨meth_name_leaf c, _, _, _, meth_calls_leaf c, fun w => enters_of Try.func169 (by kernel_rfl) rfl _ w, leafCalls_any c⟩, none, 0, by rw [h0], fun h => by omega⟩
  · exact ⟨_, _, .slice (some ⟨q, 0, none⟩) k.len cap, rfl, ⟨meth_name_branch c _ _ _, _, _, _, meth_calls_branch c _ _ _, fun w => enters_of Try.func172 (by kernel_rfl) rfl _ w, branchCalls_any c _ _ _⟩, _, cap, rfl, fun _ => ⟨q, rfl, hs, hk⟩⟩

end Go.Proofs.Ytnknfpfpjijemaa
/- The program's readTrace by its contract. -/
namespace Go.Proofs.Ytnknfpfpjijemaa
open Go.RowKit

/-- What readTrace has done. -/
def TracePost (w : World) (R : Option Forest) (e : Ending) (w' : World) : Prop :=
  ∃ v, e = .returned (.tuple #[v, .bool R.isSome]) ∧ ((∃ f, R = some f ∧ SliceIs w' (fun q => w.heap.size ≤ q ∧ q < w'.heap.size) v f) ∨ (R = none ∧ v = .slice none 0 0)) ∧ Below w.heap.size w w'

theorem Nodes.known {w : World} {B g b : Nat} {l : List Seg} {nb : Nat → Nat} {cv : Nat → Value} (h : Nodes w B g l.length l.length l nb cv) (hb : w.heap.size ≤ b) : Known w b g l nb := by
  obtain ⟨cs, hrow, _, hci⟩ := h.row
  refine ⟨Nat.lt_of_lt_of_le hrow.lt hb, fun i x hx => ?_⟩
  have hi := (List.getElem?_eq_some_iff.1 hx).1
  have hn := h.node i x hi hx
  exact ⟨Nat.lt_of_lt_of_le hn.lt hb, by rw [hrow.cell]; exact hci i hi, hn.cell 0⟩

/-- Where the reader has given up: what the deferred closure leaves. -/
theorem trace_died (R : Option Forest) (w w1 : World) (m : ByteArray) (x : Value) (hx : ∃ A n c, x = .slice A n c) (y : Bool) (hp : R = none) (hb : Below w.heap.size w w1) (h1 : Row w1 w.heap.size 111 #[x]) (h2 : Row w1 (w.heap.size + 1) 4 #[.bool y]) (tmps : Array Value)
    (ht2 : tmps[4]?.getD undef = .pointer (some ⟨w.heap.size, 0, none⟩)) (ht3 : tmps[5]?.getD undef = .pointer (some ⟨w.heap.size + 1, 0, none⟩)) :
    bodyPostD Try.prog Try.f86 (TracePost w R) (Exit.panic [{ v := .iface 9 (.string m), recovered := false }]) { tmps := tmps, defers := [{ target := Target.fn (Fn.func 108) #[.pointer (some ⟨w.heap.size, 0, none⟩), .pointer (some ⟨w.heap.size + 1, 0, none⟩)], args := #[] }] } w1 := by
  refine leaves_cons (f := 108) (args := #[.pointer (some ⟨w.heap.size, 0, none⟩), .pointer (some ⟨w.heap.size + 1, 0, none⟩)]) (by simp) (by simp [go_sem]) ?_
  refine (traceCatch_panicking w.heap.size x y m w1 h1 hx h2).mono ?_
  rintro e u' w'' ⟨rfl, rfl, rfl⟩
  have r1 : Row ((w1.setCell ⟨w.heap.size, 0, none⟩ (.slice none 0 0)).setCell ⟨w.heap.size + 1, 0, none⟩ (.bool false)) w.heap.size 111 #[.slice none 0 0] := (h1.put 0 _).far (p := ⟨w.heap.size + 1, 0, none⟩) (show w.heap.size ≠ w.heap.size + 1 by omega) _
  have r2 : Row ((w1.setCell ⟨w.heap.size, 0, none⟩ (.slice none 0 0)).setCell ⟨w.heap.size + 1, 0, none⟩ (.bool false)) (w.heap.size + 1) 4 #[.bool false] := (h2.far (p := ⟨w.heap.size, 0, none⟩) (show w.heap.size + 1 ≠ w.heap.size by omega) _).put 0 _
  have hb2 : Below w.heap.size w ((w1.setCell ⟨w.heap.size, 0, none⟩ (.slice none 0 0)).setCell ⟨w.heap.size + 1, 0, none⟩ (.bool false)) := (hb.setCell (Nat.le_refl _) _).setCell (by simp) _
  generalize (w1.setCell ⟨w.heap.size, 0, none⟩ (.slice none 0 0)).setCell ⟨w.heap.size + 1, 0, none⟩ (.bool false) = W3 at *
  have e1 : W3.cell? ⟨w.heap.size, 0, none⟩ = some (.slice none 0 0) := r1.cell 0
  have e2 : W3.cell? ⟨w.heap.size + 1, 0, none⟩ = some (.bool false) := r2.cell 0
  have HP : TracePost w R (.returned (.tuple #[.slice none 0 0, .bool false])) W3 := ⟨_, by rw [hp]; rfl, .inr ⟨hp, rfl⟩, hb2⟩
  simp [Leaves, settle, results, Try.results86, go_sem, e1, e2, ht2, ht3]
  exact HP

/-- The world behind the two results' cells. -/
def W2 (w : World) : World := (w.alloc (.cells #[.slice none 0 0] 111)).alloc (.cells #[.bool false] 4)
theorem W2_below (w : World) : Below w.heap.size w (W2 w) := ((Below.refl _ w).alloc (Nat.le_refl _) _).alloc (by simp) _
theorem W2_size (w : World) : (W2 w).heap.size = w.heap.size + 2 := by simp [W2]
theorem W2_one (w : World) : Row (W2 w) w.heap.size 111 #[.slice none 0 0] := (Row.new _ _ _).alloc _
theorem W2_two (w : World) : Row (W2 w) (w.heap.size + 1) 4 #[.bool false] := by
  have := Row.new (w.alloc (.cells #[.slice none 0 0] 111)) 4 #[.bool false]
  rw [World.size_alloc] at this
  exact this

/-- No calls, false. -/
theorem trace_none (w w1 : World) (hb : Below w.heap.size w w1) (h1 : Row w1 w.heap.size 111 #[.slice none 0 0]) (h2 : Row w1 (w.heap.size + 1) 4 #[.bool false]) :
    let W := (w1.setCell ⟨w.heap.size, 0, none⟩ (.slice none 0 0)).setCell ⟨w.heap.size + 1, 0, none⟩ (.bool false)
    W.cell? ⟨w.heap.size, 0, none⟩ = some (.slice none 0 0) ∧ W.cell? ⟨w.heap.size + 1, 0, none⟩ = some (.bool false) ∧ TracePost w none (.returned (.tuple #[.slice none 0 0, .bool false])) W := by
  have r1 : Row ((w1.setCell ⟨w.heap.size, 0, none⟩ (.slice none 0 0)).setCell ⟨w.heap.size + 1, 0, none⟩ (.bool false)) w.heap.size 111 #[.slice none 0 0] := (h1.put 0 _).far (p := ⟨w.heap.size + 1, 0, none⟩) (show w.heap.size ≠ w.heap.size + 1 by omega) _
  have r2 : Row ((w1.setCell ⟨w.heap.size, 0, none⟩ (.slice none 0 0)).setCell ⟨w.heap.size + 1, 0, none⟩ (.bool false)) (w.heap.size + 1) 4 #[.bool false] := (h2.far (p := ⟨w.heap.size, 0, none⟩) (show w.heap.size + 1 ≠ w.heap.size by omega) _).put 0 _
  exact ⟨r1.cell 0, r2.cell 0, _, rfl, .inr ⟨rfl, rfl⟩, (hb.setCell (Nat.le_refl _) _).setCell (by simp) _⟩

set_option maxRecDepth 100000 in
set_option maxHeartbeats 4000000 in
theorem readTrace_bad (A : Option Addr) (l : List Seg) (c : Nat) (t : ByteArray) (w : World) (hw : Segs w w.heap.size A l) (hl : l.length ≤ 1048576) (hlc : l.length ≤ c) (hcm : c ≤ 9223372036854775807) (hn : Short l) (ht : t.size ≤ 1048576)
    (hv : (validB l && decide (t.size ≤ 80)) = false) :
    Calls Try.prog 86 #[.slice A l.length c, .string t] w (TracePost w none) := by
  have hnil := fun (W : World) (a : Option Addr) (n c : Nat) => Lib.run_eql_slice_nil (P := Try.prog) W 125 107 a n c 0 0 Try.underlying125
  have HW : Hid (Segs (W2 w) (W2 w).heap.size A l) := (hw.below (W2_below w)).more (W2_below w).size
  have HB : Hid (Below w.heap.size w (W2 w)) := W2_below w
  have HR1 := Lib.hid (W2_one w)
  have HR2 := Lib.hid (W2_two w)
  have HWE : Hid (W2 w = (w.alloc (.cells #[.slice none 0 0] 111)).alloc (.cells #[.bool false] 4)) := rfl
  clear hw
  cases hvl : validB l with
  | false =>
    have HV := Lib.hid hvl
    clear hv hvl
    go_enter Try.func86, Try.ntmps86
    go_wp2_with fail
    rw [← HWE.out]
    generalize W2 w = W1 at *
    refine (nodesOf_bad A l c W1 HW.out hl hlc hcm hn HV.out).mono ?_
    rintro e w1 ⟨rfl, hb1⟩
    have hx1 := HR1.out.below hb1 HR1.out.lt
    have hx2 := HR2.out.below hb1 HR2.out.lt
    have HE := Lib.hid (trace_none w w1 (HB.out.trans (hb1.mono HB.out.size)) hx1 hx2)
    have c1 : w1.cell? ⟨w.heap.size, 0, none⟩ = some (.slice none 0 0) := hx1.cell 0
    have z1 : w1.frozen? ⟨w.heap.size, 0, none⟩ = false := hx1.free 0
    have c2 : w1.cell? ⟨w.heap.size + 1, 0, none⟩ = some (.bool false) := hx2.cell 0
    have z2 : w1.frozen? ⟨w.heap.size + 1, 0, none⟩ = false := hx2.free 0
    clear hb1 hx1 hx2 HWE
    go_wp2
    obtain ⟨d1, d2, hp⟩ := HE.out
    exact bodyPost_ret (v := .tuple #[.slice none 0 0, .bool false]) (by simp [results, Try.results86, go_sem, d1, d2]) rfl hp
  | true =>
    have ht80 : decide (t.size ≤ 80) = false := by rw [hvl, Bool.true_and] at hv; exact hv
    have h80 : 80 < t.size := by have := of_decide_eq_false ht80; omega
    have h80' : (80 : Int) < (t.size : Int) := by omega
    have hb80 : decide (80 < t.size) = true := decide_eq_true h80
    have HV := Lib.hid hvl
    clear hv hvl ht80
    go_enter Try.func86, Try.ntmps86
    go_wp2_with fail
    rw [← HWE.out]
    generalize W2 w = W1 at *
    refine (nodesOf_any A l c W1 HW.out hl hlc hcm hn HV.out).mono ?_
    rintro e w1 ⟨g, nb, cv, rfl, hN, hb1⟩
    have hx1 := HR1.out.below hb1 HR1.out.lt
    have hx2 := HR2.out.below hb1 HR2.out.lt
    have HE := Lib.hid (trace_none w w1 (HB.out.trans (hb1.mono HB.out.size)) hx1 hx2)
    have c1 : w1.cell? ⟨w.heap.size, 0, none⟩ = some (.slice none 0 0) := hx1.cell 0
    have z1 : w1.frozen? ⟨w.heap.size, 0, none⟩ = false := hx1.free 0
    have c2 : w1.cell? ⟨w.heap.size + 1, 0, none⟩ = some (.bool false) := hx2.cell 0
    have z2 : w1.frozen? ⟨w.heap.size + 1, 0, none⟩ = false := hx2.free 0
    clear hb1 hx1 hx2 HWE hN
    go_wp2
    obtain ⟨d1, d2, hp⟩ := HE.out
    exact bodyPost_ret (v := .tuple #[.slice none 0 0, .bool false]) (by simp [results, Try.results86, go_sem, d1, d2]) rfl hp

set_option maxRecDepth 100000 in
set_option maxHeartbeats 4000000 in
theorem readTrace_good (A : Option Addr) (l : List Seg) (c : Nat) (t : ByteArray) (w : World) (hw : Segs w w.heap.size A l) (hl : l.length ≤ 1048576) (hlc : l.length ≤ c) (hcm : c ≤ 9223372036854775807) (hn : Short l) (ht : t.size ≤ 80)
    (hv : validB l = true) :
    Calls Try.prog 86 #[.slice A l.length c, .string t] w (TracePost w (whole (calls (callP l) 8 t.data.toList))) := by
  have hmf : ∀ (fn : Fn) (first cap : Array Value) (w : World), (Instr.makeFunc fn first cap).run Try.prog w = .ok (.func fn first cap) w := fun _ _ _ _ => rfl
  have hnil := fun (W : World) (a : Option Addr) (n c : Nat) => Lib.run_eql_slice_nil (P := Try.prog) W 125 107 a n c 0 0 Try.underlying125
  have HW : Hid (Segs (W2 w) (W2 w).heap.size A l) := (hw.below (W2_below w)).more (W2_below w).size
  have HB : Hid (Below w.heap.size w (W2 w)) := W2_below w
  have HR1 := Lib.hid (W2_one w)
  have HR2 := Lib.hid (W2_two w)
  have HWE : Hid (W2 w = (w.alloc (.cells #[.slice none 0 0] 111)).alloc (.cells #[.bool false] 4)) := rfl
  have HV := Lib.hid hv
  have h80 : ¬ 80 < t.size := by omega
  have h80' : ¬ (80 : Int) < (t.size : Int) := by omega
  have hb80 : decide (80 < t.size) = false := decide_eq_false h80
  have htl : (⟨t.data.toList.toArray⟩ : ByteArray) = t := rfl
  have HTL := Lib.hid htl
  clear hw hv htl
  go_enter_defers Try.func86, Try.ntmps86
  go_wp2_with fail
  rw [← HWE.out]
  generalize W2 w = W1 at *
  refine (nodesOf_any A l c W1 HW.out hl hlc hcm hn HV.out).mono ?_
  rintro e w1 ⟨g, nb, cv, rfl, hN, hb1⟩
  have hbw := HB.out.trans (hb1.mono HB.out.size)
  have HX1 := Lib.hid ((HR1.out.below hb1 HR1.out.lt).alloc (.cells #[.slice (some ⟨g, 0, none⟩) l.length l.length, .string t] 139))
  have HX2 := Lib.hid ((HR2.out.below hb1 HR2.out.lt).alloc (.cells #[.slice (some ⟨g, 0, none⟩) l.length l.length, .string t] 139))
  have HR3 := Lib.hid (Row.new w1 139 #[.slice (some ⟨g, 0, none⟩) l.length l.length, .string t])
  have HKN := Lib.hid ((hN.known (Nat.le_refl _)).below ((Below.refl _ w1).alloc (Nat.le_refl _) (.cells #[.slice (some ⟨g, 0, none⟩) l.length l.length, .string t] 139)))
  have HBW := Lib.hid (hbw.alloc hbw.size (.cells #[.slice (some ⟨g, 0, none⟩) l.length l.length, .string t] 139))
  have hz1 : w.heap.size + 1 < w1.heap.size := (HR2.out.below hb1 HR2.out.lt).lt
  have hsz : w.heap.size ≤ (w1.alloc (.cells #[.slice (some ⟨g, 0, none⟩) l.length l.length, .string t] 139)).heap.size := HBW.out.size
  clear hb1 hbw hN HR1 HR2 HB HW HWE
  go_wp2_with fail
  generalize hWr : w1.alloc (.cells #[.slice (some ⟨g, 0, none⟩) l.length l.length, .string t] 139) = W3 at *
  clear hWr
  have HQ := Lib.hid (readOutermost_any w1.heap.size g l nb HV.out t.data.toList W3 (by simp; omega) HKN.out HR3.out)
  refine Calls.mono HQ.out ?_
  generalize whole (calls (callP l) 8 t.data.toList) = R at *
  rintro e w2 ⟨(⟨f, v, hR, rfl, hof⟩ | ⟨hR, m, rfl⟩), ho2⟩
  · have hx1 := HX1.out.only ho2 (by omega)
    have hx2 := HX2.out.only ho2 (by omega)
    have HB2 := Lib.hid (Only.below HBW.out ho2 hsz (fun k hk e => by omega))
    obtain ⟨A', cap', rfl, hsl⟩ := hof.slice
    have c1 : w2.cell? ⟨w.heap.size, 0, none⟩ = some (.slice none 0 0) := hx1.cell 0
    have z1 : w2.frozen? ⟨w.heap.size, 0, none⟩ = false := hx1.free 0
    have c2 : w2.cell? ⟨w.heap.size + 1, 0, none⟩ = some (.bool false) := hx2.cell 0
    have z2 : w2.frozen? ⟨w.heap.size + 1, 0, none⟩ = false := hx2.free 0
    have HX1' := Lib.hid hx1
    have HX2' := Lib.hid hx2
    have HOF := Lib.hid hof
    have HR := Lib.hid hR
    have HXL := Lib.hid HX2.out.lt
    clear hx1 hx2 hsl hof hR ho2 HX1 HX2 HR3 HKN HBW HQ
    go_wp2
    refine leaves_cons (f := 108) (args := #[.pointer (some ⟨w.heap.size, 0, none⟩), .pointer (some ⟨w.heap.size + 1, 0, none⟩)]) (by simp) (by simp [go_sem]) ?_
    refine (traceCatch_idle ⟨w.heap.size, 0, none⟩ ⟨w.heap.size + 1, 0, none⟩ _).mono ?_
    rintro e u' w'' ⟨rfl, rfl, rfl⟩
    have r1 : Row ((w2.setCell ⟨w.heap.size, 0, none⟩ (.slice A' f.len cap')).setCell ⟨w.heap.size + 1, 0, none⟩ (.bool true)) w.heap.size 111 #[.slice A' f.len cap'] := (HX1'.out.put 0 _).far (p := ⟨w.heap.size + 1, 0, none⟩) (show w.heap.size ≠ w.heap.size + 1 by omega) _
    have r2 : Row ((w2.setCell ⟨w.heap.size, 0, none⟩ (.slice A' f.len cap')).setCell ⟨w.heap.size + 1, 0, none⟩ (.bool true)) (w.heap.size + 1) 4 #[.bool true] := (HX2'.out.far (p := ⟨w.heap.size, 0, none⟩) (show w.heap.size + 1 ≠ w.heap.size by omega) _).put 0 _
    have hb2 : Below w.heap.size w ((w2.setCell ⟨w.heap.size, 0, none⟩ (.slice A' f.len cap')).setCell ⟨w.heap.size + 1, 0, none⟩ (.bool true)) := (HB2.out.setCell (Nat.le_refl _) _).setCell (by simp) _
    have hT : SliceIs ((w2.setCell ⟨w.heap.size, 0, none⟩ (.slice A' f.len cap')).setCell ⟨w.heap.size + 1, 0, none⟩ (.bool true)) (fun q => w.heap.size ≤ q ∧ q < ((w2.setCell ⟨w.heap.size, 0, none⟩ (.slice A' f.len cap')).setCell ⟨w.heap.size + 1, 0, none⟩ (.bool true)).heap.size) (.slice A' f.len cap') f := by
      refine HOF.out.slice.keep fun q hq => ⟨⟨by omega, by simpa [World.setCell] using hq.2⟩, ?_⟩
      have hw1 : w.heap.size + 1 < W3.heap.size := HXL.out
      exact (Below.heap_setCell _ ⟨w.heap.size + 1, 0, none⟩ _ q (by show q ≠ w.heap.size + 1; omega)).trans (Below.heap_setCell w2 ⟨w.heap.size, 0, none⟩ _ q (by show q ≠ w.heap.size; omega))
    have HPP : ∀ W : World, SliceIs W (fun q => w.heap.size ≤ q ∧ q < W.heap.size) (.slice A' f.len cap') f → Below w.heap.size w W → TracePost w R (.returned (.tuple #[.slice A' f.len cap', .bool true])) W := fun W h1 h2 => ⟨_, by rw [HR.out]; rfl, .inl ⟨f, HR.out, h1⟩, h2⟩
    have HPQ := Lib.hid (HPP _ hT hb2)
    clear hT hb2 HPP
    generalize (w2.setCell ⟨w.heap.size, 0, none⟩ (.slice A' f.len cap')).setCell ⟨w.heap.size + 1, 0, none⟩ (.bool true) = W4 at *
    have e1 : W4.cell? ⟨w.heap.size, 0, none⟩ = some (.slice A' f.len cap') := r1.cell 0
    have e2 : W4.cell? ⟨w.heap.size + 1, 0, none⟩ = some (.bool true) := r2.cell 0
    simp [Leaves, settle, results, Try.results86, go_sem, e1, e2]
    exact HPQ.out
  · have hx1 := HX1.out.only ho2 (by omega)
    have hx2 := HX2.out.only ho2 (by omega)
    have hB2 := Only.below HBW.out ho2 hsz (fun k hk e => by omega)
    have HD := Lib.hid (fun tmps h2 h3 => trace_died R w w2 m _ ⟨_, _, _, rfl⟩ _ hR hB2 hx1 hx2 tmps h2 h3)
    clear hx1 hx2 hB2 ho2 hR HQ
    go_wp2
    exact HD.out _ rfl rfl

/-- readTrace: the calls of a trace. -/
theorem readTrace_any (A : Option Addr) (l : List Seg) (c : Nat) (t : ByteArray) (w : World) (hw : Segs w w.heap.size A l) (hl : l.length ≤ 1048576) (hlc : l.length ≤ c) (hcm : c ≤ 9223372036854775807) (hn : Short l) (ht : t.size ≤ 1048576) :
    Calls Try.prog 86 #[.slice A l.length c, .string t] w (TracePost w (traceB l t.data.toList)) := by
  have hlen : t.data.toList.length = t.size := by simp
  rw [traceB_eq, hlen]
  cases hv : (validB l && decide (t.size ≤ 80)) with
  | false =>
    rw [if_neg (by decide)]
    exact readTrace_bad A l c t w hw hl hlc hcm hn ht hv
  | true =>
    rw [if_pos rfl]
    simp only [Bool.and_eq_true, decide_eq_true_eq] at hv
    exact readTrace_good A l c t w hw hl hlc hcm hn hv.2 hv.1

end Go.Proofs.Ytnknfpfpjijemaa
/- The program's needs: writeNeeds, NeedsOf. -/
namespace Go.Proofs.Ytnknfpfpjijemaa
open Go.RowKit

theorem byteCells_app (s t : List UInt8) : Lib.byteCells (s ++ t) = Lib.byteCells s ++ Lib.byteCells t := by simp [Lib.byteCells]
theorem strCells_one (c : UInt8) : Lib.strCells ⟨#[c]⟩ = Lib.byteCells [c] := rfl
theorem byteCells_len (s : List UInt8) : (Lib.byteCells s).length = s.length := by simp [Lib.byteCells]

/-- What the range over calls has before it. -/
def LeftC (w : World) (B : Nat) (f : Forest) (A : Option Addr) (pre rest : Forest) : Prop := f = pre.app rest ∧ (rest.isNil = false → ∃ g, A = some ⟨g, 0, none⟩ ∧ g < B ∧ Cells w (· < B) rest g pre.len)
theorem LeftC.start {w : World} {B : Nat} {f : Forest} {v : Value} (h : SliceIs w (· < B) v f) : ∃ A cap, v = .slice A f.len cap ∧ LeftC w B f A .nil f := by
  obtain ⟨A, cap, e, h⟩ := h
  refine ⟨A, cap, e, rfl, fun hr => ?_⟩
  rw [Forest.isNil_len] at hr
  have hl : f.len ≠ 0 := of_decide_eq_false hr
  exact h (by omega)
theorem LeftC.below {w w' : World} {B : Nat} {f pre rest : Forest} {A : Option Addr} (h : LeftC w B f A pre rest) (hb : Below B w w') : LeftC w' B f A pre rest := by
  refine ⟨h.1, fun hr => ?_⟩
  obtain ⟨g, e, h1, h2⟩ := h.2 hr
  exact ⟨g, e, h1, Cells.keep (fun q hq => ⟨hq, hb.block q hq⟩) rest g _ (hb.block g h1) h2⟩
/-- One call is taken. -/
theorem LeftC.take {w : World} {B : Nat} {f pre k r : Forest} {c : UInt8} {A : Option Addr} (h : LeftC w B f A pre (.cons c k r)) :
    LeftC w B f A (pre.app (.cons c k .nil)) r ∧ pre.len < f.len ∧ k.size < f.size ∧ ∃ g u, A = some ⟨g, 0, none⟩ ∧ g < B ∧ w.cell? ⟨g, pre.len, none⟩ = some u ∧ IsCall w (· < B) c k u := by
  obtain ⟨h1, h2⟩ := h
  obtain ⟨g, e, h3, h4⟩ := h2 rfl
  obtain ⟨⟨u, c0, hu⟩, hr⟩ := h4
  have hl : (pre.app (.cons c k .nil)).len = pre.len + 1 := by rw [Forest.app_len]; rfl
  refine ⟨⟨?_, fun _ => ⟨g, e, h3, ?_⟩⟩, ?_, ?_, g, u, e, h3, c0, hu⟩
  · rw [Forest.app_assoc]; exact h1
  · rw [hl]; exact hr
  · rw [h1, Forest.app_len]; show pre.len < pre.len + (r.len + 1); omega
  · rw [h1, Forest.app_size]; show k.size < pre.size + (k.size + r.size + 1); omega
theorem LeftC.done {w : World} {B : Nat} {f pre : Forest} {A : Option Addr} (h : LeftC w B f A pre .nil) : f = pre := by rw [h.1, Forest.app_nil]
theorem SliceIs.below {w w' : World} {f : Forest} {v : Value} {B : Nat} (h : SliceIs w (· < B) v f) (hb : Below B w w') : SliceIs w' (· < B) v f :=
  h.keep fun q hq => ⟨hq, hb.block q hq⟩

end Go.Proofs.Ytnknfpfpjijemaa
