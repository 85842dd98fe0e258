/- Joined: Fy Fj Fg Fx. -/
import Derived.Test.YtcaegpjbdcopoaaU11
import Derived.Test.YtcaegpjbdcopoaaU09
import Derived.Test.YtcaegpjbdcopoaaU02
import Derived.Test.YtcaegpjbdcopoaaU01
import Derived.Deep.DeepCutAuto
import Derived.BigRegion
import Derived.BigQuiet
import Derived.Maps.AppendAt
/- The program's chains: an iterator that calls itself. -/
namespace Go.Proofs.Ytcaegpjbdcopoaa
open Go.RowKit Go.Shelf
attribute [local go_sem] Oper.semAt_some

theorem grown_of_below {X Y : World} (h : Below X.heap.size X Y) : X.grownBy Y none := ⟨h.os, h.tape, h.output, h.size, fun k hk _ => h.block k hk⟩
/-- Blocks for deferred calls, all empty: each loop over an iterator leaves one. -/
def MarksIn (lo hi : Nat) (W : World) (Ls : List Nat) : Prop := Ls.Nodup ∧ ∀ L ∈ Ls, lo ≤ L ∧ L < hi ∧ W.heap[L]? = some (.deferred (some []))
def marksOf (Ls : List Nat) : List Deferred := Ls.map fun L => { target := .collected L, args := #[] }
theorem MarksIn.nil (lo hi : Nat) (W : World) : MarksIn lo hi W [] := ⟨List.nodup_nil, fun L h => by cases h⟩
theorem MarksIn.keep {lo hi D : Nat} {W W' : World} {Ls : List Nat} (h : MarksIn lo hi W Ls) (hk : KeepsN D W W') (hD : D ≤ lo) : MarksIn lo hi W' Ls :=
  ⟨h.1, fun L hL => ⟨(h.2 L hL).1, (h.2 L hL).2.1, hk.same L _ (Nat.le_trans hD (h.2 L hL).1) (h.2 L hL).2.2 (fun c t fz he => by cases he)⟩⟩
theorem MarksIn.up {lo hi hi' : Nat} {W : World} {Ls : List Nat} (h : MarksIn lo hi W Ls) (hh : hi ≤ hi') : MarksIn lo hi' W Ls := ⟨h.1, fun L hL => ⟨(h.2 L hL).1, by have := (h.2 L hL).2.1; omega, (h.2 L hL).2.2⟩⟩
theorem MarksIn.grown {lo hi B : Nat} {W W' : World} {Ls : List Nat} {row : Option Nat} (h : MarksIn lo hi W Ls) (hg : W.grownBy W' row) (hr : ∀ r, row = some r → B ≤ r) (hB : hi ≤ B) : MarksIn lo hi W' Ls :=
  ⟨h.1, fun L hL => ⟨(h.2 L hL).1, (h.2 L hL).2.1, (hg.block L (Array.getElem?_eq_some_iff.1 (h.2 L hL).2.2).1 (fun e => by have := hr L e.symm; have := (h.2 L hL).2.1; omega)).trans (h.2 L hL).2.2⟩⟩
theorem MarksIn.cons {lo hi L : Nat} {W : World} {Ls : List Nat} (h : MarksIn lo hi W Ls) (h1 : hi ≤ L) (h2 : lo ≤ L) (h3 : W.heap[L]? = some (.deferred (some []))) : MarksIn lo (L + 1) W (L :: Ls) :=
  ⟨List.nodup_cons.2 ⟨fun hm => by have := (h.2 L hm).2.1; omega, h.1⟩, fun M hM => by
    rcases List.mem_cons.1 hM with rfl | hM
    · exact ⟨h2, by omega, h3⟩
    · exact ⟨(h.2 M hM).1, by have := (h.2 M hM).2.1; omega, (h.2 M hM).2.2⟩⟩
/-- A function whose frame holds marks alone leaves. -/
theorem marks_leave {F : Fence} {n : Nat} {P : Program} {fn : Func} {tmps : Array Value} {R : Ending → World → Prop} {lo hi : Nat} {I : World → Prop} (hI : ∀ (W : World) (L : Nat), I W → lo ≤ L → W.heap[L]? = some (.deferred (some [])) → I (W.putObj L (.deferred none)))
    (hres : fn.results = #[]) (hR : ∀ W, I W → R (.returned (.tuple #[])) W) : ∀ (Ls : List Nat) (W : World), MarksIn lo hi W Ls → I W → LeavesInM F n P fn tmps R (marksOf Ls) .returning W
  | [], W, _, h => ⟨_, results_none hres _ _ _, hR W h⟩
  | L :: Ls, W, hm, h => by
    have hL := hm.2 L (by simp)
    refine ⟨by simp, .inl ⟨L, _, rfl, run_takeDeferred hL.2.2, ?_⟩⟩
    refine marks_leave (hi := hi) hI hres hR Ls _ ⟨(List.nodup_cons.1 hm.1).2, fun M hM => ?_⟩ (hI W L h hL.1 hL.2.2)
    have hM' := hm.2 M (by simp [hM])
    refine ⟨hM'.1, hM'.2.1, ?_⟩
    rw [World.putObj_heap_other (fun e => (List.nodup_cons.1 hm.1).1 (by subst e; exact hM))]
    exact hM'.2.2

/-- What holds at the head of a round of the iterator. -/
structure ChHead (W : World) (n₀ D : Nat) (f : Forest) (a : List UInt8) (A : Option Addr) (cap Bc Bs l' : Nat) (J : List (List UInt8) → World → Prop) (pre rest : Forest) (Ls : List Nat) (W' : World) : Prop where
  left : LeftC W' n₀ f A pre rest
  come : J (chainsB a pre) W'
  low : Below n₀ W W'
  size : W.heap.size + 1 ≤ W'.heap.size
  boxY : BoxAt W' n₀ D W.heap.size (.func (.yield l') #[] #[]) 131
  boxC : BoxAt W' n₀ D Bc (.slice A f.len cap) 71
  boxS : BoxAt W' n₀ D Bs (.string (strOf a)) 9
  marks : MarksIn W.heap.size W'.heap.size W' Ls
/-- Later, with nothing old written. -/
theorem ChHead.later {W : World} {n₀ D : Nat} {f : Forest} {a : List UInt8} {A : Option Addr} {cap Bc Bs l' : Nat} {J : List (List UInt8) → World → Prop} {pre rest : Forest} {Ls : List Nat} {W1 W2 : World} (h : ChHead W n₀ D f a A cap Bc Bs l' J pre rest Ls W1)
    (hJ : OwnFrom W.heap.size J) (hb : Below W1.heap.size W1 W2) (hn : n₀ ≤ W.heap.size) : ChHead W n₀ D f a A cap Bc Bs l' J pre rest Ls W2 := by
  have hg := grown_of_below hb
  have hz := h.size
  have hb0 : Below n₀ W1 W2 := hb.mono (by omega)
  exact ⟨h.left.below hb0, hJ _ _ _ _ h.come hg (fun r e => by cases e), h.low.trans hb0, Nat.le_trans h.size hb.size, h.boxY.grown hg (fun r e => by cases e), h.boxC.grown hg (fun r e => by cases e), h.boxS.grown hg (fun r e => by cases e),
    (h.marks.grown hg (B := W1.heap.size) (fun r e => by cases e) (Nat.le_refl _)).up hb.size⟩
/-- What holds between two rounds of the loop within. -/
structure ChMid (W W3 : World) (n₀ D hi : Nat) (n : Nat) (a : List UInt8) (A : Option Addr) (cap Bc Bs l' : Nat) (Ls : List Nat) (W' : World) : Prop where
  low : Below n₀ W3 W'
  size : hi ≤ W'.heap.size
  boxY : BoxAt W' n₀ D W.heap.size (.func (.yield l') #[] #[]) 131
  boxC : BoxAt W' n₀ D Bc (.slice A n cap) 71
  boxS : BoxAt W' n₀ D Bs (.string (strOf a)) 9
  marks : MarksIn W.heap.size hi W' Ls
theorem ChMid.grown {W W3 : World} {n₀ D hi n : Nat} {a : List UInt8} {A : Option Addr} {cap Bc Bs l' : Nat} {Ls : List Nat} {X Y : World} {row : Option Nat} (h : ChMid W W3 n₀ D hi n a A cap Bc Bs l' Ls X) (hg : X.grownBy Y row)
    (hr : ∀ r, row = some r → hi ≤ r ∧ ∃ o : Obj, X.heap[r]? = some o ∧ o.isCells = false) (hn : n₀ ≤ hi) : ChMid W W3 n₀ D hi n a A cap Bc Bs l' Ls Y :=
  ⟨h.low.grown hg (Nat.le_trans hn h.size) (fun k e => Nat.le_trans hn (hr k e).1), Nat.le_trans h.size hg.size, h.boxY.grown hg (fun r e => (hr r e).2), h.boxC.grown hg (fun r e => (hr r e).2), h.boxS.grown hg (fun r e => (hr r e).2), h.marks.grown hg (fun r e => (hr r e).1) (Nat.le_refl _)⟩
theorem ChMid.keep {W W3 : World} {n₀ D hi n : Nat} {a : List UInt8} {A : Option Addr} {cap Bc Bs l' : Nat} {Ls : List Nat} {X Y : World} (h : ChMid W W3 n₀ D hi n a A cap Bc Bs l' Ls X) (hb : Below n₀ X Y) (hk : KeepsN D X Y) (hD : D ≤ W.heap.size) : ChMid W W3 n₀ D hi n a A cap Bc Bs l' Ls Y :=
  ⟨h.low.trans hb, Nat.le_trans h.size hk.size, h.boxY.keep hb hk, h.boxC.keep hb hk, h.boxS.keep hb hk, h.marks.keep hk hD⟩
def ChInv (W : World) (n₀ D : Nat) (f : Forest) (a : List UInt8) (A : Option Addr) (cap Bc Bs l' : Nat) (J : List (List UInt8) → World → Prop) (a' : Act) (W' : World) : Prop :=
  ∃ (pre rest : Forest) (Ls : List Nat) (u5 u6 u7 u10 u11 u12 u13 u14 u15 u16 u17 u18 u19 u20 u21 u22 u23 u24 u25 u26 u27 u28 u29 u30 u31 : Value), a' = { tmps := #[.func (.yield l') #[] #[], .pointer (some ⟨Bc, 0, none⟩), .pointer (some ⟨Bs, 0, none⟩), .pointer (some ⟨W.heap.size, 0, none⟩), undef, u5, u6, u7, .slice A f.len cap, .int .i64 f.len, u10, u11, u12, u13, u14, u15, u16, u17, u18, u19, u20, u21, u22, u23, u24, u25, u26, u27, u28, u29, u30, u31], defers := marksOf Ls } ∧ u10 = .int .i64 pre.len ∧ ChHead W n₀ D f a A cap Bc Bs l' J pre rest Ls W'

end Go.Proofs.Ytcaegpjbdcopoaa
/- A trace twice, plain; which letters stand in a trace. -/
namespace Go.Proofs.Ytcaegpjbdcopoaa
open Go.RowKit

theorem callA_some {P : UInt8 → Bool} {d : Nat} {c : UInt8} {s : List UInt8} {k : Forest} {r1 : List UInt8} (h : callA P d c s = some (k, r1)) : ∃ d', d = d' + 1 ∧ P c = true ∧
    ((k = .nil ∧ r1 = s ∧ ∀ x u, s = x :: u → x ≠ 40) ∨ (∃ s', s = 40 :: s' ∧ k.isNil = false ∧ calls P d' s' = some (k, 41 :: r1))) := by
  cases d with
  | zero => rw [callA_zero] at h; cases h
  | succ d =>
    refine ⟨d, rfl, ?_⟩
    cases hP : P c with
    | false => rw [callA_no hP] at h; cases h
    | true =>
      refine ⟨rfl, ?_⟩
      cases s with
      | nil =>
        rw [callA_leaf hP (fun x u e => by cases e)] at h
        injection h with h
        injection h with h1 h2
        exact .inl ⟨h1.symm, h2.symm, fun x u e => by cases e⟩
      | cons x u =>
        by_cases hx : x = 40
        · subst hx
          rw [callA_open hP] at h
          refine .inr ⟨u, rfl, ?_⟩
          unfold closed at h
          split at h
          · cases h
          · cases h
          · cases h
          · next c' k' f' x' r' h7 =>
            split at h
            · next h8 =>
              injection h with h
              injection h with h1 h2
              subst h1 h2 h8
              exact ⟨rfl, h7⟩
            · cases h
        · rw [callA_leaf hP (fun y v e => by injection e with e1 e2; rw [← e1]; exact hx)] at h
          injection h with h
          injection h with h1 h2
          exact .inl ⟨h1.symm, h2.symm, fun y v e => by injection e with e1 e2; rw [← e1]; exact hx⟩

theorem calls_some_cons {P : UInt8 → Bool} {d : Nat} {c : UInt8} {s : List UInt8} {f : Forest} {r : List UInt8} (hc : c ≠ 41) (h : calls P d (c :: s) = some (f, r)) :
    ∃ k r1 f', callA P d c s = some (k, r1) ∧ calls P d r1 = some (f', r) ∧ f = .cons c k f' := by
  rw [calls_cons P d s hc] at h
  unfold thenBy at h
  split at h
  · cases h
  · next k r1 h2 =>
    split at h
    · cases h
    · next f' r2 h4 =>
      injection h with h
      injection h with h1 h2'
      subst h1 h2'
      exact ⟨k, r1, f', h2, h4, rfl⟩

theorem calls_more {P : UInt8 → Bool} {u : List UInt8} (hu : ∀ x v, u = x :: v → x ≠ 40) : ∀ (n d : Nat) (s : List UInt8), s.length ≤ n → ∀ f r, calls P d s = some (f, r) → calls P d (s ++ u) = if r = [] then ahead f (calls P d u) else some (f, r ++ u)
  | n, d, [], _, f, r, h => by
    rw [calls_nil] at h
    injection h with h
    injection h with h1 h2
    subst h1 h2
    rw [if_pos rfl, List.nil_append, ahead_nil]
  | 0, d, c :: s, hn, f, r, h => absurd hn (by simp)
  | n + 1, d, c :: s, hn, f, r, h => by
    by_cases hc : c = 41
    · subst hc
      rw [calls_close] at h
      injection h with h
      injection h with h1 h2
      subst h1 h2
      rw [if_neg (by simp), List.cons_append, calls_close]
    · obtain ⟨k, r1, f', h1, h2, rfl⟩ := calls_some_cons hc h
      have hl : r1.length ≤ s.length := callA_less P d c s k r1 h1
      have hn' : s.length ≤ n := by simpa using hn
      have h3 : callA P d c (s ++ u) = some (k, r1 ++ u) := by
        obtain ⟨d', rfl, hP, ⟨rfl, rfl, hx⟩ | ⟨s', rfl, hk, hcs⟩⟩ := callA_some h1
        · refine callA_leaf hP fun x v e => ?_
          cases r1 with
          | nil => exact hu x v e
          | cons y w => injection e with e1 e2; rw [← e1]; exact hx y w rfl
        · have := calls_more hu n d' s' (by simp at hn'; omega) _ _ hcs
          rw [if_neg (by simp)] at this
          rw [List.cons_append, callA_open hP, this]
          exact closed_app hk _
      rw [List.cons_append, calls_step .nil hc h3 |> (ahead_nil _).symm.trans, calls_more hu n d r1 (by omega) _ _ h2]
      split
      · rw [ahead_ahead]; rfl
      · rfl

theorem trace_head {l : List Seg} {d : Nat} {t : List UInt8} {f : Forest} (h : calls (callP l) d t = some (f, [])) : ∀ x v, t = x :: v → x ≠ 40 := by
  rintro x v rfl rfl
  obtain ⟨k, r1, f', h1, _⟩ := calls_some_cons (by decide) h
  rw [callA_no (callP_open l)] at h1
  cases h1

/-- A trace twice is one, unless it is too long. -/
theorem traceB_twice {l : List Seg} {t : List UInt8} {f : Forest} (h : traceB l t = some f) : traceB l (t ++ t) = if t.length + t.length ≤ 80 then some (f.app f) else none := by
  obtain ⟨h1, h2, h3⟩ := traceB_some h
  rw [traceB_eq, h1, Bool.true_and, List.length_append]
  by_cases hl : t.length + t.length ≤ 80
  · rw [if_pos (decide_eq_true hl), if_pos hl, calls_more (trace_head h3) _ _ _ (Nat.le_refl _) _ _ h3, if_pos rfl, h3]
    rfl
  · rw [if_neg (by simpa using hl), if_neg hl]

/-- All letters of calls are names. -/
def Forest.all (P : UInt8 → Bool) : Forest → Prop
  | .nil => True
  | .cons c k r => P c = true ∧ k.all P ∧ r.all P
theorem calls_all {P : UInt8 → Bool} : ∀ (n d : Nat) (s : List UInt8), s.length ≤ n → ∀ f r, calls P d s = some (f, r) → f.all P
  | n, d, [], _, f, r, h => by
    rw [calls_nil] at h
    injection h with h
    injection h with h1 h2
    subst h1
    exact trivial
  | 0, d, c :: s, hn, f, r, h => absurd hn (by simp)
  | n + 1, d, c :: s, hn, f, r, h => by
    by_cases hc : c = 41
    · subst hc
      rw [calls_close] at h
      injection h with h
      injection h with h1 h2
      subst h1
      exact trivial
    · obtain ⟨k, r1, f', h1, h2, rfl⟩ := calls_some_cons hc h
      have hl : r1.length ≤ s.length := callA_less P d c s k r1 h1
      have hn' : s.length ≤ n := by simpa using hn
      obtain ⟨d', rfl, hP, h4⟩ := callA_some h1
      refine ⟨hP, ?_, calls_all n _ r1 (by omega) _ _ h2⟩
      rcases h4 with ⟨rfl, _⟩ | ⟨s', rfl, _, hcs⟩
      · exact trivial
      · exact calls_all n d' s' (by simp at hn'; omega) _ _ hcs
theorem traceB_all {l : List Seg} {t : List UInt8} {f : Forest} (h : traceB l t = some f) : f.all (callP l) := by
  obtain ⟨_, _, h3⟩ := traceB_some h
  exact calls_all _ _ _ (Nat.le_refl _) _ _ h3

end Go.Proofs.Ytcaegpjbdcopoaa
/- The reference's calls in memory. -/
namespace Go.Proofs.Ytcaegpjbdcopoaa
open Go.RowKit

/-- The reference's calls 'f' lie in block 'g' from cell 'o' on. -/
def SCells (w : World) (S : Nat → Prop) : Forest → Nat → Nat → Prop
  | .nil, _, _ => True
  | .cons c k r, g, o => w.cell? ⟨g, o, none⟩ = some (.string ⟨#[c]⟩) ∧ (∃ A cap, w.cell? ⟨g, o + 1, none⟩ = some (.slice A k.len cap) ∧ (k.isNil = false → ∃ h, A = some ⟨h, 0, none⟩ ∧ S h ∧ SCells w S k h 0)) ∧ SCells w S r g (o + 2)
def IsKids (w : World) (S : Nat → Prop) (k : Forest) (v : Value) : Prop :=
  ∃ A cap, v = .slice A k.len cap ∧ (k.isNil = false → ∃ h, A = some ⟨h, 0, none⟩ ∧ S h ∧ SCells w S k h 0)
theorem SCells.keep {w w' : World} {S S' : Nat → Prop} (hS : ∀ q, S q → S' q ∧ w'.heap[q]? = w.heap[q]?) : ∀ (f : Forest) (g o : Nat), w'.heap[g]? = w.heap[g]? → SCells w S f g o → SCells w' S' f g o
  | .nil, _, _, _, _ => trivial
  | .cons c k r, g, o, hg, h => by
    obtain ⟨hc, ⟨A, cap, hv, hk⟩, hr⟩ := h
    refine ⟨(cell_same hg o).trans hc, ⟨A, cap, (cell_same hg _).trans hv, fun hn => ?_⟩, SCells.keep hS r g (o + 2) hg hr⟩
    obtain ⟨q, e, hs, hk⟩ := hk hn
    exact ⟨q, e, (hS q hs).1, SCells.keep hS k q 0 (hS q hs).2 hk⟩
theorem IsKids.keep {w w' : World} {S S' : Nat → Prop} (hS : ∀ q, S q → S' q ∧ w'.heap[q]? = w.heap[q]?) {k : Forest} {v : Value} (h : IsKids w S k v) : IsKids w' S' k v := by
  obtain ⟨A, cap, hv, hk⟩ := h
  refine ⟨A, cap, hv, fun hn => ?_⟩
  obtain ⟨q, e, hs, hk⟩ := hk hn
  exact ⟨q, e, (hS q hs).1, SCells.keep hS k q 0 (hS q hs).2 hk⟩

def SVals (w : World) (S : Nat → Prop) : Forest → List Value → Prop
  | .nil, xs => xs = []
  | .cons c k r, xs => ∃ v vs, xs = .string ⟨#[c]⟩ :: v :: vs ∧ IsKids w S k v ∧ SVals w S r vs
theorem SVals.keep {w w' : World} {S S' : Nat → Prop} (hS : ∀ q, S q → S' q ∧ w'.heap[q]? = w.heap[q]?) : ∀ (f : Forest) (xs : List Value), SVals w S f xs → SVals w' S' f xs
  | .nil, _, h => h
  | .cons c k r, xs, h => by
    obtain ⟨v, vs, e, hc, hr⟩ := h
    exact ⟨v, vs, e, hc.keep hS, SVals.keep hS r vs hr⟩
theorem SVals.snoc {w : World} {S : Nat → Prop} {c : UInt8} {k : Forest} {v : Value} (hc : IsKids w S k v) : ∀ (f : Forest) (xs : List Value), SVals w S f xs → SVals w S (f.app (.cons c k .nil)) (xs ++ [.string ⟨#[c]⟩, v])
  | .nil, xs, h => by
    have h' : xs = [] := h
    subst h'
    exact ⟨v, [], rfl, hc, rfl⟩
  | .cons c' k' r, xs, h => by
    obtain ⟨v', vs, e, hc', hr⟩ := h
    subst e
    exact ⟨v', vs ++ [.string ⟨#[c]⟩, v], rfl, hc', SVals.snoc hc r vs hr⟩
theorem SVals.len {w : World} {S : Nat → Prop} : ∀ (f : Forest) (xs : List Value), SVals w S f xs → xs.length = f.len * 2
  | .nil, xs, h => by
    have h' : xs = [] := h
    subst h'; rfl
  | .cons c k r, xs, h => by
    obtain ⟨v, vs, e, _, hr⟩ := h
    subst e
    show vs.length + 1 + 1 = (r.len + 1) * 2
    rw [SVals.len r vs hr]; omega
theorem SVals.cells {w : World} {S : Nat → Prop} {g : Nat} : ∀ (f : Forest) (xs : List Value) (o : Nat), SVals w S f xs → (∀ i, i < xs.length → w.cell? ⟨g, o + i, none⟩ = xs[i]?) → SCells w S f g o
  | .nil, _, _, _, _ => trivial
  | .cons c k r, xs, o, h, hx => by
    obtain ⟨v, vs, e, ⟨A, cap, hv, hk⟩, hr⟩ := h
    subst e
    refine ⟨hx 0 (by simp), ⟨A, cap, ?_, hk⟩, SVals.cells r vs (o + 2) hr fun i hi => ?_⟩
    · rw [← hv]; exact hx 1 (by simp)
    · have := hx (i + 2) (by simp; omega)
      rw [show o + 2 + i = o + (i + 2) by omega, this]
      simp

/-- A slice of the reference's calls, of the reader's own. -/
def OwnS (w : World) (B : Nat) (v : Value) (f : Forest) : Prop :=
  ∃ xs, w.ownsRow B 147 2 v f.len xs ∧ SVals w (fun q => B ≤ q ∧ q < w.heap.size ∧ v.ownBlock ≠ some q) f xs
theorem OwnS.lt {w : World} {B : Nat} {v : Value} {f : Forest} (h : OwnS w B v f) : ∀ x, v.ownBlock = some x → B ≤ x ∧ x < w.heap.size := by
  obtain ⟨xs, hown, _⟩ := h
  exact fun x e => hown.lt x e
theorem OwnS.form {w : World} {B : Nat} {v : Value} {f : Forest} (h : OwnS w B v f) : ∃ A cap, v = .slice A f.len cap := by
  obtain ⟨xs, hown, _⟩ := h
  rcases hown.2 with ⟨rfl, h0⟩ | ⟨g, cap, cur, rfl, hg, hh, r⟩
  · exact ⟨none, 0, by rw [h0]⟩
  · exact ⟨_, cap, rfl⟩
theorem OwnS.kids {w : World} {B : Nat} {v : Value} {f : Forest} (h : OwnS w B v f) : IsKids w (fun q => B ≤ q ∧ q < w.heap.size) f v := by
  obtain ⟨xs, hown, hv⟩ := h
  have hx := SVals.len f xs hv
  rcases hown.2 with ⟨rfl, h0⟩ | ⟨g, cap, cur, rfl, hg, hh, r⟩
  · refine ⟨none, 0, by rw [h0], fun hn => ?_⟩
    rw [Forest.isNil_len, h0] at hn
    cases hn
  · refine ⟨_, cap, rfl, fun hn => ⟨g, rfl, ⟨hg, (Array.getElem?_eq_some_iff.1 hh).1⟩, ?_⟩⟩
    refine SVals.cells f xs 0 (SVals.keep (fun q h => ⟨⟨h.1, h.2.1⟩, rfl⟩) f xs hv) fun i hi => ?_
    rw [Nat.zero_add]
    exact World.ownsRow.cellAt hown i (by omega)
theorem OwnS.far {w w' : World} {B : Nat} {v : Value} {f : Forest} (h : OwnS w B v f) (hz : w.heap.size ≤ w'.heap.size) (hk : ∀ q, B ≤ q → q < w.heap.size → w'.heap[q]? = w.heap[q]?) : OwnS w' B v f := by
  obtain ⟨xs, hown, hv⟩ := h
  refine ⟨xs, ⟨hown.1, ?_⟩, SVals.keep (fun q h => ⟨⟨h.1, by omega, h.2.2⟩, hk q h.1 h.2.1⟩) f xs hv⟩
  rcases hown.2 with h0 | ⟨g', cap, cur, rfl, hg, hh, r⟩
  · exact .inl h0
  · exact .inr ⟨g', cap, cur, rfl, hg, (hk g' hg (Array.getElem?_eq_some_iff.1 hh).1).trans hh, r⟩
theorem OwnS.only {w w' : World} {B b : Nat} {v : Value} {f : Forest} (h : OwnS w B v f) (ho : Only w w' (· = b)) (hb : b < B) : OwnS w' B v f :=
  h.far ho.size fun q h1 h2 => ho.block q h2 (by omega)
theorem OwnS.empty (w : World) {B : Nat} (hB : B ≤ w.heap.size) : OwnS (w.alloc (.cells #[] 147)) B (.slice (some ⟨w.heap.size, 0, none⟩) 0 0) .nil :=
  ⟨[], World.ownsRow_lit (base := B) (e := 147) (size := 2) w #[] 0 hB (by simp [maxLen]) rfl, rfl⟩
theorem OwnS.more {w W w' : World} {B : Nat} {v v' u : Value} {f k : Forest} {c : UInt8} {xs : List Value} (hv : SVals w (fun q => B ≤ q ∧ q < w.heap.size ∧ v.ownBlock ≠ some q) f xs)
    (hu : IsKids w (fun q => B ≤ q ∧ q < w.heap.size ∧ v.ownBlock ≠ some q) k u)
    (hW : Below w.heap.size w W) (hg : W.grownBy w' v.ownBlock) (hown' : w'.ownsRow B 147 2 v' (f.len + 1) (xs ++ [.string ⟨#[c]⟩, u])) (hat : v'.ownBlock = v.ownBlock ∨ v'.ownBlock = some W.heap.size) :
    OwnS w' B v' (f.app (.cons c k .nil)) := by
  have hs := hW.size
  have hs2 := hg.size
  have keep : ∀ q, q < w.heap.size → v.ownBlock ≠ some q → w'.heap[q]? = w.heap[q]? := fun q h1 h2 => (hg.block q (by omega) (fun e => h2 e.symm)).trans (hW.block q h1)
  have ne : ∀ q, q < w.heap.size → v.ownBlock ≠ some q → v'.ownBlock ≠ some q := fun q h1 h2 => by
    rcases hat with e | e
    · rw [e]; exact h2
    · rw [e]; intro he; injection he with he; omega
  exact ⟨xs ++ [.string ⟨#[c]⟩, u], by rw [Forest.app_len]; exact hown', SVals.snoc (hu.keep fun q h => ⟨⟨h.1, by omega, ne q h.2.1 h.2.2⟩, keep q h.2.1 h.2.2⟩) f xs (SVals.keep (fun q h => ⟨⟨h.1, by omega, ne q h.2.1 h.2.2⟩, keep q h.2.1 h.2.2⟩) f xs hv)⟩

/-- The same, all of it below block 'N'. -/
def OwnN (w : World) (B N : Nat) (v : Value) (f : Forest) : Prop :=
  N ≤ w.heap.size ∧ (∀ x, v.ownBlock = some x → x < N) ∧ ∃ xs, w.ownsRow B 147 2 v f.len xs ∧ SVals w (fun q => B ≤ q ∧ q < N ∧ v.ownBlock ≠ some q) f xs
theorem OwnS.toN {w : World} {B : Nat} {v : Value} {f : Forest} (h : OwnS w B v f) : OwnN w B w.heap.size v f := by
  have hl := h.lt
  obtain ⟨xs, hown, hv⟩ := h
  exact ⟨Nat.le_refl _, fun x e => (hl x e).2, xs, hown, hv⟩
theorem OwnN.lt {w : World} {B N : Nat} {v : Value} {f : Forest} (h : OwnN w B N v f) : ∀ x, v.ownBlock = some x → B ≤ x ∧ x < N := by
  obtain ⟨_, hN, xs, hown, _⟩ := h
  exact fun x e => ⟨(hown.lt x e).1, hN x e⟩
theorem OwnN.far {w w' : World} {B N : Nat} {v : Value} {f : Forest} (h : OwnN w B N v f) (hz : w.heap.size ≤ w'.heap.size) (hk : ∀ q, B ≤ q → q < N → w'.heap[q]? = w.heap[q]?) : OwnN w' B N v f := by
  obtain ⟨h1, hN, xs, hown, hv⟩ := h
  refine ⟨by omega, hN, xs, ⟨hown.1, ?_⟩, SVals.keep (fun q h => ⟨h, hk q h.1 h.2.1⟩) f xs hv⟩
  rcases hown.2 with h0 | ⟨g', cap, cur, rfl, hg, hh, r⟩
  · exact .inl h0
  · exact .inr ⟨g', cap, cur, rfl, hg, (hk g' hg (hN g' rfl)).trans hh, r⟩
theorem OwnN.below {w w' : World} {B N : Nat} {v : Value} {f : Forest} (h : OwnN w B N v f) (hb : Below w.heap.size w w') : OwnN w' B N v f := h.far hb.size fun q _ h2 => hb.block q (by have := h.1; omega)
theorem OwnN.same {w w' : World} {B N : Nat} {v : Value} {f : Forest} (h : OwnN w B N v f) (hh : w'.heap = w.heap) : OwnN w' B N v f := h.far (by rw [hh]; exact Nat.le_refl _) fun q _ _ => by rw [hh]
theorem OwnN.only {w w' : World} {B N b : Nat} {v : Value} {f : Forest} (h : OwnN w B N v f) (ho : Only w w' (· = b)) (hb : b < B) : OwnN w' B N v f :=
  h.far ho.size fun q h1 h2 => ho.block q (by have := h.1; omega) (by omega)
theorem OwnN.setRow {w : World} {B N b : Nat} {v : Value} {f : Forest} (h : OwnN w B N v f) (hb : b < B) (i : Nat) (u : Value) : OwnN (w.setCell ⟨b, i, none⟩ u) B N v f :=
  h.far (by simp [World.setCell]) fun q h1 _ => Below.heap_setCell w ⟨b, i, none⟩ u q (by show q ≠ b; omega)
theorem OwnN.setAt {w : World} {B N X : Nat} {v : Value} {f : Forest} (h : OwnN w B N v f) (hX : N ≤ X) (i : Nat) (u : Value) : OwnN (w.setCell ⟨X, i, none⟩ u) B N v f :=
  h.far (by simp [World.setCell]) fun q _ h2 => Below.heap_setCell w ⟨X, i, none⟩ u q (by show q ≠ X; omega)
theorem OwnN.form {w : World} {B N : Nat} {v : Value} {f : Forest} (h : OwnN w B N v f) : ∃ xs, w.ownsRow B 147 2 v f.len xs ∧ SVals w (fun q => B ≤ q ∧ q < w.heap.size ∧ v.ownBlock ≠ some q) f xs := by
  obtain ⟨h1, _, xs, hown, hv⟩ := h
  exact ⟨xs, hown, SVals.keep (fun q h => ⟨⟨h.1, by omega, h.2.2⟩, rfl⟩) f xs hv⟩

theorem own_form2 {w : World} {base : Nat} {e : TypeId} {v : Value} {n : Nat} {xs : List Value} (h : w.ownsRow base e 2 v n xs) (hn : 0 < n) : ∃ g cap, v = .slice (some ⟨g, 0, none⟩) n cap := by
  rcases h.2 with ⟨rfl, h0⟩ | ⟨g, cap, cur, rfl, hg, hh, r⟩
  · omega
  · exact ⟨g, cap, rfl⟩

theorem info_l4 : (Try.prog.info? 147).map (fun i => (i.zero, i.size, i.bytes)) = some (some (.agg #[.string ByteArray.empty, .slice none 0 0]), 2, 40) := by kernel_rfl

/-- The reference's reader. -/
def rdCells (t : ByteArray) (a : Int) (bad : Bool) (tv : Value) (dp : Int) : Array Value := #[.string t, .int .i64 a, .bool bad, tv, .int .i64 dp]

/-- What is read so far. -/
def SRel (w : World) (b : Nat) (t : ByteArray) (k₀ : Nat) (tv : Value) (dp : Int) (P : UInt8 → Bool) (d : Nat) (v : Value) (wr : World) : Prop :=
  Only w wr (· = b) ∧ ((∃ (F : Forest) (k : Nat), k ≤ t.size ∧ F.len ≤ k ∧ OwnS wr w.heap.size v F ∧ Row wr b 144 (rdCells t k false tv dp) ∧ calls P d (t.data.toList.drop k₀) = ahead F (calls P d (t.data.toList.drop k))) ∨
    (∃ (a : Int) (A : Option Addr) (n cap : Nat), v = .slice A n cap ∧ 0 ≤ a ∧ a ≤ (t.size : Int) + 1 + (d : Int) ∧ Row wr b 144 (rdCells t a true tv dp) ∧ calls P d (t.data.toList.drop k₀) = none))
/-- One call is read, its cells in block 'X'. -/
def SMid (w : World) (b : Nat) (t : ByteArray) (k₀ : Nat) (tv : Value) (dp : Int) (P : UInt8 → Bool) (d kp N : Nat) (c : UInt8) (F : Forest) (v xp : Value) (wr : World) : Prop :=
  ∃ (X : Nat) (kv : Value), xp = .pointer (some ⟨X, 0, none⟩) ∧ Row wr X 147 #[.string ⟨#[c]⟩, kv] ∧ Only w wr (· = b) ∧ OwnN wr w.heap.size N v F ∧
    ((∃ (kf : Forest) (k : Nat), k ≤ t.size ∧ F.len + 1 ≤ k ∧ kp < k ∧ Row wr b 144 (rdCells t k false tv dp) ∧ IsKids wr (fun q => w.heap.size ≤ q ∧ q < wr.heap.size ∧ v.ownBlock ≠ some q) kf kv ∧ calls P d (t.data.toList.drop k₀) = ahead (F.app (.cons c kf .nil)) (calls P d (t.data.toList.drop k))) ∨
    (∃ (a : Int) (A : Option Addr) (n cap : Nat), kv = .slice A n cap ∧ 0 ≤ a ∧ a ≤ (t.size : Int) + 1 + (d : Int) ∧ Row wr b 144 (rdCells t a true tv dp) ∧ calls P d (t.data.toList.drop k₀) = none))
/-- What the reference's reader has done. -/
def SPost (w : World) (b : Nat) (t : ByteArray) (k₀ : Nat) (tv : Value) (dp : Int) (P : UInt8 → Bool) (d : Nat) (e : Ending) (w' : World) : Prop :=
  ∃ v, e = .returned v ∧ Only w w' (· = b) ∧ ((∃ (F : Forest) (k : Nat), k ≤ t.size ∧ OwnS w' w.heap.size v F ∧ Row w' b 144 (rdCells t k false tv dp) ∧ calls P d (t.data.toList.drop k₀) = some (F, t.data.toList.drop k)) ∨
    (∃ (a : Int) (A : Option Addr) (n cap : Nat), v = .slice A n cap ∧ 0 ≤ a ∧ a ≤ (t.size : Int) + 1 + (d : Int) ∧ Row w' b 144 (rdCells t a true tv dp) ∧ calls P d (t.data.toList.drop k₀) = none))

/-- How much is left. -/
def leftS (t : ByteArray) (b : Nat) (w : World) : Nat := match w.cell? ⟨b, 2, none⟩, w.cell? ⟨b, 1, none⟩ with
  | some (.bool false), some i => t.size + 1 - (intOf i).toNat
  | _, _ => 0
theorem leftS_good {t : ByteArray} {b : Nat} {w : World} {k : Nat} {tv : Value} {dp : Int} (h : Row w b 144 (rdCells t k false tv dp)) : leftS t b w = t.size + 1 - k := by
  unfold leftS
  rw [h.cell 2, h.cell 1]
  show t.size + 1 - ((k : Int)).toNat = _
  rw [Int.toNat_natCast]
theorem leftS_bad {t : ByteArray} {b : Nat} {w : World} {a : Int} {tv : Value} {dp : Int} (h : Row w b 144 (rdCells t a true tv dp)) : leftS t b w = 0 := by
  unfold leftS
  rw [h.cell 2, h.cell 1]
  rfl

end Go.Proofs.Ytcaegpjbdcopoaa
/- A region that reads before it stores: its reading steps, one by one. -/
namespace Go.Proofs.Ytcaegpjbdcopoaa
open Go.RowKit

section
variable {P : Program} {ops : Array Oper} {w : World} {Q : Act → Prop}
/-- An operation of a region that only reads yields 'v'. -/
theorem still_put {d : Nat} {v : Value} {tmps tmps' : Array Value} {o : Oper} {rest : List Oper} (hd : o.dst = some d) (hw : Region.wanted o (yielded ops tmps) = true) (hs : tmps.setIfInBounds d v = tmps')
    (hy : (execOp (Act.eval ⟨tmps, []⟩) o).run P w = .ok (.value v) w) (h : wpStill P ops w Q rest ⟨tmps', []⟩) : wpStill P ops w Q (o :: rest) ⟨tmps, []⟩ := by
  subst hs
  unfold wpStill
  rw [if_pos hw]
  unfold Oper.still
  rw [hy, Oper.stillUpon_value, hd]
  exact h
/-- An operation that its guard passes over. -/
theorem still_skip {d : Nat} {tmps tmps' : Array Value} {o : Oper} {rest : List Oper} (hd : o.dst = some d) (hw : Region.wanted o (yielded ops tmps) = false) (hs : tmps.setIfInBounds d undef = tmps')
    (h : wpStill P ops w Q rest ⟨tmps', []⟩) : wpStill P ops w Q (o :: rest) ⟨tmps, []⟩ := by
  subst hs
  unfold wpStill
  rw [if_neg (by rw [hw]; decide), hd]
  exact h
end

section
variable {ρ : Operand → Value} {o : Oper} {x y : Operand} {w : World}
theorem hy_loadB {a : Addr} {v : Value} (ho : o.op = .load 4 x) (hx : ρ x = .pointer (some a)) (hc : w.cell? a = some v) : (execOp ρ o).run Try.prog w = .ok (.value v) w := by
  unfold execOp
  rw [ho]
  simp [hx, go_sem, hc]
theorem hy_loadI {a : Addr} {v : Value} (ho : o.op = .load 3 x) (hx : ρ x = .pointer (some a)) (hc : w.cell? a = some v) : (execOp ρ o).run Try.prog w = .ok (.value v) w := by
  unfold execOp
  rw [ho]
  simp [hx, go_sem, hc]
theorem hy_loadT {a : Addr} {v : Value} (ho : o.op = .load 9 x) (hx : ρ x = .pointer (some a)) (hc : w.cell? a = some v) : (execOp ρ o).run Try.prog w = .ok (.value v) w := by
  unfold execOp
  rw [ho]
  simp [hx, go_sem, hc]
theorem hy_loadS {a : Addr} {v : Value} (ho : o.op = .load 104 x) (hx : ρ x = .pointer (some a)) (hc : w.cell? a = some v) : (execOp ρ o).run Try.prog w = .ok (.value v) w := by
  unfold execOp
  rw [ho]
  simp [hx, go_sem, hc]
theorem hy_lenS {A : Option Addr} {n c : Nat} (ho : o.op = .call { callee := .builtin .len, args := #[x], argTypes := #[104] }) (hx : ρ x = .slice A n c) : (execOp ρ o).run Try.prog w = .ok (.value (.int .i64 n)) w := by
  unfold execOp
  rw [ho]
  simp [resolve, invoke, builtin, hx, go_sem, run_len_slice w 104 o.type A n c (P := Try.prog) (by kernel_rfl)]
theorem hy_lenT {s : ByteArray} (ho : o.op = .call { callee := .builtin .len, args := #[x], argTypes := #[9] }) (hx : ρ x = .string s) : (execOp ρ o).run Try.prog w = .ok (.value (.int .i64 s.size)) w := by
  unfold execOp
  rw [ho]
  simp [resolve, invoke, builtin, hx, go_sem, run_len_string w 9 o.type s (P := Try.prog) (by kernel_rfl)]
theorem hy_eql {t u : TypeId} {A B : Int} {q : Bool} (ho : o.op = .binOp .eql t x y u) (hx : ρ x = .int .i64 A) (hy : ρ y = .int .i64 B) (hq : (A == B) = q) : (execOp ρ o).run Try.prog w = .ok (.value (.bool q)) w := by
  unfold execOp
  rw [ho]
  subst hq
  simp [hx, hy, go_sem]
theorem hy_geq {t u : TypeId} {A B : Int} {q : Bool} (ho : o.op = .binOp .geq t x y u) (hx : ρ x = .int .i64 A) (hy : ρ y = .int .i64 B) (hq : decide (B ≤ A) = q) : (execOp ρ o).run Try.prog w = .ok (.value (.bool q)) w := by
  unfold execOp
  rw [ho]
  subst hq
  simp [hx, hy, go_sem]
end

/-- The operations of a region of a function's text. -/
def regionOps (i : Nat) : Code → Option (Array Oper)
  | .region j ops _ => if j = i then some ops else none
  | .seq a b => (regionOps i a).or (regionOps i b)
  | .cond _ a b => (regionOps i a).or (regionOps i b)
  | .block _ b => regionOps i b
  | .loop b => regionOps i b
  | .scope b => regionOps i b
  | .rangeFunc _ _ a b => (regionOps i a).or (regionOps i b)
  | _ => none
theorem lexHead_step {md : Region.Mode} {ops : Array Oper} {g f k : Nat} {listed listed' : Array Bool} (h1 : (Region.ready md ops listed).contains k = true) (h2 : Region.free md ops listed k = true) (h3 : listed.setIfInBounds k true = listed')
    (h : Region.lexHead md ops g f (k + 1) listed' = true) : Region.lexHead md ops g (f + 1) k listed = true := by
  subst h3
  unfold Region.lexHead
  rw [h1, h2, h]
  rfl
theorem lexHead_eq {md : Region.Mode} {ops : Array Oper} {g f k : Nat} {listed listed' : Array Bool} (h : listed = listed') (H : Region.lexHead md ops g f k listed' = true) : Region.lexHead md ops g f k listed = true := h ▸ H
/-- The reader's last test of a round. -/
theorem readerLex : Region.lexTailB .any (((Try.f93).body.bind (regionOps 11)).getD #[]) 25 = true := by
  unfold Region.lexTailB
  simp only [Bool.and_eq_true]
  refine ⟨⟨⟨⟨by kernel_rfl, by kernel_rfl⟩, by kernel_rfl⟩, by kernel_rfl⟩, ?_⟩
  refine lexHead_eq (listed' := #[false, false, false, false, false, false, false, false, false, false, false, false, false, false, false, false, false, false, false, false, false, false, false, false, false, false]) (by kernel_rfl) ?_
  refine lexHead_step (listed' := #[true, false, false, false, false, false, false, false, false, false, false, false, false, false, false, false, false, false, false, false, false, false, false, false, false, false]) (by kernel_rfl) (by kernel_rfl) (by kernel_rfl) ?_
  refine lexHead_step (listed' := #[true, true, false, false, false, false, false, false, false, false, false, false, false, false, false, false, false, false, false, false, false, false, false, false, false, false]) (by kernel_rfl) (by kernel_rfl) (by kernel_rfl) ?_
  refine lexHead_step (listed' := #[true, true, true, false, false, false, false, false, false, false, false, false, false, false, false, false, false, false, false, false, false, false, false, false, false, false]) (by kernel_rfl) (by kernel_rfl) (by kernel_rfl) ?_
  refine lexHead_step (listed' := #[true, true, true, true, false, false, false, false, false, false, false, false, false, false, false, false, false, false, false, false, false, false, false, false, false, false]) (by kernel_rfl) (by kernel_rfl) (by kernel_rfl) ?_
  refine lexHead_step (listed' := #[true, true, true, true, true, false, false, false, false, false, false, false, false, false, false, false, false, false, false, false, false, false, false, false, false, false]) (by kernel_rfl) (by kernel_rfl) (by kernel_rfl) ?_
  refine lexHead_step (listed' := #[true, true, true, true, true, true, false, false, false, false, false, false, false, false, false, false, false, false, false, false, false, false, false, false, false, false]) (by kernel_rfl) (by kernel_rfl) (by kernel_rfl) ?_
  refine lexHead_step (listed' := #[true, true, true, true, true, true, true, false, false, false, false, false, false, false, false, false, false, false, false, false, false, false, false, false, false, false]) (by kernel_rfl) (by kernel_rfl) (by kernel_rfl) ?_
  refine lexHead_step (listed' := #[true, true, true, true, true, true, true, true, false, false, false, false, false, false, false, false, false, false, false, false, false, false, false, false, false, false]) (by kernel_rfl) (by kernel_rfl) (by kernel_rfl) ?_
  refine lexHead_step (listed' := #[true, true, true, true, true, true, true, true, true, false, false, false, false, false, false, false, false, false, false, false, false, false, false, false, false, false]) (by kernel_rfl) (by kernel_rfl) (by kernel_rfl) ?_
  refine lexHead_step (listed' := #[true, true, true, true, true, true, true, true, true, true, false, false, false, false, false, false, false, false, false, false, false, false, false, false, false, false]) (by kernel_rfl) (by kernel_rfl) (by kernel_rfl) ?_
  refine lexHead_step (listed' := #[true, true, true, true, true, true, true, true, true, true, true, false, false, false, false, false, false, false, false, false, false, false, false, false, false, false]) (by kernel_rfl) (by kernel_rfl) (by kernel_rfl) ?_
  refine lexHead_step (listed' := #[true, true, true, true, true, true, true, true, true, true, true, true, false, false, false, false, false, false, false, false, false, false, false, false, false, false]) (by kernel_rfl) (by kernel_rfl) (by kernel_rfl) ?_
  refine lexHead_step (listed' := #[true, true, true, true, true, true, true, true, true, true, true, true, true, false, false, false, false, false, false, false, false, false, false, false, false, false]) (by kernel_rfl) (by kernel_rfl) (by kernel_rfl) ?_
  refine lexHead_step (listed' := #[true, true, true, true, true, true, true, true, true, true, true, true, true, true, false, false, false, false, false, false, false, false, false, false, false, false]) (by kernel_rfl) (by kernel_rfl) (by kernel_rfl) ?_
  refine lexHead_step (listed' := #[true, true, true, true, true, true, true, true, true, true, true, true, true, true, true, false, false, false, false, false, false, false, false, false, false, false]) (by kernel_rfl) (by kernel_rfl) (by kernel_rfl) ?_
  refine lexHead_step (listed' := #[true, true, true, true, true, true, true, true, true, true, true, true, true, true, true, true, false, false, false, false, false, false, false, false, false, false]) (by kernel_rfl) (by kernel_rfl) (by kernel_rfl) ?_
  refine lexHead_step (listed' := #[true, true, true, true, true, true, true, true, true, true, true, true, true, true, true, true, true, false, false, false, false, false, false, false, false, false]) (by kernel_rfl) (by kernel_rfl) (by kernel_rfl) ?_
  refine lexHead_step (listed' := #[true, true, true, true, true, true, true, true, true, true, true, true, true, true, true, true, true, true, false, false, false, false, false, false, false, false]) (by kernel_rfl) (by kernel_rfl) (by kernel_rfl) ?_
  refine lexHead_step (listed' := #[true, true, true, true, true, true, true, true, true, true, true, true, true, true, true, true, true, true, true, false, false, false, false, false, false, false]) (by kernel_rfl) (by kernel_rfl) (by kernel_rfl) ?_
  refine lexHead_step (listed' := #[true, true, true, true, true, true, true, true, true, true, true, true, true, true, true, true, true, true, true, true, false, false, false, false, false, false]) (by kernel_rfl) (by kernel_rfl) (by kernel_rfl) ?_
  refine lexHead_step (listed' := #[true, true, true, true, true, true, true, true, true, true, true, true, true, true, true, true, true, true, true, true, true, false, false, false, false, false]) (by kernel_rfl) (by kernel_rfl) (by kernel_rfl) ?_
  refine lexHead_step (listed' := #[true, true, true, true, true, true, true, true, true, true, true, true, true, true, true, true, true, true, true, true, true, true, false, false, false, false]) (by kernel_rfl) (by kernel_rfl) (by kernel_rfl) ?_
  refine lexHead_step (listed' := #[true, true, true, true, true, true, true, true, true, true, true, true, true, true, true, true, true, true, true, true, true, true, true, false, false, false]) (by kernel_rfl) (by kernel_rfl) (by kernel_rfl) ?_
  refine lexHead_step (listed' := #[true, true, true, true, true, true, true, true, true, true, true, true, true, true, true, true, true, true, true, true, true, true, true, true, false, false]) (by kernel_rfl) (by kernel_rfl) (by kernel_rfl) ?_
  refine lexHead_step (listed' := #[true, true, true, true, true, true, true, true, true, true, true, true, true, true, true, true, true, true, true, true, true, true, true, true, true, false]) (by kernel_rfl) (by kernel_rfl) (by kernel_rfl) ?_
  kernel_rfl

theorem readerLex_of {ops : Array Oper} (h : ops = ((Try.f93).body.bind (regionOps 11)).getD #[]) : Region.lexTailB .any ops 25 = true := by
  rw [h]
  exact readerLex

end Go.Proofs.Ytcaegpjbdcopoaa
