/- Joined: Ok Fn Fo Fy. -/
import Derived.Test.YtcpiojliakgdlaaGreatDoorU15
import Derived.Test.YtcpiojliakgdlaaGreatDoorU07
import Derived.Test.YtcpiojliakgdlaaGreatDoorU18
import Derived.Test.YtcpiojliakgdlaaGreatDoorU21
import Derived.Test.YtcpiojliakgdlaaGreatDoorU11
import Derived.BigQuiet
import Derived.Test.YtcpiojliakgdlaaGreatDoorU23
import Derived.Test.YtcpiojliakgdlaaGreatDoorU12
/- soTree; the draws of trees for FnShapes. -/
namespace Go.Proofs.YtcpiojliakgdlaaGreatDoor
open Go.RowKit

theorem treeCap {w : World} {B : Nat} {v : Value} {tr : List Seg} (h : OwnTree w B v tr) : ∃ A c, v = .slice A tr.length c ∧ tr.length ≤ c ∧ c ≤ 9223372036854775807 ∧ Segs w w.heap.size A tr := by
  obtain ⟨A, cap, e, hs⟩ := h.form
  refine ⟨A, cap, e, ?_, ?_, hs⟩
  all_goals
    rcases h.2 with ⟨h1, h0⟩ | ⟨g, c, cur, hv, hb, _, hn, hc, _⟩
    · rw [e] at h1
      injection h1 with _ h2 h3
      omega
    · rw [e] at hv
      injection hv with _ h2 h3
      unfold maxLen at hc
      omega

set_option maxRecDepth 100000 in
set_option maxHeartbeats 1000000 in
theorem soTree_any (A A' : Option Addr) (l : List Seg) (c c' : Nat) (w : World) (hw : Segs w w.heap.size A l) (hw' : Segs w w.heap.size A' l) (hl : l.length ≤ 1000) :
    Calls Tryz.prog 13 #[.slice A l.length c, .slice A' l.length c'] w fun e w' => e = .returned (.bool true) ∧ Below w.heap.size w w' := by
  have HW : Hid (Segs w w.heap.size A l) := hw
  have HW' : Hid (Segs w w.heap.size A' l) := hw'
  clear hw hw'
  go_enter Tryz.func13, Tryz.ntmps13
  go_wp2
  go_loopw [11] (fun i wr => ∃ (k : Nat), k ≤ l.length ∧ i = .int .i64 k ∧ Hid (Below w.heap.size w wr))
    (fun i _ => l.length - (intOf i).toNat)
  case atStart => exact ⟨0, Nat.zero_le _, rfl, Below.refl _ _⟩
  case round =>
    obtain ⟨k, hk, rfl, HB⟩ := hrel
    by_cases hlt : k < l.length
    · have hlt' : (k : Int) < (l.length : Int) := by omega
      have hk0 : (0 : Int) ≤ (k : Int) := Int.natCast_nonneg _
      obtain ⟨b, o, rfl, hB, hc⟩ := HW.out (by omega)
      obtain ⟨b', o', rfl, hB', hc'⟩ := HW'.out (by omega)
      obtain ⟨c0, c1, c2⟩ := hc k l[k] (List.getElem?_eq_getElem hlt)
      obtain ⟨d0, d1, d2⟩ := hc' k l[k] (List.getElem?_eq_getElem hlt)
      clear hc hc'
      rw [← HB.out.cell hB] at c0 c1 c2
      rw [← HB.out.cell hB'] at d0 d1 d2
      generalize l[k].name = s0 at *
      generalize l[k].size = s1 at *
      generalize l[k].par = s2 at *
      go_wp2
      go_quiet (fail)
      go_wp2
      go_roundw
      case rel => exact ⟨k + 1, by omega, by go_num, below_drewN HB.out _⟩
      case measure => simp [intOf]; omega
    · go_wp2
      go_ret
      exact ⟨rfl, HB.out⟩

end Go.Proofs.YtcpiojliakgdlaaGreatDoor
/- The program's calls: their methods, and what is needed for them, written out. -/
namespace Go.Proofs.YtcpiojliakgdlaaGreatDoor
open Go.RowKit

theorem meth_name_leaf (c : UInt8) (w : World) : (method 272 147 (.agg #[.string ⟨#[c]⟩]) "loop.example/segmentrooms/impl.name").run Tryz.prog w = .ok (127, .agg #[.string ⟨#[c]⟩]) w := by kernel_rfl
theorem meth_calls_leaf (c : UInt8) (w : World) : (method 272 147 (.agg #[.string ⟨#[c]⟩]) "loop.example/segmentrooms/impl.calls").run Tryz.prog w = .ok (126, .agg #[.string ⟨#[c]⟩]) w := by kernel_rfl
theorem meth_name_branch (c : UInt8) (A : Option Addr) (n cap : Nat) (w : World) : (method 272 149 (.agg #[.string ⟨#[c]⟩, .slice A n cap]) "loop.example/segmentrooms/impl.name").run Tryz.prog w = .ok (127, .agg #[.string ⟨#[c]⟩]) w := by kernel_rfl
theorem meth_calls_branch (c : UInt8) (A : Option Addr) (n cap : Nat) (w : World) : (method 272 149 (.agg #[.string ⟨#[c]⟩, .slice A n cap]) "loop.example/segmentrooms/impl.calls").run Tryz.prog w = .ok (129, .agg #[.string ⟨#[c]⟩, .slice A n cap]) w := by kernel_rfl

set_option maxRecDepth 100000 in
theorem leafName_any (c : UInt8) (w : World) : Calls Tryz.prog 127 #[.agg #[.string ⟨#[c]⟩]] w fun e w' => e = .returned (.string ⟨#[c]⟩) ∧ w' = w.alloc (.cells #[.string ⟨#[c]⟩] 147) := by
  go_enter Tryz.func127, Tryz.ntmps127
  go_wp2
  go_ret
  exact ⟨rfl, rfl⟩
set_option maxRecDepth 100000 in
theorem leafCalls_any (c : UInt8) (w : World) : Calls Tryz.prog 126 #[.agg #[.string ⟨#[c]⟩]] w fun e w' => e = .returned (.slice none 0 0) ∧ w' = w.alloc (.cells #[.string ⟨#[c]⟩] 147) := by
  go_enter Tryz.func126, Tryz.ntmps126
  go_wp2
  go_ret
  exact ⟨rfl, rfl⟩
set_option maxRecDepth 100000 in
theorem branchCalls_any (c : UInt8) (A : Option Addr) (n cap : Nat) (w : World) : Calls Tryz.prog 129 #[.agg #[.string ⟨#[c]⟩, .slice A n cap]] w fun e w' => e = .returned (.slice A n cap) ∧ w' = w.alloc (.cells #[.string ⟨#[c]⟩, .slice A n cap] 149) := by
  go_enter Tryz.func129, Tryz.ntmps129
  go_wp2
  go_ret
  exact ⟨rfl, rfl⟩

/-- What the methods of a call say, whichever of the two it is. -/
structure CallFacts (T : TypeId) (x : Value) (c : UInt8) (kv : Value) : Prop where
  name : ∀ w : World, (method 272 T x "loop.example/segmentrooms/impl.name").run Tryz.prog w = .ok (127, .agg #[.string ⟨#[c]⟩]) w
  calls : ∃ K y o, (∀ w : World, (method 272 T x "loop.example/segmentrooms/impl.calls").run Tryz.prog w = .ok (K, y) w) ∧ (∀ w : World, (callFunc K #[y]).run Tryz.prog w = .ok (.enter K #[y]) w) ∧ ∀ w : World, Calls Tryz.prog K #[y] w fun e w' => e = .returned kv ∧ w' = w.alloc o
theorem IsCall.facts {w : World} {S : Nat → Prop} {c : UInt8} {k : Forest} {v : Value} (h : IsCall w S c k v) : ∃ T x kv, v = .iface T x ∧ CallFacts T x c kv ∧ SliceIs w S kv k := by
  rcases h with ⟨h1, rfl⟩ | ⟨h1, q, cap, rfl, hs, hk⟩
  · have h0 : k.len = 0 := by rw [Forest.isNil_len] at h1; exact of_decide_eq_true h1
    exact ⟨_, _, .slice none 0 0, rfl, ⟨meth_name_leaf c, _, _, _, meth_calls_leaf c, fun w => enters_of Tryz.func126 (by kernel_rfl) rfl _ w, leafCalls_any c⟩, none, 0, by rw [h0], fun h => by omega⟩
  · exact ⟨_, _, .slice (some ⟨q, 0, none⟩) k.len cap, rfl, ⟨meth_name_branch c _ _ _, _, _, _, meth_calls_branch c _ _ _, fun w => enters_of Tryz.func129 (by kernel_rfl) rfl _ w, branchCalls_any c _ _ _⟩, _, cap, rfl, fun _ => ⟨q, rfl, hs, hk⟩⟩

end Go.Proofs.YtcpiojliakgdlaaGreatDoor
/- The program's needs: writeNeeds, NeedsOf. -/
namespace Go.Proofs.YtcpiojliakgdlaaGreatDoor
open Go.RowKit

/-- What the range over calls has before it. -/
def LeftC (w : World) (B : Nat) (f : Forest) (A : Option Addr) (pre rest : Forest) : Prop := f = pre.app rest ∧ (rest.isNil = false → ∃ g, A = some ⟨g, 0, none⟩ ∧ g < B ∧ Cells w (· < B) rest g pre.len)
theorem LeftC.start {w : World} {B : Nat} {f : Forest} {v : Value} (h : SliceIs w (· < B) v f) : ∃ A cap, v = .slice A f.len cap ∧ LeftC w B f A .nil f := by
  obtain ⟨A, cap, e, h⟩ := h
  refine ⟨A, cap, e, rfl, fun hr => ?_⟩
  rw [Forest.isNil_len] at hr
  have hl : f.len ≠ 0 := of_decide_eq_false hr
  exact h (by omega)
theorem LeftC.below {w w' : World} {B : Nat} {f pre rest : Forest} {A : Option Addr} (h : LeftC w B f A pre rest) (hb : Below B w w') : LeftC w' B f A pre rest := by
  refine ⟨h.1, fun hr => ?_⟩
  obtain ⟨g, e, h1, h2⟩ := h.2 hr
  exact ⟨g, e, h1, Cells.keep (fun q hq => ⟨hq, hb.block q hq⟩) rest g _ (hb.block g h1) h2⟩
/-- One call is taken. -/
theorem LeftC.take {w : World} {B : Nat} {f pre k r : Forest} {c : UInt8} {A : Option Addr} (h : LeftC w B f A pre (.cons c k r)) :
    LeftC w B f A (pre.app (.cons c k .nil)) r ∧ pre.len < f.len ∧ k.size < f.size ∧ ∃ g u, A = some ⟨g, 0, none⟩ ∧ g < B ∧ w.cell? ⟨g, pre.len, none⟩ = some u ∧ IsCall w (· < B) c k u := by
  obtain ⟨h1, h2⟩ := h
  obtain ⟨g, e, h3, h4⟩ := h2 rfl
  obtain ⟨⟨u, c0, hu⟩, hr⟩ := h4
  have hl : (pre.app (.cons c k .nil)).len = pre.len + 1 := by rw [Forest.app_len]; rfl
  refine ⟨⟨?_, fun _ => ⟨g, e, h3, ?_⟩⟩, ?_, ?_, g, u, e, h3, c0, hu⟩
  · rw [Forest.app_assoc]; exact h1
  · rw [hl]; exact hr
  · rw [h1, Forest.app_len]; show pre.len < pre.len + (r.len + 1); omega
  · rw [h1, Forest.app_size]; show k.size < pre.size + (k.size + r.size + 1); omega
theorem LeftC.done {w : World} {B : Nat} {f pre : Forest} {A : Option Addr} (h : LeftC w B f A pre .nil) : f = pre := by rw [h.1, Forest.app_nil]
theorem SliceIs.below {w w' : World} {f : Forest} {v : Value} {B : Nat} (h : SliceIs w (· < B) v f) (hb : Below B w w') : SliceIs w' (· < B) v f :=
  h.keep fun q hq => ⟨hq, hb.block q hq⟩

end Go.Proofs.YtcpiojliakgdlaaGreatDoor
/- The program's chains: an iterator that calls itself. -/
namespace Go.Proofs.YtcpiojliakgdlaaGreatDoor
open Go.RowKit Go.Shelf
attribute [local go_sem] Oper.semAt_some

set_option maxRecDepth 100000 in
theorem chainsOf_any (a : ByteArray) (A : Option Addr) (k cap : Nat) (w : World) :
    Calls Tryz.prog 63 #[.string a, .slice A k cap] w fun e w' => e = .returned (.func (.func 82) #[] #[.pointer (some ⟨w.heap.size + 1, 0, none⟩), .pointer (some ⟨w.heap.size, 0, none⟩)]) ∧ w' = (w.alloc (.cells #[.string a] 9)).alloc (.cells #[.slice A k cap] 85) := by
  go_enter Tryz.func63, Tryz.ntmps63
  go_wp2
  go_ret
  exact ⟨rfl, rfl⟩

theorem grown_of_below {X Y : World} (h : Below X.heap.size X Y) : X.grownBy Y none := ⟨h.os, h.tape, h.output, h.size, fun k hk _ => h.block k hk⟩
/-- Blocks for deferred calls, all empty: each loop over an iterator leaves one. -/
def MarksIn (lo hi : Nat) (W : World) (Ls : List Nat) : Prop := Ls.Nodup ∧ ∀ L ∈ Ls, lo ≤ L ∧ L < hi ∧ W.heap[L]? = some (.deferred (some []))
def marksOf (Ls : List Nat) : List Deferred := Ls.map fun L => { target := .collected L, args := #[] }
theorem MarksIn.nil (lo hi : Nat) (W : World) : MarksIn lo hi W [] := ⟨List.nodup_nil, fun L h => by cases h⟩
theorem MarksIn.keep {lo hi D : Nat} {W W' : World} {Ls : List Nat} (h : MarksIn lo hi W Ls) (hk : KeepsN D W W') (hD : D ≤ lo) : MarksIn lo hi W' Ls :=
  ⟨h.1, fun L hL => ⟨(h.2 L hL).1, (h.2 L hL).2.1, hk.same L _ (Nat.le_trans hD (h.2 L hL).1) (h.2 L hL).2.2 (fun c t fz he => by cases he)⟩⟩
theorem MarksIn.up {lo hi hi' : Nat} {W : World} {Ls : List Nat} (h : MarksIn lo hi W Ls) (hh : hi ≤ hi') : MarksIn lo hi' W Ls := ⟨h.1, fun L hL => ⟨(h.2 L hL).1, by have := (h.2 L hL).2.1; omega, (h.2 L hL).2.2⟩⟩
theorem MarksIn.grown {lo hi B : Nat} {W W' : World} {Ls : List Nat} {row : Option Nat} (h : MarksIn lo hi W Ls) (hg : W.grownBy W' row) (hr : ∀ r, row = some r → B ≤ r) (hB : hi ≤ B) : MarksIn lo hi W' Ls :=
  ⟨h.1, fun L hL => ⟨(h.2 L hL).1, (h.2 L hL).2.1, (hg.block L (Array.getElem?_eq_some_iff.1 (h.2 L hL).2.2).1 (fun e => by have := hr L e.symm; have := (h.2 L hL).2.1; omega)).trans (h.2 L hL).2.2⟩⟩
theorem MarksIn.cons {lo hi L : Nat} {W : World} {Ls : List Nat} (h : MarksIn lo hi W Ls) (h1 : hi ≤ L) (h2 : lo ≤ L) (h3 : W.heap[L]? = some (.deferred (some []))) : MarksIn lo (L + 1) W (L :: Ls) :=
  ⟨List.nodup_cons.2 ⟨fun hm => by have := (h.2 L hm).2.1; omega, h.1⟩, fun M hM => by
    rcases List.mem_cons.1 hM with rfl | hM
    · exact ⟨h2, by omega, h3⟩
    · exact ⟨(h.2 M hM).1, by have := (h.2 M hM).2.1; omega, (h.2 M hM).2.2⟩⟩
/-- A function whose frame holds marks alone leaves. -/
theorem marks_leave {F : Fence} {n : Nat} {P : Program} {fn : Func} {tmps : Array Value} {R : Ending → World → Prop} {lo hi : Nat} {I : World → Prop} (hI : ∀ (W : World) (L : Nat), I W → lo ≤ L → W.heap[L]? = some (.deferred (some [])) → I (W.putObj L (.deferred none)))
    (hres : fn.results = #[]) (hR : ∀ W, I W → R (.returned (.tuple #[])) W) : ∀ (Ls : List Nat) (W : World), MarksIn lo hi W Ls → I W → LeavesInM F n P fn tmps R (marksOf Ls) .returning W
  | [], W, _, h => ⟨_, results_none hres _ _ _, hR W h⟩
  | L :: Ls, W, hm, h => by
    have hL := hm.2 L (by simp)
    refine ⟨by simp, .inl ⟨L, _, rfl, run_takeDeferred hL.2.2, ?_⟩⟩
    refine marks_leave (hi := hi) hI hres hR Ls _ ⟨(List.nodup_cons.1 hm.1).2, fun M hM => ?_⟩ (hI W L h hL.1 hL.2.2)
    have hM' := hm.2 M (by simp [hM])
    refine ⟨hM'.1, hM'.2.1, ?_⟩
    rw [World.putObj_heap_other (fun e => (List.nodup_cons.1 hm.1).1 (by subst e; exact hM))]
    exact hM'.2.2

/-- What holds at the head of a round of the iterator. -/
structure ChHead (W : World) (n₀ D : Nat) (f : Forest) (a : List UInt8) (A : Option Addr) (cap Bc Bs l' : Nat) (J : List (List UInt8) → World → Prop) (pre rest : Forest) (Ls : List Nat) (W' : World) : Prop where
  left : LeftC W' n₀ f A pre rest
  come : J (chainsB a pre) W'
  low : Below n₀ W W'
  size : W.heap.size + 1 ≤ W'.heap.size
  boxY : BoxAt W' n₀ D W.heap.size (.func (.yield l') #[] #[]) 99
  boxC : BoxAt W' n₀ D Bc (.slice A f.len cap) 85
  boxS : BoxAt W' n₀ D Bs (.string (strOf a)) 9
  marks : MarksIn W.heap.size W'.heap.size W' Ls
/-- Later, with nothing old written. -/
theorem ChHead.later {W : World} {n₀ D : Nat} {f : Forest} {a : List UInt8} {A : Option Addr} {cap Bc Bs l' : Nat} {J : List (List UInt8) → World → Prop} {pre rest : Forest} {Ls : List Nat} {W1 W2 : World} (h : ChHead W n₀ D f a A cap Bc Bs l' J pre rest Ls W1)
    (hJ : OwnFrom W.heap.size J) (hb : Below W1.heap.size W1 W2) (hn : n₀ ≤ W.heap.size) : ChHead W n₀ D f a A cap Bc Bs l' J pre rest Ls W2 := by
  have hg := grown_of_below hb
  have hz := h.size
  have hb0 : Below n₀ W1 W2 := hb.mono (by omega)
  exact ⟨h.left.below hb0, hJ _ _ _ _ h.come hg (fun r e => by cases e), h.low.trans hb0, Nat.le_trans h.size hb.size, h.boxY.grown hg (fun r e => by cases e), h.boxC.grown hg (fun r e => by cases e), h.boxS.grown hg (fun r e => by cases e),
    (h.marks.grown hg (B := W1.heap.size) (fun r e => by cases e) (Nat.le_refl _)).up hb.size⟩
/-- What holds between two rounds of the loop within. -/
structure ChMid (W W3 : World) (n₀ D hi : Nat) (n : Nat) (a : List UInt8) (A : Option Addr) (cap Bc Bs l' : Nat) (Ls : List Nat) (W' : World) : Prop where
  low : Below n₀ W3 W'
  size : hi ≤ W'.heap.size
  boxY : BoxAt W' n₀ D W.heap.size (.func (.yield l') #[] #[]) 99
  boxC : BoxAt W' n₀ D Bc (.slice A n cap) 85
  boxS : BoxAt W' n₀ D Bs (.string (strOf a)) 9
  marks : MarksIn W.heap.size hi W' Ls
theorem ChMid.grown {W W3 : World} {n₀ D hi n : Nat} {a : List UInt8} {A : Option Addr} {cap Bc Bs l' : Nat} {Ls : List Nat} {X Y : World} {row : Option Nat} (h : ChMid W W3 n₀ D hi n a A cap Bc Bs l' Ls X) (hg : X.grownBy Y row)
    (hr : ∀ r, row = some r → hi ≤ r ∧ ∃ o : Obj, X.heap[r]? = some o ∧ o.isCells = false) (hn : n₀ ≤ hi) : ChMid W W3 n₀ D hi n a A cap Bc Bs l' Ls Y :=
  ⟨h.low.grown hg (Nat.le_trans hn h.size) (fun k e => Nat.le_trans hn (hr k e).1), Nat.le_trans h.size hg.size, h.boxY.grown hg (fun r e => (hr r e).2), h.boxC.grown hg (fun r e => (hr r e).2), h.boxS.grown hg (fun r e => (hr r e).2), h.marks.grown hg (fun r e => (hr r e).1) (Nat.le_refl _)⟩
theorem ChMid.keep {W W3 : World} {n₀ D hi n : Nat} {a : List UInt8} {A : Option Addr} {cap Bc Bs l' : Nat} {Ls : List Nat} {X Y : World} (h : ChMid W W3 n₀ D hi n a A cap Bc Bs l' Ls X) (hb : Below n₀ X Y) (hk : KeepsN D X Y) (hD : D ≤ W.heap.size) : ChMid W W3 n₀ D hi n a A cap Bc Bs l' Ls Y :=
  ⟨h.low.trans hb, Nat.le_trans h.size hk.size, h.boxY.keep hb hk, h.boxC.keep hb hk, h.boxS.keep hb hk, h.marks.keep hk hD⟩
def ChInv (W : World) (n₀ D : Nat) (f : Forest) (a : List UInt8) (A : Option Addr) (cap Bc Bs l' : Nat) (J : List (List UInt8) → World → Prop) (a' : Act) (W' : World) : Prop :=
  ∃ (pre rest : Forest) (Ls : List Nat) (u5 u6 u7 u10 u11 u12 u13 u14 u15 u16 u17 u18 u19 u20 u21 u22 u23 u24 u25 u26 u27 u28 u29 u30 u31 : Value), a' = { tmps := #[.func (.yield l') #[] #[], .pointer (some ⟨Bc, 0, none⟩), .pointer (some ⟨Bs, 0, none⟩), .pointer (some ⟨W.heap.size, 0, none⟩), undef, u5, u6, u7, .slice A f.len cap, .int .i64 f.len, u10, u11, u12, u13, u14, u15, u16, u17, u18, u19, u20, u21, u22, u23, u24, u25, u26, u27, u28, u29, u30, u31], defers := marksOf Ls } ∧ u10 = .int .i64 pre.len ∧ ChHead W n₀ D f a A cap Bc Bs l' J pre rest Ls W'

set_option maxRecDepth 100000 in
set_option maxHeartbeats 2000000 in
theorem chains1_seq (n₀ D : Nat) (fix : List UInt8 → List UInt8) : ∀ (m : Nat) (f : Forest) (a : List UInt8) (N n Bc Bs : Nat) (v : Value) (w : World), f.size < m → f.size + a.length ≤ 1000 → (∀ x ∈ chainsB a f, fix x = x) → BoxAt w n₀ D Bc v 85 → BoxAt w n₀ D Bs (.string (strOf a)) 9 → SliceIs w (· < n₀) v f → n₀ ≤ w.heap.size → f.size ≤ N → f.deep + 1 ≤ n →
    SeqR n 82 #[.pointer (some ⟨Bc, 0, none⟩), .pointer (some ⟨Bs, 0, none⟩)] (fun x : List UInt8 => #[.string (strOf (fix x))]) n₀ D (fun ys => ys = chainsB a f) (fun ys => ys <+: chainsB a f) N w := by
  intro m
  induction m with
  | zero => intro f a N n Bc Bs v w h; omega
  | succ m ih =>
    intro f a N n Bc Bs v w hm hs hfx hboxc hboxs hsl hn₀ hN hn l' J Jx W hbW hDW hJ hJx hY h0
    obtain ⟨A, cap, rfl, hl0⟩ := LeftC.start hsl
    have keepB : ∀ {Bx : Nat} {x : Value} {t : TypeId}, BoxAt w n₀ D Bx x t → BoxAt W n₀ D Bx x t := fun h => ⟨h.1, h.2.1, (hbW.block _ (Array.getElem?_eq_some_iff.1 h.2.2).1).trans h.2.2⟩
    have hc1 := keepB hboxc
    have hs1 := keepB hboxs
    have hn₀W : n₀ ≤ W.heap.size := Nat.le_trans hn₀ hbW.size
    have hg0 : W.grownBy (W.alloc (.cells #[.func (.yield l') #[] #[]] 99)) none := World.grownBy_alloc W _ none
    have H0 : Hid (ChHead W n₀ D f a A cap Bc Bs l' J .nil f [] (W.alloc (.cells #[.func (.yield l') #[] #[]] 99))) :=
      ⟨(hl0.below (hbW.mono hn₀)).below ((Below.refl _ W).alloc hn₀W _), hJ.alloc _ h0, (Below.refl _ W).alloc hn₀W _, by simp, ⟨.inr hDW, by decide, Row.new W _ _⟩, hc1.grown hg0 (fun r e => by cases e), hs1.grown hg0 (fun r e => by cases e), MarksIn.nil _ _ _⟩
    have c1 : (W.alloc (.cells #[.func (.yield l') #[] #[]] 99)).cell? ⟨Bc, 0, none⟩ = some (.slice A f.len cap) := H0.out.boxC.cell
    have HY : Hid _ := hY
    have HJ : Hid (OwnFrom W.heap.size J) := hJ
    have HJX : Hid (OwnFrom W.heap.size Jx) := hJx
    have HBW := Lib.hid hbW
    have hfl : f.len ≤ 1000 := by have := f.len_size; omega
    have IH := Lib.hid ih
    have HFX := Lib.hid hfx
    clear hY hJ hJx hbW ih hfx hboxc hboxs hsl hl0 keepB hc1 hs1 h0 hg0
    refine callsIn_of_wp_marks Tryz.func82 rfl trivial ?_ rfl
    simp only [Tryz.ntmps82, List.size_toArray, List.length_cons, List.length_nil, Nat.reduceAdd, Nat.reduceSub, Array.replicate_succ, Array.replicate_zero, List.push_toArray, List.append_toArray, List.nil_append, List.cons_append]
    gi_wp2
    refine wpIn_loop (ChInv W n₀ D f a A cap Bc Bs l' J) (fun a' _ => f.len - (intOf (a'.tmps.getD 10 undef)).toNat) ?_ ?_
    · exact ⟨.nil, f, [], _, _, _, _, _, _, _, _, _, _, _, _, _, _, _, _, _, _, _, _, _, _, _, _, _, rfl, rfl, H0.out⟩
    · rintro _ W1 ⟨pre, rest, Ls, u5, u6, u7, u10, u11, u12, u13, u14, u15, u16, u17, u18, u19, u20, u21, u22, u23, u24, u25, u26, u27, u28, u29, u30, u31, rfl, rfl, hH⟩
      clear H0 c1
      have HH := Lib.hid hH
      clear hH
      cases rest with
      | nil =>
        have HE := Lib.hid HH.out.left.done
        have hle : ¬ (pre.len < f.len) := by rw [HE.out]; omega
        gi_wp2
        exact marks_leave (lo := W.heap.size) (hi := W1.heap.size) (I := fun W' => J (chainsB a f) W') (fun X L hX hL hk => HJ.out.putObj _ hX hL hk rfl) rfl (fun X hX => ⟨⟨_, rfl⟩, .inl ⟨_, rfl, hX⟩⟩) Ls W1 HH.out.marks (by rw [HE.out]; exact HH.out.come)
      | cons c k r =>
        obtain ⟨hnext, hlt, hks, g, x, rfl, hg, c0, hu⟩ := HH.out.left.take
        obtain ⟨T, y, kv, rfl, hf, hkv⟩ := hu.facts
        obtain ⟨K, z, o, hmt, hen, hc⟩ := hf.calls
        have hnm := hf.name
        have HC := Lib.hid hc
        have HKV := Lib.hid hkv
        have HNX := Lib.hid hnext
        have cS : W1.cell? ⟨Bs, 0, none⟩ = some (.string (strOf a)) := HH.out.boxS.cell
        have hBs : Bs < W1.heap.size := (Array.getElem?_eq_some_iff.1 HH.out.boxS.2.2).1
        have hal : (strOf a).size ≤ 1000 := by unfold strOf; rw [bytes_size]; omega
        have hmx : Tryz.prog.follows .mixedOrders = true := by kernel_rfl
        have HX : Hid (strOf (a ++ [c]) = strOf a ++ ⟨#[c]⟩) := (bytes_cat a [c]).symm
        have hps : pre.size + (k.size + r.size + 1) = f.size := by rw [HH.out.left.1, Forest.app_size]; rfl
        have hpl := chainsB_len pre a
        have hkd : k.deep + 1 ≤ f.deep := by rw [HH.out.left.1]; exact Forest.deep_app pre c k r
        have HPF : Hid (chainsB a f = chainsB a pre ++ ((a ++ [c]) :: (chainsB (a ++ [c]) k ++ chainsB a r))) := by
          show _ = _
          conv => lhs; rw [HH.out.left.1, chainsB_app]
          rfl
        have HPN : Hid (chainsB a (pre.app (.cons c k .nil)) = chainsB a pre ++ [a ++ [c]] ++ chainsB (a ++ [c]) k) := by
          show _ = _
          rw [chainsB_app, chainsB_one]; simp
        have HLN : Hid ((pre.app (.cons c k .nil)).len = pre.len + 1) := by show _ = _; rw [Forest.app_len]; rfl
        have HH2 : Hid (ChHead W n₀ D f a (some ⟨g, 0, none⟩) cap Bc Bs l' J pre (.cons c k r) Ls (W1.alloc (.cells #[.string ⟨#[c]⟩] 147)).drew) := HH.out.later HJ.out (((Below.refl _ W1).alloc (Nat.le_refl _) _).drew) hn₀W
        have hyq := HY.out (chainsB a pre) (a ++ [c]) _ HH2.out.come (by rw [hpl]; omega) (by have := HH2.out.size; omega)
        rw [HFX.out (a ++ [c]) (by rw [HPF.out]; simp), HX.out] at hyq
        have HYQ := Lib.hid hyq
        have HNX2 : Hid (LeftC (W1.alloc (.cells #[.string ⟨#[c]⟩] 147)).drew n₀ f (some ⟨g, 0, none⟩) (pre.app (.cons c k .nil)) r) := HNX.out.below (((Below.refl _ W1).alloc (by have := HH.out.size; omega) _).drew)
        have HKV2 : Hid (SliceIs (W1.alloc (.cells #[.string ⟨#[c]⟩] 147)).drew (· < n₀) kv k) := HKV.out.below (((Below.refl _ W1).alloc (by have := HH.out.size; omega) _).drew)
        have cY : (W1.alloc (.cells #[.string ⟨#[c]⟩] 147)).drew.cell? ⟨W.heap.size, 0, none⟩ = some (.func (.yield l') #[] #[]) := HH2.out.boxY.cell
        have HPL := Lib.hid hpl
        clear hnext hf hkv hc hu hyq hpl
        gi_wp2_with fail
        first | gi_region_with_o ((refine ⟨trivial, (fun h => by simp [Fence.wide] at h), ?_⟩; gi_at_call 127; refine (callsIn_wide.2 (leafName_any c _)).mono ?_; rintro e w2 ⟨rfl, rfl⟩)) | fail
        all_goals (
          generalize (W1.alloc (.cells #[.string ⟨#[c]⟩] 147)).drew = W2 at *
          obtain ⟨fn, tmps, assign, body, hy, hR⟩ := yield_any (n - 1) HYQ.out
          gi_wp2_with fail
          refine ⟨fun h => by simp [Fence.wide] at h, ?_⟩
          refine hR.mono ?_
          rintro e W3 (⟨rfl, hJ3, hb3, hk3⟩ | ⟨rfl, hx3, hk3⟩)
          · have hz3 : W.heap.size + 1 ≤ W3.heap.size := Nat.le_trans HH2.out.size hk3.size
            have hL3 : LeftC W3 n₀ f (some ⟨g, 0, none⟩) (pre.app (.cons c k .nil)) r := HNX2.out.below hb3
            obtain ⟨A2, cap2, rfl, -⟩ := id HKV2.out
            have HL3 := Lib.hid hL3
            have HV3 := Lib.hid (HKV2.out.below hb3)
            have HJ3 := Lib.hid hJ3
            have HM3 := Lib.hid (HH2.out.marks.keep hk3 hDW)
            have HBY := Lib.hid (HH2.out.boxY.keep hb3 hk3)
            have HBC := Lib.hid (HH2.out.boxC.keep hb3 hk3)
            have HBS := Lib.hid (HH2.out.boxS.keep hb3 hk3)
            have HB3 := Lib.hid (HH2.out.low.trans hb3)
            have HZ23 : Hid (W2.heap.size ≤ W3.heap.size) := hk3.size
            clear hL3 hJ3 hb3 hk3 hR hy HH HH2 HNX HNX2 HKV HKV2 HYQ cY cS c0 hBs
            gi_wp2_with fail
            refine ⟨trivial, fun h => by simp [Fence.wide] at h, ?_⟩
            refine (callsIn_wide.2 (HC.out _)).mono ?_
            rintro e w4 ⟨rfl, rfl⟩
            gi_wp2_with fail
            refine ⟨trivial, fun h => by simp [Fence.wide] at h, ?_⟩
            refine (callsIn_wide.2 (chainsOf_any _ _ _ _ _)).mono ?_
            rintro e w5 ⟨rfl, rfl⟩
            gi_wp2
            have hz4 : (W3.alloc o).heap.size = W3.heap.size + 1 := by simp
            have hz5 : (((W3.alloc o).alloc (.cells #[.string (strOf a ++ ⟨#[c]⟩)] 9)).alloc (.cells #[.slice A2 k.len cap2] 85)).heap.size = W3.heap.size + 3 := by simp
            have HB5 : Hid (Below W3.heap.size W3 (((W3.alloc o).alloc (.cells #[.string (strOf a ++ ⟨#[c]⟩)] 9)).alloc (.cells #[.slice A2 k.len cap2] 85))) := (((Below.refl _ W3).alloc (Nat.le_refl _) _).alloc (by simp) _).alloc (by simp; omega) _
            have HR1 : Hid (Row (((W3.alloc o).alloc (.cells #[.string (strOf a ++ ⟨#[c]⟩)] 9)).alloc (.cells #[.slice A2 k.len cap2] 85)) (W3.heap.size + 1) 9 #[.string (strOf a ++ ⟨#[c]⟩)]) := by
              have := Row.new (W3.alloc o) 9 #[.string (strOf a ++ ⟨#[c]⟩)]
              rw [hz4] at this
              exact this.alloc _
            have HR2 : Hid (Row (((W3.alloc o).alloc (.cells #[.string (strOf a ++ ⟨#[c]⟩)] 9)).alloc (.cells #[.slice A2 k.len cap2] 85)) (W3.heap.size + 2) 85 #[.slice A2 k.len cap2]) := by
              have := Row.new ((W3.alloc o).alloc (.cells #[.string (strOf a ++ ⟨#[c]⟩)] 9)) 85 #[.slice A2 k.len cap2]
              rw [World.size_alloc, hz4] at this
              exact this
            clear hz4
            generalize ((W3.alloc o).alloc (.cells #[.string (strOf a ++ ⟨#[c]⟩)] 9)).alloc (.cells #[.slice A2 k.len cap2] 85) = W5 at *
            have HX5 : Hid (BoxAt W5 n₀ D (W3.heap.size + 2) (.slice A2 k.len cap2) 85) := ⟨.inr (by omega), by decide, HR2.out⟩
            have HS5 : Hid (BoxAt W5 n₀ D (W3.heap.size + 1) (.string (strOf (a ++ [c]))) 9) := ⟨.inr (by omega), by decide, by rw [HX.out]; exact HR1.out⟩
            have hg5 : W3.grownBy W5 none := grown_of_below HB5.out
            have HMID : Hid (ChMid W W3 n₀ D W5.heap.size f.len a (some ⟨g, 0, none⟩) cap Bc Bs l' Ls W5) :=
              ⟨HB5.out.mono (by omega), Nat.le_refl _, HBY.out.grown hg5 (fun r e => by cases e), HBC.out.grown hg5 (fun r e => by cases e), HBS.out.grown hg5 (fun r e => by cases e), (HM3.out.grown hg5 (B := W2.heap.size) (fun r e => by cases e) (Nat.le_refl _)).up (by have := HZ23.out; omega)⟩
            have HJ5 : Hid (J (chainsB a pre ++ [a ++ [c]]) W5) := HJ.out _ _ _ _ HJ3.out hg5 (fun r e => by cases e)
            have hseq := IH.out k (a ++ [c]) k.size (n - 1) (W3.heap.size + 2) (W3.heap.size + 1) (.slice A2 k.len cap2) W5 (by omega) (by simp; omega) (fun x hx => HFX.out x (by rw [HPF.out]; simp [hx])) HX5.out HS5.out (HV3.out.below (HB5.out.mono (by omega))) (by omega) (Nat.le_refl _) (by omega)
            have HPL' := HPL.out
            refine wpIn_rangeFunc_R (by omega) (gf := 82) (lb := #[.pointer (some ⟨W3.heap.size + 1 + 1, 0, none⟩), .pointer (some ⟨W3.heap.size + 1, 0, none⟩)]) rfl (enters_of Tryz.func82 (by kernel_rfl) rfl) hseq (by omega) (by omega) (Below.refl _ _) (fun _ => rfl)
              (fun ys W' => J (chainsB a pre ++ [a ++ [c]] ++ ys) W' ∧ ChMid W W3 n₀ D W5.heap.size f.len a (some ⟨g, 0, none⟩) cap Bc Bs l' Ls W')
              (fun c' ys W' => c' = .ret ∧ Jx (chainsB a pre ++ [a ++ [c]] ++ ys) W' ∧ MarksIn W.heap.size W5.heap.size W' Ls)
              (fun s X Y row hs hg hr => ⟨HJ.out _ X Y row hs.1 hg (fun r e => ⟨by have := (hr r e).1; omega, (hr r e).2⟩), hs.2.grown hg hr (by omega)⟩)
              (fun c' s X Y row hs hg hr => ⟨hs.1, HJX.out _ X Y row hs.2.1 hg (fun r e => ⟨by have := (hr r e).1; omega, (hr r e).2⟩), hs.2.2.grown hg (fun r e => (hr r e).1) (Nat.le_refl _)⟩)
              ⟨by rw [List.append_nil]; exact HJ5.out, HMID.out⟩
              (fun x => { tmps := #[.func (.yield l') #[] #[], .pointer (some ⟨Bc, 0, none⟩), .pointer (some ⟨Bs, 0, none⟩), .pointer (some ⟨W.heap.size, 0, none⟩), undef, .iface T y, .string (strOf a ++ ⟨#[c]⟩), .string (strOf (fix x)), .slice (some ⟨g, 0, none⟩) f.len cap, .int .i64 f.len, .int .i64 pre.len, .bool true, .pointer (some ⟨g, pre.len, none⟩), .iface T y, .string (strOf a), .iface T y, .string ⟨#[c]⟩, .string (strOf a ++ ⟨#[c]⟩), .func (.yield l') #[] #[], .string (strOf a ++ ⟨#[c]⟩), .bool true, .bool false, .string (strOf a ++ ⟨#[c]⟩), .iface T y, .slice A2 k.len cap2, .func (.func 82) #[] #[.pointer (some ⟨W3.heap.size + 1 + 1, 0, none⟩), .pointer (some ⟨W3.heap.size + 1, 0, none⟩)], .string (strOf (fix x)), u27, u28, u29, u30, u31], defers := [] }) ?assign ?body ?done ?stop
            case assign =>
              intro l2 x X K hK
              gi_wp2
              exact hK
            case body =>
              rintro l2 ys x X ⟨hJ6, hM6⟩ hlen hz
              have cY6 := hM6.boxY.cell
              obtain ⟨fn, tmps, assign, body, hy, hR⟩ := yield_any (n - 1 - 1 - 1) (HY.out (chainsB a pre ++ [a ++ [c]] ++ ys) x X hJ6 (by simp; omega) (by omega))
              gi_wp2
              refine ⟨fun h => by simp [Fence.wide] at h, ?_⟩
              refine (show RoundIn (Fence.wide.inRound l2) (n - 1 - 1 - 1) Tryz.prog l' fn tmps assign body X _ from hR).mono ?_
              rintro e X3 (⟨rfl, hJ7, hb7, hk7⟩ | ⟨rfl, hx7, hk7⟩)
              · gi_wp2
                exact ⟨hk7.mono (by omega), hb7, by rw [← List.append_assoc]; exact hJ7, hM6.keep hb7 hk7 hDW⟩
              · gi_wp2
                exact ⟨hk7.mono (by omega), rfl, by rw [← List.append_assoc]; exact hx7, hM6.marks.keep hk7 (Nat.le_refl _)⟩
            case done =>
              rintro L ys X hL rfl ⟨hJ6, hM6⟩ hK
              have HD : Hid (ChHead W n₀ D f a (some ⟨g, 0, none⟩) cap Bc Bs l' J (pre.app (.cons c k .nil)) r (L :: Ls) X) :=
                ⟨HL3.out.below hM6.low, by rw [HPN.out]; exact hJ6, HB3.out.trans hM6.low, by have := hM6.size; omega, hM6.boxY, hM6.boxC, hM6.boxS, (hM6.marks.cons hL (by omega) hK).up (Array.getElem?_eq_some_iff.1 hK).1⟩
              clear hJ6 hM6 hseq
              gi_wp2
              refine ⟨⟨_, r, L :: Ls, _, _, _, _, _, _, _, _, _, _, _, _, _, _, _, _, _, _, _, _, _, _, _, _, _, rfl, by rw [HLN.out]; go_num, HD.out⟩, ?_⟩
              simp [intOf]; omega
            case stop =>
              rintro L c' ys X hL hSp ⟨rfl, hx, hmk⟩ hK
              have HM6 := Lib.hid (hmk.cons hL (by omega) hK)
              have HX6 := Lib.hid hx
              have HSP := Lib.hid hSp
              clear hx hmk hSp hseq
              gi_wp2
              exact marks_leave (lo := W.heap.size) (hi := L + 1) (I := fun W' => Jx (chainsB a pre ++ [a ++ [c]] ++ ys) W') (fun X' L' hX' hL' hk' => HJX.out.putObj _ hX' hL' hk' rfl) rfl (fun X' hX' => ⟨⟨_, rfl⟩, .inr ⟨_, by
                obtain ⟨q, hq⟩ := HSP.out
                rw [HPF.out, ← hq]
                exact ⟨q ++ chainsB a r, by simp⟩, hX'⟩⟩) (L :: Ls) X HM6.out HX6.out
          · have HM3 := Lib.hid (HH2.out.marks.keep hk3 (Nat.le_refl _))
            have HX3 := Lib.hid hx3
            clear hx3 hk3 hR hy
            gi_wp2
            exact marks_leave (lo := W.heap.size) (hi := W2.heap.size) (I := fun W' => Jx (chainsB a pre ++ [a ++ [c]]) W') (fun X L hX hL hk => HJX.out.putObj _ hX hL hk rfl) rfl (fun X hX => ⟨⟨_, rfl⟩, .inr ⟨_, by rw [HPF.out]; exact ⟨chainsB (a ++ [c]) k ++ chainsB a r, by simp⟩, hX⟩⟩) Ls W3 HM3.out HX3.out)

end Go.Proofs.YtcpiojliakgdlaaGreatDoor
