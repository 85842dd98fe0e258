/- Joined: Rq Rw Rs Rj Rl Kb Op Dp Hz Zd. -/
import Derived.Test.YtdbddockmdkmeaaDoorU08
import Derived.Test.YtdbddockmdkmeaaDoorU01
import Derived.BigQuiet
import Derived.Laws.IdiomStrings
import Derived.Maps.AppendAt
import Derived.Deep.AppendLies
import Derived.Defers
import Derived.Recover
import Derived.Lib.IndexBytes
import Derived.IntWalk
import Derived.ProofKit
import Derived.OpenShut
import Derived.ShutString
import Derived.ChangeOld
import Derived.Deep.Slices
import Derived.Deep.Fields
import Derived.Deep.Onto
import Derived.Test.YtdbddockmdkmeaaDoorU06
import Derived.Test.YtdbddockmdkmeaaDoorU04
import Derived.Deep.RegionWith
/- The program's way and the reference's to read a tree give the same tree: plain. -/
namespace Go.Proofs.YtdbddockmdkmeaaDoor

/-- A mark stays; a tree only grows. -/
def Grows (s t : SSt) : Prop := s.tree <+: t.tree ∧ (s.bad = true → t.bad = true)
theorem Grows.refl (s : SSt) : Grows s s := ⟨List.prefix_rfl, id⟩
theorem Grows.trans {s t u : SSt} (h : Grows s t) (k : Grows t u) : Grows s u := ⟨h.1.trans k.1, fun x => k.2 (h.2 x)⟩
end Go.Proofs.YtdbddockmdkmeaaDoor

/- The two ways to read a tree meet: plain. -/
namespace Go.Proofs.YtdbddockmdkmeaaDoor

/-- The reference will not take it. -/
def Lost (s : SSt) : Prop := s.bad = true ∨ ¬ Fine s.tree
theorem Lost.grows {s t : SSt} (h : Lost s) (g : Grows s t) : Lost t := h.elim (fun x => .inl (g.2 x)) (fun x => .inr fun y => x (y.pre g.1))
/-- One place of the recursion: what both say. -/
def Both (i : Option Read) (s : SSt) (r : List UInt8) (tr : List Seg) : Prop :=
  (∀ r' t', i = some (r', t') → s = ⟨r', false, t'⟩ ∧ Fine t' ∧ tr <+: t' ∧ r'.length ≤ r.length) ∧ (i = none → Lost s)
theorem Both.got {r r' : List UInt8} {tr t' : List Seg} (hf : Fine t') (hp : tr <+: t') (hl : r'.length ≤ r.length) : Both (some (r', t')) ⟨r', false, t'⟩ r tr :=
  ⟨fun _ _ e => by cases e; exact ⟨rfl, hf, hp, hl⟩, fun e => by cases e⟩

end Go.Proofs.YtdbddockmdkmeaaDoor

/- A tree that was read has its parents in place; the two readings' answers. Plain. -/
namespace Go.Proofs.YtdbddockmdkmeaaDoor

theorem parAt_pre {l m : List Seg} (h : l <+: m) {i : Nat} (hi : i < l.length) : parAt m i = parAt l i := by
  obtain ⟨r, rfl⟩ := h
  unfold parAt
  rw [List.getElem?_append_left hi]
theorem Down.pre {l m : List Seg} {k : Nat} (h : Down l k) (hp : l <+: m) (hk : k ≤ l.length) : Down m k := fun j hj => by
  rw [parAt_pre hp (by omega)]
  exact h j hj
end Go.Proofs.YtdbddockmdkmeaaDoor
/- The two readers' smallest steps: sees and skip. -/
namespace Go.Proofs.YtdbddockmdkmeaaDoor
open Go.RowKit

theorem Only.refl (w : World) (may : Nat → Prop) : Only w w may := ⟨rfl, rfl, rfl, Nat.le_refl _, fun _ _ _ => rfl⟩
theorem Only.trans {w w1 w2 : World} {may : Nat → Prop} (h : Only w w1 may) (h' : Only w1 w2 may) : Only w w2 may :=
  ⟨h'.os.trans h.os, h'.tape.trans h.tape, h'.output.trans h.output, Nat.le_trans h.size h'.size, fun k hk hm => (h'.block k (Nat.lt_of_lt_of_le hk h.size) hm).trans (h.block k hk hm)⟩
theorem Only.drew' {w w' : World} {may : Nat → Prop} (h : Only w w' may) : Only w w'.drew may := ⟨h.os, h.tape, h.output, h.size, h.block⟩
theorem Only.drewN' {w w' : World} {may : Nat → Prop} (h : Only w w' may) (n : Nat) : Only w (w'.drewN n) may := ⟨h.os, h.tape, h.output, h.size, h.block⟩
theorem Only.set {w w' : World} {b : Nat} (h : Only w w' (· = b)) (i : Nat) (u : Value) : Only w (w'.setCell ⟨b, i, none⟩ u) (· = b) := by
  have hb : Below 0 w' (w'.setCell ⟨b, i, none⟩ u) := (Below.refl 0 w').setCell (Nat.zero_le _) u
  exact ⟨hb.os.trans h.os, hb.tape.trans h.tape, hb.output.trans h.output, by have := h.size; have := hb.size; omega, fun k hk hm => (Below.heap_setCell w' ⟨b, i, none⟩ u k hm).trans (h.block k hk hm)⟩

end Go.Proofs.YtdbddockmdkmeaaDoor

/- The program's reader: skip, expectEnd. -/
namespace Go.Proofs.YtdbddockmdkmeaaDoor
open Go.RowKit

end Go.Proofs.YtdbddockmdkmeaaDoor

/- The program's reader: readSize. -/
namespace Go.Proofs.YtdbddockmdkmeaaDoor
open Go.RowKit

end Go.Proofs.YtdbddockmdkmeaaDoor

/- The program's reader: readName. -/
namespace Go.Proofs.YtdbddockmdkmeaaDoor
open Go.RowKit

theorem Only.andBelow {w w1 w2 : World} {may : Nat → Prop} (h : Only w w1 may) (hb : Below w1.heap.size w1 w2) : Only w w2 may :=
  ⟨hb.os.trans h.os, hb.tape.trans h.tape, hb.output.trans h.output, Nat.le_trans h.size hb.size, fun k hk hm => (hb.block k (Nat.lt_of_lt_of_le hk h.size)).trans (h.block k hk hm)⟩

end Go.Proofs.YtdbddockmdkmeaaDoor

/- The reference's number of a text of at most three digits. -/
namespace Go.Proofs.YtdbddockmdkmeaaDoor
open Go.RowKit

end Go.Proofs.YtdbddockmdkmeaaDoor
/- The program's reader: readSegment. -/
namespace Go.Proofs.YtdbddockmdkmeaaDoor
open Go.RowKit

/-- The cells of a tree. -/
def segCells (l : List Seg) : List Value := l.flatMap fun s => [.string s.name, .int .i64 s.size, .int .i64 s.par]
/-- A tree of the reader's own: the slice's value, and its cells. -/
def OwnTree (w : World) (B : Nat) (v : Value) (tr : List Seg) : Prop := w.ownsRow B 66 3 v tr.length (segCells tr)
theorem OwnTree.far {w w' : World} {B : Nat} {v : Value} {tr : List Seg} (h : OwnTree w B v tr) (hk : ∀ g, v.ownBlock = some g → w'.heap[g]? = w.heap[g]?) : OwnTree w' B v tr := by
  refine ⟨h.1, ?_⟩
  rcases h.2 with h0 | ⟨g', cap, cur, rfl, hg, hh, r⟩
  · exact .inl h0
  · exact .inr ⟨g', cap, cur, rfl, hg, (hk g' rfl).trans hh, r⟩
/-- The reader's block is not the tree's. -/
theorem OwnTree.ne {w : World} {B : Nat} {v : Value} {tr : List Seg} (h : OwnTree w B v tr) {b : Nat} {t : TypeId} {cs : Array Value} (hr : Row w b t cs) (hne : 66 ≠ t) : ∀ g, v.ownBlock = some g → g ≠ b := by
  rintro g hg rfl
  rcases h.2 with ⟨rfl, _⟩ | ⟨g', cap, cur, rfl, _, hh, _⟩
  · simp [Value.ownBlock] at hg
  · have : g' = g := by simpa [Value.ownBlock] using hg
    subst this
    unfold Row at hr
    rw [hh] at hr
    injection hr with hr
    injection hr with _ ht
    exact hne ht
theorem OwnTree.only {w w' : World} {B b : Nat} {v : Value} {tr : List Seg} {t : TypeId} {cs : Array Value} (h : OwnTree w B v tr) (hr : Row w b t cs) (hne : 66 ≠ t) (ho : Only w w' (· = b)) : OwnTree w' B v tr :=
  h.far fun g hg => ho.block g (by
    rcases h.2 with ⟨rfl, _⟩ | ⟨g', cap, cur, rfl, _, hh, _⟩
    · simp [Value.ownBlock] at hg
    · have : g' = g := by simpa [Value.ownBlock] using hg
      subst this
      exact (Array.getElem?_eq_some_iff.1 hh).1) (h.ne hr hne g hg)

end Go.Proofs.YtdbddockmdkmeaaDoor

/- The program's ParseTree: it recovers. -/
namespace Go.Proofs.YtdbddockmdkmeaaDoor
open Go.RowKit

end Go.Proofs.YtdbddockmdkmeaaDoor

/- The program's ParseTree by its contract. -/
namespace Go.Proofs.YtdbddockmdkmeaaDoor
open Go.RowKit

theorem OwnTree.base {w : World} {B B' : Nat} {v : Value} {tr : List Seg} (h : OwnTree w B v tr) (hB : B' ≤ B) : OwnTree w B' v tr := by
  refine ⟨h.1, ?_⟩
  rcases h.2 with h0 | ⟨g', cap, cur, rfl, hg, hh, r⟩
  · exact .inl h0
  · exact .inr ⟨g', cap, cur, rfl, Nat.le_trans hB hg, hh, r⟩

end Go.Proofs.YtdbddockmdkmeaaDoor
/- The reference's reading, plain: its steps at a place of the text. -/
namespace Go.Proofs.YtdbddockmdkmeaaDoor

end Go.Proofs.YtdbddockmdkmeaaDoor

/- The reference's reader: segment. -/
namespace Go.Proofs.YtdbddockmdkmeaaDoor
open Go.RowKit

theorem OwnTree.set {w : World} {B b : Nat} {v : Value} {tr : List Seg} {t : TypeId} {cs : Array Value} (h : OwnTree w B v tr) (hr : Row w b t cs) (hne : 66 ≠ t) (i : Nat) (u : Value) : OwnTree (w.setCell ⟨b, i, none⟩ u) B v tr :=
  h.far fun g hg => Below.heap_setCell w ⟨b, i, none⟩ u g (h.ne hr hne g hg)

end Go.Proofs.YtdbddockmdkmeaaDoor
/- The reference's reader: segment, by induction. -/
namespace Go.Proofs.YtdbddockmdkmeaaDoor
open Go.RowKit

theorem OwnTree.alloc {w : World} {B : Nat} {v : Value} {tr : List Seg} (h : OwnTree w B v tr) (o : Obj) : OwnTree (w.alloc o) B v tr := h.far fun g hg => Below.heap_alloc w o g (World.ownsRow.lt h g hg).2
end Go.Proofs.YtdbddockmdkmeaaDoor
/- The reference's ParseTree by its contract. -/
namespace Go.Proofs.YtdbddockmdkmeaaDoor
open Go.RowKit

/-- A tree that the reference reads stays short, its names one byte each. -/
def Neat (l : List Seg) : Prop := l.length ≤ 9 ∧ ∀ s ∈ l, s.name.size ≤ 1
theorem Neat.snoc {l : List Seg} (h : Neat l) (h8 : l.length ≤ 8) (c : UInt8) (n p : Int) : Neat (l ++ [⟨⟨#[c]⟩, n, p⟩]) := by
  refine ⟨by simp; omega, fun s hs => ?_⟩
  rcases List.mem_append.1 hs with hs | hs
  · exact h.2 s hs
  · rw [List.mem_singleton.1 hs]; exact Nat.le_refl 1
theorem OwnTree.empty (w : World) {B : Nat} (hB : B ≤ w.heap.size) : OwnTree (w.alloc (.cells #[] 66)) B (.slice (some ⟨w.heap.size, 0, none⟩) 0 0) [] := by
  have h := World.ownsRow_lit (base := B) (e := 66) (size := 3) w #[] 0 hB (by simp [maxLen]) rfl
  exact h

end Go.Proofs.YtdbddockmdkmeaaDoor
/- The argument of a law, opened: a slice of segments reads as a list. -/
namespace Go.Proofs.YtdbddockmdkmeaaDoor
open Go.ChangeShapes Go.WideShapes Go.ChangeAt Go.RowKit

theorem own : ownKnob Tryd.prog.godebug = none := by kernel_rfl
theorem laidOut : laidOutB Tryd.prog = true := by kernel_rfl

end Go.Proofs.YtdbddockmdkmeaaDoor
/- The draws' reader: one number drawn. -/
namespace Go.Proofs.YtdbddockmdkmeaaDoor
open Go.RowKit

/-- The reader's bytes: a row of bytes that is not the reader's own block. -/
def Bytes (w : World) (b : Nat) (A : Option Addr) (m : Nat) : Prop :=
  0 < m → ∃ g o, A = some ⟨g, o, none⟩ ∧ g ≠ b ∧ g < w.heap.size ∧ ∀ i, i < m → ∃ x : Int, w.cell? ⟨g, o + i, none⟩ = some (.int .u8 x) ∧ 0 ≤ x ∧ x ≤ 255

theorem Bytes.only {w w' : World} {b m : Nat} {A : Option Addr} (h : Bytes w b A m) (ho : Only w w' (· = b)) : Bytes w' b A m := fun h0 => by
  obtain ⟨g, o, rfl, hg, hl, hx⟩ := h h0
  refine ⟨g, o, rfl, hg, Nat.lt_of_lt_of_le hl ho.size, fun i hi => ?_⟩
  obtain ⟨x, hc, hb⟩ := hx i hi
  refine ⟨x, ?_, hb⟩
  have := ho.block g hl hg
  rw [← hc]
  simp [World.cell?, this]

theorem xor_bd (x y : Int) (hx : 0 ≤ x) (hx' : x < 1099511627776) (hy : 0 ≤ y) (hy' : y < 1099511627776) : 0 ≤ bits .xor .i64 x y ∧ bits .xor .i64 x y < 1099511627776 := by
  have h : bits .xor .i64 x y = IntKind.i64.wrap ((BitVec.ofInt 64 x ^^^ BitVec.ofInt 64 y).toNat : Int) := rfl
  have hn : (BitVec.ofInt 64 x ^^^ BitVec.ofInt 64 y).toNat < 2 ^ 40 := by
    rw [BitVec.toNat_xor, BitVec.toNat_ofInt, BitVec.toNat_ofInt]
    exact Nat.xor_lt_two_pow (by omega) (by omega)
  rw [h, IntWalk.i64_in _ (by omega)]
  omega

set_option maxRecDepth 100000 in
set_option maxHeartbeats 1000000 in
theorem pick_any (b : Nat) (A : Option Addr) (m c : Nat) (p n : Int) (w : World) (hr : Row w b 124 #[.slice A m c, .int .i64 p]) (hB : Bytes w b A m) (hm : m ≤ 2000)
    (hp : 0 ≤ p) (hp' : p ≤ 1000000) (hn : 0 ≤ n) (hn' : n ≤ 1000000) :
    Calls Tryd.prog 67 #[.pointer (some ⟨b, 0, none⟩), .int .i64 n] w fun e w' => (∃ v : Int, e = .returned (.int .i64 v) ∧ 0 ≤ v ∧ (0 < n → v < n)) ∧ Only w w' (· = b) ∧
      Row w' b 124 #[.slice A m c, .int .i64 (p + 1)] := by
  have c0 : w.cell? ⟨b, 0, none⟩ = some (.slice A m c) := hr.cell 0
  have c1 : w.cell? ⟨b, 1, none⟩ = some (.int .i64 p) := hr.cell 1
  have z1 : w.frozen? ⟨b, 1, none⟩ = false := hr.free 1
  have hr1 : Row (w.setCell ⟨b, 1, none⟩ (.int .i64 (p + 1))) b 124 #[.slice A m c, .int .i64 (p + 1)] := Row.put hr 1 _
  have ho1 : Only w (w.setCell ⟨b, 1, none⟩ (.int .i64 (p + 1))) (· = b) := (Only.refl w _).set 1 _
  have hB1 := hB.only ho1
  have d0 : (w.setCell ⟨b, 1, none⟩ (.int .i64 (p + 1))).cell? ⟨b, 0, none⟩ = some (.slice A m c) := hr1.cell 0
  have d1 : (w.setCell ⟨b, 1, none⟩ (.int .i64 (p + 1))).cell? ⟨b, 1, none⟩ = some (.int .i64 (p + 1)) := hr1.cell 1
  have HR := Lib.hid hr1
  have HO := Lib.hid ho1
  have HB := Lib.hid hB1
  clear hr hr1 ho1 hB hB1
  by_cases h1 : n < 1
  · go_enter Tryd.func67, Tryd.ntmps67
    go_wp2
    go_ret
    exact ⟨⟨0, rfl, Int.le_refl 0, fun h => by omega⟩, HO.out, HR.out⟩
  by_cases h2 : m = 0
  · subst h2
    go_enter Tryd.func67, Tryd.ntmps67
    go_wp2
    go_ret
    exact ⟨⟨0, rfl, Int.le_refl 0, fun h => by omega⟩, HO.out, HR.out⟩
  obtain ⟨g, o, rfl, hg, hl, hx⟩ := HB.out (by omega)
  by_cases h3 : p < m
  · obtain ⟨k, rfl⟩ := Int.eq_ofNat_of_zero_le hp
    obtain ⟨x, hc, hx0, hx1⟩ := hx k (by omega)
    go_enter Tryd.func67, Tryd.ntmps67
    go_wp2
    go_ret
    exact ⟨⟨x % n, ret_int rfl, Int.emod_nonneg _ (by omega), fun h => Int.emod_lt_of_pos _ h⟩, HO.out, HR.out⟩
  · obtain ⟨k, rfl⟩ := Int.eq_ofNat_of_zero_le hp
    have q1 : k % m < m := Nat.mod_lt _ (by omega)
    have q2 : (k * 7 + 3) % m < m := Nat.mod_lt _ (by omega)
    obtain ⟨x, hc, hx0, hx1⟩ := hx (k % m) q1
    obtain ⟨y, hcy, hy0, hy1⟩ := hx ((k * 7 + 3) % m) q2
    have q3 : k / m ≤ k := Nat.div_le_self _ _
    have e1 : (k : Int).tmod (m : Int) = ((k % m : Nat) : Int) := by rw [Int.tmod_eq_emod_of_nonneg (by omega)]; rfl
    have e3 : ((k : Int) * 7 + 3).tmod (m : Int) = (((k * 7 + 3) % m : Nat) : Int) := by rw [Int.tmod_eq_emod_of_nonneg (by omega)]; rfl
    have XB : Hid (0 ≤ wrap64 (x * 131 + y * 1117 + (k : Int) * 29 + wrap64 (wrap64 ((k : Int) / (m : Int)) * 53)) ∧ wrap64 (x * 131 + y * 1117 + (k : Int) * 29 + wrap64 (wrap64 ((k : Int) / (m : Int)) * 53)) < 1099511627776) := by
      have e5 : (k : Int) / (m : Int) = ((k / m : Nat) : Int) := rfl
      rw [e5]
      generalize k / m = r3 at q3 ⊢
      rw [IntWalk.wrap64_in (r3 : Int) ⟨by omega, by omega⟩, IntWalk.wrap64_in ((r3 : Int) * 53) ⟨by omega, by omega⟩, IntWalk.wrap64_in _ ⟨by omega, by omega⟩]
      exact ⟨by omega, by omega⟩
    clear q3
    generalize k % m = r1 at *
    generalize (k * 7 + 3) % m = r2 at *
    have w1 : IntKind.i64.wrap (x * 131) = x * 131 := IntWalk.i64_in _ (by omega)
    have w2 : IntKind.i64.wrap ((k : Int) * 7) = (k : Int) * 7 := IntWalk.i64_in _ (by omega)
    have w3 : IntKind.i64.wrap ((k : Int) * 7 + 3) = (k : Int) * 7 + 3 := IntWalk.i64_in _ (by omega)
    have w4 : IntKind.i64.wrap (y * 1117) = y * 1117 := IntWalk.i64_in _ (by omega)
    have w5 : IntKind.i64.wrap (x * 131 + y * 1117) = x * 131 + y * 1117 := IntWalk.i64_in _ (by omega)
    have w6 : IntKind.i64.wrap ((k : Int) * 29) = (k : Int) * 29 := IntWalk.i64_in _ (by omega)
    have w7 : IntKind.i64.wrap (x * 131 + y * 1117 + (k : Int) * 29) = x * 131 + y * 1117 + (k : Int) * 29 := IntWalk.i64_in _ (by omega)
    go_enter Tryd.func67, Tryd.ntmps67
    go_wp2_with fail
    go_quiet (fail)
    clear w1 w2 w3 w4 w5 w6 w7 e1 e3
    generalize wrap64 (x * 131 + y * 1117 + (k : Int) * 29 + wrap64 (wrap64 ((k : Int) / (m : Int)) * 53)) = X at *
    have X0 := XB.out
    have XC := xor_bd X (X / 64) X0.1 X0.2 (by omega) (by omega)
    go_wp2
    go_ret
    exact ⟨⟨_, ret_int rfl, Int.emod_nonneg _ (by omega), fun h => Int.emod_lt_of_pos _ h⟩, (HO.out).drewN' _, HR.out⟩

end Go.Proofs.YtdbddockmdkmeaaDoor

/- The draws' reader: opened; an element of a list drawn. -/
namespace Go.Proofs.YtdbddockmdkmeaaDoor
open Go.RowKit

/-- A reader of draws at block b, at most P steps on. -/
structure Rd (w : World) (b : Nat) (P : Nat) : Prop where
  ex : ∃ (A : Option Addr) (m c : Nat) (p : Nat), Row w b 124 #[.slice A m c, .int .i64 (p : Int)] ∧ Bytes w b A m ∧ m ≤ 2000 ∧ p ≤ P ∧ (0 < m → ∀ g o, A = some ⟨g, o, none⟩ → g < b)

theorem Rd.lt {w : World} {b P : Nat} (h : Rd w b P) : b < w.heap.size := by
  obtain ⟨A, m, c, p, h1, _⟩ := h.ex
  exact h1.lt
theorem Bytes.below {w w' : World} {b m B : Nat} {A : Option Addr} (h : Bytes w b A m) (hb : Below B w w') (hB : ∀ g o, A = some ⟨g, o, none⟩ → g < B) : Bytes w' b A m := fun h0 => by
  obtain ⟨g, o, rfl, hg, hl, hx⟩ := h h0
  have hgB := hB g o rfl
  refine ⟨g, o, rfl, hg, Nat.lt_of_lt_of_le hl hb.size, fun i hi => ?_⟩
  obtain ⟨x, hc, hb'⟩ := hx i hi
  refine ⟨x, ?_, hb'⟩
  rw [← hc]
  simp [World.cell?, hb.block g hgB]
theorem Rd.below {w w' : World} {b P : Nat} (h : Rd w b P) (hb : Below w.heap.size w w') : Rd w' b P := by
  obtain ⟨A, m, c, p, h1, h2, h3, h4, h5⟩ := h.ex
  refine ⟨A, m, c, p, h1.below hb h1.lt, ?_, h3, h4, h5⟩
  intro h0
  obtain ⟨g, o, rfl, hg, hl, hx⟩ := h2 h0
  exact h2.below hb (fun g' o' e => by cases e; exact hl) h0
/-- The reader and its bytes lie below all that was made behind it. -/
theorem Rd.belowB {w w' : World} {b P B : Nat} (h : Rd w b P) (hb : Below B w w') (hB : b < B) : Rd w' b P := by
  obtain ⟨A, m, c, p, h1, h2, h3, h4, h5⟩ := h.ex
  refine ⟨A, m, c, p, h1.below hb hB, ?_, h3, h4, h5⟩
  intro h0
  exact h2.below hb (fun g' o' e => Nat.lt_trans (h5 h0 g' o' e) hB) h0

set_option maxRecDepth 100000 in
set_option maxHeartbeats 1000000 in
theorem draw_any (b P : Nat) (n : Int) (w : World) (hr : Rd w b P) (hP : P ≤ 1000000) (hn : 0 ≤ n) (hn' : n ≤ 1000000) :
    Calls Tryd.prog 67 #[.pointer (some ⟨b, 0, none⟩), .int .i64 n] w fun e w' => ∃ v : Int, e = .returned (.int .i64 v) ∧ (0 ≤ v ∧ (0 < n → v < n)) ∧ Only w w' (· = b) ∧ Rd w' b (P + 1) := by
  obtain ⟨A, m, c, p, h1, h2, h3, h4, h5⟩ := hr.ex
  refine (pick_any b A m c p n w h1 h2 h3 (by omega) (by omega) hn hn').mono ?_
  rintro e w1 ⟨⟨v, rfl, hv0, hv1⟩, ho, hr1⟩
  exact ⟨v, rfl, ⟨hv0, hv1⟩, ho, ⟨A, m, c, p + 1, hr1, h2.only ho, h3, by omega, h5⟩⟩

/-- A row of numbers, each of which is as asked. -/
def Nums (w : World) (b g o : Nat) (n : Nat) (Q : Int → Prop) : Prop := g ≠ b ∧ g < w.heap.size ∧ ∀ i, i < n → ∃ v : Int, w.cell? ⟨g, o + i, none⟩ = some (.int .i64 v) ∧ Q v
def Texts (w : World) (b g o : Nat) (n : Nat) (Q : ByteArray → Prop) : Prop := g ≠ b ∧ g < w.heap.size ∧ ∀ i, i < n → ∃ v : ByteArray, w.cell? ⟨g, o + i, none⟩ = some (.string v) ∧ Q v
theorem only_cell {w w' : World} {b g : Nat} (ho : Only w w' (· = b)) (hg : g ≠ b) (hl : g < w.heap.size) (i : Nat) : w'.cell? ⟨g, i, none⟩ = w.cell? ⟨g, i, none⟩ := by
  have := ho.block g hl hg
  simp [World.cell?, this]

set_option maxRecDepth 100000 in
set_option maxHeartbeats 1000000 in
theorem num_any (b P g o n c : Nat) (Q : Int → Prop) (w : World) (hr : Rd w b P) (hP : P ≤ 1000000) (hn : 0 < n) (hn' : n ≤ 1000000) (hx : Nums w b g o n Q) :
    Calls Tryd.prog 89 #[.pointer (some ⟨b, 0, none⟩), .slice (some ⟨g, o, none⟩) n c] w fun e w' => ∃ v : Int, e = .returned (.int .i64 v) ∧ Q v ∧ Only w w' (· = b) ∧ Rd w' b (P + 1) := by
  have HR := Lib.hid hr
  have HX : Hid (Nums w b g o n Q) := hx
  clear hr hx
  go_enter Tryd.func89, Tryd.ntmps89
  go_wp2_with fail
  refine (draw_any b P n w HR.out hP (by omega) (by omega)).mono ?_
  rintro e w1 ⟨v, rfl, ⟨hv0, hv1⟩, ho, hr1⟩
  obtain ⟨k, rfl⟩ := Int.eq_ofNat_of_zero_le hv0
  have hk : k < n := by have := hv1 (by omega); omega
  obtain ⟨x, hc, hq⟩ := HX.out.2.2 k hk
  have hc1 : w1.cell? ⟨g, o + k, none⟩ = some (.int .i64 x) := (only_cell ho HX.out.1 HX.out.2.1 _).trans hc
  have HO := Lib.hid ho
  have HR1 := Lib.hid hr1
  have HQ : Hid (Q x) := hq
  clear ho hr1 hc hq hv1
  go_wp2
  go_ret
  exact ⟨x, ret_int rfl, HQ.out, HO.out, HR1.out⟩

set_option maxRecDepth 100000 in
set_option maxHeartbeats 1000000 in
theorem of_any (b P g o n c : Nat) (Q : ByteArray → Prop) (w : World) (hr : Rd w b P) (hP : P ≤ 1000000) (hn : 0 < n) (hn' : n ≤ 1000000) (hx : Texts w b g o n Q) :
    Calls Tryd.prog 68 #[.pointer (some ⟨b, 0, none⟩), .slice (some ⟨g, o, none⟩) n c] w fun e w' => ∃ v : ByteArray, e = .returned (.string v) ∧ Q v ∧ Only w w' (· = b) ∧ Rd w' b (P + 1) := by
  have HR := Lib.hid hr
  have HX : Hid (Texts w b g o n Q) := hx
  clear hr hx
  go_enter Tryd.func68, Tryd.ntmps68
  go_wp2_with fail
  refine (draw_any b P n w HR.out hP (by omega) (by omega)).mono ?_
  rintro e w1 ⟨v, rfl, ⟨hv0, hv1⟩, ho, hr1⟩
  obtain ⟨k, rfl⟩ := Int.eq_ofNat_of_zero_le hv0
  have hk : k < n := by have := hv1 (by omega); omega
  obtain ⟨x, hc, hq⟩ := HX.out.2.2 k hk
  have hc1 : w1.cell? ⟨g, o + k, none⟩ = some (.string x) := (only_cell ho HX.out.1 HX.out.2.1 _).trans hc
  have HO := Lib.hid ho
  have HR1 := Lib.hid hr1
  have HQ : Hid (Q x) := hq
  clear ho hr1 hc hq hv1
  go_wp2
  go_ret
  exact ⟨x, rfl, HQ.out, HO.out, HR1.out⟩

theorem Bytes.less {w : World} {b m n : Nat} {A : Option Addr} (h : Bytes w b A n) (hm : m ≤ n) : Bytes w b A m := fun h0 => by
  obtain ⟨g, o, e, hg, hl, hx⟩ := h (by omega)
  exact ⟨g, o, e, hg, hl, fun i hi => hx i (by omega)⟩
theorem Rd.new {w : World} {m c : Nat} {A : Option Addr} (hm : m ≤ 2000) (h : Bytes w w.heap.size A m) : Rd (w.alloc (.cells #[.slice A m c, .int .i64 0] 124)) w.heap.size 0 := by
  refine ⟨A, m, c, 0, Row.new w _ _, ?_, hm, Nat.le_refl 0, fun h0 g o e => by
    obtain ⟨g', o', e', _, hl, _⟩ := h h0
    rw [e] at e'
    cases e'
    exact hl⟩
  intro h0
  obtain ⟨g, o, rfl, hg, hl, hx⟩ := h h0
  exact h.below (B := w.heap.size) ((Below.refl _ w).alloc (Nat.le_refl _) _) (fun g' o' e => by cases e; exact hl) h0

set_option maxRecDepth 100000 in
set_option maxHeartbeats 1000000 in
theorem l13Open_any (A : Option Addr) (n c : Nat) (w : World) (hn : n ≤ c) (hx : ∀ b, w.heap.size ≤ b → Bytes w b A n) :
    Calls Tryd.prog 65 #[.slice A n c] w fun e w' => ∃ b, e = .returned (.pointer (some ⟨b, 0, none⟩)) ∧ w.heap.size ≤ b ∧ Rd w' b 0 ∧ Below w.heap.size w w' := by
  have HX : Hid (∀ b, w.heap.size ≤ b → Bytes w b A n) := hx
  clear hx
  by_cases h : 2000 < n
  · have HY := Lib.hid (Rd.new (c := c) (Nat.le_refl 2000) ((HX.out w.heap.size (Nat.le_refl _)).less (Nat.le_of_lt h)))
    go_enter Tryd.func65, Tryd.ntmps65
    go_wp2
    go_ret
    exact ⟨w.heap.size, rfl, Nat.le_refl _, HY.out, (Below.refl _ w).alloc (Nat.le_refl _) _⟩
  · have HY := Lib.hid (Rd.new (c := c) (Nat.le_of_not_lt h) (HX.out w.heap.size (Nat.le_refl _)))
    go_enter Tryd.func65, Tryd.ntmps65
    go_wp2
    go_ret
    exact ⟨w.heap.size, rfl, Nat.le_refl _, HY.out, (Below.refl _ w).alloc (Nat.le_refl _) _⟩

end Go.Proofs.YtdbddockmdkmeaaDoor

/- Draws: a name, a known tree. -/
namespace Go.Proofs.YtdbddockmdkmeaaDoor
open Go.RowKit

theorem texts_new (w : World) (b : Nat) (t : TypeId) (vs : List ByteArray) (hb : b < w.heap.size) : Texts (w.alloc (.cells (vs.map Value.string).toArray t)) b w.heap.size 0 vs.length (· ∈ vs) := by
  refine ⟨by omega, by simp, fun i hi => ⟨vs[i], ?_, List.getElem_mem hi⟩⟩
  rw [(Row.new w t _).cell]
  simp [hi]
theorem nums_new (w : World) (b : Nat) (t : TypeId) (vs : List Int) (hb : b < w.heap.size) : Nums (w.alloc (.cells (vs.map (Value.int .i64)).toArray t)) b w.heap.size 0 vs.length (· ∈ vs) := by
  refine ⟨by omega, by simp, fun i hi => ⟨vs[i], ?_, List.getElem_mem hi⟩⟩
  rw [(Row.new w t _).cell]
  simp [hi]
theorem Rd.alloc {w : World} {b P : Nat} (h : Rd w b P) (o : Obj) : Rd (w.alloc o) b P := h.below ((Below.refl _ w).alloc (Nat.le_refl _) _)
theorem Only.fresh {w w' : World} {b : Nat} {o : Obj} (h : Only (w.alloc o) w' (· = b)) : Only w w' (· = b) :=
  ⟨h.os, h.tape, h.output, by have := h.size; simp at this; omega, fun k hk hm => (h.block k (by simp; omega) hm).trans (Below.heap_alloc w o k hk)⟩

/-- A tree of a call's own, of few segments and short names. -/
structure Drawn (w : World) (B : Nat) (v : Value) (l : List Seg) : Prop where
  own : OwnTree w B v l
  few : l.length ≤ 8
  some : 1 ≤ l.length
  short : ∀ s ∈ l, s.name.size ≤ 8

end Go.Proofs.YtdbddockmdkmeaaDoor

/- Draws: a tree that is mostly valid, out of a good one; with a name beside it. -/
namespace Go.Proofs.YtdbddockmdkmeaaDoor
open Go.RowKit

theorem OwnTree.slice {w : World} {B : Nat} {v : Value} {l : List Seg} (h : OwnTree w B v l) (h1 : 1 ≤ l.length) : ∃ g c, v = .slice (some ⟨g, 0, none⟩) l.length c ∧ B ≤ g ∧ l.length ≤ c ∧ c ≤ 9223372036854775807 := by
  rcases h.2 with ⟨_, h0⟩ | ⟨g, c, cur, hv, hb, _, hn, hc, _⟩
  · omega
  · exact ⟨g, c, hv, hb, hn, by unfold maxLen at hc; omega⟩
theorem Drawn.far {w w' : World} {B b : Nat} {v : Value} {l : List Seg} (h : Drawn w B v l) (ho : Only w w' (· = b)) (hb : b < B) : Drawn w' B v l := by
  refine ⟨h.own.far fun g hg => ?_, h.few, h.some, h.short⟩
  have := World.ownsRow.lt h.own g hg
  exact ho.block g this.2 (by intro e; omega)

end Go.Proofs.YtdbddockmdkmeaaDoor

/- Draws: a tree and a name; the draws of PathOf and CommonOf. All over l1Good's contract. -/
namespace Go.Proofs.YtdbddockmdkmeaaDoor
open Go.RowKit

theorem only_below {w w1 w2 : World} {b : Nat} (hb : Below w.heap.size w w1) (h : w.heap.size ≤ b) (ho : Only w1 w2 (· = b)) : Below w.heap.size w w2 :=
  Only.below hb ho hb.size (fun k hk e => by omega)

end Go.Proofs.YtdbddockmdkmeaaDoor

/- Draws: one more segment of a good tree, seen from the memory's side. -/
namespace Go.Proofs.YtdbddockmdkmeaaDoor
open Go.RowKit

end Go.Proofs.YtdbddockmdkmeaaDoor

/- The argument of a law, opened: a slice of bytes. -/
namespace Go.Proofs.YtdbddockmdkmeaaDoor
open Go.ChangeShapes Go.WideShapes Go.ChangeAt Go.RowKit

theorem cells_u8 : Tryd.prog.cellsOf 5 = 1 := by kernel_rfl

theorem open_bytes {H : Type} {enc : TypeId × Value → H} {w : World} {base : Nat} {spare : Nat → Bool} {held : Bool} {fuel : Nat} {a0 : Option Addr} {n c : Nat} {x : DataW H × List MemPlace}
    (h : DataW.trod enc Tryd.prog w base spare held fuel 22 [.slice a0 n c] = some x) : n ≤ c ∧ n ≤ maxLen ∧ ∀ b, w.heap.size ≤ b → Bytes w b a0 n := by
  rcases Deep.open_slice Tryd.underlying22 h with ⟨hcs, _⟩ | ⟨a, len, cap, m, n', D, Pl, hcs, hb, hl, hm, hmm, hx, hi⟩
  · simp at hcs
    obtain ⟨rfl, rfl, rfl⟩ := hcs
    exact ⟨Nat.le_refl _, Nat.zero_le _, fun b _ h0 => absurd h0 (by simp)⟩
  · simp at hcs
    obtain ⟨rfl, rfl, rfl⟩ := hcs
    have hlm : n ≤ m := by rw [hmm]; split <;> omega
    have hs : ∀ i, i < n → ∃ p : Int, w.cell? (a.add i) = some (.int .u8 p) ∧ 0 ≤ p ∧ p ≤ 255 := by
      intro i hin
      obtain ⟨cs', hc, ht'⟩ := hi i (by omega)
      rw [cells_u8] at hc
      obtain ⟨p, hp, _, hw⟩ := DataW.trod_int Tryd.underlying5 ht'
      subst hp
      obtain ⟨_, hcl, hat⟩ := World.cells?_some hc
      have e0 := hat 0 (by omega)
      rw [Nat.mul_one, Deep.add_add, Nat.add_zero] at e0
      have hw' : 0 ≤ p ∧ p ≤ 255 := by
        simp [Lit.wf] at hw
        exact hw
      exact ⟨p, e0, hw'⟩
    refine ⟨hl, by omega, fun b hbb h0 => ?_⟩
    obtain ⟨g, o, spot⟩ := a
    have hc0 := (hs 0 h0).choose_spec.1
    have hspot : spot = none := by simpa [Addr.add] using World.cell?_spot hc0
    subst hspot
    have hlt := World.block_lt_of_cell? w _ hc0
    rw [WideShapes.add_plain] at hlt
    have hlt' : g < w.heap.size := hlt
    refine ⟨g, o, rfl, by omega, hlt', fun i hin => ?_⟩
    obtain ⟨p, hp, h2⟩ := hs i hin
    rw [WideShapes.add_plain] at hp
    exact ⟨p, hp, h2⟩

end Go.Proofs.YtdbddockmdkmeaaDoor
/- Draws of chapter 12: DrawFormatNumbers. -/
namespace Go.Proofs.YtdbddockmdkmeaaDoor
open Go.RowKit

/-- What a draw of numbers is said to hand back. -/
def NumsDrawn12 (w : World) (e : Ending) (w' : World) : Prop := ∃ v xs, e = .returned v ∧ Si.OwnInts w' w.heap.size v xs ∧ xs.length ≤ 5 ∧ (∀ x ∈ xs, -9223372036854775808 ≤ x ∧ x ≤ 9223372036854775807) ∧ Below w.heap.size w w'
def drawn12 : List Int := [0, 1, -1, 12, 3, -9223372036854775808, 255]
theorem own_weak12 {W : World} {B B' : Nat} {v : Value} {ts : List Int} (h : Si.OwnInts W B v ts) (hB : B' ≤ B) : Si.OwnInts W B' v ts := by
  refine ⟨h.1, ?_⟩
  rcases h.2 with h0 | ⟨g', cap, cur, e, hg, r⟩
  · exact .inl h0
  · exact .inr ⟨g', cap, cur, e, by omega, r⟩

set_option maxRecDepth 100000 in
set_option maxHeartbeats 1000000 in
theorem drawFormatNumbers_any (A0 : Option Addr) (n c0 : Nat) (w : World) (hn : n ≤ c0) (hx : ∀ b, w.heap.size ≤ b → Bytes w b A0 n) :
    Calls Tryd.prog 34 #[.slice A0 n c0] w (NumsDrawn12 w) := by
  have HO := Lib.hid (l13Open_any A0 n c0 w hn hx)
  clear hx
  unfold NumsDrawn12
  go_enter Tryd.func34, Tryd.ntmps34
  go_wp2_with fail
  refine Calls.mono HO.out ?_
  rintro e w1 ⟨b, rfl, hbb, hr, hb1⟩
  have HB1 := Lib.hid (hb1.alloc hb1.size (.cells #[] 3))
  have HR1 := Lib.hid (hr.alloc (.cells #[] 3))
  have HT1 := Lib.hid (Si.OwnInts.empty w1 (B := b + 1) hr.lt)
  clear hr hb1 HO
  go_wp2_with fail
  refine (draw_any b 0 5 _ HR1.out (by omega) (by omega) (by omega)).mono ?_
  rintro e w2 ⟨v, rfl, ⟨hv0, hv1⟩, ho2, hr2⟩
  obtain ⟨v, rfl⟩ := Int.eq_ofNat_of_zero_le hv0
  have hv5 : v < 5 := by have := hv1 (by omega); omega
  have HB2 := Lib.hid (only_below HB1.out hbb ho2)
  have HR2 := Lib.hid hr2
  have HT2 := Lib.hid (Si.intsFar HT1.out ho2 (fun g hg e => by have := (World.ownsRow.lt HT1.out g hg).1; omega))
  clear ho2 hr2 hv0 hv1 HB1 HR1 HT1
  go_wp2
  go_loopw [4, 10] (fun vo vi wr => ∃ (k : Nat) (ts : List Int), vi = .int .i64 k ∧ k ≤ v ∧ Hid (ts.length = k) ∧ (∀ x ∈ ts, -9223372036854775808 ≤ x ∧ x ≤ 9223372036854775807) ∧ Hid (Si.OwnInts wr (b + 1) vo ts) ∧ Hid (Below w.heap.size w wr) ∧ Hid (Rd wr b (1 + k)))
    (fun _ vi _ => v - (intOf vi).toNat)
  case atStart => exact ⟨0, [], rfl, Nat.zero_le _, Lib.hid rfl, fun x hx => by simp at hx, HT2, HB2, HR2⟩
  case round =>
    obtain ⟨k, ts, rfl, hk, HKL, hin, HT, HB, HR⟩ := hrel
    clear HT2 HB2 HR2
    by_cases hlt : k < v
    · have hlt' : (k : Int) < (v : Int) := by omega
      have htl : ts.length ≤ 100000000 := by have := HKL.out; omega
      obtain ⟨A1, cap1, rfl, -⟩ := Si.intsForm HT.out
      have HN3 := Lib.hid (nums_new wr b 3 drawn12 HR.out.lt)
      have HR3 := Lib.hid (HR.out.alloc (.cells (drawn12.map (Value.int .i64)).toArray 3))
      have HT3 := Lib.hid (HT.out.below ((Below.refl _ wr).alloc (Nat.le_refl _) (.cells (drawn12.map (Value.int .i64)).toArray 3)))
      have HB3 := Lib.hid (HB.out.alloc HB.out.size (.cells (drawn12.map (Value.int .i64)).toArray 3))
      go_wp2_with fail
      refine (num_any b (1 + k) wr.heap.size 0 7 7 (· ∈ drawn12) _ HR3.out (by omega) (by omega) (by omega) HN3.out).mono ?_
      rintro e w4 ⟨u, rfl, hu, ho4, hr4⟩
      have hub : -9223372036854775808 ≤ u ∧ u ≤ 9223372036854775807 := by
        have : ∀ x ∈ drawn12, -9223372036854775808 ≤ x ∧ x ≤ 9223372036854775807 := by decide
        exact this u hu
      have HB4 := Lib.hid (only_below HB3.out hbb ho4)
      have HT4 := Lib.hid (Si.intsFar HT3.out ho4 (fun g hg e => by have := (World.ownsRow.lt HT3.out g hg).1; omega))
      have HR4 := Lib.hid hr4
      have hb4 := hr4.lt
      have HT6 : Hid (Si.OwnInts (w4.alloc (.cells #[.int .i64 u] 3)) (b + 1) (.slice A1 ts.length cap1) ts) := HT4.out.below ((Below.refl _ w4).alloc (Nat.le_refl _) _)
      have HN6 : Hid ((w4.alloc (.cells #[.int .i64 u] 3)).cell? ⟨w4.heap.size, 0, none⟩ = some (.int .i64 u)) := Row.cell (Row.new w4 3 #[.int .i64 u]) 0
      clear hu ho4 hr4 HN3 HR3 HT3 HB3 HT HB HR
      go_wp2_with (at_builtin; go_loud (refine wp_appJ12 rfl (.tmp 12) (.tmp 16) rfl (b + 1) _ ts _ rfl HT6.out htl (by simp; omega) w4.heap.size u rfl HN6.out ?_); intro v7 w7 ho7 hb7 _ _; have HO7 := Lib.hid ho7; have HB7 := Lib.hid ((HB4.out.alloc HB4.out.size _).trans (hb7.mono (show w.heap.size ≤ b + 1 by omega))); have HR7 := Lib.hid ((HR4.out.alloc _).belowB hb7 (Nat.lt_succ_self b)); clear ho7 hb7 HN6 HT6)
      clear HB4 HT4 HR4
      go_roundw
      case rel => exact ⟨k + 1, ts ++ [u], by go_num, by omega, Lib.hid (by rw [List.length_append, HKL.out]; rfl), fun x hx => by
        rcases List.mem_append.1 hx with hx | hx
        · exact hin x hx
        · rw [List.mem_singleton.1 hx]; exact hub, HO7, HB7, HR7⟩
      case measure => simp [intOf]; omega
    · have hke : k = v := by omega
      have HO := Lib.hid (own_weak12 HT.out (show w.heap.size ≤ b + 1 by omega))
      go_wp2
      go_ret
      exact ⟨_, ts, rfl, HO.out, by have := HKL.out; omega, hin, HB.out⟩

end Go.Proofs.YtdbddockmdkmeaaDoor
/- Draws of chapter 12: DrawParseNumbers. -/
namespace Go.Proofs.YtdbddockmdkmeaaDoor
open Go.RowKit

/-- The texts that a text of numbers is spoilt with. -/
def oddN12 : List ByteArray := [⟨#[]⟩, ⟨#[32]⟩, ⟨#[48]⟩, ⟨#[45]⟩, ⟨#[120]⟩, ⟨#[49]⟩]
theorem oddN12_size : ∀ x ∈ oddN12, x.size ≤ 2 := by decide
/-- Nothing but the reader differs from `w`. -/
def SatN12 (w : World) (b q : Nat) (W : World) : Prop := Only w W (· = b) ∧ Rd W b q
theorem SatN12.alloc {w W : World} {b q : Nat} (h : Hid (SatN12 w b q W)) (o : Obj) : Hid (SatN12 w b q (W.alloc o)) := Lib.hid ⟨h.out.1.andBelow ((Below.refl _ W).alloc (Nat.le_refl _) _), h.out.2.alloc o⟩
theorem ofN12 (w : World) (b q g : Nat) (W : World) (hs : Hid (SatN12 w b q W)) (hq : q ≤ 100000) (hx : Hid (Texts W b g 0 6 (· ∈ oddN12))) :
    Calls Tryd.prog 68 #[.pointer (some ⟨b, 0, none⟩), .slice (some ⟨g, 0, none⟩) 6 6] W fun e w' => ∃ v : ByteArray, e = .returned (.string v) ∧ v.size ≤ 2 ∧ Only W w' (· = b) ∧ Hid (SatN12 w b (q + 1) w') := by
  refine (of_any b q g 0 6 6 _ W hs.out.2 (by omega) (by omega) (by omega) hx.out).mono ?_
  rintro e w' ⟨v, rfl, hv, ho, hr⟩
  exact ⟨v, rfl, oddN12_size v hv, ho, Lib.hid ⟨hs.out.1.trans ho, hr⟩⟩
theorem pickN12 (w : World) (b q : Nat) (W : World) (hs : Hid (SatN12 w b q W)) (hq : q ≤ 100000) :
    Calls Tryd.prog 67 #[.pointer (some ⟨b, 0, none⟩), .int .i64 2] W fun e w' => ∃ v : Nat, e = .returned (.int .i64 v) ∧ v ≤ 1 ∧ Only W w' (· = b) ∧ Hid (SatN12 w b (q + 1) w') := by
  refine (draw_any b q 2 W hs.out.2 (by omega) (by omega) (by omega)).mono ?_
  rintro e w' ⟨v, rfl, ⟨h0, h1⟩, ho, hr⟩
  obtain ⟨k, rfl⟩ := Int.eq_ofNat_of_zero_le h0
  exact ⟨k, rfl, by have := h1 (by omega); omega, ho, Lib.hid ⟨hs.out.1.trans ho, hr⟩⟩
theorem fmtB_len12 : ∀ xs : List Int, (∀ x ∈ xs, -9223372036854775808 ≤ x ∧ x ≤ 9223372036854775807) → (fmtB xs).length ≤ xs.length * 21
  | [], _ => Nat.zero_le _
  | x :: r, h => by
    have h1 := itoa_len x (h x (by simp)).1 (h x (by simp)).2
    have h2 : ∀ r : List Int, (∀ x ∈ r, -9223372036854775808 ≤ x ∧ x ≤ 9223372036854775807) → (r.flatMap fun y => (32 : UInt8) :: Lib.itoa y).length ≤ r.length * 21 := by
      intro r
      induction r with
      | nil => intro _; simp
      | cons y r ih =>
        intro hr
        have i1 := ih fun x hx => hr x (List.mem_cons_of_mem _ hx)
        have i2 := itoa_len y (hr y (by simp)).1 (hr y (by simp)).2
        rw [List.flatMap_cons, List.length_append, List.length_cons, List.length_cons]
        omega
    have h3 := h2 r fun x hx => h x (List.mem_cons_of_mem _ hx)
    show (Lib.itoa x ++ r.flatMap fun y => 32 :: Lib.itoa y).length ≤ _
    rw [List.length_append, List.length_cons]
    omega
theorem fmtRes_size12 {xs : List Int} (h : ∀ x ∈ xs, -9223372036854775808 ≤ x ∧ x ≤ 9223372036854775807) (hl : xs.length ≤ 5) : 1 ≤ (fmtRes xs).size ∧ (fmtRes xs).size ≤ 105 := by
  unfold fmtRes
  rw [txt12_size]
  have h1 := fmtB_len12 xs h
  by_cases hx : xs = []
  · rw [if_pos hx]; simp
  · rw [if_neg hx]
    have h2 : 0 < (fmtB xs).length := List.length_pos_iff.2 fun e => hx (fmtB_nil.1 e)
    omega
/-- What the draw of a text is said to hand back. -/
def TextDrawn12 (w : World) (e : Ending) (w' : World) : Prop := ∃ x : ByteArray, e = .returned (.string x) ∧ x.size ≤ 300 ∧ Below w.heap.size w w'

set_option maxRecDepth 100000 in
set_option maxHeartbeats 2000000 in
theorem drawParseNumbers_any (A0 : Option Addr) (n c0 : Nat) (w : World) (hn : n ≤ c0) (hx : ∀ b, w.heap.size ≤ b → Bytes w b A0 n) :
    Calls Tryd.prog 35 #[.slice A0 n c0] w (TextDrawn12 w) := by
  have HO := Lib.hid (l13Open_any A0 n c0 w hn hx)
  clear hx
  unfold TextDrawn12
  go_enter Tryd.func35, Tryd.ntmps35
  go_wp2_with fail
  refine Calls.mono HO.out ?_
  rintro e w1 ⟨b, rfl, hbb, hr, hb1⟩
  have HB1 := Lib.hid (hb1.alloc hb1.size (.cells #[] 3))
  have HR1 := Lib.hid (hr.alloc (.cells #[] 3))
  have HT1 := Lib.hid (Si.OwnInts.empty w1 (B := b + 1) hr.lt)
  clear hr hb1 HO
  go_wp2_with fail
  refine (draw_any b 0 5 _ HR1.out (by omega) (by omega) (by omega)).mono ?_
  rintro e w2 ⟨v, rfl, ⟨hv0, hv1⟩, ho2, hr2⟩
  obtain ⟨v, rfl⟩ := Int.eq_ofNat_of_zero_le hv0
  have hv5 : v < 5 := by have := hv1 (by omega); omega
  have HB2 := Lib.hid (only_below HB1.out hbb ho2)
  have HR2 := Lib.hid hr2
  have HT2 := Lib.hid (Si.intsFar HT1.out ho2 (fun g hg e => by have := (World.ownsRow.lt HT1.out g hg).1; omega))
  clear ho2 hr2 hv0 hv1 HB1 HR1 HT1
  go_wp2
  go_loopw [4, 12] (fun vo vi wr => ∃ (k : Nat) (ts : List Int), vi = .int .i64 k ∧ k ≤ v ∧ Hid (ts.length = k) ∧ (∀ x ∈ ts, -9223372036854775808 ≤ x ∧ x ≤ 9223372036854775807) ∧ Hid (Si.OwnInts wr (b + 1) vo ts) ∧ Hid (Below w.heap.size w wr) ∧ Hid (Rd wr b (1 + k)))
    (fun _ vi _ => v - (intOf vi).toNat)
  case atStart => exact ⟨0, [], rfl, Nat.zero_le _, Lib.hid rfl, fun x hx => by simp at hx, HT2, HB2, HR2⟩
  case round =>
    obtain ⟨k, ts, rfl, hk, HKL, hin, HT, HB, HR⟩ := hrel
    clear HT2 HB2 HR2
    by_cases hlt : k < v
    · have hlt' : (k : Int) < (v : Int) := by omega
      have htl : ts.length ≤ 100000000 := by have := HKL.out; omega
      obtain ⟨A1, cap1, rfl, -⟩ := Si.intsForm HT.out
      go_wp2_with fail
      refine (draw_any b (1 + k) 40 _ HR.out (by omega) (by omega) (by omega)).mono ?_
      rintro e w4 ⟨u, rfl, ⟨hu0, hu1⟩, ho4, hr4⟩
      have hub : -9223372036854775808 ≤ u ∧ u ≤ 9223372036854775807 := by have := hu1 (by omega); omega
      have HB4 := Lib.hid (only_below HB.out hbb ho4)
      have HT4 := Lib.hid (Si.intsFar HT.out ho4 (fun g hg e => by have := (World.ownsRow.lt HT.out g hg).1; omega))
      have HR4 := Lib.hid hr4
      have hb4 := hr4.lt
      have HT6 : Hid (Si.OwnInts (w4.alloc (.cells #[.int .i64 u] 3)) (b + 1) (.slice A1 ts.length cap1) ts) := HT4.out.below ((Below.refl _ w4).alloc (Nat.le_refl _) _)
      have HN6 : Hid ((w4.alloc (.cells #[.int .i64 u] 3)).cell? ⟨w4.heap.size, 0, none⟩ = some (.int .i64 u)) := Row.cell (Row.new w4 3 #[.int .i64 u]) 0
      clear hu0 hu1 ho4 hr4 HT HB HR
      go_wp2_with (at_builtin; go_loud (refine wp_appJ12 rfl (.tmp 14) (.tmp 17) rfl (b + 1) _ ts _ rfl HT6.out htl (by simp; omega) w4.heap.size u rfl HN6.out ?_); intro v7 w7 ho7 hb7 _ _; have HO7 := Lib.hid ho7; have HB7 := Lib.hid ((HB4.out.alloc HB4.out.size _).trans (hb7.mono (show w.heap.size ≤ b + 1 by omega))); have HR7 := Lib.hid ((HR4.out.alloc _).belowB hb7 (Nat.lt_succ_self b)); clear ho7 hb7 HN6 HT6)
      clear HB4 HT4 HR4
      go_roundw
      case rel => exact ⟨k + 1, ts ++ [u], by go_num, by omega, Lib.hid (by rw [List.length_append, HKL.out]; rfl), fun x hx => by
        rcases List.mem_append.1 hx with hx | hx
        · exact hin x hx
        · rw [List.mem_singleton.1 hx]; exact hub, HO7, HB7, HR7⟩
      case measure => simp [intOf]; omega
    · have hke : k = v := by omega
      subst hke
      obtain ⟨hs1, hs2⟩ := fmtRes_size12 hin (by have := HKL.out; omega)
      obtain ⟨A1, cap1, rfl, hst⟩ := Si.intsForm HT.out
      have HF := Lib.hid (specFormatNumbers_any A1 ts cap1 wr hst (by have := HKL.out; omega) hin)
      clear hst hin HT
      generalize fmtRes ts = x at *
      go_wp2_with fail
      refine HF.out.mono ?_
      rintro e w3 ⟨rfl, hb3⟩
      have HB3 := Lib.hid (HB.out.trans (hb3.mono HB.out.size))
      have HR3 := Lib.hid (HR.out.below hb3)
      clear hb3 HB HR HF HKL
      go_wp2_with fail
      refine (draw_any b (1 + k) 2 _ HR3.out (by omega) (by omega) (by omega)).mono ?_
      rintro e w4 ⟨u, rfl, -, ho4, hr4⟩
      have HB4 := Lib.hid (only_below HB3.out hbb ho4)
      have HR4 := Lib.hid hr4
      clear ho4 hr4 HB3 HR3
      by_cases hu : u = 0
      · subst hu
        go_wp2
        go_ret
        exact ⟨x, rfl, by omega, HB4.out⟩
      · have hue : (u == 0) = false := by rw [beq_eq_false_iff_ne]; exact hu
        go_wp2_with fail
        refine (draw_any b (1 + k + 1) x.size _ HR4.out (by omega) (by omega) (by omega)).mono ?_
        rintro e w5 ⟨m, rfl, ⟨hk0, hk1⟩, ho5, hr5⟩
        obtain ⟨m, rfl⟩ := Int.eq_ofNat_of_zero_le hk0
        have hk : m < x.size := by have := hk1 (by omega); omega
        have HB5 := Lib.hid (only_below HB4.out hbb ho5)
        have HSAT : Hid (SatN12 w5 b (1 + k + 1 + 1) w5.drew) := Lib.hid ⟨(Only.refl w5 (· = b)).drew', hr5.below ((Below.refl _ w5).drew)⟩
        have HT0 := Lib.hid (texts_new w5.drew b 9 oddN12 HSAT.out.2.lt)
        have hk0 : (0 : Int) ≤ (m : Int) := Int.natCast_nonneg _
        have hkx : (m : Int) ≤ (x.size : Int) := by omega
        have HQ := Lib.hid hv5
        clear ho5 hr5 HB4 HR4 hk1 hue
        go_wp2_with fail
        go_region_with (first
          | (go_at_call 68; refine (ofN12 w5 b (1 + k + 1 + 1) w5.heap.size _ (SatN12.alloc HSAT _) (by have := HQ.out; omega) HT0).mono ?_; rintro e w6 ⟨y, rfl, HY, ho6, HSAT6⟩)
          | (go_at_call 67; refine (pickN12 w5 b (1 + k + 1 + 1 + 1) w6 HSAT6 (by have := HQ.out; omega)).mono ?_; rintro e w7 ⟨j, rfl, hj, ho7, HSAT7⟩; obtain ⟨s, HSJ⟩ : ∃ s : Nat, Hid (s = m + j) := ⟨_, Lib.hid rfl⟩; have hws : IntKind.i64.wrap ((m : Int) + (j : Int)) = (s : Int) := (IntWalk.i64_in _ (by omega)).trans (by rw [HSJ.out]; rfl); have hsx : (s : Int) ≤ (x.size : Int) := by (rw [HSJ.out]; omega)))
        all_goals
          have HSZ : Hid ((x.extract 0 m ++ y ++ x.extract s x.size).size ≤ 300) := by
            show _ ≤ _
            rw [ByteArray.size_append, ByteArray.size_append, ByteArray.size_extract, ByteArray.size_extract]
            have := HSJ.out
            omega
          have HBF := Lib.hid (only_below HB5.out hbb HSAT7.out.1)
          clear ho6 ho7 HSAT6 HSAT7 HSAT HT0
          go_wp2
          go_ret
          exact ⟨_, rfl, HSZ.out, HBF.out⟩

end Go.Proofs.YtdbddockmdkmeaaDoor
