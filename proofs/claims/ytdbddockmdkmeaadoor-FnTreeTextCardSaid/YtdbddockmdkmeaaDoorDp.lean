/- The draws' reader: one number drawn. -/
import Derived.Test.YtdbddockmdkmeaaDoorRw
import Derived.Test.YtdbddockmdkmeaaDoorKb
import Derived.Deep.Onto
import Derived.Test.YtdbddockmdkmeaaDoorPa
import Derived.Test.YtdbddockmdkmeaaDoorOp
namespace Go.Proofs.YtdbddockmdkmeaaDoor
open Go.RowKit

/-- The reader's bytes: a row of bytes that is not the reader's own block. -/
def Bytes (w : World) (b : Nat) (A : Option Addr) (m : Nat) : Prop :=
  0 < m → ∃ g o, A = some ⟨g, o, none⟩ ∧ g ≠ b ∧ g < w.heap.size ∧ ∀ i, i < m → ∃ x : Int, w.cell? ⟨g, o + i, none⟩ = some (.int .u8 x) ∧ 0 ≤ x ∧ x ≤ 255

theorem Bytes.only {w w' : World} {b m : Nat} {A : Option Addr} (h : Bytes w b A m) (ho : Only w w' (· = b)) : Bytes w' b A m := fun h0 => by
  obtain ⟨g, o, rfl, hg, hl, hx⟩ := h h0
  refine ⟨g, o, rfl, hg, Nat.lt_of_lt_of_le hl ho.size, fun i hi => ?_⟩
  obtain ⟨x, hc, hb⟩ := hx i hi
  refine ⟨x, ?_, hb⟩
  have := ho.block g hl hg
  rw [← hc]
  simp [World.cell?, this]

theorem xor_bd (x y : Int) (hx : 0 ≤ x) (hx' : x < 1099511627776) (hy : 0 ≤ y) (hy' : y < 1099511627776) : 0 ≤ bits .xor .i64 x y ∧ bits .xor .i64 x y < 1099511627776 := by
  have h : bits .xor .i64 x y = IntKind.i64.wrap ((BitVec.ofInt 64 x ^^^ BitVec.ofInt 64 y).toNat : Int) := rfl
  have hn : (BitVec.ofInt 64 x ^^^ BitVec.ofInt 64 y).toNat < 2 ^ 40 := by
    rw [BitVec.toNat_xor, BitVec.toNat_ofInt, BitVec.toNat_ofInt]
    exact Nat.xor_lt_two_pow (by omega) (by omega)
  rw [h, IntWalk.i64_in _ (by omega)]
  omega

set_option maxRecDepth 100000 in
set_option maxHeartbeats 1000000 in
theorem pick_any (b : Nat) (A : Option Addr) (m c : Nat) (p n : Int) (w : World) (hr : Row w b 124 #[.slice A m c, .int .i64 p]) (hB : Bytes w b A m) (hm : m ≤ 2000)
    (hp : 0 ≤ p) (hp' : p ≤ 1000000) (hn : 0 ≤ n) (hn' : n ≤ 1000000) :
    Calls Tryd.prog 67 #[.pointer (some ⟨b, 0, none⟩), .int .i64 n] w fun e w' => (∃ v : Int, e = .returned (.int .i64 v) ∧ 0 ≤ v ∧ (0 < n → v < n)) ∧ Only w w' (· = b) ∧
      Row w' b 124 #[.slice A m c, .int .i64 (p + 1)] := by
  have c0 : w.cell? ⟨b, 0, none⟩ = some (.slice A m c) := hr.cell 0
  have c1 : w.cell? ⟨b, 1, none⟩ = some (.int .i64 p) := hr.cell 1
  have z1 : w.frozen? ⟨b, 1, none⟩ = false := hr.free 1
  have hr1 : Row (w.setCell ⟨b, 1, none⟩ (.int .i64 (p + 1))) b 124 #[.slice A m c, .int .i64 (p + 1)] := Row.put hr 1 _
  have ho1 : Only w (w.setCell ⟨b, 1, none⟩ (.int .i64 (p + 1))) (· = b) := (Only.refl w _).set 1 _
  have hB1 := hB.only ho1
  have d0 : (w.setCell ⟨b, 1, none⟩ (.int .i64 (p + 1))).cell? ⟨b, 0, none⟩ = some (.slice A m c) := hr1.cell 0
  have d1 : (w.setCell ⟨b, 1, none⟩ (.int .i64 (p + 1))).cell? ⟨b, 1, none⟩ = some (.int .i64 (p + 1)) := hr1.cell 1
  have HR := Lib.hid hr1
  have HO := Lib.hid ho1
  have HB := Lib.hid hB1
  clear hr hr1 ho1 hB hB1
  by_cases h1 : n < 1
  · go_enter Tryd.func67, Tryd.ntmps67
    go_wp2
    go_ret
    exact ⟨⟨0, rfl, Int.le_refl 0, fun h => by omega⟩, HO.out, HR.out⟩
  by_cases h2 : m = 0
  · subst h2
    go_enter Tryd.func67, Tryd.ntmps67
    go_wp2
    go_ret
    exact ⟨⟨0, rfl, Int.le_refl 0, fun h => by omega⟩, HO.out, HR.out⟩
  obtain ⟨g, o, rfl, hg, hl, hx⟩ := HB.out (by omega)
  by_cases h3 : p < m
  · obtain ⟨k, rfl⟩ := Int.eq_ofNat_of_zero_le hp
    obtain ⟨x, hc, hx0, hx1⟩ := hx k (by omega)
    go_enter Tryd.func67, Tryd.ntmps67
    go_wp2
    go_ret
    exact ⟨⟨x % n, ret_int rfl, Int.emod_nonneg _ (by omega), fun h => Int.emod_lt_of_pos _ h⟩, HO.out, HR.out⟩
  · obtain ⟨k, rfl⟩ := Int.eq_ofNat_of_zero_le hp
    have q1 : k % m < m := Nat.mod_lt _ (by omega)
    have q2 : (k * 7 + 3) % m < m := Nat.mod_lt _ (by omega)
    obtain ⟨x, hc, hx0, hx1⟩ := hx (k % m) q1
    obtain ⟨y, hcy, hy0, hy1⟩ := hx ((k * 7 + 3) % m) q2
    have q3 : k / m ≤ k := Nat.div_le_self _ _
    have e1 : (k : Int).tmod (m : Int) = ((k % m : Nat) : Int) := by rw [Int.tmod_eq_emod_of_nonneg (by omega)]; rfl
    have e3 : ((k : Int) * 7 + 3).tmod (m : Int) = (((k * 7 + 3) % m : Nat) : Int) := by rw [Int.tmod_eq_emod_of_nonneg (by omega)]; rfl
    have XB : Hid (0 ≤ wrap64 (x * 131 + y * 1117 + (k : Int) * 29 + wrap64 (wrap64 ((k : Int) / (m : Int)) * 53)) ∧ wrap64 (x * 131 + y * 1117 + (k : Int) * 29 + wrap64 (wrap64 ((k : Int) / (m : Int)) * 53)) < 1099511627776) := by
      have e5 : (k : Int) / (m : Int) = ((k / m : Nat) : Int) := rfl
      rw [e5]
      generalize k / m = r3 at q3 ⊢
      rw [IntWalk.wrap64_in (r3 : Int) ⟨by omega, by omega⟩, IntWalk.wrap64_in ((r3 : Int) * 53) ⟨by omega, by omega⟩, IntWalk.wrap64_in _ ⟨by omega, by omega⟩]
      exact ⟨by omega, by omega⟩
    clear q3
    generalize k % m = r1 at *
    generalize (k * 7 + 3) % m = r2 at *
    have w1 : IntKind.i64.wrap (x * 131) = x * 131 := IntWalk.i64_in _ (by omega)
    have w2 : IntKind.i64.wrap ((k : Int) * 7) = (k : Int) * 7 := IntWalk.i64_in _ (by omega)
    have w3 : IntKind.i64.wrap ((k : Int) * 7 + 3) = (k : Int) * 7 + 3 := IntWalk.i64_in _ (by omega)
    have w4 : IntKind.i64.wrap (y * 1117) = y * 1117 := IntWalk.i64_in _ (by omega)
    have w5 : IntKind.i64.wrap (x * 131 + y * 1117) = x * 131 + y * 1117 := IntWalk.i64_in _ (by omega)
    have w6 : IntKind.i64.wrap ((k : Int) * 29) = (k : Int) * 29 := IntWalk.i64_in _ (by omega)
    have w7 : IntKind.i64.wrap (x * 131 + y * 1117 + (k : Int) * 29) = x * 131 + y * 1117 + (k : Int) * 29 := IntWalk.i64_in _ (by omega)
    go_enter Tryd.func67, Tryd.ntmps67
    go_wp2_with fail
    go_quiet (fail)
    clear w1 w2 w3 w4 w5 w6 w7 e1 e3
    generalize wrap64 (x * 131 + y * 1117 + (k : Int) * 29 + wrap64 (wrap64 ((k : Int) / (m : Int)) * 53)) = X at *
    have X0 := XB.out
    have XC := xor_bd X (X / 64) X0.1 X0.2 (by omega) (by omega)
    go_wp2
    go_ret
    exact ⟨⟨_, ret_int rfl, Int.emod_nonneg _ (by omega), fun h => Int.emod_lt_of_pos _ h⟩, (HO.out).drewN' _, HR.out⟩

end Go.Proofs.YtdbddockmdkmeaaDoor

/- The draws' reader: opened; an element of a list drawn. -/
namespace Go.Proofs.YtdbddockmdkmeaaDoor
open Go.RowKit

/-- A reader of draws at block b, at most P steps on. -/
structure Rd (w : World) (b : Nat) (P : Nat) : Prop where
  ex : ∃ (A : Option Addr) (m c : Nat) (p : Nat), Row w b 124 #[.slice A m c, .int .i64 (p : Int)] ∧ Bytes w b A m ∧ m ≤ 2000 ∧ p ≤ P ∧ (0 < m → ∀ g o, A = some ⟨g, o, none⟩ → g < b)

theorem Rd.lt {w : World} {b P : Nat} (h : Rd w b P) : b < w.heap.size := by
  obtain ⟨A, m, c, p, h1, _⟩ := h.ex
  exact h1.lt
theorem Rd.weak {w : World} {b P Q : Nat} (h : Rd w b P) (hq : P ≤ Q) : Rd w b Q := by
  obtain ⟨A, m, c, p, h1, h2, h3, h4, h5⟩ := h.ex
  exact ⟨A, m, c, p, h1, h2, h3, Nat.le_trans h4 hq, h5⟩
theorem Bytes.below {w w' : World} {b m B : Nat} {A : Option Addr} (h : Bytes w b A m) (hb : Below B w w') (hB : ∀ g o, A = some ⟨g, o, none⟩ → g < B) : Bytes w' b A m := fun h0 => by
  obtain ⟨g, o, rfl, hg, hl, hx⟩ := h h0
  have hgB := hB g o rfl
  refine ⟨g, o, rfl, hg, Nat.lt_of_lt_of_le hl hb.size, fun i hi => ?_⟩
  obtain ⟨x, hc, hb'⟩ := hx i hi
  refine ⟨x, ?_, hb'⟩
  rw [← hc]
  simp [World.cell?, hb.block g hgB]
theorem Rd.below {w w' : World} {b P : Nat} (h : Rd w b P) (hb : Below w.heap.size w w') : Rd w' b P := by
  obtain ⟨A, m, c, p, h1, h2, h3, h4, h5⟩ := h.ex
  refine ⟨A, m, c, p, h1.below hb h1.lt, ?_, h3, h4, h5⟩
  intro h0
  obtain ⟨g, o, rfl, hg, hl, hx⟩ := h2 h0
  exact h2.below hb (fun g' o' e => by cases e; exact hl) h0
/-- The reader and its bytes lie below all that was made behind it. -/
theorem Rd.belowB {w w' : World} {b P B : Nat} (h : Rd w b P) (hb : Below B w w') (hB : b < B) : Rd w' b P := by
  obtain ⟨A, m, c, p, h1, h2, h3, h4, h5⟩ := h.ex
  refine ⟨A, m, c, p, h1.below hb hB, ?_, h3, h4, h5⟩
  intro h0
  exact h2.below hb (fun g' o' e => Nat.lt_trans (h5 h0 g' o' e) hB) h0

set_option maxRecDepth 100000 in
set_option maxHeartbeats 1000000 in
theorem draw_any (b P : Nat) (n : Int) (w : World) (hr : Rd w b P) (hP : P ≤ 1000000) (hn : 0 ≤ n) (hn' : n ≤ 1000000) :
    Calls Tryd.prog 67 #[.pointer (some ⟨b, 0, none⟩), .int .i64 n] w fun e w' => ∃ v : Int, e = .returned (.int .i64 v) ∧ (0 ≤ v ∧ (0 < n → v < n)) ∧ Only w w' (· = b) ∧ Rd w' b (P + 1) := by
  obtain ⟨A, m, c, p, h1, h2, h3, h4, h5⟩ := hr.ex
  refine (pick_any b A m c p n w h1 h2 h3 (by omega) (by omega) hn hn').mono ?_
  rintro e w1 ⟨⟨v, rfl, hv0, hv1⟩, ho, hr1⟩
  exact ⟨v, rfl, ⟨hv0, hv1⟩, ho, ⟨A, m, c, p + 1, hr1, h2.only ho, h3, by omega, h5⟩⟩

/-- A row of numbers, each of which is as asked. -/
def Nums (w : World) (b g o : Nat) (n : Nat) (Q : Int → Prop) : Prop := g ≠ b ∧ g < w.heap.size ∧ ∀ i, i < n → ∃ v : Int, w.cell? ⟨g, o + i, none⟩ = some (.int .i64 v) ∧ Q v
def Texts (w : World) (b g o : Nat) (n : Nat) (Q : ByteArray → Prop) : Prop := g ≠ b ∧ g < w.heap.size ∧ ∀ i, i < n → ∃ v : ByteArray, w.cell? ⟨g, o + i, none⟩ = some (.string v) ∧ Q v
theorem only_cell {w w' : World} {b g : Nat} (ho : Only w w' (· = b)) (hg : g ≠ b) (hl : g < w.heap.size) (i : Nat) : w'.cell? ⟨g, i, none⟩ = w.cell? ⟨g, i, none⟩ := by
  have := ho.block g hl hg
  simp [World.cell?, this]

set_option maxRecDepth 100000 in
set_option maxHeartbeats 1000000 in
theorem num_any (b P g o n c : Nat) (Q : Int → Prop) (w : World) (hr : Rd w b P) (hP : P ≤ 1000000) (hn : 0 < n) (hn' : n ≤ 1000000) (hx : Nums w b g o n Q) :
    Calls Tryd.prog 89 #[.pointer (some ⟨b, 0, none⟩), .slice (some ⟨g, o, none⟩) n c] w fun e w' => ∃ v : Int, e = .returned (.int .i64 v) ∧ Q v ∧ Only w w' (· = b) ∧ Rd w' b (P + 1) := by
  have HR := Lib.hid hr
  have HX : Hid (Nums w b g o n Q) := hx
  clear hr hx
  go_enter Tryd.func89, Tryd.ntmps89
  go_wp2_with fail
  refine (draw_any b P n w HR.out hP (by omega) (by omega)).mono ?_
  rintro e w1 ⟨v, rfl, ⟨hv0, hv1⟩, ho, hr1⟩
  obtain ⟨k, rfl⟩ := Int.eq_ofNat_of_zero_le hv0
  have hk : k < n := by have := hv1 (by omega); omega
  obtain ⟨x, hc, hq⟩ := HX.out.2.2 k hk
  have hc1 : w1.cell? ⟨g, o + k, none⟩ = some (.int .i64 x) := (only_cell ho HX.out.1 HX.out.2.1 _).trans hc
  have HO := Lib.hid ho
  have HR1 := Lib.hid hr1
  have HQ : Hid (Q x) := hq
  clear ho hr1 hc hq hv1
  go_wp2
  go_ret
  exact ⟨x, ret_int rfl, HQ.out, HO.out, HR1.out⟩

set_option maxRecDepth 100000 in
set_option maxHeartbeats 1000000 in
theorem of_any (b P g o n c : Nat) (Q : ByteArray → Prop) (w : World) (hr : Rd w b P) (hP : P ≤ 1000000) (hn : 0 < n) (hn' : n ≤ 1000000) (hx : Texts w b g o n Q) :
    Calls Tryd.prog 68 #[.pointer (some ⟨b, 0, none⟩), .slice (some ⟨g, o, none⟩) n c] w fun e w' => ∃ v : ByteArray, e = .returned (.string v) ∧ Q v ∧ Only w w' (· = b) ∧ Rd w' b (P + 1) := by
  have HR := Lib.hid hr
  have HX : Hid (Texts w b g o n Q) := hx
  clear hr hx
  go_enter Tryd.func68, Tryd.ntmps68
  go_wp2_with fail
  refine (draw_any b P n w HR.out hP (by omega) (by omega)).mono ?_
  rintro e w1 ⟨v, rfl, ⟨hv0, hv1⟩, ho, hr1⟩
  obtain ⟨k, rfl⟩ := Int.eq_ofNat_of_zero_le hv0
  have hk : k < n := by have := hv1 (by omega); omega
  obtain ⟨x, hc, hq⟩ := HX.out.2.2 k hk
  have hc1 : w1.cell? ⟨g, o + k, none⟩ = some (.string x) := (only_cell ho HX.out.1 HX.out.2.1 _).trans hc
  have HO := Lib.hid ho
  have HR1 := Lib.hid hr1
  have HQ : Hid (Q x) := hq
  clear ho hr1 hc hq hv1
  go_wp2
  go_ret
  exact ⟨x, rfl, HQ.out, HO.out, HR1.out⟩

theorem Bytes.less {w : World} {b m n : Nat} {A : Option Addr} (h : Bytes w b A n) (hm : m ≤ n) : Bytes w b A m := fun h0 => by
  obtain ⟨g, o, e, hg, hl, hx⟩ := h (by omega)
  exact ⟨g, o, e, hg, hl, fun i hi => hx i (by omega)⟩
theorem Rd.new {w : World} {m c : Nat} {A : Option Addr} (hm : m ≤ 2000) (h : Bytes w w.heap.size A m) : Rd (w.alloc (.cells #[.slice A m c, .int .i64 0] 124)) w.heap.size 0 := by
  refine ⟨A, m, c, 0, Row.new w _ _, ?_, hm, Nat.le_refl 0, fun h0 g o e => by
    obtain ⟨g', o', e', _, hl, _⟩ := h h0
    rw [e] at e'
    cases e'
    exact hl⟩
  intro h0
  obtain ⟨g, o, rfl, hg, hl, hx⟩ := h h0
  exact h.below (B := w.heap.size) ((Below.refl _ w).alloc (Nat.le_refl _) _) (fun g' o' e => by cases e; exact hl) h0

set_option maxRecDepth 100000 in
set_option maxHeartbeats 1000000 in
theorem l13Open_any (A : Option Addr) (n c : Nat) (w : World) (hn : n ≤ c) (hx : ∀ b, w.heap.size ≤ b → Bytes w b A n) :
    Calls Tryd.prog 65 #[.slice A n c] w fun e w' => ∃ b, e = .returned (.pointer (some ⟨b, 0, none⟩)) ∧ w.heap.size ≤ b ∧ Rd w' b 0 ∧ Below w.heap.size w w' := by
  have HX : Hid (∀ b, w.heap.size ≤ b → Bytes w b A n) := hx
  clear hx
  by_cases h : 2000 < n
  · have HY := Lib.hid (Rd.new (c := c) (Nat.le_refl 2000) ((HX.out w.heap.size (Nat.le_refl _)).less (Nat.le_of_lt h)))
    go_enter Tryd.func65, Tryd.ntmps65
    go_wp2
    go_ret
    exact ⟨w.heap.size, rfl, Nat.le_refl _, HY.out, (Below.refl _ w).alloc (Nat.le_refl _) _⟩
  · have HY := Lib.hid (Rd.new (c := c) (Nat.le_of_not_lt h) (HX.out w.heap.size (Nat.le_refl _)))
    go_enter Tryd.func65, Tryd.ntmps65
    go_wp2
    go_ret
    exact ⟨w.heap.size, rfl, Nat.le_refl _, HY.out, (Below.refl _ w).alloc (Nat.le_refl _) _⟩

end Go.Proofs.YtdbddockmdkmeaaDoor

/- Draws: a name, a known tree. -/
namespace Go.Proofs.YtdbddockmdkmeaaDoor
open Go.RowKit

theorem texts_new (w : World) (b : Nat) (t : TypeId) (vs : List ByteArray) (hb : b < w.heap.size) : Texts (w.alloc (.cells (vs.map Value.string).toArray t)) b w.heap.size 0 vs.length (· ∈ vs) := by
  refine ⟨by omega, by simp, fun i hi => ⟨vs[i], ?_, List.getElem_mem hi⟩⟩
  rw [(Row.new w t _).cell]
  simp [hi]
theorem nums_new (w : World) (b : Nat) (t : TypeId) (vs : List Int) (hb : b < w.heap.size) : Nums (w.alloc (.cells (vs.map (Value.int .i64)).toArray t)) b w.heap.size 0 vs.length (· ∈ vs) := by
  refine ⟨by omega, by simp, fun i hi => ⟨vs[i], ?_, List.getElem_mem hi⟩⟩
  rw [(Row.new w t _).cell]
  simp [hi]
theorem Rd.alloc {w : World} {b P : Nat} (h : Rd w b P) (o : Obj) : Rd (w.alloc o) b P := h.below ((Below.refl _ w).alloc (Nat.le_refl _) _)
theorem Only.fresh {w w' : World} {b : Nat} {o : Obj} (h : Only (w.alloc o) w' (· = b)) : Only w w' (· = b) :=
  ⟨h.os, h.tape, h.output, by have := h.size; simp at this; omega, fun k hk hm => (h.block k (by simp; omega) hm).trans (Below.heap_alloc w o k hk)⟩

def anyNames : List ByteArray := [⟨#[65]⟩, ⟨#[66]⟩, ⟨#[67]⟩, ⟨#[68]⟩, ⟨#[69]⟩, ⟨#[66]⟩, ⟨#[67]⟩, ⟨#[70]⟩, ⟨#[72]⟩, ⟨#[73]⟩, ⟨#[]⟩, ⟨#[65, 66]⟩]

theorem OwnTree.lower {w : World} {B B' : Nat} {v : Value} {tr : List Seg} (h : OwnTree w B v tr) (hB : B' ≤ B) : OwnTree w B' v tr := by
  unfold OwnTree at h ⊢
  exact h.mono hB

/-- A tree of a call's own, of few segments and short names. -/
structure Drawn (w : World) (B : Nat) (v : Value) (l : List Seg) : Prop where
  own : OwnTree w B v l
  few : l.length ≤ 8
  some : 1 ≤ l.length
  short : ∀ s ∈ l, s.name.size ≤ 8

theorem parsed_short (t : List UInt8) : ∀ s ∈ (parsed t).getD [], s.name.size ≤ 8 := by
  intro s hs
  cases hp : parsed t with
  | none => rw [hp] at hs; cases hs
  | some tr =>
    rw [hp] at hs
    obtain ⟨j, hj, rfl⟩ := List.getElem_of_mem hs
    have h1 := (valid_all (parsed_some hp).2).1 j hj
    unfold segOk at h1
    have hg : tr[j]? = some tr[j] := List.getElem?_eq_getElem hj
    simp only [Option.getD_some] at hj h1 ⊢
    rw [hg] at h1
    simp only [Bool.and_eq_true] at h1
    obtain ⟨c, hc, _⟩ := nameOk_one h1.1.1.1
    rw [hc]
    exact (by decide : (1 : Nat) ≤ 8)

def knownTexts : List ByteArray := [⟨#[65, 52, 40, 66, 51, 44, 67, 53, 40, 68, 49, 44, 69, 50, 41, 41]⟩, ⟨#[65, 49]⟩, ⟨#[65, 57, 40, 66, 49, 44, 67, 49, 44, 68, 49, 44, 69, 49, 41]⟩, ⟨#[65, 50, 40, 66, 50, 40, 67, 50, 40, 68, 50, 41, 41, 41]⟩, ⟨#[65, 53, 40, 66, 57, 40, 67, 49, 44, 68, 55, 41, 44, 69, 51, 40, 70, 56, 44, 71, 50, 41, 41]⟩, ⟨#[65, 49, 40, 66, 49, 40, 67, 49, 40, 68, 49, 40, 69, 49, 40, 70, 49, 40, 71, 49, 40, 72, 49, 41, 41, 41, 41, 41, 41, 41]⟩, ⟨#[67, 55, 40, 65, 50, 44, 66, 50, 41]⟩, ⟨#[65, 51, 40, 66, 50, 48, 44, 67, 52, 40, 68, 52, 44, 69, 52, 40, 70, 52, 41, 41, 44, 71, 49, 41]⟩]

theorem known_all : (knownTexts.all fun x => Nat.ble 1 ((parsed x.data.toList).getD []).length) = true := by kernel_rfl
theorem known_some (x : ByteArray) (h : x ∈ knownTexts) : 1 ≤ ((parsed x.data.toList).getD []).length := Nat.le_of_ble_eq_true (List.all_eq_true.1 known_all x h)
set_option maxRecDepth 100000 in
set_option maxHeartbeats 1000000 in
theorem l1Known_any (k : Nat) (w : World) (hk : k ≤ 1000) :
    Calls Tryd.prog 103 #[.int .i64 k] w fun e w' => ∃ v l, e = .returned v ∧ Drawn w' w.heap.size v l ∧ Below w.heap.size w w' := by
  have hrow := Row.new w 9 (knownTexts.map Value.string).toArray
  obtain ⟨x, hx, hm⟩ : ∃ x : ByteArray, (w.alloc (.cells (knownTexts.map Value.string).toArray 9)).cell? ⟨w.heap.size, k % 8, none⟩ = some (.string x) ∧ x ∈ knownTexts := by
    have hk8 : k % 8 < knownTexts.length := Nat.mod_lt _ (by decide)
    refine ⟨knownTexts[k % 8], ?_, List.getElem_mem _⟩
    rw [hrow.cell]
    simp [hk8]
  have hs : x.size ≤ 1048576 := (by decide : ∀ y ∈ knownTexts, y.size ≤ 1048576) x hm
  have HS := Lib.hid (fun W => specParse_any x W hs)
  have HF : Hid (((parsed x.data.toList).getD []).length ≤ 8) := by
    show ((parsed x.data.toList).getD []).length ≤ 8
    cases hp : parsed x.data.toList with
    | none => exact Nat.zero_le _
    | some tr => exact (valid_all (parsed_some hp).2).2.1
  have HT := Lib.hid (parsed_short x.data.toList)
  have HM := Lib.hid (known_some x hm)
  clear hrow hm hs
  simp only [knownTexts, List.map_cons, List.map_nil] at hx
  go_enter Tryd.func103, Tryd.ntmps103
  go_wp2_with fail
  refine (HS.out _).mono ?_
  rintro e w1 ⟨v, rfl, ho, hb⟩
  have HO := Lib.hid ho
  have HB := Lib.hid hb
  clear ho hb
  go_wp2
  go_ret
  exact ⟨v, _, rfl, ⟨HO.out.lower (by simp), HF.out, HM.out, HT.out⟩, ((Below.refl _ w).alloc (Nat.le_refl _) _).trans (HB.out.mono (by simp))⟩

end Go.Proofs.YtdbddockmdkmeaaDoor

/- Draws: a tree that is mostly valid, out of a good one; with a name beside it. -/
namespace Go.Proofs.YtdbddockmdkmeaaDoor
open Go.RowKit

/-- What l1Good leaves. -/
def GoodPost (b P : Nat) (w : World) (e : Ending) (w' : World) : Prop :=
  ∃ v l, e = .returned v ∧ Drawn w' w.heap.size v l ∧ Only w w' (· = b) ∧ Rd w' b (P + 40)
/-- What l1Some leaves: a slice of few segments. -/
def SomePost (b P : Nat) (w : World) (e : Ending) (w' : World) : Prop :=
  ∃ A l c, e = .returned (.slice A (List.length l) c) ∧ (Segs w' w'.heap.size A l ∧ ∀ g o, A = some ⟨g, o, none⟩ → b < g) ∧ (l.length ≤ 9 ∧ l.length ≤ c ∧ c ≤ 9223372036854775807) ∧ (∀ s ∈ l, s.name.size ≤ 8) ∧ Only w w' (· = b) ∧ Rd w' b (P + 50)

theorem OwnTree.slice {w : World} {B : Nat} {v : Value} {l : List Seg} (h : OwnTree w B v l) (h1 : 1 ≤ l.length) : ∃ g c, v = .slice (some ⟨g, 0, none⟩) l.length c ∧ B ≤ g ∧ l.length ≤ c ∧ c ≤ 9223372036854775807 := by
  rcases h.2 with ⟨_, h0⟩ | ⟨g, c, cur, hv, hb, _, hn, hc, _⟩
  · omega
  · exact ⟨g, c, hv, hb, hn, by unfold maxLen at hc; omega⟩
theorem Drawn.far {w w' : World} {B b : Nat} {v : Value} {l : List Seg} (h : Drawn w B v l) (ho : Only w w' (· = b)) (hb : b < B) : Drawn w' B v l := by
  refine ⟨h.own.far fun g hg => ?_, h.few, h.some, h.short⟩
  have := World.ownsRow.lt h.own g hg
  exact ho.block g this.2 (by intro e; omega)

theorem segCells_one (l : List Seg) : ∀ u ∈ segCells l, u.oneCell' = true := by
  induction l with
  | nil => intro u hu; cases hu
  | cons x l ih =>
    intro u hu
    have h : u ∈ [Value.string x.name, .int .i64 x.size, .int .i64 x.par] ++ segCells l := hu
    rcases List.mem_append.1 h with h | h
    · simp at h
      rcases h with rfl | rfl | rfl <;> rfl
    · exact ih u h
theorem OwnTree.news {w : World} {B g c : Nat} {l : List Seg} (h : OwnTree w B (.slice (some ⟨g, 0, none⟩) l.length c) l) : ∀ j u, (segCells l)[j]? = some u → w.cell? ((⟨g, 0, none⟩ : Addr).add j) = some u := fun j u hj => by
  have hlt := (List.getElem?_eq_some_iff.1 hj).1
  rw [segCells_len] at hlt
  have := World.ownsRow.cellAt h j hlt
  rw [← hj, ← this]
  simp only [Addr.add]
  split <;> simp_all
theorem OwnTree.farO {w w' : World} {B b : Nat} {v : Value} {l : List Seg} (h : OwnTree w B v l) (ho : Only w w' (· = b)) (hb : b < B) : OwnTree w' B v l := by
  refine h.far fun g hg => ?_
  have := World.ownsRow.lt h g hg
  exact ho.block g this.2 (by intro e; omega)

theorem Segs.farO {w w' : World} {A : Option Addr} {l : List Seg} {b : Nat} (h : Segs w w.heap.size A l) (ho : Only w w' (· = b)) (hb : ∀ g o, A = some ⟨g, o, none⟩ → b < g) : Segs w' w'.heap.size A l := fun hl => by
  obtain ⟨g, o, rfl, hB, hc⟩ := h hl
  have hgb := hb g o rfl
  refine ⟨g, o, rfl, Nat.lt_of_lt_of_le hB ho.size, fun k s hk => ?_⟩
  obtain ⟨c0, c1, c2⟩ := hc k s hk
  have hcell : ∀ i, w'.cell? ⟨g, i, none⟩ = w.cell? ⟨g, i, none⟩ := fun i => only_cell ho (by omega) hB i
  exact ⟨(hcell _).trans c0, (hcell _).trans c1, (hcell _).trans c2⟩

set_option maxRecDepth 100000 in
set_option maxHeartbeats 1000000 in
theorem l1Some_plain (b P : Nat) (w : World) (hr : Rd w b P) (hP : P ≤ 1000) (hgood : ∀ w, Rd w b P → Calls Tryd.prog 66 #[.pointer (some ⟨b, 0, none⟩)] w (GoodPost b P w)) :
    Calls Tryd.prog 70 #[.pointer (some ⟨b, 0, none⟩)] w (SomePost b P w) := by
  have HR := Lib.hid hr
  have HG := Lib.hid (hgood w hr)
  have HBW := Lib.hid hr.lt
  clear hr hgood
  go_enter Tryd.func70, Tryd.ntmps70
  go_wp2_with fail
  refine Calls.mono HG.out ?_
  rintro e w1 ⟨v, l, rfl, hd, ho, hr1⟩
  obtain ⟨g, c, rfl, hg, hlc, hcm⟩ := hd.own.slice hd.some
  have HD := Lib.hid hd
  have HO := Lib.hid ho
  have HR1 := Lib.hid hr1
  clear hd ho hr1 HG
  go_wp2_with fail
  refine (draw_any b (P + 40) 30 w1 HR1.out (by omega) (by omega) (by omega)).mono ?_
  rintro e w2 ⟨n, rfl, ⟨hn0, hn1⟩, ho2, hr2⟩
  have HD2 := Lib.hid (HD.out.far ho2 HBW.out)
  have HO2 := Lib.hid (HO.out.trans ho2)
  have HR2 := Lib.hid hr2
  clear ho2 hr2 hn1 HD HO HR1
  by_cases h0 : n = 0
  · subst h0
    obtain ⟨i0, hi0, hz0, hz1, hz2⟩ := info_parts info_seg
    have I0 := Lib.hid hi0
    have Z0 := Lib.hid hz0
    have Z1 := Lib.hid hz1
    have Z2 := Lib.hid hz2
    clear hi0 hz0 hz1 hz2
    have hnw := (HD2.out.own.alloc (.cells #[] 66)).news
    have HNW := Lib.hid hnw
    clear hnw
    have hfew := HD2.out.few
    go_wp2_with (at_builtin; refine wpList_append_own_at _ rfl _ _ 23 rfl w2.heap.size 66 i0 zeroSeg 3 32 Tryd.underlying23 I0.out Z0.out Z1.out Z2.out rfl (by decide) _ 0 (segCells []) rfl (OwnTree.empty w2 (Nat.le_refl _)) ⟨g, 0, none⟩ l.length c (segCells l) rfl (segCells_len l) HNW.out (segCells_one l) (by unfold maxLen; omega) (by omega) (by simp) ?_; intro v3 w3 hown3 hgrow _ _)
    have hb3 : Below w2.heap.size w2 w3 := ((Below.refl _ w2).alloc (Nat.le_refl _) _).grown hgrow (by simp) (fun k e => by cases e; exact Nat.le_refl _)
    have hT3 : OwnTree w3 w2.heap.size v3 l := by
      unfold OwnTree
      rw [Nat.zero_add] at hown3
      exact hown3
    have hb2 : b < w2.heap.size := HR2.out.lt
    have H2W := Lib.hid HO2.out.size
    have HT3 := Lib.hid hT3
    have HO3 := Lib.hid (HO2.out.andBelow hb3)
    have hr3 := HR2.out.below hb3
    have HR3 := Lib.hid (hr3.alloc (.cells #[Value.string ⟨#[65]⟩, .string ⟨#[72]⟩, .string ⟨#[73]⟩, .string ⟨#[]⟩, .string ⟨#[65, 66]⟩] 9))
    have HX3 := Lib.hid (texts_new w3 b 9 [⟨#[65]⟩, ⟨#[72]⟩, ⟨#[73]⟩, ⟨#[]⟩, ⟨#[65, 66]⟩] hr3.lt)
    have h23 := hb3.size
    clear hb3 hT3 hr3 hown3 hgrow HNW HO2 HR2
    refine (of_any b (P + 40 + 1) w3.heap.size 0 5 5 _ _ HR3.out (by omega) (by omega) (by omega) HX3.out).mono ?_
    rintro e w4 ⟨nm, rfl, hnm, ho4, hr4⟩
    have HNM : Hid (nm.size ≤ 8) := by
      have : ∀ x ∈ ([⟨#[65]⟩, ⟨#[72]⟩, ⟨#[73]⟩, ⟨#[]⟩, ⟨#[65, 66]⟩] : List ByteArray), x.size ≤ 8 := by decide
      exact this nm hnm
    have HO4 := Lib.hid (HO3.out.trans ho4.fresh)
    have HT4 := Lib.hid (HT3.out.farO ho4.fresh hb2)
    have HR4 := Lib.hid (hr4.alloc (.cells #[.int .i64 1, .int .i64 0, .int .i64 100, .int .i64 (-1)] 3))
    have HX4 := Lib.hid (nums_new w4 b 3 [1, 0, 100, -1] hr4.lt)
    have h24 : w2.heap.size ≤ w4.heap.size := Nat.le_trans h23 ho4.fresh.size
    clear hnm ho4 hr4 HX3 HR3 HO3 HT3
    go_wp2_with fail
    refine (num_any b (P + 40 + 1 + 1) w4.heap.size 0 4 4 _ _ HR4.out (by omega) (by omega) (by omega) HX4.out).mono ?_
    rintro e w5 ⟨sz, rfl, _, ho5, hr5⟩
    have HO5 := Lib.hid (HO4.out.trans ho5.fresh)
    have HT5 := Lib.hid (HT4.out.farO ho5.fresh hb2)
    have HR5 := Lib.hid (hr5.alloc (.cells #[.int .i64 0, .int .i64 (-1), .int .i64 (l.length : Int), .int .i64 ((l.length : Int) - 1)] 3))
    have HX5 := Lib.hid (nums_new w5 b 3 [0, -1, (l.length : Int), (l.length : Int) - 1] hr5.lt)
    have h25 : w2.heap.size ≤ w5.heap.size := Nat.le_trans h24 ho5.fresh.size
    clear ho5 hr5 HX4 HR4 HO4 HT4
    go_wp2_with fail
    refine (num_any b (P + 40 + 1 + 1 + 1) w5.heap.size 0 4 4 _ _ HR5.out (by omega) (by omega) (by omega) HX5.out).mono ?_
    rintro e w6 ⟨pr, rfl, _, ho6, hr6⟩
    have HO6 := Lib.hid (HO5.out.trans ho6.fresh)
    have HT6 := Lib.hid (HT5.out.farO ho6.fresh hb2)
    have HR6 := Lib.hid hr6
    have h26 : w2.heap.size ≤ w6.heap.size := Nat.le_trans h25 ho6.fresh.size
    clear ho6 hr6 HX5 HR5 HO5 HT5
    have hnw6 := Row.new w6 66 #[.string nm, .int .i64 sz, .int .i64 pr]
    have HNW6 : Hid (∀ j u, ([.string nm, .int .i64 sz, .int .i64 pr] : List Value)[j]? = some u → (w6.alloc (.cells #[.string nm, .int .i64 sz, .int .i64 pr] 66)).cell? ((⟨w6.heap.size, 0, none⟩ : Addr).add j) = some u) := by
      show ∀ j u, _
      intro j u hj
      have : (⟨w6.heap.size, 0, none⟩ : Addr).add j = ⟨w6.heap.size, j, none⟩ := by simp only [Addr.add]; split <;> simp_all
      rw [this, hnw6.cell]
      simpa using hj
    clear hnw6
    have HT7 := Lib.hid (HT6.out.alloc (.cells #[.string nm, .int .i64 sz, .int .i64 pr] 66))
    go_wp2_with (at_builtin; refine wpList_append_own_at _ rfl _ _ 23 rfl w2.heap.size 66 i0 zeroSeg 3 32 Tryd.underlying23 I0.out Z0.out Z1.out Z2.out rfl (by decide) _ l.length (segCells l) rfl HT7.out ⟨w6.heap.size, 0, none⟩ 1 1 [.string nm, .int .i64 sz, .int .i64 pr] rfl rfl HNW6.out (by simp [Value.oneCell']) (by unfold maxLen; omega) (by omega) (by simp; omega) ?_; intro v8 w8 hown8 hgrow8 _ _)
    go_ret
    have hb8 : Below w2.heap.size w6 w8 := ((Below.refl _ w6).alloc h26 _).grown hgrow8 (by simp; omega) (fun k e => (World.ownsRow.lt HT6.out k e).1)
    have hT8 : OwnTree w8 w2.heap.size v8 (l ++ [⟨nm, sz, pr⟩]) := by
      unfold OwnTree
      rw [segCells_snoc, List.length_append]
      exact hown8
    have hO8 : Only w w8 (· = b) := ⟨hb8.os.trans HO6.out.os, hb8.tape.trans HO6.out.tape, hb8.output.trans HO6.out.output, Nat.le_trans HO6.out.size hb8.size, fun k hk hm => by
      have h1 := HO6.out.block k hk hm
      refine Eq.trans ?_ h1
      have : k < w2.heap.size := Nat.lt_of_lt_of_le hk H2W.out
      exact hb8.block k this⟩
    have hR8 : Rd w8 b (P + 50) := (HR6.out.belowB hb8 hb2).weak (by omega)
    obtain ⟨g8, c8, rfl, hg8, hc8, hm8⟩ := hT8.slice (by simp)
    obtain ⟨A8, c8', e8, hs8⟩ := hT8.form
    refine ⟨some ⟨g8, 0, none⟩, l ++ [⟨nm, sz, pr⟩], c8, rfl, ⟨by cases e8; exact hs8, fun g' o' e => by cases e; exact Nat.lt_of_lt_of_le hb2 hg8⟩, ⟨by simp; omega, hc8, hm8⟩, fun s hs => ?_, hO8, hR8⟩
    rcases List.mem_append.1 hs with hs | hs
    · exact HD2.out.short s hs
    · rw [List.mem_singleton.1 hs]; exact HNM.out
  · by_cases h1 : n = 1
    · subst h1
      go_wp2
      go_ret
      exact ⟨some ⟨g, 0, none⟩, [], c, rfl, ⟨fun h => absurd h (Nat.lt_irrefl 0), fun g' o' e => by cases e; exact Nat.lt_of_lt_of_le HBW.out hg⟩, ⟨Nat.zero_le _, Nat.zero_le _, hcm⟩, (fun s hs => by cases hs), HO2.out, HR2.out.weak (by omega)⟩
    · go_wp2
      go_ret
      obtain ⟨A', c', e', hs⟩ := HD2.out.own.form
      exact ⟨some ⟨g, 0, none⟩, l, c, rfl, ⟨by cases e'; exact hs, fun g' o' e => by cases e; exact Nat.lt_of_lt_of_le HBW.out hg⟩, ⟨by have := HD2.out.few; omega, hlc, hcm⟩, HD2.out.short, HO2.out, HR2.out.weak (by omega)⟩

/-- What l1Place leaves: such a slice, and a short text. -/
def PlacePost (b P : Nat) (w : World) (e : Ending) (w' : World) : Prop :=
  ∃ A l c x, e = .returned (.tuple #[.slice A (List.length l) c, .string x]) ∧ (Segs w' w'.heap.size A l ∧ ∀ g o, A = some ⟨g, o, none⟩ → b < g) ∧ (l.length ≤ 9 ∧ l.length ≤ c ∧ c ≤ 9223372036854775807) ∧ (∀ s ∈ l, s.name.size ≤ 8) ∧ x.size ≤ 2 ∧ Only w w' (· = b) ∧ Rd w' b (P + 51)

end Go.Proofs.YtdbddockmdkmeaaDoor

/- Draws: a tree and a name; the draws of PathOf and CommonOf. All over l1Good's contract. -/
namespace Go.Proofs.YtdbddockmdkmeaaDoor
open Go.RowKit

/-- l1Good's contract, at every reader of a few steps. -/
def GoodSaid : Prop := ∀ b P w, P ≤ 1000 → Rd w b P → Calls Tryd.prog 66 #[.pointer (some ⟨b, 0, none⟩)] w (GoodPost b P w)

theorem only_below {w w1 w2 : World} {b : Nat} (hb : Below w.heap.size w w1) (h : w.heap.size ≤ b) (ho : Only w1 w2 (· = b)) : Below w.heap.size w w2 :=
  Only.below hb ho hb.size (fun k hk e => by omega)

/-- What is drawn of a tree: few segments, short names. -/
def TreeHas (w : World) (A : Option Addr) (l : List Seg) (c : Nat) : Prop := Segs w w.heap.size A l ∧ (l.length ≤ 9 ∧ l.length ≤ c ∧ c ≤ 9223372036854775807) ∧ (∀ s ∈ l, s.name.size ≤ 8)

end Go.Proofs.YtdbddockmdkmeaaDoor

/- Draws: one more segment of a good tree, seen from the memory's side. -/
namespace Go.Proofs.YtdbddockmdkmeaaDoor
open Go.RowKit

theorem good_own {w3 w4 Wc : World} {B b g c : Nat} {l : List Seg} (hT : OwnTree w3 B (.slice (some ⟨g, 0, none⟩) l.length c) l) (hb : Below w3.heap.size w3 w4) (ho : Only w4 Wc (· = b)) (hbB : b < B) (o : Obj) :
    (Wc.alloc o).ownsRow B 66 3 (.slice (some ⟨g, 0, none⟩) l.length c) l.length (segCells l) := by
  have h1 : OwnTree w4 B (.slice (some ⟨g, 0, none⟩) l.length c) l := hT.far (fun q hq => hb.block q (World.ownsRow.lt hT q hq).2)
  have h2 : OwnTree Wc B (.slice (some ⟨g, 0, none⟩) l.length c) l := h1.farO ho hbB
  unfold OwnTree at h2
  exact h2.alloc o

theorem good_fin {w w3 w4 Wc W7 : World} {B b P k g c : Nat} {l : List Seg} {v7 : Value} {ch : UInt8} {sz x : Int} {o : Obj} (hO3 : Only w w3 (· = b)) (hb4 : Below w3.heap.size w3 w4) (hT : OwnTree w3 B (.slice (some ⟨g, 0, none⟩) l.length c) l)
    (hB : w.heap.size ≤ B) (hbB : b < B) (hl : l.length = k) (hD : Down l k) (hS : ∀ s ∈ l, s.name.size ≤ 8) (ho : Only w4 Wc (· = b)) (hr : Rd Wc b (P + 4 * k + 4)) (hx : 0 ≤ x ∧ x ≤ (k : Int) - 1)
    (hown : W7.ownsRow B 66 3 v7 (l.length + 1) (segCells l ++ [.string ⟨#[ch]⟩, .int .i64 sz, .int .i64 x])) (hg : (Wc.alloc o).grownBy W7 (Value.slice (some ⟨g, 0, none⟩) l.length c).ownBlock) :
    Only w W7 (· = b) ∧ Rd W7 b (P + 4 * (k + 1)) ∧ OwnTree W7 B v7 (l ++ [⟨⟨#[ch]⟩, sz, x⟩]) ∧ Down (l ++ [⟨⟨#[ch]⟩, sz, x⟩]) (k + 1) ∧ (∀ s ∈ l ++ [(⟨⟨#[ch]⟩, sz, x⟩ : Seg)], s.name.size ≤ 8) := by
  have hgl := World.ownsRow.lt hT g rfl
  have hs4 := hb4.size
  have hsc := ho.size
  have h2 : Only w (Wc.alloc o) (· = b) := ((hO3.andBelow hb4).trans ho).andBelow ((Below.refl _ Wc).alloc (Nat.le_refl _) _)
  have hbel : Below B (Wc.alloc o) W7 := (Below.refl B (Wc.alloc o)).grown hg (by rw [World.size_alloc]; omega) (fun q e => by
    have : g = q := by simpa [Value.ownBlock] using e
    omega)
  refine ⟨⟨hbel.os.trans h2.os, hbel.tape.trans h2.tape, hbel.output.trans h2.output, Nat.le_trans h2.size hg.size, fun q hq hn => (hbel.block q (by omega)).trans (h2.block q hq hn)⟩, ((hr.alloc o).belowB hbel hbB).weak (by omega), ?_, ?_, ?_⟩
  · unfold OwnTree
    rw [segCells_snoc, List.length_append]
    exact hown
  · intro j hj
    rcases Nat.lt_or_ge j k with h | h
    · rw [parAt_pre (List.prefix_append l _) (by omega)]
      exact hD j h
    · obtain rfl : j = l.length := by omega
      have : parAt (l ++ [⟨⟨#[ch]⟩, sz, x⟩]) l.length = x := by simp [parAt]
      rw [this]
      omega
  · intro s hs
    rcases List.mem_append.1 hs with h | h
    · exact hS s h
    · rw [List.mem_singleton.1 h]
      exact (by decide : (1 : Nat) ≤ 8)

end Go.Proofs.YtdbddockmdkmeaaDoor

/- The argument of a law, opened: a slice of bytes. -/
namespace Go.Proofs.YtdbddockmdkmeaaDoor
open Go.ChangeShapes Go.WideShapes Go.ChangeAt Go.RowKit

theorem cells_u8 : Tryd.prog.cellsOf 5 = 1 := by kernel_rfl

theorem open_bytes {H : Type} {enc : TypeId × Value → H} {w : World} {base : Nat} {spare : Nat → Bool} {held : Bool} {fuel : Nat} {a0 : Option Addr} {n c : Nat} {x : DataW H × List MemPlace}
    (h : DataW.trod enc Tryd.prog w base spare held fuel 22 [.slice a0 n c] = some x) : n ≤ c ∧ n ≤ maxLen ∧ ∀ b, w.heap.size ≤ b → Bytes w b a0 n := by
  rcases Deep.open_slice Tryd.underlying22 h with ⟨hcs, _⟩ | ⟨a, len, cap, m, n', D, Pl, hcs, hb, hl, hm, hmm, hx, hi⟩
  · simp at hcs
    obtain ⟨rfl, rfl, rfl⟩ := hcs
    exact ⟨Nat.le_refl _, Nat.zero_le _, fun b _ h0 => absurd h0 (by simp)⟩
  · simp at hcs
    obtain ⟨rfl, rfl, rfl⟩ := hcs
    have hlm : n ≤ m := by rw [hmm]; split <;> omega
    have hs : ∀ i, i < n → ∃ p : Int, w.cell? (a.add i) = some (.int .u8 p) ∧ 0 ≤ p ∧ p ≤ 255 := by
      intro i hin
      obtain ⟨cs', hc, ht'⟩ := hi i (by omega)
      rw [cells_u8] at hc
      obtain ⟨p, hp, _, hw⟩ := DataW.trod_int Tryd.underlying5 ht'
      subst hp
      obtain ⟨_, hcl, hat⟩ := World.cells?_some hc
      have e0 := hat 0 (by omega)
      rw [Nat.mul_one, Deep.add_add, Nat.add_zero] at e0
      have hw' : 0 ≤ p ∧ p ≤ 255 := by
        simp [Lit.wf] at hw
        exact hw
      exact ⟨p, e0, hw'⟩
    refine ⟨hl, by omega, fun b hbb h0 => ?_⟩
    obtain ⟨g, o, spot⟩ := a
    have hc0 := (hs 0 h0).choose_spec.1
    have hspot : spot = none := by simpa [Addr.add] using World.cell?_spot hc0
    subst hspot
    have hlt := World.block_lt_of_cell? w _ hc0
    rw [WideShapes.add_plain] at hlt
    have hlt' : g < w.heap.size := hlt
    refine ⟨g, o, rfl, by omega, hlt', fun i hin => ?_⟩
    obtain ⟨p, hp, h2⟩ := hs i hin
    rw [WideShapes.add_plain] at hp
    exact ⟨p, hp, h2⟩

end Go.Proofs.YtdbddockmdkmeaaDoor
