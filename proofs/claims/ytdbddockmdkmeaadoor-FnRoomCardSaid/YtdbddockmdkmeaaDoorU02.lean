/- Joined: Sz Pl Pa Rg Tv. -/
import Derived.Test.YtdbddockmdkmeaaDoorRows
import Derived.WalkKit
import Derived.WalkSpells
import Derived.WalkLawsBesides
import Derived.Lib.Hide
import Derived.KernelRfl
import Derived.StillTailTactics
import Derived.WideShapes
import Derived.Maps.AppendAt
import Derived.Deep.RegionHeld3
import Derived.Deep.RegionWith
import Derived.BigQuiet
import Derived.WalkSmall
import Derived.Deep.QuietTactic
/- Contracts of the laws' helpers: how large an argument is. -/
namespace Go.Proofs.YtdbddockmdkmeaaDoor
open Go.RowKit

theorem ret_int {k : IntKind} {a b : Int} (h : a = b) : Ending.returned (.int k a) = .returned (.int k b) := by rw [h]
theorem ret_bool {a b : Bool} (h : a = b) : Ending.returned (.bool a) = .returned (.bool b) := by rw [h]

/-- A segment as plain data. -/
structure Seg where
  name : ByteArray
  size : Int
  par : Int

/-- 'w' holds the segments 'l' from the address 'A' on, below block 'B'. -/
def Segs (w : World) (B : Nat) (A : Option Addr) (l : List Seg) : Prop :=
  0 < l.length → ∃ b o, A = some ⟨b, o, none⟩ ∧ b < B ∧ ∀ (k : Nat) (s : Seg), l[k]? = some s →
    w.cell? ⟨b, o + k * 3, none⟩ = some (.string s.name) ∧ w.cell? ⟨b, o + k * 3 + 1, none⟩ = some (.int .i64 s.size) ∧ w.cell? ⟨b, o + k * 3 + 2, none⟩ = some (.int .i64 s.par)

theorem Segs.below {w w' : World} {B : Nat} {A : Option Addr} {l : List Seg} (h : Segs w B A l) (hb : Below B w w') : Segs w' B A l := fun hl => by
  obtain ⟨b, o, e, hB, hc⟩ := h hl
  refine ⟨b, o, e, hB, fun k s hk => ?_⟩
  rw [hb.cell hB, hb.cell hB, hb.cell hB]
  exact hc k s hk
theorem Segs.more {w : World} {B B' : Nat} {A : Option Addr} {l : List Seg} (h : Segs w B A l) (hB : B ≤ B') : Segs w B' A l := fun hl => by
  obtain ⟨b, o, e, hb, hc⟩ := h hl
  exact ⟨b, o, e, Nat.lt_of_lt_of_le hb hB, hc⟩

/-- Names no longer than Go allows. -/
def Short (l : List Seg) : Prop := ∀ s ∈ l, s.name.size ≤ maxLen

end Go.Proofs.YtdbddockmdkmeaaDoor

/- Contracts of the laws' helpers: the argument turned into the program's own segments. -/
namespace Go.Proofs.YtdbddockmdkmeaaDoor
open Go.RowKit

/-- Block 'g' holds just the cells 'cs' of type 't', none frozen. -/
def Row (w : World) (g : Nat) (t : TypeId) (cs : Array Value) : Prop := w.heap[g]? = some (.cells cs t (0, 0))

theorem Row.lt {w : World} {g : Nat} {t : TypeId} {cs : Array Value} (h : Row w g t cs) : g < w.heap.size := by
  unfold Row at h
  exact (Array.getElem?_eq_some_iff.1 h).1
theorem Row.cell {w : World} {g : Nat} {t : TypeId} {cs : Array Value} (h : Row w g t cs) (i : Nat) : w.cell? ⟨g, i, none⟩ = cs[i]? := by
  unfold Row at h; simp [World.cell?, h]
theorem Row.free {w : World} {g : Nat} {t : TypeId} {cs : Array Value} (h : Row w g t cs) (i : Nat) : w.frozen? ⟨g, i, none⟩ = false := by
  unfold Row at h; simp [World.frozen?, h]
theorem Row.new (w : World) (t : TypeId) (cs : Array Value) : Row (w.alloc (.cells cs t)) w.heap.size t cs := by
  show (w.heap.push (.cells cs t))[w.heap.size]? = _
  simp
theorem Row.below {w w' : World} {B g : Nat} {t : TypeId} {cs : Array Value} (h : Row w g t cs) (hb : Below B w w') (hg : g < B) : Row w' g t cs := (hb.block g hg).trans h
theorem Row.alloc {w : World} {g : Nat} {t : TypeId} {cs : Array Value} (h : Row w g t cs) (o : Obj) : Row (w.alloc o) g t cs := (Below.heap_alloc w o g h.lt).trans h
theorem Row.put {w : World} {g : Nat} {t : TypeId} {cs : Array Value} (h : Row w g t cs) (i : Nat) (u : Value) : Row (w.setCell ⟨g, i, none⟩ u) g t (cs.setIfInBounds i u) := by
  unfold Row at h ⊢
  simp [World.setCell, Array.getElem?_modify, h]
theorem Row.far {w : World} {g : Nat} {t : TypeId} {cs : Array Value} (h : Row w g t cs) {p : Addr} (hp : g ≠ p.block) (u : Value) : Row (w.setCell p u) g t cs := (Below.heap_setCell w p u g hp).trans h

def zeroSeg : Value := .agg #[.string ByteArray.empty, .int .i64 0, .int .i64 0]
theorem info_seg : (Tryd.prog.info? 66).map (fun i => (i.zero, i.size, i.bytes)) = some (some zeroSeg, 3, 32) := by kernel_rfl

/-- The first 'k' of the segments lie in the cells. -/
def Filled (l : List Seg) (k : Nat) (cs : Array Value) : Prop :=
  cs.size = l.length * 3 ∧ ∀ (j : Nat) (s : Seg), j < k → l[j]? = some s → cs[j * 3]? = some (.string s.name) ∧ cs[j * 3 + 1]? = some (.int .i64 s.size) ∧ cs[j * 3 + 2]? = some (.int .i64 s.par)

theorem Filled.next {l : List Seg} {k : Nat} {cs : Array Value} (h : Filled l k cs) (hk : k < l.length) :
    Filled l (k + 1) (((cs.setIfInBounds (k * 3) (.string l[k].name)).setIfInBounds (k * 3 + 1) (.int .i64 l[k].size)).setIfInBounds (k * 3 + 2) (.int .i64 l[k].par)) := by
  refine ⟨by simpa using h.1, fun j s hj hs => ?_⟩
  have hz := h.1
  rcases Nat.lt_or_ge j k with hlt | hge
  · obtain ⟨a, b, c⟩ := h.2 j s hlt hs
    refine ⟨?_, ?_, ?_⟩
    · rw [Array.getElem?_setIfInBounds_ne (by omega), Array.getElem?_setIfInBounds_ne (by omega), Array.getElem?_setIfInBounds_ne (by omega)]; exact a
    · rw [Array.getElem?_setIfInBounds_ne (by omega), Array.getElem?_setIfInBounds_ne (by omega), Array.getElem?_setIfInBounds_ne (by omega)]; exact b
    · rw [Array.getElem?_setIfInBounds_ne (by omega), Array.getElem?_setIfInBounds_ne (by omega), Array.getElem?_setIfInBounds_ne (by omega)]; exact c
  · obtain rfl : j = k := by omega
    rw [List.getElem?_eq_getElem hk] at hs
    injection hs with hs
    subst hs
    refine ⟨?_, ?_, ?_⟩
    · rw [Array.getElem?_setIfInBounds_ne (by omega), Array.getElem?_setIfInBounds_ne (by omega), Array.getElem?_setIfInBounds_self_of_lt (by omega)]
    · rw [Array.getElem?_setIfInBounds_ne (by omega), Array.getElem?_setIfInBounds_self_of_lt (by simp; omega)]
    · rw [Array.getElem?_setIfInBounds_self_of_lt (by simp; omega)]
theorem Filled.done {l : List Seg} {cs : Array Value} {w : World} {g : Nat} {t : TypeId} (h : Filled l l.length cs) (hr : Row w g t cs) : Segs w w.heap.size (some ⟨g, 0, none⟩) l := fun _ => by
  refine ⟨g, 0, rfl, hr.lt, fun k s hk => ?_⟩
  rw [hr.cell, hr.cell, hr.cell]
  simp only [Nat.zero_add]
  exact h.2 k s (List.getElem?_eq_some_iff.1 hk).1 hk

end Go.Proofs.YtdbddockmdkmeaaDoor

/- Contracts of the laws' helpers: two lists of the same segments are found the same. -/
namespace Go.Proofs.YtdbddockmdkmeaaDoor
open Go.RowKit

end Go.Proofs.YtdbddockmdkmeaaDoor
/- The plain mathematics of trees: no program. -/
namespace Go.Proofs.YtdbddockmdkmeaaDoor

def nameOk (s : ByteArray) : Bool := match s.data.toList with
  | [c] => decide (65 ≤ c.toNat) && decide (c.toNat ≤ 72)
  | _ => false
theorem nameOk_one {s : ByteArray} (h : nameOk s = true) : ∃ c : UInt8, s = ⟨#[c]⟩ ∧ 65 ≤ c.toNat ∧ c.toNat ≤ 72 := by
  obtain ⟨⟨l⟩⟩ := s
  unfold nameOk at h
  match l, h with
  | [c], h => simp at h; exact ⟨c, rfl, h.1, h.2⟩
theorem nameOk_size {s : ByteArray} (h : s.size ≠ 1) : nameOk s = false := by
  obtain ⟨⟨l⟩⟩ := s
  unfold nameOk
  match l with
  | [] => rfl
  | [c] => exact absurd rfl h
  | _ :: _ :: _ => rfl
theorem one_of_size {s : ByteArray} (h : s.size = 1) : ∃ c : UInt8, s = ⟨#[c]⟩ := by
  obtain ⟨⟨l⟩⟩ := s
  match l, h with
  | [c], _ => exact ⟨c, rfl⟩
def sizeOk (n : Int) : Bool := decide (1 ≤ n) && decide (n ≤ 99)
def inB (n lo hi : Int) : Bool := decide (lo ≤ n) && decide (n ≤ hi)
def findFrom (c : UInt8) : List UInt8 → Nat → Int
  | [], _ => -1
  | x :: l, k => if x = c then k else findFrom c l (k + 1)
def findB (s : ByteArray) (c : UInt8) : Int := findFrom c s.data.toList 0
theorem findFrom_lo (c : UInt8) : ∀ (l : List UInt8) (k : Nat), 0 ≤ findFrom c l k ↔ c ∈ l
  | [], k => by simp [findFrom]
  | x :: l, k => by
    unfold findFrom
    by_cases h : x = c
    · simp [h]
    · rw [if_neg h, findFrom_lo c l (k + 1)]
      simp [show ¬ c = x from fun e => h e.symm]
theorem findB_lo (s : ByteArray) (c : UInt8) : 0 ≤ findB s c ↔ c ∈ s.data.toList := findFrom_lo c _ 0
theorem findFrom_drop (s : ByteArray) (c : UInt8) (k : Nat) (hk : k < s.size) : findFrom c (s.data.toList.drop k) k = if s[k] = c then (k : Int) else findFrom c (s.data.toList.drop (k + 1)) (k + 1) := by
  rw [List.drop_eq_getElem_cons (by simpa using hk)]
  rfl
def sameB (a b : ByteArray) : Bool := a.toList == b.toList
theorem sameB_iff {a b : ByteArray} : sameB a b = true ↔ a = b := by
  unfold sameB
  rw [beq_iff_eq, ByteArray.toList_eq, ByteArray.toList_eq]
  exact ⟨WideShapes.bytes_inj, fun h => by rw [h]⟩
def takenB (l : List Seg) (s : ByteArray) : Bool := l.any (fun x => sameB x.name s)

/-- The parent of a segment. -/
def parAt (l : List Seg) (i : Nat) : Int := match l[i]? with
  | some s => s.par
  | none => -1
/-- From a segment up to the root. -/
def chain (l : List Seg) : Nat → Int → List Int
  | 0, _ => []
  | f + 1, i => if i < 0 then [] else i :: chain l f (parAt l i.toNat)
/-- The parents of the first 'k' stand ahead of them. -/
def Down (l : List Seg) (k : Nat) : Prop := ∀ j : Nat, j < k → -1 ≤ parAt l j ∧ parAt l j < j
theorem Down.mono {l : List Seg} {k k' : Nat} (h : Down l k) (hk : k' ≤ k) : Down l k' := fun j hj => h j (by omega)
theorem chain_mem {l : List Seg} {k : Nat} (h : Down l k) : ∀ (f : Nat) (i : Int), i < k → ∀ x ∈ chain l f i, 0 ≤ x ∧ x ≤ i
  | 0, _, _, x, hx => by simp [chain] at hx
  | f + 1, i, hi, x, hx => by
    unfold chain at hx
    by_cases h0 : i < 0
    · simp [h0] at hx
    · rw [if_neg h0] at hx
      rcases List.mem_cons.1 hx with rfl | hx
      · omega
      · have hd := h i.toNat (by omega)
        have := chain_mem h f _ (by omega) x hx
        omega
/-- More fuel than wanted gives no more. -/
theorem chain_fuel {l : List Seg} {k : Nat} (h : Down l k) : ∀ (f g : Nat) (i : Int), i < k → i < f → i < g → chain l f i = chain l g i
  | 0, 0, _, _, _, _ => rfl
  | 0, g + 1, i, _, hf, _ => by simp [chain, show i < 0 by omega]
  | f + 1, 0, i, _, _, hg => by simp [chain, show i < 0 by omega]
  | f + 1, g + 1, i, hi, hf, hg => by
    unfold chain
    by_cases h0 : i < 0
    · simp [h0]
    · have hd := h i.toNat (by omega)
      rw [if_neg h0, if_neg h0, chain_fuel h f g _ (by omega) (by omega) (by omega)]
def parOk (l : List Seg) (i : Nat) : Bool := if i = 0 then parAt l 0 == -1 else (chain l i ((i : Int) - 1)).contains (parAt l i)
def segOk (l : List Seg) (i : Nat) : Bool := match l[i]? with
  | some s => nameOk s.name && !takenB (l.take i) s.name && sizeOk s.size && parOk l i
  | none => false
def AllOk (l : List Seg) (k : Nat) : Prop := ∀ j : Nat, j < k → segOk l j = true
theorem AllOk.down {l : List Seg} : ∀ {k : Nat}, AllOk l k → Down l k
  | 0, _ => fun j hj => absurd hj (by omega)
  | k + 1, h => by
    have hd : Down l k := AllOk.down (fun j hj => h j (by omega))
    intro j hj
    rcases Nat.lt_or_ge j k with hlt | hge
    · exact hd j hlt
    · obtain rfl : j = k := by omega
      have hs := h j (by omega)
      unfold segOk at hs
      cases hl : l[j]? with
      | none => rw [hl] at hs; cases hs
      | some s =>
        rw [hl] at hs
        simp only [Bool.and_eq_true] at hs
        have hp := hs.2
        unfold parOk at hp
        by_cases h0 : j = 0
        · rw [if_pos h0] at hp
          subst h0
          have := beq_iff_eq.1 hp
          omega
        · rw [if_neg h0] at hp
          have hm := List.contains_iff_mem.1 hp
          have := chain_mem hd j _ (by omega) _ hm
          omega
def allB (l : List Seg) (k : Nat) : Bool := (List.range k).all (segOk l)
theorem allB_iff {l : List Seg} {k : Nat} : allB l k = true ↔ AllOk l k := by
  simp [allB, AllOk]
def validB (l : List Seg) : Bool := decide (1 ≤ l.length) && decide (l.length ≤ 8) && allB l l.length
theorem validB_bad {l : List Seg} {k : Nat} (hk : k < l.length) (h : segOk l k = false) : validB l = false := by
  unfold validB
  rw [Bool.and_eq_false_iff]
  right
  cases ha : allB l l.length with
  | false => rfl
  | true => rw [allB_iff.1 ha k hk] at h; cases h
theorem validB_all {l : List Seg} (h : AllOk l l.length) : validB l = (decide (1 ≤ l.length) && decide (l.length ≤ 8)) := by
  unfold validB
  rw [allB_iff.2 h, Bool.and_true]

end Go.Proofs.YtdbddockmdkmeaaDoor

/- Contracts of the small functions. -/
namespace Go.Proofs.YtdbddockmdkmeaaDoor
open Go.RowKit

set_option maxHeartbeats 400000 in
theorem l1In_any (n lo hi : Int) (w : World) :
    Calls Tryd.prog 62 #[.int .i64 n, .int .i64 lo, .int .i64 hi] w fun e w' => e = .returned (.bool (inB n lo hi)) ∧ w = w' := by
  have HF : Hid (inB n lo hi = (decide (lo ≤ n) && decide (n ≤ hi))) := rfl
  by_cases h1 : lo ≤ n <;> by_cases h2 : n ≤ hi
  all_goals
    go_enter Tryd.func62, Tryd.ntmps62
    go_wp2
    go_ret
    exact ⟨ret_bool (by rw [HF.out]; simp <;> omega), rfl⟩

set_option maxHeartbeats 400000 in
theorem sizeValid_any (n : Int) (w : World) :
    Calls Tryd.prog 58 #[.int .i64 n] w fun e w' => e = .returned (.bool (sizeOk n)) ∧ w = w' := by
  have HF : Hid (sizeOk n = (decide (1 ≤ n) && decide (n ≤ 99))) := rfl
  by_cases h1 : 1 ≤ n <;> by_cases h2 : n ≤ 99
  all_goals
    go_enter Tryd.func58, Tryd.ntmps58
    go_wp2
    go_ret
    exact ⟨ret_bool (by rw [HF.out]; simp <;> omega), rfl⟩

theorem at_one (c : UInt8) (h : 0 < (⟨#[c]⟩ : ByteArray).size) : (⟨#[c]⟩ : ByteArray)[0]'h = c := rfl

set_option maxHeartbeats 400000 in
theorem nameValid_any (s : ByteArray) (w : World) (hs : s.size ≤ maxLen) :
    Calls Tryd.prog 56 #[.string s] w fun e w' => e = .returned (.bool (nameOk s)) ∧ w = w' := by
  unfold maxLen at hs
  by_cases h : s.size = 1
  · obtain ⟨c, rfl⟩ := one_of_size h
    clear h hs
    have HF : Hid (nameOk ⟨#[c]⟩ = (decide (65 ≤ c.toNat) && decide (c.toNat ≤ 72))) := rfl
    have h1 := at_one c
    by_cases ha : 65 ≤ (c.toNat : Int) <;> by_cases hb : (c.toNat : Int) ≤ 72
    all_goals
      go_enter Tryd.func56, Tryd.ntmps56
      go_wp2
      go_ret
      exact ⟨ret_bool (by rw [HF.out]; simp <;> omega), rfl⟩
  · have HF : Hid (nameOk s = false) := nameOk_size h
    go_enter Tryd.func56, Tryd.ntmps56
    go_wp2
    go_ret
    exact ⟨ret_bool HF.out.symm, rfl⟩

set_option maxHeartbeats 400000 in
theorem l1Name_any (s : ByteArray) (w : World) (hs : s.size ≤ maxLen) :
    Calls Tryd.prog 60 #[.string s] w fun e w' => e = .returned (.bool (nameOk s)) ∧ w = w' := by
  unfold maxLen at hs
  by_cases h : s.size = 1
  · obtain ⟨c, rfl⟩ := one_of_size h
    clear h hs
    have HF : Hid (inB c.toNat 65 72 = nameOk ⟨#[c]⟩) := by
      show (decide ((65 : Int) ≤ c.toNat) && decide ((c.toNat : Int) ≤ 72)) = (decide (65 ≤ c.toNat) && decide (c.toNat ≤ 72))
      congr 1 <;> (apply decide_eq_decide.2; omega)
    have h1 := at_one c
    have hc : (c.toNat : Int) < 256 := by have := c.toNat_lt; omega
    go_enter Tryd.func60, Tryd.ntmps60
    go_wp2_with fail
    refine (l1In_any _ _ _ _).mono ?_
    rintro e w1 ⟨rfl, rfl⟩
    go_wp2
    go_ret
    exact ⟨ret_bool HF.out, rfl⟩
  · have HF : Hid (nameOk s = false) := nameOk_size h
    go_enter Tryd.func60, Tryd.ntmps60
    go_wp2
    go_ret
    exact ⟨ret_bool HF.out.symm, rfl⟩

set_option maxHeartbeats 400000 in
theorem l13Find_any (s : ByteArray) (c : UInt8) (w : World) (hs : s.size ≤ maxLen) :
    Calls Tryd.prog 61 #[.string s, .int .u8 c.toNat] w fun e w' => e = .returned (.int .i64 (findB s c)) ∧ w = w' := by
  unfold maxLen at hs
  go_enter Tryd.func61, Tryd.ntmps61
  go_wp2
  go_loop [5] (fun i => ∃ k : Nat, k ≤ s.size ∧ i = .int .i64 k ∧ Hid (findB s c = findFrom c (s.data.toList.drop k) k)) (fun i => s.size - (intOf i).toNat)
  case atStart => exact ⟨0, Nat.zero_le _, rfl, rfl⟩
  case round =>
    obtain ⟨k, hk, rfl, HN⟩ := hrel
    by_cases hlt : k < s.size
    · have HD : Hid _ := findFrom_drop s c k hlt
      by_cases he : s[k] = c
      · have ht : ((s[k].toNat : Int) == (c.toNat : Int)) = true := by rw [he]; simp
        have HE := Lib.hid he
        clear he
        go_wp2
        go_ret
        exact ⟨ret_int (by rw [HN.out, HD.out, if_pos HE.out]), rfl⟩
      · have ht : ((s[k].toNat : Int) == (c.toNat : Int)) = false := by
          rw [beq_eq_false_iff_ne]
          exact fun e => he (UInt8.toNat_inj.1 (by omega))
        have HE := Lib.hid he
        clear he
        go_wp2
        go_round
        case rel => exact ⟨k + 1, by omega, by go_num, by rw [HN.out, HD.out, if_neg HE.out]; rfl⟩
        case measure => simp [intOf]; omega
    · go_wp2
      go_ret
      exact ⟨ret_int (by rw [HN.out, List.drop_of_length_le (by simp; omega)]; rfl), rfl⟩

theorem takenB_take_succ {l : List Seg} {s : ByteArray} {k : Nat} (hk : k < l.length) : takenB (l.take (k + 1)) s = (takenB (l.take k) s || sameB l[k].name s) := by
  unfold takenB
  rw [List.take_succ_eq_append_getElem hk, List.any_append]
  simp only [List.any_cons, List.any_nil, Bool.or_false]

set_option maxHeartbeats 400000 in
theorem nameTaken_any (A : Option Addr) (l : List Seg) (c : Nat) (s : ByteArray) (w : World) (hw : Segs w w.heap.size A l) (hl : l.length ≤ 1048576) :
    Calls Tryd.prog 57 #[.slice A l.length c, .string s] w fun e w' => e = .returned (.bool (takenB l s)) ∧ Below w.heap.size w w' := by
  have HW : Hid (Segs w w.heap.size A l) := hw
  clear hw
  go_enter Tryd.func57, Tryd.ntmps57
  go_wp2
  go_loopw [9] (fun i wr => ∃ (k : Nat), k ≤ l.length ∧ i = .int .i64 k ∧ Hid (takenB (l.take k) s = false) ∧ Below w.heap.size w wr)
    (fun i _ => l.length - (intOf i).toNat)
  case atStart => exact ⟨0, Nat.zero_le _, rfl, rfl, Below.refl _ _⟩
  case round =>
    obtain ⟨k, hk, rfl, HT, hb⟩ := hrel
    by_cases hlt : k < l.length
    · obtain ⟨b, o, rfl, hB, hc⟩ := HW.out (by omega)
      obtain ⟨c0, c1, c2⟩ := hc k l[k] (List.getElem?_eq_getElem hlt)
      clear hc
      rw [← hb.cell hB] at c0 c1 c2
      have HD : Hid _ := takenB_take_succ (s := s) hlt
      have HL : Hid (l[k] ∈ l) := List.getElem_mem hlt
      generalize l[k] = x at *
      cases ht : (x.name.toList == s.toList) with
      | true =>
        have HE : Hid (takenB l s = true) := by
          unfold takenB
          exact List.any_eq_true.2 ⟨x, HL.out, ht⟩
        go_wp2
        go_ret
        exact ⟨ret_bool HE.out.symm, hb.alloc hb.size _⟩
      | false =>
        have HE : Hid (takenB (l.take (k + 1)) s = false) := by
          rw [HD.out, HT.out]; exact ht
        go_wp2
        go_roundw
        case rel => exact ⟨k + 1, by omega, by go_num, HE, hb.alloc hb.size _⟩
        case measure => simp [intOf]; omega
    · go_wp2
      go_ret
      exact ⟨ret_bool (by rw [← HT.out, List.take_of_length_le (by omega)]), hb⟩

theorem parAt_of {l : List Seg} {k : Nat} {s : Seg} (h : l[k]? = some s) : parAt l k = s.par := by unfold parAt; rw [h]
theorem Segs.get {w : World} {b o : Nat} {l : List Seg} (h : ∀ (k : Nat) (s : Seg), l[k]? = some s →
    w.cell? ⟨b, o + k * 3, none⟩ = some (.string s.name) ∧ w.cell? ⟨b, o + k * 3 + 1, none⟩ = some (.int .i64 s.size) ∧ w.cell? ⟨b, o + k * 3 + 2, none⟩ = some (.int .i64 s.par)) {k : Nat} (hk : k < l.length) :
    w.cell? ⟨b, o + k * 3 + 2, none⟩ = some (.int .i64 (parAt l k)) := by
  rw [parAt_of (List.getElem?_eq_getElem hk)]
  exact (h k _ (List.getElem?_eq_getElem hk)).2.2

set_option maxHeartbeats 400000 in
theorem parentFits_any (A : Option Addr) (l : List Seg) (c : Nat) (i : Nat) (w : World) (hw : Segs w w.heap.size A l) (hl : l.length ≤ 1048576) (hi : i < l.length) (hd : Down l i) :
    Calls Tryd.prog 59 #[.slice A l.length c, .int .i64 i] w fun e w' => e = .returned (.bool (parOk l i)) ∧ w = w' := by
  obtain ⟨b, o, rfl, hB, hc⟩ := hw (by omega)
  have HC := Lib.hid hc
  clear hc hw
  by_cases h0 : i = 0
  · subst h0
    have hp := Segs.get HC.out hi
    have HF : Hid (parOk l 0 = (parAt l 0 == -1)) := rfl
    simp only [Nat.zero_mul, Nat.add_zero] at hp
    generalize parAt l 0 = q at *
    go_enter Tryd.func59, Tryd.ntmps59
    go_wp2
    go_ret
    exact ⟨ret_bool HF.out.symm, rfl⟩
  · have HF : Hid (parOk l i = (chain l i ((i : Int) - 1)).contains (parAt l i)) := if_neg h0
    have hz : ((i : Int) == 0) = false := by rw [beq_eq_false_iff_ne]; omega
    have hp := Segs.get HC.out hi
    go_enter Tryd.func59, Tryd.ntmps59
    go_wp2
    have HP := Lib.hid hp
    have HD := Lib.hid hd
    clear hp hd
    go_loop [5] (fun v => ∃ q : Int, v = .int .i64 q ∧ -1 ≤ q ∧ q < i ∧ Hid ((chain l i ((i : Int) - 1)).contains (parAt l i) = (chain l i q).contains (parAt l i)))
      (fun v => (intOf v + 1).toNat)
    case atStart => exact ⟨_, rfl, by omega, by omega, rfl⟩
    case round =>
      obtain ⟨q, rfl, hq, hqi, HN⟩ := hrel
      by_cases hz1 : q = -1
      · subst hz1
        have HE : Hid ((chain l i (-1)).contains (parAt l i) = false) := by
          cases i with
          | zero => rfl
          | succ i => rfl
        go_wp2
        go_ret
        exact ⟨ret_bool (by rw [HF.out, HN.out, HE.out]), rfl⟩
      · obtain ⟨n, rfl⟩ := Int.eq_ofNat_of_zero_le (show 0 ≤ q by omega)
        have hne : ((n : Int) != -1) = true := by rw [bne_iff_ne]; omega
        have hx := Segs.get HC.out (k := n) (by omega)
        have hx' := HP.out
        have HQ := Lib.hid (HD.out n (by omega))
        have HE : Hid ((chain l i n).contains (parAt l i) = ((parAt l i == (n : Int)) || (chain l i (parAt l n)).contains (parAt l i))) := by
          have hch : chain l (i + 1) (n : Int) = (n : Int) :: chain l i (parAt l n) := by
            simp only [chain, Int.toNat_natCast]
            rw [if_neg (by omega)]
          show List.contains _ _ = _
          rw [chain_fuel (k := i) HD.out i (i + 1) n (by omega) (by omega) (by omega), hch, List.contains_cons]
        cases ht : (parAt l i == (n : Int)) with
        | true =>
          rw [ht] at HE
          generalize parAt l i = pi at *
          generalize parAt l n = pn at *
          go_wp2
          go_ret
          exact ⟨ret_bool (by rw [HF.out, HN.out, HE.out]; rfl), rfl⟩
        | false =>
          rw [ht] at HE
          have HG : Hid ((chain l i ((i : Int) - 1)).contains (parAt l i) = (chain l i (parAt l n)).contains (parAt l i)) := HN.out.trans (HE.out.trans (Bool.false_or _))
          clear HN HE
          generalize parAt l i = pi at *
          generalize parAt l n = pn at *
          go_wp2
          go_round
          case rel => exact ⟨pn, rfl, by have := HQ.out; omega, by have := HQ.out; omega, HG⟩
          case measure => have := HQ.out; simp [intOf]; omega

end Go.Proofs.YtdbddockmdkmeaaDoor
/- spec.l1Path and spec.l1Has. -/
namespace Go.Proofs.YtdbddockmdkmeaaDoor
open Go.RowKit

theorem chain_len (l : List Seg) : ∀ (f : Nat) (i : Int), (chain l f i).length ≤ f
  | 0, _ => by simp [chain]
  | f + 1, i => by
    unfold chain
    by_cases h : i < 0
    · simp [h]
    · rw [if_neg h, List.length_cons]
      have := chain_len l f (parAt l i.toNat)
      omega
def pathOf (l : List Seg) (i : Nat) : List Int := (chain l (i + 1) i).reverse
/-- A result that is a slice of integers of the call's own. -/
def IntsPost (w : World) (xs : List Int) (e : Ending) (w' : World) : Prop :=
  ∃ g cap, e = .returned (.slice (some ⟨g, 0, none⟩) xs.length cap) ∧ w'.ownsRow w.heap.size 3 1 (.slice (some ⟨g, 0, none⟩) xs.length cap) xs.length (xs.map (Value.int .i64)) ∧ Below w.heap.size w w'

theorem own_form {w : World} {base : Nat} {e : TypeId} {v : Value} {n : Nat} {xs : List Value} (h : w.ownsRow base e 1 v n xs) (hn : 0 < n) : ∃ g cap, v = .slice (some ⟨g, 0, none⟩) n cap := by
  rcases h.2 with ⟨_, rfl⟩ | ⟨g, cap, _, hv, _⟩
  · omega
  · exact ⟨g, cap, hv⟩

theorem own_next {w : World} {base base' : Nat} {e : TypeId} {g c : Nat} {n : Int} {xs : List Int} (h : w.ownsRow base' e 1 (.slice (some ⟨g, 0, none⟩) (1 + xs.length) c) (1 + xs.length) ([Value.int .i64 n] ++ xs.map (Value.int .i64))) (hb : base ≤ base') :
    w.ownsRow base e 1 (.slice (some ⟨g, 0, none⟩) (n :: xs).length c) (n :: xs).length ((n :: xs).map (Value.int .i64)) := by
  have hl : (n :: xs).length = 1 + xs.length := by rw [List.length_cons, Nat.add_comm]
  rw [hl]
  refine ⟨by simp [Nat.add_comm], .inr ?_⟩
  rcases h.2 with ⟨hv, _⟩ | ⟨g', cap, cur, hv, hg, r⟩
  · cases hv
  · exact ⟨g', cap, cur, hv, by omega, r⟩

theorem info_int : (Tryd.prog.info? 3).map (fun i => (i.zero, i.size, i.bytes)) = some (some (.int .i64 0), 1, 8) := by kernel_rfl

theorem chain_step {l : List Seg} {k : Nat} (h : Down l k) {f n : Nat} (hn : n < k) (hf : n < f) : chain l f (n : Int) = (n : Int) :: chain l f (parAt l n) := by
  have hd := h n hn
  rw [chain_fuel h f (f + 1) n (by omega) (by omega) (by omega)]
  simp only [chain, Int.toNat_natCast]
  rw [if_neg (by omega)]

set_option maxRecDepth 100000 in
set_option maxHeartbeats 400000 in
theorem l1Path_any (A : Option Addr) (l : List Seg) (c : Nat) (i : Nat) (w : World) (hw : Segs w w.heap.size A l) (hl : l.length ≤ 1048576) (hi : i < l.length) (hd : Down l (i + 1)) :
    Calls Tryd.prog 64 #[.slice A l.length c, .int .i64 i] w (IntsPost w (pathOf l i)) := by
  obtain ⟨b, o, rfl, hB, hc⟩ := hw (by omega)
  have HC := Lib.hid hc
  have HD := Lib.hid hd
  clear hc hw hd
  obtain ⟨i0, hi0, hz0, hz1, hz2⟩ := info_parts info_int
  have I0 := Lib.hid hi0
  have Z0 := Lib.hid hz0
  have Z1 := Lib.hid hz1
  have Z2 := Lib.hid hz2
  clear hi0 hz0 hz1 hz2
  go_enter Tryd.func64, Tryd.ntmps64
  go_wp2
  go_loopw [1, 5] (fun v r wr => ∃ (q : Int) (g cap : Nat) (xs : List Int), v = .int .i64 q ∧ r = .slice (some ⟨g, 0, none⟩) xs.length cap ∧ -1 ≤ q ∧ q ≤ i ∧ Hid (pathOf l i = (chain l (i + 1) q).reverse ++ xs) ∧
      wr.ownsRow w.heap.size 3 1 (.slice (some ⟨g, 0, none⟩) xs.length cap) xs.length (xs.map (Value.int .i64)) ∧ Below w.heap.size w wr)
    (fun v _ _ => (intOf v + 1).toNat)
  case atStart => exact ⟨i, w.heap.size, 0, [], rfl, rfl, by omega, by omega, (List.append_nil _).symm, World.ownsRow_lit w #[] 0 (Nat.le_refl _) (by simp [maxLen]) rfl, (Below.refl _ _).alloc (Nat.le_refl _) _⟩
  case round =>
    obtain ⟨q, g, cap, xs, rfl, rfl, hq, hqi, HX, hown, hb⟩ := hrel
    by_cases h0 : q < 0
    · have HE : Hid (pathOf l i = xs) := by
        show pathOf l i = xs
        rw [HX.out]
        simp [chain, h0]
      have HO := Lib.hid hown
      clear hown
      go_wp2
      go_ret
      refine ⟨g, cap, by rw [HE.out]; rfl, by rw [HE.out]; exact HO.out, hb⟩
    · obtain ⟨n, rfl⟩ := Int.eq_ofNat_of_zero_le (show 0 ≤ q by omega)
      have hx := Segs.get HC.out (k := n) (by omega)
      rw [← hb.cell hB] at hx
      have HQ := Lib.hid (HD.out n (by omega))
      have HG : Hid (pathOf l i = (chain l (i + 1) (parAt l n)).reverse ++ (n : Int) :: xs) := by
        show _ = _
        rw [HX.out, chain_step HD.out (by omega) (by omega)]
        simp
      have hlen : xs.length ≤ 1048576 := by
        have h1 := congrArg List.length HX.out
        have h2 := chain_len l (i + 1) i
        simp only [pathOf, List.length_append, List.length_reverse] at h1
        omega
      clear HX
      have HO := Lib.hid hown
      have HB := Lib.hid hb
      clear hown hb
      generalize parAt l n = pn at *
      go_wp2_with (at_builtin; refine wpList_append_own_at _ rfl _ _ 38 rfl wr.heap.size 3 i0 (.int .i64 0) 1 8 Tryd.underlying38 I0.out Z0.out Z1.out Z2.out rfl (by decide) _ 1 [.int .i64 n] rfl (World.ownsRow_lit wr #[.int .i64 n] 1 (Nat.le_refl _) (by simp [maxLen]) rfl) ⟨g, 0, none⟩ xs.length cap (xs.map (Value.int .i64)) rfl (by simp) ((HO.out.alloc _).cells rfl) (by simp [Value.oneCell']) (by simp [maxLen]; omega) (by omega) (by simp) ?_; intro v' w1 hown1 hgrow _ _; have hb1 : Below wr.heap.size wr w1 := ((Below.refl _ _).alloc (Nat.le_refl _) _).grown hgrow (by simp) (by intro k hk; injection hk with hk; exact Nat.le_of_eq hk); have hx1 := (hb1.cell (p := ⟨b, o + n * 3 + 2, none⟩) (Nat.lt_of_lt_of_le hB HB.out.size)).trans hx; have O1 := Lib.hid hown1; have B1 := Lib.hid hb1; clear hown1 hb1 hgrow)
      obtain ⟨g', cap', rfl⟩ := own_form O1.out (by omega)
      go_roundw
      case rel => exact ⟨pn, g', cap', (n : Int) :: xs, rfl, by rw [List.length_cons, Nat.add_comm], by have := HQ.out; omega, by have := HQ.out; omega, HG, own_next O1.out HB.out.size, HB.out.trans (B1.out.mono HB.out.size)⟩
      case measure => have := HQ.out; simp [intOf]; omega

def hasB (xs : List Int) (n : Int) : Bool := xs.any (fun x => x == n)
theorem hasB_reverse (xs : List Int) (n : Int) : hasB xs.reverse n = xs.contains n := by
  unfold hasB
  rw [List.any_reverse, Bool.eq_iff_iff, List.any_eq_true, List.contains_iff_mem]
  exact ⟨fun ⟨x, hx, he⟩ => (beq_iff_eq.1 he) ▸ hx, fun h => ⟨n, h, beq_self_eq_true n⟩⟩
theorem hasB_take {xs : List Int} {n : Int} {k : Nat} (hk : k < xs.length) : hasB (xs.take (k + 1)) n = (hasB (xs.take k) n || (xs[k] == n)) := by
  unfold hasB
  rw [List.take_succ_eq_append_getElem hk, List.any_append]
  simp only [List.any_cons, List.any_nil, Bool.or_false]

set_option maxHeartbeats 400000 in
theorem l1Has_any (g cap base : Nat) (xs : List Int) (n : Int) (w : World) (hw : w.ownsRow base 3 1 (.slice (some ⟨g, 0, none⟩) xs.length cap) xs.length (xs.map (Value.int .i64))) (hl : xs.length ≤ 2097152) :
    Calls Tryd.prog 63 #[.slice (some ⟨g, 0, none⟩) xs.length cap, .int .i64 n] w fun e w' => e = .returned (.bool (hasB xs n)) ∧ w = w' := by
  have HO := Lib.hid hw
  clear hw
  go_enter Tryd.func63, Tryd.ntmps63
  go_wp2
  go_loop [9] (fun i => ∃ (k : Nat), k ≤ xs.length ∧ i = .int .i64 k ∧ Hid (hasB (xs.take k) n = false))
    (fun i => xs.length - (intOf i).toNat)
  case atStart => exact ⟨0, Nat.zero_le _, rfl, rfl⟩
  case round =>
    obtain ⟨k, hk, rfl, HN⟩ := hrel
    by_cases hlt : k < xs.length
    · have hc : w.cell? ⟨g, k, none⟩ = some (.int .i64 xs[k]) := by
        rw [HO.out.cellAt k (by omega)]
        simp [hlt]
      have HM : Hid (xs[k] ∈ xs) := List.getElem_mem hlt
      have HT : Hid _ := hasB_take (n := n) hlt
      generalize xs[k] = x at *
      cases ht : (x == n) with
      | true =>
        have HE : Hid (hasB xs n = true) := by
          exact List.any_eq_true.2 ⟨x, HM.out, ht⟩
        go_wp2
        go_ret
        exact ⟨ret_bool HE.out.symm, rfl⟩
      | false =>
        have HE : Hid (hasB (xs.take (k + 1)) n = false) := by
          show _ = _
          rw [HT.out, HN.out, ht]; rfl
        go_wp2
        go_round
        case rel => exact ⟨k + 1, by omega, by go_num, HE⟩
        case measure => simp [intOf]; omega
    · go_wp2
      go_ret
      exact ⟨ret_bool (by rw [← HN.out, List.take_of_length_le (by omega)]), rfl⟩

end Go.Proofs.YtdbddockmdkmeaaDoor
/- A region that draws its order, walked step by step: each operation that only reads is taken in the text's order. -/
namespace Go.Proofs.YtdbddockmdkmeaaDoor
open Go.RowKit

section
variable {P : Program} {ops : Array Oper} {Q : Exit → Act → World → Prop} {md : Region.Mode} {S : World → Prop}

/-- An operation that yields 'v' in each world that meets S is taken first; its slot is 'd'. -/
theorem take_at {i d : Nat} {oi : Oper} {v : Value} {fuel : Nat} {listed : Array Bool} {tmps : Array Value} {w : World} (hi : ops[i]? = some oi) (hd : oi.dst = some d)
    (hs : Region.noSelect ops = true) (hf : Region.free md ops listed i = true) (hr : (Region.ready md ops listed).contains i = true)
    (hQ : ∀ c a w, Q (.panic c) (a.put oi.dst v) w → Q (.panic c) a w) (hw : Region.wanted oi (yielded ops tmps) = true)
    (hy : ∀ w, S w → (execOp (Act.eval ⟨tmps, []⟩) oi).run P w = .ok (.value v) w) (hS : S w)
    (h : wpAnyH P md ops Q S fuel (listed.setIfInBounds i true) ⟨tmps.setIfInBounds d v, []⟩ w) : wpAnyH P md ops Q S (fuel + 1) listed ⟨tmps, []⟩ w := by
  refine wpAnyH_take hi hs hf hr hQ (Or.inl ⟨hw, hy⟩) hS ?_
  rw [hd]
  exact h
theorem run_sub_op {ρ : Operand → Value} {o : Oper} {x y : Operand} {t u : TypeId} {A B C : Int} (ho : o.op = .binOp .sub t x y u) (hx : ρ x = .int .i64 A) (hy : ρ y = .int .i64 B) (hC : IntKind.i64.wrap (A - B) = C) (w : World) :
    (execOp ρ o).run P w = .ok (.value (.int .i64 C)) w := by
  unfold execOp
  rw [ho]
  subst hC
  simp [hx, hy, go_sem]
/-- An operation that its guard passes over. -/
theorem skip_at {i d : Nat} {oi : Oper} {fuel : Nat} {listed : Array Bool} {tmps : Array Value} {w : World} (hi : ops[i]? = some oi) (hd : oi.dst = some d)
    (hs : Region.noSelect ops = true) (hf : Region.free md ops listed i = true) (hr : (Region.ready md ops listed).contains i = true)
    (hQ : ∀ c a w, Q (.panic c) (a.put oi.dst undef) w → Q (.panic c) a w) (hw : Region.wanted oi (yielded ops tmps) = false) (hS : S w)
    (h : wpAnyH P md ops Q S fuel (listed.setIfInBounds i true) ⟨tmps.setIfInBounds d undef, []⟩ w) : wpAnyH P md ops Q S (fuel + 1) listed ⟨tmps, []⟩ w := by
  refine wpAnyH_take hi hs hf hr hQ (Or.inr ⟨hw, rfl⟩) hS ?_
  rw [hd]
  exact h
end

end Go.Proofs.YtdbddockmdkmeaaDoor
/- impl.TreeValid is 'validB'. -/
namespace Go.Proofs.YtdbddockmdkmeaaDoor
open Go.RowKit

theorem segOk_of {l : List Seg} {k : Nat} (hk : k < l.length) : segOk l k = (nameOk l[k].name && !takenB (l.take k) l[k].name && sizeOk l[k].size && parOk l k) := by
  unfold segOk
  rw [List.getElem?_eq_getElem hk]
theorem Segs.take {w : World} {B : Nat} {A : Option Addr} {l : List Seg} (h : Segs w B A l) (k : Nat) : Segs w B A (l.take k) := fun hl => by
  obtain ⟨b, o, e, hB, hc⟩ := h (by have := List.length_take_le k l; have : (l.take k).length ≤ l.length := List.length_take_le' k l; omega)
  refine ⟨b, o, e, hB, fun j s hj => hc j s ?_⟩
  rw [List.getElem?_take] at hj
  split at hj
  · exact hj
  · cases hj
theorem AllOk.succ {l : List Seg} {k : Nat} (h : AllOk l k) (hk : segOk l k = true) : AllOk l (k + 1) := fun j hj => by
  rcases Nat.lt_or_ge j k with hlt | hge
  · exact h j hlt
  · obtain rfl : j = k := by omega
    exact hk

theorem quietB {P : Program} {f : FuncId} {args : Array Value} {w : World} {b v : Bool} (h : Calls P f args w fun e w' => e = .returned (.bool b) ∧ w = w') (hb : b = v) :
    Calls P f args w fun e w' => e = .returned (.bool v) ∧ w' = w := h.mono fun _ _ ⟨he, hw⟩ => ⟨by rw [he, hb], hw.symm⟩

theorem nameTaken_take (A : Option Addr) (l : List Seg) (c k : Nat) (s : ByteArray) (w0 w : World) (hw : Segs w0 w0.heap.size A l) (hb : Below w0.heap.size w0 w) (hk : k ≤ l.length) (hl : l.length ≤ 1048576) {v : Bool} (hv : takenB (l.take k) s = v) :
    Calls Tryd.prog 57 #[.slice A k c, .string s] w fun e w' => e = .returned (.bool v) ∧ Below w.heap.size w w' := by
  have h := nameTaken_any A (l.take k) c s w (((hw.take k).below hb).more hb.size) (by rw [List.length_take]; omega)
  rw [List.length_take, Nat.min_eq_left hk, hv] at h
  exact h
theorem parentFits_at (A : Option Addr) (l : List Seg) (c k : Nat) (w0 w : World) (hw : Segs w0 w0.heap.size A l) (hb : Below w0.heap.size w0 w) (hk : k < l.length) (hl : l.length ≤ 1048576) (hd : AllOk l k) {v : Bool} (hv : parOk l k = v) :
    Calls Tryd.prog 59 #[.slice A l.length c, .int .i64 k] w fun e w' => e = .returned (.bool v) ∧ w = w' := by
  have h := parentFits_any A l c k w ((hw.below hb).more hb.size) hl hk hd.down
  rw [hv] at h
  exact h

set_option maxRecDepth 100000 in
set_option maxHeartbeats 1000000 in
theorem treeValid_any (A : Option Addr) (l : List Seg) (c : Nat) (w : World) (hw : Segs w w.heap.size A l) (hl : l.length ≤ 1048576) (hlc : l.length ≤ c) (hcm : c ≤ 9223372036854775807) (hn : Short l) :
    Calls Tryd.prog 14 #[.slice A l.length c] w fun e w' => e = .returned (.bool (validB l)) ∧ Below w.heap.size w w' := by
  by_cases h1 : l.length < 1
  · have HF : Hid (validB l = false) := by
      show validB l = false
      unfold validB
      rw [decide_eq_false (by omega)]; rfl
    go_enter Tryd.func14, Tryd.ntmps14
    go_wp2
    go_ret
    exact ⟨ret_bool HF.out.symm, Below.refl _ _⟩
  by_cases h2 : 8 < l.length
  · have HF : Hid (validB l = false) := by
      show validB l = false
      unfold validB
      rw [decide_eq_false (p := l.length ≤ 8) (by omega), Bool.and_false]; rfl
    go_enter Tryd.func14, Tryd.ntmps14
    go_wp2
    go_ret
    exact ⟨ret_bool HF.out.symm, Below.refl _ _⟩
  have HW : Hid (Segs w w.heap.size A l) := hw
  clear hw
  have q1 : decide ((l.length : Int) < 1) = false := decide_eq_false (by omega)
  have q2 : decide (8 < (l.length : Int)) = false := decide_eq_false (by omega)
  go_enter Tryd.func14, Tryd.ntmps14
  go_wp2
  go_loopw [15] (fun i wr => ∃ (k : Nat), k ≤ l.length ∧ i = .int .i64 k ∧ Hid (AllOk l k) ∧ Below w.heap.size w wr)
    (fun i _ => l.length - (intOf i).toNat)
  case atStart => exact ⟨0, Nat.zero_le _, rfl, fun j hj => absurd hj (by omega), Below.refl _ _⟩
  case round =>
    obtain ⟨k, hk, rfl, HA, hb⟩ := hrel
    by_cases hlt : k < l.length
    · obtain ⟨b, o, rfl, hB, hc⟩ := HW.out (by omega)
      obtain ⟨c0, c1, c2⟩ := hc k l[k] (List.getElem?_eq_getElem hlt)
      clear hc
      rw [← hb.cell hB] at c0 c1 c2
      have HO : Hid _ := segOk_of hlt
      have hk0 : (0 : Int) ≤ (k : Int) := Int.natCast_nonneg _
      have hkc : (k : Int) ≤ (c : Int) := by omega
      have hkl : (k : Int) < (l.length : Int) := by omega
      have HS : Hid _ := hn l[k] (List.getElem_mem hlt)
      generalize l[k] = x at *
      have HT : Hid (takenB (l.take k) x.name = takenB (l.take k) x.name) := rfl
      have hbG : Below w.heap.size w (wr.alloc (.cells #[.string x.name, .int .i64 x.size, .int .i64 x.par] 66)) := hb.alloc hb.size _
      have HR : Hid (Row (wr.alloc (.cells #[.string x.name, .int .i64 x.size, .int .i64 x.par] 66)) wr.heap.size 66 #[.string x.name, .int .i64 x.size, .int .i64 x.par]) := Row.new _ _ _
      cases hN : nameOk x.name with
      | false =>
        have HB : Hid (validB l = false) := validB_bad hlt (by rw [HO.out, hN]; rfl)
        go_wp2_with fail
        have e0 := HR.out.cell 0
        have e1 := HR.out.cell 1
        have hG := HR.out.lt
        generalize wr.heap.size = G at *
        generalize wr.alloc (.cells #[.string x.name, .int .i64 x.size, .int .i64 x.par] 66) = W1 at *
        simp at e0 e1
        go_quiet ((go_at_call 56; exact Calls.quiet_of_same (quietB (nameValid_any _ _ HS.out) hN)))
        go_wp2
        go_ret
        exact ⟨ret_bool HB.out.symm, below_drewN hbG _⟩
      | true =>
        have e0 := HR.out.cell 0
        have e1 := HR.out.cell 1
        have hG := HR.out.lt
        have hGw : w.heap.size ≤ wr.heap.size := hb.size
        cases hT : takenB (l.take k) x.name with
        | true =>
          have HB : Hid (validB l = false) := validB_bad hlt (by rw [HO.out, hN, hT]; rfl)
          go_wp2_with fail
          generalize wr.heap.size = G at *
          generalize wr.alloc (.cells #[.string x.name, .int .i64 x.size, .int .i64 x.par] 66) = W1 at *
          simp at e0 e1
          first
            | (go_region_with (first
                | (go_at_call 56; refine (nameValid_any _ _ HS.out).mono ?_; rw [hN]; rintro e w' ⟨rfl, rfl⟩)
                | (go_at_call 57; refine (nameTaken_take _ _ _ _ _ _ _ HW.out hbG.drew (by omega) hl hT).mono ?_; rintro e w2 ⟨rfl, hb2⟩)))
            | skip
          all_goals
            have hb3 : Below w.heap.size w w2 := hbG.drew.trans (hb2.mono hbG.drew.size)
            clear hb2 hbG
            go_wp2
            go_ret
            exact ⟨ret_bool HB.out.symm, hb3⟩
        | false =>
          cases hS : sizeOk x.size with
          | false =>
            have HB : Hid (validB l = false) := validB_bad hlt (by rw [HO.out, hN, hT, hS]; rfl)
            go_wp2_with fail
            generalize wr.heap.size = G at *
            generalize wr.alloc (.cells #[.string x.name, .int .i64 x.size, .int .i64 x.par] 66) = W1 at *
            simp at e0 e1
            first
              | (go_region_with (first
                  | (go_at_call 56; refine (nameValid_any _ _ HS.out).mono ?_; rw [hN]; rintro e w' ⟨rfl, rfl⟩)
                  | (go_at_call 58; refine (sizeValid_any _ _).mono ?_; rw [hS]; rintro e w' ⟨rfl, rfl⟩)
                  | (go_at_call 57; refine (nameTaken_take _ _ _ _ _ _ _ HW.out hbG.drew (by omega) hl hT).mono ?_; rintro e w2 ⟨rfl, hb2⟩; have f1 := (hb2.cell (p := ⟨G, 1, none⟩) hG).trans e1)))
              | skip
            all_goals
              have hb3 : Below w.heap.size w w2 := hbG.drew.trans (hb2.mono hbG.drew.size)
              clear hb2 hbG
              go_wp2
              go_ret
              exact ⟨ret_bool HB.out.symm, hb3⟩
          | true =>
            cases hP : parOk l k with
            | false =>
              have HB : Hid (validB l = false) := validB_bad hlt (by rw [HO.out, hP, Bool.and_false])
              go_wp2_with fail
              generalize wr.heap.size = G at *
              generalize wr.alloc (.cells #[.string x.name, .int .i64 x.size, .int .i64 x.par] 66) = W1 at *
              simp at e0 e1
              go_region_held3 (fun w' => w'.cell? ⟨G, 0, none⟩ = some (.string x.name) ∧ w'.cell? ⟨G, 1, none⟩ = some (.int .i64 x.size) ∧ G < w'.heap.size ∧ Below w.heap.size w w')
                (first | (go_split_ands; exact ⟨(hb2.cell (by assumption)).trans (by assumption), (hb2.cell (by assumption)).trans (by assumption), Nat.lt_of_lt_of_le (by assumption) hb2.size, Below.trans (by assumption) (hb2.mono (Below.size (by assumption)))⟩) | (go_split_ands; exact ⟨by assumption, by assumption, by assumption, by assumption⟩) | (go_split_ands; exact ⟨e0, e1, hG, hbG.drew⟩))
                (first
                  | (go_at_call 56; refine (nameValid_any _ _ HS.out).mono ?_; rw [hN]; rintro e w' ⟨rfl, rfl⟩)
                  | (go_at_call 58; refine (sizeValid_any _ _).mono ?_; rw [hS]; rintro e w' ⟨rfl, rfl⟩)
                  | (go_at_call 59; go_split_ands; refine (parentFits_at _ _ _ _ _ _ HW.out (by assumption) hlt hl HA.out hP).mono ?_; rintro e w' ⟨rfl, rfl⟩)
                  | (go_at_call 57; go_split_ands; refine (nameTaken_take _ _ _ _ _ _ _ HW.out (by assumption) (by omega) hl hT).mono ?_; rintro e w2 ⟨rfl, hb2⟩))
              go_split_ands
              have hb3 : Below w.heap.size w w2 := by assumption
              go_wp2
              go_ret
              exact ⟨ret_bool HB.out.symm, hb3⟩
            | true =>
              have HB : Hid (AllOk l (k + 1)) := HA.out.succ (by rw [HO.out, hN, hT, hS, hP]; rfl)
              go_wp2_with fail
              generalize wr.heap.size = G at *
              generalize wr.alloc (.cells #[.string x.name, .int .i64 x.size, .int .i64 x.par] 66) = W1 at *
              simp at e0 e1
              go_region_held3 (fun w' => w'.cell? ⟨G, 0, none⟩ = some (.string x.name) ∧ w'.cell? ⟨G, 1, none⟩ = some (.int .i64 x.size) ∧ G < w'.heap.size ∧ Below w.heap.size w w')
                (first | (go_split_ands; exact ⟨(hb2.cell (by assumption)).trans (by assumption), (hb2.cell (by assumption)).trans (by assumption), Nat.lt_of_lt_of_le (by assumption) hb2.size, Below.trans (by assumption) (hb2.mono (Below.size (by assumption)))⟩) | (go_split_ands; exact ⟨by assumption, by assumption, by assumption, by assumption⟩) | (go_split_ands; exact ⟨e0, e1, hG, hbG.drew⟩))
                (first
                  | (go_at_call 56; refine (nameValid_any _ _ HS.out).mono ?_; rw [hN]; rintro e w' ⟨rfl, rfl⟩)
                  | (go_at_call 58; refine (sizeValid_any _ _).mono ?_; rw [hS]; rintro e w' ⟨rfl, rfl⟩)
                  | (go_at_call 59; go_split_ands; refine (parentFits_at _ _ _ _ _ _ HW.out (by assumption) hlt hl HA.out hP).mono ?_; rintro e w' ⟨rfl, rfl⟩)
                  | (go_at_call 57; go_split_ands; refine (nameTaken_take _ _ _ _ _ _ _ HW.out (by assumption) (by omega) hl hT).mono ?_; rintro e w2 ⟨rfl, hb2⟩))
              go_split_ands
              have hb3 : Below w.heap.size w w2 := by assumption
              go_wp2
              go_roundw
              case rel => exact ⟨k + 1, by omega, by go_num, HB, hb3⟩
              case measure => simp [intOf]; omega
    · have HB : Hid (validB l = true) := by
        obtain rfl : k = l.length := by omega
        show validB l = true
        rw [validB_all HA.out, decide_eq_true (by omega), decide_eq_true (by omega)]; rfl
      go_wp2
      go_ret
      exact ⟨ret_bool HB.out.symm, hb⟩

end Go.Proofs.YtdbddockmdkmeaaDoor
