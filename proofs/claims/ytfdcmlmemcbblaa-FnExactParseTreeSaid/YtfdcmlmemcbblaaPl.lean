/- The plain mathematics of trees: no program. -/
import Derived.Test.YtfdcmlmemcbblaaTo
import Derived.WideShapes
namespace Go.Proofs.Ytfdcmlmemcbblaa

def nameOk (s : ByteArray) : Bool := match s.data.toList with
  | [c] => decide (65 ≤ c.toNat) && decide (c.toNat ≤ 72)
  | _ => false
theorem nameOk_one {s : ByteArray} (h : nameOk s = true) : ∃ c : UInt8, s = ⟨#[c]⟩ ∧ 65 ≤ c.toNat ∧ c.toNat ≤ 72 := by
  obtain ⟨⟨l⟩⟩ := s
  unfold nameOk at h
  match l, h with
  | [c], h => simp at h; exact ⟨c, rfl, h.1, h.2⟩
theorem nameOk_of {c : UInt8} : nameOk ⟨#[c]⟩ = (decide (65 ≤ c.toNat) && decide (c.toNat ≤ 72)) := rfl
theorem nameOk_size {s : ByteArray} (h : s.size ≠ 1) : nameOk s = false := by
  obtain ⟨⟨l⟩⟩ := s
  unfold nameOk
  match l with
  | [] => rfl
  | [c] => exact absurd rfl h
  | _ :: _ :: _ => rfl
theorem one_of_size {s : ByteArray} (h : s.size = 1) : ∃ c : UInt8, s = ⟨#[c]⟩ := by
  obtain ⟨⟨l⟩⟩ := s
  match l, h with
  | [c], _ => exact ⟨c, rfl⟩
def sizeOk (n : Int) : Bool := decide (1 ≤ n) && decide (n ≤ 99)
def inB (n lo hi : Int) : Bool := decide (lo ≤ n) && decide (n ≤ hi)
def findFrom (c : UInt8) : List UInt8 → Nat → Int
  | [], _ => -1
  | x :: l, k => if x = c then k else findFrom c l (k + 1)
def findB (s : ByteArray) (c : UInt8) : Int := findFrom c s.data.toList 0
theorem findFrom_lo (c : UInt8) : ∀ (l : List UInt8) (k : Nat), 0 ≤ findFrom c l k ↔ c ∈ l
  | [], k => by simp [findFrom]
  | x :: l, k => by
    unfold findFrom
    by_cases h : x = c
    · simp [h]
    · rw [if_neg h, findFrom_lo c l (k + 1)]
      simp [show ¬ c = x from fun e => h e.symm]
theorem findB_lo (s : ByteArray) (c : UInt8) : 0 ≤ findB s c ↔ c ∈ s.data.toList := findFrom_lo c _ 0
theorem findFrom_drop (s : ByteArray) (c : UInt8) (k : Nat) (hk : k < s.size) : findFrom c (s.data.toList.drop k) k = if s[k] = c then (k : Int) else findFrom c (s.data.toList.drop (k + 1)) (k + 1) := by
  rw [List.drop_eq_getElem_cons (by simpa using hk)]
  rfl
def sameB (a b : ByteArray) : Bool := a.toList == b.toList
theorem sameB_iff {a b : ByteArray} : sameB a b = true ↔ a = b := by
  unfold sameB
  rw [beq_iff_eq, ByteArray.toList_eq, ByteArray.toList_eq]
  exact ⟨WideShapes.bytes_inj, fun h => by rw [h]⟩
def takenB (l : List Seg) (s : ByteArray) : Bool := l.any (fun x => sameB x.name s)

/-- The parent of a segment. -/
def parAt (l : List Seg) (i : Nat) : Int := match l[i]? with
  | some s => s.par
  | none => -1
/-- From a segment up to the root. -/
def chain (l : List Seg) : Nat → Int → List Int
  | 0, _ => []
  | f + 1, i => if i < 0 then [] else i :: chain l f (parAt l i.toNat)
/-- The parents of the first 'k' stand ahead of them. -/
def Down (l : List Seg) (k : Nat) : Prop := ∀ j : Nat, j < k → -1 ≤ parAt l j ∧ parAt l j < j
theorem Down.mono {l : List Seg} {k k' : Nat} (h : Down l k) (hk : k' ≤ k) : Down l k' := fun j hj => h j (by omega)
theorem chain_mem {l : List Seg} {k : Nat} (h : Down l k) : ∀ (f : Nat) (i : Int), i < k → ∀ x ∈ chain l f i, 0 ≤ x ∧ x ≤ i
  | 0, _, _, x, hx => by simp [chain] at hx
  | f + 1, i, hi, x, hx => by
    unfold chain at hx
    by_cases h0 : i < 0
    · simp [h0] at hx
    · rw [if_neg h0] at hx
      rcases List.mem_cons.1 hx with rfl | hx
      · omega
      · have hd := h i.toNat (by omega)
        have := chain_mem h f _ (by omega) x hx
        omega
/-- More fuel than wanted gives no more. -/
theorem chain_fuel {l : List Seg} {k : Nat} (h : Down l k) : ∀ (f g : Nat) (i : Int), i < k → i < f → i < g → chain l f i = chain l g i
  | 0, 0, _, _, _, _ => rfl
  | 0, g + 1, i, _, hf, _ => by simp [chain, show i < 0 by omega]
  | f + 1, 0, i, _, _, hg => by simp [chain, show i < 0 by omega]
  | f + 1, g + 1, i, hi, hf, hg => by
    unfold chain
    by_cases h0 : i < 0
    · simp [h0]
    · have hd := h i.toNat (by omega)
      rw [if_neg h0, if_neg h0, chain_fuel h f g _ (by omega) (by omega) (by omega)]
def parOk (l : List Seg) (i : Nat) : Bool := if i = 0 then parAt l 0 == -1 else (chain l i ((i : Int) - 1)).contains (parAt l i)
def segOk (l : List Seg) (i : Nat) : Bool := match l[i]? with
  | some s => nameOk s.name && !takenB (l.take i) s.name && sizeOk s.size && parOk l i
  | none => false
def AllOk (l : List Seg) (k : Nat) : Prop := ∀ j : Nat, j < k → segOk l j = true
theorem AllOk.down {l : List Seg} : ∀ {k : Nat}, AllOk l k → Down l k
  | 0, _ => fun j hj => absurd hj (by omega)
  | k + 1, h => by
    have hd : Down l k := AllOk.down (fun j hj => h j (by omega))
    intro j hj
    rcases Nat.lt_or_ge j k with hlt | hge
    · exact hd j hlt
    · obtain rfl : j = k := by omega
      have hs := h j (by omega)
      unfold segOk at hs
      cases hl : l[j]? with
      | none => rw [hl] at hs; cases hs
      | some s =>
        rw [hl] at hs
        simp only [Bool.and_eq_true] at hs
        have hp := hs.2
        unfold parOk at hp
        by_cases h0 : j = 0
        · rw [if_pos h0] at hp
          subst h0
          have := beq_iff_eq.1 hp
          omega
        · rw [if_neg h0] at hp
          have hm := List.contains_iff_mem.1 hp
          have := chain_mem hd j _ (by omega) _ hm
          omega
def allB (l : List Seg) (k : Nat) : Bool := (List.range k).all (segOk l)
theorem allB_iff {l : List Seg} {k : Nat} : allB l k = true ↔ AllOk l k := by
  simp [allB, AllOk]
def validB (l : List Seg) : Bool := decide (1 ≤ l.length) && decide (l.length ≤ 8) && allB l l.length
theorem validB_bad {l : List Seg} {k : Nat} (hk : k < l.length) (h : segOk l k = false) : validB l = false := by
  unfold validB
  rw [Bool.and_eq_false_iff]
  right
  cases ha : allB l l.length with
  | false => rfl
  | true => rw [allB_iff.1 ha k hk] at h; cases h
theorem validB_all {l : List Seg} (h : AllOk l l.length) : validB l = (decide (1 ≤ l.length) && decide (l.length ≤ 8)) := by
  unfold validB
  rw [allB_iff.2 h, Bool.and_true]

end Go.Proofs.Ytfdcmlmemcbblaa
