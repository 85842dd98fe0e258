/- The nodes of a tree in memory: what holds while they are made. -/
import Derived.Test.YtdbddockmdkmeaaDoorAd
namespace Go.Proofs.YtdbddockmdkmeaaDoor
open Go.RowKit

def upd {α : Type} (f : Nat → α) (k : Nat) (x : α) : Nat → α := fun j => if j = k then x else f j
theorem upd_same {α : Type} (f : Nat → α) (k : Nat) (x : α) : upd f k x k = x := if_pos rfl
theorem upd_ne {α : Type} (f : Nat → α) {k j : Nat} (x : α) (h : j ≠ k) : upd f k x j = f j := if_neg h

def kidsOf (l : List Seg) (i k : Nat) : List Nat := (List.range k).filter (fun j => decide (parAt l j = (i : Int)))
theorem kidsOf_succ (l : List Seg) (i k : Nat) : kidsOf l i (k + 1) = kidsOf l i k ++ if parAt l k = (i : Int) then [k] else [] := by
  unfold kidsOf
  rw [List.range_succ, List.filter_append]
  by_cases h : parAt l k = (i : Int) <;> simp [h]
theorem kidsOf_lt {l : List Seg} {i k j : Nat} (h : j ∈ kidsOf l i k) : j < k := by
  unfold kidsOf at h
  exact List.mem_range.1 (List.mem_filter.1 h).1
theorem kidsOf_par {l : List Seg} {i k j : Nat} (h : j ∈ kidsOf l i k) : parAt l j = (i : Int) := by
  unfold kidsOf at h
  simpa using (List.mem_filter.1 h).2
theorem kidsOf_none {l : List Seg} {i k : Nat} (hd : Down l k) (hk : k ≤ i) : kidsOf l i k = [] := by
  apply List.eq_nil_iff_forall_not_mem.2
  intro j hj
  have h1 := kidsOf_lt hj
  have h2 := kidsOf_par hj
  have h3 := hd j h1
  omega
theorem kidsOf_len (l : List Seg) (i k : Nat) : (kidsOf l i k).length ≤ k := by
  have := List.length_filter_le (fun j => decide (parAt l j = (i : Int))) (List.range k)
  simpa [kidsOf] using this

def nilKids : Value := .slice none 0 0
def parPtr (l : List Seg) (nb : Nat → Nat) (i : Nat) : Option Addr := if parAt l i < 0 then none else some ⟨nb (parAt l i).toNat, 0, none⟩
def ptrsOf (nb : Nat → Nat) (ks : List Nat) : List Value := ks.map fun j => ptrTo (nb j)
theorem ptrsOf_upd {nb : Nat → Nat} {k x : Nat} {ks : List Nat} (h : ∀ j ∈ ks, j ≠ k) : ptrsOf (upd nb k x) ks = ptrsOf nb ks :=
  List.map_congr_left fun j hj => by rw [upd_ne nb x (h j hj)]

/-- 'm' nodes are made, 'k' of them have been adopted (or are the root). -/
structure Nodes (w : World) (B g m k : Nat) (l : List Seg) (nb : Nat → Nat) (cv : Nat → Value) : Prop where
  row : ∃ cs, Row w g 57 cs ∧ cs.size = l.length ∧ ∀ i, i < m → cs[i]? = some (ptrTo (nb i))
  node : ∀ i s, i < k → l[i]? = some s → Row w (nb i) 106 (nodeCells s.name s.size (parPtr l nb i) (cv i))
  fresh : ∀ i s, k ≤ i → i < m → l[i]? = some s → Row w (nb i) 106 (nodeCells s.name s.size none nilKids)
  kids : ∀ i, i < k → w.ownsRow B 57 1 (cv i) (kidsOf l i k).length (ptrsOf nb (kidsOf l i k))
  apart : ∀ i j, i < m → j < m → i ≠ j → nb i ≠ nb j
  apartC : ∀ i j, i < k → j < k → i ≠ j → (cv i).ownBlock = none ∨ (cv i).ownBlock ≠ (cv j).ownBlock
  notg : ∀ i, i < k → (cv i).ownBlock ≠ some g
  low : B ≤ g ∧ ∀ i, i < m → B ≤ nb i

theorem parPtr_upd {l : List Seg} {nb : Nat → Nat} {i k x : Nat} (hd : Down l k) (hi : i < k) : parPtr l (upd nb k x) i = parPtr l nb i := by
  unfold parPtr
  have := hd i hi
  by_cases h : parAt l i < 0
  · rw [if_pos h, if_pos h]
  · rw [if_neg h, if_neg h, upd_ne nb x (by omega)]

/-- A node more is made and stored. -/
theorem Nodes.made {w : World} {B g k : Nat} {l : List Seg} {nb : Nat → Nat} {cv : Nat → Value} (h : Nodes w B g k k l nb cv) (hd : Down l k) {s : Seg} (hk : k < l.length) (hs : l[k]? = some s) (hB : B ≤ w.heap.size) (o : Obj) :
    Nodes (((w.alloc o).alloc (.cells (nodeCells s.name s.size none nilKids) 106)).setCell ⟨g, k, none⟩ (ptrTo (w.heap.size + 1))) B g (k + 1) k l (upd nb k (w.heap.size + 1)) cv := by
  have hz : (w.alloc o).heap.size = w.heap.size + 1 := by simp
  have hnew : Row ((w.alloc o).alloc (.cells (nodeCells s.name s.size none nilKids) 106)) (w.heap.size + 1) 106 (nodeCells s.name s.size none nilKids) := by
    have := Row.new (w.alloc o) 106 (nodeCells s.name s.size none nilKids)
    rw [hz] at this
    exact this
  obtain ⟨cs, hg, hcs, hci⟩ := h.row
  have hgl := hg.lt
  have hg2 : Row ((w.alloc o).alloc (.cells (nodeCells s.name s.size none nilKids) 106)) g 57 cs := (hg.alloc o).alloc _
  have hold : ∀ i t, i < k → l[i]? = some t → nb i ≠ g := fun i t hi ht he => by
    have h1 := h.node i t hi ht
    unfold Row at h1 hg
    rw [he, hg] at h1
    injection h1 with h1
    injection h1 with _ h2
    exact absurd h2 (by decide)
  have hlt : ∀ i, i < k → nb i < w.heap.size := fun i hi => (h.node i l[i] hi (List.getElem?_eq_getElem (by omega))).lt
  refine ⟨⟨_, hg2.put k _, by simpa using hcs, fun i hi => ?_⟩, fun i t hi ht => ?_, fun i t hi hi2 ht => ?_, fun i hi => ?_, fun i j hi hj hne => ?_, h.apartC, h.notg, h.low.1, fun i hi => ?_⟩
  · rcases Nat.lt_or_ge i k with hlt' | hge
    · rw [Array.getElem?_setIfInBounds_ne (by omega), hci i hlt', upd_ne nb _ (by omega)]
    · obtain rfl : i = k := by omega
      rw [Array.getElem?_setIfInBounds_self_of_lt (by omega), upd_same]
  · rw [parPtr_upd hd hi, upd_ne nb _ (by omega)]
    exact (((h.node i t hi ht).alloc o).alloc _).far (hold i t hi ht) _
  · obtain rfl : i = k := by omega
    rw [hs] at ht
    injection ht with ht
    subst ht
    rw [upd_same]
    exact hnew.far (p := ⟨g, i, none⟩) (show w.heap.size + 1 ≠ g by omega) _
  · rw [ptrsOf_upd fun j hj => by have := kidsOf_lt hj; omega]
    have h1 := ((h.kids i hi).alloc o).alloc (.cells (nodeCells s.name s.size none nilKids) 106)
    exact own_keep h1 fun b hb => Below.heap_setCell _ _ _ _ (fun he => h.notg i hi (by rw [hb, he]))
  · rcases Nat.lt_or_ge i k with h1 | h1 <;> rcases Nat.lt_or_ge j k with h2 | h2
    · rw [upd_ne nb _ (by omega), upd_ne nb _ (by omega)]
      exact h.apart i j h1 h2 hne
    · obtain rfl : j = k := by omega
      rw [upd_ne nb _ (by omega), upd_same]
      have := hlt i h1
      omega
    · obtain rfl : i = k := by omega
      rw [upd_same, upd_ne nb _ (by omega)]
      have := hlt j h2
      omega
    · omega
  · rcases Nat.lt_or_ge i k with h1 | h1
    · rw [upd_ne nb _ (by omega)]
      exact h.low.2 i h1
    · obtain rfl : i = k := by omega
      rw [upd_same]
      omega

theorem own_nil (w : World) (B : Nat) : w.ownsRow B 57 1 nilKids 0 [] := World.ownsRow_nil w B _ 1

/-- The root is adopted by none. -/
theorem Nodes.root {w : World} {B g k : Nat} {l : List Seg} {nb : Nat → Nat} {cv : Nat → Value} (h : Nodes w B g (k + 1) k l nb cv) (hd : Down l (k + 1)) (hk : k < l.length) (hp : parAt l k < 0) :
    Nodes w B g (k + 1) (k + 1) l nb (upd cv k nilKids) := by
  have hkids : ∀ i, i < k → kidsOf l i (k + 1) = kidsOf l i k := fun i _ => by rw [kidsOf_succ, if_neg (by omega), List.append_nil]
  refine ⟨h.row, fun i t hi ht => ?_, fun i t hi hi2 ht => absurd hi (by omega), fun i hi => ?_, h.apart, fun i j hi hj hne => ?_, fun i hi => ?_, h.low⟩
  · rcases Nat.lt_or_ge i k with h1 | h1
    · rw [upd_ne cv _ (by omega)]
      exact h.node i t h1 ht
    · obtain rfl : i = k := by omega
      rw [upd_same]
      have := h.fresh i t (Nat.le_refl _) (by omega) ht
      unfold parPtr
      rw [if_pos hp]
      exact this
  · rcases Nat.lt_or_ge i k with h1 | h1
    · rw [upd_ne cv _ (by omega), hkids i h1]
      exact h.kids i h1
    · obtain rfl : i = k := by omega
      rw [upd_same, kidsOf_succ, if_neg (by omega), List.append_nil, kidsOf_none (hd.mono (by omega)) (Nat.le_refl _)]
      exact own_nil w B
  · rcases Nat.lt_or_ge i k with h1 | h1
    · rcases Nat.lt_or_ge j k with h2 | h2
      · rw [upd_ne cv _ (by omega), upd_ne cv _ (by omega)]
        exact h.apartC i j h1 h2 hne
      · obtain rfl : j = k := by omega
        rw [upd_ne cv _ (by omega), upd_same]
        cases hb : (cv i).ownBlock with
        | none => exact .inl rfl
        | some b => exact .inr (by simp [nilKids, Value.ownBlock])
    · obtain rfl : i = k := by omega
      rw [upd_same]
      exact .inl rfl
  · rcases Nat.lt_or_ge i k with h1 | h1
    · rw [upd_ne cv _ (by omega)]
      exact h.notg i h1
    · obtain rfl : i = k := by omega
      rw [upd_same]
      simp [nilKids, Value.ownBlock]

/-- The new node is adopted by its parent. -/
theorem Nodes.child {w w' : World} {B g k p : Nat} {l : List Seg} {nb : Nat → Nat} {cv : Nat → Value} {s sp : Seg} {e : Ending} (h : Nodes w B g (k + 1) k l nb cv) (hd : Down l (k + 1)) (hk : k < l.length) (hs : l[k]? = some s) (hsp : l[p]? = some sp)
    (hp : parAt l k = (p : Int)) (hpk : p < k)
    (ha : Adopted w B (nb p) (nb k) (kidsOf l p k).length s.name sp.name s.size sp.size (parPtr l nb p) nilKids (cv p) (ptrsOf nb (kidsOf l p k)) e w') :
    ∃ v', Nodes w' B g (k + 1) (k + 1) l nb (upd (upd cv k nilKids) p v') := by
  obtain ⟨_, v', hc, hpr, hown, hat, honly⟩ := ha
  refine ⟨v', ?_⟩
  have hr := h.root
  have hkidsP : kidsOf l p (k + 1) = kidsOf l p k ++ [k] := by rw [kidsOf_succ, if_pos hp]
  have hkids : ∀ i, i ≠ p → kidsOf l i (k + 1) = kidsOf l i k := fun i hi => by rw [kidsOf_succ, if_neg (by omega), List.append_nil]
  obtain ⟨cs, hg, hcs, hci⟩ := h.row
  have hnode : ∀ i, i < k + 1 → ∃ c, Row w (nb i) 106 c := fun i hi => by
    rcases Nat.lt_or_ge i k with h1 | h1
    · exact ⟨_, h.node i _ h1 (List.getElem?_eq_getElem (by omega))⟩
    · exact ⟨_, h.fresh i _ h1 hi (List.getElem?_eq_getElem (by omega))⟩
  have hgn : ∀ i, i < k + 1 → g ≠ nb i := fun i hi he => by
    obtain ⟨c, h1⟩ := hnode i hi
    unfold Row at h1 hg
    rw [← he, hg] at h1
    injection h1 with h1
    injection h1 with _ h2
    exact absurd h2 (by decide)
  have hcvn : ∀ i j, i < k → j < k + 1 → (cv i).ownBlock ≠ some (nb j) := fun i j hi hj => by
    obtain ⟨c, h1⟩ := hnode j hj
    exact own_ne (h.kids i hi) h1 (by decide)
  have hgmay : ¬ (g = nb p ∨ g = nb k ∨ some g = (cv p).ownBlock) := by
    rintro (he | he | he)
    · exact hgn p (by omega) he
    · exact hgn k (by omega) he
    · exact h.notg p hpk he.symm
  have hlts : ∀ i, i < k → ∀ b, (cv i).ownBlock = some b → b < w.heap.size := fun i hi b hb => ((h.kids i hi).lt b hb).2
  refine ⟨⟨cs, honly.row hg hgmay, hcs, hci⟩, fun i t hi ht => ?_, fun i t hi hi2 ht => absurd hi (by omega), fun i hi => ?_, h.apart, ?_, fun i hi => ?_, h.low⟩
  · rcases Nat.lt_or_ge i k with h1 | h1
    · by_cases hip : i = p
      · subst hip
        rw [hsp] at ht
        injection ht with ht
        subst ht
        rw [upd_same]
        exact hpr
      · rw [upd_ne _ _ hip, upd_ne _ _ (by omega)]
        refine honly.row (h.node i t h1 ht) ?_
        rintro (he | he | he)
        · exact h.apart i p (by omega) (by omega) hip he
        · exact h.apart i k (by omega) (by omega) (by omega) he
        · exact hcvn p i hpk hi he.symm
    · obtain rfl : i = k := by omega
      rw [upd_ne _ _ (by omega), upd_same]
      rw [hs] at ht
      injection ht with ht
      subst ht
      unfold parPtr
      rw [if_neg (by omega), hp, Int.toNat_natCast]
      exact hc
  · by_cases hip : i = p
    · subst hip
      rw [upd_same, hkidsP, List.length_append]
      have : ptrsOf nb (kidsOf l i k ++ [k]) = ptrsOf nb (kidsOf l i k) ++ [ptrTo (nb k)] := by simp [ptrsOf]
      rw [this]
      exact hown
    · rw [upd_ne _ _ hip, hkids i hip]
      rcases Nat.lt_or_ge i k with h1 | h1
      · rw [upd_ne _ _ (by omega)]
        refine own_keep (h.kids i h1) fun b hb => honly.block b (hlts i h1 b hb) ?_
        rintro (he | he | he)
        · exact hcvn i p h1 (by omega) (by rw [hb, he])
        · exact hcvn i k h1 (by omega) (by rw [hb, he])
        · rcases h.apartC i p h1 hpk hip with h2 | h2
          · rw [hb] at h2; cases h2
          · exact h2 (by rw [hb, he])
      · obtain rfl : i = k := by omega
        rw [upd_same, kidsOf_none (hd.mono (by omega)) (Nat.le_refl _)]
        exact own_nil w' B
  · have hv : ∀ j, j < k → j ≠ p → v'.ownBlock = none ∨ v'.ownBlock ≠ (cv j).ownBlock := fun j hj hjp => by
      rcases hat with h1 | ⟨b, h1, h2⟩
      · rw [h1]
        exact h.apartC p j hpk hj (Ne.symm hjp)
      · right
        rw [h1]
        intro he
        have := hlts j hj b he.symm
        omega
    intro i j hi hj hne
    by_cases hip : i = p
    · subst hip
      rw [upd_same, upd_ne _ _ (Ne.symm hne)]
      rcases Nat.lt_or_ge j k with h2 | h2
      · rw [upd_ne _ _ (by omega)]
        exact hv j h2 (Ne.symm hne)
      · obtain rfl : j = k := by omega
        rw [upd_same]
        cases hb : v'.ownBlock with
        | none => exact .inl rfl
        | some b => exact .inr (by simp [nilKids, Value.ownBlock])
    · rw [upd_ne _ _ hip]
      rcases Nat.lt_or_ge i k with h1 | h1
      · rw [upd_ne _ _ (by omega)]
        by_cases hjp : j = p
        · subst hjp
          rw [upd_same]
          rcases hv i h1 hip with h2 | h2
          · rw [h2]
            cases (cv i).ownBlock with
            | none => exact .inl rfl
            | some b => exact .inr (by simp)
          · exact .inr (Ne.symm h2)
        · rw [upd_ne _ _ hjp]
          rcases Nat.lt_or_ge j k with h2 | h2
          · rw [upd_ne _ _ (by omega)]
            exact h.apartC i j h1 h2 hne
          · obtain rfl : j = k := by omega
            rw [upd_same]
            cases hb : (cv i).ownBlock with
            | none => exact .inl rfl
            | some b => exact .inr (by simp [nilKids, Value.ownBlock])
      · obtain rfl : i = k := by omega
        rw [upd_same]
        exact .inl rfl
  · by_cases hip : i = p
    · subst hip
      rw [upd_same]
      rcases hat with h1 | ⟨b, h1, h2⟩
      · rw [h1]
        exact h.notg i hpk
      · rw [h1]
        intro he
        injection he with he
        have := hg.lt
        omega
    · rw [upd_ne _ _ hip]
      rcases Nat.lt_or_ge i k with h1 | h1
      · rw [upd_ne _ _ (by omega)]
        exact h.notg i h1
      · obtain rfl : i = k := by omega
        rw [upd_same]
        simp [nilKids, Value.ownBlock]

end Go.Proofs.YtdbddockmdkmeaaDoor
