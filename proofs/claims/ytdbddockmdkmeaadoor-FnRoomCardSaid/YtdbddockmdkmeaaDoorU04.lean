/- Joined: Nd No Sb. -/
import Derived.Test.YtdbddockmdkmeaaDoorU03
import Derived.StillTailTactics
import Derived.Test.YtdbddockmdkmeaaDoorSh
import Derived.Lib.OthersKept
import Derived.RangeFuncNested
import Derived.RangeFuncBound
import Derived.RangeFuncCalls
import Derived.RangeFuncLeaves
import Derived.RangeFuncBox
import Derived.Shelf.Abstract
import Derived.Shelf.RegionOpen
import Derived.OwnWalkIn
import Derived.TacticsInMore
import Derived.LoopNIn
import Derived.LoopIn
/- The nodes of a tree in memory: what holds while they are made. -/
namespace Go.Proofs.YtdbddockmdkmeaaDoor
open Go.RowKit

def upd {α : Type} (f : Nat → α) (k : Nat) (x : α) : Nat → α := fun j => if j = k then x else f j
theorem upd_same {α : Type} (f : Nat → α) (k : Nat) (x : α) : upd f k x k = x := if_pos rfl
theorem upd_ne {α : Type} (f : Nat → α) {k j : Nat} (x : α) (h : j ≠ k) : upd f k x j = f j := if_neg h

def kidsOf (l : List Seg) (i k : Nat) : List Nat := (List.range k).filter (fun j => decide (parAt l j = (i : Int)))
theorem kidsOf_succ (l : List Seg) (i k : Nat) : kidsOf l i (k + 1) = kidsOf l i k ++ if parAt l k = (i : Int) then [k] else [] := by
  unfold kidsOf
  rw [List.range_succ, List.filter_append]
  by_cases h : parAt l k = (i : Int) <;> simp [h]
theorem kidsOf_lt {l : List Seg} {i k j : Nat} (h : j ∈ kidsOf l i k) : j < k := by
  unfold kidsOf at h
  exact List.mem_range.1 (List.mem_filter.1 h).1
theorem kidsOf_par {l : List Seg} {i k j : Nat} (h : j ∈ kidsOf l i k) : parAt l j = (i : Int) := by
  unfold kidsOf at h
  simpa using (List.mem_filter.1 h).2
theorem kidsOf_none {l : List Seg} {i k : Nat} (hd : Down l k) (hk : k ≤ i) : kidsOf l i k = [] := by
  apply List.eq_nil_iff_forall_not_mem.2
  intro j hj
  have h1 := kidsOf_lt hj
  have h2 := kidsOf_par hj
  have h3 := hd j h1
  omega
theorem kidsOf_len (l : List Seg) (i k : Nat) : (kidsOf l i k).length ≤ k := by
  have := List.length_filter_le (fun j => decide (parAt l j = (i : Int))) (List.range k)
  simpa [kidsOf] using this

def nilKids : Value := .slice none 0 0
def parPtr (l : List Seg) (nb : Nat → Nat) (i : Nat) : Option Addr := if parAt l i < 0 then none else some ⟨nb (parAt l i).toNat, 0, none⟩
def ptrsOf (nb : Nat → Nat) (ks : List Nat) : List Value := ks.map fun j => ptrTo (nb j)
theorem ptrsOf_upd {nb : Nat → Nat} {k x : Nat} {ks : List Nat} (h : ∀ j ∈ ks, j ≠ k) : ptrsOf (upd nb k x) ks = ptrsOf nb ks :=
  List.map_congr_left fun j hj => by rw [upd_ne nb x (h j hj)]

/-- 'm' nodes are made, 'k' of them have been adopted (or are the root). -/
structure Nodes (w : World) (B g m k : Nat) (l : List Seg) (nb : Nat → Nat) (cv : Nat → Value) : Prop where
  row : ∃ cs, Row w g 57 cs ∧ cs.size = l.length ∧ ∀ i, i < m → cs[i]? = some (ptrTo (nb i))
  node : ∀ i s, i < k → l[i]? = some s → Row w (nb i) 106 (nodeCells s.name s.size (parPtr l nb i) (cv i))
  fresh : ∀ i s, k ≤ i → i < m → l[i]? = some s → Row w (nb i) 106 (nodeCells s.name s.size none nilKids)
  kids : ∀ i, i < k → w.ownsRow B 57 1 (cv i) (kidsOf l i k).length (ptrsOf nb (kidsOf l i k))
  apart : ∀ i j, i < m → j < m → i ≠ j → nb i ≠ nb j
  apartC : ∀ i j, i < k → j < k → i ≠ j → (cv i).ownBlock = none ∨ (cv i).ownBlock ≠ (cv j).ownBlock
  notg : ∀ i, i < k → (cv i).ownBlock ≠ some g
  low : B ≤ g ∧ ∀ i, i < m → B ≤ nb i

theorem parPtr_upd {l : List Seg} {nb : Nat → Nat} {i k x : Nat} (hd : Down l k) (hi : i < k) : parPtr l (upd nb k x) i = parPtr l nb i := by
  unfold parPtr
  have := hd i hi
  by_cases h : parAt l i < 0
  · rw [if_pos h, if_pos h]
  · rw [if_neg h, if_neg h, upd_ne nb x (by omega)]

/-- A node more is made and stored. -/
theorem Nodes.made {w : World} {B g k : Nat} {l : List Seg} {nb : Nat → Nat} {cv : Nat → Value} (h : Nodes w B g k k l nb cv) (hd : Down l k) {s : Seg} (hk : k < l.length) (hs : l[k]? = some s) (hB : B ≤ w.heap.size) (o : Obj) :
    Nodes (((w.alloc o).alloc (.cells (nodeCells s.name s.size none nilKids) 106)).setCell ⟨g, k, none⟩ (ptrTo (w.heap.size + 1))) B g (k + 1) k l (upd nb k (w.heap.size + 1)) cv := by
  have hz : (w.alloc o).heap.size = w.heap.size + 1 := by simp
  have hnew : Row ((w.alloc o).alloc (.cells (nodeCells s.name s.size none nilKids) 106)) (w.heap.size + 1) 106 (nodeCells s.name s.size none nilKids) := by
    have := Row.new (w.alloc o) 106 (nodeCells s.name s.size none nilKids)
    rw [hz] at this
    exact this
  obtain ⟨cs, hg, hcs, hci⟩ := h.row
  have hgl := hg.lt
  have hg2 : Row ((w.alloc o).alloc (.cells (nodeCells s.name s.size none nilKids) 106)) g 57 cs := (hg.alloc o).alloc _
  have hold : ∀ i t, i < k → l[i]? = some t → nb i ≠ g := fun i t hi ht he => by
    have h1 := h.node i t hi ht
    unfold Row at h1 hg
    rw [he, hg] at h1
    injection h1 with h1
    injection h1 with _ h2
    exact absurd h2 (by decide)
  have hlt : ∀ i, i < k → nb i < w.heap.size := fun i hi => (h.node i l[i] hi (List.getElem?_eq_getElem (by omega))).lt
  refine ⟨⟨_, hg2.put k _, by simpa using hcs, fun i hi => ?_⟩, fun i t hi ht => ?_, fun i t hi hi2 ht => ?_, fun i hi => ?_, fun i j hi hj hne => ?_, h.apartC, h.notg, h.low.1, fun i hi => ?_⟩
  · rcases Nat.lt_or_ge i k with hlt' | hge
    · rw [Array.getElem?_setIfInBounds_ne (by omega), hci i hlt', upd_ne nb _ (by omega)]
    · obtain rfl : i = k := by omega
      rw [Array.getElem?_setIfInBounds_self_of_lt (by omega), upd_same]
  · rw [parPtr_upd hd hi, upd_ne nb _ (by omega)]
    exact (((h.node i t hi ht).alloc o).alloc _).far (hold i t hi ht) _
  · obtain rfl : i = k := by omega
    rw [hs] at ht
    injection ht with ht
    subst ht
    rw [upd_same]
    exact hnew.far (p := ⟨g, i, none⟩) (show w.heap.size + 1 ≠ g by omega) _
  · rw [ptrsOf_upd fun j hj => by have := kidsOf_lt hj; omega]
    have h1 := ((h.kids i hi).alloc o).alloc (.cells (nodeCells s.name s.size none nilKids) 106)
    exact own_keep h1 fun b hb => Below.heap_setCell _ _ _ _ (fun he => h.notg i hi (by rw [hb, he]))
  · rcases Nat.lt_or_ge i k with h1 | h1 <;> rcases Nat.lt_or_ge j k with h2 | h2
    · rw [upd_ne nb _ (by omega), upd_ne nb _ (by omega)]
      exact h.apart i j h1 h2 hne
    · obtain rfl : j = k := by omega
      rw [upd_ne nb _ (by omega), upd_same]
      have := hlt i h1
      omega
    · obtain rfl : i = k := by omega
      rw [upd_same, upd_ne nb _ (by omega)]
      have := hlt j h2
      omega
    · omega
  · rcases Nat.lt_or_ge i k with h1 | h1
    · rw [upd_ne nb _ (by omega)]
      exact h.low.2 i h1
    · obtain rfl : i = k := by omega
      rw [upd_same]
      omega

theorem own_nil (w : World) (B : Nat) : w.ownsRow B 57 1 nilKids 0 [] := World.ownsRow_nil w B _ 1

/-- The root is adopted by none. -/
theorem Nodes.root {w : World} {B g k : Nat} {l : List Seg} {nb : Nat → Nat} {cv : Nat → Value} (h : Nodes w B g (k + 1) k l nb cv) (hd : Down l (k + 1)) (hk : k < l.length) (hp : parAt l k < 0) :
    Nodes w B g (k + 1) (k + 1) l nb (upd cv k nilKids) := by
  have hkids : ∀ i, i < k → kidsOf l i (k + 1) = kidsOf l i k := fun i _ => by rw [kidsOf_succ, if_neg (by omega), List.append_nil]
  refine ⟨h.row, fun i t hi ht => ?_, fun i t hi hi2 ht => absurd hi (by omega), fun i hi => ?_, h.apart, fun i j hi hj hne => ?_, fun i hi => ?_, h.low⟩
  · rcases Nat.lt_or_ge i k with h1 | h1
    · rw [upd_ne cv _ (by omega)]
      exact h.node i t h1 ht
    · obtain rfl : i = k := by omega
      rw [upd_same]
      have := h.fresh i t (Nat.le_refl _) (by omega) ht
      unfold parPtr
      rw [if_pos hp]
      exact this
  · rcases Nat.lt_or_ge i k with h1 | h1
    · rw [upd_ne cv _ (by omega), hkids i h1]
      exact h.kids i h1
    · obtain rfl : i = k := by omega
      rw [upd_same, kidsOf_succ, if_neg (by omega), List.append_nil, kidsOf_none (hd.mono (by omega)) (Nat.le_refl _)]
      exact own_nil w B
  · rcases Nat.lt_or_ge i k with h1 | h1
    · rcases Nat.lt_or_ge j k with h2 | h2
      · rw [upd_ne cv _ (by omega), upd_ne cv _ (by omega)]
        exact h.apartC i j h1 h2 hne
      · obtain rfl : j = k := by omega
        rw [upd_ne cv _ (by omega), upd_same]
        cases hb : (cv i).ownBlock with
        | none => exact .inl rfl
        | some b => exact .inr (by simp [nilKids, Value.ownBlock])
    · obtain rfl : i = k := by omega
      rw [upd_same]
      exact .inl rfl
  · rcases Nat.lt_or_ge i k with h1 | h1
    · rw [upd_ne cv _ (by omega)]
      exact h.notg i h1
    · obtain rfl : i = k := by omega
      rw [upd_same]
      simp [nilKids, Value.ownBlock]

/-- The new node is adopted by its parent. -/
theorem Nodes.child {w w' : World} {B g k p : Nat} {l : List Seg} {nb : Nat → Nat} {cv : Nat → Value} {s sp : Seg} {e : Ending} (h : Nodes w B g (k + 1) k l nb cv) (hd : Down l (k + 1)) (hk : k < l.length) (hs : l[k]? = some s) (hsp : l[p]? = some sp)
    (hp : parAt l k = (p : Int)) (hpk : p < k)
    (ha : Adopted w B (nb p) (nb k) (kidsOf l p k).length s.name sp.name s.size sp.size (parPtr l nb p) nilKids (cv p) (ptrsOf nb (kidsOf l p k)) e w') :
    ∃ v', Nodes w' B g (k + 1) (k + 1) l nb (upd (upd cv k nilKids) p v') := by
  obtain ⟨_, v', hc, hpr, hown, hat, honly⟩ := ha
  refine ⟨v', ?_⟩
  have hr := h.root
  have hkidsP : kidsOf l p (k + 1) = kidsOf l p k ++ [k] := by rw [kidsOf_succ, if_pos hp]
  have hkids : ∀ i, i ≠ p → kidsOf l i (k + 1) = kidsOf l i k := fun i hi => by rw [kidsOf_succ, if_neg (by omega), List.append_nil]
  obtain ⟨cs, hg, hcs, hci⟩ := h.row
  have hnode : ∀ i, i < k + 1 → ∃ c, Row w (nb i) 106 c := fun i hi => by
    rcases Nat.lt_or_ge i k with h1 | h1
    · exact ⟨_, h.node i _ h1 (List.getElem?_eq_getElem (by omega))⟩
    · exact ⟨_, h.fresh i _ h1 hi (List.getElem?_eq_getElem (by omega))⟩
  have hgn : ∀ i, i < k + 1 → g ≠ nb i := fun i hi he => by
    obtain ⟨c, h1⟩ := hnode i hi
    unfold Row at h1 hg
    rw [← he, hg] at h1
    injection h1 with h1
    injection h1 with _ h2
    exact absurd h2 (by decide)
  have hcvn : ∀ i j, i < k → j < k + 1 → (cv i).ownBlock ≠ some (nb j) := fun i j hi hj => by
    obtain ⟨c, h1⟩ := hnode j hj
    exact own_ne (h.kids i hi) h1 (by decide)
  have hgmay : ¬ (g = nb p ∨ g = nb k ∨ some g = (cv p).ownBlock) := by
    rintro (he | he | he)
    · exact hgn p (by omega) he
    · exact hgn k (by omega) he
    · exact h.notg p hpk he.symm
  have hlts : ∀ i, i < k → ∀ b, (cv i).ownBlock = some b → b < w.heap.size := fun i hi b hb => ((h.kids i hi).lt b hb).2
  refine ⟨⟨cs, honly.row hg hgmay, hcs, hci⟩, fun i t hi ht => ?_, fun i t hi hi2 ht => absurd hi (by omega), fun i hi => ?_, h.apart, ?_, fun i hi => ?_, h.low⟩
  · rcases Nat.lt_or_ge i k with h1 | h1
    · by_cases hip : i = p
      · subst hip
        rw [hsp] at ht
        injection ht with ht
        subst ht
        rw [upd_same]
        exact hpr
      · rw [upd_ne _ _ hip, upd_ne _ _ (by omega)]
        refine honly.row (h.node i t h1 ht) ?_
        rintro (he | he | he)
        · exact h.apart i p (by omega) (by omega) hip he
        · exact h.apart i k (by omega) (by omega) (by omega) he
        · exact hcvn p i hpk hi he.symm
    · obtain rfl : i = k := by omega
      rw [upd_ne _ _ (by omega), upd_same]
      rw [hs] at ht
      injection ht with ht
      subst ht
      unfold parPtr
      rw [if_neg (by omega), hp, Int.toNat_natCast]
      exact hc
  · by_cases hip : i = p
    · subst hip
      rw [upd_same, hkidsP, List.length_append]
      have : ptrsOf nb (kidsOf l i k ++ [k]) = ptrsOf nb (kidsOf l i k) ++ [ptrTo (nb k)] := by simp [ptrsOf]
      rw [this]
      exact hown
    · rw [upd_ne _ _ hip, hkids i hip]
      rcases Nat.lt_or_ge i k with h1 | h1
      · rw [upd_ne _ _ (by omega)]
        refine own_keep (h.kids i h1) fun b hb => honly.block b (hlts i h1 b hb) ?_
        rintro (he | he | he)
        · exact hcvn i p h1 (by omega) (by rw [hb, he])
        · exact hcvn i k h1 (by omega) (by rw [hb, he])
        · rcases h.apartC i p h1 hpk hip with h2 | h2
          · rw [hb] at h2; cases h2
          · exact h2 (by rw [hb, he])
      · obtain rfl : i = k := by omega
        rw [upd_same, kidsOf_none (hd.mono (by omega)) (Nat.le_refl _)]
        exact own_nil w' B
  · have hv : ∀ j, j < k → j ≠ p → v'.ownBlock = none ∨ v'.ownBlock ≠ (cv j).ownBlock := fun j hj hjp => by
      rcases hat with h1 | ⟨b, h1, h2⟩
      · rw [h1]
        exact h.apartC p j hpk hj (Ne.symm hjp)
      · right
        rw [h1]
        intro he
        have := hlts j hj b he.symm
        omega
    intro i j hi hj hne
    by_cases hip : i = p
    · subst hip
      rw [upd_same, upd_ne _ _ (Ne.symm hne)]
      rcases Nat.lt_or_ge j k with h2 | h2
      · rw [upd_ne _ _ (by omega)]
        exact hv j h2 (Ne.symm hne)
      · obtain rfl : j = k := by omega
        rw [upd_same]
        cases hb : v'.ownBlock with
        | none => exact .inl rfl
        | some b => exact .inr (by simp [nilKids, Value.ownBlock])
    · rw [upd_ne _ _ hip]
      rcases Nat.lt_or_ge i k with h1 | h1
      · rw [upd_ne _ _ (by omega)]
        by_cases hjp : j = p
        · subst hjp
          rw [upd_same]
          rcases hv i h1 hip with h2 | h2
          · rw [h2]
            cases (cv i).ownBlock with
            | none => exact .inl rfl
            | some b => exact .inr (by simp)
          · exact .inr (Ne.symm h2)
        · rw [upd_ne _ _ hjp]
          rcases Nat.lt_or_ge j k with h2 | h2
          · rw [upd_ne _ _ (by omega)]
            exact h.apartC i j h1 h2 hne
          · obtain rfl : j = k := by omega
            rw [upd_same]
            cases hb : (cv i).ownBlock with
            | none => exact .inl rfl
            | some b => exact .inr (by simp [nilKids, Value.ownBlock])
      · obtain rfl : i = k := by omega
        rw [upd_same]
        exact .inl rfl
  · by_cases hip : i = p
    · subst hip
      rw [upd_same]
      rcases hat with h1 | ⟨b, h1, h2⟩
      · rw [h1]
        exact h.notg i hpk
      · rw [h1]
        intro he
        injection he with he
        have := hg.lt
        omega
    · rw [upd_ne _ _ hip]
      rcases Nat.lt_or_ge i k with h1 | h1
      · rw [upd_ne _ _ (by omega)]
        exact h.notg i h1
      · obtain rfl : i = k := by omega
        rw [upd_same]
        simp [nilKids, Value.ownBlock]

end Go.Proofs.YtdbddockmdkmeaaDoor
/- impl.nodesOf makes the nodes of a valid tree. -/
namespace Go.Proofs.YtdbddockmdkmeaaDoor
open Go.RowKit

theorem run_make_nodes (n : Nat) (hn : n ≤ 1048576) (W : World) :
    (Instr.makeSlice 52 (.int .i64 (n : Int)) (.int .i64 (n : Int))).run Tryd.prog W = .ok (.slice (some ⟨W.heap.size, 0, none⟩) n n) (W.alloc (.cells (madeCells #[Value.pointer none] n) 57)) := by
  obtain ⟨i0, hi, hz0, hz1, hz2⟩ := info_parts info_ptr
  have hr := run_make (P := Tryd.prog) W 52 57 i0 (.pointer none) Tryd.underlying52 hi hz0 .i64 .i64 n n (by omega) (by omega) (by rw [hz2]; omega) (by omega)
  simp only [Int.toNat_natCast, hz1, Nat.mul_one] at hr
  exact hr

theorem Nodes.drew {w : World} {B g m k : Nat} {l : List Seg} {nb : Nat → Nat} {cv : Nat → Value} (h : Nodes w B g m k l nb cv) : Nodes w.drew B g m k l nb cv :=
  ⟨h.row, h.node, h.fresh, h.kids, h.apart, h.apartC, h.notg, h.low⟩
theorem Nodes.child_below {w0 w w' : World} {g k p n : Nat} {l : List Seg} {nb : Nat → Nat} {cv : Nat → Value} {nm nm' : ByteArray} {sz sz' : Int} {pp' : Option Addr} {cc : Value} {xs : List Value} {e : Ending}
    (h : Nodes w w0.heap.size g (k + 1) k l nb cv) (hb : Below w0.heap.size w0 w) (hpk : p < k) (hk : k < k + 1) (ha : Adopted w w0.heap.size (nb p) (nb k) n nm nm' sz sz' pp' cc (cv p) xs e w') : Below w0.heap.size w0 w' := by
  obtain ⟨_, v', _, _, _, _, honly⟩ := ha
  refine honly.below hb hb.size fun b hbk => ?_
  rintro (he | he | he)
  · have := h.low.2 p (by omega); omega
  · have := h.low.2 k hk; omega
  · have := ((h.kids p hpk).lt b he.symm).1; omega

/-- What is behind nodesOf where the tree is valid. -/
def NodesPost (w : World) (l : List Seg) (e : Ending) (w' : World) : Prop :=
  ∃ g nb cv, e = .returned (.slice (some ⟨g, 0, none⟩) l.length l.length) ∧ Nodes w' w.heap.size g l.length l.length l nb cv ∧ Below w.heap.size w w'

set_option maxRecDepth 100000 in
set_option maxHeartbeats 1000000 in
theorem nodesOf_any (A : Option Addr) (l : List Seg) (c : Nat) (w : World) (hw : Segs w w.heap.size A l) (hl : l.length ≤ 1048576) (hlc : l.length ≤ c) (hcm : c ≤ 9223372036854775807) (hn : Short l) (hv : validB l = true) :
    Calls Tryd.prog 49 #[.slice A l.length c] w (NodesPost w l) := by
  have HW : Hid (Segs w w.heap.size A l) := hw
  clear hw
  obtain ⟨hall, hl8, hl1⟩ := valid_all hv
  have HD := Lib.hid hall.down
  clear hall
  have hmk := run_make_nodes l.length hl
  go_enter Tryd.func49, Tryd.ntmps49
  go_wp2_with fail
  refine (treeValid_any _ _ _ _ HW.out hl hlc hcm hn).mono ?_
  rw [hv]
  rintro e w1 ⟨rfl, hb1⟩
  clear hv
  go_wp2_with fail
  have hg0 : Row (w1.alloc (.cells (madeCells #[Value.pointer none] l.length) 57)) w1.heap.size 57 (madeCells #[Value.pointer none] l.length) := Row.new _ _ _
  have hbg : Below w.heap.size w (w1.alloc (.cells (madeCells #[Value.pointer none] l.length) 57)) := hb1.alloc hb1.size _
  clear hmk
  go_loopw [14] (fun i wr => ∃ (k : Nat) (nb : Nat → Nat) (cv : Nat → Value), k ≤ l.length ∧ i = .int .i64 k ∧ Nodes wr w.heap.size w1.heap.size k k l nb cv ∧ Below w.heap.size w wr)
    (fun i _ => l.length - (intOf i).toNat)
  case atStart =>
    refine ⟨0, fun _ => 0, fun _ => nilKids, Nat.zero_le _, rfl, ⟨⟨_, hg0, ?_, fun i hi => absurd hi (by omega)⟩, fun i _ hi => absurd hi (by omega), fun i _ _ hi => absurd hi (by omega), fun i hi => absurd hi (by omega), fun i _ hi => absurd hi (by omega), fun i _ hi => absurd hi (by omega), fun i hi => absurd hi (by omega), hb1.size, fun i hi => absurd hi (by omega)⟩, hbg⟩
    rw [size_madeCells]
  case round =>
    obtain ⟨k, nb, cv, hk, rfl, hnd, hb⟩ := hrel
    clear hbg hg0
    by_cases hlt : k < l.length
    · obtain ⟨b, o, rfl, hB, hc⟩ := HW.out (by omega)
      obtain ⟨c0, c1, c2⟩ := hc k l[k] (List.getElem?_eq_getElem hlt)
      clear hc
      rw [← hb.cell hB] at c0 c1 c2
      have HS : Hid (l[k]? = some l[k]) := List.getElem?_eq_getElem hlt
      have HP : Hid _ := parAt_of (List.getElem?_eq_getElem hlt)
      have HN := Lib.hid hnd
      obtain ⟨cs, hrow, hcs, -⟩ := hnd.row
      have hG := hrow.lt
      have d : wr.cell? ⟨w1.heap.size, k, none⟩ = some (cs[k]'(by omega)) := by rw [hrow.cell, Array.getElem?_eq_getElem]
      have f := hrow.free k
      clear hnd hrow
      generalize cs[k]'_ = old at *
      clear hcs cs
      generalize l[k] = x at *
      obtain ⟨nm, sz, pa⟩ := x
      dsimp only at c0 c1 c2 HP
      have hm := HN.out.made (HD.out.mono (by omega)) hlt HS.out hb.size (.cells #[.string nm, .int .i64 sz, .int .i64 pa] 66)
      rw [World.setCell_alloc_past _ _ _ _ (by rw [World.size_alloc]; omega), World.setCell_alloc_past _ _ _ _ hG] at hm
      have hbW : Below w.heap.size w (((wr.setCell ⟨w1.heap.size, k, none⟩ (.pointer (some ⟨wr.heap.size + 1, 0, none⟩))).alloc (.cells #[.string nm, .int .i64 sz, .int .i64 pa] 66)).alloc (.cells #[.string nm, .int .i64 sz, .pointer none, .slice none 0 0] 106)) := ((hb.setCell hb1.size _).alloc (by rw [size_set]; exact hb.size) _).alloc (by rw [World.size_alloc, size_set]; have := hb.size; omega) _
      have hmW : Nodes (((wr.setCell ⟨w1.heap.size, k, none⟩ (.pointer (some ⟨wr.heap.size + 1, 0, none⟩))).alloc (.cells #[.string nm, .int .i64 sz, .int .i64 pa] 66)).alloc (.cells #[.string nm, .int .i64 sz, .pointer none, .slice none 0 0] 106)) w.heap.size w1.heap.size (k + 1) k l (upd nb k (wr.heap.size + 1)) cv := hm
      have e2 : World.cell? (((wr.setCell ⟨w1.heap.size, k, none⟩ (.pointer (some ⟨wr.heap.size + 1, 0, none⟩))).alloc (.cells #[.string nm, .int .i64 sz, .int .i64 pa] 66)).alloc (.cells #[.string nm, .int .i64 sz, .pointer none, .slice none 0 0] 106)) ⟨wr.heap.size, 2, none⟩ = some (.int .i64 pa) := by
        have h1 : Row ((wr.setCell ⟨w1.heap.size, k, none⟩ (.pointer (some ⟨wr.heap.size + 1, 0, none⟩))).alloc (.cells #[.string nm, .int .i64 sz, .int .i64 pa] 66)) wr.heap.size 66 #[.string nm, .int .i64 sz, .int .i64 pa] := by
          have := Row.new (wr.setCell ⟨w1.heap.size, k, none⟩ (.pointer (some ⟨wr.heap.size + 1, 0, none⟩))) 66 #[.string nm, .int .i64 sz, .int .i64 pa]
          rw [size_set] at this
          exact this
        exact (h1.alloc _).cell 2
      clear hm
      have hdk := HD.out k hlt
      rw [HP.out] at hdk
      obtain ⟨hd1, hd2⟩ := hdk
      have HE2 := Lib.hid e2
      have HM := Lib.hid hmW
      clear e2 hmW
      by_cases hpa : pa < 0
      · have hne : (pa != -1) = false := by
          have : pa = -1 := by omega
          rw [this]; rfl
        go_wp2
        go_roundw
        case rel => exact ⟨k + 1, _, _, by omega, by go_num, HM.out.root (HD.out.mono (by omega)) hlt (by rw [HP.out]; exact hpa), hbW⟩
        case measure => simp [intOf]; omega
      · have hne : (pa != -1) = true := by rw [bne_iff_ne]; omega
        obtain ⟨p, hp⟩ := Int.eq_ofNat_of_zero_le (show 0 ≤ pa by omega)
        subst hp
        have hpk : p < k := by omega
        have hp0 : (0 : Int) ≤ (p : Int) := Int.natCast_nonneg _
        have hpl : (p : Int) < (l.length : Int) := by omega
        have hk0 : (0 : Int) ≤ (k : Int) := Int.natCast_nonneg _
        have hkl : (k : Int) < (l.length : Int) := by omega
        go_wp2_with fail
        generalize (((wr.setCell ⟨w1.heap.size, k, none⟩ (.pointer (some ⟨wr.heap.size + 1, 0, none⟩))).alloc (.cells #[.string nm, .int .i64 sz, .int .i64 (p : Int)] 66)).alloc (.cells #[.string nm, .int .i64 sz, .pointer none, .slice none 0 0] 106)) = W3 at *
        obtain ⟨cs, hrow, hcs, hci⟩ := HM.out.row
        have gp : W3.cell? ⟨w1.heap.size, p, none⟩ = some (.pointer (some ⟨upd nb k (wr.heap.size + 1) p, 0, none⟩)) := by rw [hrow.cell]; exact hci p (by omega)
        have gk : W3.cell? ⟨w1.heap.size, k, none⟩ = some (.pointer (some ⟨upd nb k (wr.heap.size + 1) k, 0, none⟩)) := by rw [hrow.cell]; exact hci k (by omega)
        clear hrow hcs hci cs
        have e2 := HE2.out
        clear hne c0 c1 c2 d f
        generalize upd nb k (wr.heap.size + 1) = nb' at *
        go_still_tail 9, (by kernel_rfl)
        change wpList _ _ _ _ _ W3.drew
        go_wp2_with fail
        have hsp : l[p]? = some (l[p]'(by omega)) := List.getElem?_eq_getElem (by omega)
        generalize l[p]'(by omega) = sp at *
        have HSP := Lib.hid hsp
        clear hsp
        refine (adopt_any w.heap.size (nb' p) (nb' k) (kidsOf l p k).length nm sp.name sz sp.size none (parPtr l nb' p) nilKids (cv p) (ptrsOf nb' (kidsOf l p k)) W3.drew (HM.out.fresh k _ (Nat.le_refl _) (by omega) HS.out) (HM.out.node p _ hpk HSP.out) (HM.out.apart p k (by omega) (by omega) (by omega)) (HM.out.kids p hpk) hbW.drew.size (by have := kidsOf_len l p k; omega)).mono ?_
        intro e w4 ha
        have ha1 := ha.1
        subst ha1
        have hbN := HM.out.drew.child_below hbW.drew hpk (by omega) ha
        obtain ⟨v', hN⟩ := HM.out.drew.child (HD.out.mono (by omega)) hlt HS.out HSP.out HP.out hpk ha
        clear ha
        have HN4 := Lib.hid hN
        clear hN
        go_wp2
        go_roundw
        case rel => exact ⟨k + 1, _, _, by omega, by go_num, HN4.out, hbN⟩
        case measure => simp [intOf]; omega
    · obtain rfl : k = l.length := by omega
      go_wp2
      go_ret
      exact ⟨_, nb, cv, rfl, hnd, hb⟩

end Go.Proofs.YtdbddockmdkmeaaDoor

/- impl.findNode and impl.SizeOf. -/
namespace Go.Proofs.YtdbddockmdkmeaaDoor
open Go.RowKit

theorem ret_ptr {a b : Option Addr} (h : a = b) : Ending.returned (.pointer a) = .returned (.pointer b) := by rw [h]
def foundPtr (l : List Seg) (nb : Nat → Nat) (s : ByteArray) : Option Addr := if seek l s < 0 then none else some ⟨nb (seek l s).toNat, 0, none⟩

set_option maxRecDepth 100000 in
set_option maxHeartbeats 400000 in
theorem findNode_nil (s : ByteArray) (w : World) :
    Calls Tryd.prog 87 #[.slice none 0 0, .string s] w fun e w' => e = .returned (.pointer none) ∧ w = w' := by
  go_enter Tryd.func87, Tryd.ntmps87
  go_wp2
  go_loop [9] (fun i => i = .int .i64 0) (fun _ => 0)
  case atStart => rfl
  case round =>
    subst hrel
    go_wp2
    go_ret
    exact ⟨rfl, rfl⟩

set_option maxRecDepth 100000 in
set_option maxHeartbeats 400000 in
theorem findNode_any (B g : Nat) (l : List Seg) (nb : Nat → Nat) (cv : Nat → Value) (s : ByteArray) (w : World) (h : Nodes w B g l.length l.length l nb cv) (hl : l.length ≤ 1048576) :
    Calls Tryd.prog 87 #[.slice (some ⟨g, 0, none⟩) l.length l.length, .string s] w fun e w' => e = .returned (.pointer (foundPtr l nb s)) ∧ w = w' := by
  have HN := Lib.hid h
  clear h
  go_enter Tryd.func87, Tryd.ntmps87
  go_wp2
  go_loop [9] (fun i => ∃ (k : Nat), k ≤ l.length ∧ i = .int .i64 k ∧ Hid (seek l s = seekFrom s (l.drop k) k))
    (fun i => l.length - (intOf i).toNat)
  case atStart => exact ⟨0, Nat.zero_le _, rfl, rfl⟩
  case round =>
    obtain ⟨k, hk, rfl, HS⟩ := hrel
    by_cases hlt : k < l.length
    · obtain ⟨cs, hrow, _, hci⟩ := HN.out.row
      have gk : w.cell? ⟨g, k, none⟩ = some (.pointer (some ⟨nb k, 0, none⟩)) := by rw [hrow.cell]; exact hci k hlt
      have nk : w.cell? ⟨nb k, 0, none⟩ = some (.string l[k].name) := (HN.out.node k _ hlt (List.getElem?_eq_getElem hlt)).cell 0
      clear hrow hci
      have HD : Hid _ := seekFrom_drop l s k hlt
      generalize l[k] = x at *
      cases ht : (x.name.toList == s.toList) with
      | true =>
        have HE : Hid (foundPtr l nb s = some ⟨nb k, 0, none⟩) := by
          have h1 : seek l s = (k : Int) := by rw [HS.out, HD.out]; exact if_pos ht
          show foundPtr l nb s = _
          unfold foundPtr
          rw [h1, if_neg (by omega), Int.toNat_natCast]
        go_wp2
        go_ret
        exact ⟨ret_ptr HE.out.symm, rfl⟩
      | false =>
        have HE : Hid (seek l s = seekFrom s (l.drop (k + 1)) (k + 1)) := by
          show _ = _
          rw [HS.out, HD.out]
          exact if_neg (by rw [show sameB x.name s = false from ht]; decide)
        go_wp2
        go_round
        case rel => exact ⟨k + 1, by omega, by go_num, HE⟩
        case measure => simp [intOf]; omega
    · have HE : Hid (foundPtr l nb s = none) := by
        have h1 : seek l s = -1 := by rw [HS.out, List.drop_of_length_le (by omega)]; rfl
        show foundPtr l nb s = _
        unfold foundPtr
        rw [if_pos (by omega)]
      go_wp2
      go_ret
      exact ⟨ret_ptr HE.out.symm, rfl⟩

set_option maxRecDepth 100000 in
set_option maxHeartbeats 400000 in
theorem nodesOf_bad (A : Option Addr) (l : List Seg) (c : Nat) (w : World) (hw : Segs w w.heap.size A l) (hl : l.length ≤ 1048576) (hlc : l.length ≤ c) (hcm : c ≤ 9223372036854775807) (hn : Short l) (hv : validB l = false) :
    Calls Tryd.prog 49 #[.slice A l.length c] w fun e w' => e = .returned (.slice none 0 0) ∧ Below w.heap.size w w' := by
  have HW : Hid (Segs w w.heap.size A l) := hw
  clear hw
  go_enter Tryd.func49, Tryd.ntmps49
  go_wp2_with fail
  refine (treeValid_any _ _ _ _ HW.out hl hlc hcm hn).mono ?_
  rw [hv]
  rintro e w1 ⟨rfl, hb1⟩
  go_wp2
  go_ret
  exact ⟨rfl, hb1⟩

set_option maxRecDepth 100000 in
set_option maxHeartbeats 400000 in
theorem sizeOf_any (A : Option Addr) (l : List Seg) (c : Nat) (s : ByteArray) (w : World) (hw : Segs w w.heap.size A l) (hl : l.length ≤ 1048576) (hlc : l.length ≤ c) (hcm : c ≤ 9223372036854775807) (hn : Short l) :
    Calls Tryd.prog 28 #[.slice A l.length c, .string s] w fun e w' => e = .returned (.int .i64 (sizeB l s)) ∧ Below w.heap.size w w' := by
  have HW : Hid (Segs w w.heap.size A l) := hw
  clear hw
  cases hv : validB l with
  | false =>
    have HF : Hid (sizeB l s = -1) := by
      have h1 : indexB l s = -1 := if_neg (by rw [hv]; decide)
      exact if_pos (by omega)
    go_enter Tryd.func28, Tryd.ntmps28
    go_wp2_with fail
    refine (nodesOf_bad _ _ _ _ HW.out hl hlc hcm hn hv).mono ?_
    rintro e w1 ⟨rfl, hb1⟩
    go_wp2_with fail
    refine (findNode_nil _ _).mono ?_
    rintro e w2 ⟨rfl, rfl⟩
    go_wp2
    go_ret
    exact ⟨ret_int HF.out.symm, hb1⟩
  | true =>
    have HI : Hid (indexB l s = seek l s) := if_pos hv
    rcases seek_bd l s with hi | ⟨h0, hi⟩
    · have HF : Hid (sizeB l s = -1) := if_pos (by have := HI.out; omega)
      have HP : Hid (∀ nb, foundPtr l nb s = none) := fun nb => if_pos (by omega)
      clear hi
      go_enter Tryd.func28, Tryd.ntmps28
      go_wp2_with fail
      refine (nodesOf_any _ _ _ _ HW.out hl hlc hcm hn hv).mono ?_
      rintro e w1 ⟨g, nb, cv, rfl, hN, hb1⟩
      have HN := Lib.hid hN
      clear hN
      go_wp2_with fail
      refine (findNode_any _ _ _ _ _ _ _ HN.out hl).mono ?_
      rw [HP.out nb]
      rintro e w2 ⟨rfl, rfl⟩
      go_wp2
      go_ret
      exact ⟨ret_int HF.out.symm, hb1⟩
    · obtain ⟨k, hk⟩ := Int.eq_ofNat_of_zero_le h0
      have hkl : k < l.length := by omega
      have HF : Hid (sizeB l s = l[k].size) := by
        show sizeB l s = _
        unfold sizeB
        rw [HI.out, if_neg (by omega), hk, Int.toNat_natCast, sizeAt_of hkl]
      have HP : Hid (∀ nb, foundPtr l nb s = some ⟨nb k, 0, none⟩) := fun nb => by
        unfold foundPtr
        rw [if_neg (by omega), hk, Int.toNat_natCast]
      have HL : Hid (l[k]? = some l[k]) := List.getElem?_eq_getElem hkl
      clear hk hi h0
      generalize l[k] = x at *
      go_enter Tryd.func28, Tryd.ntmps28
      go_wp2_with fail
      refine (nodesOf_any _ _ _ _ HW.out hl hlc hcm hn hv).mono ?_
      rintro e w1 ⟨g, nb, cv, rfl, hN, hb1⟩
      have HN := Lib.hid hN
      clear hN
      go_wp2_with fail
      refine (findNode_any _ _ _ _ _ _ _ HN.out hl).mono ?_
      rw [HP.out nb]
      rintro e w2 ⟨rfl, rfl⟩
      have n1 : w1.cell? ⟨nb k, 1, none⟩ = some (.int .i64 x.size) := (HN.out.node k _ hkl HL.out).cell 1
      go_wp2
      go_ret
      exact ⟨ret_int HF.out.symm, hb1⟩

end Go.Proofs.YtdbddockmdkmeaaDoor
/- strings.Builder: what its two writing helpers do here. -/
namespace Go.Proofs.YtdbddockmdkmeaaDoor
open Go.RowKit

theorem bsize : (Tryd.prog.info? 56).map (·.size) = some 2 := by kernel_rfl
theorem info_byte : (Tryd.prog.info? 5).map (fun i => (i.zero, i.size, i.bytes)) = some (some (.int .u8 0), 1, 1) := by kernel_rfl

set_option maxRecDepth 100000 in
set_option maxHeartbeats 1000000 in
theorem copyCheck_used (b : Nat) (w : World) (h0 : w.cell? ⟨b, 0, none⟩ = some (.pointer (some ⟨b, 0, none⟩))) :
    Calls Tryd.prog 108 #[.pointer (some ⟨b, 0, none⟩)] w fun e w' => e = .returned (.tuple #[]) ∧ w = w' := by
  obtain ⟨j, hj, _⟩ := Option.map_eq_some_iff.1 bsize
  have HJ := Lib.hid hj
  clear hj
  go_enter Tryd.func108, Tryd.ntmps108
  go_wp2
  rw [Lib.run_neq_ptr_same w _ Tryd.underlying54 HJ.out]
  go_wp2
  go_end0
  exact ⟨rfl, rfl⟩

set_option maxRecDepth 100000 in
set_option maxHeartbeats 1000000 in
theorem copyCheck_fresh (b : Nat) (w : World) (h0 : w.cell? ⟨b, 0, none⟩ = some (.pointer none)) (hsh : w.shape? b = some (56, 2)) (hfz : w.frozen? ⟨b, 0, none⟩ = false) :
    Calls Tryd.prog 108 #[.pointer (some ⟨b, 0, none⟩)] w fun e w' => e = .returned (.tuple #[]) ∧ w' = w.setCell ⟨b, 0, none⟩ (.pointer (some ⟨b, 0, none⟩)) := by
  obtain ⟨j, hj, hjs⟩ := Option.map_eq_some_iff.1 bsize
  have HJ := Lib.hid hj
  have HS := Lib.hid hjs
  have HSH := Lib.hid hsh
  clear hj hjs hsh
  go_enter Tryd.func108, Tryd.ntmps108
  go_wp2
  rw [Lib.run_to_unsafe w ⟨b, 0, none⟩ Tryd.underlying54 Tryd.underlying130 HJ.out (by rw [HS.out]; decide) HSH.out (Nat.zero_lt_succ 1)]
  simp only [Result.andThen]
  rw [Oper.upon_value]
  go_wp2
  rw [run_callFunc_extern Tryd.func113 (by kernel_rfl) (by kernel_rfl) (by kernel_rfl) (e := Extern.AbiNoEscape.same) (by kernel_rfl)]
  rw [Lib.run_noEscape]
  simp only [Result.andThen]
  rw [Oper.upon_value]
  go_wp2
  rw [Lib.run_from_unsafe w ⟨b, 0, none⟩ Tryd.underlying130 Tryd.underlying54 HJ.out HSH.out (by kernel_rfl)]
  simp only [Result.andThen]
  rw [Oper.upon_value]
  go_wp2
  go_end0
  exact ⟨rfl, rfl⟩

/-- What a builder holds, and which blocks a writing call may turn. -/
def Wrote (w : World) (B b : Nat) (bs : List Value) (n : Nat) (e : Ending) (w' : World) : Prop :=
  e = .returned (.tuple #[.int .i64 n, .nilIface]) ∧ Lib.IsBuilderF 56 5 B b bs w' ∧ Below B w w' ∧ Lib.OthersKept 5 (some b) w w'

set_option maxRecDepth 100000 in
theorem copyCheck_any (B b : Nat) (bs : List Value) (w : World) (h : Lib.IsBuilderF 56 5 B b bs w) :
    Calls Tryd.prog 108 #[.pointer (some ⟨b, 0, none⟩)] w fun e w' => e = .returned (.tuple #[]) ∧ (Lib.BuilderAtF 56 5 B b (.pointer (some ⟨b, 0, none⟩)) bs w' ∧ Below B w w' ∧ Lib.OthersKept 5 (some b) w w') := by
  rcases h with h | h
  · refine (copyCheck_fresh b w h.cell0 h.shape h.frozen0).mono ?_
    rintro e w' ⟨rfl, rfl⟩
    exact ⟨rfl, h.used _, (Below.refl B w).setCell (p := ⟨b, 0, none⟩) h.1 _, (Lib.OthersKept.refl _ _ w).setCell ⟨b, 0, none⟩ rfl _⟩
  · refine (copyCheck_used b w h.cell0).mono ?_
    rintro e w' ⟨rfl, rfl⟩
    exact ⟨rfl, h, Below.refl B _, Lib.OthersKept.refl _ _ _⟩

set_option maxRecDepth 100000 in
set_option maxHeartbeats 1000000 in
theorem writeString_any (B b : Nat) (bs : List Value) (s : ByteArray) (w : World) (h : Lib.IsBuilderF 56 5 B b bs w) (hlen : bs.length + s.size ≤ 140737488355328) (hBw : B ≤ w.heap.size) :
    Calls Tryd.prog 82 #[.pointer (some ⟨b, 0, none⟩), .string s] w (Wrote w B b (bs ++ Lib.strCells s) s.size) := by
  obtain ⟨i0, hi, hz0, hz1, hz2⟩ := info_parts info_byte
  have I0 := Lib.hid hi
  have Z0 := Lib.hid hz0
  have Z1 := Lib.hid hz1
  have Z2 := Lib.hid hz2
  clear hi hz0 hz1 hz2
  go_enter Tryd.func82, Tryd.ntmps82
  go_wp2_with fail
  refine (copyCheck_any B b bs _ h).mono ?_
  rintro e w1 ⟨rfl, h1, hb1, hk1⟩
  obtain ⟨hB, v, hbk, hown, hne⟩ := h1
  have c0 : w1.cell? ⟨b, 0, none⟩ = some (.pointer (some ⟨b, 0, none⟩)) := by rw [Lib.cell_of_heap hbk]; rfl
  have c1 : w1.cell? ⟨b, 1, none⟩ = some v := by rw [Lib.cell_of_heap hbk]; rfl
  go_wp2_with (at_builtin; go_must (refine Lib.wpList_append_own_stringF _ rfl _ _ 22 9 rfl B 5 i0 Tryd.underlying22 Tryd.underlying9 I0.out Z0.out Z1.out Z2.out _ _ _ rfl hown s rfl ?c3 ?c4 ?c5 ?_))
  case c3 => unfold maxLen; omega
  case c4 => omega
  case c5 => have := hb1.size; omega
  intro v' w2 hown' hgrow _
  have hlt : b < w1.heap.size := (Array.getElem?_eq_some_iff.1 hbk).1
  have hb2 : w2.heap[b]? = some (.cells #[.pointer (some ⟨b, 0, none⟩), v] 56 (0, 0)) := (hgrow.block b hlt (fun e => hne e.symm)).trans hbk
  have d1 : w2.cell? ⟨b, 1, none⟩ = some v := by rw [Lib.cell_of_heap hb2]; rfl
  have f1 : w2.frozen? ⟨b, 1, none⟩ = false := Lib.frozen_of_heap hb2 1
  obtain ⟨ao, n', cap, rfl⟩ : ∃ ao n' cap, v' = .slice ao n' cap := by
    rcases hown'.2 with ⟨hv, _⟩ | ⟨g, cap, cur, fz, hv, _⟩
    · exact ⟨_, _, _, hv⟩
    · exact ⟨_, _, _, hv⟩
  have HK := Lib.hid ((hk1.grown hgrow (Lib.ownsRowF_kind hown)).setCell ⟨b, 1, none⟩ rfl (.slice ao n' cap))
  have HP := Lib.hid (Lib.BuilderAtF.put (T := 56) (e := 5) hB hb2 (bs' := bs ++ Lib.strCells s) (by simpa [Lib.strCells_length] using hown') (by decide))
  have HW := Lib.hid ((hb1.grown hgrow (by have := hb1.size; omega) (fun k hk => (hown.lt k hk).1)).setCell (p := ⟨b, 1, none⟩) hB (.slice ao n' cap))
  clear hown hown' hgrow hk1 hbk hb2 c0 c1
  go_wp2
  go_ret2
  exact ⟨rfl, .inr HP.out, HW.out, HK.out⟩

end Go.Proofs.YtdbddockmdkmeaaDoor

/- impl.joinNames over whatever iterator that yields nodes. -/
namespace Go.Proofs.YtdbddockmdkmeaaDoor
open Go.RowKit Go.Shelf
attribute [local go_sem] Oper.semAt_some

/-- The index of a segment of 'l'. -/
abbrev Ix (l : List Seg) := { j : Nat // j < l.length }
def nameBytes (l : List Seg) (xs : List (Ix l)) : List UInt8 := xs.flatMap fun x => (l[x.1]'x.2).name.data.toList
theorem nameBytes_snoc (l : List Seg) (xs : List (Ix l)) (x : Ix l) : nameBytes l (xs ++ [x]) = nameBytes l xs ++ (l[x.1]'x.2).name.data.toList := by simp [nameBytes]
theorem nameBytes_len {l : List Seg} (h : ∀ s ∈ l, s.name.size ≤ 1) : ∀ xs : List (Ix l), (nameBytes l xs).length ≤ xs.length
  | [] => by simp [nameBytes]
  | x :: xs => by
    have h1 := nameBytes_len h xs
    have h2 := h _ (List.getElem_mem x.2)
    have h3 : ((l[x.1]'x.2).name.data.toList).length = (l[x.1]'x.2).name.size := by simp
    simp only [nameBytes, List.flatMap_cons, List.length_append, List.length_cons] at h1 ⊢
    omega

theorem isB_keep {T e : TypeId} {B b : Nat} {bs : List Value} {W W' : World} (h : Lib.IsBuilderF T e B b bs W) (hk : ∀ (k : Nat) (o : Obj), W.heap[k]? = some o → o.isCells = true → W'.heap[k]? = some o) : Lib.IsBuilderF T e B b bs W' := by
  have at_ : ∀ p, Lib.BuilderAtF T e B b p bs W → Lib.BuilderAtF T e B b p bs W' := fun p hp => by
    obtain ⟨h1, v, h2, h3, h4⟩ := hp
    refine ⟨h1, v, hk _ _ h2 rfl, ⟨h3.1, ?_⟩, h4⟩
    rcases h3.2 with h5 | ⟨g, cap, cur, fz, hv, hg, hh, r⟩
    · exact .inl h5
    · exact .inr ⟨g, cap, cur, fz, hv, hg, hk _ _ hh rfl, r⟩
  exact h.elim (fun x => .inl (at_ _ x)) (fun x => .inr (at_ _ x))
theorem isB_own (T e : TypeId) (B b D : Nat) {α : Type} (f : List α → List Value) : OwnFrom D (fun (pre : List α) W => Lib.IsBuilderF T e B b (f pre) W) := fun s A A' row hs hg hr =>
  isB_keep hs fun k o ho hc => (hg.block k (Array.getElem?_eq_some_iff.1 ho).1 (fun he => by
    obtain ⟨_, o', ho', hn⟩ := hr k he.symm
    rw [ho] at ho'
    injection ho' with ho'
    subst ho'
    rw [hc] at hn
    cases hn)).trans ho
theorem kept_from {w w' : World} {b B : Nat} {e : TypeId} {Bl : Nat} (h : Lib.OthersKept e (some b) w w') (hb : Below Bl w w') {c : Array Value} {t : TypeId} {fz : Nat × Nat} (hc : w.heap[b]? = some (.cells c t fz)) : KeepsFrom B w w' := by
  refine KeepsOthers.from ⟨hb.size, fun k o ho hn => h k o ho (fun he => ?_) (fun c' fz' he => ?_)⟩ B
  · injection he with he
    subst he
    rw [hc] at ho
    injection ho with ho
    subst ho
    cases hn
  · subst he
    cases hn

set_option maxRecDepth 100000 in
set_option maxHeartbeats 2000000 in
theorem joinNames_any {gf : Nat} {lb : Array Value} (w : World) (l : List Seg) (nb : Nat → Nat) (hnode : ∀ x : Ix l, w.cell? ⟨nb x.1, 0, none⟩ = some (.string (l[x.1]'x.2).name)) (hone : ∀ s ∈ l, s.name.size ≤ 1)
    (S Sp : List (Ix l) → Prop) (N : Nat) (hN : N ≤ 1000) (heg : ∀ args w, (callFunc gf args).run Tryd.prog w = .ok (.enter gf args) w)
    (hseq : SeqStopsK Fence.wide 5 Tryd.prog gf lb (fun x : Ix l => #[.pointer (some ⟨nb x.1, 0, none⟩)]) (Below w.heap.size) S Sp N w) :
    Calls Tryd.prog 74 #[.func (.func gf) #[] lb] w fun e w' => (∃ xs, S xs ∧ e = .returned (.string ⟨(nameBytes l xs).toArray⟩)) ∧ Below w.heap.size w w' := by
  refine (callsIn_wide (n := 6)).1 ?_
  refine callsIn_of_wp_marks Tryd.func74 rfl trivial ?_ rfl
  simp only [Tryd.ntmps74, List.size_toArray, List.length_cons, List.length_nil, Nat.reduceAdd, Nat.reduceSub, Array.replicate_succ, Array.replicate_zero, List.push_toArray, List.append_toArray, List.nil_append, List.cons_append]
  gi_wp2
  have hB0 : Below w.heap.size w (w.alloc (.cells #[.pointer none, .slice none 0 0] 56)) := (Below.refl _ w).alloc (Nat.le_refl _) _
  have hI0 : Lib.IsBuilderF 56 5 w.heap.size w.heap.size [] (w.alloc (.cells #[.pointer none, .slice none 0 0] 56)) := Lib.IsBuilderF.of (Lib.fresh_isBuilder _ _ w)
  refine wpIn_rangeFunc_ownG rfl (by omega) (gf := gf) (lb := lb) rfl trivial heg hseq belowK_t (belowK_b (by simp)) hB0 (fun _ => rfl)
    (fun pre W => Lib.IsBuilderF 56 5 w.heap.size w.heap.size (Lib.byteCells (nameBytes l pre)) W ∧ Below w.heap.size w W)
    (fun _ _ _ => False)
    (OwnFrom.and (isB_own _ _ _ _ _ (fun pre => Lib.byteCells (nameBytes l pre))) (ownFrom_below (Nat.le_refl _) (by simp)))
    (fun _ _ _ _ _ hs _ _ => hs)
    ⟨hI0, hB0⟩
    (fun x => { tmps := #[.func (.func gf) #[] lb, undef, .string ⟨#[]⟩, .pointer (some ⟨w.heap.size, 0, none⟩), .pointer (some ⟨nb x.1, 0, none⟩), .func (.func gf) #[] lb, .pointer (some ⟨nb x.1, 0, none⟩), undef, undef, undef, undef, undef, undef], defers := [] }) ?assign ?body ?done ?stop
  case assign =>
    intro l x W K hK
    gi_wp2
    exact hK
  case body =>
    rintro l' pre x W ⟨hI, hB⟩ hlen
    have hlt := World.block_lt_of_cell? w _ (hnode x)
    have nk : W.cell? ⟨nb x.1, 0, none⟩ = some (.string (l[x.1]'x.2).name) := (hB.cell (p := ⟨nb x.1, 0, none⟩) hlt).trans (hnode x)
    have HN : Hid _ := nameBytes_snoc l pre x
    have hl1 : (Lib.byteCells (nameBytes l pre)).length + (l[x.1]'x.2).name.size ≤ 140737488355328 := by
      have h1 := nameBytes_len hone pre
      have h2 := hone _ (List.getElem_mem x.2)
      have h3 : (Lib.byteCells (nameBytes l pre)).length = (nameBytes l pre).length := by simp [Lib.byteCells]
      omega
    obtain ⟨cb, hcb⟩ : ∃ c, W.heap[w.heap.size]? = some (.cells c 56 (0, 0)) := by
      rcases hI with ⟨_, v, h2, _⟩ | ⟨_, v, h2, _⟩
      · exact ⟨_, h2⟩
      · exact ⟨_, h2⟩
    have HC := Lib.hid hcb
    clear hcb
    generalize (l[x.1]'x.2).name = nm at *
    gi_wp2_with (refine ⟨trivial, ?_⟩; gi_at_call 82; refine (CallsIn.inRound l' (callsIn_wide.2 (writeString_any w.heap.size w.heap.size _ nm _ hI hl1 hB.size))).mono ?_; rintro e W1 ⟨rfl, hI1, hb1, hk1⟩)
    refine ⟨kept_from hk1 hb1 HC.out, hb1, ?_, hB.trans hb1⟩
    rw [HN.out]
    have : Lib.byteCells (nameBytes l pre ++ nm.data.toList) = Lib.byteCells (nameBytes l pre) ++ Lib.strCells nm := by simp [Lib.byteCells, Lib.strCells]
    rw [this]
    exact hI1
  case done =>
    rintro D ys W hD hS ⟨hI, hB⟩ hK
    gi_wp2_with (refine ⟨trivial, ?_⟩; gi_at_call 51; refine (callsIn_wide.2 (Tryd.Builder_String_any_k w.heap.size w.heap.size _ _ hI hB.size)).mono ?_; rintro e W1 ⟨rfl, hI1, hb1, hk1⟩)
    have hbne : D ≠ w.heap.size := by simp at hD; omega
    have hK1 : W1.heap[D]? = some (.deferred (some [])) := hk1 D _ hK (fun he => hbne (by injection he)) (fun c fz he => by cases he)
    refine ⟨by simp, .inl ⟨_, _, rfl, run_takeDeferred hK1, ?_⟩⟩
    exact ⟨_, results_tmp rfl _ _ _, ⟨ys, hS, rfl⟩, (hB.trans hb1).trans (belowK_b (w := w) (Nat.le_refl _) W1 D _ _ (by simp at hD; omega) hK1 rfl rfl)⟩
  case stop =>
    rintro D c pre W _ _ h _
    exact h.elim

end Go.Proofs.YtdbddockmdkmeaaDoor
