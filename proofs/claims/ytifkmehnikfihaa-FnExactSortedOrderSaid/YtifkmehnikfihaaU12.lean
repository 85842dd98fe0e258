/- Joined: Fk Fm Lk Nd No. -/
import Derived.Test.YtifkmehnikfihaaU11
import Derived.Test.YtifkmehnikfihaaU02
import Derived.Test.YtifkmehnikfihaaU09
import Derived.Test.YtifkmehnikfihaaU01
import Derived.Test.YtifkmehnikfihaaU05
import Derived.StillTailTactics
/- The reference's l4Read and TraceValid by their contracts. -/
namespace Go.Proofs.Ytifkmehnikfihaa
open Go.RowKit

/-- What l4Read has done. -/
def ReadPost (w : World) (R : Option Forest) (e : Ending) (w' : World) : Prop :=
  ∃ v, e = .returned (.tuple #[v, .bool R.isSome]) ∧ ((∃ f, R = some f ∧ IsKids w' (fun q => w.heap.size ≤ q ∧ q < w'.heap.size) f v) ∨ (R = none ∧ ∃ A cap, v = .slice A 0 cap)) ∧ Below w.heap.size w w'

set_option maxRecDepth 100000 in
set_option maxHeartbeats 4000000 in
theorem l4Read_any (A : Option Addr) (l : List Seg) (c : Nat) (t : ByteArray) (w : World) (hw : Segs w w.heap.size A l) (hl : l.length ≤ 1048576) (hn : Short l) (ht : t.size ≤ 1048576) :
    Calls Try.prog 41 #[.slice A l.length c, .string t] w (ReadPost w (traceB l t.data.toList)) := by
  have HW : Hid (Segs w w.heap.size A l) := hw
  have hlen : t.data.toList.length = t.size := by simp
  have HT : Hid (traceB l t.data.toList = if (validB l && decide (t.size ≤ 80)) = true then whole (calls (callP l) 8 t.data.toList) else none) := by
    show _ = _
    rw [traceB_eq, hlen]
  have HLEN := Lib.hid hlen
  clear hw hlen
  have HB0 : Hid (Below w.heap.size w (w.alloc (.cells #[.string t, .int .i64 0, .bool false, .slice A l.length c, .int .i64 0] 97))) := (Below.refl _ w).alloc (Nat.le_refl _) _
  have HR0 : Hid (Row (w.alloc (.cells #[.string t, .int .i64 0, .bool false, .slice A l.length c, .int .i64 0] 97)) w.heap.size 97 (rdCells t ((0 : Nat) : Int) false (.slice A l.length c) 0)) := Row.new w _ _
  have HN : Hid (∀ (R : Option Forest) (W : World), R = none → Below w.heap.size w W → ReadPost w R (.returned (.tuple #[.slice (some ⟨W.heap.size, 0, none⟩) 0 0, .bool false])) (W.alloc (.cells #[] 74))) := fun R W h0 h1 => by
    subst h0
    exact ⟨_, rfl, .inr ⟨rfl, _, _, rfl⟩, h1.alloc h1.size _⟩
  go_enter Try.func41, Try.ntmps41
  go_wp2_with fail
  generalize w.alloc (.cells #[.string t, .int .i64 0, .bool false, .slice A l.length c, .int .i64 0] 97) = W1 at *
  have HWX : Hid (Segs W1 w.heap.size A l) := HW.out.below HB0.out
  have HQ := Lib.hid (specCalls_any w.heap.size t ht A l c hl hn 8 0 0 W1 (by omega) (by omega) (by omega) HWX.out HR0.out)
  refine Calls.mono HQ.out ?_
  rintro e w2 ⟨v, rfl, ho, (⟨F, k, hk, how, hr, hc⟩ | ⟨a, A', n', cap', rfl, ha0, ha1, hr, hc⟩)⟩
  · rw [List.drop_zero] at hc
    obtain ⟨A2, cap2, rfl⟩ := how.form
    have HB2 : Hid (Below w.heap.size w w2) := HB0.out.trans (ho.belowRow (Nat.le_of_lt HR0.out.lt))
    have hbw := HR0.out.lt
    have HZ : Hid (w.heap.size < W1.heap.size) := hbw
    have HS2 : Hid (Segs w2 w2.heap.size A l) := (HW.out.below HB2.out).more HB2.out.size
    have HK2 := Lib.hid how.kids
    have c1 : w2.cell? ⟨w.heap.size, 1, none⟩ = some (.int .i64 k) := hr.cell 1
    have c2 : w2.cell? ⟨w.heap.size, 2, none⟩ = some (.bool false) := hr.cell 2
    have HC := Lib.hid hc
    clear HQ HR0 HB0 HWX ho how hr hc hbw
    by_cases hke : k = t.size
    · have HWH : Hid (whole (calls (callP l) 8 t.data.toList) = some F) := by
        show _ = _
        rw [HC.out, hke, List.drop_of_length_le (by rw [HLEN.out]; exact Nat.le_refl _)]
        rfl
      have hneq : ((k : Int) != (t.size : Int)) = false := by rw [hke]; simp
      have heq : (k : Int) = (t.size : Int) := by omega
      by_cases h80 : 80 < t.size
      · have h80' : ¬ (t.size ≤ 80) := by omega
        have h80i : (80 : Int) < (t.size : Int) := by omega
        have HR : Hid (traceB l t.data.toList = none) := by
          show _ = _
          rw [HT.out, if_neg (by simp [h80'])]
        clear HT HC HWH hke
        have q : decide (80 < t.size) = true := decide_eq_true h80
        go_wp2
        go_ret2
        exact HN.out _ _ HR.out HB2.out
      · have h80' : t.size ≤ 80 := by omega
        have h80i : ¬ (80 : Int) < (t.size : Int) := by omega
        have q : decide (80 < t.size) = false := decide_eq_false h80
        have HTV := Lib.hid (specTreeValid_any A l c w2 HS2.out hl hn)
        cases hv : validB l with
        | false =>
          have HR : Hid (traceB l t.data.toList = none) := by
            show _ = _
            rw [HT.out, hv]; rfl
          clear HT HC HWH hke
          go_wp2_with fail
          refine Calls.mono HTV.out ?_
          rw [hv]
          clear HTV hv
          rintro e w3 ⟨rfl, hb3⟩
          have HB3 := Lib.hid (HB2.out.trans (hb3.mono HB2.out.size))
          clear hb3
          go_wp2
          go_ret2
          exact HN.out _ _ HR.out HB3.out
        | true =>
          have HR : Hid (traceB l t.data.toList = some F) := by
            show _ = _
            rw [HT.out, hv, decide_eq_true h80', HWH.out]; rfl
          clear HT HC HWH hke
          go_wp2_with fail
          refine Calls.mono HTV.out ?_
          rw [hv]
          clear HTV hv
          rintro e w3 ⟨rfl, hb3⟩
          have HB3 := Lib.hid (HB2.out.trans (hb3.mono HB2.out.size))
          have HK3 : Hid (IsKids w3 (fun q => w.heap.size ≤ q ∧ q < w3.heap.size) F (.slice A2 F.len cap2)) :=
            HK2.out.keep fun q hq => ⟨⟨by have := HZ.out; omega, Nat.lt_of_lt_of_le hq.2 hb3.size⟩, hb3.block q hq.2⟩
          clear hb3
          go_wp2
          go_ret2
          exact ⟨_, by rw [HR.out]; rfl, .inl ⟨F, HR.out, HK3.out⟩, HB3.out⟩
    · have HR : Hid (traceB l t.data.toList = none) := by
        show _ = _
        rw [HT.out, HC.out]
        have hd : t.data.toList.drop k = t[k]'(by omega) :: t.data.toList.drop (k + 1) := List.drop_eq_getElem_cons (by rw [HLEN.out]; omega)
        rw [hd]
        split <;> rfl
      have hneq : ((k : Int) != (t.size : Int)) = true := by rw [bne_iff_ne]; omega
      have hne' : ¬ (k : Int) = (t.size : Int) := by omega
      clear HT HC hke
      go_wp2
      go_ret2
      exact HN.out _ _ HR.out HB2.out
  · rw [List.drop_zero] at hc
    have HR : Hid (traceB l t.data.toList = none) := by
      show _ = _
      rw [HT.out, hc]
      split <;> rfl
    have HB2 : Hid (Below w.heap.size w w2) := HB0.out.trans (ho.belowRow (Nat.le_of_lt HR0.out.lt))
    have c2 : w2.cell? ⟨w.heap.size, 2, none⟩ = some (.bool true) := hr.cell 2
    clear HQ HR0 HB0 HWX ho hr hc HT
    go_wp2
    go_ret2
    exact HN.out _ _ HR.out HB2.out

end Go.Proofs.Ytifkmehnikfihaa
/- The reference's needs and texts of calls. -/
namespace Go.Proofs.Ytifkmehnikfihaa
open Go.RowKit

/-- What of the reference's calls is left behind those that were taken. -/
theorem IsKids.nil_or {w : World} {S : Nat → Prop} {f : Forest} {v : Value} (h : IsKids w S f v) : ∃ A cap, v = .slice A f.len cap ∧ (f.isNil = false → ∃ g, A = some ⟨g, 0, none⟩ ∧ S g ∧ SCells w S f g 0) := h
theorem SCells.kids {w : World} {S : Nat → Prop} {c : UInt8} {k r : Forest} {g o : Nat} (h : SCells w S (.cons c k r) g o) : w.cell? ⟨g, o, none⟩ = some (.string ⟨#[c]⟩) ∧ (∃ v, w.cell? ⟨g, o + 1, none⟩ = some v ∧ IsKids w S k v) ∧ SCells w S r g (o + 2) := by
  obtain ⟨h1, ⟨A, cap, h2, h3⟩, h4⟩ := h
  exact ⟨h1, ⟨_, h2, A, cap, rfl, h3⟩, h4⟩
theorem SCells.below {w w' : World} {f : Forest} {g o B : Nat} (h : SCells w (· < B) f g o) (hb : Below B w w') (hg : g < B) : SCells w' (· < B) f g o :=
  SCells.keep (fun q hq => ⟨hq, hb.block q hq⟩) f g o (hb.block g hg) h
theorem IsKids.below {w w' : World} {f : Forest} {v : Value} {B : Nat} (h : IsKids w (· < B) f v) (hb : Below B w w') : IsKids w' (· < B) f v :=
  h.keep fun q hq => ⟨hq, hb.block q hq⟩
theorem IsKids.up {w : World} {f : Forest} {v : Value} {B B' : Nat} (h : IsKids w (· < B) f v) (hB : B ≤ B') : IsKids w (· < B') f v :=
  h.keep fun _ hq => ⟨Nat.lt_of_lt_of_le hq hB, rfl⟩

/-- What the range over calls has before it. -/
def LeftS (w : World) (B : Nat) (f : Forest) (A : Option Addr) (pre rest : Forest) : Prop := f = pre.app rest ∧ (rest.isNil = false → ∃ g, A = some ⟨g, 0, none⟩ ∧ g < B ∧ SCells w (· < B) rest g (pre.len * 2))
theorem LeftS.start {w : World} {B : Nat} {f : Forest} {A : Option Addr} (h : f.isNil = false → ∃ g, A = some ⟨g, 0, none⟩ ∧ g < B ∧ SCells w (· < B) f g 0) : LeftS w B f A .nil f := ⟨rfl, h⟩
theorem LeftS.below {w w' : World} {B : Nat} {f pre rest : Forest} {A : Option Addr} (h : LeftS w B f A pre rest) (hb : Below B w w') : LeftS w' B f A pre rest := by
  refine ⟨h.1, fun hr => ?_⟩
  obtain ⟨g, e, h1, h2⟩ := h.2 hr
  exact ⟨g, e, h1, h2.below hb h1⟩
/-- One call is taken. -/
theorem LeftS.take {w : World} {B : Nat} {f pre k r : Forest} {c : UInt8} {A : Option Addr} (h : LeftS w B f A pre (.cons c k r)) :
    LeftS w B f A (pre.app (.cons c k .nil)) r ∧ pre.len < f.len ∧ k.size < f.size ∧ ∃ g v, A = some ⟨g, 0, none⟩ ∧ g < B ∧ w.cell? ⟨g, pre.len * 2, none⟩ = some (.string ⟨#[c]⟩) ∧ w.cell? ⟨g, pre.len * 2 + 1, none⟩ = some v ∧ IsKids w (· < B) k v := by
  obtain ⟨h1, h2⟩ := h
  obtain ⟨g, e, h3, h4⟩ := h2 rfl
  obtain ⟨c0, ⟨v, c1, hv⟩, hr⟩ := h4.kids
  have hl : (pre.app (.cons c k .nil)).len = pre.len + 1 := by rw [Forest.app_len]; rfl
  refine ⟨⟨?_, fun _ => ⟨g, e, h3, ?_⟩⟩, ?_, ?_, g, v, e, h3, c0, c1, hv⟩
  · rw [Forest.app_assoc]; exact h1
  · rw [hl, show (pre.len + 1) * 2 = pre.len * 2 + 2 by omega]; exact hr
  · rw [h1, Forest.app_len]; show pre.len < pre.len + (r.len + 1); omega
  · rw [h1, Forest.app_size]; show k.size < pre.size + (k.size + r.size + 1); omega
theorem LeftS.done {w : World} {B : Nat} {f pre : Forest} {A : Option Addr} (h : LeftS w B f A pre .nil) : f = pre := by rw [h.1, Forest.app_nil]

end Go.Proofs.Ytifkmehnikfihaa
/- A list that is not too large. -/
namespace Go.Proofs.Ytifkmehnikfihaa
open Go.RowKit

theorem sizeLeft_len {l : List Seg} (h : ¬ sizeLeft l < 0) : l.length ≤ 1048576 := by
  unfold sizeLeft at h
  by_cases h1 : 1048576 - (l.length : Int) < 0
  · rw [if_pos h1] at h; omega
  · omega

end Go.Proofs.Ytifkmehnikfihaa
/- The nodes of a tree in memory: what holds while they are made. -/
namespace Go.Proofs.Ytifkmehnikfihaa
open Go.RowKit

def upd {α : Type} (f : Nat → α) (k : Nat) (x : α) : Nat → α := fun j => if j = k then x else f j
theorem upd_same {α : Type} (f : Nat → α) (k : Nat) (x : α) : upd f k x k = x := if_pos rfl
theorem upd_ne {α : Type} (f : Nat → α) {k j : Nat} (x : α) (h : j ≠ k) : upd f k x j = f j := if_neg h

def kidsOf (l : List Seg) (i k : Nat) : List Nat := (List.range k).filter (fun j => decide (parAt l j = (i : Int)))
theorem kidsOf_succ (l : List Seg) (i k : Nat) : kidsOf l i (k + 1) = kidsOf l i k ++ if parAt l k = (i : Int) then [k] else [] := by
  unfold kidsOf
  rw [List.range_succ, List.filter_append]
  by_cases h : parAt l k = (i : Int) <;> simp [h]
theorem kidsOf_lt {l : List Seg} {i k j : Nat} (h : j ∈ kidsOf l i k) : j < k := by
  unfold kidsOf at h
  exact List.mem_range.1 (List.mem_filter.1 h).1
theorem kidsOf_par {l : List Seg} {i k j : Nat} (h : j ∈ kidsOf l i k) : parAt l j = (i : Int) := by
  unfold kidsOf at h
  simpa using (List.mem_filter.1 h).2
theorem kidsOf_none {l : List Seg} {i k : Nat} (hd : Down l k) (hk : k ≤ i) : kidsOf l i k = [] := by
  apply List.eq_nil_iff_forall_not_mem.2
  intro j hj
  have h1 := kidsOf_lt hj
  have h2 := kidsOf_par hj
  have h3 := hd j h1
  omega
theorem kidsOf_len (l : List Seg) (i k : Nat) : (kidsOf l i k).length ≤ k := by
  have := List.length_filter_le (fun j => decide (parAt l j = (i : Int))) (List.range k)
  simpa [kidsOf] using this

def nilKids : Value := .slice none 0 0
def parPtr (l : List Seg) (nb : Nat → Nat) (i : Nat) : Option Addr := if parAt l i < 0 then none else some ⟨nb (parAt l i).toNat, 0, none⟩
def ptrsOf (nb : Nat → Nat) (ks : List Nat) : List Value := ks.map fun j => ptrTo (nb j)
theorem ptrsOf_upd {nb : Nat → Nat} {k x : Nat} {ks : List Nat} (h : ∀ j ∈ ks, j ≠ k) : ptrsOf (upd nb k x) ks = ptrsOf nb ks :=
  List.map_congr_left fun j hj => by rw [upd_ne nb x (h j hj)]

/-- 'm' nodes are made, 'k' of them have been adopted (or are the root). -/
structure Nodes (w : World) (B g m k : Nat) (l : List Seg) (nb : Nat → Nat) (cv : Nat → Value) : Prop where
  row : ∃ cs, Row w g 92 cs ∧ cs.size = l.length ∧ ∀ i, i < m → cs[i]? = some (ptrTo (nb i))
  node : ∀ i s, i < k → l[i]? = some s → Row w (nb i) 101 (nodeCells s.name s.size (parPtr l nb i) (cv i))
  fresh : ∀ i s, k ≤ i → i < m → l[i]? = some s → Row w (nb i) 101 (nodeCells s.name s.size none nilKids)
  kids : ∀ i, i < k → w.ownsRow B 92 1 (cv i) (kidsOf l i k).length (ptrsOf nb (kidsOf l i k))
  apart : ∀ i j, i < m → j < m → i ≠ j → nb i ≠ nb j
  apartC : ∀ i j, i < k → j < k → i ≠ j → (cv i).ownBlock = none ∨ (cv i).ownBlock ≠ (cv j).ownBlock
  notg : ∀ i, i < k → (cv i).ownBlock ≠ some g
  low : B ≤ g ∧ ∀ i, i < m → B ≤ nb i

theorem parPtr_upd {l : List Seg} {nb : Nat → Nat} {i k x : Nat} (hd : Down l k) (hi : i < k) : parPtr l (upd nb k x) i = parPtr l nb i := by
  unfold parPtr
  have := hd i hi
  by_cases h : parAt l i < 0
  · rw [if_pos h, if_pos h]
  · rw [if_neg h, if_neg h, upd_ne nb x (by omega)]

/-- A node more is made and stored. -/
theorem Nodes.made {w : World} {B g k : Nat} {l : List Seg} {nb : Nat → Nat} {cv : Nat → Value} (h : Nodes w B g k k l nb cv) (hd : Down l k) {s : Seg} (hk : k < l.length) (hs : l[k]? = some s) (hB : B ≤ w.heap.size) (o : Obj) :
    Nodes (((w.alloc o).alloc (.cells (nodeCells s.name s.size none nilKids) 101)).setCell ⟨g, k, none⟩ (ptrTo (w.heap.size + 1))) B g (k + 1) k l (upd nb k (w.heap.size + 1)) cv := by
  have hz : (w.alloc o).heap.size = w.heap.size + 1 := by simp
  have hnew : Row ((w.alloc o).alloc (.cells (nodeCells s.name s.size none nilKids) 101)) (w.heap.size + 1) 101 (nodeCells s.name s.size none nilKids) := by
    have := Row.new (w.alloc o) 101 (nodeCells s.name s.size none nilKids)
    rw [hz] at this
    exact this
  obtain ⟨cs, hg, hcs, hci⟩ := h.row
  have hgl := hg.lt
  have hg2 : Row ((w.alloc o).alloc (.cells (nodeCells s.name s.size none nilKids) 101)) g 92 cs := (hg.alloc o).alloc _
  have hold : ∀ i t, i < k → l[i]? = some t → nb i ≠ g := fun i t hi ht he => by
    have h1 := h.node i t hi ht
    unfold Row at h1 hg
    rw [he, hg] at h1
    injection h1 with h1
    injection h1 with _ h2
    exact absurd h2 (by decide)
  have hlt : ∀ i, i < k → nb i < w.heap.size := fun i hi => (h.node i l[i] hi (List.getElem?_eq_getElem (by omega))).lt
  refine ⟨⟨_, hg2.put k _, by simpa using hcs, fun i hi => ?_⟩, fun i t hi ht => ?_, fun i t hi hi2 ht => ?_, fun i hi => ?_, fun i j hi hj hne => ?_, h.apartC, h.notg, h.low.1, fun i hi => ?_⟩
  · rcases Nat.lt_or_ge i k with hlt' | hge
    · rw [Array.getElem?_setIfInBounds_ne (by omega), hci i hlt', upd_ne nb _ (by omega)]
    · obtain rfl : i = k := by omega
      rw [Array.getElem?_setIfInBounds_self_of_lt (by omega), upd_same]
  · rw [parPtr_upd hd hi, upd_ne nb _ (by omega)]
    exact (((h.node i t hi ht).alloc o).alloc _).far (hold i t hi ht) _
  · obtain rfl : i = k := by omega
    rw [hs] at ht
    injection ht with ht
    subst ht
    rw [upd_same]
    exact hnew.far (p := ⟨g, i, none⟩) (show w.heap.size + 1 ≠ g by omega) _
  · rw [ptrsOf_upd fun j hj => by have := kidsOf_lt hj; omega]
    have h1 := ((h.kids i hi).alloc o).alloc (.cells (nodeCells s.name s.size none nilKids) 101)
    exact own_keep h1 fun b hb => Below.heap_setCell _ _ _ _ (fun he => h.notg i hi (by rw [hb, he]))
  · rcases Nat.lt_or_ge i k with h1 | h1 <;> rcases Nat.lt_or_ge j k with h2 | h2
    · rw [upd_ne nb _ (by omega), upd_ne nb _ (by omega)]
      exact h.apart i j h1 h2 hne
    · obtain rfl : j = k := by omega
      rw [upd_ne nb _ (by omega), upd_same]
      have := hlt i h1
      omega
    · obtain rfl : i = k := by omega
      rw [upd_same, upd_ne nb _ (by omega)]
      have := hlt j h2
      omega
    · omega
  · rcases Nat.lt_or_ge i k with h1 | h1
    · rw [upd_ne nb _ (by omega)]
      exact h.low.2 i h1
    · obtain rfl : i = k := by omega
      rw [upd_same]
      omega

theorem own_nil (w : World) (B : Nat) : w.ownsRow B 92 1 nilKids 0 [] := World.ownsRow_nil w B _ 1

/-- The root is adopted by none. -/
theorem Nodes.root {w : World} {B g k : Nat} {l : List Seg} {nb : Nat → Nat} {cv : Nat → Value} (h : Nodes w B g (k + 1) k l nb cv) (hd : Down l (k + 1)) (hk : k < l.length) (hp : parAt l k < 0) :
    Nodes w B g (k + 1) (k + 1) l nb (upd cv k nilKids) := by
  have hkids : ∀ i, i < k → kidsOf l i (k + 1) = kidsOf l i k := fun i _ => by rw [kidsOf_succ, if_neg (by omega), List.append_nil]
  refine ⟨h.row, fun i t hi ht => ?_, fun i t hi hi2 ht => absurd hi (by omega), fun i hi => ?_, h.apart, fun i j hi hj hne => ?_, fun i hi => ?_, h.low⟩
  · rcases Nat.lt_or_ge i k with h1 | h1
    · rw [upd_ne cv _ (by omega)]
      exact h.node i t h1 ht
    · obtain rfl : i = k := by omega
      rw [upd_same]
      have := h.fresh i t (Nat.le_refl _) (by omega) ht
      unfold parPtr
      rw [if_pos hp]
      exact this
  · rcases Nat.lt_or_ge i k with h1 | h1
    · rw [upd_ne cv _ (by omega), hkids i h1]
      exact h.kids i h1
    · obtain rfl : i = k := by omega
      rw [upd_same, kidsOf_succ, if_neg (by omega), List.append_nil, kidsOf_none (hd.mono (by omega)) (Nat.le_refl _)]
      exact own_nil w B
  · rcases Nat.lt_or_ge i k with h1 | h1
    · rcases Nat.lt_or_ge j k with h2 | h2
      · rw [upd_ne cv _ (by omega), upd_ne cv _ (by omega)]
        exact h.apartC i j h1 h2 hne
      · obtain rfl : j = k := by omega
        rw [upd_ne cv _ (by omega), upd_same]
        cases hb : (cv i).ownBlock with
        | none => exact .inl rfl
        | some b => exact .inr (by simp [nilKids, Value.ownBlock])
    · obtain rfl : i = k := by omega
      rw [upd_same]
      exact .inl rfl
  · rcases Nat.lt_or_ge i k with h1 | h1
    · rw [upd_ne cv _ (by omega)]
      exact h.notg i h1
    · obtain rfl : i = k := by omega
      rw [upd_same]
      simp [nilKids, Value.ownBlock]

/-- The new node is adopted by its parent. -/
theorem Nodes.child {w w' : World} {B g k p : Nat} {l : List Seg} {nb : Nat → Nat} {cv : Nat → Value} {s sp : Seg} {e : Ending} (h : Nodes w B g (k + 1) k l nb cv) (hd : Down l (k + 1)) (hk : k < l.length) (hs : l[k]? = some s) (hsp : l[p]? = some sp)
    (hp : parAt l k = (p : Int)) (hpk : p < k)
    (ha : Adopted w B (nb p) (nb k) (kidsOf l p k).length s.name sp.name s.size sp.size (parPtr l nb p) nilKids (cv p) (ptrsOf nb (kidsOf l p k)) e w') :
    ∃ v', Nodes w' B g (k + 1) (k + 1) l nb (upd (upd cv k nilKids) p v') := by
  obtain ⟨_, v', hc, hpr, hown, hat, honly⟩ := ha
  refine ⟨v', ?_⟩
  have hr := h.root
  have hkidsP : kidsOf l p (k + 1) = kidsOf l p k ++ [k] := by rw [kidsOf_succ, if_pos hp]
  have hkids : ∀ i, i ≠ p → kidsOf l i (k + 1) = kidsOf l i k := fun i hi => by rw [kidsOf_succ, if_neg (by omega), List.append_nil]
  obtain ⟨cs, hg, hcs, hci⟩ := h.row
  have hnode : ∀ i, i < k + 1 → ∃ c, Row w (nb i) 101 c := fun i hi => by
    rcases Nat.lt_or_ge i k with h1 | h1
    · exact ⟨_, h.node i _ h1 (List.getElem?_eq_getElem (by omega))⟩
    · exact ⟨_, h.fresh i _ h1 hi (List.getElem?_eq_getElem (by omega))⟩
  have hgn : ∀ i, i < k + 1 → g ≠ nb i := fun i hi he => by
    obtain ⟨c, h1⟩ := hnode i hi
    unfold Row at h1 hg
    rw [← he, hg] at h1
    injection h1 with h1
    injection h1 with _ h2
    exact absurd h2 (by decide)
  have hcvn : ∀ i j, i < k → j < k + 1 → (cv i).ownBlock ≠ some (nb j) := fun i j hi hj => by
    obtain ⟨c, h1⟩ := hnode j hj
    exact own_ne (h.kids i hi) h1 (by decide)
  have hgmay : ¬ (g = nb p ∨ g = nb k ∨ some g = (cv p).ownBlock) := by
    rintro (he | he | he)
    · exact hgn p (by omega) he
    · exact hgn k (by omega) he
    · exact h.notg p hpk he.symm
  have hlts : ∀ i, i < k → ∀ b, (cv i).ownBlock = some b → b < w.heap.size := fun i hi b hb => ((h.kids i hi).lt b hb).2
  refine ⟨⟨cs, honly.row hg hgmay, hcs, hci⟩, fun i t hi ht => ?_, fun i t hi hi2 ht => absurd hi (by omega), fun i hi => ?_, h.apart, ?_, fun i hi => ?_, h.low⟩
  · rcases Nat.lt_or_ge i k with h1 | h1
    · by_cases hip : i = p
      · subst hip
        rw [hsp] at ht
        injection ht with ht
        subst ht
        rw [upd_same]
        exact hpr
      · rw [upd_ne _ _ hip, upd_ne _ _ (by omega)]
        refine honly.row (h.node i t h1 ht) ?_
        rintro (he | he | he)
        · exact h.apart i p (by omega) (by omega) hip he
        · exact h.apart i k (by omega) (by omega) (by omega) he
        · exact hcvn p i hpk hi he.symm
    · obtain rfl : i = k := by omega
      rw [upd_ne _ _ (by omega), upd_same]
      rw [hs] at ht
      injection ht with ht
      subst ht
      unfold parPtr
      rw [if_neg (by omega), hp, Int.toNat_natCast]
      exact hc
  · by_cases hip : i = p
    · subst hip
      rw [upd_same, hkidsP, List.length_append]
      have : ptrsOf nb (kidsOf l i k ++ [k]) = ptrsOf nb (kidsOf l i k) ++ [ptrTo (nb k)] := by simp [ptrsOf]
      rw [this]
      exact hown
    · rw [upd_ne _ _ hip, hkids i hip]
      rcases Nat.lt_or_ge i k with h1 | h1
      · rw [upd_ne _ _ (by omega)]
        refine own_keep (h.kids i h1) fun b hb => honly.block b (hlts i h1 b hb) ?_
        rintro (he | he | he)
        · exact hcvn i p h1 (by omega) (by rw [hb, he])
        · exact hcvn i k h1 (by omega) (by rw [hb, he])
        · rcases h.apartC i p h1 hpk hip with h2 | h2
          · rw [hb] at h2; cases h2
          · exact h2 (by rw [hb, he])
      · obtain rfl : i = k := by omega
        rw [upd_same, kidsOf_none (hd.mono (by omega)) (Nat.le_refl _)]
        exact own_nil w' B
  · have hv : ∀ j, j < k → j ≠ p → v'.ownBlock = none ∨ v'.ownBlock ≠ (cv j).ownBlock := fun j hj hjp => by
      rcases hat with h1 | ⟨b, h1, h2⟩
      · rw [h1]
        exact h.apartC p j hpk hj (Ne.symm hjp)
      · right
        rw [h1]
        intro he
        have := hlts j hj b he.symm
        omega
    intro i j hi hj hne
    by_cases hip : i = p
    · subst hip
      rw [upd_same, upd_ne _ _ (Ne.symm hne)]
      rcases Nat.lt_or_ge j k with h2 | h2
      · rw [upd_ne _ _ (by omega)]
        exact hv j h2 (Ne.symm hne)
      · obtain rfl : j = k := by omega
        rw [upd_same]
        cases hb : v'.ownBlock with
        | none => exact .inl rfl
        | some b => exact .inr (by simp [nilKids, Value.ownBlock])
    · rw [upd_ne _ _ hip]
      rcases Nat.lt_or_ge i k with h1 | h1
      · rw [upd_ne _ _ (by omega)]
        by_cases hjp : j = p
        · subst hjp
          rw [upd_same]
          rcases hv i h1 hip with h2 | h2
          · rw [h2]
            cases (cv i).ownBlock with
            | none => exact .inl rfl
            | some b => exact .inr (by simp)
          · exact .inr (Ne.symm h2)
        · rw [upd_ne _ _ hjp]
          rcases Nat.lt_or_ge j k with h2 | h2
          · rw [upd_ne _ _ (by omega)]
            exact h.apartC i j h1 h2 hne
          · obtain rfl : j = k := by omega
            rw [upd_same]
            cases hb : (cv i).ownBlock with
            | none => exact .inl rfl
            | some b => exact .inr (by simp [nilKids, Value.ownBlock])
      · obtain rfl : i = k := by omega
        rw [upd_same]
        exact .inl rfl
  · by_cases hip : i = p
    · subst hip
      rw [upd_same]
      rcases hat with h1 | ⟨b, h1, h2⟩
      · rw [h1]
        exact h.notg i hpk
      · rw [h1]
        intro he
        injection he with he
        have := hg.lt
        omega
    · rw [upd_ne _ _ hip]
      rcases Nat.lt_or_ge i k with h1 | h1
      · rw [upd_ne _ _ (by omega)]
        exact h.notg i h1
      · obtain rfl : i = k := by omega
        rw [upd_same]
        simp [nilKids, Value.ownBlock]

end Go.Proofs.Ytifkmehnikfihaa
/- impl.nodesOf makes the nodes of a valid tree. -/
namespace Go.Proofs.Ytifkmehnikfihaa
open Go.RowKit

theorem run_make_nodes (n : Nat) (hn : n ≤ 1048576) (W : World) :
    (Instr.makeSlice 76 (.int .i64 (n : Int)) (.int .i64 (n : Int))).run Try.prog W = .ok (.slice (some ⟨W.heap.size, 0, none⟩) n n) (W.alloc (.cells (madeCells #[Value.pointer none] n) 92)) := by
  obtain ⟨i0, hi, hz0, hz1, hz2⟩ := info_parts info_ptr
  have hr := run_make (P := Try.prog) W 76 92 i0 (.pointer none) Try.underlying76 hi hz0 .i64 .i64 n n (by omega) (by omega) (by rw [hz2]; omega) (by omega)
  simp only [Int.toNat_natCast, hz1, Nat.mul_one] at hr
  exact hr

theorem Nodes.drew {w : World} {B g m k : Nat} {l : List Seg} {nb : Nat → Nat} {cv : Nat → Value} (h : Nodes w B g m k l nb cv) : Nodes w.drew B g m k l nb cv :=
  ⟨h.row, h.node, h.fresh, h.kids, h.apart, h.apartC, h.notg, h.low⟩
theorem Nodes.child_below {w0 w w' : World} {g k p n : Nat} {l : List Seg} {nb : Nat → Nat} {cv : Nat → Value} {nm nm' : ByteArray} {sz sz' : Int} {pp' : Option Addr} {cc : Value} {xs : List Value} {e : Ending}
    (h : Nodes w w0.heap.size g (k + 1) k l nb cv) (hb : Below w0.heap.size w0 w) (hpk : p < k) (hk : k < k + 1) (ha : Adopted w w0.heap.size (nb p) (nb k) n nm nm' sz sz' pp' cc (cv p) xs e w') : Below w0.heap.size w0 w' := by
  obtain ⟨_, v', _, _, _, _, honly⟩ := ha
  refine honly.below hb hb.size fun b hbk => ?_
  rintro (he | he | he)
  · have := h.low.2 p (by omega); omega
  · have := h.low.2 k hk; omega
  · have := ((h.kids p hpk).lt b he.symm).1; omega

/-- What is behind nodesOf where the tree is valid. -/
def NodesPost (w : World) (l : List Seg) (e : Ending) (w' : World) : Prop :=
  ∃ g nb cv, e = .returned (.slice (some ⟨g, 0, none⟩) l.length l.length) ∧ Nodes w' w.heap.size g l.length l.length l nb cv ∧ Below w.heap.size w w'

set_option maxRecDepth 100000 in
set_option maxHeartbeats 1000000 in
theorem nodesOf_any (A : Option Addr) (l : List Seg) (c : Nat) (w : World) (hw : Segs w w.heap.size A l) (hl : l.length ≤ 1048576) (hlc : l.length ≤ c) (hcm : c ≤ 9223372036854775807) (hn : Short l) (hv : validB l = true) :
    Calls Try.prog 43 #[.slice A l.length c] w (NodesPost w l) := by
  have HW : Hid (Segs w w.heap.size A l) := hw
  clear hw
  obtain ⟨hall, hl8, hl1⟩ := valid_all hv
  have HD := Lib.hid hall.down
  clear hall
  have hmk := run_make_nodes l.length hl
  go_enter Try.func43, Try.ntmps43
  go_wp2_with fail
  refine (treeValid_any _ _ _ _ HW.out hl hlc hcm hn).mono ?_
  rw [hv]
  rintro e w1 ⟨rfl, hb1⟩
  clear hv
  go_wp2_with fail
  have hg0 : Row (w1.alloc (.cells (madeCells #[Value.pointer none] l.length) 92)) w1.heap.size 92 (madeCells #[Value.pointer none] l.length) := Row.new _ _ _
  have hbg : Below w.heap.size w (w1.alloc (.cells (madeCells #[Value.pointer none] l.length) 92)) := hb1.alloc hb1.size _
  clear hmk
  go_loopw [14] (fun i wr => ∃ (k : Nat) (nb : Nat → Nat) (cv : Nat → Value), k ≤ l.length ∧ i = .int .i64 k ∧ Nodes wr w.heap.size w1.heap.size k k l nb cv ∧ Below w.heap.size w wr)
    (fun i _ => l.length - (intOf i).toNat)
  case atStart =>
    refine ⟨0, fun _ => 0, fun _ => nilKids, Nat.zero_le _, rfl, ⟨⟨_, hg0, ?_, fun i hi => absurd hi (by omega)⟩, fun i _ hi => absurd hi (by omega), fun i _ _ hi => absurd hi (by omega), fun i hi => absurd hi (by omega), fun i _ hi => absurd hi (by omega), fun i _ hi => absurd hi (by omega), fun i hi => absurd hi (by omega), hb1.size, fun i hi => absurd hi (by omega)⟩, hbg⟩
    rw [size_madeCells]
  case round =>
    obtain ⟨k, nb, cv, hk, rfl, hnd, hb⟩ := hrel
    clear hbg hg0
    by_cases hlt : k < l.length
    · obtain ⟨b, o, rfl, hB, hc⟩ := HW.out (by omega)
      obtain ⟨c0, c1, c2⟩ := hc k l[k] (List.getElem?_eq_getElem hlt)
      clear hc
      rw [← hb.cell hB] at c0 c1 c2
      have HS : Hid (l[k]? = some l[k]) := List.getElem?_eq_getElem hlt
      have HP : Hid _ := parAt_of (List.getElem?_eq_getElem hlt)
      have HN := Lib.hid hnd
      obtain ⟨cs, hrow, hcs, -⟩ := hnd.row
      have hG := hrow.lt
      have d : wr.cell? ⟨w1.heap.size, k, none⟩ = some (cs[k]'(by omega)) := by rw [hrow.cell, Array.getElem?_eq_getElem]
      have f := hrow.free k
      clear hnd hrow
      generalize cs[k]'_ = old at *
      clear hcs cs
      generalize l[k] = x at *
      obtain ⟨nm, sz, pa⟩ := x
      dsimp only at c0 c1 c2 HP
      have hm := HN.out.made (HD.out.mono (by omega)) hlt HS.out hb.size (.cells #[.string nm, .int .i64 sz, .int .i64 pa] 46)
      rw [World.setCell_alloc_past _ _ _ _ (by rw [World.size_alloc]; omega), World.setCell_alloc_past _ _ _ _ hG] at hm
      have hbW : Below w.heap.size w (((wr.setCell ⟨w1.heap.size, k, none⟩ (.pointer (some ⟨wr.heap.size + 1, 0, none⟩))).alloc (.cells #[.string nm, .int .i64 sz, .int .i64 pa] 46)).alloc (.cells #[.string nm, .int .i64 sz, .pointer none, .slice none 0 0] 101)) := ((hb.setCell hb1.size _).alloc (by rw [size_set]; exact hb.size) _).alloc (by rw [World.size_alloc, size_set]; have := hb.size; omega) _
      have hmW : Nodes (((wr.setCell ⟨w1.heap.size, k, none⟩ (.pointer (some ⟨wr.heap.size + 1, 0, none⟩))).alloc (.cells #[.string nm, .int .i64 sz, .int .i64 pa] 46)).alloc (.cells #[.string nm, .int .i64 sz, .pointer none, .slice none 0 0] 101)) w.heap.size w1.heap.size (k + 1) k l (upd nb k (wr.heap.size + 1)) cv := hm
      have e2 : World.cell? (((wr.setCell ⟨w1.heap.size, k, none⟩ (.pointer (some ⟨wr.heap.size + 1, 0, none⟩))).alloc (.cells #[.string nm, .int .i64 sz, .int .i64 pa] 46)).alloc (.cells #[.string nm, .int .i64 sz, .pointer none, .slice none 0 0] 101)) ⟨wr.heap.size, 2, none⟩ = some (.int .i64 pa) := by
        have h1 : Row ((wr.setCell ⟨w1.heap.size, k, none⟩ (.pointer (some ⟨wr.heap.size + 1, 0, none⟩))).alloc (.cells #[.string nm, .int .i64 sz, .int .i64 pa] 46)) wr.heap.size 46 #[.string nm, .int .i64 sz, .int .i64 pa] := by
          have := Row.new (wr.setCell ⟨w1.heap.size, k, none⟩ (.pointer (some ⟨wr.heap.size + 1, 0, none⟩))) 46 #[.string nm, .int .i64 sz, .int .i64 pa]
          rw [size_set] at this
          exact this
        exact (h1.alloc _).cell 2
      clear hm
      have hdk := HD.out k hlt
      rw [HP.out] at hdk
      obtain ⟨hd1, hd2⟩ := hdk
      have HE2 := Lib.hid e2
      have HM := Lib.hid hmW
      clear e2 hmW
      by_cases hpa : pa < 0
      · have hne : (pa != -1) = false := by
          have : pa = -1 := by omega
          rw [this]; rfl
        go_wp2
        go_roundw
        case rel => exact ⟨k + 1, _, _, by omega, by go_num, HM.out.root (HD.out.mono (by omega)) hlt (by rw [HP.out]; exact hpa), hbW⟩
        case measure => simp [intOf]; omega
      · have hne : (pa != -1) = true := by rw [bne_iff_ne]; omega
        obtain ⟨p, hp⟩ := Int.eq_ofNat_of_zero_le (show 0 ≤ pa by omega)
        subst hp
        have hpk : p < k := by omega
        have hp0 : (0 : Int) ≤ (p : Int) := Int.natCast_nonneg _
        have hpl : (p : Int) < (l.length : Int) := by omega
        have hk0 : (0 : Int) ≤ (k : Int) := Int.natCast_nonneg _
        have hkl : (k : Int) < (l.length : Int) := by omega
        go_wp2_with fail
        generalize (((wr.setCell ⟨w1.heap.size, k, none⟩ (.pointer (some ⟨wr.heap.size + 1, 0, none⟩))).alloc (.cells #[.string nm, .int .i64 sz, .int .i64 (p : Int)] 46)).alloc (.cells #[.string nm, .int .i64 sz, .pointer none, .slice none 0 0] 101)) = W3 at *
        obtain ⟨cs, hrow, hcs, hci⟩ := HM.out.row
        have gp : W3.cell? ⟨w1.heap.size, p, none⟩ = some (.pointer (some ⟨upd nb k (wr.heap.size + 1) p, 0, none⟩)) := by rw [hrow.cell]; exact hci p (by omega)
        have gk : W3.cell? ⟨w1.heap.size, k, none⟩ = some (.pointer (some ⟨upd nb k (wr.heap.size + 1) k, 0, none⟩)) := by rw [hrow.cell]; exact hci k (by omega)
        clear hrow hcs hci cs
        have e2 := HE2.out
        clear hne c0 c1 c2 d f
        generalize upd nb k (wr.heap.size + 1) = nb' at *
        go_still_tail 9, (by kernel_rfl)
        change wpList _ _ _ _ _ W3.drew
        go_wp2_with fail
        have hsp : l[p]? = some (l[p]'(by omega)) := List.getElem?_eq_getElem (by omega)
        generalize l[p]'(by omega) = sp at *
        have HSP := Lib.hid hsp
        clear hsp
        refine (adopt_any w.heap.size (nb' p) (nb' k) (kidsOf l p k).length nm sp.name sz sp.size none (parPtr l nb' p) nilKids (cv p) (ptrsOf nb' (kidsOf l p k)) W3.drew (HM.out.fresh k _ (Nat.le_refl _) (by omega) HS.out) (HM.out.node p _ hpk HSP.out) (HM.out.apart p k (by omega) (by omega) (by omega)) (HM.out.kids p hpk) hbW.drew.size (by have := kidsOf_len l p k; omega)).mono ?_
        intro e w4 ha
        have ha1 := ha.1
        subst ha1
        have hbN := HM.out.drew.child_below hbW.drew hpk (by omega) ha
        obtain ⟨v', hN⟩ := HM.out.drew.child (HD.out.mono (by omega)) hlt HS.out HSP.out HP.out hpk ha
        clear ha
        have HN4 := Lib.hid hN
        clear hN
        go_wp2
        go_roundw
        case rel => exact ⟨k + 1, _, _, by omega, by go_num, HN4.out, hbN⟩
        case measure => simp [intOf]; omega
    · obtain rfl : k = l.length := by omega
      go_wp2
      go_ret
      exact ⟨_, nb, cv, rfl, hnd, hb⟩

end Go.Proofs.Ytifkmehnikfihaa

/- impl.findNode and impl.SizeOf. -/
namespace Go.Proofs.Ytifkmehnikfihaa
open Go.RowKit

theorem ret_ptr {a b : Option Addr} (h : a = b) : Ending.returned (.pointer a) = .returned (.pointer b) := by rw [h]
def foundPtr (l : List Seg) (nb : Nat → Nat) (s : ByteArray) : Option Addr := if seek l s < 0 then none else some ⟨nb (seek l s).toNat, 0, none⟩

set_option maxRecDepth 100000 in
set_option maxHeartbeats 400000 in
theorem nodesOf_bad (A : Option Addr) (l : List Seg) (c : Nat) (w : World) (hw : Segs w w.heap.size A l) (hl : l.length ≤ 1048576) (hlc : l.length ≤ c) (hcm : c ≤ 9223372036854775807) (hn : Short l) (hv : validB l = false) :
    Calls Try.prog 43 #[.slice A l.length c] w fun e w' => e = .returned (.slice none 0 0) ∧ Below w.heap.size w w' := by
  have HW : Hid (Segs w w.heap.size A l) := hw
  clear hw
  go_enter Try.func43, Try.ntmps43
  go_wp2_with fail
  refine (treeValid_any _ _ _ _ HW.out hl hlc hcm hn).mono ?_
  rw [hv]
  rintro e w1 ⟨rfl, hb1⟩
  go_wp2
  go_ret
  exact ⟨rfl, hb1⟩

end Go.Proofs.Ytifkmehnikfihaa
