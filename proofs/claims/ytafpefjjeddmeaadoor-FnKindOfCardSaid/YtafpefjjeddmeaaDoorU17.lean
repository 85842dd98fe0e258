/- Joined: Gz Bb Bm Bc Bw. -/
import Derived.Test.YtafpefjjeddmeaaDoorU15
import Derived.Test.YtafpefjjeddmeaaDoorU16
import Derived.Test.YtafpefjjeddmeaaDoorU07
import Derived.Deep.RegionWith
import Derived.Test.YtafpefjjeddmeaaDoorU02
/- How often each segment is called: the program's. -/
namespace Go.Proofs.YtafpefjjeddmeaaDoor
open Go.RowKit Go.Shelf
attribute [local go_sem] Oper.semAt_some

/-- A chain as a round is handed it: never empty, never long. -/
def fixC (x : List UInt8) : List UInt8 := if x ≠ [] ∧ x.length ≤ 1000 then x else [0]
theorem fixC_ok (x : List UInt8) : fixC x ≠ [] ∧ (fixC x).length ≤ 1000 := by
  unfold fixC
  split
  · next h => exact h
  · exact ⟨by simp, by simp⟩

theorem names_apart {l : List Seg} (hv : validB l = true) {u v : Nat} (huv : u < v) (hvl : v < l.length) : (l[u]'(by omega)).name ≠ l[v].name := fun e => by
  have h1 := (valid_all hv).1 v hvl
  rw [segOk_of hvl] at h1
  simp only [Bool.and_eq_true, Bool.not_eq_true'] at h1
  have h2 := h1.1.1.2
  have h3 : takenB (l.take v) l[v].name = true := by
    refine List.any_eq_true.2 ⟨l[u]'(by omega), ?_, sameB_iff.2 e⟩
    have h4 : (l.take v)[u]? = some (l[u]'(by omega)) := by rw [List.getElem?_take_of_lt huv]; exact List.getElem?_eq_getElem (by omega)
    exact List.mem_of_getElem? h4
  rw [h3] at h2
  cases h2
theorem name_index {l : List Seg} (hv : validB l = true) {i : Nat} (hi : i < l.length) : indexB l l[i].name = (i : Int) := by
  have h1 : indexB l l[i].name = seek l l[i].name := if_pos hv
  have h2 : 0 ≤ seek l l[i].name := by
    have := seekFrom_has l[i].name l 0
    have h3 : takenB l l[i].name = true := List.any_eq_true.2 ⟨l[i], List.getElem_mem hi, sameB_iff.2 rfl⟩
    rw [h3] at this
    exact of_decide_eq_true this
  obtain ⟨j, hj⟩ := Int.eq_ofNat_of_zero_le h2
  obtain ⟨x, hx, hn⟩ := seek_name hj
  obtain ⟨hjl, rfl⟩ := List.getElem?_eq_some_iff.1 hx
  rw [h1, hj]
  rcases Nat.lt_trichotomy j i with h | h | h
  · exact absurd hn (names_apart hv h hi)
  · rw [h]
  · exact absurd hn.symm (names_apart hv h hjl)
/-- A chain ends with a segment's name just where this is the one that is called last. -/
theorem suffix_index {l : List Seg} (hv : validB l = true) {i : Nat} (hi : i < l.length) {x : List UInt8} (hx : x ≠ []) : Lib.hasSuffix x l[i].name.data.toList = decide (indexB l ⟨#[lastB x]⟩ = (i : Int)) := by
  obtain ⟨d, hd, _, _⟩ := nameOk_one (validB_names hv (List.getElem_mem hi))
  obtain ⟨y, c, rfl⟩ : ∃ y c, x = y ++ [c] := ⟨x.dropLast, x.getLast hx, (List.dropLast_concat_getLast hx).symm⟩
  have hni := name_index hv hi
  rw [hd] at hni ⊢
  rw [lastB_snoc]
  unfold Lib.hasSuffix
  show [d].isSuffixOf (y ++ [c]) = _
  have h1 : [d].isSuffixOf (y ++ [c]) = decide (d = c) := by
    by_cases h : d = c
    · subst h; simp [List.isSuffixOf_iff_suffix]
    · have : ¬ [d] <:+ y ++ [c] := fun ⟨z, hz⟩ => h (by have := congrArg List.getLast? hz; simpa using this)
      rw [decide_eq_false h, Bool.eq_false_iff]
      exact fun hh => this (List.isSuffixOf_iff_suffix.1 hh)
  rw [h1]
  by_cases h : d = c
  · subst h; rw [decide_eq_true rfl, hni]; simp
  · rw [decide_eq_false h]
    symm
    refine decide_eq_false fun e => h ?_
    rw [show indexB l ⟨#[c]⟩ = seek l ⟨#[c]⟩ from if_pos hv] at e
    obtain ⟨z, hz, hzn⟩ := seek_name (s := ⟨#[c]⟩) e
    obtain ⟨_, rfl⟩ := List.getElem?_eq_some_iff.1 hz
    rw [hd] at hzn
    injection hzn with hzn
    have h3 : [d] = [c] := congrArg Array.toList hzn
    injection h3

/-- The row while the segments are gone through for one more chain. -/
def midRow (l : List Seg) (xs : List (List UInt8)) (x : List UInt8) (k : Nat) : List Int := (List.range l.length).map fun i => (cntAt l xs i : Int) + if i < k ∧ indexB l ⟨#[lastB x]⟩ = (i : Int) then 1 else 0
theorem midRow_len (l : List Seg) (xs : List (List UInt8)) (x : List UInt8) (k : Nat) : (midRow l xs x k).length = l.length := by simp [midRow]
theorem midRow_at (l : List Seg) (xs : List (List UInt8)) (x : List UInt8) (k : Nat) {i : Nat} (hi : i < l.length) : (midRow l xs x k)[i]? = some ((cntAt l xs i : Int) + if i < k ∧ indexB l ⟨#[lastB x]⟩ = (i : Int) then 1 else 0) := by simp [midRow, hi]
theorem midRow_zero (l : List Seg) (xs : List (List UInt8)) (x : List UInt8) : midRow l xs x 0 = cntRow l xs := by simp [midRow, cntRow]
theorem midRow_end (l : List Seg) (xs : List (List UInt8)) (x : List UInt8) : midRow l xs x l.length = cntRow l (xs ++ [x]) := by
  apply List.ext_getElem?
  intro i
  by_cases hi : i < l.length
  · rw [midRow_at l _ _ _ hi, cntRow_at l _ hi, cntAt_snoc]
    by_cases h : indexB l ⟨#[lastB x]⟩ = (i : Int)
    · rw [if_pos ⟨hi, h⟩, if_pos h]; rfl
    · rw [if_neg (fun e => h e.2), if_neg h]; rfl
  · rw [List.getElem?_eq_none (by rw [midRow_len]; omega), List.getElem?_eq_none (by rw [cntRow_len]; omega)]
theorem midRow_no {l : List Seg} {xs : List (List UInt8)} {x : List UInt8} {k : Nat} (h : indexB l ⟨#[lastB x]⟩ ≠ (k : Int)) : midRow l xs x (k + 1) = midRow l xs x k := by
  unfold midRow
  refine List.map_congr_left fun i _ => ?_
  by_cases h1 : i = k
  · subst h1; rw [if_neg (fun e => h e.2), if_neg (fun e => h e.2)]
  · by_cases h2 : i < k
    · by_cases h3 : indexB l ⟨#[lastB x]⟩ = (i : Int)
      · rw [if_pos ⟨by omega, h3⟩, if_pos ⟨h2, h3⟩]
      · rw [if_neg (fun e => h3 e.2), if_neg (fun e => h3 e.2)]
    · rw [if_neg (fun e => by omega), if_neg (fun e => h2 e.1)]
theorem midRow_yes {l : List Seg} {xs : List (List UInt8)} {x : List UInt8} {k : Nat} (h : indexB l ⟨#[lastB x]⟩ = (k : Int)) (hk : k < l.length) : midRow l xs x (k + 1) = (midRow l xs x k).set k ((cntAt l xs k : Int) + 1) := by
  apply List.ext_getElem?
  intro i
  by_cases hi : i < l.length
  · rw [midRow_at l _ _ _ hi]
    by_cases hik : i = k
    · subst hik
      rw [List.getElem?_set_self (by rw [midRow_len]; exact hi), if_pos ⟨by omega, h⟩]
    · rw [List.getElem?_set_ne (fun e => hik e.symm), midRow_at l _ _ _ hi, if_neg (fun e => hik (by have := e.2; omega)), if_neg (fun e => hik (by have := e.2; omega))]
  · rw [List.getElem?_eq_none (by rw [midRow_len]; omega), List.getElem?_eq_none (by rw [List.length_set, midRow_len]; omega)]

end Go.Proofs.YtafpefjjeddmeaaDoor
/- Chains and the kinds of their last calls: plain. -/
namespace Go.Proofs.YtafpefjjeddmeaaDoor
open Go.RowKit

/-- Each chain ends with two names. -/
theorem chainsB_two {P : UInt8 → Bool} : ∀ (f : Forest) (p : List UInt8) (a : UInt8), P a = true → f.all P → ∀ x ∈ chainsB (p ++ [a]) f, ∃ y u v, x = y ++ [u, v] ∧ P u = true ∧ P v = true
  | .nil, _, _, _, _, x, h => by cases h
  | .cons c k r, p, a, ha, hp, x, h => by
    obtain ⟨h1, h2, h3⟩ := hp
    have h' : x ∈ ((p ++ [a]) ++ [c]) :: (chainsB ((p ++ [a]) ++ [c]) k ++ chainsB (p ++ [a]) r) := h
    rcases List.mem_cons.1 h' with rfl | h'
    · exact ⟨p, a, c, by simp, ha, h1⟩
    · rcases List.mem_append.1 h' with h' | h'
      · exact chainsB_two k (p ++ [a]) c h1 h2 x h'
      · exact chainsB_two r p a ha h3 x h'
theorem root_callP {l : List Seg} (hv : validB l = true) : callP l (rootB l) = true := by
  obtain ⟨s, h1, h2⟩ := root_name hv
  obtain ⟨h0, h3⟩ := List.getElem?_eq_some_iff.1 h1
  have h4 := name_index hv h0
  rw [h3, h2] at h4
  unfold callP
  rw [h4]
  rfl
/-- The name ahead of the last one. -/
def penB (x : List UInt8) : UInt8 := lastB x.dropLast
theorem ends_of (y : List UInt8) (u v : UInt8) : lastB (y ++ [u, v]) = v ∧ penB (y ++ [u, v]) = u := by
  have e : y ++ [u, v] = (y ++ [u]) ++ [v] := by simp
  refine ⟨by rw [e, lastB_snoc], ?_⟩
  unfold penB
  rw [e, List.dropLast_concat, lastB_snoc]
theorem trace_two {l : List Seg} {t : ByteArray} {f : Forest} (h : traceB l t.data.toList = some f) : ∀ x ∈ chainsB [rootB l] f, (∃ y u v, x = y ++ [u, v] ∧ callP l u = true ∧ callP l v = true) ∧ x.length ≤ 9 := fun x hx => by
  have hv := (traceB_some h).1
  refine ⟨chainsB_two f [] (rootB l) (root_callP hv) (traceB_all h) x hx, ?_⟩
  have h1 := (chainsB_bound f [rootB l] x hx).1
  have h2 := (traceB_size h).2
  simp at h1
  omega
def kNat (l : List Seg) (x : List UInt8) : Nat := (kindB l ⟨#[penB x]⟩ ⟨#[lastB x]⟩).toNat
theorem kNat_is {l : List Seg} (y : List UInt8) {u v : UInt8} (hu : callP l u = true) (hv : callP l v = true) : kindB l ⟨#[u]⟩ ⟨#[v]⟩ = (kNat l (y ++ [u, v]) : Int) ∧ kNat l (y ++ [u, v]) < 3 := by
  unfold kNat
  rw [(ends_of y u v).1, (ends_of y u v).2]
  have h : 0 ≤ kindB l ⟨#[u]⟩ ⟨#[v]⟩ ∧ kindB l ⟨#[u]⟩ ⟨#[v]⟩ ≤ 2 := by
    unfold kindB
    rw [if_pos (by unfold comOk hasSeg; unfold callP at hu hv; rw [hu, hv]; rfl)]
    exact kindIx_bd _ _ _
  omega
def kCnt (l : List Seg) (xs : List (List UInt8)) (i : Nat) : Nat := (xs.filter fun x => decide (kNat l x = i)).length
theorem kCnt_snoc (l : List Seg) (xs : List (List UInt8)) (x : List UInt8) (i : Nat) : kCnt l (xs ++ [x]) i = kCnt l xs i + if kNat l x = i then 1 else 0 := by
  unfold kCnt
  rw [List.filter_append, List.length_append]
  congr 1
  by_cases h : kNat l x = i
  · simp [h]
  · simp [h]
theorem kCnt_le (l : List Seg) (xs : List (List UInt8)) (i : Nat) : kCnt l xs i ≤ xs.length := List.length_filter_le _ _
def kRow (l : List Seg) (xs : List (List UInt8)) : List Int := (List.range 3).map fun i => (kCnt l xs i : Int)
theorem kRow_len (l : List Seg) (xs : List (List UInt8)) : (kRow l xs).length = 3 := by simp [kRow]
theorem kRow_nil (l : List Seg) : kRow l [] = [0, 0, 0] := rfl
theorem kRow_at (l : List Seg) (xs : List (List UInt8)) {i : Nat} (hi : i < 3) : (kRow l xs)[i]? = some (kCnt l xs i : Int) := by simp [kRow, hi]
theorem kRow_snoc (l : List Seg) (xs : List (List UInt8)) (x : List UInt8) {j : Nat} (hj : kNat l x = j) (hj3 : j < 3) : kRow l (xs ++ [x]) = (kRow l xs).set j ((kCnt l xs j : Int) + 1) := by
  apply List.ext_getElem?
  intro i
  by_cases hi : i < 3
  · rw [kRow_at l _ hi, kCnt_snoc, hj]
    by_cases hij : i = j
    · subst hij
      rw [List.getElem?_set_self (by rw [kRow_len]; exact hi), if_pos rfl]
      rfl
    · rw [List.getElem?_set_ne (fun e => hij e.symm), kRow_at l _ hi, if_neg (by omega)]
      rfl
  · rw [List.getElem?_eq_none (by rw [kRow_len]; omega), List.getElem?_eq_none (by rw [List.length_set, kRow_len]; omega)]
/-- How many calls of a trace are of each kind. -/
def countsRes (l : List Seg) (t : ByteArray) : List Int := match traceB l t.data.toList with
  | none => []
  | some f => kRow l (chainsB [rootB l] f)
def CountsPost (w : World) (l : List Seg) (t : ByteArray) (e : Ending) (w' : World) : Prop :=
  ∃ v, e = .returned (.tuple #[v, .bool (traceB l t.data.toList).isSome]) ∧ Si.OwnInts w' w.heap.size v (countsRes l t) ∧ Below w.heap.size w w'
theorem str_pen (p : List UInt8) (u v : UInt8) : (strOf (p ++ [u, v])).extract ((strOf (p ++ [u, v])).size - 2) ((strOf (p ++ [u, v])).size - 1) = ⟨#[u]⟩ := by
  have hs : (strOf (p ++ [u, v])).size = p.length + 2 := by rw [str_size]; simp
  rw [hs]
  apply ByteArray.ext
  rw [ByteArray.data_extract]
  apply Array.ext'
  simp [strOf]
theorem str_end (p : List UInt8) (u v : UInt8) : (strOf (p ++ [u, v])).extract ((strOf (p ++ [u, v])).size - 1) (strOf (p ++ [u, v])).size = ⟨#[v]⟩ := by
  have := str_last (p ++ [u]) v
  rwa [List.append_assoc] at this

end Go.Proofs.YtafpefjjeddmeaaDoor
/- A row of numbers that lies in an array of the call's own: what KindCounts hands back. -/
namespace Go.Proofs.YtafpefjjeddmeaaDoor.Sa3
open Go.RowKit
open Si (Ints Ints.below Ints.more imarked imarked_len imarked_at)

def OwnInts (w : World) (B : Nat) (v : Value) (ts : List Int) : Prop := w.ownsRow B 49 1 v ts.length (ts.map (Value.int .i64))
theorem OwnInts.far {w w' : World} {B : Nat} {v : Value} {ts : List Int} (h : OwnInts w B v ts) (hk : ∀ g, v.ownBlock = some g → w'.heap[g]? = w.heap[g]?) : OwnInts w' B v ts := by
  refine ⟨h.1, ?_⟩
  rcases h.2 with h0 | ⟨g', cap, cur, rfl, hg, hh, r⟩
  · exact .inl h0
  · exact .inr ⟨g', cap, cur, rfl, hg, (hk g' rfl).trans hh, r⟩
theorem OwnInts.below {w w' : World} {B : Nat} {v : Value} {ts : List Int} (h : OwnInts w B v ts) (hb : Below w.heap.size w w') : OwnInts w' B v ts := h.far fun g hg => hb.block g (World.ownsRow.lt h g hg).2
theorem intsCell {w : World} {B g cap : Nat} {ts : List Int} (h : OwnInts w B (.slice (some ⟨g, 0, none⟩) ts.length cap) ts) {i : Nat} {s : Int} (hi : ts[i]? = some s) : w.cell? ⟨g, i, none⟩ = some (.int .i64 s) := by
  have hlt := (List.getElem?_eq_some_iff.1 hi).1
  have := World.ownsRow.cellAt h i (by omega)
  rw [this, List.getElem?_map, hi]
  rfl
theorem intsForm {w : World} {B : Nat} {v : Value} {ts : List Int} (h : OwnInts w B v ts) : ∃ A cap, v = .slice A ts.length cap ∧ Ints w w.heap.size A ts := by
  have h' := h
  rcases h.2 with ⟨rfl, h0⟩ | ⟨g, cap, cur, rfl, hg, hh, r⟩
  · exact ⟨none, 0, by rw [h0], fun h => absurd h (by omega)⟩
  · refine ⟨_, cap, rfl, fun _ => ⟨g, 0, rfl, (Array.getElem?_eq_some_iff.1 hh).1, fun k s hk => ?_⟩⟩
    rw [Nat.zero_add]
    exact intsCell h' hk
theorem intsOf {w : World} {B n cap : Nat} {A : Option Addr} {ts : List Int} (h : OwnInts w B (.slice A n cap) ts) : Ints w w.heap.size A ts := by
  obtain ⟨A', cap', e, h'⟩ := intsForm h
  injection e with e1 e2 e3
  rw [e1]
  exact h'
theorem intsFree {w : World} {B g cap n : Nat} {ts : List Int} (h : OwnInts w B (.slice (some ⟨g, 0, none⟩) n cap) ts) (j : Nat) : w.frozen? ⟨g, j, none⟩ = false := by
  rcases h.2 with ⟨h0, _⟩ | ⟨g', cap', cur, hv, hg, hh, _⟩
  · cases h0
  · injection hv with hv1 _ hv3
    injection hv1 with hv1
    injection hv1 with hv1
    subst hv1
    exact Row.free (hh : Row w g _ cur) j
theorem intsStore {w : World} {B g cap : Nat} {ts : List Int} (h : OwnInts w B (.slice (some ⟨g, 0, none⟩) ts.length cap) ts) (i : Nat) (s : Int) :
    OwnInts (w.setCell ⟨g, i, none⟩ (.int .i64 s)) B (.slice (some ⟨g, 0, none⟩) ts.length cap) (ts.set i s) := by
  unfold OwnInts at h ⊢
  rw [List.length_set]
  refine ⟨by simp, ?_⟩
  rcases h.2 with ⟨h0, _⟩ | ⟨g', cap', cur, hv, hg, hh, h1, h2, h3, h4⟩
  · cases h0
  · injection hv with hv1 _ hv3
    injection hv1 with hv1
    injection hv1 with hv1
    subst hv1 hv3
    have hr : Row w g 49 cur := hh
    refine .inr ⟨g, cap, _, rfl, hg, hr.put i _, h1, h2, by simpa using h3, ?_⟩
    rw [List.map_set, ← h4]
    simp only [Array.toList_setIfInBounds, List.take_set]
theorem intsFar {w w' : World} {B : Nat} {v : Value} {ts : List Int} {may : Nat → Prop} (h : OwnInts w B v ts) (ho : Only w w' may) (hm : ∀ g, v.ownBlock = some g → ¬ may g) : OwnInts w' B v ts :=
  h.far fun g hg => ho.block g (World.ownsRow.lt h g hg).2 (hm g hg)
end Go.Proofs.YtafpefjjeddmeaaDoor.Sa3

namespace Go.Proofs.YtafpefjjeddmeaaDoor
open Go.RowKit

end Go.Proofs.YtafpefjjeddmeaaDoor
/- KindCounts on both sides. -/
namespace Go.Proofs.YtafpefjjeddmeaaDoor
open Go.RowKit

theorem OwnInts_three (W : World) {B : Nat} (hB : B ≤ W.heap.size) (l : List Seg) : Si.OwnInts (W.alloc (.cells #[.int .i64 0, .int .i64 0, .int .i64 0] 3)) B (.slice (some ⟨W.heap.size, 0, none⟩) 3 3) (kRow l []) := by
  have := World.ownsRow_lit (base := B) (e := 3) (size := 1) W #[.int .i64 0, .int .i64 0, .int .i64 0] 3 hB (by unfold maxLen; omega) rfl
  exact this

set_option maxRecDepth 100000 in
set_option maxHeartbeats 2000000 in
theorem specKindCounts_any (A : Option Addr) (l : List Seg) (c : Nat) (t : ByteArray) (w : World) (hw : Segs w w.heap.size A l) (hl : l.length ≤ 1048576) (hn : Short l) (ht : t.size ≤ 1048576) :
    Calls Tryd.prog 9 #[.slice A l.length c, .string t] w (CountsPost w l t) := by
  have HW : Hid (Segs w w.heap.size A l) := hw
  have HQ := Lib.hid (specChainsOf_any A l c t w hw hl hn ht)
  unfold CountsPost countsRes
  unfold ChainsResPost chainsRes at HQ
  cases hR : traceB l t.data.toList with
  | none =>
    rw [hR] at HQ
    have HE : Hid (∀ W : World, Below w.heap.size w W → ∃ v, Ending.returned (.tuple #[.slice (some ⟨W.heap.size, 0, none⟩) 0 0, .bool false]) = .returned (.tuple #[v, .bool (none : Option Forest).isSome]) ∧ Si.OwnInts (W.alloc (.cells #[] 3)) w.heap.size v [] ∧ Below w.heap.size w (W.alloc (.cells #[] 3))) :=
      fun W hb => ⟨_, rfl, Si.OwnInts.empty W hb.size, hb.alloc hb.size _⟩
    clear hw hn hR
    go_enter Tryd.func9, Tryd.ntmps9
    go_wp2_with fail
    refine Calls.mono HQ.out ?_
    rintro e w2 ⟨v, rfl, -, hb⟩
    go_wp2
    go_ret2
    exact HE.out _ hb
  | some f =>
    have HN : Hid ((chainsB [rootB l] f).length = f.size) := chainsB_len f [rootB l]
    have HA := Lib.hid (trace_two hR)
    have hsz := (traceB_size hR).1
    have HI := Lib.hid (fun s u W h => specKind_any A l c s u W h hl hn)
    rw [hR] at HQ
    have HQ : Hid (Calls Tryd.prog 23 #[.slice A l.length c, .string t] w fun e w' => ∃ v, e = .returned (.tuple #[v, .bool true]) ∧ OwnTexts w' w.heap.size v ((chainsB [rootB l] f).map strOf) ∧ Below w.heap.size w w') := HQ
    have HE : Hid (∀ (v : Value) (W : World), Si.OwnInts W w.heap.size v (kRow l (chainsB [rootB l] f)) → Below w.heap.size w W → ∃ u, Ending.returned (.tuple #[v, .bool true]) = .returned (.tuple #[u, .bool (some f).isSome]) ∧ Si.OwnInts W w.heap.size u (kRow l (chainsB [rootB l] f)) ∧ Below w.heap.size w W) :=
      fun v W h hb => ⟨v, rfl, h, hb⟩
    clear hw hn hR
    show Calls Tryd.prog 9 #[.slice A l.length c, .string t] w fun e w' => ∃ v, e = .returned (.tuple #[v, .bool true]) ∧ Si.OwnInts w' w.heap.size v (kRow l (chainsB [rootB l] f)) ∧ Below w.heap.size w w'
    generalize chainsB [rootB l] f = xs at *
    have HTS : Hid ((xs.map strOf).length = xs.length) := List.length_map _
    have HC : Hid (∀ k (hk : k < xs.length), (xs.map strOf)[k]? = some (strOf xs[k])) := fun k hk => by rw [List.getElem?_map, List.getElem?_eq_getElem hk]; rfl
    generalize xs.map strOf = ts at *
    have htl : ts.length ≤ 80 := by rw [HTS.out, HN.out]; exact hsz
    go_enter Tryd.func9, Tryd.ntmps9
    go_wp2_with fail
    refine Calls.mono HQ.out ?_
    rintro e w2 ⟨v, rfl, ho, hb⟩
    obtain ⟨A2, cap2, rfl, -⟩ := St.textsForm ho
    have HB := Lib.hid hb
    have HO := Lib.hid ho
    have HM0 := Lib.hid (OwnInts_three w2 hb.size l)
    have HB0 : Hid (Below w2.heap.size w2 (w2.alloc (.cells #[.int .i64 0, .int .i64 0, .int .i64 0] 3))) := (Below.refl _ w2).alloc (Nat.le_refl _) _
    clear ho hb
    go_wp2
    go_loopw [23] (fun i wr => ∃ k : Nat, k ≤ ts.length ∧ i = .int .i64 k ∧ Hid (Si.OwnInts wr w.heap.size (.slice (some ⟨w2.heap.size, 0, none⟩) 3 3) (kRow l (xs.take k))) ∧ Hid (Below w2.heap.size w2 wr) ∧ Hid (w2.heap.size < wr.heap.size))
      (fun i _ => ts.length - (intOf i).toNat)
    case atStart => exact ⟨0, Nat.zero_le _, rfl, HM0, HB0, by show _ < _; simp⟩
    case round =>
      obtain ⟨k, hk, rfl, HM, HBr, HZ⟩ := hrel
      clear HM0 HB0
      by_cases hlt : k < ts.length
      · have hkx : k < xs.length := by rw [← HTS.out]; exact hlt
        obtain ⟨⟨y, u, d, hyd, hcu, hcd⟩, hx9⟩ := HA.out xs[k] (List.getElem_mem hkx)
        obtain ⟨hkd, hj3⟩ := kNat_is y hcu hcd
        obtain ⟨b, o, hA2, hB2, hc⟩ := strsOf HO.out (by omega)
        subst hA2
        have c0 : wr.cell? ⟨b, o + k, none⟩ = some (.string (strOf xs[k])) := (HBr.out.cell (p := ⟨b, o + k, none⟩) hB2).trans (hc k _ (HC.out k hkx))
        have hsz1 : (strOf xs[k]).size = xs[k].length := by rw [str_size]
        have hlen2 : 2 ≤ xs[k].length := by rw [hyd]; simp
        have hex1 : (strOf xs[k]).extract ((strOf xs[k]).size - 2) ((strOf xs[k]).size - 1) = ⟨#[u]⟩ := by
          rw [hyd]
          exact str_pen y u d
        have hex2 : (strOf xs[k]).extract ((strOf xs[k]).size - 1) (strOf xs[k]).size = ⟨#[d]⟩ := by
          rw [hyd]
          exact str_end y u d
        have h3 : ((strOf xs[k]).size : Int) - 1 = (((strOf xs[k]).size - 1 : Nat) : Int) := by omega
        have h4 : ((strOf xs[k]).size : Int) - 2 = (((strOf xs[k]).size - 2 : Nat) : Int) := by omega
        have hzz : 2 ≤ (strOf xs[k]).size ∧ (strOf xs[k]).size ≤ 9 := by omega
        rw [← hyd] at hkd hj3
        have HSN : Hid (kRow l (xs.take (k + 1)) = (kRow l (xs.take k)).set (kNat l xs[k]) ((kCnt l (xs.take k) (kNat l xs[k]) : Int) + 1)) := by
          show _ = _
          rw [List.take_succ_eq_append_getElem hkx]
          exact kRow_snoc l _ _ rfl hj3
        have hcl := kCnt_le l (xs.take k) (kNat l xs[k])
        have hct : kCnt l (xs.take k) (kNat l xs[k]) ≤ 80 := by
          rw [List.length_take] at hcl
          omega
        have HCA : Hid ((kRow l (xs.take k))[kNat l xs[k]]? = some (kCnt l (xs.take k) (kNat l xs[k]) : Int)) := kRow_at l _ hj3
        have HLC := Lib.hid (kRow_len l (xs.take k))
        have hb_store : ∀ w3, Below wr.drew.heap.size wr.drew w3 → w3.cell? ⟨w2.heap.size, kNat l xs[k], none⟩ = some (.int .i64 (kCnt l (xs.take k) (kNat l xs[k]) : Int)) ∧ w3.frozen? ⟨w2.heap.size, kNat l xs[k], none⟩ = false ∧
            Si.OwnInts (w3.setCell ⟨w2.heap.size, kNat l xs[k], none⟩ (.int .i64 ((kCnt l (xs.take k) (kNat l xs[k]) : Int) + 1))) w.heap.size (.slice (some ⟨w2.heap.size, 0, none⟩) 3 3) (kRow l (xs.take (k + 1))) ∧
            Below w2.heap.size w2 (w3.setCell ⟨w2.heap.size, kNat l xs[k], none⟩ (.int .i64 ((kCnt l (xs.take k) (kNat l xs[k]) : Int) + 1))) ∧
            w2.heap.size < (w3.setCell ⟨w2.heap.size, kNat l xs[k], none⟩ (.int .i64 ((kCnt l (xs.take k) (kNat l xs[k]) : Int) + 1))).heap.size := fun w3 hb3 => by
          have hM3 : Si.OwnInts w3 w.heap.size (.slice (some ⟨w2.heap.size, 0, none⟩) (kRow l (xs.take k)).length 3) (kRow l (xs.take k)) := by
            rw [HLC.out]
            exact (HM.out.below (Below.refl _ wr).drew).below hb3
          have hM4 := Si.intsStore hM3 (kNat l xs[k]) ((kCnt l (xs.take k) (kNat l xs[k]) : Int) + 1)
          rw [HLC.out, ← HSN.out] at hM4
          refine ⟨Si.intsCell hM3 HCA.out, Si.intsFree hM3 _, hM4, (HBr.out.drew.trans (hb3.mono HBr.out.drew.size)).setCell (p := ⟨w2.heap.size, kNat l xs[k], none⟩) (Nat.le_refl _) _, ?_⟩
          have h1 := hb3.size
          have h2 := HZ.out
          have h3 := (Below.refl wr.heap.size wr).drew.size
          simp [World.setCell]
          omega
        have HZH := Lib.hid hb_store
        obtain ⟨p1, hp1⟩ : ∃ p1 : Nat, p1 = (strOf xs[k]).size - 1 := ⟨_, rfl⟩
        obtain ⟨p2, hp2⟩ : ∃ p2 : Nat, p2 = (strOf xs[k]).size - 2 := ⟨_, rfl⟩
        have HKC : Hid (Calls Tryd.prog 11 #[.slice A l.length c, .string ((strOf xs[k]).extract p2 p1), .string ((strOf xs[k]).extract p1 (strOf xs[k]).size)] wr.drew fun e w' => e = .returned (.int .i64 (kNat l xs[k] : Int)) ∧ Below wr.drew.heap.size wr.drew w') := by
          have h5 := HI.out ⟨#[u]⟩ ⟨#[d]⟩ wr.drew ((HW.out.below (HB.out.trans (HBr.out.drew.mono HB.out.size))).more (Nat.le_trans HB.out.size HBr.out.drew.size))
          show Calls _ _ _ _ _
          rw [hp1, hp2, hex1, hex2, ← hkd]
          exact h5
        have hw1 : IntKind.i64.wrap (((strOf xs[k]).size : Int) - 1) = (p1 : Int) := (IntWalk.i64_in _ (by omega)).trans (by omega)
        have hw2 : IntKind.i64.wrap (((strOf xs[k]).size : Int) - 2) = (p2 : Int) := (IntWalk.i64_in _ (by omega)).trans (by omega)
        have hq1 : (p2 : Int) ≤ (p1 : Int) := by omega
        have hq2 : (p1 : Int) ≤ ((strOf xs[k]).size : Int) := by omega
        have hw3 : IntKind.i64.wrap ((kCnt l (xs.take k) (kNat l xs[k]) : Int) + 1) = (kCnt l (xs.take k) (kNat l xs[k]) : Int) + 1 := IntWalk.i64_in _ (by omega)
        have hj0 : (0 : Int) ≤ (kNat l xs[k] : Int) := Int.natCast_nonneg _
        have hj1 : (kNat l xs[k] : Int) < 3 := by omega
        clear hc hsz1 hlen2 hex1 hex2 hcl hyd hcu hcd hkd hx9 h3 h4 hzz hp1 hp2 hb_store
        generalize strOf xs[k] = z at *
        generalize kNat l xs[k] = j at *
        generalize kCnt l (xs.take k) j = q at *
        generalize kRow l (xs.take k) = row at *
        go_wp2_with fail
        go_region_with (go_at_call 11; refine Calls.mono HKC.out ?_; rintro e w3 ⟨rfl, hb3⟩; obtain ⟨d0, z0, m4, b4, s4⟩ := HZH.out w3 hb3)
        have HM4 := Lib.hid m4
        have HB4 := Lib.hid b4
        have HZ4 := Lib.hid s4
        clear m4 b4 s4 d0 z0 hb3 HM HBr HZ HZH HKC
        go_wp2
        go_roundw
        case rel => exact ⟨k + 1, by omega, by go_num, HM4, HB4, HZ4⟩
        case measure => simp [intOf]; omega
      · have hkl : k = ts.length := by omega
        have HMF : Hid (Si.OwnInts wr w.heap.size (.slice (some ⟨w2.heap.size, 0, none⟩) 3 3) (kRow l xs)) := by
          have := HM.out
          rw [hkl, HTS.out, List.take_length] at this
          exact this
        have HFIN := Lib.hid (HE.out _ _ HMF.out (HB.out.trans (HBr.out.mono HB.out.size)))
        clear hkl
        go_wp2
        go_ret2
        exact HFIN.out

def CountsPostA (w : World) (l : List Seg) (t : ByteArray) (e : Ending) (w' : World) : Prop :=
  ∃ v, e = .returned (.tuple #[v, .bool (traceB l t.data.toList).isSome]) ∧ Sa3.OwnInts w' w.heap.size v (countsRes l t) ∧ Below w.heap.size w w'
theorem OwnInts_threeA (W : World) {B : Nat} (hB : B ≤ W.heap.size) (l : List Seg) : Sa3.OwnInts (W.alloc (.cells #[.int .i64 0, .int .i64 0, .int .i64 0] 49)) B (.slice (some ⟨W.heap.size, 0, none⟩) 3 3) (kRow l []) := by
  have := World.ownsRow_lit (base := B) (e := 49) (size := 1) W #[.int .i64 0, .int .i64 0, .int .i64 0] 3 hB (by unfold maxLen; omega) rfl
  exact this

set_option maxRecDepth 100000 in
set_option maxHeartbeats 2000000 in
theorem kindCounts_any (A : Option Addr) (l : List Seg) (c : Nat) (t : ByteArray) (w : World) (hw : Segs w w.heap.size A l) (hl : l.length ≤ 1048576) (hlc : l.length ≤ c) (hcm : c ≤ 9223372036854775807) (hn : Short l) (ht : t.size ≤ 1048576) :
    Calls Tryd.prog 8 #[.slice A l.length c, .string t] w (CountsPostA w l t) := by
  have HW : Hid (Segs w w.heap.size A l) := hw
  have HQ := Lib.hid (implChainsOf_any A l c t w hw hl hlc hcm hn ht)
  unfold CountsPostA countsRes
  unfold ChainsResPost chainsRes at HQ
  cases hR : traceB l t.data.toList with
  | none =>
    rw [hR] at HQ
    have HE : Hid (∀ W : World, Below w.heap.size w W → ∃ v, Ending.returned (.tuple #[.slice none 0 0, .bool false]) = .returned (.tuple #[v, .bool (none : Option Forest).isSome]) ∧ Sa3.OwnInts W w.heap.size v [] ∧ Below w.heap.size w W) :=
      fun W hb => ⟨_, rfl, World.ownsRow_nil W _ _ 1, hb⟩
    clear hw hn hR
    go_enter Tryd.func8, Tryd.ntmps8
    go_wp2_with fail
    refine Calls.mono HQ.out ?_
    rintro e w2 ⟨v, rfl, -, hb⟩
    go_wp2
    go_ret2
    exact HE.out _ hb
  | some f =>
    have HN : Hid ((chainsB [rootB l] f).length = f.size) := chainsB_len f [rootB l]
    have HA := Lib.hid (trace_two hR)
    have hsz := (traceB_size hR).1
    have HI := Lib.hid (fun s u W h => kindOf_any A l c s u W h hl hlc hcm hn)
    rw [hR] at HQ
    have HQ : Hid (Calls Tryd.prog 22 #[.slice A l.length c, .string t] w fun e w' => ∃ v, e = .returned (.tuple #[v, .bool true]) ∧ OwnTexts w' w.heap.size v ((chainsB [rootB l] f).map strOf) ∧ Below w.heap.size w w') := HQ
    have HE : Hid (∀ (v : Value) (W : World), Sa3.OwnInts W w.heap.size v (kRow l (chainsB [rootB l] f)) → Below w.heap.size w W → ∃ u, Ending.returned (.tuple #[v, .bool true]) = .returned (.tuple #[u, .bool (some f).isSome]) ∧ Sa3.OwnInts W w.heap.size u (kRow l (chainsB [rootB l] f)) ∧ Below w.heap.size w W) :=
      fun v W h hb => ⟨v, rfl, h, hb⟩
    clear hw hn hR
    show Calls Tryd.prog 8 #[.slice A l.length c, .string t] w fun e w' => ∃ v, e = .returned (.tuple #[v, .bool true]) ∧ Sa3.OwnInts w' w.heap.size v (kRow l (chainsB [rootB l] f)) ∧ Below w.heap.size w w'
    generalize chainsB [rootB l] f = xs at *
    have HTS : Hid ((xs.map strOf).length = xs.length) := List.length_map _
    have HC : Hid (∀ k (hk : k < xs.length), (xs.map strOf)[k]? = some (strOf xs[k])) := fun k hk => by rw [List.getElem?_map, List.getElem?_eq_getElem hk]; rfl
    generalize xs.map strOf = ts at *
    have htl : ts.length ≤ 80 := by rw [HTS.out, HN.out]; exact hsz
    go_enter Tryd.func8, Tryd.ntmps8
    go_wp2_with fail
    refine Calls.mono HQ.out ?_
    rintro e w2 ⟨v, rfl, ho, hb⟩
    obtain ⟨A2, cap2, rfl, -⟩ := St.textsForm ho
    have HB := Lib.hid hb
    have HO := Lib.hid ho
    have HM0 := Lib.hid (OwnInts_threeA w2 hb.size l)
    have HB0 : Hid (Below w2.heap.size w2 (w2.alloc (.cells #[.int .i64 0, .int .i64 0, .int .i64 0] 49))) := (Below.refl _ w2).alloc (Nat.le_refl _) _
    clear ho hb
    go_wp2
    go_loopw [23] (fun i wr => ∃ k : Nat, k ≤ ts.length ∧ i = .int .i64 k ∧ Hid (Sa3.OwnInts wr w.heap.size (.slice (some ⟨w2.heap.size, 0, none⟩) 3 3) (kRow l (xs.take k))) ∧ Hid (Below w2.heap.size w2 wr) ∧ Hid (w2.heap.size < wr.heap.size))
      (fun i _ => ts.length - (intOf i).toNat)
    case atStart => exact ⟨0, Nat.zero_le _, rfl, HM0, HB0, by show _ < _; simp⟩
    case round =>
      obtain ⟨k, hk, rfl, HM, HBr, HZ⟩ := hrel
      clear HM0 HB0
      by_cases hlt : k < ts.length
      · have hkx : k < xs.length := by rw [← HTS.out]; exact hlt
        obtain ⟨⟨y, u, d, hyd, hcu, hcd⟩, hx9⟩ := HA.out xs[k] (List.getElem_mem hkx)
        obtain ⟨hkd, hj3⟩ := kNat_is y hcu hcd
        obtain ⟨b, o, hA2, hB2, hc⟩ := strsOf HO.out (by omega)
        subst hA2
        have c0 : wr.cell? ⟨b, o + k, none⟩ = some (.string (strOf xs[k])) := (HBr.out.cell (p := ⟨b, o + k, none⟩) hB2).trans (hc k _ (HC.out k hkx))
        have hsz1 : (strOf xs[k]).size = xs[k].length := by rw [str_size]
        have hlen2 : 2 ≤ xs[k].length := by rw [hyd]; simp
        have hex1 : (strOf xs[k]).extract ((strOf xs[k]).size - 2) ((strOf xs[k]).size - 1) = ⟨#[u]⟩ := by
          rw [hyd]
          exact str_pen y u d
        have hex2 : (strOf xs[k]).extract ((strOf xs[k]).size - 1) (strOf xs[k]).size = ⟨#[d]⟩ := by
          rw [hyd]
          exact str_end y u d
        have h3 : ((strOf xs[k]).size : Int) - 1 = (((strOf xs[k]).size - 1 : Nat) : Int) := by omega
        have h4 : ((strOf xs[k]).size : Int) - 2 = (((strOf xs[k]).size - 2 : Nat) : Int) := by omega
        have hzz : 2 ≤ (strOf xs[k]).size ∧ (strOf xs[k]).size ≤ 9 := by omega
        rw [← hyd] at hkd hj3
        have HSN : Hid (kRow l (xs.take (k + 1)) = (kRow l (xs.take k)).set (kNat l xs[k]) ((kCnt l (xs.take k) (kNat l xs[k]) : Int) + 1)) := by
          show _ = _
          rw [List.take_succ_eq_append_getElem hkx]
          exact kRow_snoc l _ _ rfl hj3
        have hcl := kCnt_le l (xs.take k) (kNat l xs[k])
        have hct : kCnt l (xs.take k) (kNat l xs[k]) ≤ 80 := by
          rw [List.length_take] at hcl
          omega
        have HCA : Hid ((kRow l (xs.take k))[kNat l xs[k]]? = some (kCnt l (xs.take k) (kNat l xs[k]) : Int)) := kRow_at l _ hj3
        have HLC := Lib.hid (kRow_len l (xs.take k))
        have hb_store : ∀ w3, Below wr.drew.heap.size wr.drew w3 → w3.cell? ⟨w2.heap.size, kNat l xs[k], none⟩ = some (.int .i64 (kCnt l (xs.take k) (kNat l xs[k]) : Int)) ∧ w3.frozen? ⟨w2.heap.size, kNat l xs[k], none⟩ = false ∧
            Sa3.OwnInts (w3.setCell ⟨w2.heap.size, kNat l xs[k], none⟩ (.int .i64 ((kCnt l (xs.take k) (kNat l xs[k]) : Int) + 1))) w.heap.size (.slice (some ⟨w2.heap.size, 0, none⟩) 3 3) (kRow l (xs.take (k + 1))) ∧
            Below w2.heap.size w2 (w3.setCell ⟨w2.heap.size, kNat l xs[k], none⟩ (.int .i64 ((kCnt l (xs.take k) (kNat l xs[k]) : Int) + 1))) ∧
            w2.heap.size < (w3.setCell ⟨w2.heap.size, kNat l xs[k], none⟩ (.int .i64 ((kCnt l (xs.take k) (kNat l xs[k]) : Int) + 1))).heap.size := fun w3 hb3 => by
          have hM3 : Sa3.OwnInts w3 w.heap.size (.slice (some ⟨w2.heap.size, 0, none⟩) (kRow l (xs.take k)).length 3) (kRow l (xs.take k)) := by
            rw [HLC.out]
            exact (HM.out.below (Below.refl _ wr).drew).below hb3
          have hM4 := Sa3.intsStore hM3 (kNat l xs[k]) ((kCnt l (xs.take k) (kNat l xs[k]) : Int) + 1)
          rw [HLC.out, ← HSN.out] at hM4
          refine ⟨Sa3.intsCell hM3 HCA.out, Sa3.intsFree hM3 _, hM4, (HBr.out.drew.trans (hb3.mono HBr.out.drew.size)).setCell (p := ⟨w2.heap.size, kNat l xs[k], none⟩) (Nat.le_refl _) _, ?_⟩
          have h1 := hb3.size
          have h2 := HZ.out
          have h3 := (Below.refl wr.heap.size wr).drew.size
          simp [World.setCell]
          omega
        have HZH := Lib.hid hb_store
        obtain ⟨p1, hp1⟩ : ∃ p1 : Nat, p1 = (strOf xs[k]).size - 1 := ⟨_, rfl⟩
        obtain ⟨p2, hp2⟩ : ∃ p2 : Nat, p2 = (strOf xs[k]).size - 2 := ⟨_, rfl⟩
        have HKC : Hid (Calls Tryd.prog 6 #[.slice A l.length c, .string ((strOf xs[k]).extract p2 p1), .string ((strOf xs[k]).extract p1 (strOf xs[k]).size)] wr.drew fun e w' => e = .returned (.int .i64 (kNat l xs[k] : Int)) ∧ Below wr.drew.heap.size wr.drew w') := by
          have h5 := HI.out ⟨#[u]⟩ ⟨#[d]⟩ wr.drew ((HW.out.below (HB.out.trans (HBr.out.drew.mono HB.out.size))).more (Nat.le_trans HB.out.size HBr.out.drew.size))
          show Calls _ _ _ _ _
          rw [hp1, hp2, hex1, hex2, ← hkd]
          exact h5
        have hw1 : IntKind.i64.wrap (((strOf xs[k]).size : Int) - 1) = (p1 : Int) := (IntWalk.i64_in _ (by omega)).trans (by omega)
        have hw2 : IntKind.i64.wrap (((strOf xs[k]).size : Int) - 2) = (p2 : Int) := (IntWalk.i64_in _ (by omega)).trans (by omega)
        have hq1 : (p2 : Int) ≤ (p1 : Int) := by omega
        have hq2 : (p1 : Int) ≤ ((strOf xs[k]).size : Int) := by omega
        have hw3 : IntKind.i64.wrap ((kCnt l (xs.take k) (kNat l xs[k]) : Int) + 1) = (kCnt l (xs.take k) (kNat l xs[k]) : Int) + 1 := IntWalk.i64_in _ (by omega)
        have hj0 : (0 : Int) ≤ (kNat l xs[k] : Int) := Int.natCast_nonneg _
        have hj1 : (kNat l xs[k] : Int) < 3 := by omega
        clear hc hsz1 hlen2 hex1 hex2 hcl hyd hcu hcd hkd hx9 h3 h4 hzz hp1 hp2 hb_store
        generalize strOf xs[k] = z at *
        generalize kNat l xs[k] = j at *
        generalize kCnt l (xs.take k) j = q at *
        generalize kRow l (xs.take k) = row at *
        go_wp2_with fail
        go_region_with (go_at_call 6; refine Calls.mono HKC.out ?_; rintro e w3 ⟨rfl, hb3⟩; obtain ⟨d0, z0, m4, b4, s4⟩ := HZH.out w3 hb3)
        have HM4 := Lib.hid m4
        have HB4 := Lib.hid b4
        have HZ4 := Lib.hid s4
        clear m4 b4 s4 d0 z0 hb3 HM HBr HZ HZH HKC
        go_wp2
        go_roundw
        case rel => exact ⟨k + 1, by omega, by go_num, HM4, HB4, HZ4⟩
        case measure => simp [intOf]; omega
      · have hkl : k = ts.length := by omega
        have HMF : Hid (Sa3.OwnInts wr w.heap.size (.slice (some ⟨w2.heap.size, 0, none⟩) 3 3) (kRow l xs)) := by
          have := HM.out
          rw [hkl, HTS.out, List.take_length] at this
          exact this
        have HFIN := Lib.hid (HE.out _ _ HMF.out (HB.out.trans (HBr.out.mono HB.out.size)))
        clear hkl
        go_wp2
        go_ret2
        exact HFIN.out

end Go.Proofs.YtafpefjjeddmeaaDoor
/- NameOfKind on both sides, and the law FnExactNameOfKind: its walk, over a world that holds the program's table. -/
namespace Go.Proofs.YtafpefjjeddmeaaDoor
open Go.RowKit

def nameK (k : Int) : ByteArray := if k = 0 then ⟨#[117, 112]⟩ else if k = 1 then ⟨#[100, 111, 119, 110]⟩ else if k = 2 then ⟨#[115, 105, 100, 101]⟩ else ⟨#[]⟩
/-- The table of words. -/
def WordsHeld (w : World) : Prop := w.cell? ⟨0, 0, none⟩ = some (.string ⟨#[117, 112]⟩) ∧ w.cell? ⟨0, 1, none⟩ = some (.string ⟨#[100, 111, 119, 110]⟩) ∧ w.cell? ⟨0, 2, none⟩ = some (.string ⟨#[115, 105, 100, 101]⟩)
theorem ret_text {a b : ByteArray} (h : a = b) : Ending.returned (.string a) = .returned (.string b) := by rw [h]

set_option maxRecDepth 100000 in
set_option maxHeartbeats 400000 in
theorem specName_any (k : Int) (w : World) :
    Calls Tryd.prog 14 #[.int .i64 k] w fun e w' => e = .returned (.string (nameK k)) ∧ w = w' := by
  by_cases h0 : k = 0
  · subst h0
    go_enter Tryd.func14, Tryd.ntmps14
    go_wp2
    go_ret
    exact ⟨rfl, rfl⟩
  by_cases h1 : k = 1
  · subst h1
    go_enter Tryd.func14, Tryd.ntmps14
    go_wp2
    go_ret
    exact ⟨rfl, rfl⟩
  by_cases h2 : k = 2
  · subst h2
    go_enter Tryd.func14, Tryd.ntmps14
    go_wp2
    go_ret
    exact ⟨rfl, rfl⟩
  have HF : Hid (nameK k = ⟨#[]⟩) := by
    show _ = _
    unfold nameK
    rw [if_neg h0, if_neg h1, if_neg h2]
  have b0 : (k == 0) = false := by simpa using h0
  have b1 : (k == 1) = false := by simpa using h1
  have b2 : (k == 2) = false := by simpa using h2
  clear h0 h1 h2
  go_enter Tryd.func14, Tryd.ntmps14
  go_wp2
  go_ret
  exact ⟨ret_text HF.out.symm, rfl⟩

set_option maxRecDepth 100000 in
set_option maxHeartbeats 400000 in
theorem nameOfKind_any (k : Int) (w : World) (h : WordsHeld w) :
    Calls Tryd.prog 13 #[.int .i64 k] w fun e w' => e = .returned (.string (nameK k)) ∧ w = w' := by
  obtain ⟨c0, c1, c2⟩ := h
  by_cases hk : k < 0
  · have HF : Hid (nameK k = ⟨#[]⟩) := by
      show _ = _
      unfold nameK
      rw [if_neg (by omega), if_neg (by omega), if_neg (by omega)]
    clear c0 c1 c2
    go_enter Tryd.func13, Tryd.ntmps13
    go_wp2
    go_ret
    exact ⟨ret_text HF.out.symm, rfl⟩
  by_cases hk3 : 3 ≤ k
  · have HF : Hid (nameK k = ⟨#[]⟩) := by
      show _ = _
      unfold nameK
      rw [if_neg (by omega), if_neg (by omega), if_neg (by omega)]
    clear c0 c1 c2
    go_enter Tryd.func13, Tryd.ntmps13
    go_wp2
    go_ret
    exact ⟨ret_text HF.out.symm, rfl⟩
  have h3 : k = 0 ∨ k = 1 ∨ k = 2 := by omega
  clear hk hk3
  rcases h3 with rfl | rfl | rfl
  all_goals
    go_enter Tryd.func13, Tryd.ntmps13
    go_wp2
    go_ret
    exact ⟨rfl, rfl⟩

set_option maxRecDepth 100000 in
set_option maxHeartbeats 400000 in
theorem lawNameOfKind_any (k : Int) (w : World) (h : WordsHeld w) :
    Calls Tryd.prog 4 #[.int .i64 k] w fun e w' => e = .returned (.bool true) ∧ w = w' := by
  have HN := Lib.hid (nameOfKind_any k w h)
  have HS := Lib.hid (specName_any k w)
  clear h
  generalize nameK k = z at *
  go_enter Tryd.func4, Tryd.ntmps4
  go_wp2_with fail
  refine Calls.mono HS.out ?_
  rintro e w1 ⟨rfl, rfl⟩
  go_wp2_with fail
  refine Calls.mono HN.out ?_
  rintro e w1 ⟨rfl, rfl⟩
  go_wp2
  go_ret
  exact ⟨rfl, rfl⟩

end Go.Proofs.YtafpefjjeddmeaaDoor
