/- Joined: Bb Bi Be Bt. -/
import Derived.Test.YtafpefjjeddmeaaU07
import Derived.Test.YtafpefjjeddmeaaU23
import Derived.Test.YtafpefjjeddmeaaU11
import Derived.Test.YtafpefjjeddmeaaU12
import Derived.Test.YtafpefjjeddmeaaU13
/- Chains and the kinds of their last calls: plain. -/
namespace Go.Proofs.Ytafpefjjeddmeaa
open Go.RowKit

/-- Each chain ends with two names. -/
theorem chainsB_two {P : UInt8 → Bool} : ∀ (f : Forest) (p : List UInt8) (a : UInt8), P a = true → f.all P → ∀ x ∈ chainsB (p ++ [a]) f, ∃ y u v, x = y ++ [u, v] ∧ P u = true ∧ P v = true
  | .nil, _, _, _, _, x, h => by cases h
  | .cons c k r, p, a, ha, hp, x, h => by
    obtain ⟨h1, h2, h3⟩ := hp
    have h' : x ∈ ((p ++ [a]) ++ [c]) :: (chainsB ((p ++ [a]) ++ [c]) k ++ chainsB (p ++ [a]) r) := h
    rcases List.mem_cons.1 h' with rfl | h'
    · exact ⟨p, a, c, by simp, ha, h1⟩
    · rcases List.mem_append.1 h' with h' | h'
      · exact chainsB_two k (p ++ [a]) c h1 h2 x h'
      · exact chainsB_two r p a ha h3 x h'
theorem root_callP {l : List Seg} (hv : validB l = true) : callP l (rootB l) = true := by
  obtain ⟨s, h1, h2⟩ := root_name hv
  obtain ⟨h0, h3⟩ := List.getElem?_eq_some_iff.1 h1
  have h4 := name_index hv h0
  rw [h3, h2] at h4
  unfold callP
  rw [h4]
  rfl
/-- The name ahead of the last one. -/
def penB (x : List UInt8) : UInt8 := lastB x.dropLast
theorem ends_of (y : List UInt8) (u v : UInt8) : lastB (y ++ [u, v]) = v ∧ penB (y ++ [u, v]) = u := by
  have e : y ++ [u, v] = (y ++ [u]) ++ [v] := by simp
  refine ⟨by rw [e, lastB_snoc], ?_⟩
  unfold penB
  rw [e, List.dropLast_concat, lastB_snoc]
theorem trace_two {l : List Seg} {t : ByteArray} {f : Forest} (h : traceB l t.data.toList = some f) : ∀ x ∈ chainsB [rootB l] f, (∃ y u v, x = y ++ [u, v] ∧ callP l u = true ∧ callP l v = true) ∧ x.length ≤ 9 := fun x hx => by
  have hv := (traceB_some h).1
  refine ⟨chainsB_two f [] (rootB l) (root_callP hv) (traceB_all h) x hx, ?_⟩
  have h1 := (chainsB_bound f [rootB l] x hx).1
  have h2 := (traceB_size h).2
  simp at h1
  omega
def kNat (l : List Seg) (x : List UInt8) : Nat := (kindB l ⟨#[penB x]⟩ ⟨#[lastB x]⟩).toNat
theorem kNat_is {l : List Seg} (y : List UInt8) {u v : UInt8} (hu : callP l u = true) (hv : callP l v = true) : kindB l ⟨#[u]⟩ ⟨#[v]⟩ = (kNat l (y ++ [u, v]) : Int) ∧ kNat l (y ++ [u, v]) < 3 := by
  unfold kNat
  rw [(ends_of y u v).1, (ends_of y u v).2]
  have h : 0 ≤ kindB l ⟨#[u]⟩ ⟨#[v]⟩ ∧ kindB l ⟨#[u]⟩ ⟨#[v]⟩ ≤ 2 := by
    unfold kindB
    rw [if_pos (by unfold comOk hasSeg; unfold callP at hu hv; rw [hu, hv]; rfl)]
    exact kindIx_bd _ _ _
  omega
def kCnt (l : List Seg) (xs : List (List UInt8)) (i : Nat) : Nat := (xs.filter fun x => decide (kNat l x = i)).length
theorem kCnt_snoc (l : List Seg) (xs : List (List UInt8)) (x : List UInt8) (i : Nat) : kCnt l (xs ++ [x]) i = kCnt l xs i + if kNat l x = i then 1 else 0 := by
  unfold kCnt
  rw [List.filter_append, List.length_append]
  congr 1
  by_cases h : kNat l x = i
  · simp [h]
  · simp [h]
theorem kCnt_le (l : List Seg) (xs : List (List UInt8)) (i : Nat) : kCnt l xs i ≤ xs.length := List.length_filter_le _ _
def kRow (l : List Seg) (xs : List (List UInt8)) : List Int := (List.range 3).map fun i => (kCnt l xs i : Int)
theorem kRow_len (l : List Seg) (xs : List (List UInt8)) : (kRow l xs).length = 3 := by simp [kRow]
theorem kRow_nil (l : List Seg) : kRow l [] = [0, 0, 0] := rfl
theorem kRow_at (l : List Seg) (xs : List (List UInt8)) {i : Nat} (hi : i < 3) : (kRow l xs)[i]? = some (kCnt l xs i : Int) := by simp [kRow, hi]
theorem kRow_snoc (l : List Seg) (xs : List (List UInt8)) (x : List UInt8) {j : Nat} (hj : kNat l x = j) (hj3 : j < 3) : kRow l (xs ++ [x]) = (kRow l xs).set j ((kCnt l xs j : Int) + 1) := by
  apply List.ext_getElem?
  intro i
  by_cases hi : i < 3
  · rw [kRow_at l _ hi, kCnt_snoc, hj]
    by_cases hij : i = j
    · subst hij
      rw [List.getElem?_set_self (by rw [kRow_len]; exact hi), if_pos rfl]
      rfl
    · rw [List.getElem?_set_ne (fun e => hij e.symm), kRow_at l _ hi, if_neg (by omega)]
      rfl
  · rw [List.getElem?_eq_none (by rw [kRow_len]; omega), List.getElem?_eq_none (by rw [List.length_set, kRow_len]; omega)]
/-- How many calls of a trace are of each kind. -/
def countsRes (l : List Seg) (t : ByteArray) : List Int := match traceB l t.data.toList with
  | none => []
  | some f => kRow l (chainsB [rootB l] f)
def CountsPost (w : World) (l : List Seg) (t : ByteArray) (e : Ending) (w' : World) : Prop :=
  ∃ v, e = .returned (.tuple #[v, .bool (traceB l t.data.toList).isSome]) ∧ Si.OwnInts w' w.heap.size v (countsRes l t) ∧ Below w.heap.size w w'
theorem str_pen (p : List UInt8) (u v : UInt8) : (strOf (p ++ [u, v])).extract ((strOf (p ++ [u, v])).size - 2) ((strOf (p ++ [u, v])).size - 1) = ⟨#[u]⟩ := by
  have hs : (strOf (p ++ [u, v])).size = p.length + 2 := by rw [str_size]; simp
  rw [hs]
  apply ByteArray.ext
  rw [ByteArray.data_extract]
  apply Array.ext'
  simp [strOf]
theorem str_end (p : List UInt8) (u v : UInt8) : (strOf (p ++ [u, v])).extract ((strOf (p ++ [u, v])).size - 1) (strOf (p ++ [u, v])).size = ⟨#[v]⟩ := by
  have := str_last (p ++ [u]) v
  rwa [List.append_assoc] at this

end Go.Proofs.Ytafpefjjeddmeaa
/- What is lost in a trace: plain. -/
namespace Go.Proofs.Ytafpefjjeddmeaa
open Go.RowKit

def byteAt (x : List UInt8) (k : Nat) : UInt8 := x.getD k 0
/-- What the reference writes down for one chain. -/
def lostOne (l : List Seg) (x : List UInt8) (m : Nat) : List UInt8 := ((List.range m).filter fun k => !lieB l ⟨#[byteAt x k]⟩ ⟨#[lastB x]⟩).map (byteAt x)
def lostAll (l : List Seg) (xs : List (List UInt8)) : List UInt8 := xs.flatMap fun x => lostOne l x x.length
theorem lostOne_succ (l : List Seg) (x : List UInt8) (m : Nat) : lostOne l x (m + 1) = lostOne l x m ++ if lieB l ⟨#[byteAt x m]⟩ ⟨#[lastB x]⟩ = true then [] else [byteAt x m] := by
  unfold lostOne
  rw [List.range_succ, List.filter_append, List.map_append]
  congr 1
  cases h : lieB l ⟨#[byteAt x m]⟩ ⟨#[lastB x]⟩ <;> simp [h]
theorem lostOne_len (l : List Seg) (x : List UInt8) (m : Nat) : (lostOne l x m).length ≤ m := by
  unfold lostOne
  rw [List.length_map]
  have := List.length_filter_le (fun k => !lieB l ⟨#[byteAt x k]⟩ ⟨#[lastB x]⟩) (List.range m)
  simpa using this
theorem lostAll_snoc (l : List Seg) (xs : List (List UInt8)) (x : List UInt8) : lostAll l (xs ++ [x]) = lostAll l xs ++ lostOne l x x.length := by
  unfold lostAll
  rw [List.flatMap_append]
  simp
theorem lostAll_len (l : List Seg) : ∀ (xs : List (List UInt8)), (∀ x ∈ xs, x.length ≤ 9) → (lostAll l xs).length ≤ 9 * xs.length
  | [], _ => Nat.le_refl _
  | x :: xs, h => by
    have h1 := lostAll_len l xs (fun y hy => h y (List.mem_cons_of_mem _ hy))
    have h2 := lostOne_len l x x.length
    have h3 := h x List.mem_cons_self
    have e : lostAll l (x :: xs) = lostOne l x x.length ++ lostAll l xs := List.flatMap_cons
    rw [e, List.length_append, List.length_cons]
    omega
/-- Which segments the program says are lost at the last call of a chain, and in all of them. -/
def lostX (l : List Seg) (x : List UInt8) (i : Nat) : Bool := decide (byteOf l i ∈ x) && decide (kindIx l i (bSeek l (lastB x)).toNat = 2)
def lostF (l : List Seg) (xs : List (List UInt8)) (i : Nat) : Bool := decide (i < l.length) && xs.any fun x => lostX l x i
theorem lostF_nil (l : List Seg) (i : Nat) : lostF l [] i = false := by unfold lostF; simp
theorem lostF_snoc (l : List Seg) (xs : List (List UInt8)) (x : List UInt8) (i : Nat) : lostF l (xs ++ [x]) i = (lostF l xs i || (decide (i < l.length) && lostX l x i)) := by
  unfold lostF
  rw [List.any_append]
  cases decide (i < l.length) <;> simp
theorem mem_bytes {x : List UInt8} {c : UInt8} : c ∈ x ↔ ∃ k, k < x.length ∧ byteAt x k = c := by
  constructor
  · intro h
    obtain ⟨k, hk, e⟩ := List.getElem_of_mem h
    exact ⟨k, hk, by unfold byteAt; rw [List.getD_eq_getElem?_getD, List.getElem?_eq_getElem hk]; exact e⟩
  · rintro ⟨k, hk, e⟩
    unfold byteAt at e
    rw [List.getD_eq_getElem?_getD, List.getElem?_eq_getElem hk] at e
    rw [← e]
    exact List.getElem_mem hk
theorem lost_same {l : List Seg} (hv : validB l = true) {xs : List (List UInt8)} (hx : ∀ x ∈ xs, callP l (lastB x) = true) {i : Nat} (hi : i < l.length) : decide (byteOf l i ∈ lostAll l xs) = lostF l xs i := by
  have hb := bSeek_byte hv hi
  have one : ∀ x ∈ xs, (byteOf l i ∈ lostOne l x x.length ↔ lostX l x i = true) := by
    intro x hxm
    have hc : 0 ≤ bSeek l (lastB x) := by
      have h1 := of_decide_eq_true (hx x hxm)
      rwa [show indexB l ⟨#[lastB x]⟩ = bSeek l (lastB x) from if_pos hv] at h1
    have hl : lieB l ⟨#[byteOf l i]⟩ ⟨#[lastB x]⟩ = lieIx l i (bSeek l (lastB x)).toNat := by
      rw [lieB_bytes hv, hb, decide_eq_true hc, decide_eq_true (Int.natCast_nonneg i), Int.toNat_natCast]
      rfl
    unfold lostX
    rw [Bool.and_eq_true, decide_eq_true_eq, kindIx_side, ← hl]
    unfold lostOne
    rw [List.mem_map]
    constructor
    · rintro ⟨k, hk, e⟩
      rw [List.mem_filter, List.mem_range] at hk
      rw [e] at hk
      exact ⟨mem_bytes.2 ⟨k, hk.1, e⟩, hk.2⟩
    · rintro ⟨h1, h2⟩
      obtain ⟨k, hk, e⟩ := mem_bytes.1 h1
      refine ⟨k, ?_, e⟩
      rw [List.mem_filter, List.mem_range, e]
      exact ⟨hk, h2⟩
  unfold lostF
  rw [decide_eq_true hi, Bool.true_and, Bool.eq_iff_iff, decide_eq_true_eq, List.any_eq_true]
  unfold lostAll
  rw [List.mem_flatMap]
  constructor
  · rintro ⟨x, hxm, h⟩
    exact ⟨x, hxm, (one x hxm).1 h⟩
  · rintro ⟨x, hxm, h⟩
    exact ⟨x, hxm, (one x hxm).2 h⟩
/-- The segments that are lost in a trace. -/
def lostRes (l : List Seg) (t : ByteArray) : ByteArray := match traceB l t.data.toList with
  | none => ⟨#[]⟩
  | some f => namesAt l (selIx (lostF l (chainsB [rootB l] f)) l.length)
theorem selIx_congr {f g : Nat → Bool} {n : Nat} (h : ∀ i, i < n → f i = g i) : selIx f n = selIx g n := by
  unfold selIx
  apply List.filter_congr
  intro i hi
  exact h i (List.mem_range.1 hi)

end Go.Proofs.Ytafpefjjeddmeaa
/- LostIn on both sides. -/
namespace Go.Proofs.Ytafpefjjeddmeaa
open Go.RowKit Go.Shelf

theorem strOf_byte {x : List UInt8} {k : Nat} (hk : k < x.length) : (strOf x).extract k (k + 1) = ⟨#[byteAt x k]⟩ := by
  have hk' : k < (strOf x).size := by rw [str_size]; exact hk
  rw [one_byte _ hk']
  have : (strOf x)[k] = byteAt x k := by
    unfold byteAt
    rw [List.getD_eq_getElem?_getD, List.getElem?_eq_getElem hk]
    simp [strOf, ByteArray.getElem_eq_getElem_data]
  rw [this]
theorem strOf_last {x : List UInt8} (hx : x ≠ []) : (strOf x).extract ((strOf x).size - 1) (strOf x).size = ⟨#[lastB x]⟩ := by
  obtain ⟨y, c, rfl⟩ : ∃ y c, x = y ++ [c] := ⟨x.dropLast, x.getLast hx, (List.dropLast_concat_getLast hx).symm⟩
  rw [lastB_snoc]
  exact str_last y c
theorem strOf_snoc (a : List UInt8) (c : UInt8) : strOf a ++ ⟨#[c]⟩ = strOf (a ++ [c]) := bytes_cat a [c]

set_option maxRecDepth 100000 in
set_option maxHeartbeats 4000000 in
theorem specLostIn_any (A : Option Addr) (l : List Seg) (c : Nat) (t : ByteArray) (w : World) (hw : Segs w w.heap.size A l) (hl : l.length ≤ 1048576) (hn : Short l) (ht : t.size ≤ 1048576) :
    Calls Try.prog 38 #[.slice A l.length c, .string t] w fun e w' => e = .returned (.tuple #[.string (lostRes l t), .bool (traceB l t.data.toList).isSome]) ∧ Below w.heap.size w w' := by
  have HW : Hid (Segs w w.heap.size A l) := hw
  have HQ := Lib.hid (specChainsOf_any A l c t w hw hl hn ht)
  unfold lostRes
  unfold ChainsResPost chainsRes at HQ
  cases hR : traceB l t.data.toList with
  | none =>
    rw [hR] at HQ
    clear hw hn hR
    go_enter Try.func38, Try.ntmps38
    go_wp2_with fail
    refine Calls.mono HQ.out ?_
    rintro e w2 ⟨v, rfl, ho, hb⟩
    obtain ⟨A2, cap2, rfl, -⟩ := St.textsForm ho
    have HB := Lib.hid hb
    clear ho hb
    go_wp2
    go_loop [6, 24] (fun o i => o = .string ⟨#[]⟩ ∧ i = .int .i64 0) (fun _ _ => 0)
    case atStart => exact ⟨rfl, rfl⟩
    case round =>
      obtain ⟨rfl, rfl⟩ := hrel
      go_wp2
      go_loopw [7, 58] (fun o i wr => ∃ k : Nat, k ≤ l.length ∧ i = .int .i64 k ∧ o = .string ⟨#[]⟩ ∧ Below w.heap.size w wr)
        (fun _ i _ => l.length - (intOf i).toNat)
      case atStart => exact ⟨0, Nat.zero_le _, rfl, rfl, HB.out⟩
      case round =>
        obtain ⟨k, hk, rfl, rfl, hb⟩ := hrel
        by_cases hlt : k < l.length
        · obtain ⟨b, o, rfl, hB, hc⟩ := HW.out (by omega)
          obtain ⟨c0, c1, c2⟩ := hc k l[k] (List.getElem?_eq_getElem hlt)
          clear hc
          rw [← hb.cell hB] at c0 c1 c2
          generalize l[k] = x at *
          go_wp2
          go_roundw
          case rel => exact ⟨k + 1, by omega, by go_num, rfl, hb.alloc hb.size _⟩
          case measure => simp [intOf]; omega
        · obtain rfl : k = l.length := by omega
          go_wp2
          go_ret2
          exact ⟨rfl, hb⟩
  | some f =>
    have HV := Lib.hid (traceB_some hR).1
    have h8 := (valid_all (traceB_some hR).1).2.1
    have HN : Hid ((chainsB [rootB l] f).length = f.size) := chainsB_len f [rootB l]
    have HA : Hid (∀ x ∈ chainsB [rootB l] f, x ≠ [] ∧ x.length ≤ 9 ∧ callP l (lastB x) = true) := fun x hx => by
      obtain ⟨⟨y, u, v, rfl, _, hv⟩, h9⟩ := trace_two hR x hx
      exact ⟨by simp, h9, by rw [(ends_of y u v).1]; exact hv⟩
    have hsz := (traceB_size hR).1
    have HL := Lib.hid (fun W a b h => specLie_any A l c a b W h hl hn)
    rw [hR] at HQ
    have HQ : Hid (Calls Try.prog 12 #[.slice A l.length c, .string t] w fun e w' => ∃ v, e = .returned (.tuple #[v, .bool true]) ∧ OwnTexts w' w.heap.size v ((chainsB [rootB l] f).map strOf) ∧ Below w.heap.size w w') := HQ
    clear hw hn hR
    show Calls Try.prog 38 #[.slice A l.length c, .string t] w fun e w' => e = .returned (.tuple #[.string (namesAt l (selIx (lostF l (chainsB [rootB l] f)) l.length)), .bool true]) ∧ Below w.heap.size w w'
    generalize chainsB [rootB l] f = xs at *
    have HFIN : Hid (selIx (fun i => decide (byteOf l i ∈ lostAll l xs)) l.length = selIx (lostF l xs) l.length) := selIx_congr fun i hi => lost_same HV.out (fun x hx => (HA.out x hx).2.2) hi
    have HLA : Hid ((lostAll l xs).length ≤ 720) := by
      have h1 := lostAll_len l xs (fun x hx => (HA.out x hx).2.1)
      have h2 := HN.out
      show _ ≤ _
      omega
    have HTS : Hid ((xs.map strOf).length = xs.length) := List.length_map _
    have HC : Hid (∀ k (hk : k < xs.length), (xs.map strOf)[k]? = some (strOf xs[k])) := fun k hk => by rw [List.getElem?_map, List.getElem?_eq_getElem hk]; rfl
    generalize xs.map strOf = ts at *
    have htl : ts.length ≤ 80 := by rw [HTS.out, HN.out]; exact hsz
    go_enter Try.func38, Try.ntmps38
    go_wp2_with fail
    refine Calls.mono HQ.out ?_
    rintro e w2 ⟨v, rfl, ho, hb⟩
    obtain ⟨A2, cap2, rfl, -⟩ := St.textsForm ho
    have HB := Lib.hid hb
    have HO := Lib.hid ho
    clear ho hb
    go_wp2
    go_loopw [6, 24] (fun o i wr => ∃ k : Nat, k ≤ ts.length ∧ i = .int .i64 k ∧ o = .string (strOf (lostAll l (xs.take k))) ∧ Hid (Below w2.heap.size w2 wr))
      (fun _ i _ => ts.length - (intOf i).toNat)
    case atStart => exact ⟨0, Nat.zero_le _, rfl, rfl, Below.refl _ _⟩
    case round =>
      obtain ⟨k, hk, rfl, rfl, HBr⟩ := hrel
      by_cases hlt : k < ts.length
      · have hkx : k < xs.length := by rw [← HTS.out]; exact hlt
        obtain ⟨hne, hx9, hcl⟩ := HA.out xs[k] (List.getElem_mem hkx)
        obtain ⟨b, o, hA2, hB2, hc⟩ := strsOf HO.out (by omega)
        subst hA2
        have c0 : wr.cell? ⟨b, o + k, none⟩ = some (.string (strOf xs[k])) := (HBr.out.cell (p := ⟨b, o + k, none⟩) hB2).trans (hc k _ (HC.out k hkx))
        have hsz1 : (strOf xs[k]).size = xs[k].length := str_size _
        have HX := Lib.hid (strOf_last hne)
        have hx1 : 1 ≤ xs[k].length := by
          have : xs[k].length ≠ 0 := fun e => hne (List.eq_nil_of_length_eq_zero e)
          omega
        have HSN : Hid (lostAll l (xs.take (k + 1)) = lostAll l (xs.take k) ++ lostOne l xs[k] xs[k].length) := by
          show _ = _
          rw [List.take_succ_eq_append_getElem hkx]
          exact lostAll_snoc l _ _
        have hla : (lostAll l (xs.take k)).length ≤ 720 := by
          have h1 := lostAll_len l (xs.take k) (fun x hx => (HA.out x (List.mem_of_mem_take hx)).2.1)
          rw [List.length_take] at h1
          have h2 := HN.out
          omega
        have HEX : Hid (∀ j, j < xs[k].length → (strOf xs[k]).extract j (j + 1) = ⟨#[byteAt xs[k] j]⟩) := fun j hj => strOf_byte hj
        clear hc hne hcl
        generalize hxk : xs[k] = x at *
        generalize hz : strOf x = z at *
        generalize lostAll l (xs.take k) = La at *
        have hz1 : 1 ≤ z.size := by omega
        have hz9 : z.size ≤ 9 := by omega
        have h3 : (z.size : Int) - 1 = ((z.size - 1 : Nat) : Int) := by omega
        have HZX := Lib.hid hsz1
        clear hxk hz hsz1
        go_wp2_with fail
        rw [HX.out]
        go_loopw [6, 35] (fun o i wr => ∃ j : Nat, j ≤ z.size ∧ i = .int .i64 j ∧ o = .string (strOf (La ++ lostOne l x j)) ∧ Hid (Below w2.heap.size w2 wr))
          (fun _ i _ => z.size - (intOf i).toNat)
        case atStart => exact ⟨0, Nat.zero_le _, rfl, by rw [show lostOne l x 0 = [] from rfl, List.append_nil], HBr⟩
        case round =>
          obtain ⟨j, hj, rfl, rfl, HBj⟩ := hrel
          clear c0 HBr
          by_cases hltj : j < z.size
          · have hj0 : (0 : Int) ≤ (j : Int) := Int.natCast_nonneg _
            have hj1 : (j : Int) + 1 ≤ (z.size : Int) := by omega
            have hj2 : (j : Int) < (z.size : Int) := by omega
            have HXj := Lib.hid (HEX.out j (by have := HZX.out; omega))
            have HSJ := Lib.hid (lostOne_succ l x j)
            have hlj := lostOne_len l x j
            have hs1 : (strOf (La ++ lostOne l x j)).size ≤ 729 := by rw [str_size, List.length_append]; omega
            have HCT := Lib.hid (strOf_snoc (La ++ lostOne l x j) (byteAt x j))
            rw [List.append_assoc] at HCT
            go_wp2_with fail
            rw [HXj.out]
            refine (HL.out _ _ _ ((HW.out.below (HB.out.trans (HBj.out.mono HB.out.size))).more (Nat.le_trans HB.out.size HBj.out.size))).mono ?_
            cases hd : lieB l ⟨#[byteAt x j]⟩ ⟨#[lastB x]⟩ with
            | true =>
              rw [hd] at HSJ
              have HS1 : Hid (lostOne l x (j + 1) = lostOne l x j) := by
                show _ = _
                rw [HSJ.out, if_pos rfl, List.append_nil]
              rintro e w3 ⟨rfl, hb3⟩
              have HB3 : Hid (Below w2.heap.size w2 w3) := HBj.out.trans (hb3.mono HBj.out.size)
              clear hb3 hd HSJ HCT
              go_wp2
              go_roundw
              case rel => exact ⟨j + 1, by omega, by go_num, by rw [HS1.out], HB3⟩
              case measure => simp [intOf]; omega
            | false =>
              rw [hd] at HSJ
              have HS1 : Hid (lostOne l x (j + 1) = lostOne l x j ++ [byteAt x j]) := by
                show _ = _
                rw [HSJ.out, if_neg (by decide)]
              have hbs : (⟨#[byteAt x j]⟩ : ByteArray).size = 1 := rfl
              rintro e w3 ⟨rfl, hb3⟩
              have HB3 : Hid (Below w2.heap.size w2 w3) := HBj.out.trans (hb3.mono HBj.out.size)
              clear hb3 hd HSJ
              generalize strOf (La ++ lostOne l x j) = S0 at *
              generalize hq : (⟨#[byteAt x j]⟩ : ByteArray) = qb at *
              go_wp2
              go_roundw
              case rel => exact ⟨j + 1, by omega, by go_num, by rw [HS1.out, ← HCT.out]; first | rfl | rw [HXj.out] | (rw [HXj.out, hq]), HB3⟩
              case measure => simp [intOf]; omega
          · obtain rfl : j = z.size := by omega
            have HE2 : Hid (lostAll l (xs.take (k + 1)) = La ++ lostOne l x z.size) := by
              show _ = _
              rw [HSN.out, HZX.out]
            go_wp2
            go_roundw
            case rel => exact ⟨k + 1, by omega, by go_num, by rw [HE2.out], HBj⟩
            case measure => simp [intOf]; omega
      · have hkl : k = ts.length := by omega
        have HE : Hid (lostAll l (xs.take k) = lostAll l xs) := by
          show _ = _
          rw [hkl, HTS.out, List.take_length]
        rw [HE.out]
        have hs1 : (strOf (lostAll l xs)).size ≤ 720 := by rw [str_size]; exact HLA.out
        have HFD : Hid (∀ i, i < l.length → decide (0 ≤ findB (strOf (lostAll l xs)) (byteOf l i)) = decide (byteOf l i ∈ lostAll l xs)) := fun i _ => by
          rw [decide_eq_decide, findB_lo]
          exact Iff.rfl
        generalize hLs : strOf (lostAll l xs) = Ls at *
        have HG : Hid (∀ i, i < l.length → decide (0 ≤ findB Ls (byteOf l i)) = (fun i => decide (byteOf l i ∈ lostAll l xs)) i) := HFD
        generalize (fun i => decide (byteOf l i ∈ lostAll l xs)) = g at *
        clear HFD hLs hkl HE
        go_wp2
        go_loopw [7, 58] (fun o i wr => ∃ k : Nat, k ≤ l.length ∧ i = .int .i64 k ∧ o = .string (namesAt l (selIx g k)) ∧ Hid (Below w.heap.size w wr))
          (fun _ i _ => l.length - (intOf i).toNat)
        case atStart => exact ⟨0, Nat.zero_le _, rfl, rfl, HB.out.trans (HBr.out.mono HB.out.size)⟩
        case round =>
          obtain ⟨k2, hk2, rfl, rfl, HB2⟩ := hrel
          clear HBr
          by_cases hlt2 : k2 < l.length
          · obtain ⟨b, o, rfl, hB, hc⟩ := HW.out (by omega)
            obtain ⟨c0, c1, c2⟩ := hc k2 l[k2] (List.getElem?_eq_getElem hlt2)
            clear hc
            rw [← HB2.out.cell hB] at c0 c1 c2
            have hn1 := (nmAt_one HV.out hlt2).2
            have HG1 := Lib.hid (HG.out k2 hlt2)
            have HSK := Lib.hid (selIx_succ g k2)
            have HNS : Hid (∀ js : List Nat, namesAt l (js ++ [k2]) = namesAt l js ++ ⟨#[byteOf l k2]⟩) := fun js => by rw [← hn1]; exact namesAt_snoc js hlt2
            have hln : (namesAt l (selIx g k2)).size ≤ 1048576 := by
              have h1 := namesAt_len (valid_names HV.out) (selIx g k2)
              have h2 := selIx_len g k2
              omega
            rw [hn1] at c0
            have hb2 := HB2.out.size
            generalize byteOf l k2 = bt at *
            generalize l[k2] = sg at *
            have HBA : Hid (Below w.heap.size w (wr.alloc (.cells #[.string ⟨#[bt]⟩, .int .i64 sg.size, .int .i64 sg.par] 36))) := HB2.out.alloc hb2 _
            go_wp2_with fail
            refine (l13Find_any Ls bt _ (by unfold maxLen; omega)).mono ?_
            rintro e w3 ⟨rfl, rfl⟩
            by_cases hf : 0 ≤ findB Ls bt
            · have HS1 : Hid (selIx g (k2 + 1) = selIx g k2 ++ [k2]) := by
                show _ = _
                rw [HSK.out, ← HG1.out, decide_eq_true hf, if_pos rfl]
              clear HG1 HSK
              have hbs : (⟨#[bt]⟩ : ByteArray).size = 1 := rfl
              go_wp2
              go_roundw
              case rel => exact ⟨k2 + 1, by omega, by go_num, by rw [HS1.out, HNS.out], HBA⟩
              case measure => simp [intOf]; omega
            · have HS1 : Hid (selIx g (k2 + 1) = selIx g k2) := by
                show _ = _
                rw [HSK.out, ← HG1.out, decide_eq_false hf, if_neg (by decide), List.append_nil]
              clear HG1 HSK
              go_wp2
              go_roundw
              case rel => exact ⟨k2 + 1, by omega, by go_num, by rw [HS1.out], HBA⟩
              case measure => simp [intOf]; omega
          · obtain rfl : k2 = l.length := by omega
            rw [HFIN.out]
            go_wp2
            go_ret2
            exact ⟨rfl, HB2.out⟩

set_option maxRecDepth 100000 in
set_option maxHeartbeats 2000000 in
theorem setNames_any (B g : Nat) (l : List Seg) (nb : Nat → Nat) (cv : Nat → Value) (f : Nat → Bool) (w : World) (h : Nodes w B g l.length l.length l nb cv) (hv : validB l = true) :
    Calls Try.prog 68 #[.int .u64 (setF f : Int), .slice (some ⟨g, 0, none⟩) l.length l.length] w fun e w' => e = .returned (.string (namesAt l (selIx f l.length))) ∧ Below w.heap.size w w' := by
  have HN := Lib.hid h
  have HV := Lib.hid hv
  have h8 := (valid_all hv).2.1
  clear h hv
  go_enter Try.func68, Try.ntmps68
  go_wp2
  have hI0 : Lib.IsBuilderF 127 5 w.heap.size w.heap.size (Lib.byteCells (namesAt l (selIx f 0)).data.toList) (w.alloc (.cells #[.pointer none, .slice none 0 0] 127)) :=
    Lib.IsBuilderF.of (Lib.fresh_isBuilder 127 5 w)
  have hB0 : Below w.heap.size w (w.alloc (.cells #[.pointer none, .slice none 0 0] 127)) := (Below.refl _ w).alloc (Nat.le_refl _) _
  go_loopw [10] (fun i wr => ∃ k : Nat, k ≤ l.length ∧ i = .int .i64 k ∧ Hid (Lib.IsBuilderF 127 5 w.heap.size w.heap.size (Lib.byteCells (namesAt l (selIx f k)).data.toList) wr) ∧ Hid (Below w.heap.size w wr))
    (fun i _ => l.length - (intOf i).toNat)
  case atStart => exact ⟨0, Nat.zero_le _, rfl, hI0, hB0⟩
  case round =>
    clear hI0 hB0
    obtain ⟨k, hk, rfl, HI, HB⟩ := hrel
    have hk0 : (0 : Int) ≤ (k : Int) := Int.natCast_nonneg _
    have hbz := HB.out.size
    have hbw : w.heap.size < wr.heap.size := by
      obtain ⟨cb, hcb⟩ := builder_cells HI.out
      exact (Array.getElem?_eq_some_iff.1 hcb).1
    by_cases hlt : k < l.length
    · have hlt' : (k : Int) < (l.length : Int) := by omega
      obtain ⟨cs, hrow, _, hci⟩ := HN.out.row
      have gk : wr.cell? ⟨g, k, none⟩ = some (.pointer (some ⟨nb k, 0, none⟩)) := by
        rw [HB.out.cell (p := ⟨g, k, none⟩) hrow.lt, hrow.cell]
        exact hci k hlt
      have hnk := HN.out.node k _ hlt (List.getElem?_eq_getElem hlt)
      have nk : wr.cell? ⟨nb k, 0, none⟩ = some (.string l[k].name) := (HB.out.cell (p := ⟨nb k, 0, none⟩) hnk.lt).trans (hnk.cell 0)
      clear hrow hci hnk
      have HS := Lib.hid (selIx_succ f k)
      go_wp2_with fail
      refine (has_any f k _ (by omega)).mono ?_
      cases hf : f k with
      | false =>
        have HS1 : Hid (selIx f (k + 1) = selIx f k) := by
          show _ = _
          rw [HS.out, if_neg (by rw [hf]; decide), List.append_nil]
        have HI1 : Hid (Lib.IsBuilderF 127 5 w.heap.size w.heap.size (Lib.byteCells (namesAt l (selIx f (k + 1))).data.toList) wr) := by
          show Lib.IsBuilderF _ _ _ _ _ _
          rw [HS1.out]
          exact HI.out
        clear hf
        rintro e w1 ⟨rfl, rfl⟩
        go_wp2
        go_roundw
        case rel => exact ⟨k + 1, by omega, by go_num, HI1, HB⟩
        case measure => simp [intOf]; omega
      | true =>
        rintro e w1 ⟨rfl, rfl⟩
        have hlen : (Lib.byteCells (namesAt l (selIx f k)).data.toList).length = (namesAt l (selIx f k)).size := by simp [Lib.byteCells]
        have HS1 : Hid (Lib.byteCells (namesAt l (selIx f (k + 1))).data.toList = Lib.byteCells (namesAt l (selIx f k)).data.toList ++ Lib.strCells l[k].name) := by
          show _ = _
          rw [HS.out, if_pos hf, namesAt_snoc _ hlt, ByteArray.data_append, Array.toList_append]
          simp [Lib.byteCells, Lib.strCells]
        have hz1 := valid_names HV.out _ (List.getElem_mem hlt)
        have hz2 := namesAt_len (valid_names HV.out) (selIx f k)
        have hz3 := selIx_len f k
        have hl1 : (Lib.byteCells (namesAt l (selIx f k)).data.toList).length + l[k].name.size ≤ 140737488355328 := by omega
        clear hz2 hz3 hf hlen
        generalize l[k].name = nm at *
        go_wp2_with fail
        refine (writeString_any w.heap.size w.heap.size _ nm _ HI.out hl1 (by omega)).mono ?_
        rintro e w2 ⟨rfl, hI1, hb1, hk1⟩
        have HI1 : Hid (Lib.IsBuilderF 127 5 w.heap.size w.heap.size (Lib.byteCells (namesAt l (selIx f (k + 1))).data.toList) w2) := by
          show Lib.IsBuilderF _ _ _ _ _ _
          rw [HS1.out]
          exact hI1
        have HB1 := Lib.hid (HB.out.trans (hb1.mono (by omega)))
        clear hI1 hb1 hk1 gk nk
        go_wp2
        go_roundw
        case rel => exact ⟨k + 1, by omega, by go_num, HI1, HB1⟩
        case measure => simp [intOf]; omega
    · obtain rfl : k = l.length := by omega
      go_wp2_with fail
      refine (Try.Builder_String_any_k w.heap.size w.heap.size _ _ HI.out (by omega)).mono ?_
      rintro e w2 ⟨rfl, hI1, hb1, hk1⟩
      have HB1 := Lib.hid (HB.out.trans (hb1.mono (by omega)))
      clear hI1 hb1 hk1
      go_wp2
      go_ret
      exact ⟨rfl, HB1.out⟩

theorem contains_said (s : ByteArray) (b : UInt8) : decide (0 ≤ Lib.indexByte s.data.toList b) = decide (b ∈ s.data.toList) := by
  rw [← Lib.contains_iff_indexByte]
  simp

set_option maxRecDepth 100000 in
set_option maxHeartbeats 2000000 in
theorem lostAt_any (B g : Nat) (l : List Seg) (nb : Nat → Nat) (cv : Nat → Value) (x : List UInt8) (w : World) (h : Nodes w B g l.length l.length l nb cv) (hv : validB l = true) (hne : x ≠ []) (h9 : x.length ≤ 9) (hcl : callP l (lastB x) = true) :
    Calls Try.prog 67 #[.slice (some ⟨g, 0, none⟩) l.length l.length, .string (strOf x)] w fun e w' => e = .returned (.int .u64 (setF (fun i => decide (i < l.length) && lostX l x i) : Int)) ∧ Below w.heap.size w w' := by
  have h8 := (valid_all hv).2.1
  have HN := Lib.hid h
  have hc0 : 0 ≤ bSeek l (lastB x) := by
    have h1 := of_decide_eq_true hcl
    rwa [show indexB l ⟨#[lastB x]⟩ = bSeek l (lastB x) from if_pos hv] at h1
  have hcb : (bSeek l (lastB x)).toNat < l.length := by rcases bSeek_bd l (lastB x) with a | ⟨_, a⟩ <;> omega
  have HP : Hid (foundPtr l nb ⟨#[lastB x]⟩ = some ⟨nb (bSeek l (lastB x)).toNat, 0, none⟩) := found_byte hc0
  obtain ⟨cs, hrow, -, hci⟩ := h.row
  have HC : Hid (∀ i, i < l.length → w.cell? ⟨g, i, none⟩ = some (.pointer (some ⟨nb i, 0, none⟩))) := fun i hi => by rw [hrow.cell]; exact hci i hi
  have hg := hrow.lt
  have HNM : Hid (∀ i (hi : i < l.length), nb i < w.heap.size ∧ w.cell? ⟨nb i, 0, none⟩ = some (.string ⟨#[byteOf l i]⟩)) := fun i hi => by
    have hnk := h.node i _ hi (List.getElem?_eq_getElem hi)
    have h1 : w.cell? ⟨nb i, 0, none⟩ = some (.string l[i].name) := hnk.cell 0
    have h2 := (nmAt_one hv hi).2
    rw [h2] at h1
    exact ⟨hnk.lt, h1⟩
  have HK := Lib.hid (fun i j W hb hi hj => kindOfCall_any B g i j l nb cv W (HN.out.below (w' := W) hb) hv hi hj)
  have HZ : Hid (setF (fun i => decide (i < 0) && lostX l x i) = 0) := by
    show _ = _
    rw [setF_congr (g := fun _ => false) (fun i _ => by simp)]
    rfl
  have HLX : Hid (∀ i, lostX l x i = (decide (byteOf l i ∈ x) && decide (kindIx l i (bSeek l (lastB x)).toNat = 2))) := fun i => rfl
  have HCN : Hid (∀ b W, Calls Try.prog 94 #[.string (strOf x), .string ⟨#[b]⟩] W fun e w' => e = .returned (.bool (decide (b ∈ x))) ∧ w' = W) := fun b W => by
    have h1 := Try.strings_Contains_one (strOf x) b W
    rw [contains_said] at h1
    exact h1
  have hsz1 : (strOf x).size = x.length := str_size _
  have hx1 : 1 ≤ x.length := by
    have : x.length ≠ 0 := fun e => hne (List.eq_nil_of_length_eq_zero e)
    omega
  have HX := Lib.hid (strOf_last hne)
  have HFN := Lib.hid (fun s => findNode_any B g l nb cv s w HN.out)
  clear h hv hrow hci cs HN hne hcl hc0
  generalize (bSeek l (lastB x)).toNat = q at *
  generalize hz : strOf x = z at *
  have hz1 : 1 ≤ z.size := by omega
  have hz9 : z.size ≤ 9 := by omega
  have h3 : (z.size : Int) - 1 = ((z.size - 1 : Nat) : Int) := by omega
  clear hz hsz1 hx1
  go_enter Try.func67, Try.ntmps67
  go_wp2_with fail
  rw [HX.out]
  refine Calls.mono (HFN.out _ (by omega)) ?_
  rw [HP.out]
  rintro e w1 ⟨rfl, rfl⟩
  go_wp2
  go_loopw [6, 18] (fun o i wr => ∃ k : Nat, k ≤ l.length ∧ i = .int .i64 k ∧ o = .int .u64 (setF (fun i => decide (i < k) && lostX l x i) : Int) ∧ Hid (Below w.heap.size w wr))
    (fun _ i _ => l.length - (intOf i).toNat)
  case atStart => exact ⟨0, Nat.zero_le _, rfl, by rw [HZ.out]; rfl, Below.refl _ _⟩
  case round =>
    obtain ⟨k, hk, rfl, rfl, HB⟩ := hrel
    have hk0 : (0 : Int) ≤ (k : Int) := Int.natCast_nonneg _
    by_cases hlt : k < l.length
    · have hlt' : (k : Int) < (l.length : Int) := by omega
      have ck : wr.cell? ⟨g, k, none⟩ = some (.pointer (some ⟨nb k, 0, none⟩)) := (HB.out.cell (p := ⟨g, k, none⟩) hg).trans (HC.out k hlt)
      obtain ⟨n1, n2⟩ := HNM.out k hlt
      have nk : wr.cell? ⟨nb k, 0, none⟩ = some (.string ⟨#[byteOf l k]⟩) := (HB.out.cell (p := ⟨nb k, 0, none⟩) n1).trans n2
      have HL1 := Lib.hid (HLX.out k)
      have HSK : Hid (lostX l x k = false → setF (fun i => decide (i < k + 1) && lostX l x i) = setF (fun i => decide (i < k) && lostX l x i)) := fun h0 => setF_congr fun i _ => by
        by_cases hik : i = k
        · subst hik; rw [h0]; simp
        · rw [show decide (i < k + 1) = decide (i < k) from decide_eq_decide.2 (by omega)]
      have HSW : Hid (lostX l x k = true → setF (fun j => (decide (j < k) && lostX l x j) || decide (j = k)) = setF (fun i => decide (i < k + 1) && lostX l x i)) := fun h0 => setF_congr fun i _ => by
        by_cases hik : i = k
        · subst hik; rw [h0]; simp
        · rw [show decide (i < k + 1) = decide (i < k) from decide_eq_decide.2 (by omega), decide_eq_false hik, Bool.or_false]
      have HCK := Lib.hid (HCN.out (byteOf l k))
      have HKK := Lib.hid (fun W hb => HK.out k q W hb hlt hcb)
      clear n1 n2
      generalize byteOf l k = bt at *
      by_cases hm : bt ∈ x
      · rw [decide_eq_true hm] at HCK HL1
        generalize kindIx l k q = kd at *
        have hmx : Try.prog.follows .mixedOrders = true := by kernel_rfl
        go_wp2_with fail
        refine Calls.mono (HCK.out _) ?_
        rintro e w1 ⟨rfl, rfl⟩
        go_wp2_with fail
        refine (HKK.out _ HB.out).mono ?_
        rintro e w2 ⟨rfl, hb2⟩
        have HB2 : Hid (Below w.heap.size w w2) := HB.out.trans (hb2.mono HB.out.size)
        clear hb2 ck nk
        by_cases hq : kd = 2
        · have HS1 := Lib.hid (HSW.out (by rw [HL1.out, decide_eq_true hq]; rfl))
          subst hq
          have HW := Lib.hid (fun W => with_any (fun i => decide (i < k) && lostX l x i) k W (by omega))
          clear HSK HSW HL1 hm HCK
          go_wp2_with fail
          refine (HW.out _).mono ?_
          rw [HS1.out]
          rintro e w3 ⟨rfl, rfl⟩
          go_wp2
          go_roundw
          case rel => exact ⟨k + 1, by omega, by go_num, rfl, HB2⟩
          case measure => simp [intOf]; omega
        · have HS1 := Lib.hid (HSK.out (by rw [HL1.out, decide_eq_false hq]; rfl))
          have hq2 : (kd == 2) = false := by simpa using hq
          clear HSK HSW HL1 hm HCK hq
          go_wp2
          go_roundw
          case rel => exact ⟨k + 1, by omega, by go_num, by rw [HS1.out], HB2⟩
          case measure => simp [intOf]; omega
      · rw [decide_eq_false hm] at HCK HL1
        have HS1 := Lib.hid (HSK.out (by rw [HL1.out]; rfl))
        clear HSK HSW HL1 hm HKK
        go_wp2_with fail
        refine Calls.mono (HCK.out _) ?_
        rintro e w1 ⟨rfl, rfl⟩
        go_wp2
        go_roundw
        case rel => exact ⟨k + 1, by omega, by go_num, by rw [HS1.out], HB⟩
        case measure => simp [intOf]; omega
    · obtain rfl : k = l.length := by omega
      go_wp2
      go_ret
      exact ⟨rfl, HB.out⟩

set_option maxRecDepth 100000 in
set_option maxHeartbeats 2000000 in
theorem lostIn_any (A : Option Addr) (l : List Seg) (c : Nat) (t : ByteArray) (w : World) (hw : Segs w w.heap.size A l) (hl : l.length ≤ 1048576) (hlc : l.length ≤ c) (hcm : c ≤ 9223372036854775807) (hn : Short l) (ht : t.size ≤ 1048576) :
    Calls Try.prog 39 #[.slice A l.length c, .string t] w fun e w' => e = .returned (.tuple #[.string (lostRes l t), .bool (traceB l t.data.toList).isSome]) ∧ Below w.heap.size w w' := by
  have HW : Hid (Segs w w.heap.size A l) := hw
  have HQ := Lib.hid (implChainsOf_any A l c t w hw hl hlc hcm hn ht)
  unfold lostRes
  unfold ChainsResPost chainsRes at HQ
  cases hR : traceB l t.data.toList with
  | none =>
    rw [hR] at HQ
    clear hw hn hR
    go_enter Try.func39, Try.ntmps39
    go_wp2_with fail
    refine Calls.mono HQ.out ?_
    rintro e w2 ⟨v, rfl, -, hb⟩
    go_wp2
    go_ret2
    exact ⟨rfl, hb⟩
  | some f =>
    have HV := Lib.hid (traceB_some hR).1
    have h8 := (valid_all (traceB_some hR).1).2.1
    have HNL : Hid ((chainsB [rootB l] f).length = f.size) := chainsB_len f [rootB l]
    have HA : Hid (∀ x ∈ chainsB [rootB l] f, x ≠ [] ∧ x.length ≤ 9 ∧ callP l (lastB x) = true) := fun x hx => by
      obtain ⟨⟨y, u, v, rfl, _, hv⟩, h9⟩ := trace_two hR x hx
      exact ⟨by simp, h9, by rw [(ends_of y u v).1]; exact hv⟩
    have hsz := (traceB_size hR).1
    have HNO := Lib.hid (fun W h => nodesOf_any A l c W h hl hlc hcm hn HV.out)
    rw [hR] at HQ
    have HQ : Hid (Calls Try.prog 11 #[.slice A l.length c, .string t] w fun e w' => ∃ v, e = .returned (.tuple #[v, .bool true]) ∧ OwnTexts w' w.heap.size v ((chainsB [rootB l] f).map strOf) ∧ Below w.heap.size w w') := HQ
    clear hw hn hR
    show Calls Try.prog 39 #[.slice A l.length c, .string t] w fun e w' => e = .returned (.tuple #[.string (namesAt l (selIx (lostF l (chainsB [rootB l] f)) l.length)), .bool true]) ∧ Below w.heap.size w w'
    generalize chainsB [rootB l] f = xs at *
    have HTS : Hid ((xs.map strOf).length = xs.length) := List.length_map _
    have HC : Hid (∀ k (hk : k < xs.length), (xs.map strOf)[k]? = some (strOf xs[k])) := fun k hk => by rw [List.getElem?_map, List.getElem?_eq_getElem hk]; rfl
    have HZ : Hid (setF (lostF l (xs.take 0)) = 0) := by
      show setF (lostF l []) = 0
      rw [setF_congr (g := fun _ => false) (fun i _ => lostF_nil l i)]
      rfl
    generalize xs.map strOf = ts at *
    have htl : ts.length ≤ 80 := by rw [HTS.out, HNL.out]; exact hsz
    go_enter Try.func39, Try.ntmps39
    go_wp2_with fail
    refine Calls.mono HQ.out ?_
    rintro e w2 ⟨v, rfl, ho, hb⟩
    obtain ⟨A2, cap2, rfl, -⟩ := St.textsForm ho
    have HB := Lib.hid hb
    have HO := Lib.hid ho
    clear ho hb
    go_wp2_with fail
    refine (HNO.out _ ((HW.out.below HB.out).more HB.out.size)).mono ?_
    rintro e w3 ⟨g, nb, cv, rfl, hN, hb3⟩
    have HN := Lib.hid hN
    have HB3 : Hid (Below w.heap.size w w3) := HB.out.trans (hb3.mono HB.out.size)
    have HO3 : Hid (OwnTexts w3 w.heap.size (.slice A2 ts.length cap2) ts) := HO.out.below hb3
    clear hN hb3 HO HB HQ HNO
    go_wp2
    go_loopw [9, 24] (fun o i wr => ∃ k : Nat, k ≤ ts.length ∧ i = .int .i64 k ∧ o = .int .u64 (setF (lostF l (xs.take k)) : Int) ∧ Hid (Below w3.heap.size w3 wr))
      (fun _ i _ => ts.length - (intOf i).toNat)
    case atStart => exact ⟨0, Nat.zero_le _, rfl, by rw [HZ.out]; rfl, Below.refl _ _⟩
    case round =>
      obtain ⟨k, hk, rfl, rfl, HBr⟩ := hrel
      by_cases hlt : k < ts.length
      · have hkx : k < xs.length := by rw [← HTS.out]; exact hlt
        obtain ⟨hne, hx9, hcl⟩ := HA.out xs[k] (List.getElem_mem hkx)
        obtain ⟨b, o, hA2, hB2, hc⟩ := strsOf HO3.out (by omega)
        subst hA2
        have c0 : wr.cell? ⟨b, o + k, none⟩ = some (.string (strOf xs[k])) := (HBr.out.cell (p := ⟨b, o + k, none⟩) hB2).trans (hc k _ (HC.out k hkx))
        have HLA := Lib.hid (lostAt_any _ _ l nb cv xs[k] wr (HN.out.below HBr.out) HV.out hne hx9 hcl)
        have HSN : Hid (setF (fun j => lostF l (xs.take k) j || (decide (j < l.length) && lostX l xs[k] j)) = setF (lostF l (xs.take (k + 1)))) := setF_congr fun i _ => by
          rw [List.take_succ_eq_append_getElem hkx]
          exact (lostF_snoc l _ _ i).symm
        have HJ := Lib.hid (fun W => joined_any (lostF l (xs.take k)) (fun j => decide (j < l.length) && lostX l xs[k] j) W)
        clear hc hne hx9 hcl
        generalize strOf xs[k] = z at *
        go_wp2_with fail
        refine Calls.mono HLA.out ?_
        rintro e w4 ⟨rfl, hb4⟩
        have HB4 : Hid (Below w3.heap.size w3 w4) := HBr.out.trans (hb4.mono HBr.out.size)
        clear hb4 HLA
        go_wp2_with fail
        refine (HJ.out _).mono ?_
        rw [HSN.out]
        rintro e w5 ⟨rfl, rfl⟩
        go_wp2
        go_roundw
        case rel => exact ⟨k + 1, by omega, by go_num, rfl, HB4⟩
        case measure => simp [intOf]; omega
      · have hkl : k = ts.length := by omega
        have HE : Hid (lostF l (xs.take k) = lostF l xs) := by
          show _ = _
          rw [hkl, HTS.out, List.take_length]
        rw [HE.out]
        have HNM := Lib.hid (setNames_any _ _ l nb cv (lostF l xs) wr (HN.out.below HBr.out) HV.out)
        clear hkl HE
        go_wp2_with fail
        refine Calls.mono HNM.out ?_
        rintro e w4 ⟨rfl, hb4⟩
        have HB4 : Hid (Below w.heap.size w w4) := HB3.out.trans ((HBr.out.trans (hb4.mono HBr.out.size)).mono HB3.out.size)
        clear hb4
        go_wp2
        go_ret2
        exact ⟨rfl, HB4.out⟩

end Go.Proofs.Ytafpefjjeddmeaa
/- The walk of the law FnExactLostIn. -/
namespace Go.Proofs.Ytafpefjjeddmeaa
open Go.RowKit

set_option maxRecDepth 100000 in
set_option maxHeartbeats 400000 in
theorem lawLostIn_any (A : Option Addr) (l : List Seg) (c : Nat) (s : ByteArray) (w : World) (hw : Segs w w.heap.size A l) (hl : l.length ≤ maxLen) (hn : Short l) (hsz : s.size ≤ maxLen) :
    Calls Try.prog 8 #[.slice A l.length c, .string s] w fun e w' => e = .returned (.bool true) ∧ Below w.heap.size w w' := by
  have HW : Hid (Segs w w.heap.size A l) := hw
  clear hw
  unfold maxLen at hsz
  by_cases hbigs : 1048576 < s.size
  · go_enter Try.func8, Try.ntmps8
    go_wp2
    go_ret
    exact ⟨rfl, Below.refl _ _⟩
  by_cases hs : sizeLeft l < 0
  · go_enter Try.func8, Try.ntmps8
    go_wp2_with fail
    refine (szSegmentS_any _ _ _ _ HW.out hl hn).mono ?_
    rintro e w1 ⟨rfl, hb1⟩
    go_wp2
    go_ret
    exact ⟨rfl, hb1⟩
  · have hlen := sizeLeft_len hs
    go_enter Try.func8, Try.ntmps8
    go_wp2_with fail
    refine (szSegmentS_any _ _ _ _ HW.out hl hn).mono ?_
    rintro e w1 ⟨rfl, hb1⟩
    have hs1 := (HW.out.below hb1).more hb1.size
    go_wp2_with fail
    refine (toSegmentS_any _ _ _ _ hs1 hlen).mono ?_
    rintro e w2 ⟨rfl, hb2, hx2⟩
    have B2 : Below w.heap.size w w2 := hb1.trans (hb2.mono hb1.size)
    clear hb2 hs1
    go_wp2_with fail
    refine (specLostIn_any _ _ _ _ _ hx2 hlen hn (Nat.le_of_not_lt hbigs)).mono ?_
    rintro e w3 ⟨rfl, hb3⟩
    have B3 : Below w.heap.size w w3 := B2.trans (hb3.mono B2.size)
    clear hb3 hx2 B2
    have hs3 := (HW.out.below B3).more B3.size
    go_wp2_with fail
    refine (toSegmentS_any _ _ _ _ hs3 hlen).mono ?_
    rintro e w4 ⟨rfl, hb4, hx4⟩
    have B4 : Below w.heap.size w w4 := B3.trans (hb4.mono B3.size)
    clear hb4 hs3
    go_wp2_with fail
    refine (lostIn_any _ _ _ _ _ hx4 hlen (Nat.le_refl _) (Nat.le_trans hlen (by decide)) hn (Nat.le_of_not_lt hbigs)).mono ?_
    rintro e w5 ⟨rfl, hb5⟩
    have B5 : Below w.heap.size w w5 := B4.trans (hb5.mono B4.size)
    have hx5 := (hx4.below hb5).more hb5.size
    clear hb5 hx4 B4
    have hs5 := (HW.out.below B5).more B5.size
    go_wp2_with fail
    refine (toSegmentS_any _ _ _ _ hs5 hlen).mono ?_
    rintro e w6 ⟨rfl, hb6, hx6⟩
    have B6 : Below w.heap.size w w6 := B5.trans (hb6.mono B5.size)
    have hx7 := (hx5.below hb6).more hb6.size
    clear hb6 hs5 hx5 B5
    go_wp2_with fail
    refine (eqSegmentS_same _ _ _ _ _ _ hx7 hx6 hlen).mono ?_
    rintro e w7 ⟨rfl, hb7⟩
    have B7 : Below w.heap.size w w7 := B6.trans (hb7.mono B6.size)
    clear hb7 hx6 hx7 B6
    go_wp2
    go_ret
    exact ⟨rfl, B7⟩

end Go.Proofs.Ytafpefjjeddmeaa
