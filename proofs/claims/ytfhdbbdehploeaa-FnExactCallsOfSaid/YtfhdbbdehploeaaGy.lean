/- How often each segment is called: plain, and the reference's. -/
import Derived.Test.YtfhdbbdehploeaaFs
import Derived.Test.YtfhdbbdehploeaaFj
import Derived.Test.YtfhdbbdehploeaaTi
namespace Go.Proofs.Ytfhdbbdehploeaa
open Go.RowKit

def lastB (x : List UInt8) : UInt8 := x.getLastD 0
/-- How many chains end with the segment of an index. -/
def cntAt (l : List Seg) (xs : List (List UInt8)) (i : Nat) : Nat := (xs.filter fun x => decide (indexB l ⟨#[lastB x]⟩ = (i : Int))).length
theorem cntAt_snoc (l : List Seg) (xs : List (List UInt8)) (x : List UInt8) (i : Nat) : cntAt l (xs ++ [x]) i = cntAt l xs i + if indexB l ⟨#[lastB x]⟩ = (i : Int) then 1 else 0 := by
  unfold cntAt
  rw [List.filter_append, List.length_append]
  congr 1
  by_cases h : indexB l ⟨#[lastB x]⟩ = (i : Int)
  · simp [h]
  · simp [h]
theorem cntAt_le (l : List Seg) (xs : List (List UInt8)) (i : Nat) : cntAt l xs i ≤ xs.length := List.length_filter_le _ _
def cntRow (l : List Seg) (xs : List (List UInt8)) : List Int := (List.range l.length).map fun i => (cntAt l xs i : Int)
theorem cntRow_len (l : List Seg) (xs : List (List UInt8)) : (cntRow l xs).length = l.length := by simp [cntRow]
theorem cntRow_at (l : List Seg) (xs : List (List UInt8)) {i : Nat} (hi : i < l.length) : (cntRow l xs)[i]? = some (cntAt l xs i : Int) := by simp [cntRow, hi]
theorem cntRow_snoc (l : List Seg) (xs : List (List UInt8)) (x : List UInt8) {j : Nat} (hj : indexB l ⟨#[lastB x]⟩ = (j : Int)) (hjl : j < l.length) : cntRow l (xs ++ [x]) = (cntRow l xs).set j ((cntAt l xs j : Int) + 1) := by
  apply List.ext_getElem?
  intro i
  by_cases hi : i < l.length
  · rw [cntRow_at l _ hi, cntAt_snoc, hj]
    by_cases hij : i = j
    · subst hij
      rw [List.getElem?_set_self (by rw [cntRow_len]; exact hi), if_pos rfl]
      rfl
    · rw [List.getElem?_set_ne (fun e => hij e.symm), cntRow_at l _ hi, if_neg (by omega)]
      rfl
  · rw [List.getElem?_eq_none (by rw [cntRow_len]; omega), List.getElem?_eq_none (by rw [List.length_set, cntRow_len]; omega)]
def callsRes (l : List Seg) (t : ByteArray) : List Int := match traceB l t.data.toList with
  | none => []
  | some f => cntRow l (chainsB [] f)
def CallsResPost (w : World) (l : List Seg) (t : ByteArray) (e : Ending) (w' : World) : Prop :=
  ∃ v, e = .returned (.tuple #[v, .bool (traceB l t.data.toList).isSome]) ∧ Si.OwnInts w' w.heap.size v (callsRes l t) ∧ Below w.heap.size w w'

theorem str_last (p : List UInt8) (d : UInt8) : (strOf (p ++ [d])).extract ((strOf (p ++ [d])).size - 1) (strOf (p ++ [d])).size = ⟨#[d]⟩ := by
  have hs : (strOf (p ++ [d])).size = p.length + 1 := by rw [str_size]; simp
  rw [hs]
  apply ByteArray.ext
  rw [ByteArray.data_extract]
  apply Array.ext'
  simp [strOf]
/-- Each chain ends with a name. -/
theorem chainsB_last {P : UInt8 → Bool} : ∀ (f : Forest) (a : List UInt8), f.all P → ∀ x ∈ chainsB a f, ∃ y c, x = y ++ [c] ∧ P c = true
  | .nil, _, _, x, h => by cases h
  | .cons c k r, a, hp, x, h => by
    obtain ⟨h1, h2, h3⟩ := hp
    have h' : x ∈ (a ++ [c]) :: (chainsB (a ++ [c]) k ++ chainsB a r) := h
    rcases List.mem_cons.1 h' with rfl | h'
    · exact ⟨a, c, rfl, h1⟩
    · rcases List.mem_append.1 h' with h' | h'
      · exact chainsB_last k _ h2 x h'
      · exact chainsB_last r _ h3 x h'
theorem lastB_snoc (y : List UInt8) (c : UInt8) : lastB (y ++ [c]) = c := by simp [lastB]
theorem callP_index {l : List Seg} {c : UInt8} (h : callP l c = true) : ∃ j : Nat, indexB l ⟨#[c]⟩ = (j : Int) ∧ j < l.length := by
  have h0 : 0 ≤ indexB l ⟨#[c]⟩ := of_decide_eq_true h
  obtain ⟨j, hj⟩ := Int.eq_ofNat_of_zero_le h0
  rcases indexB_bd l ⟨#[c]⟩ with hi | ⟨_, hi⟩
  · omega
  · exact ⟨j, hj, by omega⟩

theorem run_make_ints (n : Nat) (hn : n ≤ 1048576) (W : World) :
    (Instr.makeSlice 49 (.int .i64 (n : Int)) (.int .i64 (n : Int))).run Try.prog W = .ok (.slice (some ⟨W.heap.size, 0, none⟩) n n) (W.alloc (.cells (madeCells #[.int .i64 0] n) 3)) := by
  obtain ⟨i0, hi, hz0, hz1, hz2⟩ := info_parts info_int
  have hr := run_make (P := Try.prog) W 49 3 i0 (.int .i64 0) Try.underlying49 hi hz0 .i64 .i64 n n (by omega) (by omega) (by rw [hz2]; omega) (by omega)
  simp only [Int.toNat_natCast, hz1, Nat.mul_one] at hr
  exact hr
/-- A new row of noughts. -/
theorem OwnInts_made (W : World) {B : Nat} (hB : B ≤ W.heap.size) (l : List Seg) (hl : l.length ≤ 1048576) : Si.OwnInts (W.alloc (.cells (madeCells #[.int .i64 0] l.length) 3)) B (.slice (some ⟨W.heap.size, 0, none⟩) l.length l.length) (cntRow l []) := by
  have hlen := cntRow_len l []
  unfold Si.OwnInts
  rw [hlen]
  have hcs : madeCells #[.int .i64 0] l.length = ((cntRow l []).map (Value.int .i64)).toArray := by
    apply Array.toList_inj.1
    apply List.ext_getElem?
    intro i
    unfold madeCells cntRow
    by_cases hi : i < l.length
    · simp [hi, cntAt, Nat.mod_one]
    · simp [hi]
  rw [hcs]
  have := World.ownsRow_lit (base := B) (e := 3) (size := 1) W ((cntRow l []).map (Value.int .i64)).toArray l.length hB (by unfold maxLen; omega) (by simp [hlen])
  simpa using this

set_option maxRecDepth 100000 in
set_option maxHeartbeats 2000000 in
theorem specCallsOf_any (A : Option Addr) (l : List Seg) (c : Nat) (t : ByteArray) (w : World) (hw : Segs w w.heap.size A l) (hl : l.length ≤ 1048576) (hn : Short l) (ht : t.size ≤ 1048576) :
    Calls Try.prog 59 #[.slice A l.length c, .string t] w (CallsResPost w l t) := by
  have HW : Hid (Segs w w.heap.size A l) := hw
  have HQ := Lib.hid (specChainsOf_any A l c t w hw hl hn ht)
  unfold CallsResPost callsRes
  unfold ChainsResPost at HQ
  cases hR : traceB l t.data.toList with
  | none =>
    rw [hR] at HQ
    have HE : Hid (∀ W : World, Below w.heap.size w W → ∃ v, Ending.returned (.tuple #[.slice (some ⟨W.heap.size, 0, none⟩) 0 0, .bool false]) = .returned (.tuple #[v, .bool (none : Option Forest).isSome]) ∧ Si.OwnInts (W.alloc (.cells #[] 3)) w.heap.size v [] ∧ Below w.heap.size w (W.alloc (.cells #[] 3))) :=
      fun W hb => ⟨_, rfl, Si.OwnInts.empty W hb.size, hb.alloc hb.size _⟩
    clear hw hn hR
    go_enter Try.func59, Try.ntmps59
    go_wp2_with fail
    refine Calls.mono HQ.out ?_
    rintro e w2 ⟨v, rfl, -, hb⟩
    go_wp2
    go_ret2
    exact HE.out _ hb
  | some f =>
    have HL := Lib.hid (chainsRes_len hR)
    have HC : Hid (chainsRes l t = (chainsB [] f).map (fun x => strOf (rootB l :: x))) := by
      show _ = _
      unfold chainsRes
      rw [hR]
      show (chainsB [rootB l] f).map strOf = _
      rw [show [rootB l] = [rootB l] ++ [] from rfl, chainsB_pre, List.map_map]
      rfl
    have HN : Hid ((chainsB [] f).length = f.size) := chainsB_len f []
    have HA : Hid (∀ x ∈ chainsB [] f, (∃ y c, x = y ++ [c] ∧ callP l c = true) ∧ x.length ≤ 8) := fun x hx => by
      refine ⟨chainsB_last f [] (traceB_all hR) x hx, ?_⟩
      have h1 := (chainsB_bound f [] x hx).1
      have h2 := (traceB_size hR).2
      simp at h1
      omega
    have hsz := (traceB_size hR).1
    have HI := Lib.hid (fun s W h => l1Index_any A l c s W h hl hn)
    rw [hR] at HQ
    have HE : Hid (∀ (v : Value) (W : World), Si.OwnInts W w.heap.size v (cntRow l (chainsB [] f)) → Below w.heap.size w W → ∃ u, Ending.returned (.tuple #[v, .bool true]) = .returned (.tuple #[u, .bool (some f).isSome]) ∧ Si.OwnInts W w.heap.size u (cntRow l (chainsB [] f)) ∧ Below w.heap.size w W) :=
      fun v W h hb => ⟨v, rfl, h, hb⟩
    clear hw hn hR
    generalize chainsRes l t = ts at *
    generalize hxs : chainsB [] f = xs at *
    have HXS := Lib.hid hxs
    clear hxs
    have HTS : Hid (ts.length = xs.length) := by show _ = _; rw [HL.out, HN.out]
    have htl : ts.length ≤ 80 := by rw [HL.out]; exact hsz
    have hmk := run_make_ints l.length hl
    go_enter Try.func59, Try.ntmps59
    go_wp2_with fail
    refine Calls.mono HQ.out ?_
    rintro e w2 ⟨v, rfl, ho, hb⟩
    obtain ⟨A2, cap2, rfl, -⟩ := St.textsForm ho
    have HB := Lib.hid hb
    have HO := Lib.hid ho
    have HM0 := Lib.hid (OwnInts_made w2 hb.size l hl)
    have HB0 : Hid (Below w2.heap.size w2 (w2.alloc (.cells (madeCells #[.int .i64 0] l.length) 3))) := (Below.refl _ w2).alloc (Nat.le_refl _) _
    clear ho hb
    go_wp2
    go_loopw [25] (fun i wr => ∃ k : Nat, k ≤ ts.length ∧ i = .int .i64 k ∧ Hid (Si.OwnInts wr w.heap.size (.slice (some ⟨w2.heap.size, 0, none⟩) l.length l.length) (cntRow l (xs.take k))) ∧ Hid (Below w2.heap.size w2 wr) ∧ Hid (w2.heap.size < wr.heap.size))
      (fun i _ => ts.length - (intOf i).toNat)
    case atStart => exact ⟨0, Nat.zero_le _, rfl, HM0, HB0, by show _ < _; simp⟩
    case round =>
      obtain ⟨k, hk, rfl, HM, HBr, HZ⟩ := hrel
      clear HM0 HB0
      by_cases hlt : k < ts.length
      · have hkx : k < xs.length := by rw [← HTS.out]; exact hlt
        obtain ⟨⟨y, d, hyd, hcp⟩, hx8⟩ := HA.out xs[k] (List.getElem_mem hkx)
        obtain ⟨j, hj, hjl⟩ := callP_index hcp
        have hts : ts[k]? = some (strOf (rootB l :: xs[k])) := by rw [HC.out, List.getElem?_map, List.getElem?_eq_getElem hkx]; rfl
        obtain ⟨b, o, hA2, hB2, hc⟩ := strsOf HO.out (by omega)
        subst hA2
        have c0 : wr.cell? ⟨b, o + k, none⟩ = some (.string (strOf (rootB l :: xs[k]))) := (HBr.out.cell (p := ⟨b, o + k, none⟩) hB2).trans (hc k _ hts)
        have hsz1 : (strOf (rootB l :: xs[k])).size = xs[k].length + 1 := by rw [str_size]; rfl
        have hlen1 : 1 ≤ xs[k].length := by rw [hyd]; simp
        have hext : (strOf (rootB l :: xs[k])).extract ((strOf (rootB l :: xs[k])).size - 1) (strOf (rootB l :: xs[k])).size = ⟨#[d]⟩ := by
          rw [hyd]
          exact str_last (rootB l :: y) d
        have h3 : ((strOf (rootB l :: xs[k])).size : Int) - 1 = (((strOf (rootB l :: xs[k])).size - 1 : Nat) : Int) := by omega
        have hzz : 2 ≤ (strOf (rootB l :: xs[k])).size ∧ (strOf (rootB l :: xs[k])).size ≤ 9 := by omega
        have hj2 : indexB l ⟨#[lastB xs[k]]⟩ = (j : Int) := by rw [hyd, lastB_snoc]; exact hj
        have HSN : Hid (cntRow l (xs.take (k + 1)) = (cntRow l (xs.take k)).set j ((cntAt l (xs.take k) j : Int) + 1)) := by
          show _ = _
          rw [List.take_succ_eq_append_getElem hkx]
          exact cntRow_snoc l _ _ hj2 hjl
        have hcl := cntAt_le l (xs.take k) j
        have hct : cntAt l (xs.take k) j ≤ 80 := by
          rw [List.length_take] at hcl
          omega
        have HCA : Hid ((cntRow l (xs.take k))[j]? = some (cntAt l (xs.take k) j : Int)) := cntRow_at l _ hjl
        have HLC := Lib.hid (cntRow_len l (xs.take k))
        have HJ := Lib.hid hj
        have HX := Lib.hid hext
        have h3' := h3
        obtain ⟨z1, z2⟩ := hzz
        clear hts hc hsz1 hlen1 hext hj2 hcl hyd hcp hj h3'
        generalize strOf (rootB l :: xs[k]) = z at *
        generalize cntAt l (xs.take k) j = q at *
        generalize cntRow l (xs.take k) = row at *
        go_wp2_with fail
        rw [HX.out]
        refine (HI.out _ _ ((HW.out.below (HB.out.trans (HBr.out.mono HB.out.size))).more (Nat.le_trans HB.out.size HBr.out.size))).mono ?_
        rw [HJ.out]
        rintro e w3 ⟨rfl, hb3⟩
        have hM3 : Si.OwnInts w3 w.heap.size (.slice (some ⟨w2.heap.size, 0, none⟩) row.length l.length) row := by rw [HLC.out]; exact HM.out.below hb3
        have d0 := Si.intsCell hM3 HCA.out
        have z0 := Si.intsFree hM3 j
        have hM4 := Si.intsStore hM3 j ((q : Int) + 1)
        rw [HLC.out, ← HSN.out] at hM4
        have HM4 := Lib.hid hM4
        have HB4 : Hid (Below w2.heap.size w2 (w3.setCell ⟨w2.heap.size, j, none⟩ (.int .i64 ((q : Int) + 1)))) := (HBr.out.trans (hb3.mono HBr.out.size)).setCell (p := ⟨w2.heap.size, j, none⟩) (Nat.le_refl _) _
        have HZ4 : Hid (w2.heap.size < (w3.setCell ⟨w2.heap.size, j, none⟩ (.int .i64 ((q : Int) + 1))).heap.size) := by
          show _ < _
          have := hb3.size
          have := HZ.out
          simp [World.setCell]
          omega
        have hj0 : (0 : Int) ≤ (j : Int) := Int.natCast_nonneg _
        have hj1 : (j : Int) < (l.length : Int) := by omega
        clear hM3 hM4 hb3 HM HBr HZ
        go_wp2
        go_roundw
        case rel => exact ⟨k + 1, by omega, by go_num, HM4, HB4, HZ4⟩
        case measure => simp [intOf]; omega
      · have hkl : k = ts.length := by omega
        have HMF : Hid (Si.OwnInts wr w.heap.size (.slice (some ⟨w2.heap.size, 0, none⟩) l.length l.length) (cntRow l xs)) := by
          have := HM.out
          rw [hkl, HTS.out, List.take_length] at this
          exact this
        have hfin := HE.out _ _ HMF.out (HB.out.trans (HBr.out.mono HB.out.size))
        rw [← HXS.out] at hfin
        have HFIN := Lib.hid hfin
        clear hkl hfin
        go_wp2
        go_ret2
        exact HFIN.out

end Go.Proofs.Ytfhdbbdehploeaa
