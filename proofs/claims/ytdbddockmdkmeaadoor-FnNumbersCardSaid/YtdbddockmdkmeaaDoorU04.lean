/- Joined: Sb Wz Mb Mc Mk Ti Ml Md. -/
import Derived.Test.YtdbddockmdkmeaaDoorSh
import Derived.Test.YtdbddockmdkmeaaDoorU01
import Derived.Lib.OthersKept
import Derived.RangeFuncNested
import Derived.RangeFuncBound
import Derived.RangeFuncCalls
import Derived.RangeFuncLeaves
import Derived.RangeFuncBox
import Derived.Shelf.Abstract
import Derived.Shelf.RegionOpen
import Derived.OwnWalkIn
import Derived.TacticsInMore
import Derived.LoopNIn
import Derived.LoopIn
import Derived.Lib.FrozenHead2
import Derived.Laws.IdiomStrings
import Derived.Lib.AppendIntMem
/- strings.Builder: what its two writing helpers do here. -/
namespace Go.Proofs.YtdbddockmdkmeaaDoor
open Go.RowKit

theorem bsize : (Tryd.prog.info? 56).map (·.size) = some 2 := by kernel_rfl
theorem info_byte : (Tryd.prog.info? 5).map (fun i => (i.zero, i.size, i.bytes)) = some (some (.int .u8 0), 1, 1) := by kernel_rfl

set_option maxRecDepth 100000 in
set_option maxHeartbeats 1000000 in
theorem copyCheck_used (b : Nat) (w : World) (h0 : w.cell? ⟨b, 0, none⟩ = some (.pointer (some ⟨b, 0, none⟩))) :
    Calls Tryd.prog 108 #[.pointer (some ⟨b, 0, none⟩)] w fun e w' => e = .returned (.tuple #[]) ∧ w = w' := by
  obtain ⟨j, hj, _⟩ := Option.map_eq_some_iff.1 bsize
  have HJ := Lib.hid hj
  clear hj
  go_enter Tryd.func108, Tryd.ntmps108
  go_wp2
  rw [Lib.run_neq_ptr_same w _ Tryd.underlying54 HJ.out]
  go_wp2
  go_end0
  exact ⟨rfl, rfl⟩

set_option maxRecDepth 100000 in
set_option maxHeartbeats 1000000 in
theorem copyCheck_fresh (b : Nat) (w : World) (h0 : w.cell? ⟨b, 0, none⟩ = some (.pointer none)) (hsh : w.shape? b = some (56, 2)) (hfz : w.frozen? ⟨b, 0, none⟩ = false) :
    Calls Tryd.prog 108 #[.pointer (some ⟨b, 0, none⟩)] w fun e w' => e = .returned (.tuple #[]) ∧ w' = w.setCell ⟨b, 0, none⟩ (.pointer (some ⟨b, 0, none⟩)) := by
  obtain ⟨j, hj, hjs⟩ := Option.map_eq_some_iff.1 bsize
  have HJ := Lib.hid hj
  have HS := Lib.hid hjs
  have HSH := Lib.hid hsh
  clear hj hjs hsh
  go_enter Tryd.func108, Tryd.ntmps108
  go_wp2
  rw [Lib.run_to_unsafe w ⟨b, 0, none⟩ Tryd.underlying54 Tryd.underlying130 HJ.out (by rw [HS.out]; decide) HSH.out (Nat.zero_lt_succ 1)]
  simp only [Result.andThen]
  rw [Oper.upon_value]
  go_wp2
  rw [run_callFunc_extern Tryd.func113 (by kernel_rfl) (by kernel_rfl) (by kernel_rfl) (e := Extern.AbiNoEscape.same) (by kernel_rfl)]
  rw [Lib.run_noEscape]
  simp only [Result.andThen]
  rw [Oper.upon_value]
  go_wp2
  rw [Lib.run_from_unsafe w ⟨b, 0, none⟩ Tryd.underlying130 Tryd.underlying54 HJ.out HSH.out (by kernel_rfl)]
  simp only [Result.andThen]
  rw [Oper.upon_value]
  go_wp2
  go_end0
  exact ⟨rfl, rfl⟩

/-- What a builder holds, and which blocks a writing call may turn. -/
def Wrote (w : World) (B b : Nat) (bs : List Value) (n : Nat) (e : Ending) (w' : World) : Prop :=
  e = .returned (.tuple #[.int .i64 n, .nilIface]) ∧ Lib.IsBuilderF 56 5 B b bs w' ∧ Below B w w' ∧ Lib.OthersKept 5 (some b) w w'

set_option maxRecDepth 100000 in
theorem copyCheck_any (B b : Nat) (bs : List Value) (w : World) (h : Lib.IsBuilderF 56 5 B b bs w) :
    Calls Tryd.prog 108 #[.pointer (some ⟨b, 0, none⟩)] w fun e w' => e = .returned (.tuple #[]) ∧ (Lib.BuilderAtF 56 5 B b (.pointer (some ⟨b, 0, none⟩)) bs w' ∧ Below B w w' ∧ Lib.OthersKept 5 (some b) w w') := by
  rcases h with h | h
  · refine (copyCheck_fresh b w h.cell0 h.shape h.frozen0).mono ?_
    rintro e w' ⟨rfl, rfl⟩
    exact ⟨rfl, h.used _, (Below.refl B w).setCell (p := ⟨b, 0, none⟩) h.1 _, (Lib.OthersKept.refl _ _ w).setCell ⟨b, 0, none⟩ rfl _⟩
  · refine (copyCheck_used b w h.cell0).mono ?_
    rintro e w' ⟨rfl, rfl⟩
    exact ⟨rfl, h, Below.refl B _, Lib.OthersKept.refl _ _ _⟩

set_option maxRecDepth 100000 in
set_option maxHeartbeats 1000000 in
theorem writeString_any (B b : Nat) (bs : List Value) (s : ByteArray) (w : World) (h : Lib.IsBuilderF 56 5 B b bs w) (hlen : bs.length + s.size ≤ 140737488355328) (hBw : B ≤ w.heap.size) :
    Calls Tryd.prog 82 #[.pointer (some ⟨b, 0, none⟩), .string s] w (Wrote w B b (bs ++ Lib.strCells s) s.size) := by
  obtain ⟨i0, hi, hz0, hz1, hz2⟩ := info_parts info_byte
  have I0 := Lib.hid hi
  have Z0 := Lib.hid hz0
  have Z1 := Lib.hid hz1
  have Z2 := Lib.hid hz2
  clear hi hz0 hz1 hz2
  go_enter Tryd.func82, Tryd.ntmps82
  go_wp2_with fail
  refine (copyCheck_any B b bs _ h).mono ?_
  rintro e w1 ⟨rfl, h1, hb1, hk1⟩
  obtain ⟨hB, v, hbk, hown, hne⟩ := h1
  have c0 : w1.cell? ⟨b, 0, none⟩ = some (.pointer (some ⟨b, 0, none⟩)) := by rw [Lib.cell_of_heap hbk]; rfl
  have c1 : w1.cell? ⟨b, 1, none⟩ = some v := by rw [Lib.cell_of_heap hbk]; rfl
  go_wp2_with (at_builtin; go_must (refine Lib.wpList_append_own_stringF _ rfl _ _ 22 9 rfl B 5 i0 Tryd.underlying22 Tryd.underlying9 I0.out Z0.out Z1.out Z2.out _ _ _ rfl hown s rfl ?c3 ?c4 ?c5 ?_))
  case c3 => unfold maxLen; omega
  case c4 => omega
  case c5 => have := hb1.size; omega
  intro v' w2 hown' hgrow _
  have hlt : b < w1.heap.size := (Array.getElem?_eq_some_iff.1 hbk).1
  have hb2 : w2.heap[b]? = some (.cells #[.pointer (some ⟨b, 0, none⟩), v] 56 (0, 0)) := (hgrow.block b hlt (fun e => hne e.symm)).trans hbk
  have d1 : w2.cell? ⟨b, 1, none⟩ = some v := by rw [Lib.cell_of_heap hb2]; rfl
  have f1 : w2.frozen? ⟨b, 1, none⟩ = false := Lib.frozen_of_heap hb2 1
  obtain ⟨ao, n', cap, rfl⟩ : ∃ ao n' cap, v' = .slice ao n' cap := by
    rcases hown'.2 with ⟨hv, _⟩ | ⟨g, cap, cur, fz, hv, _⟩
    · exact ⟨_, _, _, hv⟩
    · exact ⟨_, _, _, hv⟩
  have HK := Lib.hid ((hk1.grown hgrow (Lib.ownsRowF_kind hown)).setCell ⟨b, 1, none⟩ rfl (.slice ao n' cap))
  have HP := Lib.hid (Lib.BuilderAtF.put (T := 56) (e := 5) hB hb2 (bs' := bs ++ Lib.strCells s) (by simpa [Lib.strCells_length] using hown') (by decide))
  have HW := Lib.hid ((hb1.grown hgrow (by have := hb1.size; omega) (fun k hk => (hown.lt k hk).1)).setCell (p := ⟨b, 1, none⟩) hB (.slice ao n' cap))
  clear hown hown' hgrow hk1 hbk hb2 c0 c1
  go_wp2
  go_ret2
  exact ⟨rfl, .inr HP.out, HW.out, HK.out⟩

end Go.Proofs.YtdbddockmdkmeaaDoor

/- impl.joinNames over whatever iterator that yields nodes. -/
namespace Go.Proofs.YtdbddockmdkmeaaDoor
open Go.RowKit Go.Shelf
attribute [local go_sem] Oper.semAt_some

/-- The index of a segment of 'l'. -/
abbrev Ix (l : List Seg) := { j : Nat // j < l.length }
end Go.Proofs.YtdbddockmdkmeaaDoor
/- A byte written into a Builder. -/
namespace Go.Proofs.YtdbddockmdkmeaaDoor
open Go.RowKit

theorem byteCells_app (s t : List UInt8) : Lib.byteCells (s ++ t) = Lib.byteCells s ++ Lib.byteCells t := by simp [Lib.byteCells]
theorem byteCells_len (s : List UInt8) : (Lib.byteCells s).length = s.length := by simp [Lib.byteCells]

/-- What a writing call of one byte has done. -/
def WroteB (w : World) (B b : Nat) (bs : List Value) (e : Ending) (w' : World) : Prop :=
  e = .returned .nilIface ∧ Lib.IsBuilderF 56 5 B b bs w' ∧ Below B w w' ∧ Lib.OthersKept 5 (some b) w w'

set_option maxRecDepth 100000 in
set_option maxHeartbeats 1000000 in
theorem writeByte_any (B b : Nat) (bs : List Value) (n : Int) (w : World) (h : Lib.IsBuilderF 56 5 B b bs w) (hlen : bs.length ≤ 100000000) (hBw : B ≤ w.heap.size) :
    Calls Tryd.prog 81 #[.pointer (some ⟨b, 0, none⟩), .int .u8 n] w (WroteB w B b (bs ++ [.int .u8 n])) := by
  obtain ⟨i0, hi, hz0, hz1, hz2⟩ := info_parts info_byte
  have I0 := Lib.hid hi
  have Z0 := Lib.hid hz0
  have Z1 := Lib.hid hz1
  have Z2 := Lib.hid hz2
  clear hi hz0 hz1 hz2
  go_enter Tryd.func81, Tryd.ntmps81
  go_wp2_with fail
  refine (copyCheck_any B b bs _ h).mono ?_
  rintro e w1 ⟨rfl, h1, hb1, hk1⟩
  obtain ⟨hB, v, hbk, hown, hne⟩ := h1
  have c0 : w1.cell? ⟨b, 0, none⟩ = some (.pointer (some ⟨b, 0, none⟩)) := by rw [Lib.cell_of_heap hbk]; rfl
  have c1 : w1.cell? ⟨b, 1, none⟩ = some v := by rw [Lib.cell_of_heap hbk]; rfl
  have hz1 := hb1.size
  have HNW := Lib.hid (cell_one_new w1 (.int .u8 n) 5)
  have HO := Lib.hid (hown.alloc (.cells #[.int .u8 n] 5))
  have HOWN := Lib.hid hown
  clear hown
  go_wp2_with (at_builtin; go_must (refine wpList_append_ownF _ rfl _ _ 22 rfl B 5 i0 (.int .u8 0) 1 1 Tryd.underlying22 I0.out Z0.out Z1.out Z2.out rfl (by decide) v bs.length bs rfl HO.out ⟨w1.heap.size, 0, none⟩ 1 1 [.int .u8 n] rfl rfl HNW.out (by simp [Value.oneCell']) (by unfold maxLen; omega) (by omega) (by simp; omega) ?_))
  intro v' w2 hown' hgrow' _
  have hgrow : World.grownBy (w1.alloc (.cells #[.int .u8 n] 5)) w2 v.ownBlock := hgrow'
  clear hgrow'
  have hlt : b < w1.heap.size := (Array.getElem?_eq_some_iff.1 hbk).1
  have hb2 : w2.heap[b]? = some (.cells #[.pointer (some ⟨b, 0, none⟩), v] 56 (0, 0)) := (hgrow.block b (by simp; omega) (fun e => hne e.symm)).trans ((Below.heap_alloc w1 _ b hlt).trans hbk)
  have d1 : w2.cell? ⟨b, 1, none⟩ = some v := by rw [Lib.cell_of_heap hb2]; rfl
  have f1 : w2.frozen? ⟨b, 1, none⟩ = false := Lib.frozen_of_heap hb2 1
  obtain ⟨ao, n', cap, rfl⟩ : ∃ ao n' cap, v' = .slice ao n' cap := by
    rcases hown'.2 with ⟨hv, _⟩ | ⟨g, cap, cur, fz, hv, _⟩
    · exact ⟨_, _, _, hv⟩
    · exact ⟨_, _, _, hv⟩
  have HK := Lib.hid (((hk1.alloc (.cells #[.int .u8 n] 5)).grown hgrow (Lib.ownsRowF_kind HO.out)).setCell ⟨b, 1, none⟩ rfl (.slice ao n' cap))
  have HP := Lib.hid (Lib.BuilderAtF.put (T := 56) (e := 5) hB hb2 (bs' := bs ++ [.int .u8 n]) (by simpa using hown') (by decide))
  have HW := Lib.hid (((hb1.alloc (by omega) (.cells #[.int .u8 n] 5)).grown hgrow (by simp; omega) (fun k hk => (HOWN.out.lt k hk).1)).setCell (p := ⟨b, 1, none⟩) hB (.slice ao n' cap))
  clear hown' hgrow hbk hb2 c0 c1 HO HOWN HNW hk1
  go_wp2
  go_ret
  exact ⟨rfl, .inr HP.out, HW.out, HK.out⟩

end Go.Proofs.YtdbddockmdkmeaaDoor
/- The program's text of things: plain, and formatThings. -/
namespace Go.Proofs.YtdbddockmdkmeaaDoor
open Go.RowKit

/-- A thing, or a dash for the empty one. -/
def dash12 (x : ByteArray) : ByteArray := if x.toList.isEmpty = true then ⟨#[45]⟩ else x
/-- The text of the first things. -/
def thTo (xs : List ByteArray) : Nat → ByteArray
  | 0 => ⟨#[]⟩
  | k + 1 => (if k = 0 then ⟨#[]⟩ else thTo xs k ++ ⟨#[32]⟩) ++ dash12 (xs.getD k ⟨#[]⟩)
/-- What formatThings answers. -/
def thRes (xs : List ByteArray) : ByteArray := if xs.length = 0 then ⟨#[45]⟩ else thTo xs xs.length
theorem thTo_succ {xs : List ByteArray} {k : Nat} (h : k < xs.length) : thTo xs (k + 1) = (if k = 0 then ⟨#[]⟩ else thTo xs k ++ ⟨#[32]⟩) ++ dash12 xs[k] := by
  have e : xs.getD k ⟨#[]⟩ = xs[k] := by rw [List.getD_eq_getElem?_getD, List.getElem?_eq_getElem h]; rfl
  rw [← e]; rfl
theorem nil12 : (⟨#[]⟩ : ByteArray).size = 0 := rfl
theorem one12 (c : UInt8) : (⟨#[c]⟩ : ByteArray).size = 1 := rfl
theorem dash12_size (x : ByteArray) : (dash12 x).size ≤ x.size + 1 := by
  unfold dash12
  split
  · rw [one12]; omega
  · omega
theorem nil_app12 (x : ByteArray) : (⟨#[]⟩ : ByteArray) ++ x = x := by
  apply ByteArray.ext
  simp
/-- How long the text is, where each thing has at most 'b' signs. -/
theorem thTo_size {xs : List ByteArray} {b : Nat} (hb : ∀ x ∈ xs, x.size ≤ b) : ∀ k, k ≤ xs.length → (thTo xs k).size ≤ (b + 2) * k
  | 0, _ => by rw [thTo, nil12]; omega
  | k + 1, h => by
    have ih := thTo_size hb k (by omega)
    have h1 := dash12_size xs[k]
    have h2 := hb xs[k] (List.getElem_mem (by omega))
    rw [thTo_succ (by omega), ByteArray.size_append, Nat.mul_add, Nat.mul_one]
    split
    · rw [nil12]; omega
    · rw [ByteArray.size_append, one12]; omega

/-- A Builder in block 'b', of a call that was entered at 'w', that has written the text 'y'. -/
def Bld12 (b : Nat) (w : World) (y : ByteArray) (W : World) : Prop := Lib.IsBuilderF 56 5 w.heap.size b (Lib.byteCells y.data.toList) W ∧ Below w.heap.size w W
theorem cells_cat12 (y s : ByteArray) : Lib.byteCells y.data.toList ++ Lib.strCells s = Lib.byteCells (y ++ s).data.toList := by
  rw [ByteArray.data_append, Array.toList_append, byteCells_app]
  rfl
theorem cells_size12 (y : ByteArray) : (Lib.byteCells y.data.toList).length = y.size := by
  rw [byteCells_len]; rfl
theorem bldStr12 (b : Nat) (w : World) (y s : ByteArray) (W : World) (h : Bld12 b w y W) (hy : y.size ≤ 100000000) (hs : s.size ≤ 100000000) :
    Calls Tryd.prog 82 #[.pointer (some ⟨b, 0, none⟩), .string s] W fun e W' => e = .returned (.tuple #[.int .i64 s.size, .nilIface]) ∧ Hid (Bld12 b w (y ++ s) W') ∧ Lib.OthersKept 5 (some b) W W' := by
  refine (writeString_any w.heap.size b _ s W h.1 (by rw [cells_size12]; omega) h.2.size).mono ?_
  rintro e W' ⟨rfl, hI, hb, hk⟩
  rw [cells_cat12] at hI
  exact ⟨rfl, ⟨hI, h.2.trans hb⟩, hk⟩
theorem bldByte12 (b : Nat) (w : World) (y : ByteArray) (c : UInt8) (n : Int) (hc : n = (c.toNat : Int)) (W : World) (h : Bld12 b w y W) (hy : y.size ≤ 100000000) :
    Calls Tryd.prog 81 #[.pointer (some ⟨b, 0, none⟩), .int .u8 n] W fun e W' => e = .returned .nilIface ∧ Hid (Bld12 b w (y ++ ⟨#[c]⟩) W') ∧ Lib.OthersKept 5 (some b) W W' := by
  subst hc
  refine (writeByte_any w.heap.size b _ _ W h.1 (by rw [cells_size12]; omega) h.2.size).mono ?_
  rintro e W' ⟨rfl, hI, hb, hk⟩
  have e1 : ([.int .u8 (c.toNat : Int)] : List Value) = Lib.strCells ⟨#[c]⟩ := rfl
  rw [e1, cells_cat12] at hI
  exact ⟨rfl, ⟨hI, h.2.trans hb⟩, hk⟩
theorem Bld12.fresh (w : World) : Bld12 w.heap.size w ⟨#[]⟩ (w.alloc (.cells #[.pointer none, .slice none 0 0] 56)) :=
  ⟨Lib.IsBuilderF.of (Lib.fresh_isBuilder _ _ w), (Below.refl _ w).alloc (Nat.le_refl _) _⟩
end Go.Proofs.YtdbddockmdkmeaaDoor
/- formatThings. -/
namespace Go.Proofs.YtdbddockmdkmeaaDoor
open Go.RowKit

set_option maxRecDepth 100000 in
set_option maxHeartbeats 2000000 in
theorem formatThings_any (b0 : Nat) (A : Option Addr) (xs : List ByteArray) (c : Nat) (w : World) (h : St.Strs w w.heap.size A xs) (hxs : ∀ x ∈ xs, x.size ≤ b0) (hb0 : (b0 + 2) * xs.length ≤ 90000000) :
    Calls Tryd.prog 95 #[.slice A xs.length c] w fun e w' => e = .returned (.string (thRes xs)) ∧ Below w.heap.size w w' := by
  by_cases h00 : xs.length = 0
  · have HE : Hid (⟨#[45]⟩ = thRes xs) := by
      show _ = _
      unfold thRes
      rw [if_pos h00]
    go_enter Tryd.func95, Tryd.ntmps95
    go_wp2
    go_ret
    exact ⟨congrArg (fun z => Ending.returned (.string z)) HE.out, Below.refl _ _⟩
  have HS : Hid (St.Strs w w.heap.size A xs) := h
  have H0 := Lib.hid h00
  have HXS := Lib.hid hxs
  have hpos : ((xs.length : Int) == 0) = false := by rw [beq_eq_false_iff_ne]; omega
  have HB0 := Lib.hid hb0
  have HTS := Lib.hid (fun k hk => thTo_size hxs k hk)
  have hxl : xs.length ≤ 90000000 := by
    have : 1 * xs.length ≤ (b0 + 2) * xs.length := Nat.mul_le_mul_right _ (by omega)
    omega
  have HMX : Hid (∀ k, k ≤ xs.length → (b0 + 2) * k ≤ 90000000) := fun k hk => Nat.le_trans (Nat.mul_le_mul_left _ hk) hb0
  have hb9 : b0 ≤ 90000000 := by
    have : (b0 + 2) * 1 ≤ (b0 + 2) * xs.length := Nat.mul_le_mul_left _ (by omega)
    omega
  clear h hxs h00 hb0
  go_enter Tryd.func95, Tryd.ntmps95
  go_wp2
  have HI0 : Hid (Bld12 w.heap.size w (thTo xs 0) (w.alloc (.cells #[.pointer none, .slice none 0 0] 56))) := Bld12.fresh w
  generalize w.alloc (.cells #[.pointer none, .slice none 0 0] 56) = W0 at *
  go_loopw [11] (fun i wr => ∃ (k : Nat) (x : ByteArray), k ≤ xs.length ∧ i = .int .i64 k ∧ Hid (x = thTo xs k) ∧ Hid (Bld12 w.heap.size w x wr))
    (fun i _ => xs.length - (intOf i).toNat)
  case atStart => exact ⟨0, _, Nat.zero_le _, rfl, Lib.hid rfl, HI0⟩
  case round =>
    obtain ⟨k, x, hk, rfl, HX, HI⟩ := hrel
    clear HI0
    by_cases hlt : k < xs.length
    · have hlt' : (k : Int) < (xs.length : Int) := by omega
      obtain ⟨g, o, rfl, hg, hc⟩ := HS.out (by omega)
      have e0 := hc k _ (List.getElem?_eq_getElem hlt)
      rw [← HI.out.2.cell hg] at e0
      have hs1 := HXS.out _ (List.getElem_mem hlt)
      have hxz : x.size ≤ 90000000 := by
        rw [HX.out]
        exact Nat.le_trans (HTS.out k hk) (HMX.out k hk)
      have HXN := Lib.hid (thTo_succ hlt)
      rw [← HX.out] at HXN
      clear hc
      generalize xs[k] = s at *
      by_cases h0 : k = 0
      · subst h0
        rw [if_pos rfl] at HXN
        simp only [Nat.add_zero] at e0
        have hx0 : x = ⟨#[]⟩ := HX.out
        subst hx0
        cases he : s.toList.isEmpty with
        | true =>
          unfold dash12 at HXN
          rw [if_pos he] at HXN
          go_wp2_with fail
          refine (bldStr12 _ w _ ⟨#[45]⟩ wr HI.out (by omega) (by rw [one12]; omega)).mono ?_
          rintro e W2 ⟨rfl, HB2, hk2⟩
          clear hk2
          go_wp2
          go_roundw
          case rel => exact ⟨1, _, by omega, rfl, Lib.hid HXN.out.symm, HB2⟩
          case measure => simp [intOf]; omega
        | false =>
          unfold dash12 at HXN
          rw [if_neg (by rw [he]; simp)] at HXN
          go_wp2_with fail
          refine (bldStr12 _ w _ s wr HI.out (by omega) (by omega)).mono ?_
          rintro e W2 ⟨rfl, HB2, hk2⟩
          clear hk2
          go_wp2
          go_roundw
          case rel => exact ⟨1, _, by omega, rfl, Lib.hid HXN.out.symm, HB2⟩
          case measure => simp [intOf]; omega
      · have h0' : (0 : Int) < (k : Int) := by omega
        rw [if_neg h0] at HXN
        have hs32 : (x ++ (⟨#[32]⟩ : ByteArray)).size ≤ 100000000 := by rw [ByteArray.size_append, one12]; omega
        go_wp2_with fail
        refine (bldByte12 _ w _ 32 _ (by decide) wr HI.out (by omega)).mono ?_
        rintro e W1 ⟨rfl, HB1, hk1⟩
        have hgk := (HB1.out.2.cell (p := ⟨g, o + k, none⟩) hg).trans ((HI.out.2.cell (p := ⟨g, o + k, none⟩) hg).symm)
        clear hk1
        cases he : s.toList.isEmpty with
        | true =>
          unfold dash12 at HXN
          rw [if_pos he] at HXN
          go_wp2_with fail
          refine (bldStr12 _ w _ ⟨#[45]⟩ W1 HB1.out hs32 (by rw [one12]; omega)).mono ?_
          rintro e W2 ⟨rfl, HB2, hk2⟩
          clear hk2
          go_wp2
          go_roundw
          case rel => exact ⟨k + 1, _, by omega, by go_num, Lib.hid HXN.out.symm, HB2⟩
          case measure => simp [intOf]; omega
        | false =>
          unfold dash12 at HXN
          rw [if_neg (by rw [he]; simp)] at HXN
          go_wp2_with fail
          refine (bldStr12 _ w _ s W1 HB1.out hs32 (by omega)).mono ?_
          rintro e W2 ⟨rfl, HB2, hk2⟩
          clear hk2
          go_wp2
          go_roundw
          case rel => exact ⟨k + 1, _, by omega, by go_num, Lib.hid HXN.out.symm, HB2⟩
          case measure => simp [intOf]; omega
    · obtain rfl : k = xs.length := by omega
      have HE : Hid (⟨x.data.toList.toArray⟩ = thRes xs) := by
        show _ = _
        unfold thRes
        rw [if_neg H0.out, ← HX.out]
      go_wp2_with fail
      refine (Tryd.Builder_String_any_k w.heap.size w.heap.size _ _ HI.out.1 HI.out.2.size).mono ?_
      rintro e w5 ⟨rfl, -, hb5, -⟩
      have HB5 := Lib.hid (HI.out.2.trans hb5)
      clear hb5 HI
      go_wp2
      go_ret
      exact ⟨congrArg (fun z => Ending.returned (.string z)) HE.out, HB5.out⟩

end Go.Proofs.YtdbddockmdkmeaaDoor
/- The reference's decimal numerals. -/
namespace Go.Proofs.YtdbddockmdkmeaaDoor
open Go.RowKit

theorem digit_byte (d : Nat) (h : d < 10) : (UInt8.ofNat (48 + d)).toNat = 48 + d := by
  rw [UInt8.toNat_ofNat']
  omega
set_option maxRecDepth 100000 in
/-- A byte in a new block is one sign. -/
theorem conv_digit (w : World) (d : Nat) (h : d < 10) (v : Int) (hv : v = 48 + (d : Int)) :
    (convert 22 9 (.slice (some ⟨w.heap.size, 0, none⟩) 1 1)).run Tryd.prog (w.alloc (.cells #[.int .u8 v] 5)) = .ok (.string (txt12 [UInt8.ofNat (48 + d)])) (w.alloc (.cells #[.int .u8 v] 5)) :=
  run_convert_bytes_back _ _ _ 5 _ 1 [UInt8.ofNat (48 + d)] Tryd.underlying22 Tryd.underlying5 Tryd.underlying9 fun j hj => by
    have hj0 : j = 0 := by simp at hj; exact hj
    subst hj0
    have h1 : (w.alloc (.cells #[.int .u8 v] 5)).cell? ⟨w.heap.size, 0, none⟩ = some (.int .u8 v) := Row.cell (Row.new w 5 #[.int .u8 v]) 0
    have h2 : ((UInt8.ofNat (48 + d)).toNat : Int) = v := by rw [digit_byte d h, hv]; omega
    show (w.alloc _).cell? (Addr.add ⟨w.heap.size, 0, none⟩ 0) = some (.int .u8 (((UInt8.ofNat (48 + d)).toNat : Nat) : Int))
    rw [h2]
    exact h1

set_option maxRecDepth 100000 in
set_option maxHeartbeats 1000000 in
theorem l13Dec_nat (n : Nat) (w : World) (hn : n ≤ 9223372036854775807) :
    Calls Tryd.prog 84 #[.int .i64 n] w fun e w' => e = .returned (.string (txt12 (Lib.decDigits n))) ∧ Below w.heap.size w w' := by
  have h1 : ¬ (n : Int) < -9223372036854775807 := by omega
  have h2 : ¬ (n : Int) < 0 := by omega
  obtain ⟨D, HD⟩ : ∃ D, Hid (D = Lib.decDigits n) := ⟨_, rfl⟩
  have HL : Hid (D.length ≤ 19) := by
    show _ ≤ _
    rw [HD.out, Lib.decDigits_length]
    exact nDigits_le n (by omega)
  rw [← HD.out]
  go_enter Tryd.func84, Tryd.ntmps84
  go_wp2
  go_loopw [0, 3] (fun v0 v3 wr => ∃ (k : Nat) (out : List UInt8), v0 = .int .i64 k ∧ v3 = .string (txt12 out) ∧ k ≤ n ∧ Hid (D = Lib.decDigits k ++ out) ∧ Hid (Below w.heap.size w wr))
    (fun v0 _ _ => (intOf v0).toNat)
  case atStart => exact ⟨n, [], rfl, rfl, Nat.le_refl _, by rw [List.append_nil]; exact HD, Lib.hid (Below.refl _ _)⟩
  case round =>
    obtain ⟨k, out, rfl, rfl, hkn, HE, HB⟩ := hrel
    have hol : (txt12 out).size ≤ 19 := by
      have h1 := HL.out
      rw [HE.out, List.length_append] at h1
      rw [txt12_size]; omega
    have hz := HB.out.size
    by_cases h9 : 9 < k
    · have h9' : (9 : Int) < (k : Int) := by omega
      obtain ⟨d, HDD⟩ : ∃ d : Nat, Hid (d = k % 10) := ⟨_, rfl⟩
      have hd10 : d < 10 := by rw [HDD.out]; omega
      have hcv := conv_digit wr d hd10 (48 + (k : Int) % 10) (by have := HDD.out; omega)
      obtain ⟨q, HQ⟩ : ∃ q, Hid (q = UInt8.ofNat (48 + d)) := ⟨_, rfl⟩
      rw [← HQ.out] at hcv
      have hsz1 : (txt12 [q]).size + (txt12 out).size ≤ 9223372036854775807 := by rw [txt12_size]; simp; omega
      have HN : Hid (D = Lib.decDigits (k / 10) ++ ([q] ++ out)) := by
        show _ = _
        rw [HQ.out, HE.out, decDigits_big (by omega), HDD.out, List.append_assoc]
      have HB2 : Hid (Below w.heap.size w (wr.alloc (.cells #[.int .u8 (48 + (k : Int) % 10)] 5))) := HB.out.alloc hz _
      go_wp2
      go_roundw
      case rel => exact ⟨k / 10, [q] ++ out, by go_num, by rw [txt12_app], by omega, HN, HB2⟩
      case measure => simp [intOf]; omega
    · have h9' : ¬ (9 : Int) < (k : Int) := by omega
      have hk10 : k < 10 := by omega
      have hcv := conv_digit wr k hk10 (48 + (k : Int)) rfl
      obtain ⟨q, HQ⟩ : ∃ q, Hid (q = UInt8.ofNat (48 + k)) := ⟨_, rfl⟩
      rw [← HQ.out] at hcv
      have hsz1 : (txt12 [q]).size + (txt12 out).size ≤ 9223372036854775807 := by rw [txt12_size]; simp; omega
      have HB2 : Hid (Below w.heap.size w (wr.alloc (.cells #[.int .u8 (48 + (k : Int))] 5))) := HB.out.alloc hz _
      have HN : Hid (txt12 D = txt12 [q] ++ txt12 out) := by
        show _ = _
        rw [HQ.out, HE.out, decDigits_small hk10, txt12_app]
      go_wp2
      go_ret
      exact ⟨by rw [HN.out]; rfl, HB2.out⟩

set_option maxRecDepth 100000 in
set_option maxHeartbeats 1000000 in
theorem l13Dec_any (n : Int) (w : World) (hn : -9223372036854775808 ≤ n) (hn2 : n ≤ 9223372036854775807) :
    Calls Tryd.prog 84 #[.int .i64 n] w fun e w' => e = .returned (.string (txt12 (Lib.itoa n))) ∧ Below w.heap.size w w' := by
  by_cases h0 : 0 ≤ n
  · obtain ⟨m, rfl⟩ := Int.eq_ofNat_of_zero_le h0
    have h := l13Dec_nat m w (by omega)
    have e : Lib.itoa (m : Int) = Lib.decDigits m := by
      unfold Lib.itoa
      rw [if_neg (by omega), Int.toNat_natCast]
    rw [e]
    exact h
  · by_cases hm : n < -9223372036854775807
    · have e : n = -9223372036854775808 := by omega
      subst e
      have HE : Hid (txt12 (Lib.itoa (-9223372036854775808)) = ⟨#[45, 57, 50, 50, 51, 51, 55, 50, 48, 51, 54, 56, 53, 52, 55, 55, 53, 56, 48, 56]⟩) := by
        show _ = _
        have h : Lib.itoa (-9223372036854775808) = [45, 57, 50, 50, 51, 51, 55, 50, 48, 51, 54, 56, 53, 52, 55, 55, 53, 56, 48, 56] := by
          unfold Lib.itoa
          rw [if_pos (by decide)]
          show 45 :: Lib.decDigits 9223372036854775808 = _
          rw [decDigits_big (by decide), decDigits_big (by decide), decDigits_big (by decide), decDigits_big (by decide), decDigits_big (by decide), decDigits_big (by decide), decDigits_big (by decide), decDigits_big (by decide), decDigits_big (by decide), decDigits_big (by decide), decDigits_big (by decide), decDigits_big (by decide), decDigits_big (by decide), decDigits_big (by decide), decDigits_big (by decide), decDigits_big (by decide), decDigits_big (by decide), decDigits_big (by decide), decDigits_small (by decide)]
          rfl
        rw [h]; rfl
      rw [HE.out]
      clear HE
      go_enter Tryd.func84, Tryd.ntmps84
      go_wp2
      go_ret
      exact ⟨rfl, Below.refl _ _⟩
    · obtain ⟨m, hmn⟩ : ∃ m : Nat, n = -(m : Int) := ⟨n.natAbs, by omega⟩
      have hm1 : m ≤ 9223372036854775807 := by omega
      have HQ := Lib.hid (fun w => l13Dec_nat m w hm1)
      have HE : Hid (txt12 (Lib.itoa n) = (⟨#[45]⟩ : ByteArray) ++ txt12 (Lib.decDigits m)) := by
        show _ = txt12 [45] ++ _
        rw [txt12_app]
        unfold Lib.itoa
        rw [if_pos (by omega), show n.natAbs = m by omega]
        rfl
      have hsz : (⟨#[45]⟩ : ByteArray).size + (txt12 (Lib.decDigits m)).size ≤ 9223372036854775807 := by
        rw [txt12_size, Lib.decDigits_length]
        have := nDigits_le m (by omega)
        show 1 + _ ≤ _
        omega
      have hneg : IntKind.i64.wrap (-n) = (m : Int) := (IntWalk.i64_in _ (by omega)).trans (by omega)
      have h2 : n < 0 := by omega
      rw [HE.out]
      clear HE
      generalize txt12 (Lib.decDigits m) = y at *
      go_enter Tryd.func84, Tryd.ntmps84
      go_wp2_with fail
      refine Calls.mono (HQ.out w) ?_
      rintro e w2 ⟨rfl, hb⟩
      go_wp2
      go_ret
      exact ⟨rfl, hb⟩

end Go.Proofs.YtdbddockmdkmeaaDoor
/- A row of numbers of the call's own; marks in numbers: what a law writes into what it was given, and whether it is held. -/
namespace Go.Proofs.YtdbddockmdkmeaaDoor.Si
open Go.RowKit

/-- Numbers in a row of the call's own. -/
def OwnInts (w : World) (B : Nat) (v : Value) (ts : List Int) : Prop := w.ownsRow B 3 1 v ts.length (ts.map (Value.int .i64))
theorem OwnInts.far {w w' : World} {B : Nat} {v : Value} {ts : List Int} (h : OwnInts w B v ts) (hk : ∀ g, v.ownBlock = some g → w'.heap[g]? = w.heap[g]?) : OwnInts w' B v ts := by
  refine ⟨h.1, ?_⟩
  rcases h.2 with h0 | ⟨g', cap, cur, rfl, hg, hh, r⟩
  · exact .inl h0
  · exact .inr ⟨g', cap, cur, rfl, hg, (hk g' rfl).trans hh, r⟩
theorem OwnInts.below {w w' : World} {B : Nat} {v : Value} {ts : List Int} (h : OwnInts w B v ts) (hb : Below w.heap.size w w') : OwnInts w' B v ts := h.far fun g hg => hb.block g (World.ownsRow.lt h g hg).2
theorem OwnInts.empty (w : World) {B : Nat} (hB : B ≤ w.heap.size) : OwnInts (w.alloc (.cells #[] 3)) B (.slice (some ⟨w.heap.size, 0, none⟩) 0 0) [] :=
  World.ownsRow_lit w #[] 0 hB (by simp [maxLen]) rfl
/-- A slice of numbers in memory below 'B'. -/
def Ints (w : World) (B : Nat) (A : Option Addr) (ts : List Int) : Prop :=
  0 < ts.length → ∃ b o, A = some ⟨b, o, none⟩ ∧ b < B ∧ ∀ (k : Nat) (s : Int), ts[k]? = some s → w.cell? ⟨b, o + k, none⟩ = some (.int .i64 s)
theorem Ints.below {w w' : World} {B : Nat} {A : Option Addr} {l : List Int} (h : Ints w B A l) (hb : Below B w w') : Ints w' B A l := fun hl => by
  obtain ⟨b, o, e, hB, hc⟩ := h hl
  refine ⟨b, o, e, hB, fun k s hk => ?_⟩
  rw [hb.cell hB]
  exact hc k s hk
theorem Ints.more {w : World} {B B' : Nat} {A : Option Addr} {l : List Int} (h : Ints w B A l) (hB : B ≤ B') : Ints w B' A l := fun hl => by
  obtain ⟨b, o, e, hb, hc⟩ := h hl
  exact ⟨b, o, e, Nat.lt_of_lt_of_le hb hB, hc⟩
theorem intsCell {w : World} {B g cap : Nat} {ts : List Int} (h : OwnInts w B (.slice (some ⟨g, 0, none⟩) ts.length cap) ts) {i : Nat} {s : Int} (hi : ts[i]? = some s) : w.cell? ⟨g, i, none⟩ = some (.int .i64 s) := by
  have hlt := (List.getElem?_eq_some_iff.1 hi).1
  have := World.ownsRow.cellAt h i (by omega)
  rw [this, List.getElem?_map, hi]
  rfl
theorem intsForm {w : World} {B : Nat} {v : Value} {ts : List Int} (h : OwnInts w B v ts) : ∃ A cap, v = .slice A ts.length cap ∧ Ints w w.heap.size A ts := by
  have h' := h
  rcases h.2 with ⟨rfl, h0⟩ | ⟨g, cap, cur, rfl, hg, hh, r⟩
  · exact ⟨none, 0, by rw [h0], fun h => absurd h (by omega)⟩
  · refine ⟨_, cap, rfl, fun _ => ⟨g, 0, rfl, (Array.getElem?_eq_some_iff.1 hh).1, fun k s hk => ?_⟩⟩
    rw [Nat.zero_add]
    exact intsCell h' hk
theorem intsFar {w w' : World} {B : Nat} {v : Value} {ts : List Int} {may : Nat → Prop} (h : OwnInts w B v ts) (ho : Only w w' may) (hm : ∀ g, v.ownBlock = some g → ¬ may g) : OwnInts w' B v ts :=
  h.far fun g hg => ho.block g (World.ownsRow.lt h g hg).2 (hm g hg)

end Go.Proofs.YtdbddockmdkmeaaDoor.Si

namespace Go.Proofs.YtdbddockmdkmeaaDoor
open Go.RowKit

end Go.Proofs.YtdbddockmdkmeaaDoor
/- The reference's text of numbers. -/
namespace Go.Proofs.YtdbddockmdkmeaaDoor
open Go.RowKit

theorem fmtB_take {xs : List Int} {k : Nat} (hk : k < xs.length) : fmtB (xs.take (k + 1)) = if k = 0 then Lib.itoa xs[k] else fmtB (xs.take k) ++ 32 :: Lib.itoa xs[k] := by
  rw [List.take_succ_eq_append_getElem hk, fmtB_snoc]
  by_cases h : k = 0
  · subst h; rw [if_pos rfl, if_pos (by simp)]
  · rw [if_neg h, if_neg (fun e => by
      have h2 := congrArg List.length e
      rw [List.length_take, List.length_nil] at h2
      omega)]

set_option maxRecDepth 100000 in
set_option maxHeartbeats 1000000 in
theorem specFormatNumbers_any (A : Option Addr) (xs : List Int) (c : Nat) (w : World) (hw : Si.Ints w w.heap.size A xs) (hl : xs.length ≤ 1048576) (hr : ∀ x ∈ xs, -9223372036854775808 ≤ x ∧ x ≤ 9223372036854775807) :
    Calls Tryd.prog 39 #[.slice A xs.length c] w fun e w' => e = .returned (.string (fmtRes xs)) ∧ Below w.heap.size w w' := by
  have HW := Lib.hid hw
  have HR := Lib.hid hr
  clear hw hr
  go_enter Tryd.func39, Tryd.ntmps39
  go_wp2
  go_loopw [3, 8] (fun s i wr => ∃ (k : Nat) (z : ByteArray), s = .string z ∧ i = .int .i64 k ∧ k ≤ xs.length ∧ z.size ≤ 21 * k ∧ Hid (z = txt12 (fmtB (xs.take k))) ∧ Hid (Below w.heap.size w wr))
    (fun _ i _ => xs.length - (intOf i).toNat)
  case atStart => exact ⟨0, _, rfl, rfl, Nat.zero_le _, Nat.le_refl _, Lib.hid rfl, Lib.hid (Below.refl _ _)⟩
  case round =>
    obtain ⟨k, z, rfl, rfl, hk, hz, HZ, HB⟩ := hrel
    by_cases hlt : k < xs.length
    · have hlt' : (k : Int) < (xs.length : Int) := by omega
      obtain ⟨b, o, rfl, hb, hcs⟩ := HW.out (by omega)
      have e1 := hcs k xs[k] (List.getElem?_eq_getElem hlt)
      rw [← HB.out.cell hb] at e1
      obtain ⟨hx0, hx1⟩ := HR.out xs[k] (List.getElem_mem hlt)
      have HT := Lib.hid (fmtB_take hlt)
      have hyl := itoa_len xs[k] hx0 hx1
      clear hcs
      generalize xs[k] = x at *
      have HQ := Lib.hid (fun w => l13Dec_any x w hx0 hx1)
      obtain ⟨y, HY⟩ : ∃ y, Hid (y = txt12 (Lib.itoa x)) := ⟨_, rfl⟩
      have hys : y.size ≤ 20 := by rw [HY.out, txt12_size]; exact hyl
      rw [← HY.out] at HQ
      by_cases h0 : k = 0
      · have h0' : ¬ (0 : Int) < (k : Int) := by omega
        have HN : Hid (z ++ y = txt12 (fmtB (xs.take (k + 1)))) := by
          show _ = _
          have h2 := HT.out
          rw [if_pos h0] at h2
          rw [HZ.out, HY.out, h2, h0, txt12_app]
          simp [fmtB]
        have hsz : z.size + y.size ≤ 9223372036854775807 := by omega
        clear HT HZ HY h0
        go_wp2_with fail
        refine Calls.mono (HQ.out _) ?_
        rintro e w2 ⟨rfl, hb2⟩
        have HB2 : Hid (Below w.heap.size w w2) := HB.out.trans (hb2.mono HB.out.size)
        have hsn : (z ++ y).size ≤ 21 * (k + 1) := by rw [ByteArray.size_append]; omega
        clear hb2 HQ HB
        go_wp2
        go_roundw
        case rel => exact ⟨k + 1, _, rfl, by go_num, by omega, hsn, HN, HB2⟩
        case measure => simp [intOf]; omega
      · have h0' : (0 : Int) < (k : Int) := by omega
        have HN : Hid (z ++ ⟨#[32]⟩ ++ y = txt12 (fmtB (xs.take (k + 1)))) := by
          show z ++ txt12 [32] ++ y = _
          have h2 := HT.out
          rw [if_neg h0] at h2
          rw [HZ.out, HY.out, h2, txt12_app, txt12_app, List.append_assoc]
          rfl
        have hsz0 : z.size + (⟨#[32]⟩ : ByteArray).size ≤ 9223372036854775807 := by show z.size + 1 ≤ _; omega
        have hs1 : (z ++ (⟨#[32]⟩ : ByteArray)).size = z.size + 1 := by rw [ByteArray.size_append]; rfl
        have hsz : (z ++ (⟨#[32]⟩ : ByteArray)).size + y.size ≤ 9223372036854775807 := by omega
        clear HT HZ HY h0
        go_wp2_with fail
        refine Calls.mono (HQ.out _) ?_
        rintro e w2 ⟨rfl, hb2⟩
        have HB2 : Hid (Below w.heap.size w w2) := HB.out.trans (hb2.mono HB.out.size)
        have hsn : (z ++ (⟨#[32]⟩ : ByteArray) ++ y).size ≤ 21 * (k + 1) := by rw [ByteArray.size_append, hs1]; omega
        clear hb2 HQ HB
        go_wp2
        go_roundw
        case rel => exact ⟨k + 1, _, rfl, by go_num, by omega, hsn, HN, HB2⟩
        case measure => simp [intOf]; omega
    · have hke : k = xs.length := by omega
      have HZ2 : Hid (z = txt12 (fmtB xs)) := by
        show _ = _
        rw [HZ.out, hke, List.take_length]
      have HR2 : Hid (fmtRes xs = txt12 (if xs = [] then [45] else fmtB xs)) := rfl
      clear HR
      by_cases hx : xs = []
      · have hz0 : z = ⟨#[]⟩ := by rw [HZ2.out, hx]; rfl
        have HF : Hid (fmtRes xs = ⟨#[45]⟩) := by
          show _ = _
          rw [HR2.out, if_pos hx]; rfl
        subst hz0
        clear hx HZ HZ2 HR2
        go_wp2
        go_ret
        exact ⟨by rw [HF.out]; rfl, HB.out⟩
      · have HF : Hid (fmtRes xs = z) := by
          show _ = _
          rw [HR2.out, if_neg hx, HZ2.out]
        have hne : z.toList.isEmpty = false := by
          rw [← Bool.not_eq_true]
          intro e
          have h0 : z.toList = [] := List.isEmpty_iff.1 e
          have e : sameB z ⟨#[]⟩ = true := by
            unfold sameB
            rw [h0]
            unfold ByteArray.toList ByteArray.toList.loop
            decide
          have e := sameB_iff.1 e
          rw [HZ2.out] at e
          have h2 := congrArg ByteArray.size e
          rw [txt12_size] at h2
          have h3 : fmtB xs = [] := List.eq_nil_of_length_eq_zero h2
          exact hx (fmtB_nil.1 h3)
        clear hx HZ HZ2 HR2
        go_wp2
        go_ret
        exact ⟨by rw [HF.out]; rfl, HB.out⟩

end Go.Proofs.YtdbddockmdkmeaaDoor
/- The program's FormatNumbers. -/
namespace Go.Proofs.YtdbddockmdkmeaaDoor
open Go.RowKit

/-- The powers of ten lie where the library reads them, whatever is made from here on. -/
def Pow12 (w : World) : Prop := Lib.TabBelow Tryd.prog w.heap.size w "internal/strconv.uint64pow10" .u64 Lib.pow10Tab
theorem Pow12.of {w : World} (h : Lib.TabIs Tryd.prog w "internal/strconv.uint64pow10" .u64 Lib.pow10Tab) : Pow12 w := Lib.tabBelow_of_tabIs h
theorem Pow12.below {w w' : World} (h : Pow12 w) (hb : Below w.heap.size w w') : Pow12 w' :=
  Pow12.of ((h.on hb).here)
theorem itoa12_any (n : Int) (w : World) (h : Pow12 w) (h0 : -9223372036854775808 ≤ n) (h1 : n ≤ 9223372036854775807) :
    Calls Tryd.prog 94 #[.int .i64 n] w fun e w' => e = .returned (.string (txt12 (Lib.itoa n))) ∧ Below w.heap.size w w' := by
  refine (Tryd.strconv_Itoa n h0 h1 w h.here).mono ?_
  rintro e w' ⟨rfl, k, os, rfl⟩
  exact ⟨rfl, Lib.below_grow _ _ (Nat.le_refl _) _ _⟩

set_option maxRecDepth 100000 in
/-- A text put behind texts. -/
theorem wp_appT12 {ops : Array Oper} {rest : List Oper} {o : Oper} {a : Act} {Q : Exit → Act → World → Prop} (hgd : o.guard = none) (S X : Operand)
    (ho : o.op = Op.call { callee := Callee.builtin Builtin.append, args := #[S, X], argTypes := #[79, 79] })
    (B : Nat) (v : Value) (ts : List ByteArray) (W : World) (hs : a.eval S = v) (hown : OwnTexts W B v ts) (htl : ts.length ≤ 100000000) (hB : B ≤ W.heap.size)
    (g : Nat) (u : ByteArray) (hx : a.eval X = .slice (some ⟨g, 0, none⟩) 1 1) (hnew : W.cell? ⟨g, 0, none⟩ = some (.string u))
    (h : ∀ v' w', OwnTexts w' B v' (ts ++ [u]) → Below B W w' → wpList Tryd.prog ops Q rest (a.put o.dst v') w') :
    wpList Tryd.prog ops Q (o :: rest) a W := by
  obtain ⟨i0, hi, hz0, hz1, hz2⟩ := info_parts info_str
  refine wpList_append_own W hgd S X 79 ho B 9 i0 (.string ByteArray.empty) 1 16 Tryd.underlying79 hi hz0 hz1 hz2 rfl (by decide) v ts.length (ts.map Value.string) hs hown ⟨g, 0, none⟩ 1 1 [.string u] hx rfl ?_ ?_ (by unfold maxLen; omega) (by omega) hB ?_
  · intro j x hj
    have hj0 : j = 0 := by have := (List.getElem?_eq_some_iff.1 hj).1; simp at this; omega
    subst hj0
    simp at hj
    subst hj
    exact hnew
  · intro x hx'
    rw [List.mem_singleton.1 hx']
    rfl
  · intro v' w' h1 h2 h3
    refine h v' w' ?_ ?_
    · show w'.ownsRow B _ 1 v' (ts ++ [u]).length ((ts ++ [u]).map Value.string)
      rw [List.length_append, List.map_append]
      exact h1
    · exact (Below.refl B W).grown h2 hB (fun k e => (World.ownsRow.lt hown k e).1)

/-- The texts of numbers. -/
def numTexts (xs : List Int) : List ByteArray := xs.map fun x => txt12 (Lib.itoa x)
theorem dash_num (x : Int) : dash12 (txt12 (Lib.itoa x)) = txt12 (Lib.itoa x) := by
  unfold dash12
  rw [if_neg]
  intro e
  have h0 : (txt12 (Lib.itoa x)).toList = [] := List.isEmpty_iff.1 e
  have e : sameB (txt12 (Lib.itoa x)) ⟨#[]⟩ = true := by
    unfold sameB
    rw [h0]
    unfold ByteArray.toList ByteArray.toList.loop
    decide
  have h2 := congrArg ByteArray.size (sameB_iff.1 e)
  rw [txt12_size] at h2
  exact itoa_ne x (List.eq_nil_of_length_eq_zero h2)
theorem thTo_nums (xs : List Int) : ∀ k, k ≤ xs.length → thTo (numTexts xs) k = txt12 (fmtB (xs.take k))
  | 0, _ => rfl
  | k + 1, hk => by
    have hk' : k < xs.length := by omega
    have hl : k < (numTexts xs).length := by unfold numTexts; rw [List.length_map]; exact hk'
    have e : (numTexts xs)[k] = txt12 (Lib.itoa xs[k]) := List.getElem_map _
    rw [thTo_succ hl, e, dash_num, fmtB_take hk', thTo_nums xs k (by omega)]
    by_cases h0 : k = 0
    · rw [if_pos h0, if_pos h0]; exact nil_app12 _
    · rw [if_neg h0, if_neg h0]
      show txt12 _ ++ txt12 [32] ++ txt12 _ = _
      rw [txt12_app, txt12_app, List.append_assoc]
      rfl
theorem thRes_nums (xs : List Int) : thRes (numTexts xs) = fmtRes xs := by
  have hl : (numTexts xs).length = xs.length := by unfold numTexts; rw [List.length_map]
  unfold thRes fmtRes
  rw [hl]
  by_cases h : xs = []
  · rw [if_pos h, if_pos (by rw [h]; rfl)]; rfl
  · rw [if_neg h, if_neg (fun e => h (List.eq_nil_of_length_eq_zero e)), thTo_nums xs _ (Nat.le_refl _), List.take_length]
theorem numTexts_next {xs : List Int} {k : Nat} (hk : k < xs.length) : numTexts (xs.take (k + 1)) = numTexts (xs.take k) ++ [txt12 (Lib.itoa xs[k])] := by
  unfold numTexts
  rw [List.take_succ_eq_append_getElem hk, List.map_append]
  rfl

set_option maxRecDepth 100000 in
set_option maxHeartbeats 1000000 in
theorem formatNumbers_any (A : Option Addr) (xs : List Int) (c : Nat) (w : World) (hw : Si.Ints w w.heap.size A xs) (hp : Pow12 w) (hl : xs.length ≤ 1048576) (hr : ∀ x ∈ xs, -9223372036854775808 ≤ x ∧ x ≤ 9223372036854775807) :
    Calls Tryd.prog 38 #[.slice A xs.length c] w fun e w' => e = .returned (.string (fmtRes xs)) ∧ Below w.heap.size w w' := by
  have HW := Lib.hid hw
  have HR := Lib.hid hr
  have HP := Lib.hid hp
  have HS0 : Hid (OwnTexts w w.heap.size (.slice none 0 0) (numTexts (xs.take 0))) := World.ownsRow_nil _ _ _ _
  clear hw hr hp
  go_enter Tryd.func38, Tryd.ntmps38
  go_wp2
  go_loopw [3, 8] (fun s i wr => ∃ (k : Nat), i = .int .i64 k ∧ k ≤ xs.length ∧ Hid (OwnTexts wr w.heap.size s (numTexts (xs.take k))) ∧ Hid (Below w.heap.size w wr))
    (fun _ i _ => xs.length - (intOf i).toNat)
  case atStart => exact ⟨0, rfl, Nat.zero_le _, HS0, Lib.hid (Below.refl _ _)⟩
  case round =>
    obtain ⟨k, rfl, hk, HT, HB⟩ := hrel
    clear HS0
    by_cases hlt : k < xs.length
    · have hlt' : (k : Int) < (xs.length : Int) := by omega
      obtain ⟨b, o, rfl, hb, hcs⟩ := HW.out (by omega)
      have e1 := hcs k xs[k] (List.getElem?_eq_getElem hlt)
      rw [← HB.out.cell hb] at e1
      obtain ⟨hx0, hx1⟩ := HR.out xs[k] (List.getElem_mem hlt)
      have HNX := Lib.hid (numTexts_next hlt)
      have htl : (numTexts (xs.take k)).length ≤ 100000000 := by unfold numTexts; rw [List.length_map, List.length_take]; omega
      have HPW : Hid (Pow12 wr) := HP.out.below HB.out
      clear hcs
      generalize xs[k] = x at *
      obtain ⟨A1, cap1, rfl, -⟩ := St.textsForm HT.out
      generalize numTexts (xs.take k) = ts at *
      go_wp2_with fail
      refine (itoa12_any x wr HPW.out hx0 hx1).mono ?_
      rintro e w2 ⟨rfl, hb2⟩
      generalize txt12 (Lib.itoa x) = y at *
      have hz2 := hb2.size
      have hz := HB.out.size
      have HB2 : Hid (Below w.heap.size w w2) := HB.out.trans (hb2.mono hz)
      have HT6 : Hid (OwnTexts (w2.alloc (.cells #[.string y] 9)) w.heap.size (.slice A1 ts.length cap1) ts) := (HT.out.below hb2).below ((Below.refl _ w2).alloc (Nat.le_refl _) _)
      have HN6 : Hid ((w2.alloc (.cells #[.string y] 9)).cell? ⟨w2.heap.size, 0, none⟩ = some (.string y)) := Row.cell (Row.new w2 9 #[.string y]) 0
      clear hb2
      go_wp2_with (at_builtin; go_loud (refine wp_appT12 rfl (.tmp 12) (.tmp 15) rfl w.heap.size _ ts _ rfl HT6.out htl (by simp; omega) w2.heap.size y rfl HN6.out ?_); intro v7 w7 ho7 hb7; have HO7 := Lib.hid ho7; have HB7 : Hid (Below w.heap.size w w7) := (HB2.out.alloc HB2.out.size _).trans hb7; clear ho7 hb7 HT6 HN6)
      rw [← HNX.out] at HO7
      clear HT HB2 HB HNX
      go_roundw
      case rel => exact ⟨k + 1, by go_num, by omega, HO7, HB7⟩
      case measure => simp [intOf]; omega
    · have hke : k = xs.length := by omega
      rw [hke, List.take_length] at HT
      have HF := Lib.hid (thRes_nums xs)
      have hxs : ∀ x ∈ numTexts xs, x.size ≤ 20 := fun x hx => by
        obtain ⟨n, hn, rfl⟩ := List.mem_map.1 hx
        obtain ⟨h0, h1⟩ := HR.out n hn
        rw [txt12_size]
        exact itoa_len n h0 h1
      have hnl : (numTexts xs).length = xs.length := by unfold numTexts; rw [List.length_map]
      obtain ⟨A1, cap1, rfl, HS⟩ := St.textsForm HT.out
      have HQ := Lib.hid (formatThings_any 20 A1 (numTexts xs) cap1 wr HS hxs (by rw [hnl]; omega))
      rw [HF.out] at HQ
      clear HS hxs HT HR
      rw [hnl] at HQ
      have HNL : Hid ((numTexts xs).length = xs.length) := hnl
      clear hnl HF
      generalize hgt : numTexts xs = ts at *
      clear hgt
      have hts : ts.length = xs.length := HNL.out
      clear hts
      rw [HNL.out]
      go_wp2_with fail
      refine HQ.out.mono ?_
      rintro e w3 ⟨rfl, hb3⟩
      have HB3 := Lib.hid (HB.out.trans (hb3.mono HB.out.size))
      clear hb3
      go_wp2
      go_ret
      exact ⟨rfl, HB3.out⟩

end Go.Proofs.YtdbddockmdkmeaaDoor
