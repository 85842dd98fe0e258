/- A byte written into a Builder. -/
import Derived.Test.YtdbddockmdkmeaaDoorSb
import Derived.Lib.FrozenHead2
namespace Go.Proofs.YtdbddockmdkmeaaDoor
open Go.RowKit

theorem byteCells_app (s t : List UInt8) : Lib.byteCells (s ++ t) = Lib.byteCells s ++ Lib.byteCells t := by simp [Lib.byteCells]
theorem strCells_one (c : UInt8) : Lib.strCells ⟨#[c]⟩ = Lib.byteCells [c] := rfl
theorem byteCells_len (s : List UInt8) : (Lib.byteCells s).length = s.length := by simp [Lib.byteCells]

/-- What a writing call of one byte has done. -/
def WroteB (w : World) (B b : Nat) (bs : List Value) (e : Ending) (w' : World) : Prop :=
  e = .returned .nilIface ∧ Lib.IsBuilderF 56 5 B b bs w' ∧ Below B w w' ∧ Lib.OthersKept 5 (some b) w w'

set_option maxRecDepth 100000 in
set_option maxHeartbeats 1000000 in
theorem writeByte_any (B b : Nat) (bs : List Value) (n : Int) (w : World) (h : Lib.IsBuilderF 56 5 B b bs w) (hlen : bs.length ≤ 100000000) (hBw : B ≤ w.heap.size) :
    Calls Tryd.prog 81 #[.pointer (some ⟨b, 0, none⟩), .int .u8 n] w (WroteB w B b (bs ++ [.int .u8 n])) := by
  obtain ⟨i0, hi, hz0, hz1, hz2⟩ := info_parts info_byte
  have I0 := Lib.hid hi
  have Z0 := Lib.hid hz0
  have Z1 := Lib.hid hz1
  have Z2 := Lib.hid hz2
  clear hi hz0 hz1 hz2
  go_enter Tryd.func81, Tryd.ntmps81
  go_wp2_with fail
  refine (copyCheck_any B b bs _ h).mono ?_
  rintro e w1 ⟨rfl, h1, hb1, hk1⟩
  obtain ⟨hB, v, hbk, hown, hne⟩ := h1
  have c0 : w1.cell? ⟨b, 0, none⟩ = some (.pointer (some ⟨b, 0, none⟩)) := by rw [Lib.cell_of_heap hbk]; rfl
  have c1 : w1.cell? ⟨b, 1, none⟩ = some v := by rw [Lib.cell_of_heap hbk]; rfl
  have hz1 := hb1.size
  have HNW := Lib.hid (cell_one_new w1 (.int .u8 n) 5)
  have HO := Lib.hid (hown.alloc (.cells #[.int .u8 n] 5))
  have HOWN := Lib.hid hown
  clear hown
  go_wp2_with (at_builtin; go_must (refine wpList_append_ownF _ rfl _ _ 22 rfl B 5 i0 (.int .u8 0) 1 1 Tryd.underlying22 I0.out Z0.out Z1.out Z2.out rfl (by decide) v bs.length bs rfl HO.out ⟨w1.heap.size, 0, none⟩ 1 1 [.int .u8 n] rfl rfl HNW.out (by simp [Value.oneCell']) (by unfold maxLen; omega) (by omega) (by simp; omega) ?_))
  intro v' w2 hown' hgrow' _
  have hgrow : World.grownBy (w1.alloc (.cells #[.int .u8 n] 5)) w2 v.ownBlock := hgrow'
  clear hgrow'
  have hlt : b < w1.heap.size := (Array.getElem?_eq_some_iff.1 hbk).1
  have hb2 : w2.heap[b]? = some (.cells #[.pointer (some ⟨b, 0, none⟩), v] 56 (0, 0)) := (hgrow.block b (by simp; omega) (fun e => hne e.symm)).trans ((Below.heap_alloc w1 _ b hlt).trans hbk)
  have d1 : w2.cell? ⟨b, 1, none⟩ = some v := by rw [Lib.cell_of_heap hb2]; rfl
  have f1 : w2.frozen? ⟨b, 1, none⟩ = false := Lib.frozen_of_heap hb2 1
  obtain ⟨ao, n', cap, rfl⟩ : ∃ ao n' cap, v' = .slice ao n' cap := by
    rcases hown'.2 with ⟨hv, _⟩ | ⟨g, cap, cur, fz, hv, _⟩
    · exact ⟨_, _, _, hv⟩
    · exact ⟨_, _, _, hv⟩
  have HK := Lib.hid (((hk1.alloc (.cells #[.int .u8 n] 5)).grown hgrow (Lib.ownsRowF_kind HO.out)).setCell ⟨b, 1, none⟩ rfl (.slice ao n' cap))
  have HP := Lib.hid (Lib.BuilderAtF.put (T := 56) (e := 5) hB hb2 (bs' := bs ++ [.int .u8 n]) (by simpa using hown') (by decide))
  have HW := Lib.hid (((hb1.alloc (by omega) (.cells #[.int .u8 n] 5)).grown hgrow (by simp; omega) (fun k hk => (HOWN.out.lt k hk).1)).setCell (p := ⟨b, 1, none⟩) hB (.slice ao n' cap))
  clear hown' hgrow hbk hb2 c0 c1 HO HOWN HNW hk1
  go_wp2
  go_ret
  exact ⟨rfl, .inr HP.out, HW.out, HK.out⟩

theorem kept_rowW {w w' : World} {b X : Nat} {T : TypeId} {cs : Array Value} (hk : Lib.OthersKept 5 (some b) w w') (hr : Row w X T cs) (h1 : X ≠ b) (h2 : T ≠ 5) : Row w' X T cs :=
  hk X _ hr (fun e => by injection e with e; exact h1 e) (fun c fz e => by injection e with _ e; exact h2 e)
theorem isB_ltW' {B b : Nat} {bs : List Value} {w : World} (h : Lib.IsBuilderF 56 5 B b bs w) : B ≤ w.heap.size := by
  rcases h with h | h
  · obtain ⟨h1, v, hb, _⟩ := h; have := (Array.getElem?_eq_some_iff.1 hb).1; omega
  · obtain ⟨h1, v, hb, _⟩ := h; have := (Array.getElem?_eq_some_iff.1 hb).1; omega
theorem isB_ltW {B b : Nat} {bs : List Value} {w : World} (h : Lib.IsBuilderF 56 5 B b bs w) : b < w.heap.size := by
  rcases h with h | h
  · obtain ⟨_, v, hb, _⟩ := h; exact (Array.getElem?_eq_some_iff.1 hb).1
  · obtain ⟨_, v, hb, _⟩ := h; exact (Array.getElem?_eq_some_iff.1 hb).1

end Go.Proofs.YtdbddockmdkmeaaDoor
