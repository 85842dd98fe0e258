/- strings.SplitSeq with a space: the iterator yields the pieces. -/
import Derived.Test.YtdbddockmdkmeaaDoorHo
import Derived.Test.YtdbddockmdkmeaaDoorHp
import Derived.Test.YtdbddockmdkmeaaDoorTx
import Derived.Test.YtdbddockmdkmeaaDoorSh
namespace Go.Proofs.YtdbddockmdkmeaaDoor
open Go.RowKit Go.Shelf

/-- The iterator's boxes: what is left, the separator, how much of it is kept. -/
structure Boxes12 (W : World) (n0 : Nat) (r : ByteArray) : Prop where
  text : Row W n0 9 #[.string r]
  sep : Row W (n0 + 1) 9 #[.string ⟨#[32]⟩]
  save : Row W (n0 + 2) 3 #[.int .i64 0]
theorem Boxes12.keep {W W' : World} {n0 : Nat} {r : ByteArray} (h : Boxes12 W n0 r) (hk : KeptBox n0 (n0 + 3) W W') : Boxes12 W' n0 r :=
  ⟨(hk.2 n0 (by omega) (by omega)).trans h.text, (hk.2 (n0 + 1) (by omega) (by omega)).trans h.sep, (hk.2 (n0 + 2) (by omega) (by omega)).trans h.save⟩
theorem Boxes12.put {W : World} {n0 : Nat} {r : ByteArray} (h : Boxes12 W n0 r) (s : ByteArray) : Boxes12 (W.setCell ⟨n0, 0, none⟩ (.string s)) n0 s :=
  ⟨h.text.put 0 _, h.sep.far (p := ⟨n0, 0, none⟩) (by show n0 + 1 ≠ n0; omega) _, h.save.far (p := ⟨n0, 0, none⟩) (by show n0 + 2 ≠ n0; omega) _⟩
theorem grown_put12 (W : World) (b i : Nat) (v : Value) : W.grownBy (W.setCell ⟨b, i, none⟩ v) (some b) := by
  have h := St.onlyPut (St.onlyRefl W (· = b)) (b := b) rfl i v
  exact ⟨h.os, h.tape, h.output, h.size, fun k hk hne => h.block k hk (fun e => hne (by rw [e]))⟩
/-- How long what is left is. -/
def left12 (W : World) (n0 : Nat) : Nat := match W.cell? ⟨n0, 0, none⟩ with
  | some (.string r) => r.size
  | _ => 0
theorem left12_of {W : World} {n0 : Nat} {r : ByteArray} (h : Boxes12 W n0 r) : left12 W n0 = r.size := by
  unfold left12
  have h2 : W.cell? ⟨n0, 0, none⟩ = some (.string r) := h.text.cell 0
  rw [h2]
theorem take_len12 {α : Type} (pre ps : List α) : pre = (pre ++ ps).take pre.length := by simp

set_option maxRecDepth 100000 in
set_option maxHeartbeats 2000000 in
theorem split1_seq (n : Nat) (t : ByteArray) (ht : t.size ≤ 1048576) (n0 : Nat) (w : World) (h0 : Boxes12 w n0 t) :
    SeqBx n 114 #[.pointer (some ⟨n0 + 1, 0, none⟩), .pointer (some ⟨n0, 0, none⟩), .pointer (some ⟨n0 + 2, 0, none⟩)] (fun x : ByteArray => #[.string x]) n0 (n0 + 3)
      (fun xs => xs = cutRes t 32) (fun pre => ∃ k, pre = (cutRes t 32).take k) (cutRes t 32).length w := by
  intro l' J Jx W hW hJ hJx hY hJ0
  have hz0 : n0 + 2 < W.heap.size := by have := h0.save.lt; have := hW.size; omega
  have hB0 : Boxes12 W n0 t := ⟨h0.text.below hW h0.text.lt, h0.sep.below hW h0.sep.lt, h0.save.below hW h0.save.lt⟩
  have HJ := Lib.hid hJ
  have HY := Lib.hid hY
  have HJ0 : Hid (J [] W) := hJ0
  have HB0 := Lib.hid hB0
  have c1 : W.cell? ⟨n0 + 1, 0, none⟩ = some (.string ⟨#[32]⟩) := hB0.sep.cell 0
  have hl1 : (⟨#[32]⟩ : ByteArray).size = 1 := rfl
  clear hJ hJx hY hJ0 hB0
  refine callsIn_of_wp Tryd.func114 rfl trivial ?_ rfl
  simp only [Tryd.ntmps114, List.size_toArray, List.length_cons, List.length_nil, Nat.reduceAdd, Nat.reduceSub, Array.replicate_succ, Array.replicate_zero, List.push_toArray, List.append_toArray, List.nil_append, List.cons_append]
  gi_wp2
  gi_loopw [7] (fun _ wr => ∃ (pre : List ByteArray) (r : ByteArray), r.size ≤ t.size ∧ Hid (cutRes t 32 = pre ++ cutRes r 32) ∧ Hid (J pre wr) ∧ Hid (Boxes12 wr n0 r) ∧ W.heap.size ≤ wr.heap.size)
    (fun _ wr => left12 wr n0)
  case atStart => exact ⟨[], t, Nat.le_refl _, Lib.hid rfl, HJ0, HB0, Nat.le_refl _⟩
  case round =>
    obtain ⟨pre, r, hrs, HC, HJ1, HB, hwz⟩ := hrel
    clear HJ0 HB0 c1
    have hml := left12_of HB.out
    have c0 : wr.cell? ⟨n0, 0, none⟩ = some (.string r) := HB.out.text.cell 0
    have c1 : wr.cell? ⟨n0 + 1, 0, none⟩ = some (.string ⟨#[32]⟩) := HB.out.sep.cell 0
    have c2 : wr.cell? ⟨n0 + 2, 0, none⟩ = some (.int .i64 0) := HB.out.save.cell 0
    have HML := Lib.hid hml
    clear hml
    by_cases hi : Lib.indexByte r.data.toList 32 < 0
    · have HR := Lib.hid (cutRes_none hi)
      have HE : Hid (cutRes t 32 = pre ++ [r]) := by
        show _ = _
        rw [HC.out, HR.out]
      have HQ := Lib.hid (Tryd.strings_Index_one r 32 wr)
      obtain ⟨fn, tmps, assign, body, hy, hR⟩ := HY.out pre r wr HJ1.out ⟨(pre ++ [r]).length, by rw [HE.out, List.take_length]⟩ (by rw [HE.out, List.length_append]; simp) hwz
      have HRR := Lib.hid hR
      clear hR HR
      generalize Lib.indexByte r.data.toList 32 = ix at *
      gi_wp2_with fail
      refine ⟨trivial, fun h => by simp [Fence.wide] at h, ?_⟩
      refine (callsIn_wide.2 HQ.out).mono ?_
      rintro e w2 ⟨rfl, rfl⟩
      clear HQ
      gi_wp2_with fail
      refine ⟨fun h => by simp [Fence.wide] at h, ?_⟩
      refine HRR.out.mono ?_
      rintro e W3 (⟨rfl, hJ3, hk3⟩ | ⟨rfl, hx3⟩)
      · have HJ3 := Lib.hid hJ3
        clear hJ3 hk3 HRR
        gi_wp2
        go_end0
        exact ⟨⟨_, rfl⟩, .inl ⟨_, HE.out.symm, HJ3.out⟩⟩
      · have HJ3 := Lib.hid hx3
        clear hx3 HRR
        gi_wp2
        go_end0
        exact ⟨⟨_, rfl⟩, .inr ⟨_, ⟨(pre ++ [r]).length, by rw [HE.out, List.take_length]⟩, HJ3.out⟩⟩
    · obtain ⟨i, hix⟩ := Int.eq_ofNat_of_zero_le (show 0 ≤ Lib.indexByte r.data.toList 32 by omega)
      have hil := index_le r.data.toList
      rw [hix] at hil
      have hil : i < r.size := by
        have : r.data.toList.length = r.size := rfl
        omega
      have HR := Lib.hid (cutRes_some hix)
      have HE : Hid (cutRes t 32 = pre ++ r.extract 0 i :: cutRes (r.extract (i + 1) r.size) 32) := by
        show _ = _
        rw [HC.out, HR.out]
      have HQ := Lib.hid (Tryd.strings_Index_one r 32 wr)
      rw [hix] at HQ
      obtain ⟨fn, tmps, assign, body, hy, hR⟩ := HY.out pre (r.extract 0 i) wr HJ1.out ⟨(pre ++ [r.extract 0 i]).length, by rw [HE.out, show pre ++ r.extract 0 i :: cutRes (r.extract (i + 1) r.size) 32 = (pre ++ [r.extract 0 i]) ++ cutRes (r.extract (i + 1) r.size) 32 by simp]; exact take_len12 _ _⟩ (by rw [HE.out, List.length_append]; simp) hwz
      have HRR := Lib.hid hR
      have hi0 : (0 : Int) ≤ (i : Int) := Int.natCast_nonneg _
      have hi1 : (i : Int) < (r.size : Int) := by omega
      have hiz : ((i : Int) + 0).toNat = i := by omega
      have hip : ((i : Int) + 1).toNat = i + 1 := by omega
      clear hR HR hi hix
      gi_wp2_with fail
      refine ⟨trivial, fun h => by simp [Fence.wide] at h, ?_⟩
      refine (callsIn_wide.2 HQ.out).mono ?_
      rintro e w2 ⟨rfl, rfl⟩
      clear HQ
      gi_wp2_with fail
      refine ⟨fun h => by simp [Fence.wide] at h, ?_⟩
      refine HRR.out.mono ?_
      rintro e W3 (⟨rfl, hJ3, hk3⟩ | ⟨rfl, hx3⟩)
      · have HJ3 := Lib.hid hJ3
        have HB3 := Lib.hid (HB.out.keep hk3)
        have hz3 := hk3.1
        have d0 : W3.cell? ⟨n0, 0, none⟩ = some (.string r) := HB3.out.text.cell 0
        have d1 : W3.cell? ⟨n0 + 1, 0, none⟩ = some (.string ⟨#[32]⟩) := HB3.out.sep.cell 0
        have f0 := HB3.out.text.free 0
        have HB4 := Lib.hid (HB3.out.put (r.extract (i + 1) r.size))
        have HJ4 : Hid (J (pre ++ [r.extract 0 i]) (W3.setCell ⟨n0, 0, none⟩ (.string (r.extract (i + 1) r.size)))) := HJ.out _ W3 _ (some n0) HJ3.out (grown_put12 W3 n0 0 _) (fun q e => .inl (by injection e with e; omega))
        have hsz : (r.extract (i + 1) r.size).size < r.size := by rw [ByteArray.size_extract]; omega
        have HZ4 := Lib.hid (left12_of HB4.out)
        have hz4 : (W3.setCell ⟨n0, 0, none⟩ (.string (r.extract (i + 1) r.size))).heap.size = W3.heap.size := by simp [World.setCell]
        clear hJ3 hk3 HRR HB3 HJ3 c0 c1 c2
        gi_wp2
        go_roundw
        case rel => exact ⟨pre ++ [r.extract 0 i], r.extract (i + 1) r.size, by omega, Lib.hid (by rw [HE.out]; simp), HJ4, HB4, by omega⟩
        case measure => rw [HZ4.out, HML.out]; exact hsz
      · have HJ3 := Lib.hid hx3
        clear hx3 HRR
        gi_wp2
        refine bodyPost_ret (results_none rfl _ _ _) rfl ?_
        exact ⟨⟨_, rfl⟩, .inr ⟨_, ⟨(pre ++ [r.extract 0 i]).length, by rw [HE.out, show pre ++ r.extract 0 i :: cutRes (r.extract (i + 1) r.size) 32 = (pre ++ [r.extract 0 i]) ++ cutRes (r.extract (i + 1) r.size) 32 by simp]; exact take_len12 _ _⟩, HJ3.out⟩⟩

end Go.Proofs.YtdbddockmdkmeaaDoor
