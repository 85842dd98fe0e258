/- Totals of sizes: the program's and the model's. -/
import Derived.Test.YtdbddockmdkmeaaDoorTs
import Derived.Test.YtdbddockmdkmeaaDoorSz
namespace Go.Proofs.YtdbddockmdkmeaaDoor
open Go.RowKit

def sumTo (l : List Seg) (k : Nat) : Int := ((l.take k).map Seg.size).sum
theorem sumTo_succ {l : List Seg} {k : Nat} (hk : k < l.length) : sumTo l (k + 1) = sumTo l k + l[k].size := by
  unfold sumTo
  rw [List.take_succ_eq_append_getElem hk, List.map_append, List.sum_append_int]
  simp
theorem valid_all {l : List Seg} (h : validB l = true) : AllOk l l.length ∧ l.length ≤ 8 ∧ 1 ≤ l.length := by
  unfold validB at h
  simp only [Bool.and_eq_true, decide_eq_true_eq] at h
  exact ⟨allB_iff.1 h.2, h.1.2, h.1.1⟩
theorem valid_size {l : List Seg} (h : validB l = true) {k : Nat} (hk : k < l.length) : 1 ≤ l[k].size ∧ l[k].size ≤ 99 := by
  have := (valid_all h).1 k hk
  rw [segOk_of hk] at this
  simp only [Bool.and_eq_true] at this
  have hs := this.1.2
  unfold sizeOk at hs
  simp only [Bool.and_eq_true, decide_eq_true_eq] at hs
  exact hs
theorem sumTo_le {l : List Seg} (h : validB l = true) : ∀ k : Nat, k ≤ l.length → 0 ≤ sumTo l k ∧ sumTo l k ≤ 99 * k
  | 0, _ => by simp [sumTo]
  | k + 1, hk => by
    have h1 := sumTo_le h k (by omega)
    have h2 := valid_size h (show k < l.length by omega)
    rw [sumTo_succ (by omega)]
    omega
def totalB (l : List Seg) : Int := if validB l = true then sumTo l l.length else -1

set_option maxRecDepth 100000 in
set_option maxHeartbeats 400000 in
theorem l1Total_any (A : Option Addr) (l : List Seg) (c : Nat) (w : World) (hw : Segs w w.heap.size A l) (hv : validB l = true) :
    Calls Tryd.prog 86 #[.slice A l.length c] w fun e w' => e = .returned (.int .i64 (sumTo l l.length)) ∧ Below w.heap.size w w' := by
  have HW : Hid (Segs w w.heap.size A l) := hw
  have HV := Lib.hid hv
  have hl8 := (valid_all hv).2.1
  clear hw hv
  go_enter Tryd.func86, Tryd.ntmps86
  go_wp2
  go_loopw [3, 8] (fun s i wr => ∃ (k : Nat) (n : Int), k ≤ l.length ∧ i = .int .i64 k ∧ s = .int .i64 n ∧ Hid (n = sumTo l k) ∧ Below w.heap.size w wr)
    (fun _ i _ => l.length - (intOf i).toNat)
  case atStart => exact ⟨0, 0, Nat.zero_le _, rfl, rfl, rfl, Below.refl _ _⟩
  case round =>
    obtain ⟨k, n, hk, rfl, rfl, HN, hb⟩ := hrel
    by_cases hlt : k < l.length
    · obtain ⟨b, o, rfl, hB, hc⟩ := HW.out (by omega)
      obtain ⟨c0, c1, c2⟩ := hc k l[k] (List.getElem?_eq_getElem hlt)
      clear hc
      rw [← hb.cell hB] at c0 c1 c2
      have HS : Hid _ := sumTo_succ hlt
      have hz := valid_size HV.out hlt
      have hn0 : 0 ≤ n ∧ n ≤ 99 * (k : Int) := by rw [HN.out]; exact sumTo_le HV.out k hk
      obtain ⟨z1, z2⟩ := hz
      obtain ⟨n1, n2⟩ := hn0
      have n3 : n ≤ 800 := by omega
      clear n2
      generalize l[k] = x at *
      have HX : Hid (n + x.size = sumTo l (k + 1)) := by rw [HS.out, ← HN.out]; rfl
      clear HS HN
      go_wp2
      go_roundw
      case rel => exact ⟨k + 1, _, by omega, by go_num, rfl, HX, hb.alloc hb.size _⟩
      case measure => simp [intOf]; omega
    · obtain rfl : k = l.length := by omega
      go_wp2
      go_ret
      exact ⟨ret_int HN.out, hb⟩

set_option maxRecDepth 100000 in
set_option maxHeartbeats 400000 in
theorem totalSize_any (A : Option Addr) (l : List Seg) (c : Nat) (w : World) (hw : Segs w w.heap.size A l) (hl : l.length ≤ 1048576) (hlc : l.length ≤ c) (hcm : c ≤ 9223372036854775807) (hn : Short l) :
    Calls Tryd.prog 33 #[.slice A l.length c] w fun e w' => e = .returned (.int .i64 (totalB l)) ∧ Below w.heap.size w w' := by
  have HW : Hid (Segs w w.heap.size A l) := hw
  clear hw
  cases hv : validB l with
  | false =>
    have HF : Hid (totalB l = -1) := if_neg (by rw [hv]; decide)
    go_enter Tryd.func33, Tryd.ntmps33
    go_wp2_with fail
    refine (treeValid_any _ _ _ _ HW.out hl hlc hcm hn).mono ?_
    rw [hv]
    rintro e w1 ⟨rfl, hb1⟩
    go_wp2
    go_ret
    exact ⟨ret_int HF.out.symm, hb1⟩
  | true =>
    have HF : Hid (totalB l = sumTo l l.length) := if_pos hv
    go_enter Tryd.func33, Tryd.ntmps33
    go_wp2_with fail
    refine (treeValid_any _ _ _ _ HW.out hl hlc hcm hn).mono ?_
    rw [hv]
    rintro e w1 ⟨rfl, hb1⟩
    have hl8 := (valid_all hv).2.1
    have HV := Lib.hid hv
    clear hv
    go_wp2
    go_loopw [3, 11] (fun s i wr => ∃ (k : Nat) (n : Int), k ≤ l.length ∧ i = .int .i64 k ∧ s = .int .i64 n ∧ Hid (n = sumTo l k) ∧ Below w.heap.size w wr)
      (fun _ i _ => l.length - (intOf i).toNat)
    case atStart => exact ⟨0, 0, Nat.zero_le _, rfl, rfl, rfl, hb1⟩
    case round =>
      obtain ⟨k, n, hk, rfl, rfl, HN, hb⟩ := hrel
      clear hb1
      by_cases hlt : k < l.length
      · obtain ⟨b, o, rfl, hB, hc⟩ := HW.out (by omega)
        obtain ⟨c0, c1, c2⟩ := hc k l[k] (List.getElem?_eq_getElem hlt)
        clear hc
        rw [← hb.cell hB] at c0 c1 c2
        have HS : Hid _ := sumTo_succ hlt
        have hz := valid_size HV.out hlt
        have hn0 : 0 ≤ n ∧ n ≤ 99 * (k : Int) := by rw [HN.out]; exact sumTo_le HV.out k hk
        obtain ⟨z1, z2⟩ := hz
        obtain ⟨n1, n2⟩ := hn0
        have n3 : n ≤ 800 := by omega
        clear n2
        generalize l[k] = x at *
        have HX : Hid (n + x.size = sumTo l (k + 1)) := by rw [HS.out, ← HN.out]; rfl
        clear HS HN
        go_wp2
        go_roundw
        case rel => exact ⟨k + 1, _, by omega, by go_num, rfl, HX, hb.alloc hb.size _⟩
        case measure => simp [intOf]; omega
      · obtain rfl : k = l.length := by omega
        go_wp2
        go_ret
        exact ⟨ret_int (by rw [HF.out]; exact HN.out), hb⟩

end Go.Proofs.YtdbddockmdkmeaaDoor
