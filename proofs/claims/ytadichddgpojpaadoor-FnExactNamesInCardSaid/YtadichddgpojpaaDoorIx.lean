/- Which segment has a name: the model's side. -/
import Derived.Test.YtadichddgpojpaaDoorTt
namespace Go.Proofs.YtadichddgpojpaaDoor
open Go.RowKit

def seekFrom (s : ByteArray) : List Seg → Nat → Int
  | [], _ => -1
  | x :: l, k => if sameB x.name s = true then (k : Int) else seekFrom s l (k + 1)
def seek (l : List Seg) (s : ByteArray) : Int := seekFrom s l 0
theorem seekFrom_bd (s : ByteArray) : ∀ (l : List Seg) (k : Nat), seekFrom s l k = -1 ∨ ((k : Int) ≤ seekFrom s l k ∧ seekFrom s l k < k + l.length)
  | [], k => .inl rfl
  | x :: l, k => by
    unfold seekFrom
    by_cases h : sameB x.name s = true
    · rw [if_pos h]; right; simp only [List.length_cons]; omega
    · rw [if_neg h]
      rcases seekFrom_bd s l (k + 1) with h1 | h1
      · exact .inl h1
      · right; simp only [List.length_cons]; omega
theorem seek_bd (l : List Seg) (s : ByteArray) : seek l s = -1 ∨ (0 ≤ seek l s ∧ seek l s < l.length) := by
  have := seekFrom_bd s l 0
  simpa [seek] using this
theorem seekFrom_drop (l : List Seg) (s : ByteArray) (k : Nat) (hk : k < l.length) : seekFrom s (l.drop k) k = if sameB l[k].name s = true then (k : Int) else seekFrom s (l.drop (k + 1)) (k + 1) := by
  rw [List.drop_eq_getElem_cons hk]
  rfl
theorem seekFrom_name (s : ByteArray) : ∀ (l : List Seg) (k j : Nat), seekFrom s l k = ((k + j : Nat) : Int) → ∃ x, l[j]? = some x ∧ x.name = s
  | [], k, j, h => by simp [seekFrom] at h; omega
  | x :: l, k, j, h => by
    unfold seekFrom at h
    by_cases hx : sameB x.name s = true
    · rw [if_pos hx] at h
      obtain rfl : j = 0 := by omega
      exact ⟨x, rfl, sameB_iff.1 hx⟩
    · rw [if_neg hx] at h
      rcases seekFrom_bd s l (k + 1) with h1 | h1
      · omega
      · obtain ⟨j', rfl⟩ : ∃ j', j = j' + 1 := ⟨j - 1, by omega⟩
        obtain ⟨y, hy, hn⟩ := seekFrom_name s l (k + 1) j' (by rw [h]; omega)
        exact ⟨y, by simpa using hy, hn⟩
theorem seek_name {l : List Seg} {s : ByteArray} {j : Nat} (h : seek l s = (j : Int)) : ∃ x, l[j]? = some x ∧ x.name = s :=
  seekFrom_name s l 0 j (by rw [Nat.zero_add]; exact h)

/-- The index of a name within a valid list, or -1. -/
def indexB (l : List Seg) (s : ByteArray) : Int := if validB l = true then seek l s else -1

set_option maxRecDepth 100000 in
set_option maxHeartbeats 400000 in
theorem l1Index_any (A : Option Addr) (l : List Seg) (c : Nat) (s : ByteArray) (w : World) (hw : Segs w w.heap.size A l) (hl : l.length ≤ 1048576) (hn : Short l) :
    Calls Tryd.prog 11 #[.slice A l.length c, .string s] w fun e w' => e = .returned (.int .i64 (indexB l s)) ∧ Below w.heap.size w w' := by
  have HW : Hid (Segs w w.heap.size A l) := hw
  clear hw
  cases hv : validB l with
  | false =>
    have HF : Hid (indexB l s = -1) := if_neg (by rw [hv]; decide)
    go_enter Tryd.func11, Tryd.ntmps11
    go_wp2_with fail
    refine (specTreeValid_any _ _ _ _ HW.out hl hn).mono ?_
    rw [hv]
    rintro e w1 ⟨rfl, hb1⟩
    go_wp2
    go_ret
    exact ⟨ret_int HF.out.symm, hb1⟩
  | true =>
    have HF : Hid (indexB l s = seek l s) := if_pos hv
    go_enter Tryd.func11, Tryd.ntmps11
    go_wp2_with fail
    refine (specTreeValid_any _ _ _ _ HW.out hl hn).mono ?_
    rw [hv]
    rintro e w1 ⟨rfl, hb1⟩
    clear hv
    go_wp2
    go_loopw [12] (fun i wr => ∃ (k : Nat), k ≤ l.length ∧ i = .int .i64 k ∧ Hid (seek l s = seekFrom s (l.drop k) k) ∧ Below w.heap.size w wr)
      (fun i _ => l.length - (intOf i).toNat)
    case atStart => exact ⟨0, Nat.zero_le _, rfl, rfl, hb1⟩
    case round =>
      obtain ⟨k, hk, rfl, HN, hb⟩ := hrel
      clear hb1
      by_cases hlt : k < l.length
      · obtain ⟨b, o, rfl, hB, hc⟩ := HW.out (by omega)
        obtain ⟨c0, c1, c2⟩ := hc k l[k] (List.getElem?_eq_getElem hlt)
        clear hc
        rw [← hb.cell hB] at c0 c1 c2
        have HD : Hid _ := seekFrom_drop l s k hlt
        generalize l[k] = x at *
        cases ht : (x.name.toList == s.toList) with
        | true =>
          have HE : Hid (indexB l s = k) := by
            show _ = _
            rw [HF.out, HN.out, HD.out]
            exact if_pos ht
          go_wp2
          go_ret
          exact ⟨ret_int HE.out.symm, hb.alloc hb.size _⟩
        | false =>
          have HE : Hid (seek l s = seekFrom s (l.drop (k + 1)) (k + 1)) := by
            show _ = _
            rw [HN.out, HD.out]
            exact if_neg (by rw [show sameB x.name s = false from ht]; decide)
          go_wp2
          go_roundw
          case rel => exact ⟨k + 1, by omega, by go_num, HE, hb.alloc hb.size _⟩
          case measure => simp [intOf]; omega
      · go_wp2
        go_ret
        exact ⟨ret_int (by rw [HF.out, HN.out, List.drop_of_length_le (by omega)]; rfl), hb⟩

def sizeAt (l : List Seg) (i : Nat) : Int := match l[i]? with
  | some s => s.size
  | none => -1
def sizeB (l : List Seg) (s : ByteArray) : Int := if indexB l s < 0 then -1 else sizeAt l (indexB l s).toNat
theorem sizeAt_of {l : List Seg} {k : Nat} (h : k < l.length) : sizeAt l k = l[k].size := by unfold sizeAt; rw [List.getElem?_eq_getElem h]
theorem indexB_bd (l : List Seg) (s : ByteArray) : indexB l s = -1 ∨ (0 ≤ indexB l s ∧ indexB l s < l.length) := by
  unfold indexB
  split
  · exact seek_bd l s
  · exact .inl rfl

end Go.Proofs.YtadichddgpojpaaDoor
