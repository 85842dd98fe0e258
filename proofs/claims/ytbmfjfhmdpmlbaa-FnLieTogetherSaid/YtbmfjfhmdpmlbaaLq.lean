/- The law FnLiesAt: a segment is said to lie at an address if and only if the address is one of its own. -/
import Derived.Test.YtbmfjfhmdpmlbaaCq
import Derived.Test.YtbmfjfhmdpmlbaaDn
import Derived.Test.YtbmfjfhmdpmlbaaQf
import Derived.Test.YtbmfjfhmdpmlbaaQa
namespace Go.Proofs.Ytbmfjfhmdpmlbaa
open Go.RowKit

/-- One of the text's characters is 'c'. -/
def hasT (s c : ByteArray) : Bool := decide (∃ i, i < s.size ∧ s.extract i (i + 1) = c)

set_option maxRecDepth 100000 in
set_option maxHeartbeats 1000000 in
theorem soHas_any (s c : ByteArray) (w : World) (hs : s.size ≤ 1048576) :
    Calls Try.prog 42 #[.string s, .string c] w fun e w' => e = .returned (.bool (hasT s c)) ∧ Below w.heap.size w w' := by
  go_enter Try.func42, Try.ntmps42
  go_wp2
  go_loopw [8] (fun i wr => ∃ k : Nat, k ≤ s.size ∧ i = .int .i64 k ∧ Hid (∀ j, j < k → s.extract j (j + 1) ≠ c) ∧ Below w.heap.size w wr)
    (fun i _ => s.size - (intOf i).toNat)
  case atStart => exact ⟨0, Nat.zero_le _, rfl, fun j hj => absurd hj (by omega), Below.refl _ _⟩
  case round =>
    obtain ⟨k, hk, rfl, HN, hb⟩ := hrel
    by_cases hlt : k < s.size
    · have hlt' : (k : Int) < (s.size : Int) := by omega
      have hk0 : (0 : Int) ≤ (k : Int) := Int.natCast_nonneg _
      have hq : ((k : Int) + 1).toNat = k + 1 := by omega
      by_cases he : s.extract k (k + 1) = c
      · have ht : ((s.extract k (k + 1)).toList == c.toList) = true := by rw [he]; simp
        have HF : Hid (hasT s c = true) := decide_eq_true ⟨k, hlt, he⟩
        clear he HN
        go_wp2
        go_ret
        exact ⟨ret_bool HF.out.symm, hb⟩
      · have ht : ((s.extract k (k + 1)).toList == c.toList) = false := by
          have := (sameB_iff (a := s.extract k (k + 1)) (b := c))
          unfold sameB at this
          cases hq2 : ((s.extract k (k + 1)).toList == c.toList) with
          | false => rfl
          | true => exact absurd (this.1 hq2) he
        have HM : Hid (∀ j, j < k + 1 → s.extract j (j + 1) ≠ c) := fun j hj => by
          rcases Nat.lt_or_ge j k with h | h
          · exact HN.out j h
          · obtain rfl : j = k := by omega
            exact he
        clear he HN
        go_wp2
        go_roundw
        case rel => exact ⟨k + 1, by omega, by go_num, HM, hb⟩
        case measure => simp [intOf]; omega
    · have HF : Hid (hasT s c = false) := decide_eq_false (fun ⟨j, hj, he⟩ => HN.out j (by omega) he)
      clear HN
      go_wp2
      go_ret
      exact ⟨ret_bool HF.out.symm, hb⟩

theorem has_over {l : List Seg} (hv : validB l = true) (a : Int) {i : Nat} (hi : i < l.length) : hasT (overStr l a) (namesAt l [i]) = holdsB l a i := by
  have hs : overStr l a = namesAt l (overIx l a l.length) := if_pos hv
  have hj : ∀ j ∈ overIx l a l.length, j < l.length := fun j h => overIx_lt h
  have hz := namesAt_size hv _ hj
  have hone : ∀ u v, u < l.length → v < l.length → namesAt l [u] = namesAt l [v] → u = v := fun u v hu hv' e => by
    rw [one_name hv hu, one_name hv hv', (nmAt_one hv hu).2, (nmAt_one hv hv').2] at e
    have h1 := congrArg (fun b : ByteArray => b.data.toList) e
    simp at h1
    exact byteOf_inj hv hu hv' h1
  have key : (∃ k, k < (overStr l a).size ∧ (overStr l a).extract k (k + 1) = namesAt l [i]) ↔ i ∈ overIx l a l.length := by
    rw [hs]
    constructor
    · rintro ⟨k, hk, he⟩
      have hk' : k < (overIx l a l.length).length := by omega
      rw [cut_at hv hj hk'] at he
      have := hone _ _ (hj _ (List.getElem_mem hk')) hi he
      rw [← this]
      exact List.getElem_mem hk'
    · intro hm
      obtain ⟨k, hk, he⟩ := List.getElem_of_mem hm
      exact ⟨k, by omega, by rw [cut_at hv hj hk, he]⟩
  unfold hasT
  cases hh : holdsB l a i with
  | true => exact decide_eq_true (key.2 (List.mem_filter.2 ⟨List.mem_range.2 hi, hh⟩))
  | false => exact decide_eq_false (fun h => by
      have := (List.mem_filter.1 (key.1 h)).2
      rw [hh] at this
      cases this)

theorem bytes_later {w w' : World} {A : Option Addr} {m : Nat} (h : ∀ b, w.heap.size ≤ b → Bytes w b A m) (hb : Below w.heap.size w w') : ∀ b, w'.heap.size ≤ b → Bytes w' b A m := fun b hbb h0 => by
  have hz := hb.size
  obtain ⟨g, o, rfl, hne, hlt, hx⟩ := h b (by omega) h0
  refine ⟨g, o, rfl, hne, by omega, fun i hi => ?_⟩
  obtain ⟨x, hc, hx2⟩ := hx i hi
  exact ⟨x, (hb.cell (p := ⟨g, o + i, none⟩) hlt).trans hc, hx2⟩

end Go.Proofs.Ytbmfjfhmdpmlbaa
