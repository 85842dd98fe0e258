/- soTree over the same tree twice. -/
import Derived.Test.YtdbddockmdkmeaaDoorDp
namespace Go.Proofs.YtdbddockmdkmeaaDoor
open Go.RowKit

theorem treeCap {w : World} {B : Nat} {v : Value} {tr : List Seg} (h : OwnTree w B v tr) : ∃ A c, v = .slice A tr.length c ∧ tr.length ≤ c ∧ c ≤ 9223372036854775807 ∧ Segs w w.heap.size A tr := by
  obtain ⟨A, cap, e, hs⟩ := h.form
  refine ⟨A, cap, e, ?_, ?_, hs⟩
  all_goals
    rcases h.2 with ⟨h1, h0⟩ | ⟨g, c, cur, hv, hb, _, hn, hc, _⟩
    · rw [e] at h1
      injection h1 with _ h2 h3
      omega
    · rw [e] at hv
      injection hv with _ h2 h3
      unfold maxLen at hc
      omega

set_option maxRecDepth 100000 in
set_option maxHeartbeats 1000000 in
theorem soTree_any (A A' : Option Addr) (l : List Seg) (c c' : Nat) (w : World) (hw : Segs w w.heap.size A l) (hw' : Segs w w.heap.size A' l) (hl : l.length ≤ 1000) :
    Calls Tryd.prog 16 #[.slice A l.length c, .slice A' l.length c'] w fun e w' => e = .returned (.bool true) ∧ Below w.heap.size w w' := by
  have HW : Hid (Segs w w.heap.size A l) := hw
  have HW' : Hid (Segs w w.heap.size A' l) := hw'
  clear hw hw'
  go_enter Tryd.func16, Tryd.ntmps16
  go_wp2
  go_loopw [11] (fun i wr => ∃ (k : Nat), k ≤ l.length ∧ i = .int .i64 k ∧ Hid (Below w.heap.size w wr))
    (fun i _ => l.length - (intOf i).toNat)
  case atStart => exact ⟨0, Nat.zero_le _, rfl, Below.refl _ _⟩
  case round =>
    obtain ⟨k, hk, rfl, HB⟩ := hrel
    by_cases hlt : k < l.length
    · have hlt' : (k : Int) < (l.length : Int) := by omega
      have hk0 : (0 : Int) ≤ (k : Int) := Int.natCast_nonneg _
      obtain ⟨b, o, rfl, hB, hc⟩ := HW.out (by omega)
      obtain ⟨b', o', rfl, hB', hc'⟩ := HW'.out (by omega)
      obtain ⟨c0, c1, c2⟩ := hc k l[k] (List.getElem?_eq_getElem hlt)
      obtain ⟨d0, d1, d2⟩ := hc' k l[k] (List.getElem?_eq_getElem hlt)
      clear hc hc'
      rw [← HB.out.cell hB] at c0 c1 c2
      rw [← HB.out.cell hB'] at d0 d1 d2
      generalize l[k].name = s0 at *
      generalize l[k].size = s1 at *
      generalize l[k].par = s2 at *
      go_wp2
      go_quiet (fail)
      go_wp2
      go_roundw
      case rel => exact ⟨k + 1, by omega, by go_num, below_drewN HB.out _⟩
      case measure => simp [intOf]; omega
    · go_wp2
      go_ret
      exact ⟨rfl, HB.out⟩

/-- A tree that is drawn. -/
def TreeHad (w : World) (e : Ending) (w' : World) : Prop := ∃ (A : Option Addr) (l : List Seg) (c : Nat), e = .returned (.slice A (List.length l) c) ∧ TreeHas w' A l c ∧ Below w.heap.size w w'

end Go.Proofs.YtdbddockmdkmeaaDoor
