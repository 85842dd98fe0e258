/- Joined: Ab. -/
import Derived.Test.YtcpiojliakgdlaaU12
import Derived.Test.YtcpiojliakgdlaaU07
/- laws.soTexts on rows of the same texts, and the draw of FnChainsOf. -/
namespace Go.Proofs.Ytcpiojliakgdlaa
open Go.RowKit

set_option maxRecDepth 100000 in
set_option maxHeartbeats 1000000 in
theorem soTexts_any (A A' : Option Addr) (l : List ByteArray) (c c' : Nat) (w : World) (hw : St.Strs w w.heap.size A l) (hw' : St.Strs w w.heap.size A' l) (hl : l.length ≤ 1000) :
    Calls Try.prog 35 #[.slice A l.length c, .slice A' l.length c'] w fun e w' => e = .returned (.bool true) ∧ Below w.heap.size w w' := by
  have HW : Hid (St.Strs w w.heap.size A l) := hw
  have HW' : Hid (St.Strs w w.heap.size A' l) := hw'
  clear hw hw'
  go_enter Try.func35, Try.ntmps35
  go_wp2
  go_loopw [11] (fun i wr => ∃ (k : Nat), k ≤ l.length ∧ i = .int .i64 k ∧ Below w.heap.size w wr)
    (fun i _ => l.length - (intOf i).toNat)
  case atStart => exact ⟨0, Nat.zero_le _, rfl, Below.refl _ _⟩
  case round =>
    obtain ⟨k, hk, rfl, hb⟩ := hrel
    by_cases hlt : k < l.length
    · have hlt' : (k : Int) < (l.length : Int) := by omega
      have hk0 : (0 : Int) ≤ (k : Int) := Int.natCast_nonneg _
      obtain ⟨b, o, rfl, hB, hc⟩ := HW.out (by omega)
      obtain ⟨b', o', rfl, hB', hc'⟩ := HW'.out (by omega)
      have c0 := hc k l[k] (List.getElem?_eq_getElem hlt)
      have d0 := hc' k l[k] (List.getElem?_eq_getElem hlt)
      clear hc hc'
      rw [← hb.cell hB] at c0
      rw [← hb.cell hB'] at d0
      generalize l[k] = s at *
      have HB2 := Lib.hid hb.drew
      go_wp2
      go_quiet (fail)
      go_wp2
      go_roundw
      case rel => exact ⟨k + 1, by omega, by go_num, below_drewN hb _⟩
      case measure => simp [intOf]; omega
    · go_wp2
      go_ret
      exact ⟨rfl, hb⟩

end Go.Proofs.Ytcpiojliakgdlaa
