/- FormatTree, both sides. -/
import Derived.Test.YtdbddockmdkmeaaDoorMx
import Derived.Test.YtdbddockmdkmeaaDoorMw
namespace Go.Proofs.YtdbddockmdkmeaaDoor
open Go.RowKit

set_option maxRecDepth 100000 in
set_option maxHeartbeats 400000 in
theorem specFormatTree_any (A : Option Addr) (l : List Seg) (c : Nat) (w : World) (hw : Segs w w.heap.size A l) (hl : l.length ≤ 1048576) (hn : Short l) :
    Calls Tryd.prog 13 #[.slice A l.length c] w fun e w' => e = .returned (.string (treeText l)) ∧ Below w.heap.size w w' := by
  have HW : Hid (Segs w w.heap.size A l) := hw
  clear hw
  cases hv : validB l with
  | false =>
    have HF : Hid (treeText l = ⟨#[]⟩) := if_neg (by rw [hv]; decide)
    go_enter Tryd.func13, Tryd.ntmps13
    go_wp2_with fail
    refine (specTreeValid_any _ _ _ _ HW.out hl hn).mono ?_
    rw [hv]
    rintro e w1 ⟨rfl, hb1⟩
    go_wp2
    go_ret
    exact ⟨by rw [HF.out]; rfl, hb1⟩
  | true =>
    have HF : Hid (treeText l = txt12 (textT l l.length 0)) := if_pos hv
    have h8 := (valid_all hv).2.1
    have h1 := (valid_all hv).2.2
    have HV := Lib.hid hv
    go_enter Tryd.func13, Tryd.ntmps13
    go_wp2_with fail
    refine (specTreeValid_any _ _ _ _ HW.out hl hn).mono ?_
    rw [hv]
    rintro e w1 ⟨rfl, hb1⟩
    have HB1 := Lib.hid hb1
    clear hb1 hv
    go_wp2_with fail
    refine (l1Text_any A l c HV.out l.length 0 (by omega) (by omega) h8 w1 ((HW.out.below HB1.out).more HB1.out.size)).mono ?_
    rintro e w2 ⟨rfl, hb2⟩
    have HB2 := Lib.hid (HB1.out.trans (hb2.mono HB1.out.size))
    clear hb2
    go_wp2
    go_ret
    exact ⟨by rw [HF.out]; rfl, HB2.out⟩

set_option maxRecDepth 100000 in
set_option maxHeartbeats 400000 in
theorem formatTree_any (A : Option Addr) (l : List Seg) (c : Nat) (w : World) (hw : Segs w w.heap.size A l) (hl : l.length ≤ 1048576) (hlc : l.length ≤ c) (hcm : c ≤ 9223372036854775807) (hn : Short l) :
    Calls Tryd.prog 11 #[.slice A l.length c] w fun e w' => e = .returned (.string (treeText l)) ∧ Below w.heap.size w w' := by
  have HW : Hid (Segs w w.heap.size A l) := hw
  clear hw
  have hnil := fun (W : World) (a : Option Addr) (n c : Nat) => Lib.run_eql_slice_nil (P := Tryd.prog) W 52 57 a n c 0 0 Tryd.underlying52
  cases hv : validB l with
  | false =>
    have HF : Hid (treeText l = ⟨#[]⟩) := if_neg (by rw [hv]; decide)
    go_enter Tryd.func11, Tryd.ntmps11
    go_wp2_with fail
    refine (nodesOf_bad _ _ _ _ HW.out hl hlc hcm hn hv).mono ?_
    rintro e w1 ⟨rfl, hb1⟩
    go_wp2
    go_ret
    exact ⟨by rw [HF.out]; rfl, hb1⟩
  | true =>
    have HF : Hid (treeText l = txt12 (textT l l.length 0)) := if_pos hv
    have h8 := (valid_all hv).2.1
    have h1 := (valid_all hv).2.2
    have HV := Lib.hid hv
    have htl : (textT l l.length 0).length ≤ 90000000 := by
      have := textT_len hv l.length 0 (by omega)
      have hp8 : 8 ^ l.length ≤ 16777216 := Nat.le_trans (Nat.pow_le_pow_right (by decide) h8) (by decide)
      omega
    go_enter Tryd.func11, Tryd.ntmps11
    go_wp2_with fail
    refine (nodesOf_any _ _ _ _ HW.out hl hlc hcm hn hv).mono ?_
    rintro e w1 ⟨g, nb, cv, rfl, hN, hb1⟩
    have HB1 := Lib.hid hb1
    obtain ⟨cs, hr, hz, hcs⟩ := hN.row
    have HU := Lib.hid (hN.hung (.cells #[.pointer none, .slice none 0 0] 56))
    have HI := Lib.hid (Bld12.fresh w1)
    have c0 : (w1.alloc (.cells #[.pointer none, .slice none 0 0] 56)).cell? ⟨g, 0, none⟩ = some (.pointer (some ⟨nb 0, 0, none⟩)) := by
      rw [(hr.alloc (.cells #[.pointer none, .slice none 0 0] 56)).cell]
      exact hcs 0 (by omega)
    have hl0 : (0 : Int) < (l.length : Int) := by omega
    clear hb1 hv hr hz hcs hN
    go_wp2_with fail
    refine (write_any l nb cv w1.heap.size w1 HV.out l.length 0 (by omega) (by omega) h8 ⟨#[]⟩ _ HI.out HU.out (by rw [nil12]; omega)).mono ?_
    rintro e W2 ⟨rfl, HB2, hk2⟩
    clear hk2 c0
    rw [nil_app12] at HB2
    have HE : Hid (⟨(txt12 (textT l l.length 0)).data.toList.toArray⟩ = treeText l) := by
      show _ = _
      rw [HF.out]
    generalize txt12 (textT l l.length 0) = x at *
    go_wp2_with fail
    refine (Tryd.Builder_String_any_k w1.heap.size w1.heap.size _ _ HB2.out.1 HB2.out.2.size).mono ?_
    rintro e w5 ⟨rfl, -, hb5, -⟩
    have HB5 := Lib.hid (HB1.out.trans ((HB2.out.2.trans hb5).mono HB1.out.size))
    clear hb5 HI HU HB2 HB1
    go_wp2
    go_ret
    exact ⟨congrArg (fun z => Ending.returned (.string z)) HE.out, HB5.out⟩

end Go.Proofs.YtdbddockmdkmeaaDoor
