/- For every two slices of bytes, the law FnNeedAll returns true and leaves its arguments as they were: for every drawn tree, state and text of needs the program tells the state behind them and what is loaded as the reference does, which are those of the needs met one after the other, at the cost of all of them; and the cost of the drawn names. No condition. -/
import Derived.Test.YtcpiojliakgdlaaU07
import Derived.Test.YtcpiojliakgdlaaU06
import Derived.Test.YtcpiojliakgdlaaZa
import Derived.Test.YtcpiojliakgdlaaZb
import Derived.Test.YtcpiojliakgdlaaZc
import Derived.Test.YtcpiojliakgdlaaU22
namespace Go.Proofs.Ytcpiojliakgdlaa.lawNeedAll2
open Go.ChangeShapes Go.WideShapes Go.ChangeAt Go.RowKit

set_option maxRecDepth 100000 in
theorem lifted (os : Os) (started : os.Started) (H : Type) (enc : TypeId × Value → H) :
    ReturnsInHanded {} Try.checked os 4 .any (Rows.fnNeedAllSpec.pre6 enc Try.prog Try.f4 Rows.fnNeedAllRow.domain false) (Rows.fnNeedAllSpec.post enc Try.prog Try.f4 false true false false) := by
  refine returnsInHanded_of_change (C := Try.checked) own started (by kernel_rfl) Try.func4
    (ChangeSpec.witness6 (enc := enc) (C := Try.checked) false ⟨#[], #[.slice none 0 0, .slice none 0 0], []⟩ 8 (by kernel_rfl) (by kernel_rfl) (by kernel_rfl) (by kernel_rfl)) ?_
  intro W base args ds gs before hval0 hW hcnd _
  have hval : ∀ (j : Nat) t v, Try.f4.params[j]? = some t → args[j]? = some v → Value.okWide Try.prog W .any base t v := hval0
  have hW' := hW
  obtain ⟨p, q, hA0, hV, rfl, hfz, hnd⟩ := hW
  have hA : DataW.TrodAll enc Try.prog W 0 (fun _ => true) true Try.f4.params.toList args.toList ds p := hA0
  rw [Try.params4] at hA hval
  obtain ⟨v0, vs0, d0, ds0, p0, q0, hargs, rfl, rfl, h0, r0⟩ := trodAll_cons hA
  obtain ⟨v1, vs1, d1, ds1, p1, q1, rfl, rfl, rfl, h1, r1⟩ := trodAll_cons r0
  obtain ⟨rfl, rfl, rfl⟩ := trodAll_nil r1
  obtain rfl : args = #[v0, v1] := by cases args; simp_all
  obtain ⟨rfl, rfl⟩ := trodVars_none hV
  obtain ⟨a0, len0, cap0, rfl⟩ := okWide_slice Try.underlying22 (hval 0 22 v0 rfl rfl)
  obtain ⟨a1, len1, cap1, rfl⟩ := okWide_slice Try.underlying22 (hval 1 22 v1 rfl rfl)
  have k0 := h0
  have k1 := h1
  have lt0 : ∀ x ∈ p0, x.block < W.heap.size := by obtain ⟨m, hm⟩ := k0; exact DataW.trod_lt m _ _ _ hm
  have lt1 : ∀ x ∈ p1, x.block < W.heap.size := by obtain ⟨m, hm⟩ := k1; exact DataW.trod_lt m _ _ _ hm
  obtain ⟨hlc, hl, hb⟩ : len0 ≤ cap0 ∧ len0 ≤ maxLen ∧ ∀ b, W.heap.size ≤ b → Bytes W b a0 len0 := by
    obtain ⟨fuel, hf⟩ := h0
    exact open_bytes hf
  obtain ⟨hlc1, hl1, hb1⟩ : len1 ≤ cap1 ∧ len1 ≤ maxLen ∧ ∀ b, W.heap.size ≤ b → Bytes W b a1 len1 := by
    obtain ⟨fuel, hf⟩ := h1
    exact open_bytes hf
  clear hA0 hval0
  refine (needAllLaw_any (fun b P w hP hr => l1Good_any b P w hr hP) a0 len0 cap0 a1 len1 cap1 W hlc hl hb hlc1 hl1 hb1).mono fun e W' ⟨he, bel⟩ => ?_
  subst he
  exact ⟨_, rfl, _, _, _, [], _, [], hW', trodAll_mk1 (shut_bool Try.underlying4 _), (trodAll_cons_mk (Below.trod laidOut (by kernel_rfl) (of_decide_eq_true (by kernel_rfl)) k0 bel lt0) (trodAll_cons_mk (Below.trod laidOut (by kernel_rfl) (of_decide_eq_true (by kernel_rfl)) k1 bel lt1) trodAll_mk0)), rfl, bel.frame _, fun h => by cases h⟩

set_option maxHeartbeats 4000000 in
theorem closed : joinedFacts Try.pinned.checked.prog 4 Try.f4 Rows.fnNeedAllSpec Rows.fnNeedAllRow = true := by
  unfold joinedFacts
  simp only [Bool.and_eq_true]
  repeat' apply And.intro
  all_goals first | (with_reducible exact zMayEnter) | ((with_reducible refine zMake ?_); rfl) | ((with_reducible refine zLifts ?_); rfl) | (as_aux_lemma => kernel_rfl)

theorem over : Rows.fnNeedAllRow.holds Try.pinned (OpenSpec.ofChange Rows.fnNeedAllSpec) :=
  OpenClaim.holds_of_wide 4 Try.f4 rfl rfl rfl rfl rfl rfl rfl ⟨rfl, rfl, rfl, rfl, rfl⟩ rfl rfl rfl rfl rfl (by kernel_rfl) Try.func4 closed
    (of_decide_eq_true (by kernel_rfl)) (by unfold Func.isWrapper; first | (rw [if_pos (by decide +kernel)]; kernel_rfl) | (rw [if_neg (by decide +kernel)]; exact ⟨rfl, rfl⟩))
    (fun os started H enc _ => lifted os started H enc)

theorem proved : Rows.FnNeedAllSaid := over

end Go.Proofs.Ytcpiojliakgdlaa.lawNeedAll2
