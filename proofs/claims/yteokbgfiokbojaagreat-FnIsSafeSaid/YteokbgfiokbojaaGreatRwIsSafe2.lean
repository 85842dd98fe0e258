/- For every slice of bytes, the law FnIsSafe returns true and leaves its argument as it was: of every drawn tree and text the program tells whether it is a safe trace and which chains are not as the reference does; each of these is a chain whose segments do not lie together; where there are none nothing is loaded for returns, and there are none if and only if nothing is lost. No condition. -/
import Derived.Test.YteokbgfiokbojaaGreatU31
import Derived.Test.YteokbgfiokbojaaGreatU32
import Derived.Test.YteokbgfiokbojaaGreatU24
import Derived.Test.YteokbgfiokbojaaGreatU23
import Derived.Test.YteokbgfiokbojaaGreatZa
import Derived.Test.YteokbgfiokbojaaGreatZb
import Derived.Test.YteokbgfiokbojaaGreatZc
namespace Go.Proofs.YteokbgfiokbojaaGreat.lawIsSafe2
open Go.ChangeShapes Go.WideShapes Go.ChangeAt Go.RowKit

set_option maxRecDepth 100000 in
theorem lifted (os : Os) (started : os.Started) (H : Type) (enc : TypeId × Value → H) :
    ReturnsInHanded {} Tryz.checked os 3 .any (Rows.fnIsSafeSpec.pre6 enc Tryz.prog Tryz.f3 Rows.fnIsSafeRow.domain false) (Rows.fnIsSafeSpec.post enc Tryz.prog Tryz.f3 false true false false) := by
  refine returnsInHanded_of_change (C := Tryz.checked) own started (by kernel_rfl) Tryz.func3
    (ChangeSpec.witness6 (enc := enc) (C := Tryz.checked) false ⟨#[], #[.slice none 0 0], []⟩ 8 (by kernel_rfl) (by kernel_rfl) (by kernel_rfl) (by kernel_rfl)) ?_
  intro W base args ds gs before hval0 hW hcnd _
  have hval : ∀ (j : Nat) t v, Tryz.f3.params[j]? = some t → args[j]? = some v → Value.okWide Tryz.prog W .any base t v := hval0
  have hW' := hW
  obtain ⟨p, q, hA0, hV, rfl, hfz, hnd⟩ := hW
  have hA : DataW.TrodAll enc Tryz.prog W 0 (fun _ => true) true Tryz.f3.params.toList args.toList ds p := hA0
  rw [Tryz.params3] at hA hval
  obtain ⟨v0, vs0, d0, ds0, p0, q0, hargs, rfl, rfl, h0, r0⟩ := trodAll_cons hA
  obtain ⟨rfl, rfl, rfl⟩ := trodAll_nil r0
  obtain rfl : args = #[v0] := by cases args; simp_all
  obtain ⟨rfl, rfl⟩ := trodVars_none hV
  obtain ⟨a0, len0, cap0, rfl⟩ := okWide_slice Tryz.underlying22 (hval 0 22 v0 rfl rfl)
  have k0 := h0
  have lt0 : ∀ x ∈ p0, x.block < W.heap.size := by obtain ⟨m, hm⟩ := k0; exact DataW.trod_lt m _ _ _ hm
  obtain ⟨hlc, hl, hb⟩ : len0 ≤ cap0 ∧ len0 ≤ maxLen ∧ ∀ b, W.heap.size ≤ b → Bytes W b a0 len0 := by
    obtain ⟨fuel, hf⟩ := h0
    exact open_bytes hf
  clear hA0 hval0
  refine (isSafeLaw_any (fun b P w hP hr => l1Good_any b P w hr hP) a0 len0 cap0 W hlc hl hb).mono fun e W' ⟨he, bel⟩ => ?_
  subst he
  exact ⟨_, rfl, _, _, _, [], _, [], hW', trodAll_mk1 (shut_bool Tryz.underlying4 _), (trodAll_cons_mk (Below.trod laidOut (by kernel_rfl) (of_decide_eq_true (by kernel_rfl)) k0 bel lt0) trodAll_mk0), rfl, bel.frame _, fun h => by cases h⟩

set_option maxHeartbeats 4000000 in
theorem closed : joinedFacts Tryz.pinned.checked.prog 3 Tryz.f3 Rows.fnIsSafeSpec Rows.fnIsSafeRow = true := by
  unfold joinedFacts
  simp only [Bool.and_eq_true]
  repeat' apply And.intro
  all_goals first | (with_reducible exact zMayEnter) | ((with_reducible refine zMake ?_); rfl) | ((with_reducible refine zLifts ?_); rfl) | (as_aux_lemma => kernel_rfl)

theorem over : Rows.fnIsSafeRow.holds Tryz.pinned (OpenSpec.ofChange Rows.fnIsSafeSpec) :=
  OpenClaim.holds_of_wide 3 Tryz.f3 rfl rfl rfl rfl rfl rfl rfl ⟨rfl, rfl, rfl, rfl, rfl⟩ rfl rfl rfl rfl rfl (by kernel_rfl) Tryz.func3 closed
    (of_decide_eq_true (by kernel_rfl)) (by unfold Func.isWrapper; first | (rw [if_pos (by decide +kernel)]; kernel_rfl) | (rw [if_neg (by decide +kernel)]; exact ⟨rfl, rfl⟩))
    (fun os started H enc _ => lifted os started H enc)

theorem proved : Rows.FnIsSafeSaid := over

end Go.Proofs.YteokbgfiokbojaaGreat.lawIsSafe2
