/- For every slice of bytes, the law FnTogether returns true and leaves its argument as it was: of every drawn tree and pairs the program tells who may be active at once and who of them clash as the reference does; each such text is two names in their order, of which one is reached from the other, they ascend, those that clash are those that do not lie together, and pairs are safe exactly if there are none. No condition. -/
import Derived.Test.YtbmfbnlmdjnddaaGreatU35
import Derived.Test.YtbmfbnlmdjnddaaGreatU36
import Derived.Test.YtbmfbnlmdjnddaaGreatU32
import Derived.Test.YtbmfbnlmdjnddaaGreatU31
import Derived.Test.YtbmfbnlmdjnddaaGreatZa
import Derived.Test.YtbmfbnlmdjnddaaGreatZb
import Derived.Test.YtbmfbnlmdjnddaaGreatZc
namespace Go.Proofs.YtbmfbnlmdjnddaaGreat.lawTogether2
open Go.ChangeShapes Go.WideShapes Go.ChangeAt Go.RowKit

set_option maxRecDepth 100000 in
theorem lifted (os : Os) (started : os.Started) (H : Type) (enc : TypeId × Value → H) :
    ReturnsInHanded {} Tryz.checked os 4 .any (Rows.fnTogetherSpec.pre6 enc Tryz.prog Tryz.f4 Rows.fnTogetherRow.domain false) (Rows.fnTogetherSpec.post enc Tryz.prog Tryz.f4 false true false false) := by
  refine returnsInHanded_of_change (C := Tryz.checked) own started (by kernel_rfl) Tryz.func4
    (ChangeSpec.witness6 (enc := enc) (C := Tryz.checked) false ⟨#[], #[.slice none 0 0], []⟩ 8 (by kernel_rfl) (by kernel_rfl) (by kernel_rfl) (by kernel_rfl)) ?_
  intro W base args ds gs before hval0 hW hcnd _
  have hval : ∀ (j : Nat) t v, Tryz.f4.params[j]? = some t → args[j]? = some v → Value.okWide Tryz.prog W .any base t v := hval0
  have hW' := hW
  obtain ⟨p, q, hA0, hV, rfl, hfz, hnd⟩ := hW
  have hA : DataW.TrodAll enc Tryz.prog W 0 (fun _ => true) true Tryz.f4.params.toList args.toList ds p := hA0
  rw [Tryz.params4] at hA hval
  obtain ⟨v0, vs0, d0, ds0, p0, q0, hargs, rfl, rfl, h0, r0⟩ := trodAll_cons hA
  obtain ⟨rfl, rfl, rfl⟩ := trodAll_nil r0
  obtain rfl : args = #[v0] := by cases args; simp_all
  obtain ⟨rfl, rfl⟩ := trodVars_none hV
  obtain ⟨a0, len0, cap0, rfl⟩ := okWide_slice Tryz.underlying22 (hval 0 22 v0 rfl rfl)
  have k0 := h0
  have lt0 : ∀ x ∈ p0, x.block < W.heap.size := by obtain ⟨m, hm⟩ := k0; exact DataW.trod_lt m _ _ _ hm
  obtain ⟨hlc, -, hb⟩ : len0 ≤ cap0 ∧ len0 ≤ maxLen ∧ ∀ b, W.heap.size ≤ b → Bytes W b a0 len0 := by
    obtain ⟨fuel, hf⟩ := h0
    exact open_bytes hf
  clear hA0 hval0
  refine (togetherLaw7_any (fun A0 n c0 w hn hx => drawTogether_any (fun b P w hP hr => l1Good_any b P w hr hP) A0 n c0 w hn hx) a0 len0 cap0 W hlc hb).mono fun e W' ⟨he, bel⟩ => ?_
  subst he
  exact ⟨_, rfl, _, _, _, [], _, [], hW', trodAll_mk1 (shut_bool Tryz.underlying4 _), (trodAll_cons_mk (Below.trod laidOut (by kernel_rfl) (of_decide_eq_true (by kernel_rfl)) k0 bel lt0) trodAll_mk0), rfl, bel.frame _, fun h => by cases h⟩

set_option maxHeartbeats 4000000 in
theorem closed : joinedFacts Tryz.pinned.checked.prog 4 Tryz.f4 Rows.fnTogetherSpec Rows.fnTogetherRow = true := by
  unfold joinedFacts
  simp only [Bool.and_eq_true]
  repeat' apply And.intro
  all_goals first | (with_reducible exact zMayEnter) | ((with_reducible refine zMake ?_); rfl) | ((with_reducible refine zLifts ?_); rfl) | (as_aux_lemma => kernel_rfl)

theorem over : Rows.fnTogetherRow.holds Tryz.pinned (OpenSpec.ofChange Rows.fnTogetherSpec) :=
  OpenClaim.holds_of_wide 4 Tryz.f4 rfl rfl rfl rfl rfl rfl rfl ⟨rfl, rfl, rfl, rfl, rfl⟩ rfl rfl rfl rfl rfl (by kernel_rfl) Tryz.func4 closed
    (of_decide_eq_true (by kernel_rfl)) (by unfold Func.isWrapper; first | (rw [if_pos (by decide +kernel)]; kernel_rfl) | (rw [if_neg (by decide +kernel)]; exact ⟨rfl, rfl⟩))
    (fun os started H enc _ => lifted os started H enc)

theorem proved : Rows.FnTogetherSaid := over

end Go.Proofs.YtbmfbnlmdjnddaaGreat.lawTogether2
