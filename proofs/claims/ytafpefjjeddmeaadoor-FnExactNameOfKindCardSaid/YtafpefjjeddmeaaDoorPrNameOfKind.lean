/- For every number, the law FnExactNameOfKind returns true: the program's NameOfKind answers as the model's; its table of words is tied to the program's text. Condition: the table holds what the text lays into it when the call begins (laid, tied). -/
import Derived.Test.YtafpefjjeddmeaaDoorBw
import Derived.Test.YtafpefjjeddmeaaDoorOp
import Derived.Test.YtafpefjjeddmeaaDoorCards
import Derived.Test.YtafpefjjeddmeaaDoorTie
import Derived.LaidMore
import Derived.OpenShut
import Derived.ChangeVars
import Derived.OpenVars
import Derived.SevenTiedAt
import Derived.Stop.Joined
namespace Go.Proofs.YtafpefjjeddmeaaDoor.lawNameOfKind
open Go.ChangeShapes Go.WideShapes Go.ChangeAt Go.RowKit

theorem gWords : Tryd.prog.globalNamed "loop.example/segmentrooms/impl.kindWords" = some 0 := by kernel_rfl
theorem tWords : (Tryd.prog.globals[0]?).map (·.type) = some 53 := by kernel_rfl
theorem cells9 : Tryd.prog.cellsOf 9 = 1 := by kernel_rfl

/-- The door's own heap meets the condition. -/
theorem door_met (os : Os) (args : Array Value) : laidMetH Tryd.prog Rows.fnExactNameOfKindRow.laid ((World.doorLaid Tryd.prog 400 os).forCall (fun _ _ => 0) ⟨#[], args, []⟩).memory :=
  laidMetH_of_parts3 (fuel := 8) (laidMet_of_run' 8 (by kernel_rfl) (by kernel_rfl)) (by kernel_rfl) (by kernel_rfl)

set_option maxRecDepth 100000 in
/-- What the condition gives the walks: the table's cells. -/
theorem of_laid {W : World} (h : laidMetH Tryd.prog Rows.fnExactNameOfKindRow.laid W) : WordsHeld W := by
  rw [MakeChecks.laidMetH_plain _ _ _ (by kernel_rfl)] at h
  obtain ⟨ps, ⟨g0, t0, cs0, f0, p0, q0, hg0, ht0, hv0, hd0, _, _⟩, _⟩ := h
  obtain rfl := Option.some.inj (gWords.symm.trans hg0)
  obtain rfl := Option.some.inj (tWords.symm.trans ht0)
  obtain ⟨xs, m1, rfl, hx1, hlen, hn3, hel⟩ := DataW.trod_array Tryd.underlying53 hd0
  have h0 := hel 0 (by decide)
  have h1 := hel 1 (by decide)
  have h2 := hel 2 (by decide)
  rw [cells9] at h0 h1 h2
  have c3 : Tryd.prog.cellsOf 53 = 3 := by kernel_rfl
  rw [c3] at hlen
  obtain ⟨l⟩ := cs0
  match l, hlen with
  | [a0, a1, a2], _ =>
    match xs, hn3 with
    | [x0, x1, x2], _ =>
      obtain ⟨s0, e0, f0, _⟩ := DataW.trod_string Tryd.underlying9 (show DataW.trod _ Tryd.prog W 0 _ _ m1 9 [a0] = some x0 from h0)
      obtain ⟨s1, e1, f1, _⟩ := DataW.trod_string Tryd.underlying9 (show DataW.trod _ Tryd.prog W 0 _ _ m1 9 [a1] = some x1 from h1)
      obtain ⟨s2, e2, f2, _⟩ := DataW.trod_string Tryd.underlying9 (show DataW.trod _ Tryd.prog W 0 _ _ m1 9 [a2] = some x2 from h2)
      have hx := congrArg Prod.fst hx1
      rw [f0, f1, f2] at hx
      have hx' : (DataW.agg [.lit (.string [117, 112]), .lit (.string [100, 111, 119, 110]), .lit (.string [115, 105, 100, 101])] : DataW _) = .agg [.lit (.string s0.data.toList), .lit (.string s1.data.toList), .lit (.string s2.data.toList)] := hx
      injection hx' with hx'
      injection hx' with i0 hx'
      injection hx' with i1 hx'
      injection hx' with i2 _
      injection i0 with i0
      injection i0 with i0
      injection i1 with i1
      injection i1 with i1
      injection i2 with i2
      injection i2 with i2
      have j0 : s0 = ⟨#[117, 112]⟩ := WideShapes.bytes_inj i0.symm
      have j1 : s1 = ⟨#[100, 111, 119, 110]⟩ := WideShapes.bytes_inj i1.symm
      have j2 : s2 = ⟨#[115, 105, 100, 101]⟩ := WideShapes.bytes_inj i2.symm
      injection e0 with e0 _
      injection e1 with e1 _
      injection e2 with e2 _
      subst j0 j1 j2 e0 e1 e2
      exact ⟨by simpa using World.var?_cell hg0 hv0 0, by simpa using World.var?_cell hg0 hv0 1, by simpa using World.var?_cell hg0 hv0 2⟩

set_option maxRecDepth 100000 in
theorem lifted (os : Os) (started : os.Started) (H : Type) (enc : TypeId × Value → H) :
    ReturnsInHanded {} Tryd.checked os 4 .any (fun w args => (Rows.fnExactNameOfKindSpec.pre enc Tryd.prog Tryd.f4 Rows.fnExactNameOfKindRow.domain false w args ∧ laidMetH Tryd.prog Rows.fnExactNameOfKindRow.laid w) ∧ sizedMet enc Tryd.prog Tryd.f4 (OpenSpec.ofChange Rows.fnExactNameOfKindSpec) false w args)
      (Rows.fnExactNameOfKindSpec.post enc Tryd.prog Tryd.f4 false true false false) := by
  refine returnsInHanded_of_change_and (C := Tryd.checked) (X := fun w _ => laidMetH Tryd.prog Rows.fnExactNameOfKindRow.laid w) (fun _ _ _ hh h => h.of_heap hh) own started (by kernel_rfl) Tryd.func4
    (ChangeSpec.witness_shaped (enc := enc) (C := Tryd.checked) (os := os) (X := fun w _ => laidMetH Tryd.prog Rows.fnExactNameOfKindRow.laid w) false (World.doorLaid Tryd.prog 400 os) #[.int .i64 0] 8 rfl (World.shaped_of_RefB (by kernel_rfl) (by kernel_rfl)) (by kernel_rfl) (by kernel_rfl) (by kernel_rfl) (door_met os _)) ?_
  intro W base args ds gs before hval0 hW _ _ hL _
  have hval : ∀ (j : Nat) t v, Tryd.f4.params[j]? = some t → args[j]? = some v → Value.okWide Tryd.prog W .any base t v := hval0
  have hW' := hW
  obtain ⟨p, q, hA0, hV0, rfl, hfz, hnd⟩ := hW
  have hA : DataW.TrodAll enc Tryd.prog W 0 (fun _ => true) true Tryd.f4.params.toList args.toList ds p := hA0
  have hV : DataW.TrodVars enc Tryd.prog W (fun _ => true) ["loop.example/segmentrooms/impl.kindWords"] gs q := hV0
  rw [Tryd.params4] at hA hval
  obtain ⟨v0, d0, rfl, rfl, h0⟩ := trodAll_one hA
  obtain ⟨i, rfl, rfl, rfl, wi⟩ := open_int Tryd.underlying3 (hval 0 3 v0 rfl rfl) h0
  obtain ⟨gg, gt, gcs, gf, gd, gp, rfl, -⟩ := trodVars_one hV
  clear hA0 hval0
  refine (lawNameOfKind_any i W (of_laid hL)).mono fun e W' ⟨he, hw⟩ => ?_
  subst he
  subst hw
  exact ⟨_, rfl, _, _, _, [], _, _, hW', trodAll_mk1 (shut_bool Tryd.underlying4 _), trodAll_mk1 (shut_int Tryd.underlying3 wi), Below.trodVars laidOut (Below.refl _ W) (by kernel_rfl) hV, (Below.refl _ W).frame _, fun h => by cases h⟩

theorem over : Rows.FnExactNameOfKindSaid :=
  OpenClaim.holds_of_wide 4 Tryd.f4 rfl rfl rfl rfl rfl rfl rfl ⟨rfl, rfl, rfl, rfl, rfl⟩ rfl rfl rfl rfl rfl (by kernel_rfl) Tryd.func4 (by kernel_rfl)
    (of_decide_eq_true (by kernel_rfl)) (by unfold Func.isWrapper; first | (rw [if_pos (by decide +kernel)]; kernel_rfl) | (rw [if_neg (by decide +kernel)]; exact ⟨rfl, rfl⟩))
    (fun os started H enc _ => lifted os started H enc)

theorem proved : Rows.FnExactNameOfKindCardSaid :=
  Claim7.holds_tied_plain_at .later [] [.data] true (true, "b8a57a2987c8771e6bc027d0e92d934d61bdb234a89f93358df58810b499154b") false
    over (fun _ h => by cases h) (by kernel_rfl) (fun _ h => by cases h) fnExactNameOfKind_row_tie rfl ⟨rfl, rfl⟩ (by kernel_rfl) rfl
    (fun f fn hf hfn => by
      obtain rfl : f = 4 := Option.some.inj ((show Tryd.prog.funcNamed "loop.example/segmentrooms/laws.FnExactNameOfKind" = some 4 by kernel_rfl).symm.trans hf) |>.symm
      obtain rfl : fn = Tryd.f4 := (Option.some.inj (Tryd.func4.symm.trans hfn)).symm
      exact ⟨by kernel_rfl, fun j t ht => by
        rw [Tryd.params4] at ht
        have hm : t ∈ [3] := by simpa using Array.mem_of_getElem? ht
        have hall : ([3].all fun u => !Tryd.prog.wantsStandIn u) = true := by kernel_rfl
        exact (show Tryd.prog.wantsStandIn t = false by simpa using List.all_eq_true.1 hall t hm)⟩)
    (by kernel_rfl)

end Go.Proofs.YtafpefjjeddmeaaDoor.lawNameOfKind
