/-
  No cell of these rows narrows 'for every input' (looked for: loops, veiled, ifaces, maps, wideKeys, modest, calm, conditions, laid).
  DERIVED. THE GIVEN ROWS OF THIS SEAT. 15 by the template 'for every input the law returns true; each argument reads behind the call as it read before'; 0 by the template 'total and deterministic' (their statements: YtbmfjfhmdpmlbaaTotals.lean).
  GIVEN WITH THE SEED: the statements are not yours to turn. If you find one false, say at which input.
  Laid BY PROGRAM, IN A SANDBOX (cutbox-rows.mjs): the forced cells as the released guide's own fill.sh prints them over the translation 9f10527f5d5c4423… (all of the seat's roots in one cut). By AI agents, Wed Nov 11 2026. No macro, syntax, notation, axiom, sorry.
-/
import Derived.Test.YtbmfjfhmdpmlbaaChecked
import GoSem.Claim
import GoSem.ClaimJoined
import GoSem.ClaimMapViews
import Derived.JoinedTies
import Derived.KernelRfl
namespace Go.Proofs.Ytbmfjfhmdpmlbaa
/- THE CELL 'sum', in the pinned program and in every row, IS THE sha256 OF THE DUMP (.gsa) THAT YtbmfjfhmdpmlbaaProg.lean LOADS. Nothing in Lean hashes anything: it is a label: what it is worth is what the hold of that sum in a sandbox is worth. -/
noncomputable def Try.pinned : Pinned := { name := "ytbmfjfhmdpmlbaa", sum := "9f10527f5d5c44237b0defefe742fdf438e8eed5d1cbe0f88a08c49da9743149", checked := Try.checked }
namespace Rows
def none {H : Type} : Left H := { results := [], args := [] }

/-- 'laws.FnPathOf': WHATEVER THE INPUT: true; the input reads as it did. -/
def fnPathOfSpec : ChangeSpec := { name := "fnPathOf", fn := fun _ => fun
  | [d] => { results := [.lit (.bool true)], args := [d] }
  | _ => none }
def fnPathOfRow : OpenClaim := { program := "ytbmfjfhmdpmlbaa", sum := "9f10527f5d5c44237b0defefe742fdf438e8eed5d1cbe0f88a08c49da9743149", func := "loop.example/segmentrooms/laws.FnPathOf", spec := "fnPathOf", inPlace := ["internal/abi.NoEscape"], unfollowed := true, recurses := true, apart := false }
def FnPathOfSaid : Prop := fnPathOfRow.holds Try.pinned (OpenSpec.ofChange fnPathOfSpec)

/-- ITS FALSE NEIGHBOUR: 'it returns false'. Refute it at one input. -/
def fnPathOfWrong : ChangeSpec := { name := "fnPathOf", fn := fun _ => fun
  | [d] => { results := [.lit (.bool false)], args := [d] }
  | _ => none }
def FnPathOfWrongFalsely : Prop := fnPathOfRow.holds Try.pinned (OpenSpec.ofChange fnPathOfWrong)

/-- 'laws.FnCommonOf': WHATEVER THE INPUT: true; the input reads as it did. -/
def fnCommonOfSpec : ChangeSpec := { name := "fnCommonOf", fn := fun _ => fun
  | [d] => { results := [.lit (.bool true)], args := [d] }
  | _ => none }
def fnCommonOfRow : OpenClaim := { program := "ytbmfjfhmdpmlbaa", sum := "9f10527f5d5c44237b0defefe742fdf438e8eed5d1cbe0f88a08c49da9743149", func := "loop.example/segmentrooms/laws.FnCommonOf", spec := "fnCommonOf", inPlace := ["internal/abi.NoEscape", "internal/bytealg.IndexByteString", "internal/bytealg.IndexString"], unfollowed := true, recurses := true, named := ["internal/bytealg.MaxLen"], apart := false }
def FnCommonOfSaid : Prop := fnCommonOfRow.holds Try.pinned (OpenSpec.ofChange fnCommonOfSpec)

/-- ITS FALSE NEIGHBOUR: 'it returns false'. Refute it at one input. -/
def fnCommonOfWrong : ChangeSpec := { name := "fnCommonOf", fn := fun _ => fun
  | [d] => { results := [.lit (.bool false)], args := [d] }
  | _ => none }
def FnCommonOfWrongFalsely : Prop := fnCommonOfRow.holds Try.pinned (OpenSpec.ofChange fnCommonOfWrong)

/-- 'laws.FnLieTogether': WHATEVER THE INPUT: true; the input reads as it did. -/
def fnLieTogetherSpec : ChangeSpec := { name := "fnLieTogether", fn := fun _ => fun
  | [d] => { results := [.lit (.bool true)], args := [d] }
  | _ => none }
def fnLieTogetherRow : OpenClaim := { program := "ytbmfjfhmdpmlbaa", sum := "9f10527f5d5c44237b0defefe742fdf438e8eed5d1cbe0f88a08c49da9743149", func := "loop.example/segmentrooms/laws.FnLieTogether", spec := "fnLieTogether", inPlace := ["internal/abi.NoEscape", "internal/bytealg.IndexByteString", "internal/bytealg.IndexString"], unfollowed := true, recurses := true, named := ["internal/bytealg.MaxLen"], apart := false }
def FnLieTogetherSaid : Prop := fnLieTogetherRow.holds Try.pinned (OpenSpec.ofChange fnLieTogetherSpec)

/-- ITS FALSE NEIGHBOUR: 'it returns false'. Refute it at one input. -/
def fnLieTogetherWrong : ChangeSpec := { name := "fnLieTogether", fn := fun _ => fun
  | [d] => { results := [.lit (.bool false)], args := [d] }
  | _ => none }
def FnLieTogetherWrongFalsely : Prop := fnLieTogetherRow.holds Try.pinned (OpenSpec.ofChange fnLieTogetherWrong)

/-- 'laws.FnLiesAt': WHATEVER THE INPUT: true; the input reads as it did. -/
def fnLiesAtSpec : ChangeSpec := { name := "fnLiesAt", fn := fun _ => fun
  | [d1, d2] => { results := [.lit (.bool true)], args := [d1, d2] }
  | _ => none }
def fnLiesAtRow : OpenClaim := { program := "ytbmfjfhmdpmlbaa", sum := "9f10527f5d5c44237b0defefe742fdf438e8eed5d1cbe0f88a08c49da9743149", func := "loop.example/segmentrooms/laws.FnLiesAt", spec := "fnLiesAt", inPlace := ["internal/abi.NoEscape"], unfollowed := true, recurses := true, apart := false }
def FnLiesAtSaid : Prop := fnLiesAtRow.holds Try.pinned (OpenSpec.ofChange fnLiesAtSpec)

/-- ITS FALSE NEIGHBOUR: 'it returns false'. Refute it at one input. -/
def fnLiesAtWrong : ChangeSpec := { name := "fnLiesAt", fn := fun _ => fun
  | [d1, d2] => { results := [.lit (.bool false)], args := [d1, d2] }
  | _ => none }
def FnLiesAtWrongFalsely : Prop := fnLiesAtRow.holds Try.pinned (OpenSpec.ofChange fnLiesAtWrong)

/-- 'laws.FnNeedOf': WHATEVER THE INPUT: true; the input reads as it did. -/
def fnNeedOfSpec : ChangeSpec := { name := "fnNeedOf", fn := fun _ => fun
  | [d] => { results := [.lit (.bool true)], args := [d] }
  | _ => none }
def fnNeedOfRow : OpenClaim := { program := "ytbmfjfhmdpmlbaa", sum := "9f10527f5d5c44237b0defefe742fdf438e8eed5d1cbe0f88a08c49da9743149", func := "loop.example/segmentrooms/laws.FnNeedOf", spec := "fnNeedOf", inPlace := ["internal/abi.NoEscape"], unfollowed := true, recurses := true, apart := false }
def FnNeedOfSaid : Prop := fnNeedOfRow.holds Try.pinned (OpenSpec.ofChange fnNeedOfSpec)

/-- ITS FALSE NEIGHBOUR: 'it returns false'. Refute it at one input. -/
def fnNeedOfWrong : ChangeSpec := { name := "fnNeedOf", fn := fun _ => fun
  | [d] => { results := [.lit (.bool false)], args := [d] }
  | _ => none }
def FnNeedOfWrongFalsely : Prop := fnNeedOfRow.holds Try.pinned (OpenSpec.ofChange fnNeedOfWrong)

/-- 'laws.FnNeedAll': WHATEVER THE INPUT: true; the input reads as it did. -/
def fnNeedAllSpec : ChangeSpec := { name := "fnNeedAll", fn := fun _ => fun
  | [d1, d2] => { results := [.lit (.bool true)], args := [d1, d2] }
  | _ => none }
def fnNeedAllRow : OpenClaim := { program := "ytbmfjfhmdpmlbaa", sum := "9f10527f5d5c44237b0defefe742fdf438e8eed5d1cbe0f88a08c49da9743149", func := "loop.example/segmentrooms/laws.FnNeedAll", spec := "fnNeedAll", inPlace := ["internal/abi.NoEscape"], unfollowed := true, recurses := true, apart := false }
def FnNeedAllSaid : Prop := fnNeedAllRow.holds Try.pinned (OpenSpec.ofChange fnNeedAllSpec)

/-- ITS FALSE NEIGHBOUR: 'it returns false'. Refute it at one input. -/
def fnNeedAllWrong : ChangeSpec := { name := "fnNeedAll", fn := fun _ => fun
  | [d1, d2] => { results := [.lit (.bool false)], args := [d1, d2] }
  | _ => none }
def FnNeedAllWrongFalsely : Prop := fnNeedAllRow.holds Try.pinned (OpenSpec.ofChange fnNeedAllWrong)

/-- 'laws.FnStates': WHATEVER THE INPUT: true; the input reads as it did. -/
def fnStatesSpec : ChangeSpec := { name := "fnStates", fn := fun _ => fun
  | [d1, d2] => { results := [.lit (.bool true)], args := [d1, d2] }
  | _ => none }
def fnStatesRow : OpenClaim := { program := "ytbmfjfhmdpmlbaa", sum := "9f10527f5d5c44237b0defefe742fdf438e8eed5d1cbe0f88a08c49da9743149", func := "loop.example/segmentrooms/laws.FnStates", spec := "fnStates", inPlace := ["internal/abi.NoEscape"], unfollowed := true, recurses := true, apart := false }
def FnStatesSaid : Prop := fnStatesRow.holds Try.pinned (OpenSpec.ofChange fnStatesSpec)

/-- ITS FALSE NEIGHBOUR: 'it returns false'. Refute it at one input. -/
def fnStatesWrong : ChangeSpec := { name := "fnStates", fn := fun _ => fun
  | [d1, d2] => { results := [.lit (.bool false)], args := [d1, d2] }
  | _ => none }
def FnStatesWrongFalsely : Prop := fnStatesRow.holds Try.pinned (OpenSpec.ofChange fnStatesWrong)

/-- 'laws.FnExactStateValid': WHATEVER THE INPUT: true; the input reads as it did. -/
def fnExactStateValidSpec : ChangeSpec := { name := "fnExactStateValid", fn := fun _ => fun
  | [d1, d2] => { results := [.lit (.bool true)], args := [d1, d2] }
  | _ => none }
def fnExactStateValidRow : OpenClaim := { program := "ytbmfjfhmdpmlbaa", sum := "9f10527f5d5c44237b0defefe742fdf438e8eed5d1cbe0f88a08c49da9743149", func := "loop.example/segmentrooms/laws.FnExactStateValid", spec := "fnExactStateValid", inPlace := ["internal/abi.NoEscape"], unfollowed := true, recurses := true, apart := false }
def FnExactStateValidSaid : Prop := fnExactStateValidRow.holds Try.pinned (OpenSpec.ofChange fnExactStateValidSpec)

/-- ITS FALSE NEIGHBOUR: 'it returns false'. Refute it at one input. -/
def fnExactStateValidWrong : ChangeSpec := { name := "fnExactStateValid", fn := fun _ => fun
  | [d1, d2] => { results := [.lit (.bool false)], args := [d1, d2] }
  | _ => none }
def FnExactStateValidWrongFalsely : Prop := fnExactStateValidRow.holds Try.pinned (OpenSpec.ofChange fnExactStateValidWrong)

/-- 'laws.FnExactStatesOf': WHATEVER THE INPUT: true; the input reads as it did. -/
def fnExactStatesOfSpec : ChangeSpec := { name := "fnExactStatesOf", fn := fun _ => fun
  | [d] => { results := [.lit (.bool true)], args := [d] }
  | _ => none }
def fnExactStatesOfRow : OpenClaim := { program := "ytbmfjfhmdpmlbaa", sum := "9f10527f5d5c44237b0defefe742fdf438e8eed5d1cbe0f88a08c49da9743149", func := "loop.example/segmentrooms/laws.FnExactStatesOf", spec := "fnExactStatesOf", inPlace := ["internal/abi.NoEscape"], unfollowed := true, recurses := true, apart := false }
def FnExactStatesOfSaid : Prop := fnExactStatesOfRow.holds Try.pinned (OpenSpec.ofChange fnExactStatesOfSpec)

/-- ITS FALSE NEIGHBOUR: 'it returns false'. Refute it at one input. -/
def fnExactStatesOfWrong : ChangeSpec := { name := "fnExactStatesOf", fn := fun _ => fun
  | [d] => { results := [.lit (.bool false)], args := [d] }
  | _ => none }
def FnExactStatesOfWrongFalsely : Prop := fnExactStatesOfRow.holds Try.pinned (OpenSpec.ofChange fnExactStatesOfWrong)

/-- 'laws.FnExactNeedOf': WHATEVER THE INPUT: true; the input reads as it did. -/
def fnExactNeedOfSpec : ChangeSpec := { name := "fnExactNeedOf", fn := fun _ => fun
  | [d1, d2, d3] => { results := [.lit (.bool true)], args := [d1, d2, d3] }
  | _ => none }
def fnExactNeedOfRow : OpenClaim := { program := "ytbmfjfhmdpmlbaa", sum := "9f10527f5d5c44237b0defefe742fdf438e8eed5d1cbe0f88a08c49da9743149", func := "loop.example/segmentrooms/laws.FnExactNeedOf", spec := "fnExactNeedOf", inPlace := ["internal/abi.NoEscape"], unfollowed := true, recurses := true, apart := false }
def FnExactNeedOfSaid : Prop := fnExactNeedOfRow.holds Try.pinned (OpenSpec.ofChange fnExactNeedOfSpec)

/-- ITS FALSE NEIGHBOUR: 'it returns false'. Refute it at one input. -/
def fnExactNeedOfWrong : ChangeSpec := { name := "fnExactNeedOf", fn := fun _ => fun
  | [d1, d2, d3] => { results := [.lit (.bool false)], args := [d1, d2, d3] }
  | _ => none }
def FnExactNeedOfWrongFalsely : Prop := fnExactNeedOfRow.holds Try.pinned (OpenSpec.ofChange fnExactNeedOfWrong)

/-- 'laws.FnExactDropsOf': WHATEVER THE INPUT: true; the input reads as it did. -/
def fnExactDropsOfSpec : ChangeSpec := { name := "fnExactDropsOf", fn := fun _ => fun
  | [d1, d2, d3] => { results := [.lit (.bool true)], args := [d1, d2, d3] }
  | _ => none }
def fnExactDropsOfRow : OpenClaim := { program := "ytbmfjfhmdpmlbaa", sum := "9f10527f5d5c44237b0defefe742fdf438e8eed5d1cbe0f88a08c49da9743149", func := "loop.example/segmentrooms/laws.FnExactDropsOf", spec := "fnExactDropsOf", inPlace := ["internal/abi.NoEscape"], unfollowed := true, recurses := true, apart := false }
def FnExactDropsOfSaid : Prop := fnExactDropsOfRow.holds Try.pinned (OpenSpec.ofChange fnExactDropsOfSpec)

/-- ITS FALSE NEIGHBOUR: 'it returns false'. Refute it at one input. -/
def fnExactDropsOfWrong : ChangeSpec := { name := "fnExactDropsOf", fn := fun _ => fun
  | [d1, d2, d3] => { results := [.lit (.bool false)], args := [d1, d2, d3] }
  | _ => none }
def FnExactDropsOfWrongFalsely : Prop := fnExactDropsOfRow.holds Try.pinned (OpenSpec.ofChange fnExactDropsOfWrong)

/-- 'laws.FnExactLoadCost': WHATEVER THE INPUT: true; the input reads as it did. -/
def fnExactLoadCostSpec : ChangeSpec := { name := "fnExactLoadCost", fn := fun _ => fun
  | [d1, d2, d3] => { results := [.lit (.bool true)], args := [d1, d2, d3] }
  | _ => none }
def fnExactLoadCostRow : OpenClaim := { program := "ytbmfjfhmdpmlbaa", sum := "9f10527f5d5c44237b0defefe742fdf438e8eed5d1cbe0f88a08c49da9743149", func := "loop.example/segmentrooms/laws.FnExactLoadCost", spec := "fnExactLoadCost", inPlace := ["internal/abi.NoEscape"], unfollowed := true, recurses := true, apart := false }
def FnExactLoadCostSaid : Prop := fnExactLoadCostRow.holds Try.pinned (OpenSpec.ofChange fnExactLoadCostSpec)

/-- ITS FALSE NEIGHBOUR: 'it returns false'. Refute it at one input. -/
def fnExactLoadCostWrong : ChangeSpec := { name := "fnExactLoadCost", fn := fun _ => fun
  | [d1, d2, d3] => { results := [.lit (.bool false)], args := [d1, d2, d3] }
  | _ => none }
def FnExactLoadCostWrongFalsely : Prop := fnExactLoadCostRow.holds Try.pinned (OpenSpec.ofChange fnExactLoadCostWrong)

/-- 'laws.FnExactNeedAll': WHATEVER THE INPUT: true; the input reads as it did. -/
def fnExactNeedAllSpec : ChangeSpec := { name := "fnExactNeedAll", fn := fun _ => fun
  | [d1, d2, d3] => { results := [.lit (.bool true)], args := [d1, d2, d3] }
  | _ => none }
def fnExactNeedAllRow : OpenClaim := { program := "ytbmfjfhmdpmlbaa", sum := "9f10527f5d5c44237b0defefe742fdf438e8eed5d1cbe0f88a08c49da9743149", func := "loop.example/segmentrooms/laws.FnExactNeedAll", spec := "fnExactNeedAll", inPlace := ["internal/abi.NoEscape"], unfollowed := true, recurses := true, apart := false }
def FnExactNeedAllSaid : Prop := fnExactNeedAllRow.holds Try.pinned (OpenSpec.ofChange fnExactNeedAllSpec)

/-- ITS FALSE NEIGHBOUR: 'it returns false'. Refute it at one input. -/
def fnExactNeedAllWrong : ChangeSpec := { name := "fnExactNeedAll", fn := fun _ => fun
  | [d1, d2, d3] => { results := [.lit (.bool false)], args := [d1, d2, d3] }
  | _ => none }
def FnExactNeedAllWrongFalsely : Prop := fnExactNeedAllRow.holds Try.pinned (OpenSpec.ofChange fnExactNeedAllWrong)

/-- 'laws.FnExactCostOf': WHATEVER THE INPUT: true; the input reads as it did. -/
def fnExactCostOfSpec : ChangeSpec := { name := "fnExactCostOf", fn := fun _ => fun
  | [d1, d2] => { results := [.lit (.bool true)], args := [d1, d2] }
  | _ => none }
def fnExactCostOfRow : OpenClaim := { program := "ytbmfjfhmdpmlbaa", sum := "9f10527f5d5c44237b0defefe742fdf438e8eed5d1cbe0f88a08c49da9743149", func := "loop.example/segmentrooms/laws.FnExactCostOf", spec := "fnExactCostOf", apart := false }
def FnExactCostOfSaid : Prop := fnExactCostOfRow.holds Try.pinned (OpenSpec.ofChange fnExactCostOfSpec)

/-- ITS FALSE NEIGHBOUR: 'it returns false'. Refute it at one input. -/
def fnExactCostOfWrong : ChangeSpec := { name := "fnExactCostOf", fn := fun _ => fun
  | [d1, d2] => { results := [.lit (.bool false)], args := [d1, d2] }
  | _ => none }
def FnExactCostOfWrongFalsely : Prop := fnExactCostOfRow.holds Try.pinned (OpenSpec.ofChange fnExactCostOfWrong)

/-- 'laws.FnExactCheapestNeed': WHATEVER THE INPUT: true; the input reads as it did. -/
def fnExactCheapestNeedSpec : ChangeSpec := { name := "fnExactCheapestNeed", fn := fun _ => fun
  | [d1, d2] => { results := [.lit (.bool true)], args := [d1, d2] }
  | _ => none }
def fnExactCheapestNeedRow : OpenClaim := { program := "ytbmfjfhmdpmlbaa", sum := "9f10527f5d5c44237b0defefe742fdf438e8eed5d1cbe0f88a08c49da9743149", func := "loop.example/segmentrooms/laws.FnExactCheapestNeed", spec := "fnExactCheapestNeed", inPlace := ["internal/abi.NoEscape"], unfollowed := true, recurses := true, apart := false }
def FnExactCheapestNeedSaid : Prop := fnExactCheapestNeedRow.holds Try.pinned (OpenSpec.ofChange fnExactCheapestNeedSpec)

/-- ITS FALSE NEIGHBOUR: 'it returns false'. Refute it at one input. -/
def fnExactCheapestNeedWrong : ChangeSpec := { name := "fnExactCheapestNeed", fn := fun _ => fun
  | [d1, d2] => { results := [.lit (.bool false)], args := [d1, d2] }
  | _ => none }
def FnExactCheapestNeedWrongFalsely : Prop := fnExactCheapestNeedRow.holds Try.pinned (OpenSpec.ofChange fnExactCheapestNeedWrong)

/- THE SECOND FORM. 'bulk': how many values and letters a reading holds, each counted each time it is reached (what is shared counts as often as it is met; a slice's spare places count too). A statement '..UptoSaid' is the law's where the arguments, and the package variables that the reading takes, are together of bulk at most 1048576: NARROWER than '..Said'. Prove '..Said' where nothing that the law and all that it calls make is longer than what came in: it says more and counts as full. Else prove '..UptoSaid'. A law counts once. -/
mutual
def uptoBulk {H : Type} : DataW H → Nat
  | .lit (.string bytes) => bytes.length + 1
  | .lit _ => 1
  | .nil => 1
  | .ptr d => uptoBulk d + 1
  | .slice elems spare => uptoBulkAll elems + uptoBulkAll spare + 1
  | .agg parts => uptoBulkAll parts + 1
  | .iface _ d => uptoBulk d + 1
  | .map entries => uptoBulkEntries entries + 1
  | .held _ => 1
def uptoBulkAll {H : Type} : List (DataW H) → Nat
  | [] => 0
  | d :: r => uptoBulk d + uptoBulkAll r
def uptoBulkEntries {H : Type} : List (Lit × DataW H) → Nat
  | [] => 0
  | x :: r => uptoBulkEntry x + uptoBulkEntries r
def uptoBulkEntry {H : Type} : Lit × DataW H → Nat
  | (.string bytes, d) => bytes.length + uptoBulk d + 1
  | (_, d) => uptoBulk d + 1
 end
def uptoSmall : (H : Type) → List (DataW H) → Bool := fun _ ds => decide (uptoBulkAll ds ≤ 1048576)
def OpenSpec.upto (s : _root_.Go.ChangeSpec) : _root_.Go.OpenSpec := { _root_.Go.OpenSpec.ofChange s with cond := some uptoSmall }

/-- 'laws.FnPathOf', WHERE WHAT IT READS IS OF BULK AT MOST 1048576: true; the input reads as it did. -/
def fnPathOfUptoRow : OpenClaim := { program := "ytbmfjfhmdpmlbaa", sum := "9f10527f5d5c44237b0defefe742fdf438e8eed5d1cbe0f88a08c49da9743149", func := "loop.example/segmentrooms/laws.FnPathOf", spec := "fnPathOf", inPlace := ["internal/abi.NoEscape"], unfollowed := true, recurses := true, apart := false, narrowed := true }
def FnPathOfUptoSaid : Prop := fnPathOfUptoRow.holds Try.pinned (OpenSpec.upto fnPathOfSpec)

/-- 'laws.FnCommonOf', WHERE WHAT IT READS IS OF BULK AT MOST 1048576: true; the input reads as it did. -/
def fnCommonOfUptoRow : OpenClaim := { program := "ytbmfjfhmdpmlbaa", sum := "9f10527f5d5c44237b0defefe742fdf438e8eed5d1cbe0f88a08c49da9743149", func := "loop.example/segmentrooms/laws.FnCommonOf", spec := "fnCommonOf", inPlace := ["internal/abi.NoEscape", "internal/bytealg.IndexByteString", "internal/bytealg.IndexString"], unfollowed := true, recurses := true, named := ["internal/bytealg.MaxLen"], apart := false, narrowed := true }
def FnCommonOfUptoSaid : Prop := fnCommonOfUptoRow.holds Try.pinned (OpenSpec.upto fnCommonOfSpec)

/-- 'laws.FnLieTogether', WHERE WHAT IT READS IS OF BULK AT MOST 1048576: true; the input reads as it did. -/
def fnLieTogetherUptoRow : OpenClaim := { program := "ytbmfjfhmdpmlbaa", sum := "9f10527f5d5c44237b0defefe742fdf438e8eed5d1cbe0f88a08c49da9743149", func := "loop.example/segmentrooms/laws.FnLieTogether", spec := "fnLieTogether", inPlace := ["internal/abi.NoEscape", "internal/bytealg.IndexByteString", "internal/bytealg.IndexString"], unfollowed := true, recurses := true, named := ["internal/bytealg.MaxLen"], apart := false, narrowed := true }
def FnLieTogetherUptoSaid : Prop := fnLieTogetherUptoRow.holds Try.pinned (OpenSpec.upto fnLieTogetherSpec)

/-- 'laws.FnLiesAt', WHERE WHAT IT READS IS OF BULK AT MOST 1048576: true; the input reads as it did. -/
def fnLiesAtUptoRow : OpenClaim := { program := "ytbmfjfhmdpmlbaa", sum := "9f10527f5d5c44237b0defefe742fdf438e8eed5d1cbe0f88a08c49da9743149", func := "loop.example/segmentrooms/laws.FnLiesAt", spec := "fnLiesAt", inPlace := ["internal/abi.NoEscape"], unfollowed := true, recurses := true, apart := false, narrowed := true }
def FnLiesAtUptoSaid : Prop := fnLiesAtUptoRow.holds Try.pinned (OpenSpec.upto fnLiesAtSpec)

/-- 'laws.FnNeedOf', WHERE WHAT IT READS IS OF BULK AT MOST 1048576: true; the input reads as it did. -/
def fnNeedOfUptoRow : OpenClaim := { program := "ytbmfjfhmdpmlbaa", sum := "9f10527f5d5c44237b0defefe742fdf438e8eed5d1cbe0f88a08c49da9743149", func := "loop.example/segmentrooms/laws.FnNeedOf", spec := "fnNeedOf", inPlace := ["internal/abi.NoEscape"], unfollowed := true, recurses := true, apart := false, narrowed := true }
def FnNeedOfUptoSaid : Prop := fnNeedOfUptoRow.holds Try.pinned (OpenSpec.upto fnNeedOfSpec)

/-- 'laws.FnNeedAll', WHERE WHAT IT READS IS OF BULK AT MOST 1048576: true; the input reads as it did. -/
def fnNeedAllUptoRow : OpenClaim := { program := "ytbmfjfhmdpmlbaa", sum := "9f10527f5d5c44237b0defefe742fdf438e8eed5d1cbe0f88a08c49da9743149", func := "loop.example/segmentrooms/laws.FnNeedAll", spec := "fnNeedAll", inPlace := ["internal/abi.NoEscape"], unfollowed := true, recurses := true, apart := false, narrowed := true }
def FnNeedAllUptoSaid : Prop := fnNeedAllUptoRow.holds Try.pinned (OpenSpec.upto fnNeedAllSpec)

/-- 'laws.FnStates', WHERE WHAT IT READS IS OF BULK AT MOST 1048576: true; the input reads as it did. -/
def fnStatesUptoRow : OpenClaim := { program := "ytbmfjfhmdpmlbaa", sum := "9f10527f5d5c44237b0defefe742fdf438e8eed5d1cbe0f88a08c49da9743149", func := "loop.example/segmentrooms/laws.FnStates", spec := "fnStates", inPlace := ["internal/abi.NoEscape"], unfollowed := true, recurses := true, apart := false, narrowed := true }
def FnStatesUptoSaid : Prop := fnStatesUptoRow.holds Try.pinned (OpenSpec.upto fnStatesSpec)

/-- 'laws.FnExactStateValid', WHERE WHAT IT READS IS OF BULK AT MOST 1048576: true; the input reads as it did. -/
def fnExactStateValidUptoRow : OpenClaim := { program := "ytbmfjfhmdpmlbaa", sum := "9f10527f5d5c44237b0defefe742fdf438e8eed5d1cbe0f88a08c49da9743149", func := "loop.example/segmentrooms/laws.FnExactStateValid", spec := "fnExactStateValid", inPlace := ["internal/abi.NoEscape"], unfollowed := true, recurses := true, apart := false, narrowed := true }
def FnExactStateValidUptoSaid : Prop := fnExactStateValidUptoRow.holds Try.pinned (OpenSpec.upto fnExactStateValidSpec)

/-- 'laws.FnExactStatesOf', WHERE WHAT IT READS IS OF BULK AT MOST 1048576: true; the input reads as it did. -/
def fnExactStatesOfUptoRow : OpenClaim := { program := "ytbmfjfhmdpmlbaa", sum := "9f10527f5d5c44237b0defefe742fdf438e8eed5d1cbe0f88a08c49da9743149", func := "loop.example/segmentrooms/laws.FnExactStatesOf", spec := "fnExactStatesOf", inPlace := ["internal/abi.NoEscape"], unfollowed := true, recurses := true, apart := false, narrowed := true }
def FnExactStatesOfUptoSaid : Prop := fnExactStatesOfUptoRow.holds Try.pinned (OpenSpec.upto fnExactStatesOfSpec)

/-- 'laws.FnExactNeedOf', WHERE WHAT IT READS IS OF BULK AT MOST 1048576: true; the input reads as it did. -/
def fnExactNeedOfUptoRow : OpenClaim := { program := "ytbmfjfhmdpmlbaa", sum := "9f10527f5d5c44237b0defefe742fdf438e8eed5d1cbe0f88a08c49da9743149", func := "loop.example/segmentrooms/laws.FnExactNeedOf", spec := "fnExactNeedOf", inPlace := ["internal/abi.NoEscape"], unfollowed := true, recurses := true, apart := false, narrowed := true }
def FnExactNeedOfUptoSaid : Prop := fnExactNeedOfUptoRow.holds Try.pinned (OpenSpec.upto fnExactNeedOfSpec)

/-- 'laws.FnExactDropsOf', WHERE WHAT IT READS IS OF BULK AT MOST 1048576: true; the input reads as it did. -/
def fnExactDropsOfUptoRow : OpenClaim := { program := "ytbmfjfhmdpmlbaa", sum := "9f10527f5d5c44237b0defefe742fdf438e8eed5d1cbe0f88a08c49da9743149", func := "loop.example/segmentrooms/laws.FnExactDropsOf", spec := "fnExactDropsOf", inPlace := ["internal/abi.NoEscape"], unfollowed := true, recurses := true, apart := false, narrowed := true }
def FnExactDropsOfUptoSaid : Prop := fnExactDropsOfUptoRow.holds Try.pinned (OpenSpec.upto fnExactDropsOfSpec)

/-- 'laws.FnExactLoadCost', WHERE WHAT IT READS IS OF BULK AT MOST 1048576: true; the input reads as it did. -/
def fnExactLoadCostUptoRow : OpenClaim := { program := "ytbmfjfhmdpmlbaa", sum := "9f10527f5d5c44237b0defefe742fdf438e8eed5d1cbe0f88a08c49da9743149", func := "loop.example/segmentrooms/laws.FnExactLoadCost", spec := "fnExactLoadCost", inPlace := ["internal/abi.NoEscape"], unfollowed := true, recurses := true, apart := false, narrowed := true }
def FnExactLoadCostUptoSaid : Prop := fnExactLoadCostUptoRow.holds Try.pinned (OpenSpec.upto fnExactLoadCostSpec)

/-- 'laws.FnExactNeedAll', WHERE WHAT IT READS IS OF BULK AT MOST 1048576: true; the input reads as it did. -/
def fnExactNeedAllUptoRow : OpenClaim := { program := "ytbmfjfhmdpmlbaa", sum := "9f10527f5d5c44237b0defefe742fdf438e8eed5d1cbe0f88a08c49da9743149", func := "loop.example/segmentrooms/laws.FnExactNeedAll", spec := "fnExactNeedAll", inPlace := ["internal/abi.NoEscape"], unfollowed := true, recurses := true, apart := false, narrowed := true }
def FnExactNeedAllUptoSaid : Prop := fnExactNeedAllUptoRow.holds Try.pinned (OpenSpec.upto fnExactNeedAllSpec)

/-- 'laws.FnExactCostOf', WHERE WHAT IT READS IS OF BULK AT MOST 1048576: true; the input reads as it did. -/
def fnExactCostOfUptoRow : OpenClaim := { program := "ytbmfjfhmdpmlbaa", sum := "9f10527f5d5c44237b0defefe742fdf438e8eed5d1cbe0f88a08c49da9743149", func := "loop.example/segmentrooms/laws.FnExactCostOf", spec := "fnExactCostOf", apart := false, narrowed := true }
def FnExactCostOfUptoSaid : Prop := fnExactCostOfUptoRow.holds Try.pinned (OpenSpec.upto fnExactCostOfSpec)

/-- 'laws.FnExactCheapestNeed', WHERE WHAT IT READS IS OF BULK AT MOST 1048576: true; the input reads as it did. -/
def fnExactCheapestNeedUptoRow : OpenClaim := { program := "ytbmfjfhmdpmlbaa", sum := "9f10527f5d5c44237b0defefe742fdf438e8eed5d1cbe0f88a08c49da9743149", func := "loop.example/segmentrooms/laws.FnExactCheapestNeed", spec := "fnExactCheapestNeed", inPlace := ["internal/abi.NoEscape"], unfollowed := true, recurses := true, apart := false, narrowed := true }
def FnExactCheapestNeedUptoSaid : Prop := fnExactCheapestNeedUptoRow.holds Try.pinned (OpenSpec.upto fnExactCheapestNeedSpec)

end Rows
end Go.Proofs.Ytbmfjfhmdpmlbaa
