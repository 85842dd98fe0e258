/-
  No cell of these rows narrows 'for every input' (looked for: loops, veiled, ifaces, maps, wideKeys, modest, calm, conditions, laid).
  DERIVED. THE GIVEN ROWS OF THIS SEAT. 7 by the template 'for every input the law returns true; each argument reads behind the call as it read before'; 0 by the template 'total and deterministic' (their statements: YtcaegpjbdcopoaaTotals.lean).
  GIVEN WITH THE SEED: the statements are not yours to turn. If you find one false, say at which input.
  Laid BY PROGRAM, IN A SANDBOX (cutbox-rows.mjs): the forced cells as the released guide's own fill.sh prints them over the translation ff33253cb4c63bb4… (all of the seat's roots in one cut). By AI agents, Wed Nov 11 2026. No macro, syntax, notation, axiom, sorry.
-/
import Derived.Test.YtcaegpjbdcopoaaChecked
import GoSem.Claim
import GoSem.ClaimJoined
import GoSem.ClaimMapViews
import Derived.JoinedTies
import Derived.KernelRfl
namespace Go.Proofs.Ytcaegpjbdcopoaa
/- THE CELL 'sum', in the pinned program and in every row, IS THE sha256 OF THE DUMP (.gsa) THAT YtcaegpjbdcopoaaProg.lean LOADS. Nothing in Lean hashes anything: it is a label: what it is worth is what the hold of that sum in a sandbox is worth. -/
noncomputable def Try.pinned : Pinned := { name := "ytcaegpjbdcopoaa", sum := "ff33253cb4c63bb43f878f1dc08d57785e3b94179c6cb700e7d6a08cffa5b3c5", checked := Try.checked }
namespace Rows
def none {H : Type} : Left H := { results := [], args := [] }

/-- 'laws.FnStepsOf': WHATEVER THE INPUT: true; the input reads as it did. -/
def fnStepsOfSpec : ChangeSpec := { name := "fnStepsOf", fn := fun _ => fun
  | [d1, d2] => { results := [.lit (.bool true)], args := [d1, d2] }
  | _ => none }
def fnStepsOfRow : OpenClaim := { program := "ytcaegpjbdcopoaa", sum := "ff33253cb4c63bb43f878f1dc08d57785e3b94179c6cb700e7d6a08cffa5b3c5", func := "loop.example/segmentrooms/laws.FnStepsOf", spec := "fnStepsOf", inPlace := ["internal/abi.NoEscape"], unfollowed := true, recurses := true, apart := false }
def FnStepsOfSaid : Prop := fnStepsOfRow.holds Try.pinned (OpenSpec.ofChange fnStepsOfSpec)

/-- ITS FALSE NEIGHBOUR: 'it returns false'. Refute it at one input. -/
def fnStepsOfWrong : ChangeSpec := { name := "fnStepsOf", fn := fun _ => fun
  | [d1, d2] => { results := [.lit (.bool false)], args := [d1, d2] }
  | _ => none }
def FnStepsOfWrongFalsely : Prop := fnStepsOfRow.holds Try.pinned (OpenSpec.ofChange fnStepsOfWrong)

/-- 'laws.FnExactStepsOf': WHATEVER THE INPUT: true; the input reads as it did. -/
def fnExactStepsOfSpec : ChangeSpec := { name := "fnExactStepsOf", fn := fun _ => fun
  | [d1, d2] => { results := [.lit (.bool true)], args := [d1, d2] }
  | _ => none }
def fnExactStepsOfRow : OpenClaim := { program := "ytcaegpjbdcopoaa", sum := "ff33253cb4c63bb43f878f1dc08d57785e3b94179c6cb700e7d6a08cffa5b3c5", func := "loop.example/segmentrooms/laws.FnExactStepsOf", spec := "fnExactStepsOf", inPlace := ["internal/abi.NoEscape"], unfollowed := true, recurses := true, apart := false }
def FnExactStepsOfSaid : Prop := fnExactStepsOfRow.holds Try.pinned (OpenSpec.ofChange fnExactStepsOfSpec)

/-- ITS FALSE NEIGHBOUR: 'it returns false'. Refute it at one input. -/
def fnExactStepsOfWrong : ChangeSpec := { name := "fnExactStepsOf", fn := fun _ => fun
  | [d1, d2] => { results := [.lit (.bool false)], args := [d1, d2] }
  | _ => none }
def FnExactStepsOfWrongFalsely : Prop := fnExactStepsOfRow.holds Try.pinned (OpenSpec.ofChange fnExactStepsOfWrong)

/-- 'laws.FnExactLoadsIn': WHATEVER THE INPUT: true; the input reads as it did. -/
def fnExactLoadsInSpec : ChangeSpec := { name := "fnExactLoadsIn", fn := fun _ => fun
  | [d1, d2] => { results := [.lit (.bool true)], args := [d1, d2] }
  | _ => none }
def fnExactLoadsInRow : OpenClaim := { program := "ytcaegpjbdcopoaa", sum := "ff33253cb4c63bb43f878f1dc08d57785e3b94179c6cb700e7d6a08cffa5b3c5", func := "loop.example/segmentrooms/laws.FnExactLoadsIn", spec := "fnExactLoadsIn", inPlace := ["internal/abi.NoEscape"], unfollowed := true, recurses := true, apart := false }
def FnExactLoadsInSaid : Prop := fnExactLoadsInRow.holds Try.pinned (OpenSpec.ofChange fnExactLoadsInSpec)

/-- ITS FALSE NEIGHBOUR: 'it returns false'. Refute it at one input. -/
def fnExactLoadsInWrong : ChangeSpec := { name := "fnExactLoadsIn", fn := fun _ => fun
  | [d1, d2] => { results := [.lit (.bool false)], args := [d1, d2] }
  | _ => none }
def FnExactLoadsInWrongFalsely : Prop := fnExactLoadsInRow.holds Try.pinned (OpenSpec.ofChange fnExactLoadsInWrong)

/-- 'laws.FnExactLoadCounts': WHATEVER THE INPUT: true; the input reads as it did. -/
def fnExactLoadCountsSpec : ChangeSpec := { name := "fnExactLoadCounts", fn := fun _ => fun
  | [d1, d2] => { results := [.lit (.bool true)], args := [d1, d2] }
  | _ => none }
def fnExactLoadCountsRow : OpenClaim := { program := "ytcaegpjbdcopoaa", sum := "ff33253cb4c63bb43f878f1dc08d57785e3b94179c6cb700e7d6a08cffa5b3c5", func := "loop.example/segmentrooms/laws.FnExactLoadCounts", spec := "fnExactLoadCounts", inPlace := ["internal/abi.NoEscape", "internal/bytealg.CountString", "internal/bytealg.IndexByteString", "internal/bytealg.IndexString"], unfollowed := true, recurses := true, named := ["internal/bytealg.MaxLen"], apart := false }
def FnExactLoadCountsSaid : Prop := fnExactLoadCountsRow.holds Try.pinned (OpenSpec.ofChange fnExactLoadCountsSpec)

/-- ITS FALSE NEIGHBOUR: 'it returns false'. Refute it at one input. -/
def fnExactLoadCountsWrong : ChangeSpec := { name := "fnExactLoadCounts", fn := fun _ => fun
  | [d1, d2] => { results := [.lit (.bool false)], args := [d1, d2] }
  | _ => none }
def FnExactLoadCountsWrongFalsely : Prop := fnExactLoadCountsRow.holds Try.pinned (OpenSpec.ofChange fnExactLoadCountsWrong)

/-- 'laws.FnExactReturnLoads': WHATEVER THE INPUT: true; the input reads as it did. -/
def fnExactReturnLoadsSpec : ChangeSpec := { name := "fnExactReturnLoads", fn := fun _ => fun
  | [d1, d2] => { results := [.lit (.bool true)], args := [d1, d2] }
  | _ => none }
def fnExactReturnLoadsRow : OpenClaim := { program := "ytcaegpjbdcopoaa", sum := "ff33253cb4c63bb43f878f1dc08d57785e3b94179c6cb700e7d6a08cffa5b3c5", func := "loop.example/segmentrooms/laws.FnExactReturnLoads", spec := "fnExactReturnLoads", inPlace := ["internal/abi.NoEscape"], unfollowed := true, recurses := true, apart := false }
def FnExactReturnLoadsSaid : Prop := fnExactReturnLoadsRow.holds Try.pinned (OpenSpec.ofChange fnExactReturnLoadsSpec)

/-- ITS FALSE NEIGHBOUR: 'it returns false'. Refute it at one input. -/
def fnExactReturnLoadsWrong : ChangeSpec := { name := "fnExactReturnLoads", fn := fun _ => fun
  | [d1, d2] => { results := [.lit (.bool false)], args := [d1, d2] }
  | _ => none }
def FnExactReturnLoadsWrongFalsely : Prop := fnExactReturnLoadsRow.holds Try.pinned (OpenSpec.ofChange fnExactReturnLoadsWrong)

/-- 'laws.FnExactPeakIn': WHATEVER THE INPUT: true; the input reads as it did. -/
def fnExactPeakInSpec : ChangeSpec := { name := "fnExactPeakIn", fn := fun _ => fun
  | [d1, d2] => { results := [.lit (.bool true)], args := [d1, d2] }
  | _ => none }
def fnExactPeakInRow : OpenClaim := { program := "ytcaegpjbdcopoaa", sum := "ff33253cb4c63bb43f878f1dc08d57785e3b94179c6cb700e7d6a08cffa5b3c5", func := "loop.example/segmentrooms/laws.FnExactPeakIn", spec := "fnExactPeakIn", inPlace := ["internal/abi.NoEscape"], unfollowed := true, recurses := true, apart := false }
def FnExactPeakInSaid : Prop := fnExactPeakInRow.holds Try.pinned (OpenSpec.ofChange fnExactPeakInSpec)

/-- ITS FALSE NEIGHBOUR: 'it returns false'. Refute it at one input. -/
def fnExactPeakInWrong : ChangeSpec := { name := "fnExactPeakIn", fn := fun _ => fun
  | [d1, d2] => { results := [.lit (.bool false)], args := [d1, d2] }
  | _ => none }
def FnExactPeakInWrongFalsely : Prop := fnExactPeakInRow.holds Try.pinned (OpenSpec.ofChange fnExactPeakInWrong)

/-- 'laws.FnExactBusiestOf': WHATEVER THE INPUT: true; the input reads as it did. -/
def fnExactBusiestOfSpec : ChangeSpec := { name := "fnExactBusiestOf", fn := fun _ => fun
  | [d1, d2] => { results := [.lit (.bool true)], args := [d1, d2] }
  | _ => none }
def fnExactBusiestOfRow : OpenClaim := { program := "ytcaegpjbdcopoaa", sum := "ff33253cb4c63bb43f878f1dc08d57785e3b94179c6cb700e7d6a08cffa5b3c5", func := "loop.example/segmentrooms/laws.FnExactBusiestOf", spec := "fnExactBusiestOf", inPlace := ["internal/abi.NoEscape", "internal/bytealg.CountString", "internal/bytealg.IndexByteString", "internal/bytealg.IndexString"], unfollowed := true, recurses := true, named := ["internal/bytealg.MaxLen"], apart := false }
def FnExactBusiestOfSaid : Prop := fnExactBusiestOfRow.holds Try.pinned (OpenSpec.ofChange fnExactBusiestOfSpec)

/-- ITS FALSE NEIGHBOUR: 'it returns false'. Refute it at one input. -/
def fnExactBusiestOfWrong : ChangeSpec := { name := "fnExactBusiestOf", fn := fun _ => fun
  | [d1, d2] => { results := [.lit (.bool false)], args := [d1, d2] }
  | _ => none }
def FnExactBusiestOfWrongFalsely : Prop := fnExactBusiestOfRow.holds Try.pinned (OpenSpec.ofChange fnExactBusiestOfWrong)

/- THE SECOND FORM. 'bulk': how many values and letters a reading holds, each counted each time it is reached (what is shared counts as often as it is met; a slice's spare places count too). A statement '..UptoSaid' is the law's where the arguments, and the package variables that the reading takes, are together of bulk at most 1048576: NARROWER than '..Said'. Prove '..Said' where nothing that the law and all that it calls make is longer than what came in: it says more and counts as full. Else prove '..UptoSaid'. A law counts once. -/
mutual
def uptoBulk {H : Type} : DataW H → Nat
  | .lit (.string bytes) => bytes.length + 1
  | .lit _ => 1
  | .nil => 1
  | .ptr d => uptoBulk d + 1
  | .slice elems spare => uptoBulkAll elems + uptoBulkAll spare + 1
  | .agg parts => uptoBulkAll parts + 1
  | .iface _ d => uptoBulk d + 1
  | .map entries => uptoBulkEntries entries + 1
  | .held _ => 1
def uptoBulkAll {H : Type} : List (DataW H) → Nat
  | [] => 0
  | d :: r => uptoBulk d + uptoBulkAll r
def uptoBulkEntries {H : Type} : List (Lit × DataW H) → Nat
  | [] => 0
  | x :: r => uptoBulkEntry x + uptoBulkEntries r
def uptoBulkEntry {H : Type} : Lit × DataW H → Nat
  | (.string bytes, d) => bytes.length + uptoBulk d + 1
  | (_, d) => uptoBulk d + 1
 end
def uptoSmall : (H : Type) → List (DataW H) → Bool := fun _ ds => decide (uptoBulkAll ds ≤ 1048576)
def OpenSpec.upto (s : _root_.Go.ChangeSpec) : _root_.Go.OpenSpec := { _root_.Go.OpenSpec.ofChange s with cond := some uptoSmall }

/-- 'laws.FnStepsOf', WHERE WHAT IT READS IS OF BULK AT MOST 1048576: true; the input reads as it did. -/
def fnStepsOfUptoRow : OpenClaim := { program := "ytcaegpjbdcopoaa", sum := "ff33253cb4c63bb43f878f1dc08d57785e3b94179c6cb700e7d6a08cffa5b3c5", func := "loop.example/segmentrooms/laws.FnStepsOf", spec := "fnStepsOf", inPlace := ["internal/abi.NoEscape"], unfollowed := true, recurses := true, apart := false, narrowed := true }
def FnStepsOfUptoSaid : Prop := fnStepsOfUptoRow.holds Try.pinned (OpenSpec.upto fnStepsOfSpec)

/-- 'laws.FnExactStepsOf', WHERE WHAT IT READS IS OF BULK AT MOST 1048576: true; the input reads as it did. -/
def fnExactStepsOfUptoRow : OpenClaim := { program := "ytcaegpjbdcopoaa", sum := "ff33253cb4c63bb43f878f1dc08d57785e3b94179c6cb700e7d6a08cffa5b3c5", func := "loop.example/segmentrooms/laws.FnExactStepsOf", spec := "fnExactStepsOf", inPlace := ["internal/abi.NoEscape"], unfollowed := true, recurses := true, apart := false, narrowed := true }
def FnExactStepsOfUptoSaid : Prop := fnExactStepsOfUptoRow.holds Try.pinned (OpenSpec.upto fnExactStepsOfSpec)

/-- 'laws.FnExactLoadsIn', WHERE WHAT IT READS IS OF BULK AT MOST 1048576: true; the input reads as it did. -/
def fnExactLoadsInUptoRow : OpenClaim := { program := "ytcaegpjbdcopoaa", sum := "ff33253cb4c63bb43f878f1dc08d57785e3b94179c6cb700e7d6a08cffa5b3c5", func := "loop.example/segmentrooms/laws.FnExactLoadsIn", spec := "fnExactLoadsIn", inPlace := ["internal/abi.NoEscape"], unfollowed := true, recurses := true, apart := false, narrowed := true }
def FnExactLoadsInUptoSaid : Prop := fnExactLoadsInUptoRow.holds Try.pinned (OpenSpec.upto fnExactLoadsInSpec)

/-- 'laws.FnExactLoadCounts', WHERE WHAT IT READS IS OF BULK AT MOST 1048576: true; the input reads as it did. -/
def fnExactLoadCountsUptoRow : OpenClaim := { program := "ytcaegpjbdcopoaa", sum := "ff33253cb4c63bb43f878f1dc08d57785e3b94179c6cb700e7d6a08cffa5b3c5", func := "loop.example/segmentrooms/laws.FnExactLoadCounts", spec := "fnExactLoadCounts", inPlace := ["internal/abi.NoEscape", "internal/bytealg.CountString", "internal/bytealg.IndexByteString", "internal/bytealg.IndexString"], unfollowed := true, recurses := true, named := ["internal/bytealg.MaxLen"], apart := false, narrowed := true }
def FnExactLoadCountsUptoSaid : Prop := fnExactLoadCountsUptoRow.holds Try.pinned (OpenSpec.upto fnExactLoadCountsSpec)

/-- 'laws.FnExactReturnLoads', WHERE WHAT IT READS IS OF BULK AT MOST 1048576: true; the input reads as it did. -/
def fnExactReturnLoadsUptoRow : OpenClaim := { program := "ytcaegpjbdcopoaa", sum := "ff33253cb4c63bb43f878f1dc08d57785e3b94179c6cb700e7d6a08cffa5b3c5", func := "loop.example/segmentrooms/laws.FnExactReturnLoads", spec := "fnExactReturnLoads", inPlace := ["internal/abi.NoEscape"], unfollowed := true, recurses := true, apart := false, narrowed := true }
def FnExactReturnLoadsUptoSaid : Prop := fnExactReturnLoadsUptoRow.holds Try.pinned (OpenSpec.upto fnExactReturnLoadsSpec)

/-- 'laws.FnExactPeakIn', WHERE WHAT IT READS IS OF BULK AT MOST 1048576: true; the input reads as it did. -/
def fnExactPeakInUptoRow : OpenClaim := { program := "ytcaegpjbdcopoaa", sum := "ff33253cb4c63bb43f878f1dc08d57785e3b94179c6cb700e7d6a08cffa5b3c5", func := "loop.example/segmentrooms/laws.FnExactPeakIn", spec := "fnExactPeakIn", inPlace := ["internal/abi.NoEscape"], unfollowed := true, recurses := true, apart := false, narrowed := true }
def FnExactPeakInUptoSaid : Prop := fnExactPeakInUptoRow.holds Try.pinned (OpenSpec.upto fnExactPeakInSpec)

/-- 'laws.FnExactBusiestOf', WHERE WHAT IT READS IS OF BULK AT MOST 1048576: true; the input reads as it did. -/
def fnExactBusiestOfUptoRow : OpenClaim := { program := "ytcaegpjbdcopoaa", sum := "ff33253cb4c63bb43f878f1dc08d57785e3b94179c6cb700e7d6a08cffa5b3c5", func := "loop.example/segmentrooms/laws.FnExactBusiestOf", spec := "fnExactBusiestOf", inPlace := ["internal/abi.NoEscape", "internal/bytealg.CountString", "internal/bytealg.IndexByteString", "internal/bytealg.IndexString"], unfollowed := true, recurses := true, named := ["internal/bytealg.MaxLen"], apart := false, narrowed := true }
def FnExactBusiestOfUptoSaid : Prop := fnExactBusiestOfUptoRow.holds Try.pinned (OpenSpec.upto fnExactBusiestOfSpec)

end Rows
end Go.Proofs.Ytcaegpjbdcopoaa
