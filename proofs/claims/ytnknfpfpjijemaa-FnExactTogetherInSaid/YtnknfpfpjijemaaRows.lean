/-
  No cell of these rows narrows 'for every input' (looked for: loops, veiled, ifaces, maps, wideKeys, modest, calm, conditions, laid).
  DERIVED. THE GIVEN ROWS OF THIS SEAT. 8 by the template 'for every input the law returns true; each argument reads behind the call as it read before'; 0 by the template 'total and deterministic' (their statements: YtnknfpfpjijemaaTotals.lean).
  GIVEN WITH THE SEED: the statements are not yours to turn. If you find one false, say at which input.
  Laid BY PROGRAM, IN A SANDBOX (cutbox-rows.mjs): the forced cells as the released guide's own fill.sh prints them over the translation ee3aa15f174b6053… (all of the seat's roots in one cut). By AI agents, Wed Nov 11 2026. No macro, syntax, notation, axiom, sorry.
-/
import Derived.Test.YtnknfpfpjijemaaChecked
import GoSem.Claim
import GoSem.ClaimJoined
import GoSem.ClaimMapViews
import Derived.JoinedTies
import Derived.KernelRfl
namespace Go.Proofs.Ytnknfpfpjijemaa
/- THE CELL 'sum', in the pinned program and in every row, IS THE sha256 OF THE DUMP (.gsa) THAT YtnknfpfpjijemaaProg.lean LOADS. Nothing in Lean hashes anything: it is a label: what it is worth is what the hold of that sum in a sandbox is worth. -/
noncomputable def Try.pinned : Pinned := { name := "ytnknfpfpjijemaa", sum := "ee3aa15f174b605371b4e905c8c6c315741090f2cc765e90eab761ba243f81dd", checked := Try.checked }
namespace Rows
def none {H : Type} : Left H := { results := [], args := [] }

/-- 'laws.FnReached': WHATEVER THE INPUT: true; the input reads as it did. -/
def fnReachedSpec : ChangeSpec := { name := "fnReached", fn := fun _ => fun
  | [d] => { results := [.lit (.bool true)], args := [d] }
  | _ => none }
def fnReachedRow : OpenClaim := { program := "ytnknfpfpjijemaa", sum := "ee3aa15f174b605371b4e905c8c6c315741090f2cc765e90eab761ba243f81dd", func := "loop.example/segmentrooms/laws.FnReached", spec := "fnReached", inPlace := ["internal/abi.NoEscape"], unfollowed := true, recurses := true, apart := false }
def FnReachedSaid : Prop := fnReachedRow.holds Try.pinned (OpenSpec.ofChange fnReachedSpec)

/-- ITS FALSE NEIGHBOUR: 'it returns false'. Refute it at one input. -/
def fnReachedWrong : ChangeSpec := { name := "fnReached", fn := fun _ => fun
  | [d] => { results := [.lit (.bool false)], args := [d] }
  | _ => none }
def FnReachedWrongFalsely : Prop := fnReachedRow.holds Try.pinned (OpenSpec.ofChange fnReachedWrong)

/-- 'laws.FnExactGraphValid': WHATEVER THE INPUT: true; the input reads as it did. -/
def fnExactGraphValidSpec : ChangeSpec := { name := "fnExactGraphValid", fn := fun _ => fun
  | [d1, d2] => { results := [.lit (.bool true)], args := [d1, d2] }
  | _ => none }
def fnExactGraphValidRow : OpenClaim := { program := "ytnknfpfpjijemaa", sum := "ee3aa15f174b605371b4e905c8c6c315741090f2cc765e90eab761ba243f81dd", func := "loop.example/segmentrooms/laws.FnExactGraphValid", spec := "fnExactGraphValid", apart := false }
def FnExactGraphValidSaid : Prop := fnExactGraphValidRow.holds Try.pinned (OpenSpec.ofChange fnExactGraphValidSpec)

/-- ITS FALSE NEIGHBOUR: 'it returns false'. Refute it at one input. -/
def fnExactGraphValidWrong : ChangeSpec := { name := "fnExactGraphValid", fn := fun _ => fun
  | [d1, d2] => { results := [.lit (.bool false)], args := [d1, d2] }
  | _ => none }
def FnExactGraphValidWrongFalsely : Prop := fnExactGraphValidRow.holds Try.pinned (OpenSpec.ofChange fnExactGraphValidWrong)

/-- 'laws.FnExactReachedFrom': WHATEVER THE INPUT: true; the input reads as it did. -/
def fnExactReachedFromSpec : ChangeSpec := { name := "fnExactReachedFrom", fn := fun _ => fun
  | [d1, d2, d3] => { results := [.lit (.bool true)], args := [d1, d2, d3] }
  | _ => none }
def fnExactReachedFromRow : OpenClaim := { program := "ytnknfpfpjijemaa", sum := "ee3aa15f174b605371b4e905c8c6c315741090f2cc765e90eab761ba243f81dd", func := "loop.example/segmentrooms/laws.FnExactReachedFrom", spec := "fnExactReachedFrom", inPlace := ["internal/abi.NoEscape"], unfollowed := true, recurses := true, apart := false }
def FnExactReachedFromSaid : Prop := fnExactReachedFromRow.holds Try.pinned (OpenSpec.ofChange fnExactReachedFromSpec)

/-- ITS FALSE NEIGHBOUR: 'it returns false'. Refute it at one input. -/
def fnExactReachedFromWrong : ChangeSpec := { name := "fnExactReachedFrom", fn := fun _ => fun
  | [d1, d2, d3] => { results := [.lit (.bool false)], args := [d1, d2, d3] }
  | _ => none }
def FnExactReachedFromWrongFalsely : Prop := fnExactReachedFromRow.holds Try.pinned (OpenSpec.ofChange fnExactReachedFromWrong)

/-- 'laws.FnExactTogetherIn': WHATEVER THE INPUT: true; the input reads as it did. -/
def fnExactTogetherInSpec : ChangeSpec := { name := "fnExactTogetherIn", fn := fun _ => fun
  | [d1, d2] => { results := [.lit (.bool true)], args := [d1, d2] }
  | _ => none }
def fnExactTogetherInRow : OpenClaim := { program := "ytnknfpfpjijemaa", sum := "ee3aa15f174b605371b4e905c8c6c315741090f2cc765e90eab761ba243f81dd", func := "loop.example/segmentrooms/laws.FnExactTogetherIn", spec := "fnExactTogetherIn", unfollowed := true, recurses := true, apart := false }
def FnExactTogetherInSaid : Prop := fnExactTogetherInRow.holds Try.pinned (OpenSpec.ofChange fnExactTogetherInSpec)

/-- ITS FALSE NEIGHBOUR: 'it returns false'. Refute it at one input. -/
def fnExactTogetherInWrong : ChangeSpec := { name := "fnExactTogetherIn", fn := fun _ => fun
  | [d1, d2] => { results := [.lit (.bool false)], args := [d1, d2] }
  | _ => none }
def FnExactTogetherInWrongFalsely : Prop := fnExactTogetherInRow.holds Try.pinned (OpenSpec.ofChange fnExactTogetherInWrong)

/-- 'laws.FnExactGraphSafe': WHATEVER THE INPUT: true; the input reads as it did. -/
def fnExactGraphSafeSpec : ChangeSpec := { name := "fnExactGraphSafe", fn := fun _ => fun
  | [d1, d2] => { results := [.lit (.bool true)], args := [d1, d2] }
  | _ => none }
def fnExactGraphSafeRow : OpenClaim := { program := "ytnknfpfpjijemaa", sum := "ee3aa15f174b605371b4e905c8c6c315741090f2cc765e90eab761ba243f81dd", func := "loop.example/segmentrooms/laws.FnExactGraphSafe", spec := "fnExactGraphSafe", unfollowed := true, recurses := true, apart := false }
def FnExactGraphSafeSaid : Prop := fnExactGraphSafeRow.holds Try.pinned (OpenSpec.ofChange fnExactGraphSafeSpec)

/-- ITS FALSE NEIGHBOUR: 'it returns false'. Refute it at one input. -/
def fnExactGraphSafeWrong : ChangeSpec := { name := "fnExactGraphSafe", fn := fun _ => fun
  | [d1, d2] => { results := [.lit (.bool false)], args := [d1, d2] }
  | _ => none }
def FnExactGraphSafeWrongFalsely : Prop := fnExactGraphSafeRow.holds Try.pinned (OpenSpec.ofChange fnExactGraphSafeWrong)

/-- 'laws.FnExactClashesOf': WHATEVER THE INPUT: true; the input reads as it did. -/
def fnExactClashesOfSpec : ChangeSpec := { name := "fnExactClashesOf", fn := fun _ => fun
  | [d1, d2] => { results := [.lit (.bool true)], args := [d1, d2] }
  | _ => none }
def fnExactClashesOfRow : OpenClaim := { program := "ytnknfpfpjijemaa", sum := "ee3aa15f174b605371b4e905c8c6c315741090f2cc765e90eab761ba243f81dd", func := "loop.example/segmentrooms/laws.FnExactClashesOf", spec := "fnExactClashesOf", unfollowed := true, recurses := true, apart := false }
def FnExactClashesOfSaid : Prop := fnExactClashesOfRow.holds Try.pinned (OpenSpec.ofChange fnExactClashesOfSpec)

/-- ITS FALSE NEIGHBOUR: 'it returns false'. Refute it at one input. -/
def fnExactClashesOfWrong : ChangeSpec := { name := "fnExactClashesOf", fn := fun _ => fun
  | [d1, d2] => { results := [.lit (.bool false)], args := [d1, d2] }
  | _ => none }
def FnExactClashesOfWrongFalsely : Prop := fnExactClashesOfRow.holds Try.pinned (OpenSpec.ofChange fnExactClashesOfWrong)

/-- 'laws.FnExactKeepsTo': WHATEVER THE INPUT: true; the input reads as it did. -/
def fnExactKeepsToSpec : ChangeSpec := { name := "fnExactKeepsTo", fn := fun _ => fun
  | [d1, d2, d3] => { results := [.lit (.bool true)], args := [d1, d2, d3] }
  | _ => none }
def fnExactKeepsToRow : OpenClaim := { program := "ytnknfpfpjijemaa", sum := "ee3aa15f174b605371b4e905c8c6c315741090f2cc765e90eab761ba243f81dd", func := "loop.example/segmentrooms/laws.FnExactKeepsTo", spec := "fnExactKeepsTo", unfollowed := true, recurses := true, apart := false }
def FnExactKeepsToSaid : Prop := fnExactKeepsToRow.holds Try.pinned (OpenSpec.ofChange fnExactKeepsToSpec)

/-- ITS FALSE NEIGHBOUR: 'it returns false'. Refute it at one input. -/
def fnExactKeepsToWrong : ChangeSpec := { name := "fnExactKeepsTo", fn := fun _ => fun
  | [d1, d2, d3] => { results := [.lit (.bool false)], args := [d1, d2, d3] }
  | _ => none }
def FnExactKeepsToWrongFalsely : Prop := fnExactKeepsToRow.holds Try.pinned (OpenSpec.ofChange fnExactKeepsToWrong)

/-- 'laws.FnExactHasRings': WHATEVER THE INPUT: true; the input reads as it did. -/
def fnExactHasRingsSpec : ChangeSpec := { name := "fnExactHasRings", fn := fun _ => fun
  | [d1, d2] => { results := [.lit (.bool true)], args := [d1, d2] }
  | _ => none }
def fnExactHasRingsRow : OpenClaim := { program := "ytnknfpfpjijemaa", sum := "ee3aa15f174b605371b4e905c8c6c315741090f2cc765e90eab761ba243f81dd", func := "loop.example/segmentrooms/laws.FnExactHasRings", spec := "fnExactHasRings", unfollowed := true, recurses := true, apart := false }
def FnExactHasRingsSaid : Prop := fnExactHasRingsRow.holds Try.pinned (OpenSpec.ofChange fnExactHasRingsSpec)

/-- ITS FALSE NEIGHBOUR: 'it returns false'. Refute it at one input. -/
def fnExactHasRingsWrong : ChangeSpec := { name := "fnExactHasRings", fn := fun _ => fun
  | [d1, d2] => { results := [.lit (.bool false)], args := [d1, d2] }
  | _ => none }
def FnExactHasRingsWrongFalsely : Prop := fnExactHasRingsRow.holds Try.pinned (OpenSpec.ofChange fnExactHasRingsWrong)

/- THE SECOND FORM. 'bulk': how many values and letters a reading holds, each counted each time it is reached (what is shared counts as often as it is met; a slice's spare places count too). A statement '..UptoSaid' is the law's where the arguments, and the package variables that the reading takes, are together of bulk at most 1048576: NARROWER than '..Said'. Prove '..Said' where nothing that the law and all that it calls make is longer than what came in: it says more and counts as full. Else prove '..UptoSaid'. A law counts once. -/
mutual
def uptoBulk {H : Type} : DataW H → Nat
  | .lit (.string bytes) => bytes.length + 1
  | .lit _ => 1
  | .nil => 1
  | .ptr d => uptoBulk d + 1
  | .slice elems spare => uptoBulkAll elems + uptoBulkAll spare + 1
  | .agg parts => uptoBulkAll parts + 1
  | .iface _ d => uptoBulk d + 1
  | .map entries => uptoBulkEntries entries + 1
  | .held _ => 1
def uptoBulkAll {H : Type} : List (DataW H) → Nat
  | [] => 0
  | d :: r => uptoBulk d + uptoBulkAll r
def uptoBulkEntries {H : Type} : List (Lit × DataW H) → Nat
  | [] => 0
  | x :: r => uptoBulkEntry x + uptoBulkEntries r
def uptoBulkEntry {H : Type} : Lit × DataW H → Nat
  | (.string bytes, d) => bytes.length + uptoBulk d + 1
  | (_, d) => uptoBulk d + 1
 end
def uptoSmall : (H : Type) → List (DataW H) → Bool := fun _ ds => decide (uptoBulkAll ds ≤ 1048576)
def OpenSpec.upto (s : _root_.Go.ChangeSpec) : _root_.Go.OpenSpec := { _root_.Go.OpenSpec.ofChange s with cond := some uptoSmall }

/-- 'laws.FnReached', WHERE WHAT IT READS IS OF BULK AT MOST 1048576: true; the input reads as it did. -/
def fnReachedUptoRow : OpenClaim := { program := "ytnknfpfpjijemaa", sum := "ee3aa15f174b605371b4e905c8c6c315741090f2cc765e90eab761ba243f81dd", func := "loop.example/segmentrooms/laws.FnReached", spec := "fnReached", inPlace := ["internal/abi.NoEscape"], unfollowed := true, recurses := true, apart := false, narrowed := true }
def FnReachedUptoSaid : Prop := fnReachedUptoRow.holds Try.pinned (OpenSpec.upto fnReachedSpec)

/-- 'laws.FnExactGraphValid', WHERE WHAT IT READS IS OF BULK AT MOST 1048576: true; the input reads as it did. -/
def fnExactGraphValidUptoRow : OpenClaim := { program := "ytnknfpfpjijemaa", sum := "ee3aa15f174b605371b4e905c8c6c315741090f2cc765e90eab761ba243f81dd", func := "loop.example/segmentrooms/laws.FnExactGraphValid", spec := "fnExactGraphValid", apart := false, narrowed := true }
def FnExactGraphValidUptoSaid : Prop := fnExactGraphValidUptoRow.holds Try.pinned (OpenSpec.upto fnExactGraphValidSpec)

/-- 'laws.FnExactReachedFrom', WHERE WHAT IT READS IS OF BULK AT MOST 1048576: true; the input reads as it did. -/
def fnExactReachedFromUptoRow : OpenClaim := { program := "ytnknfpfpjijemaa", sum := "ee3aa15f174b605371b4e905c8c6c315741090f2cc765e90eab761ba243f81dd", func := "loop.example/segmentrooms/laws.FnExactReachedFrom", spec := "fnExactReachedFrom", inPlace := ["internal/abi.NoEscape"], unfollowed := true, recurses := true, apart := false, narrowed := true }
def FnExactReachedFromUptoSaid : Prop := fnExactReachedFromUptoRow.holds Try.pinned (OpenSpec.upto fnExactReachedFromSpec)

/-- 'laws.FnExactTogetherIn', WHERE WHAT IT READS IS OF BULK AT MOST 1048576: true; the input reads as it did. -/
def fnExactTogetherInUptoRow : OpenClaim := { program := "ytnknfpfpjijemaa", sum := "ee3aa15f174b605371b4e905c8c6c315741090f2cc765e90eab761ba243f81dd", func := "loop.example/segmentrooms/laws.FnExactTogetherIn", spec := "fnExactTogetherIn", unfollowed := true, recurses := true, apart := false, narrowed := true }
def FnExactTogetherInUptoSaid : Prop := fnExactTogetherInUptoRow.holds Try.pinned (OpenSpec.upto fnExactTogetherInSpec)

/-- 'laws.FnExactGraphSafe', WHERE WHAT IT READS IS OF BULK AT MOST 1048576: true; the input reads as it did. -/
def fnExactGraphSafeUptoRow : OpenClaim := { program := "ytnknfpfpjijemaa", sum := "ee3aa15f174b605371b4e905c8c6c315741090f2cc765e90eab761ba243f81dd", func := "loop.example/segmentrooms/laws.FnExactGraphSafe", spec := "fnExactGraphSafe", unfollowed := true, recurses := true, apart := false, narrowed := true }
def FnExactGraphSafeUptoSaid : Prop := fnExactGraphSafeUptoRow.holds Try.pinned (OpenSpec.upto fnExactGraphSafeSpec)

/-- 'laws.FnExactClashesOf', WHERE WHAT IT READS IS OF BULK AT MOST 1048576: true; the input reads as it did. -/
def fnExactClashesOfUptoRow : OpenClaim := { program := "ytnknfpfpjijemaa", sum := "ee3aa15f174b605371b4e905c8c6c315741090f2cc765e90eab761ba243f81dd", func := "loop.example/segmentrooms/laws.FnExactClashesOf", spec := "fnExactClashesOf", unfollowed := true, recurses := true, apart := false, narrowed := true }
def FnExactClashesOfUptoSaid : Prop := fnExactClashesOfUptoRow.holds Try.pinned (OpenSpec.upto fnExactClashesOfSpec)

/-- 'laws.FnExactKeepsTo', WHERE WHAT IT READS IS OF BULK AT MOST 1048576: true; the input reads as it did. -/
def fnExactKeepsToUptoRow : OpenClaim := { program := "ytnknfpfpjijemaa", sum := "ee3aa15f174b605371b4e905c8c6c315741090f2cc765e90eab761ba243f81dd", func := "loop.example/segmentrooms/laws.FnExactKeepsTo", spec := "fnExactKeepsTo", unfollowed := true, recurses := true, apart := false, narrowed := true }
def FnExactKeepsToUptoSaid : Prop := fnExactKeepsToUptoRow.holds Try.pinned (OpenSpec.upto fnExactKeepsToSpec)

/-- 'laws.FnExactHasRings', WHERE WHAT IT READS IS OF BULK AT MOST 1048576: true; the input reads as it did. -/
def fnExactHasRingsUptoRow : OpenClaim := { program := "ytnknfpfpjijemaa", sum := "ee3aa15f174b605371b4e905c8c6c315741090f2cc765e90eab761ba243f81dd", func := "loop.example/segmentrooms/laws.FnExactHasRings", spec := "fnExactHasRings", unfollowed := true, recurses := true, apart := false, narrowed := true }
def FnExactHasRingsUptoSaid : Prop := fnExactHasRingsUptoRow.holds Try.pinned (OpenSpec.upto fnExactHasRingsSpec)

end Rows
end Go.Proofs.Ytnknfpfpjijemaa
