/-
  No cell of these rows narrows 'for every input' (looked for: loops, veiled, ifaces, maps, wideKeys, modest, calm, conditions, laid).
  DERIVED. THE GIVEN ROWS OF THIS SEAT. 7 by the template 'for every input the law returns true; each argument reads behind the call as it read before'; 0 by the template 'total and deterministic' (their statements: YtbmfbnlmdjnddaaTotals.lean).
  GIVEN WITH THE SEED: the statements are not yours to turn. If you find one false, say at which input.
  Laid BY PROGRAM, IN A SANDBOX (cutbox-rows.mjs): the forced cells as the released guide's own fill.sh prints them over the translation 827f07b00dd52d56… (all of the seat's roots in one cut). By AI agents, Wed Nov 11 2026. No macro, syntax, notation, axiom, sorry.
-/
import Derived.Test.YtbmfbnlmdjnddaaChecked
import GoSem.Claim
import GoSem.ClaimJoined
import GoSem.ClaimMapViews
import Derived.JoinedTies
import Derived.KernelRfl
namespace Go.Proofs.Ytbmfbnlmdjnddaa
/- THE CELL 'sum', in the pinned program and in every row, IS THE sha256 OF THE DUMP (.gsa) THAT YtbmfbnlmdjnddaaProg.lean LOADS. Nothing in Lean hashes anything: it is a label: what it is worth is what the hold of that sum in a sandbox is worth. -/
noncomputable def Try.pinned : Pinned := { name := "ytbmfbnlmdjnddaa", sum := "827f07b00dd52d566cb96ea7b95bd4064f18375feac753b0d9514492b05edd82", checked := Try.checked }
namespace Rows
def none {H : Type} : Left H := { results := [], args := [] }

/-- 'laws.FnReached': WHATEVER THE INPUT: true; the input reads as it did. -/
def fnReachedSpec : ChangeSpec := { name := "fnReached", fn := fun _ => fun
  | [d] => { results := [.lit (.bool true)], args := [d] }
  | _ => none }
def fnReachedRow : OpenClaim := { program := "ytbmfbnlmdjnddaa", sum := "827f07b00dd52d566cb96ea7b95bd4064f18375feac753b0d9514492b05edd82", func := "loop.example/segmentrooms/laws.FnReached", spec := "fnReached", inPlace := ["internal/abi.NoEscape"], unfollowed := true, recurses := true, apart := false }
def FnReachedSaid : Prop := fnReachedRow.holds Try.pinned (OpenSpec.ofChange fnReachedSpec)

/-- ITS FALSE NEIGHBOUR: 'it returns false'. Refute it at one input. -/
def fnReachedWrong : ChangeSpec := { name := "fnReached", fn := fun _ => fun
  | [d] => { results := [.lit (.bool false)], args := [d] }
  | _ => none }
def FnReachedWrongFalsely : Prop := fnReachedRow.holds Try.pinned (OpenSpec.ofChange fnReachedWrong)

/-- 'laws.FnShapes': WHATEVER THE INPUT: true; the input reads as it did. -/
def fnShapesSpec : ChangeSpec := { name := "fnShapes", fn := fun _ => fun
  | [d1, d2] => { results := [.lit (.bool true)], args := [d1, d2] }
  | _ => none }
def fnShapesRow : OpenClaim := { program := "ytbmfbnlmdjnddaa", sum := "827f07b00dd52d566cb96ea7b95bd4064f18375feac753b0d9514492b05edd82", func := "loop.example/segmentrooms/laws.FnShapes", spec := "fnShapes", unfollowed := true, recurses := true, apart := false }
def FnShapesSaid : Prop := fnShapesRow.holds Try.pinned (OpenSpec.ofChange fnShapesSpec)

/-- ITS FALSE NEIGHBOUR: 'it returns false'. Refute it at one input. -/
def fnShapesWrong : ChangeSpec := { name := "fnShapes", fn := fun _ => fun
  | [d1, d2] => { results := [.lit (.bool false)], args := [d1, d2] }
  | _ => none }
def FnShapesWrongFalsely : Prop := fnShapesRow.holds Try.pinned (OpenSpec.ofChange fnShapesWrong)

/-- 'laws.FnExactLeastRoom': WHATEVER THE INPUT: true; the input reads as it did. -/
def fnExactLeastRoomSpec : ChangeSpec := { name := "fnExactLeastRoom", fn := fun _ => fun
  | [d1, d2] => { results := [.lit (.bool true)], args := [d1, d2] }
  | _ => none }
def fnExactLeastRoomRow : OpenClaim := { program := "ytbmfbnlmdjnddaa", sum := "827f07b00dd52d566cb96ea7b95bd4064f18375feac753b0d9514492b05edd82", func := "loop.example/segmentrooms/laws.FnExactLeastRoom", spec := "fnExactLeastRoom", unfollowed := true, recurses := true, apart := false }
def FnExactLeastRoomSaid : Prop := fnExactLeastRoomRow.holds Try.pinned (OpenSpec.ofChange fnExactLeastRoomSpec)

/-- ITS FALSE NEIGHBOUR: 'it returns false'. Refute it at one input. -/
def fnExactLeastRoomWrong : ChangeSpec := { name := "fnExactLeastRoom", fn := fun _ => fun
  | [d1, d2] => { results := [.lit (.bool false)], args := [d1, d2] }
  | _ => none }
def FnExactLeastRoomWrongFalsely : Prop := fnExactLeastRoomRow.holds Try.pinned (OpenSpec.ofChange fnExactLeastRoomWrong)

/-- 'laws.FnExactFlatTree': WHATEVER THE INPUT: true; the input reads as it did. -/
def fnExactFlatTreeSpec : ChangeSpec := { name := "fnExactFlatTree", fn := fun _ => fun
  | [d] => { results := [.lit (.bool true)], args := [d] }
  | _ => none }
def fnExactFlatTreeRow : OpenClaim := { program := "ytbmfbnlmdjnddaa", sum := "827f07b00dd52d566cb96ea7b95bd4064f18375feac753b0d9514492b05edd82", func := "loop.example/segmentrooms/laws.FnExactFlatTree", spec := "fnExactFlatTree", unfollowed := true, recurses := true, apart := false }
def FnExactFlatTreeSaid : Prop := fnExactFlatTreeRow.holds Try.pinned (OpenSpec.ofChange fnExactFlatTreeSpec)

/-- ITS FALSE NEIGHBOUR: 'it returns false'. Refute it at one input. -/
def fnExactFlatTreeWrong : ChangeSpec := { name := "fnExactFlatTree", fn := fun _ => fun
  | [d] => { results := [.lit (.bool false)], args := [d] }
  | _ => none }
def FnExactFlatTreeWrongFalsely : Prop := fnExactFlatTreeRow.holds Try.pinned (OpenSpec.ofChange fnExactFlatTreeWrong)

/-- 'laws.FnExactChainTree': WHATEVER THE INPUT: true; the input reads as it did. -/
def fnExactChainTreeSpec : ChangeSpec := { name := "fnExactChainTree", fn := fun _ => fun
  | [d] => { results := [.lit (.bool true)], args := [d] }
  | _ => none }
def fnExactChainTreeRow : OpenClaim := { program := "ytbmfbnlmdjnddaa", sum := "827f07b00dd52d566cb96ea7b95bd4064f18375feac753b0d9514492b05edd82", func := "loop.example/segmentrooms/laws.FnExactChainTree", spec := "fnExactChainTree", unfollowed := true, recurses := true, apart := false }
def FnExactChainTreeSaid : Prop := fnExactChainTreeRow.holds Try.pinned (OpenSpec.ofChange fnExactChainTreeSpec)

/-- ITS FALSE NEIGHBOUR: 'it returns false'. Refute it at one input. -/
def fnExactChainTreeWrong : ChangeSpec := { name := "fnExactChainTree", fn := fun _ => fun
  | [d] => { results := [.lit (.bool false)], args := [d] }
  | _ => none }
def FnExactChainTreeWrongFalsely : Prop := fnExactChainTreeRow.holds Try.pinned (OpenSpec.ofChange fnExactChainTreeWrong)

/-- 'laws.FnExactHeaviestChain': WHATEVER THE INPUT: true; the input reads as it did. -/
def fnExactHeaviestChainSpec : ChangeSpec := { name := "fnExactHeaviestChain", fn := fun _ => fun
  | [d1, d2] => { results := [.lit (.bool true)], args := [d1, d2] }
  | _ => none }
def fnExactHeaviestChainRow : OpenClaim := { program := "ytbmfbnlmdjnddaa", sum := "827f07b00dd52d566cb96ea7b95bd4064f18375feac753b0d9514492b05edd82", func := "loop.example/segmentrooms/laws.FnExactHeaviestChain", spec := "fnExactHeaviestChain", inPlace := ["internal/abi.NoEscape"], unfollowed := true, recurses := true, apart := false }
def FnExactHeaviestChainSaid : Prop := fnExactHeaviestChainRow.holds Try.pinned (OpenSpec.ofChange fnExactHeaviestChainSpec)

/-- ITS FALSE NEIGHBOUR: 'it returns false'. Refute it at one input. -/
def fnExactHeaviestChainWrong : ChangeSpec := { name := "fnExactHeaviestChain", fn := fun _ => fun
  | [d1, d2] => { results := [.lit (.bool false)], args := [d1, d2] }
  | _ => none }
def FnExactHeaviestChainWrongFalsely : Prop := fnExactHeaviestChainRow.holds Try.pinned (OpenSpec.ofChange fnExactHeaviestChainWrong)

/-- 'laws.FnExactSameSegments': WHATEVER THE INPUT: true; the input reads as it did. -/
def fnExactSameSegmentsSpec : ChangeSpec := { name := "fnExactSameSegments", fn := fun _ => fun
  | [d1, d2] => { results := [.lit (.bool true)], args := [d1, d2] }
  | _ => none }
def fnExactSameSegmentsRow : OpenClaim := { program := "ytbmfbnlmdjnddaa", sum := "827f07b00dd52d566cb96ea7b95bd4064f18375feac753b0d9514492b05edd82", func := "loop.example/segmentrooms/laws.FnExactSameSegments", spec := "fnExactSameSegments", apart := false }
def FnExactSameSegmentsSaid : Prop := fnExactSameSegmentsRow.holds Try.pinned (OpenSpec.ofChange fnExactSameSegmentsSpec)

/-- ITS FALSE NEIGHBOUR: 'it returns false'. Refute it at one input. -/
def fnExactSameSegmentsWrong : ChangeSpec := { name := "fnExactSameSegments", fn := fun _ => fun
  | [d1, d2] => { results := [.lit (.bool false)], args := [d1, d2] }
  | _ => none }
def FnExactSameSegmentsWrongFalsely : Prop := fnExactSameSegmentsRow.holds Try.pinned (OpenSpec.ofChange fnExactSameSegmentsWrong)

/- THE SECOND FORM. 'bulk': how many values and letters a reading holds, each counted each time it is reached (what is shared counts as often as it is met; a slice's spare places count too). A statement '..UptoSaid' is the law's where the arguments, and the package variables that the reading takes, are together of bulk at most 1048576: NARROWER than '..Said'. Prove '..Said' where nothing that the law and all that it calls make is longer than what came in: it says more and counts as full. Else prove '..UptoSaid'. A law counts once. -/
mutual
def uptoBulk {H : Type} : DataW H → Nat
  | .lit (.string bytes) => bytes.length + 1
  | .lit _ => 1
  | .nil => 1
  | .ptr d => uptoBulk d + 1
  | .slice elems spare => uptoBulkAll elems + uptoBulkAll spare + 1
  | .agg parts => uptoBulkAll parts + 1
  | .iface _ d => uptoBulk d + 1
  | .map entries => uptoBulkEntries entries + 1
  | .held _ => 1
def uptoBulkAll {H : Type} : List (DataW H) → Nat
  | [] => 0
  | d :: r => uptoBulk d + uptoBulkAll r
def uptoBulkEntries {H : Type} : List (Lit × DataW H) → Nat
  | [] => 0
  | x :: r => uptoBulkEntry x + uptoBulkEntries r
def uptoBulkEntry {H : Type} : Lit × DataW H → Nat
  | (.string bytes, d) => bytes.length + uptoBulk d + 1
  | (_, d) => uptoBulk d + 1
 end
def uptoSmall : (H : Type) → List (DataW H) → Bool := fun _ ds => decide (uptoBulkAll ds ≤ 1048576)
def OpenSpec.upto (s : _root_.Go.ChangeSpec) : _root_.Go.OpenSpec := { _root_.Go.OpenSpec.ofChange s with cond := some uptoSmall }

/-- 'laws.FnReached', WHERE WHAT IT READS IS OF BULK AT MOST 1048576: true; the input reads as it did. -/
def fnReachedUptoRow : OpenClaim := { program := "ytbmfbnlmdjnddaa", sum := "827f07b00dd52d566cb96ea7b95bd4064f18375feac753b0d9514492b05edd82", func := "loop.example/segmentrooms/laws.FnReached", spec := "fnReached", inPlace := ["internal/abi.NoEscape"], unfollowed := true, recurses := true, apart := false, narrowed := true }
def FnReachedUptoSaid : Prop := fnReachedUptoRow.holds Try.pinned (OpenSpec.upto fnReachedSpec)

/-- 'laws.FnShapes', WHERE WHAT IT READS IS OF BULK AT MOST 1048576: true; the input reads as it did. -/
def fnShapesUptoRow : OpenClaim := { program := "ytbmfbnlmdjnddaa", sum := "827f07b00dd52d566cb96ea7b95bd4064f18375feac753b0d9514492b05edd82", func := "loop.example/segmentrooms/laws.FnShapes", spec := "fnShapes", unfollowed := true, recurses := true, apart := false, narrowed := true }
def FnShapesUptoSaid : Prop := fnShapesUptoRow.holds Try.pinned (OpenSpec.upto fnShapesSpec)

/-- 'laws.FnExactLeastRoom', WHERE WHAT IT READS IS OF BULK AT MOST 1048576: true; the input reads as it did. -/
def fnExactLeastRoomUptoRow : OpenClaim := { program := "ytbmfbnlmdjnddaa", sum := "827f07b00dd52d566cb96ea7b95bd4064f18375feac753b0d9514492b05edd82", func := "loop.example/segmentrooms/laws.FnExactLeastRoom", spec := "fnExactLeastRoom", unfollowed := true, recurses := true, apart := false, narrowed := true }
def FnExactLeastRoomUptoSaid : Prop := fnExactLeastRoomUptoRow.holds Try.pinned (OpenSpec.upto fnExactLeastRoomSpec)

/-- 'laws.FnExactFlatTree', WHERE WHAT IT READS IS OF BULK AT MOST 1048576: true; the input reads as it did. -/
def fnExactFlatTreeUptoRow : OpenClaim := { program := "ytbmfbnlmdjnddaa", sum := "827f07b00dd52d566cb96ea7b95bd4064f18375feac753b0d9514492b05edd82", func := "loop.example/segmentrooms/laws.FnExactFlatTree", spec := "fnExactFlatTree", unfollowed := true, recurses := true, apart := false, narrowed := true }
def FnExactFlatTreeUptoSaid : Prop := fnExactFlatTreeUptoRow.holds Try.pinned (OpenSpec.upto fnExactFlatTreeSpec)

/-- 'laws.FnExactChainTree', WHERE WHAT IT READS IS OF BULK AT MOST 1048576: true; the input reads as it did. -/
def fnExactChainTreeUptoRow : OpenClaim := { program := "ytbmfbnlmdjnddaa", sum := "827f07b00dd52d566cb96ea7b95bd4064f18375feac753b0d9514492b05edd82", func := "loop.example/segmentrooms/laws.FnExactChainTree", spec := "fnExactChainTree", unfollowed := true, recurses := true, apart := false, narrowed := true }
def FnExactChainTreeUptoSaid : Prop := fnExactChainTreeUptoRow.holds Try.pinned (OpenSpec.upto fnExactChainTreeSpec)

/-- 'laws.FnExactHeaviestChain', WHERE WHAT IT READS IS OF BULK AT MOST 1048576: true; the input reads as it did. -/
def fnExactHeaviestChainUptoRow : OpenClaim := { program := "ytbmfbnlmdjnddaa", sum := "827f07b00dd52d566cb96ea7b95bd4064f18375feac753b0d9514492b05edd82", func := "loop.example/segmentrooms/laws.FnExactHeaviestChain", spec := "fnExactHeaviestChain", inPlace := ["internal/abi.NoEscape"], unfollowed := true, recurses := true, apart := false, narrowed := true }
def FnExactHeaviestChainUptoSaid : Prop := fnExactHeaviestChainUptoRow.holds Try.pinned (OpenSpec.upto fnExactHeaviestChainSpec)

/-- 'laws.FnExactSameSegments', WHERE WHAT IT READS IS OF BULK AT MOST 1048576: true; the input reads as it did. -/
def fnExactSameSegmentsUptoRow : OpenClaim := { program := "ytbmfbnlmdjnddaa", sum := "827f07b00dd52d566cb96ea7b95bd4064f18375feac753b0d9514492b05edd82", func := "loop.example/segmentrooms/laws.FnExactSameSegments", spec := "fnExactSameSegments", apart := false, narrowed := true }
def FnExactSameSegmentsUptoSaid : Prop := fnExactSameSegmentsUptoRow.holds Try.pinned (OpenSpec.upto fnExactSameSegmentsSpec)

end Rows
end Go.Proofs.Ytbmfbnlmdjnddaa
