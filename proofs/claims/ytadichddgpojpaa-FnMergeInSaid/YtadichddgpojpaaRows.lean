/-
  No cell of these rows narrows 'for every input' (looked for: loops, veiled, ifaces, maps, wideKeys, modest, calm, conditions, laid).
  DERIVED. THE GIVEN ROWS OF THIS SEAT. 10 by the template 'for every input the law returns true; each argument reads behind the call as it read before'; 0 by the template 'total and deterministic' (their statements: YtadichddgpojpaaTotals.lean).
  GIVEN WITH THE SEED: the statements are not yours to turn. If you find one false, say at which input.
  Laid BY PROGRAM, IN A SANDBOX (cutbox-rows.mjs): the forced cells as the released guide's own fill.sh prints them over the translation ac07e8626acc7fb4… (all of the seat's roots in one cut). By AI agents, Wed Nov 11 2026. No macro, syntax, notation, axiom, sorry.
-/
import Derived.Test.YtadichddgpojpaaChecked
import GoSem.Claim
import GoSem.ClaimJoined
import GoSem.ClaimMapViews
import Derived.JoinedTies
import Derived.KernelRfl
namespace Go.Proofs.Ytadichddgpojpaa
/- THE CELL 'sum', in the pinned program and in every row, IS THE sha256 OF THE DUMP (.gsa) THAT YtadichddgpojpaaProg.lean LOADS. Nothing in Lean hashes anything: it is a label: what it is worth is what the hold of that sum in a sandbox is worth. -/
noncomputable def Try.pinned : Pinned := { name := "ytadichddgpojpaa", sum := "ac07e8626acc7fb44ef1f53b0b5c273187dc9315768dcafbc6668e11ac8592d7", checked := Try.checked }
namespace Rows
def none {H : Type} : Left H := { results := [], args := [] }

/-- 'laws.FnMergeIn': WHATEVER THE INPUT: true; the input reads as it did. -/
def fnMergeInSpec : ChangeSpec := { name := "fnMergeIn", fn := fun _ => fun
  | [d] => { results := [.lit (.bool true)], args := [d] }
  | _ => none }
def fnMergeInRow : OpenClaim := { program := "ytadichddgpojpaa", sum := "ac07e8626acc7fb44ef1f53b0b5c273187dc9315768dcafbc6668e11ac8592d7", func := "loop.example/segmentrooms/laws.FnMergeIn", spec := "fnMergeIn", inPlace := ["slices.overlaps[*loop.example/segmentrooms/impl.node]", "internal/abi.NoEscape"], unfollowed := true, recurses := true, apart := false }
def FnMergeInSaid : Prop := fnMergeInRow.holds Try.pinned (OpenSpec.ofChange fnMergeInSpec)

/-- ITS FALSE NEIGHBOUR: 'it returns false'. Refute it at one input. -/
def fnMergeInWrong : ChangeSpec := { name := "fnMergeIn", fn := fun _ => fun
  | [d] => { results := [.lit (.bool false)], args := [d] }
  | _ => none }
def FnMergeInWrongFalsely : Prop := fnMergeInRow.holds Try.pinned (OpenSpec.ofChange fnMergeInWrong)

/-- 'laws.FnPrune': WHATEVER THE INPUT: true; the input reads as it did. -/
def fnPruneSpec : ChangeSpec := { name := "fnPrune", fn := fun _ => fun
  | [d] => { results := [.lit (.bool true)], args := [d] }
  | _ => none }
def fnPruneRow : OpenClaim := { program := "ytadichddgpojpaa", sum := "ac07e8626acc7fb44ef1f53b0b5c273187dc9315768dcafbc6668e11ac8592d7", func := "loop.example/segmentrooms/laws.FnPrune", spec := "fnPrune", inPlace := ["slices.overlaps[*loop.example/segmentrooms/impl.node]"], unfollowed := true, recurses := true, apart := false }
def FnPruneSaid : Prop := fnPruneRow.holds Try.pinned (OpenSpec.ofChange fnPruneSpec)

/-- ITS FALSE NEIGHBOUR: 'it returns false'. Refute it at one input. -/
def fnPruneWrong : ChangeSpec := { name := "fnPrune", fn := fun _ => fun
  | [d] => { results := [.lit (.bool false)], args := [d] }
  | _ => none }
def FnPruneWrongFalsely : Prop := fnPruneRow.holds Try.pinned (OpenSpec.ofChange fnPruneWrong)

/-- 'laws.FnExactLeastRoom': WHATEVER THE INPUT: true; the input reads as it did. -/
def fnExactLeastRoomSpec : ChangeSpec := { name := "fnExactLeastRoom", fn := fun _ => fun
  | [d1, d2] => { results := [.lit (.bool true)], args := [d1, d2] }
  | _ => none }
def fnExactLeastRoomRow : OpenClaim := { program := "ytadichddgpojpaa", sum := "ac07e8626acc7fb44ef1f53b0b5c273187dc9315768dcafbc6668e11ac8592d7", func := "loop.example/segmentrooms/laws.FnExactLeastRoom", spec := "fnExactLeastRoom", unfollowed := true, recurses := true, apart := false }
def FnExactLeastRoomSaid : Prop := fnExactLeastRoomRow.holds Try.pinned (OpenSpec.ofChange fnExactLeastRoomSpec)

/-- ITS FALSE NEIGHBOUR: 'it returns false'. Refute it at one input. -/
def fnExactLeastRoomWrong : ChangeSpec := { name := "fnExactLeastRoom", fn := fun _ => fun
  | [d1, d2] => { results := [.lit (.bool false)], args := [d1, d2] }
  | _ => none }
def FnExactLeastRoomWrongFalsely : Prop := fnExactLeastRoomRow.holds Try.pinned (OpenSpec.ofChange fnExactLeastRoomWrong)

/-- 'laws.FnExactHeaviestChain': WHATEVER THE INPUT: true; the input reads as it did. -/
def fnExactHeaviestChainSpec : ChangeSpec := { name := "fnExactHeaviestChain", fn := fun _ => fun
  | [d1, d2] => { results := [.lit (.bool true)], args := [d1, d2] }
  | _ => none }
def fnExactHeaviestChainRow : OpenClaim := { program := "ytadichddgpojpaa", sum := "ac07e8626acc7fb44ef1f53b0b5c273187dc9315768dcafbc6668e11ac8592d7", func := "loop.example/segmentrooms/laws.FnExactHeaviestChain", spec := "fnExactHeaviestChain", inPlace := ["internal/abi.NoEscape"], unfollowed := true, recurses := true, apart := false }
def FnExactHeaviestChainSaid : Prop := fnExactHeaviestChainRow.holds Try.pinned (OpenSpec.ofChange fnExactHeaviestChainSpec)

/-- ITS FALSE NEIGHBOUR: 'it returns false'. Refute it at one input. -/
def fnExactHeaviestChainWrong : ChangeSpec := { name := "fnExactHeaviestChain", fn := fun _ => fun
  | [d1, d2] => { results := [.lit (.bool false)], args := [d1, d2] }
  | _ => none }
def FnExactHeaviestChainWrongFalsely : Prop := fnExactHeaviestChainRow.holds Try.pinned (OpenSpec.ofChange fnExactHeaviestChainWrong)

/-- 'laws.FnExactMergeIn': WHATEVER THE INPUT: true; the input reads as it did. -/
def fnExactMergeInSpec : ChangeSpec := { name := "fnExactMergeIn", fn := fun _ => fun
  | [d1, d2] => { results := [.lit (.bool true)], args := [d1, d2] }
  | _ => none }
def fnExactMergeInRow : OpenClaim := { program := "ytadichddgpojpaa", sum := "ac07e8626acc7fb44ef1f53b0b5c273187dc9315768dcafbc6668e11ac8592d7", func := "loop.example/segmentrooms/laws.FnExactMergeIn", spec := "fnExactMergeIn", inPlace := ["slices.overlaps[*loop.example/segmentrooms/impl.node]"], unfollowed := true, recurses := true, apart := false }
def FnExactMergeInSaid : Prop := fnExactMergeInRow.holds Try.pinned (OpenSpec.ofChange fnExactMergeInSpec)

/-- ITS FALSE NEIGHBOUR: 'it returns false'. Refute it at one input. -/
def fnExactMergeInWrong : ChangeSpec := { name := "fnExactMergeIn", fn := fun _ => fun
  | [d1, d2] => { results := [.lit (.bool false)], args := [d1, d2] }
  | _ => none }
def FnExactMergeInWrongFalsely : Prop := fnExactMergeInRow.holds Try.pinned (OpenSpec.ofChange fnExactMergeInWrong)

/-- 'laws.FnExactMoveUp': WHATEVER THE INPUT: true; the input reads as it did. -/
def fnExactMoveUpSpec : ChangeSpec := { name := "fnExactMoveUp", fn := fun _ => fun
  | [d1, d2] => { results := [.lit (.bool true)], args := [d1, d2] }
  | _ => none }
def fnExactMoveUpRow : OpenClaim := { program := "ytadichddgpojpaa", sum := "ac07e8626acc7fb44ef1f53b0b5c273187dc9315768dcafbc6668e11ac8592d7", func := "loop.example/segmentrooms/laws.FnExactMoveUp", spec := "fnExactMoveUp", inPlace := ["slices.overlaps[*loop.example/segmentrooms/impl.node]"], unfollowed := true, recurses := true, apart := false }
def FnExactMoveUpSaid : Prop := fnExactMoveUpRow.holds Try.pinned (OpenSpec.ofChange fnExactMoveUpSpec)

/-- ITS FALSE NEIGHBOUR: 'it returns false'. Refute it at one input. -/
def fnExactMoveUpWrong : ChangeSpec := { name := "fnExactMoveUp", fn := fun _ => fun
  | [d1, d2] => { results := [.lit (.bool false)], args := [d1, d2] }
  | _ => none }
def FnExactMoveUpWrongFalsely : Prop := fnExactMoveUpRow.holds Try.pinned (OpenSpec.ofChange fnExactMoveUpWrong)

/-- 'laws.FnExactSubTree': WHATEVER THE INPUT: true; the input reads as it did. -/
def fnExactSubTreeSpec : ChangeSpec := { name := "fnExactSubTree", fn := fun _ => fun
  | [d1, d2] => { results := [.lit (.bool true)], args := [d1, d2] }
  | _ => none }
def fnExactSubTreeRow : OpenClaim := { program := "ytadichddgpojpaa", sum := "ac07e8626acc7fb44ef1f53b0b5c273187dc9315768dcafbc6668e11ac8592d7", func := "loop.example/segmentrooms/laws.FnExactSubTree", spec := "fnExactSubTree", unfollowed := true, recurses := true, apart := false }
def FnExactSubTreeSaid : Prop := fnExactSubTreeRow.holds Try.pinned (OpenSpec.ofChange fnExactSubTreeSpec)

/-- ITS FALSE NEIGHBOUR: 'it returns false'. Refute it at one input. -/
def fnExactSubTreeWrong : ChangeSpec := { name := "fnExactSubTree", fn := fun _ => fun
  | [d1, d2] => { results := [.lit (.bool false)], args := [d1, d2] }
  | _ => none }
def FnExactSubTreeWrongFalsely : Prop := fnExactSubTreeRow.holds Try.pinned (OpenSpec.ofChange fnExactSubTreeWrong)

/-- 'laws.FnExactPrune': WHATEVER THE INPUT: true; the input reads as it did. -/
def fnExactPruneSpec : ChangeSpec := { name := "fnExactPrune", fn := fun _ => fun
  | [d1, d2] => { results := [.lit (.bool true)], args := [d1, d2] }
  | _ => none }
def fnExactPruneRow : OpenClaim := { program := "ytadichddgpojpaa", sum := "ac07e8626acc7fb44ef1f53b0b5c273187dc9315768dcafbc6668e11ac8592d7", func := "loop.example/segmentrooms/laws.FnExactPrune", spec := "fnExactPrune", inPlace := ["slices.overlaps[*loop.example/segmentrooms/impl.node]"], unfollowed := true, recurses := true, apart := false }
def FnExactPruneSaid : Prop := fnExactPruneRow.holds Try.pinned (OpenSpec.ofChange fnExactPruneSpec)

/-- ITS FALSE NEIGHBOUR: 'it returns false'. Refute it at one input. -/
def fnExactPruneWrong : ChangeSpec := { name := "fnExactPrune", fn := fun _ => fun
  | [d1, d2] => { results := [.lit (.bool false)], args := [d1, d2] }
  | _ => none }
def FnExactPruneWrongFalsely : Prop := fnExactPruneRow.holds Try.pinned (OpenSpec.ofChange fnExactPruneWrong)

/-- 'laws.FnExactResize': WHATEVER THE INPUT: true; the input reads as it did. -/
def fnExactResizeSpec : ChangeSpec := { name := "fnExactResize", fn := fun _ => fun
  | [d1, d2, d3] => { results := [.lit (.bool true)], args := [d1, d2, d3] }
  | _ => none }
def fnExactResizeRow : OpenClaim := { program := "ytadichddgpojpaa", sum := "ac07e8626acc7fb44ef1f53b0b5c273187dc9315768dcafbc6668e11ac8592d7", func := "loop.example/segmentrooms/laws.FnExactResize", spec := "fnExactResize", unfollowed := true, recurses := true, apart := false }
def FnExactResizeSaid : Prop := fnExactResizeRow.holds Try.pinned (OpenSpec.ofChange fnExactResizeSpec)

/-- ITS FALSE NEIGHBOUR: 'it returns false'. Refute it at one input. -/
def fnExactResizeWrong : ChangeSpec := { name := "fnExactResize", fn := fun _ => fun
  | [d1, d2, d3] => { results := [.lit (.bool false)], args := [d1, d2, d3] }
  | _ => none }
def FnExactResizeWrongFalsely : Prop := fnExactResizeRow.holds Try.pinned (OpenSpec.ofChange fnExactResizeWrong)

/-- 'laws.FnExactRoomLeft': WHATEVER THE INPUT: true; the input reads as it did. -/
def fnExactRoomLeftSpec : ChangeSpec := { name := "fnExactRoomLeft", fn := fun _ => fun
  | [d1, d2] => { results := [.lit (.bool true)], args := [d1, d2] }
  | _ => none }
def fnExactRoomLeftRow : OpenClaim := { program := "ytadichddgpojpaa", sum := "ac07e8626acc7fb44ef1f53b0b5c273187dc9315768dcafbc6668e11ac8592d7", func := "loop.example/segmentrooms/laws.FnExactRoomLeft", spec := "fnExactRoomLeft", unfollowed := true, recurses := true, apart := false }
def FnExactRoomLeftSaid : Prop := fnExactRoomLeftRow.holds Try.pinned (OpenSpec.ofChange fnExactRoomLeftSpec)

/-- ITS FALSE NEIGHBOUR: 'it returns false'. Refute it at one input. -/
def fnExactRoomLeftWrong : ChangeSpec := { name := "fnExactRoomLeft", fn := fun _ => fun
  | [d1, d2] => { results := [.lit (.bool false)], args := [d1, d2] }
  | _ => none }
def FnExactRoomLeftWrongFalsely : Prop := fnExactRoomLeftRow.holds Try.pinned (OpenSpec.ofChange fnExactRoomLeftWrong)

/- THE SECOND FORM. 'bulk': how many values and letters a reading holds, each counted each time it is reached (what is shared counts as often as it is met; a slice's spare places count too). A statement '..UptoSaid' is the law's where the arguments, and the package variables that the reading takes, are together of bulk at most 1048576: NARROWER than '..Said'. Prove '..Said' where nothing that the law and all that it calls make is longer than what came in: it says more and counts as full. Else prove '..UptoSaid'. A law counts once. -/
mutual
def uptoBulk {H : Type} : DataW H → Nat
  | .lit (.string bytes) => bytes.length + 1
  | .lit _ => 1
  | .nil => 1
  | .ptr d => uptoBulk d + 1
  | .slice elems spare => uptoBulkAll elems + uptoBulkAll spare + 1
  | .agg parts => uptoBulkAll parts + 1
  | .iface _ d => uptoBulk d + 1
  | .map entries => uptoBulkEntries entries + 1
  | .held _ => 1
def uptoBulkAll {H : Type} : List (DataW H) → Nat
  | [] => 0
  | d :: r => uptoBulk d + uptoBulkAll r
def uptoBulkEntries {H : Type} : List (Lit × DataW H) → Nat
  | [] => 0
  | x :: r => uptoBulkEntry x + uptoBulkEntries r
def uptoBulkEntry {H : Type} : Lit × DataW H → Nat
  | (.string bytes, d) => bytes.length + uptoBulk d + 1
  | (_, d) => uptoBulk d + 1
 end
def uptoSmall : (H : Type) → List (DataW H) → Bool := fun _ ds => decide (uptoBulkAll ds ≤ 1048576)
def OpenSpec.upto (s : _root_.Go.ChangeSpec) : _root_.Go.OpenSpec := { _root_.Go.OpenSpec.ofChange s with cond := some uptoSmall }

/-- 'laws.FnMergeIn', WHERE WHAT IT READS IS OF BULK AT MOST 1048576: true; the input reads as it did. -/
def fnMergeInUptoRow : OpenClaim := { program := "ytadichddgpojpaa", sum := "ac07e8626acc7fb44ef1f53b0b5c273187dc9315768dcafbc6668e11ac8592d7", func := "loop.example/segmentrooms/laws.FnMergeIn", spec := "fnMergeIn", inPlace := ["slices.overlaps[*loop.example/segmentrooms/impl.node]", "internal/abi.NoEscape"], unfollowed := true, recurses := true, apart := false, narrowed := true }
def FnMergeInUptoSaid : Prop := fnMergeInUptoRow.holds Try.pinned (OpenSpec.upto fnMergeInSpec)

/-- 'laws.FnPrune', WHERE WHAT IT READS IS OF BULK AT MOST 1048576: true; the input reads as it did. -/
def fnPruneUptoRow : OpenClaim := { program := "ytadichddgpojpaa", sum := "ac07e8626acc7fb44ef1f53b0b5c273187dc9315768dcafbc6668e11ac8592d7", func := "loop.example/segmentrooms/laws.FnPrune", spec := "fnPrune", inPlace := ["slices.overlaps[*loop.example/segmentrooms/impl.node]"], unfollowed := true, recurses := true, apart := false, narrowed := true }
def FnPruneUptoSaid : Prop := fnPruneUptoRow.holds Try.pinned (OpenSpec.upto fnPruneSpec)

/-- 'laws.FnExactLeastRoom', WHERE WHAT IT READS IS OF BULK AT MOST 1048576: true; the input reads as it did. -/
def fnExactLeastRoomUptoRow : OpenClaim := { program := "ytadichddgpojpaa", sum := "ac07e8626acc7fb44ef1f53b0b5c273187dc9315768dcafbc6668e11ac8592d7", func := "loop.example/segmentrooms/laws.FnExactLeastRoom", spec := "fnExactLeastRoom", unfollowed := true, recurses := true, apart := false, narrowed := true }
def FnExactLeastRoomUptoSaid : Prop := fnExactLeastRoomUptoRow.holds Try.pinned (OpenSpec.upto fnExactLeastRoomSpec)

/-- 'laws.FnExactHeaviestChain', WHERE WHAT IT READS IS OF BULK AT MOST 1048576: true; the input reads as it did. -/
def fnExactHeaviestChainUptoRow : OpenClaim := { program := "ytadichddgpojpaa", sum := "ac07e8626acc7fb44ef1f53b0b5c273187dc9315768dcafbc6668e11ac8592d7", func := "loop.example/segmentrooms/laws.FnExactHeaviestChain", spec := "fnExactHeaviestChain", inPlace := ["internal/abi.NoEscape"], unfollowed := true, recurses := true, apart := false, narrowed := true }
def FnExactHeaviestChainUptoSaid : Prop := fnExactHeaviestChainUptoRow.holds Try.pinned (OpenSpec.upto fnExactHeaviestChainSpec)

/-- 'laws.FnExactMergeIn', WHERE WHAT IT READS IS OF BULK AT MOST 1048576: true; the input reads as it did. -/
def fnExactMergeInUptoRow : OpenClaim := { program := "ytadichddgpojpaa", sum := "ac07e8626acc7fb44ef1f53b0b5c273187dc9315768dcafbc6668e11ac8592d7", func := "loop.example/segmentrooms/laws.FnExactMergeIn", spec := "fnExactMergeIn", inPlace := ["slices.overlaps[*loop.example/segmentrooms/impl.node]"], unfollowed := true, recurses := true, apart := false, narrowed := true }
def FnExactMergeInUptoSaid : Prop := fnExactMergeInUptoRow.holds Try.pinned (OpenSpec.upto fnExactMergeInSpec)

/-- 'laws.FnExactMoveUp', WHERE WHAT IT READS IS OF BULK AT MOST 1048576: true; the input reads as it did. -/
def fnExactMoveUpUptoRow : OpenClaim := { program := "ytadichddgpojpaa", sum := "ac07e8626acc7fb44ef1f53b0b5c273187dc9315768dcafbc6668e11ac8592d7", func := "loop.example/segmentrooms/laws.FnExactMoveUp", spec := "fnExactMoveUp", inPlace := ["slices.overlaps[*loop.example/segmentrooms/impl.node]"], unfollowed := true, recurses := true, apart := false, narrowed := true }
def FnExactMoveUpUptoSaid : Prop := fnExactMoveUpUptoRow.holds Try.pinned (OpenSpec.upto fnExactMoveUpSpec)

/-- 'laws.FnExactSubTree', WHERE WHAT IT READS IS OF BULK AT MOST 1048576: true; the input reads as it did. -/
def fnExactSubTreeUptoRow : OpenClaim := { program := "ytadichddgpojpaa", sum := "ac07e8626acc7fb44ef1f53b0b5c273187dc9315768dcafbc6668e11ac8592d7", func := "loop.example/segmentrooms/laws.FnExactSubTree", spec := "fnExactSubTree", unfollowed := true, recurses := true, apart := false, narrowed := true }
def FnExactSubTreeUptoSaid : Prop := fnExactSubTreeUptoRow.holds Try.pinned (OpenSpec.upto fnExactSubTreeSpec)

/-- 'laws.FnExactPrune', WHERE WHAT IT READS IS OF BULK AT MOST 1048576: true; the input reads as it did. -/
def fnExactPruneUptoRow : OpenClaim := { program := "ytadichddgpojpaa", sum := "ac07e8626acc7fb44ef1f53b0b5c273187dc9315768dcafbc6668e11ac8592d7", func := "loop.example/segmentrooms/laws.FnExactPrune", spec := "fnExactPrune", inPlace := ["slices.overlaps[*loop.example/segmentrooms/impl.node]"], unfollowed := true, recurses := true, apart := false, narrowed := true }
def FnExactPruneUptoSaid : Prop := fnExactPruneUptoRow.holds Try.pinned (OpenSpec.upto fnExactPruneSpec)

/-- 'laws.FnExactResize', WHERE WHAT IT READS IS OF BULK AT MOST 1048576: true; the input reads as it did. -/
def fnExactResizeUptoRow : OpenClaim := { program := "ytadichddgpojpaa", sum := "ac07e8626acc7fb44ef1f53b0b5c273187dc9315768dcafbc6668e11ac8592d7", func := "loop.example/segmentrooms/laws.FnExactResize", spec := "fnExactResize", unfollowed := true, recurses := true, apart := false, narrowed := true }
def FnExactResizeUptoSaid : Prop := fnExactResizeUptoRow.holds Try.pinned (OpenSpec.upto fnExactResizeSpec)

/-- 'laws.FnExactRoomLeft', WHERE WHAT IT READS IS OF BULK AT MOST 1048576: true; the input reads as it did. -/
def fnExactRoomLeftUptoRow : OpenClaim := { program := "ytadichddgpojpaa", sum := "ac07e8626acc7fb44ef1f53b0b5c273187dc9315768dcafbc6668e11ac8592d7", func := "loop.example/segmentrooms/laws.FnExactRoomLeft", spec := "fnExactRoomLeft", unfollowed := true, recurses := true, apart := false, narrowed := true }
def FnExactRoomLeftUptoSaid : Prop := fnExactRoomLeftUptoRow.holds Try.pinned (OpenSpec.upto fnExactRoomLeftSpec)

end Rows
end Go.Proofs.Ytadichddgpojpaa
