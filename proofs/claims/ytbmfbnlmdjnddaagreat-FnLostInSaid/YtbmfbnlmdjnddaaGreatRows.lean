/-
  No cell of these rows narrows 'for every input' (looked for: loops, veiled, ifaces, maps, wideKeys, modest, calm, conditions, laid).
  DERIVED. THE GIVEN ROWS OF THIS SEAT. 5 by the template 'for every input the law returns true; each argument reads behind the call as it read before'; 0 by the template 'total and deterministic' (their statements: YtbmfbnlmdjnddaaGreatTotals.lean).
  GIVEN WITH THE SEED: the statements are not yours to turn. If you find one false, say at which input.
  Laid BY PROGRAM, IN A SANDBOX (cutbox-rows.mjs): the forced cells as the released guide's own fill.sh prints them over the translation 1b8c189157f0f209… (all of the seat's roots in one cut). By AI agents, Wed Nov 11 2026. No macro, syntax, notation, axiom, sorry.
-/
import Derived.Test.YtbmfbnlmdjnddaaGreatChecked
import GoSem.Claim
import GoSem.ClaimJoined
import GoSem.ClaimMapViews
import Derived.JoinedTies
import Derived.KernelRfl
namespace Go.Proofs.YtbmfbnlmdjnddaaGreat
/- THE CELL 'sum', in the pinned program and in every row, IS THE sha256 OF THE DUMP (.gsa) THAT YtbmfbnlmdjnddaaGreatProg.lean LOADS. Nothing in Lean hashes anything: it is a label: what it is worth is what the hold of that sum in a sandbox is worth. -/
noncomputable def Tryz.pinned : Pinned := { name := "ytbmfbnlmdjnddaagreat", sum := "1b8c189157f0f2094432563409c574c8985a97a4dd82cfe655708b13528f4cbf", checked := Tryz.checked }
namespace Rows
def none {H : Type} : Left H := { results := [], args := [] }

/-- 'laws.FnLostIn': WHATEVER THE INPUT: true; the input reads as it did. -/
def fnLostInSpec : ChangeSpec := { name := "fnLostIn", fn := fun _ => fun
  | [d1, d2] => { results := [.lit (.bool true)], args := [d1, d2] }
  | _ => none }
def fnLostInRow : OpenClaim := { program := "ytbmfbnlmdjnddaagreat", sum := "1b8c189157f0f2094432563409c574c8985a97a4dd82cfe655708b13528f4cbf", func := "loop.example/segmentrooms/laws.FnLostIn", spec := "fnLostIn", inPlace := ["internal/bytealg.IndexByteString", "internal/bytealg.IndexString", "internal/abi.NoEscape"], unfollowed := true, recurses := true, named := ["internal/bytealg.MaxLen"], apart := false }
def FnLostInSaid : Prop := fnLostInRow.holds Tryz.pinned (OpenSpec.ofChange fnLostInSpec)

/-- ITS FALSE NEIGHBOUR: 'it returns false'. Refute it at one input. -/
def fnLostInWrong : ChangeSpec := { name := "fnLostIn", fn := fun _ => fun
  | [d1, d2] => { results := [.lit (.bool false)], args := [d1, d2] }
  | _ => none }
def FnLostInWrongFalsely : Prop := fnLostInRow.holds Tryz.pinned (OpenSpec.ofChange fnLostInWrong)

/-- 'laws.FnTogether': WHATEVER THE INPUT: true; the input reads as it did. -/
def fnTogetherSpec : ChangeSpec := { name := "fnTogether", fn := fun _ => fun
  | [d] => { results := [.lit (.bool true)], args := [d] }
  | _ => none }
def fnTogetherRow : OpenClaim := { program := "ytbmfbnlmdjnddaagreat", sum := "1b8c189157f0f2094432563409c574c8985a97a4dd82cfe655708b13528f4cbf", func := "loop.example/segmentrooms/laws.FnTogether", spec := "fnTogether", inPlace := ["internal/abi.NoEscape"], unfollowed := true, recurses := true, apart := false }
def FnTogetherSaid : Prop := fnTogetherRow.holds Tryz.pinned (OpenSpec.ofChange fnTogetherSpec)

/-- ITS FALSE NEIGHBOUR: 'it returns false'. Refute it at one input. -/
def fnTogetherWrong : ChangeSpec := { name := "fnTogether", fn := fun _ => fun
  | [d] => { results := [.lit (.bool false)], args := [d] }
  | _ => none }
def FnTogetherWrongFalsely : Prop := fnTogetherRow.holds Tryz.pinned (OpenSpec.ofChange fnTogetherWrong)

/-- 'laws.FnBuildTree': WHATEVER THE INPUT: true; the input reads as it did. -/
def fnBuildTreeSpec : ChangeSpec := { name := "fnBuildTree", fn := fun _ => fun
  | [d] => { results := [.lit (.bool true)], args := [d] }
  | _ => none }
def fnBuildTreeRow : OpenClaim := { program := "ytbmfbnlmdjnddaagreat", sum := "1b8c189157f0f2094432563409c574c8985a97a4dd82cfe655708b13528f4cbf", func := "loop.example/segmentrooms/laws.FnBuildTree", spec := "fnBuildTree", unfollowed := true, recurses := true, apart := false }
def FnBuildTreeSaid : Prop := fnBuildTreeRow.holds Tryz.pinned (OpenSpec.ofChange fnBuildTreeSpec)

/-- ITS FALSE NEIGHBOUR: 'it returns false'. Refute it at one input. -/
def fnBuildTreeWrong : ChangeSpec := { name := "fnBuildTree", fn := fun _ => fun
  | [d] => { results := [.lit (.bool false)], args := [d] }
  | _ => none }
def FnBuildTreeWrongFalsely : Prop := fnBuildTreeRow.holds Tryz.pinned (OpenSpec.ofChange fnBuildTreeWrong)

/-- 'laws.FnHeaviestChain': WHATEVER THE INPUT: true; the input reads as it did. -/
def fnHeaviestChainSpec : ChangeSpec := { name := "fnHeaviestChain", fn := fun _ => fun
  | [d] => { results := [.lit (.bool true)], args := [d] }
  | _ => none }
def fnHeaviestChainRow : OpenClaim := { program := "ytbmfbnlmdjnddaagreat", sum := "1b8c189157f0f2094432563409c574c8985a97a4dd82cfe655708b13528f4cbf", func := "loop.example/segmentrooms/laws.FnHeaviestChain", spec := "fnHeaviestChain", inPlace := ["internal/abi.NoEscape"], unfollowed := true, recurses := true, apart := false }
def FnHeaviestChainSaid : Prop := fnHeaviestChainRow.holds Tryz.pinned (OpenSpec.ofChange fnHeaviestChainSpec)

/-- ITS FALSE NEIGHBOUR: 'it returns false'. Refute it at one input. -/
def fnHeaviestChainWrong : ChangeSpec := { name := "fnHeaviestChain", fn := fun _ => fun
  | [d] => { results := [.lit (.bool false)], args := [d] }
  | _ => none }
def FnHeaviestChainWrongFalsely : Prop := fnHeaviestChainRow.holds Tryz.pinned (OpenSpec.ofChange fnHeaviestChainWrong)

/-- 'laws.FnExactBuildTree': WHATEVER THE INPUT: true; the input reads as it did. -/
def fnExactBuildTreeSpec : ChangeSpec := { name := "fnExactBuildTree", fn := fun _ => fun
  | [d1, d2] => { results := [.lit (.bool true)], args := [d1, d2] }
  | _ => none }
def fnExactBuildTreeRow : OpenClaim := { program := "ytbmfbnlmdjnddaagreat", sum := "1b8c189157f0f2094432563409c574c8985a97a4dd82cfe655708b13528f4cbf", func := "loop.example/segmentrooms/laws.FnExactBuildTree", spec := "fnExactBuildTree", unfollowed := true, recurses := true, apart := false }
def FnExactBuildTreeSaid : Prop := fnExactBuildTreeRow.holds Tryz.pinned (OpenSpec.ofChange fnExactBuildTreeSpec)

/-- ITS FALSE NEIGHBOUR: 'it returns false'. Refute it at one input. -/
def fnExactBuildTreeWrong : ChangeSpec := { name := "fnExactBuildTree", fn := fun _ => fun
  | [d1, d2] => { results := [.lit (.bool false)], args := [d1, d2] }
  | _ => none }
def FnExactBuildTreeWrongFalsely : Prop := fnExactBuildTreeRow.holds Tryz.pinned (OpenSpec.ofChange fnExactBuildTreeWrong)

/- THE SECOND FORM. 'bulk': how many values and letters a reading holds, each counted each time it is reached (what is shared counts as often as it is met; a slice's spare places count too). A statement '..UptoSaid' is the law's where the arguments, and the package variables that the reading takes, are together of bulk at most 1048576: NARROWER than '..Said'. Prove '..Said' where nothing that the law and all that it calls make is longer than what came in: it says more and counts as full. Else prove '..UptoSaid'. A law counts once. -/
mutual
def uptoBulk {H : Type} : DataW H → Nat
  | .lit (.string bytes) => bytes.length + 1
  | .lit _ => 1
  | .nil => 1
  | .ptr d => uptoBulk d + 1
  | .slice elems spare => uptoBulkAll elems + uptoBulkAll spare + 1
  | .agg parts => uptoBulkAll parts + 1
  | .iface _ d => uptoBulk d + 1
  | .map entries => uptoBulkEntries entries + 1
  | .held _ => 1
def uptoBulkAll {H : Type} : List (DataW H) → Nat
  | [] => 0
  | d :: r => uptoBulk d + uptoBulkAll r
def uptoBulkEntries {H : Type} : List (Lit × DataW H) → Nat
  | [] => 0
  | x :: r => uptoBulkEntry x + uptoBulkEntries r
def uptoBulkEntry {H : Type} : Lit × DataW H → Nat
  | (.string bytes, d) => bytes.length + uptoBulk d + 1
  | (_, d) => uptoBulk d + 1
 end
def uptoSmall : (H : Type) → List (DataW H) → Bool := fun _ ds => decide (uptoBulkAll ds ≤ 1048576)
def OpenSpec.upto (s : _root_.Go.ChangeSpec) : _root_.Go.OpenSpec := { _root_.Go.OpenSpec.ofChange s with cond := some uptoSmall }

/-- 'laws.FnLostIn', WHERE WHAT IT READS IS OF BULK AT MOST 1048576: true; the input reads as it did. -/
def fnLostInUptoRow : OpenClaim := { program := "ytbmfbnlmdjnddaagreat", sum := "1b8c189157f0f2094432563409c574c8985a97a4dd82cfe655708b13528f4cbf", func := "loop.example/segmentrooms/laws.FnLostIn", spec := "fnLostIn", inPlace := ["internal/bytealg.IndexByteString", "internal/bytealg.IndexString", "internal/abi.NoEscape"], unfollowed := true, recurses := true, named := ["internal/bytealg.MaxLen"], apart := false, narrowed := true }
def FnLostInUptoSaid : Prop := fnLostInUptoRow.holds Tryz.pinned (OpenSpec.upto fnLostInSpec)

/-- 'laws.FnTogether', WHERE WHAT IT READS IS OF BULK AT MOST 1048576: true; the input reads as it did. -/
def fnTogetherUptoRow : OpenClaim := { program := "ytbmfbnlmdjnddaagreat", sum := "1b8c189157f0f2094432563409c574c8985a97a4dd82cfe655708b13528f4cbf", func := "loop.example/segmentrooms/laws.FnTogether", spec := "fnTogether", inPlace := ["internal/abi.NoEscape"], unfollowed := true, recurses := true, apart := false, narrowed := true }
def FnTogetherUptoSaid : Prop := fnTogetherUptoRow.holds Tryz.pinned (OpenSpec.upto fnTogetherSpec)

/-- 'laws.FnBuildTree', WHERE WHAT IT READS IS OF BULK AT MOST 1048576: true; the input reads as it did. -/
def fnBuildTreeUptoRow : OpenClaim := { program := "ytbmfbnlmdjnddaagreat", sum := "1b8c189157f0f2094432563409c574c8985a97a4dd82cfe655708b13528f4cbf", func := "loop.example/segmentrooms/laws.FnBuildTree", spec := "fnBuildTree", unfollowed := true, recurses := true, apart := false, narrowed := true }
def FnBuildTreeUptoSaid : Prop := fnBuildTreeUptoRow.holds Tryz.pinned (OpenSpec.upto fnBuildTreeSpec)

/-- 'laws.FnHeaviestChain', WHERE WHAT IT READS IS OF BULK AT MOST 1048576: true; the input reads as it did. -/
def fnHeaviestChainUptoRow : OpenClaim := { program := "ytbmfbnlmdjnddaagreat", sum := "1b8c189157f0f2094432563409c574c8985a97a4dd82cfe655708b13528f4cbf", func := "loop.example/segmentrooms/laws.FnHeaviestChain", spec := "fnHeaviestChain", inPlace := ["internal/abi.NoEscape"], unfollowed := true, recurses := true, apart := false, narrowed := true }
def FnHeaviestChainUptoSaid : Prop := fnHeaviestChainUptoRow.holds Tryz.pinned (OpenSpec.upto fnHeaviestChainSpec)

/-- 'laws.FnExactBuildTree', WHERE WHAT IT READS IS OF BULK AT MOST 1048576: true; the input reads as it did. -/
def fnExactBuildTreeUptoRow : OpenClaim := { program := "ytbmfbnlmdjnddaagreat", sum := "1b8c189157f0f2094432563409c574c8985a97a4dd82cfe655708b13528f4cbf", func := "loop.example/segmentrooms/laws.FnExactBuildTree", spec := "fnExactBuildTree", unfollowed := true, recurses := true, apart := false, narrowed := true }
def FnExactBuildTreeUptoSaid : Prop := fnExactBuildTreeUptoRow.holds Tryz.pinned (OpenSpec.upto fnExactBuildTreeSpec)

end Rows
end Go.Proofs.YtbmfbnlmdjnddaaGreat
