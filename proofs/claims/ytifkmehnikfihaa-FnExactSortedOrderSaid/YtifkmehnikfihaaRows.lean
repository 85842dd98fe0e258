/-
  No cell of these rows narrows 'for every input' (looked for: loops, veiled, ifaces, maps, wideKeys, modest, calm, conditions, laid).
  DERIVED. THE GIVEN ROWS OF THIS SEAT. 3 by the template 'for every input the law returns true; each argument reads behind the call as it read before'; 0 by the template 'total and deterministic' (their statements: YtifkmehnikfihaaTotals.lean).
  GIVEN WITH THE SEED: the statements are not yours to turn. If you find one false, say at which input.
  Laid BY PROGRAM, IN A SANDBOX (cutbox-rows.mjs): the forced cells as the released guide's own fill.sh prints them over the translation e68470d22e38f9f3… (all of the seat's roots in one cut). By AI agents, Wed Nov 11 2026. No macro, syntax, notation, axiom, sorry.
-/
import Derived.Test.YtifkmehnikfihaaChecked
import GoSem.Claim
import GoSem.ClaimJoined
import GoSem.ClaimMapViews
import Derived.JoinedTies
import Derived.KernelRfl
namespace Go.Proofs.Ytifkmehnikfihaa
/- THE CELL 'sum', in the pinned program and in every row, IS THE sha256 OF THE DUMP (.gsa) THAT YtifkmehnikfihaaProg.lean LOADS. Nothing in Lean hashes anything: it is a label: what it is worth is what the hold of that sum in a sandbox is worth. -/
noncomputable def Try.pinned : Pinned := { name := "ytifkmehnikfihaa", sum := "e68470d22e38f9f38ba824bb04e33b997b66a1bc8fe91553159fc71c11e26772", checked := Try.checked }
namespace Rows
def none {H : Type} : Left H := { results := [], args := [] }

/-- 'laws.FnExactTopCalls': WHATEVER THE INPUT: true; the input reads as it did. -/
def fnExactTopCallsSpec : ChangeSpec := { name := "fnExactTopCalls", fn := fun _ => fun
  | [d1, d2] => { results := [.lit (.bool true)], args := [d1, d2] }
  | _ => none }
def fnExactTopCallsRow : OpenClaim := { program := "ytifkmehnikfihaa", sum := "e68470d22e38f9f38ba824bb04e33b997b66a1bc8fe91553159fc71c11e26772", func := "loop.example/segmentrooms/laws.FnExactTopCalls", spec := "fnExactTopCalls", unfollowed := true, recurses := true, apart := false }
def FnExactTopCallsSaid : Prop := fnExactTopCallsRow.holds Try.pinned (OpenSpec.ofChange fnExactTopCallsSpec)

/-- ITS FALSE NEIGHBOUR: 'it returns false'. Refute it at one input. -/
def fnExactTopCallsWrong : ChangeSpec := { name := "fnExactTopCalls", fn := fun _ => fun
  | [d1, d2] => { results := [.lit (.bool false)], args := [d1, d2] }
  | _ => none }
def FnExactTopCallsWrongFalsely : Prop := fnExactTopCallsRow.holds Try.pinned (OpenSpec.ofChange fnExactTopCallsWrong)

/-- 'laws.FnExactInOrder': WHATEVER THE INPUT: true; the input reads as it did. -/
def fnExactInOrderSpec : ChangeSpec := { name := "fnExactInOrder", fn := fun _ => fun
  | [d1, d2, d3] => { results := [.lit (.bool true)], args := [d1, d2, d3] }
  | _ => none }
def fnExactInOrderRow : OpenClaim := { program := "ytifkmehnikfihaa", sum := "e68470d22e38f9f38ba824bb04e33b997b66a1bc8fe91553159fc71c11e26772", func := "loop.example/segmentrooms/laws.FnExactInOrder", spec := "fnExactInOrder", inPlace := ["internal/abi.NoEscape"], unfollowed := true, recurses := true, apart := false }
def FnExactInOrderSaid : Prop := fnExactInOrderRow.holds Try.pinned (OpenSpec.ofChange fnExactInOrderSpec)

/-- ITS FALSE NEIGHBOUR: 'it returns false'. Refute it at one input. -/
def fnExactInOrderWrong : ChangeSpec := { name := "fnExactInOrder", fn := fun _ => fun
  | [d1, d2, d3] => { results := [.lit (.bool false)], args := [d1, d2, d3] }
  | _ => none }
def FnExactInOrderWrongFalsely : Prop := fnExactInOrderRow.holds Try.pinned (OpenSpec.ofChange fnExactInOrderWrong)

/-- 'laws.FnExactSortedOrder': WHATEVER THE INPUT: true; the input reads as it did. -/
def fnExactSortedOrderSpec : ChangeSpec := { name := "fnExactSortedOrder", fn := fun _ => fun
  | [d1, d2] => { results := [.lit (.bool true)], args := [d1, d2] }
  | _ => none }
def fnExactSortedOrderRow : OpenClaim := { program := "ytifkmehnikfihaa", sum := "e68470d22e38f9f38ba824bb04e33b997b66a1bc8fe91553159fc71c11e26772", func := "loop.example/segmentrooms/laws.FnExactSortedOrder", spec := "fnExactSortedOrder", inPlace := ["internal/abi.NoEscape", "internal/bytealg.IndexByteString", "internal/bytealg.IndexString"], unfollowed := true, recurses := true, named := ["internal/bytealg.MaxLen"], apart := false }
def FnExactSortedOrderSaid : Prop := fnExactSortedOrderRow.holds Try.pinned (OpenSpec.ofChange fnExactSortedOrderSpec)

/-- ITS FALSE NEIGHBOUR: 'it returns false'. Refute it at one input. -/
def fnExactSortedOrderWrong : ChangeSpec := { name := "fnExactSortedOrder", fn := fun _ => fun
  | [d1, d2] => { results := [.lit (.bool false)], args := [d1, d2] }
  | _ => none }
def FnExactSortedOrderWrongFalsely : Prop := fnExactSortedOrderRow.holds Try.pinned (OpenSpec.ofChange fnExactSortedOrderWrong)

/- THE SECOND FORM. 'bulk': how many values and letters a reading holds, each counted each time it is reached (what is shared counts as often as it is met; a slice's spare places count too). A statement '..UptoSaid' is the law's where the arguments, and the package variables that the reading takes, are together of bulk at most 1048576: NARROWER than '..Said'. Prove '..Said' where nothing that the law and all that it calls make is longer than what came in: it says more and counts as full. Else prove '..UptoSaid'. A law counts once. -/
mutual
def uptoBulk {H : Type} : DataW H → Nat
  | .lit (.string bytes) => bytes.length + 1
  | .lit _ => 1
  | .nil => 1
  | .ptr d => uptoBulk d + 1
  | .slice elems spare => uptoBulkAll elems + uptoBulkAll spare + 1
  | .agg parts => uptoBulkAll parts + 1
  | .iface _ d => uptoBulk d + 1
  | .map entries => uptoBulkEntries entries + 1
  | .held _ => 1
def uptoBulkAll {H : Type} : List (DataW H) → Nat
  | [] => 0
  | d :: r => uptoBulk d + uptoBulkAll r
def uptoBulkEntries {H : Type} : List (Lit × DataW H) → Nat
  | [] => 0
  | x :: r => uptoBulkEntry x + uptoBulkEntries r
def uptoBulkEntry {H : Type} : Lit × DataW H → Nat
  | (.string bytes, d) => bytes.length + uptoBulk d + 1
  | (_, d) => uptoBulk d + 1
 end
def uptoSmall : (H : Type) → List (DataW H) → Bool := fun _ ds => decide (uptoBulkAll ds ≤ 1048576)
def OpenSpec.upto (s : _root_.Go.ChangeSpec) : _root_.Go.OpenSpec := { _root_.Go.OpenSpec.ofChange s with cond := some uptoSmall }

/-- 'laws.FnExactTopCalls', WHERE WHAT IT READS IS OF BULK AT MOST 1048576: true; the input reads as it did. -/
def fnExactTopCallsUptoRow : OpenClaim := { program := "ytifkmehnikfihaa", sum := "e68470d22e38f9f38ba824bb04e33b997b66a1bc8fe91553159fc71c11e26772", func := "loop.example/segmentrooms/laws.FnExactTopCalls", spec := "fnExactTopCalls", unfollowed := true, recurses := true, apart := false, narrowed := true }
def FnExactTopCallsUptoSaid : Prop := fnExactTopCallsUptoRow.holds Try.pinned (OpenSpec.upto fnExactTopCallsSpec)

/-- 'laws.FnExactInOrder', WHERE WHAT IT READS IS OF BULK AT MOST 1048576: true; the input reads as it did. -/
def fnExactInOrderUptoRow : OpenClaim := { program := "ytifkmehnikfihaa", sum := "e68470d22e38f9f38ba824bb04e33b997b66a1bc8fe91553159fc71c11e26772", func := "loop.example/segmentrooms/laws.FnExactInOrder", spec := "fnExactInOrder", inPlace := ["internal/abi.NoEscape"], unfollowed := true, recurses := true, apart := false, narrowed := true }
def FnExactInOrderUptoSaid : Prop := fnExactInOrderUptoRow.holds Try.pinned (OpenSpec.upto fnExactInOrderSpec)

/-- 'laws.FnExactSortedOrder', WHERE WHAT IT READS IS OF BULK AT MOST 1048576: true; the input reads as it did. -/
def fnExactSortedOrderUptoRow : OpenClaim := { program := "ytifkmehnikfihaa", sum := "e68470d22e38f9f38ba824bb04e33b997b66a1bc8fe91553159fc71c11e26772", func := "loop.example/segmentrooms/laws.FnExactSortedOrder", spec := "fnExactSortedOrder", inPlace := ["internal/abi.NoEscape", "internal/bytealg.IndexByteString", "internal/bytealg.IndexString"], unfollowed := true, recurses := true, named := ["internal/bytealg.MaxLen"], apart := false, narrowed := true }
def FnExactSortedOrderUptoSaid : Prop := fnExactSortedOrderUptoRow.holds Try.pinned (OpenSpec.upto fnExactSortedOrderSpec)

end Rows
end Go.Proofs.Ytifkmehnikfihaa
