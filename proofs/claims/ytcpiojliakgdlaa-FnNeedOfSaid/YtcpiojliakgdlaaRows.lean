/-
  No cell of these rows narrows 'for every input' (looked for: loops, veiled, ifaces, maps, wideKeys, modest, calm, conditions, laid).
  DERIVED. THE GIVEN ROWS OF THIS SEAT. 9 by the template 'for every input the law returns true; each argument reads behind the call as it read before'; 0 by the template 'total and deterministic' (their statements: YtcpiojliakgdlaaTotals.lean).
  GIVEN WITH THE SEED: the statements are not yours to turn. If you find one false, say at which input.
  Laid BY PROGRAM, IN A SANDBOX (cutbox-rows.mjs): the forced cells as the released guide's own fill.sh prints them over the translation e8772b6af9ce0e51… (all of the seat's roots in one cut). By AI agents, Wed Nov 11 2026. No macro, syntax, notation, axiom, sorry.
-/
import Derived.Test.YtcpiojliakgdlaaChecked
import GoSem.Claim
import GoSem.ClaimJoined
import GoSem.ClaimMapViews
import Derived.JoinedTies
import Derived.KernelRfl
namespace Go.Proofs.Ytcpiojliakgdlaa
/- THE CELL 'sum', in the pinned program and in every row, IS THE sha256 OF THE DUMP (.gsa) THAT YtcpiojliakgdlaaProg.lean LOADS. Nothing in Lean hashes anything: it is a label: what it is worth is what the hold of that sum in a sandbox is worth. -/
noncomputable def Try.pinned : Pinned := { name := "ytcpiojliakgdlaa", sum := "e8772b6af9ce0e51dfc1d2be3985c2ceb238b771ca75969739d6707607cf2970", checked := Try.checked }
namespace Rows
def none {H : Type} : Left H := { results := [], args := [] }

/-- 'laws.FnNeedOf': WHATEVER THE INPUT: true; the input reads as it did. -/
def fnNeedOfSpec : ChangeSpec := { name := "fnNeedOf", fn := fun _ => fun
  | [d] => { results := [.lit (.bool true)], args := [d] }
  | _ => none }
def fnNeedOfRow : OpenClaim := { program := "ytcpiojliakgdlaa", sum := "e8772b6af9ce0e51dfc1d2be3985c2ceb238b771ca75969739d6707607cf2970", func := "loop.example/segmentrooms/laws.FnNeedOf", spec := "fnNeedOf", inPlace := ["internal/abi.NoEscape"], unfollowed := true, recurses := true, apart := false }
def FnNeedOfSaid : Prop := fnNeedOfRow.holds Try.pinned (OpenSpec.ofChange fnNeedOfSpec)

/-- ITS FALSE NEIGHBOUR: 'it returns false'. Refute it at one input. -/
def fnNeedOfWrong : ChangeSpec := { name := "fnNeedOf", fn := fun _ => fun
  | [d] => { results := [.lit (.bool false)], args := [d] }
  | _ => none }
def FnNeedOfWrongFalsely : Prop := fnNeedOfRow.holds Try.pinned (OpenSpec.ofChange fnNeedOfWrong)

/-- 'laws.FnNeedAll': WHATEVER THE INPUT: true; the input reads as it did. -/
def fnNeedAllSpec : ChangeSpec := { name := "fnNeedAll", fn := fun _ => fun
  | [d1, d2] => { results := [.lit (.bool true)], args := [d1, d2] }
  | _ => none }
def fnNeedAllRow : OpenClaim := { program := "ytcpiojliakgdlaa", sum := "e8772b6af9ce0e51dfc1d2be3985c2ceb238b771ca75969739d6707607cf2970", func := "loop.example/segmentrooms/laws.FnNeedAll", spec := "fnNeedAll", inPlace := ["internal/abi.NoEscape"], unfollowed := true, recurses := true, apart := false }
def FnNeedAllSaid : Prop := fnNeedAllRow.holds Try.pinned (OpenSpec.ofChange fnNeedAllSpec)

/-- ITS FALSE NEIGHBOUR: 'it returns false'. Refute it at one input. -/
def fnNeedAllWrong : ChangeSpec := { name := "fnNeedAll", fn := fun _ => fun
  | [d1, d2] => { results := [.lit (.bool false)], args := [d1, d2] }
  | _ => none }
def FnNeedAllWrongFalsely : Prop := fnNeedAllRow.holds Try.pinned (OpenSpec.ofChange fnNeedAllWrong)

/-- 'laws.FnStates': WHATEVER THE INPUT: true; the input reads as it did. -/
def fnStatesSpec : ChangeSpec := { name := "fnStates", fn := fun _ => fun
  | [d1, d2] => { results := [.lit (.bool true)], args := [d1, d2] }
  | _ => none }
def fnStatesRow : OpenClaim := { program := "ytcpiojliakgdlaa", sum := "e8772b6af9ce0e51dfc1d2be3985c2ceb238b771ca75969739d6707607cf2970", func := "loop.example/segmentrooms/laws.FnStates", spec := "fnStates", inPlace := ["internal/abi.NoEscape"], unfollowed := true, recurses := true, apart := false }
def FnStatesSaid : Prop := fnStatesRow.holds Try.pinned (OpenSpec.ofChange fnStatesSpec)

/-- ITS FALSE NEIGHBOUR: 'it returns false'. Refute it at one input. -/
def fnStatesWrong : ChangeSpec := { name := "fnStates", fn := fun _ => fun
  | [d1, d2] => { results := [.lit (.bool false)], args := [d1, d2] }
  | _ => none }
def FnStatesWrongFalsely : Prop := fnStatesRow.holds Try.pinned (OpenSpec.ofChange fnStatesWrong)

/-- 'laws.FnPinRoom': WHATEVER THE INPUT: true; the input reads as it did. -/
def fnPinRoomSpec : ChangeSpec := { name := "fnPinRoom", fn := fun _ => fun
  | [d1, d2] => { results := [.lit (.bool true)], args := [d1, d2] }
  | _ => none }
def fnPinRoomRow : OpenClaim := { program := "ytcpiojliakgdlaa", sum := "e8772b6af9ce0e51dfc1d2be3985c2ceb238b771ca75969739d6707607cf2970", func := "loop.example/segmentrooms/laws.FnPinRoom", spec := "fnPinRoom", inPlace := ["internal/abi.NoEscape"], unfollowed := true, recurses := true, apart := false }
def FnPinRoomSaid : Prop := fnPinRoomRow.holds Try.pinned (OpenSpec.ofChange fnPinRoomSpec)

/-- ITS FALSE NEIGHBOUR: 'it returns false'. Refute it at one input. -/
def fnPinRoomWrong : ChangeSpec := { name := "fnPinRoom", fn := fun _ => fun
  | [d1, d2] => { results := [.lit (.bool false)], args := [d1, d2] }
  | _ => none }
def FnPinRoomWrongFalsely : Prop := fnPinRoomRow.holds Try.pinned (OpenSpec.ofChange fnPinRoomWrong)

/-- 'laws.FnExactPinsValid': WHATEVER THE INPUT: true; the input reads as it did. -/
def fnExactPinsValidSpec : ChangeSpec := { name := "fnExactPinsValid", fn := fun _ => fun
  | [d1, d2] => { results := [.lit (.bool true)], args := [d1, d2] }
  | _ => none }
def fnExactPinsValidRow : OpenClaim := { program := "ytcpiojliakgdlaa", sum := "e8772b6af9ce0e51dfc1d2be3985c2ceb238b771ca75969739d6707607cf2970", func := "loop.example/segmentrooms/laws.FnExactPinsValid", spec := "fnExactPinsValid", inPlace := ["internal/abi.NoEscape"], apart := false }
def FnExactPinsValidSaid : Prop := fnExactPinsValidRow.holds Try.pinned (OpenSpec.ofChange fnExactPinsValidSpec)

/-- ITS FALSE NEIGHBOUR: 'it returns false'. Refute it at one input. -/
def fnExactPinsValidWrong : ChangeSpec := { name := "fnExactPinsValid", fn := fun _ => fun
  | [d1, d2] => { results := [.lit (.bool false)], args := [d1, d2] }
  | _ => none }
def FnExactPinsValidWrongFalsely : Prop := fnExactPinsValidRow.holds Try.pinned (OpenSpec.ofChange fnExactPinsValidWrong)

/-- 'laws.FnExactPinRoom': WHATEVER THE INPUT: true; the input reads as it did. -/
def fnExactPinRoomSpec : ChangeSpec := { name := "fnExactPinRoom", fn := fun _ => fun
  | [d1, d2] => { results := [.lit (.bool true)], args := [d1, d2] }
  | _ => none }
def fnExactPinRoomRow : OpenClaim := { program := "ytcpiojliakgdlaa", sum := "e8772b6af9ce0e51dfc1d2be3985c2ceb238b771ca75969739d6707607cf2970", func := "loop.example/segmentrooms/laws.FnExactPinRoom", spec := "fnExactPinRoom", inPlace := ["internal/abi.NoEscape"], unfollowed := true, recurses := true, apart := false }
def FnExactPinRoomSaid : Prop := fnExactPinRoomRow.holds Try.pinned (OpenSpec.ofChange fnExactPinRoomSpec)

/-- ITS FALSE NEIGHBOUR: 'it returns false'. Refute it at one input. -/
def fnExactPinRoomWrong : ChangeSpec := { name := "fnExactPinRoom", fn := fun _ => fun
  | [d1, d2] => { results := [.lit (.bool false)], args := [d1, d2] }
  | _ => none }
def FnExactPinRoomWrongFalsely : Prop := fnExactPinRoomRow.holds Try.pinned (OpenSpec.ofChange fnExactPinRoomWrong)

/-- 'laws.FnExactPinLoads': WHATEVER THE INPUT: true; the input reads as it did. -/
def fnExactPinLoadsSpec : ChangeSpec := { name := "fnExactPinLoads", fn := fun _ => fun
  | [d1, d2, d3] => { results := [.lit (.bool true)], args := [d1, d2, d3] }
  | _ => none }
def fnExactPinLoadsRow : OpenClaim := { program := "ytcpiojliakgdlaa", sum := "e8772b6af9ce0e51dfc1d2be3985c2ceb238b771ca75969739d6707607cf2970", func := "loop.example/segmentrooms/laws.FnExactPinLoads", spec := "fnExactPinLoads", inPlace := ["internal/abi.NoEscape"], unfollowed := true, recurses := true, apart := false }
def FnExactPinLoadsSaid : Prop := fnExactPinLoadsRow.holds Try.pinned (OpenSpec.ofChange fnExactPinLoadsSpec)

/-- ITS FALSE NEIGHBOUR: 'it returns false'. Refute it at one input. -/
def fnExactPinLoadsWrong : ChangeSpec := { name := "fnExactPinLoads", fn := fun _ => fun
  | [d1, d2, d3] => { results := [.lit (.bool false)], args := [d1, d2, d3] }
  | _ => none }
def FnExactPinLoadsWrongFalsely : Prop := fnExactPinLoadsRow.holds Try.pinned (OpenSpec.ofChange fnExactPinLoadsWrong)

/-- 'laws.FnExactPinCost': WHATEVER THE INPUT: true; the input reads as it did. -/
def fnExactPinCostSpec : ChangeSpec := { name := "fnExactPinCost", fn := fun _ => fun
  | [d1, d2, d3] => { results := [.lit (.bool true)], args := [d1, d2, d3] }
  | _ => none }
def fnExactPinCostRow : OpenClaim := { program := "ytcpiojliakgdlaa", sum := "e8772b6af9ce0e51dfc1d2be3985c2ceb238b771ca75969739d6707607cf2970", func := "loop.example/segmentrooms/laws.FnExactPinCost", spec := "fnExactPinCost", inPlace := ["internal/abi.NoEscape"], unfollowed := true, recurses := true, apart := false }
def FnExactPinCostSaid : Prop := fnExactPinCostRow.holds Try.pinned (OpenSpec.ofChange fnExactPinCostSpec)

/-- ITS FALSE NEIGHBOUR: 'it returns false'. Refute it at one input. -/
def fnExactPinCostWrong : ChangeSpec := { name := "fnExactPinCost", fn := fun _ => fun
  | [d1, d2, d3] => { results := [.lit (.bool false)], args := [d1, d2, d3] }
  | _ => none }
def FnExactPinCostWrongFalsely : Prop := fnExactPinCostRow.holds Try.pinned (OpenSpec.ofChange fnExactPinCostWrong)

/-- 'laws.FnExactAllPins': WHATEVER THE INPUT: true; the input reads as it did. -/
def fnExactAllPinsSpec : ChangeSpec := { name := "fnExactAllPins", fn := fun _ => fun
  | [d1, d2] => { results := [.lit (.bool true)], args := [d1, d2] }
  | _ => none }
def fnExactAllPinsRow : OpenClaim := { program := "ytcpiojliakgdlaa", sum := "e8772b6af9ce0e51dfc1d2be3985c2ceb238b771ca75969739d6707607cf2970", func := "loop.example/segmentrooms/laws.FnExactAllPins", spec := "fnExactAllPins", inPlace := ["internal/abi.NoEscape"], unfollowed := true, recurses := true, apart := false }
def FnExactAllPinsSaid : Prop := fnExactAllPinsRow.holds Try.pinned (OpenSpec.ofChange fnExactAllPinsSpec)

/-- ITS FALSE NEIGHBOUR: 'it returns false'. Refute it at one input. -/
def fnExactAllPinsWrong : ChangeSpec := { name := "fnExactAllPins", fn := fun _ => fun
  | [d1, d2] => { results := [.lit (.bool false)], args := [d1, d2] }
  | _ => none }
def FnExactAllPinsWrongFalsely : Prop := fnExactAllPinsRow.holds Try.pinned (OpenSpec.ofChange fnExactAllPinsWrong)

/- THE SECOND FORM. 'bulk': how many values and letters a reading holds, each counted each time it is reached (what is shared counts as often as it is met; a slice's spare places count too). A statement '..UptoSaid' is the law's where the arguments, and the package variables that the reading takes, are together of bulk at most 1048576: NARROWER than '..Said'. Prove '..Said' where nothing that the law and all that it calls make is longer than what came in: it says more and counts as full. Else prove '..UptoSaid'. A law counts once. -/
mutual
def uptoBulk {H : Type} : DataW H → Nat
  | .lit (.string bytes) => bytes.length + 1
  | .lit _ => 1
  | .nil => 1
  | .ptr d => uptoBulk d + 1
  | .slice elems spare => uptoBulkAll elems + uptoBulkAll spare + 1
  | .agg parts => uptoBulkAll parts + 1
  | .iface _ d => uptoBulk d + 1
  | .map entries => uptoBulkEntries entries + 1
  | .held _ => 1
def uptoBulkAll {H : Type} : List (DataW H) → Nat
  | [] => 0
  | d :: r => uptoBulk d + uptoBulkAll r
def uptoBulkEntries {H : Type} : List (Lit × DataW H) → Nat
  | [] => 0
  | x :: r => uptoBulkEntry x + uptoBulkEntries r
def uptoBulkEntry {H : Type} : Lit × DataW H → Nat
  | (.string bytes, d) => bytes.length + uptoBulk d + 1
  | (_, d) => uptoBulk d + 1
 end
def uptoSmall : (H : Type) → List (DataW H) → Bool := fun _ ds => decide (uptoBulkAll ds ≤ 1048576)
def OpenSpec.upto (s : _root_.Go.ChangeSpec) : _root_.Go.OpenSpec := { _root_.Go.OpenSpec.ofChange s with cond := some uptoSmall }

/-- 'laws.FnNeedOf', WHERE WHAT IT READS IS OF BULK AT MOST 1048576: true; the input reads as it did. -/
def fnNeedOfUptoRow : OpenClaim := { program := "ytcpiojliakgdlaa", sum := "e8772b6af9ce0e51dfc1d2be3985c2ceb238b771ca75969739d6707607cf2970", func := "loop.example/segmentrooms/laws.FnNeedOf", spec := "fnNeedOf", inPlace := ["internal/abi.NoEscape"], unfollowed := true, recurses := true, apart := false, narrowed := true }
def FnNeedOfUptoSaid : Prop := fnNeedOfUptoRow.holds Try.pinned (OpenSpec.upto fnNeedOfSpec)

/-- 'laws.FnNeedAll', WHERE WHAT IT READS IS OF BULK AT MOST 1048576: true; the input reads as it did. -/
def fnNeedAllUptoRow : OpenClaim := { program := "ytcpiojliakgdlaa", sum := "e8772b6af9ce0e51dfc1d2be3985c2ceb238b771ca75969739d6707607cf2970", func := "loop.example/segmentrooms/laws.FnNeedAll", spec := "fnNeedAll", inPlace := ["internal/abi.NoEscape"], unfollowed := true, recurses := true, apart := false, narrowed := true }
def FnNeedAllUptoSaid : Prop := fnNeedAllUptoRow.holds Try.pinned (OpenSpec.upto fnNeedAllSpec)

/-- 'laws.FnStates', WHERE WHAT IT READS IS OF BULK AT MOST 1048576: true; the input reads as it did. -/
def fnStatesUptoRow : OpenClaim := { program := "ytcpiojliakgdlaa", sum := "e8772b6af9ce0e51dfc1d2be3985c2ceb238b771ca75969739d6707607cf2970", func := "loop.example/segmentrooms/laws.FnStates", spec := "fnStates", inPlace := ["internal/abi.NoEscape"], unfollowed := true, recurses := true, apart := false, narrowed := true }
def FnStatesUptoSaid : Prop := fnStatesUptoRow.holds Try.pinned (OpenSpec.upto fnStatesSpec)

/-- 'laws.FnPinRoom', WHERE WHAT IT READS IS OF BULK AT MOST 1048576: true; the input reads as it did. -/
def fnPinRoomUptoRow : OpenClaim := { program := "ytcpiojliakgdlaa", sum := "e8772b6af9ce0e51dfc1d2be3985c2ceb238b771ca75969739d6707607cf2970", func := "loop.example/segmentrooms/laws.FnPinRoom", spec := "fnPinRoom", inPlace := ["internal/abi.NoEscape"], unfollowed := true, recurses := true, apart := false, narrowed := true }
def FnPinRoomUptoSaid : Prop := fnPinRoomUptoRow.holds Try.pinned (OpenSpec.upto fnPinRoomSpec)

/-- 'laws.FnExactPinsValid', WHERE WHAT IT READS IS OF BULK AT MOST 1048576: true; the input reads as it did. -/
def fnExactPinsValidUptoRow : OpenClaim := { program := "ytcpiojliakgdlaa", sum := "e8772b6af9ce0e51dfc1d2be3985c2ceb238b771ca75969739d6707607cf2970", func := "loop.example/segmentrooms/laws.FnExactPinsValid", spec := "fnExactPinsValid", inPlace := ["internal/abi.NoEscape"], apart := false, narrowed := true }
def FnExactPinsValidUptoSaid : Prop := fnExactPinsValidUptoRow.holds Try.pinned (OpenSpec.upto fnExactPinsValidSpec)

/-- 'laws.FnExactPinRoom', WHERE WHAT IT READS IS OF BULK AT MOST 1048576: true; the input reads as it did. -/
def fnExactPinRoomUptoRow : OpenClaim := { program := "ytcpiojliakgdlaa", sum := "e8772b6af9ce0e51dfc1d2be3985c2ceb238b771ca75969739d6707607cf2970", func := "loop.example/segmentrooms/laws.FnExactPinRoom", spec := "fnExactPinRoom", inPlace := ["internal/abi.NoEscape"], unfollowed := true, recurses := true, apart := false, narrowed := true }
def FnExactPinRoomUptoSaid : Prop := fnExactPinRoomUptoRow.holds Try.pinned (OpenSpec.upto fnExactPinRoomSpec)

/-- 'laws.FnExactPinLoads', WHERE WHAT IT READS IS OF BULK AT MOST 1048576: true; the input reads as it did. -/
def fnExactPinLoadsUptoRow : OpenClaim := { program := "ytcpiojliakgdlaa", sum := "e8772b6af9ce0e51dfc1d2be3985c2ceb238b771ca75969739d6707607cf2970", func := "loop.example/segmentrooms/laws.FnExactPinLoads", spec := "fnExactPinLoads", inPlace := ["internal/abi.NoEscape"], unfollowed := true, recurses := true, apart := false, narrowed := true }
def FnExactPinLoadsUptoSaid : Prop := fnExactPinLoadsUptoRow.holds Try.pinned (OpenSpec.upto fnExactPinLoadsSpec)

/-- 'laws.FnExactPinCost', WHERE WHAT IT READS IS OF BULK AT MOST 1048576: true; the input reads as it did. -/
def fnExactPinCostUptoRow : OpenClaim := { program := "ytcpiojliakgdlaa", sum := "e8772b6af9ce0e51dfc1d2be3985c2ceb238b771ca75969739d6707607cf2970", func := "loop.example/segmentrooms/laws.FnExactPinCost", spec := "fnExactPinCost", inPlace := ["internal/abi.NoEscape"], unfollowed := true, recurses := true, apart := false, narrowed := true }
def FnExactPinCostUptoSaid : Prop := fnExactPinCostUptoRow.holds Try.pinned (OpenSpec.upto fnExactPinCostSpec)

/-- 'laws.FnExactAllPins', WHERE WHAT IT READS IS OF BULK AT MOST 1048576: true; the input reads as it did. -/
def fnExactAllPinsUptoRow : OpenClaim := { program := "ytcpiojliakgdlaa", sum := "e8772b6af9ce0e51dfc1d2be3985c2ceb238b771ca75969739d6707607cf2970", func := "loop.example/segmentrooms/laws.FnExactAllPins", spec := "fnExactAllPins", inPlace := ["internal/abi.NoEscape"], unfollowed := true, recurses := true, apart := false, narrowed := true }
def FnExactAllPinsUptoSaid : Prop := fnExactAllPinsUptoRow.holds Try.pinned (OpenSpec.upto fnExactAllPinsSpec)

end Rows
end Go.Proofs.Ytcpiojliakgdlaa
