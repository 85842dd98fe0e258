/-
  NARROWER THAN 'FOR EVERY INPUT', by the rows' own cells (each row's printed sentence says how): FnKindOf: laid · FnExactNameOfKind: laid.
  DERIVED. THE GIVEN ROWS OF THIS SEAT. 2 by the template 'for every input the law returns true; each argument reads behind the call as it read before'; 0 by the template 'total and deterministic' (their statements: YtafpefjjeddmeaaDoorTotals.lean).
  GIVEN WITH THE SEED: the statements are not yours to turn. If you find one false, say at which input.
  Laid BY PROGRAM, IN A SANDBOX (cutbox-rows.mjs): the forced cells as the released guide's own fill.sh prints them over the translation 36d87a6da30ed97d… (all of the seat's roots in one cut). By AI agents, Wed Nov 11 2026. No macro, syntax, notation, axiom, sorry.
-/
import Derived.Test.YtafpefjjeddmeaaDoorChecked
import GoSem.Claim
import GoSem.ClaimJoined
import GoSem.ClaimMapViews
import Derived.JoinedTies
import Derived.KernelRfl
namespace Go.Proofs.YtafpefjjeddmeaaDoor
/- THE CELL 'sum', in the pinned program and in every row, IS THE sha256 OF THE DUMP (.gsa) THAT YtafpefjjeddmeaaDoorProg.lean LOADS. Nothing in Lean hashes anything: it is a label: what it is worth is what the hold of that sum in a sandbox is worth. -/
noncomputable def Tryd.pinned : Pinned := { name := "ytafpefjjeddmeaadoor", sum := "36d87a6da30ed97d3f820d7d60ca09b78b223420519994c0a5698b378fe69696", checked := Tryd.checked }
namespace Rows
def none {H : Type} : Left H := { results := [], args := [] }

/- WHAT THE LISTED PACKAGE-LEVEL VARIABLES READ AS WHEN THE CALL BEGINS. Each datum BY PROGRAM (the guide's laid-datum.mjs) off the statement by which the dump's own 'gosem.cut.vars' lays the variable. In a bare row this is a premise. The card (YtafpefjjeddmeaaDoorCards.lean) ties it to the program's text. -/
def laid_loop_example_segmentrooms_impl_kindWords {H : Type} : DataW H := .agg [.lit (.string [117, 112]), .lit (.string [100, 111, 119, 110]), .lit (.string [115, 105, 100, 101])]

/-- 'laws.FnKindOf': WHATEVER THE INPUT: true; the input reads as it did. -/
def fnKindOfSpec : ChangeSpec := { name := "fnKindOf", vars := ["loop.example/segmentrooms/impl.kindWords"], fn := fun _ => fun
  | [d1, d2, g1] => { results := [.lit (.bool true)], args := [d1, d2], vars := [g1] }
  | _ => none }
def fnKindOfRow : OpenClaim := { program := "ytafpefjjeddmeaadoor", sum := "36d87a6da30ed97d3f820d7d60ca09b78b223420519994c0a5698b378fe69696", func := "loop.example/segmentrooms/laws.FnKindOf", spec := "fnKindOf", unfollowed := true, recurses := true, named := ["loop.example/segmentrooms/impl.kindWords"], apart := false, laid := [("loop.example/segmentrooms/impl.kindWords", laid_loop_example_segmentrooms_impl_kindWords)] }
def FnKindOfSaid : Prop := fnKindOfRow.holds Tryd.pinned (OpenSpec.ofChange fnKindOfSpec)

/-- ITS FALSE NEIGHBOUR: 'it returns false'. Refute it at one input. -/
def fnKindOfWrong : ChangeSpec := { name := "fnKindOf", vars := ["loop.example/segmentrooms/impl.kindWords"], fn := fun _ => fun
  | [d1, d2, g1] => { results := [.lit (.bool false)], args := [d1, d2], vars := [g1] }
  | _ => none }
def FnKindOfWrongFalsely : Prop := fnKindOfRow.holds Tryd.pinned (OpenSpec.ofChange fnKindOfWrong)

/-- 'laws.FnExactNameOfKind': WHATEVER THE INPUT: true; the input reads as it did. -/
def fnExactNameOfKindSpec : ChangeSpec := { name := "fnExactNameOfKind", vars := ["loop.example/segmentrooms/impl.kindWords"], fn := fun _ => fun
  | [d, g1] => { results := [.lit (.bool true)], args := [d], vars := [g1] }
  | _ => none }
def fnExactNameOfKindRow : OpenClaim := { program := "ytafpefjjeddmeaadoor", sum := "36d87a6da30ed97d3f820d7d60ca09b78b223420519994c0a5698b378fe69696", func := "loop.example/segmentrooms/laws.FnExactNameOfKind", spec := "fnExactNameOfKind", named := ["loop.example/segmentrooms/impl.kindWords"], apart := false, laid := [("loop.example/segmentrooms/impl.kindWords", laid_loop_example_segmentrooms_impl_kindWords)] }
def FnExactNameOfKindSaid : Prop := fnExactNameOfKindRow.holds Tryd.pinned (OpenSpec.ofChange fnExactNameOfKindSpec)

/-- ITS FALSE NEIGHBOUR: 'it returns false'. Refute it at one input. -/
def fnExactNameOfKindWrong : ChangeSpec := { name := "fnExactNameOfKind", vars := ["loop.example/segmentrooms/impl.kindWords"], fn := fun _ => fun
  | [d, g1] => { results := [.lit (.bool false)], args := [d], vars := [g1] }
  | _ => none }
def FnExactNameOfKindWrongFalsely : Prop := fnExactNameOfKindRow.holds Tryd.pinned (OpenSpec.ofChange fnExactNameOfKindWrong)

/- THE SECOND FORM. 'bulk': how many values and letters a reading holds, each counted each time it is reached (what is shared counts as often as it is met; a slice's spare places count too). A statement '..UptoSaid' is the law's where the arguments, and the package variables that the reading takes, are together of bulk at most 1048576: NARROWER than '..Said'. Prove '..Said' where nothing that the law and all that it calls make is longer than what came in: it says more and counts as full. Else prove '..UptoSaid'. A law counts once. -/
mutual
def uptoBulk {H : Type} : DataW H → Nat
  | .lit (.string bytes) => bytes.length + 1
  | .lit _ => 1
  | .nil => 1
  | .ptr d => uptoBulk d + 1
  | .slice elems spare => uptoBulkAll elems + uptoBulkAll spare + 1
  | .agg parts => uptoBulkAll parts + 1
  | .iface _ d => uptoBulk d + 1
  | .map entries => uptoBulkEntries entries + 1
  | .held _ => 1
def uptoBulkAll {H : Type} : List (DataW H) → Nat
  | [] => 0
  | d :: r => uptoBulk d + uptoBulkAll r
def uptoBulkEntries {H : Type} : List (Lit × DataW H) → Nat
  | [] => 0
  | x :: r => uptoBulkEntry x + uptoBulkEntries r
def uptoBulkEntry {H : Type} : Lit × DataW H → Nat
  | (.string bytes, d) => bytes.length + uptoBulk d + 1
  | (_, d) => uptoBulk d + 1
 end
def uptoSmall : (H : Type) → List (DataW H) → Bool := fun _ ds => decide (uptoBulkAll ds ≤ 1048576)
def OpenSpec.upto (s : _root_.Go.ChangeSpec) : _root_.Go.OpenSpec := { _root_.Go.OpenSpec.ofChange s with cond := some uptoSmall }

/-- 'laws.FnKindOf', WHERE WHAT IT READS IS OF BULK AT MOST 1048576: true; the input reads as it did. -/
def fnKindOfUptoRow : OpenClaim := { program := "ytafpefjjeddmeaadoor", sum := "36d87a6da30ed97d3f820d7d60ca09b78b223420519994c0a5698b378fe69696", func := "loop.example/segmentrooms/laws.FnKindOf", spec := "fnKindOf", unfollowed := true, recurses := true, named := ["loop.example/segmentrooms/impl.kindWords"], apart := false, laid := [("loop.example/segmentrooms/impl.kindWords", laid_loop_example_segmentrooms_impl_kindWords)], narrowed := true }
def FnKindOfUptoSaid : Prop := fnKindOfUptoRow.holds Tryd.pinned (OpenSpec.upto fnKindOfSpec)

/-- 'laws.FnExactNameOfKind', WHERE WHAT IT READS IS OF BULK AT MOST 1048576: true; the input reads as it did. -/
def fnExactNameOfKindUptoRow : OpenClaim := { program := "ytafpefjjeddmeaadoor", sum := "36d87a6da30ed97d3f820d7d60ca09b78b223420519994c0a5698b378fe69696", func := "loop.example/segmentrooms/laws.FnExactNameOfKind", spec := "fnExactNameOfKind", named := ["loop.example/segmentrooms/impl.kindWords"], apart := false, laid := [("loop.example/segmentrooms/impl.kindWords", laid_loop_example_segmentrooms_impl_kindWords)], narrowed := true }
def FnExactNameOfKindUptoSaid : Prop := fnExactNameOfKindUptoRow.holds Tryd.pinned (OpenSpec.upto fnExactNameOfKindSpec)

end Rows
end Go.Proofs.YtafpefjjeddmeaaDoor
