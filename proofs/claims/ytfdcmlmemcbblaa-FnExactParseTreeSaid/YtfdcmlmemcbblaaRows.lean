/-
  No cell of these rows narrows 'for every input' (looked for: loops, veiled, ifaces, maps, wideKeys, modest, calm, conditions, laid).
  DERIVED. THE GIVEN ROWS OF THIS SEAT. 13 by the template 'for every input the law returns true; each argument reads behind the call as it read before'; 0 by the template 'total and deterministic' (their statements: YtfdcmlmemcbblaaTotals.lean).
  GIVEN WITH THE SEED: the statements are not yours to turn. If you find one false, say at which input.
  Laid BY PROGRAM, IN A SANDBOX (cutbox-rows.mjs): the forced cells as the released guide's own fill.sh prints them over the translation 75b6426058d2055a… (all of the seat's roots in one cut). By AI agents, Wed Nov 11 2026. No macro, syntax, notation, axiom, sorry.
-/
import Derived.Test.YtfdcmlmemcbblaaChecked
import GoSem.Claim
import GoSem.ClaimJoined
import GoSem.ClaimMapViews
import Derived.JoinedTies
import Derived.KernelRfl
namespace Go.Proofs.Ytfdcmlmemcbblaa
/- THE CELL 'sum', in the pinned program and in every row, IS THE sha256 OF THE DUMP (.gsa) THAT YtfdcmlmemcbblaaProg.lean LOADS. Nothing in Lean hashes anything: it is a label: what it is worth is what the hold of that sum in a sandbox is worth. -/
noncomputable def Try.pinned : Pinned := { name := "ytfdcmlmemcbblaa", sum := "75b6426058d2055a0602b44c23fe09a64ddde69b9bedc11bcdd06728e3769c1c", checked := Try.checked }
namespace Rows
def none {H : Type} : Left H := { results := [], args := [] }

/-- 'laws.FnPathOf': WHATEVER THE INPUT: true; the input reads as it did. -/
def fnPathOfSpec : ChangeSpec := { name := "fnPathOf", fn := fun _ => fun
  | [d] => { results := [.lit (.bool true)], args := [d] }
  | _ => none }
def fnPathOfRow : OpenClaim := { program := "ytfdcmlmemcbblaa", sum := "75b6426058d2055a0602b44c23fe09a64ddde69b9bedc11bcdd06728e3769c1c", func := "loop.example/segmentrooms/laws.FnPathOf", spec := "fnPathOf", inPlace := ["internal/abi.NoEscape"], unfollowed := true, recurses := true, apart := false }
def FnPathOfSaid : Prop := fnPathOfRow.holds Try.pinned (OpenSpec.ofChange fnPathOfSpec)

/-- ITS FALSE NEIGHBOUR: 'it returns false'. Refute it at one input. -/
def fnPathOfWrong : ChangeSpec := { name := "fnPathOf", fn := fun _ => fun
  | [d] => { results := [.lit (.bool false)], args := [d] }
  | _ => none }
def FnPathOfWrongFalsely : Prop := fnPathOfRow.holds Try.pinned (OpenSpec.ofChange fnPathOfWrong)

/-- 'laws.FnCommonOf': WHATEVER THE INPUT: true; the input reads as it did. -/
def fnCommonOfSpec : ChangeSpec := { name := "fnCommonOf", fn := fun _ => fun
  | [d] => { results := [.lit (.bool true)], args := [d] }
  | _ => none }
def fnCommonOfRow : OpenClaim := { program := "ytfdcmlmemcbblaa", sum := "75b6426058d2055a0602b44c23fe09a64ddde69b9bedc11bcdd06728e3769c1c", func := "loop.example/segmentrooms/laws.FnCommonOf", spec := "fnCommonOf", inPlace := ["internal/abi.NoEscape", "internal/bytealg.IndexByteString", "internal/bytealg.IndexString"], unfollowed := true, recurses := true, named := ["internal/bytealg.MaxLen"], apart := false }
def FnCommonOfSaid : Prop := fnCommonOfRow.holds Try.pinned (OpenSpec.ofChange fnCommonOfSpec)

/-- ITS FALSE NEIGHBOUR: 'it returns false'. Refute it at one input. -/
def fnCommonOfWrong : ChangeSpec := { name := "fnCommonOf", fn := fun _ => fun
  | [d] => { results := [.lit (.bool false)], args := [d] }
  | _ => none }
def FnCommonOfWrongFalsely : Prop := fnCommonOfRow.holds Try.pinned (OpenSpec.ofChange fnCommonOfWrong)

/-- 'laws.FnLieTogether': WHATEVER THE INPUT: true; the input reads as it did. -/
def fnLieTogetherSpec : ChangeSpec := { name := "fnLieTogether", fn := fun _ => fun
  | [d] => { results := [.lit (.bool true)], args := [d] }
  | _ => none }
def fnLieTogetherRow : OpenClaim := { program := "ytfdcmlmemcbblaa", sum := "75b6426058d2055a0602b44c23fe09a64ddde69b9bedc11bcdd06728e3769c1c", func := "loop.example/segmentrooms/laws.FnLieTogether", spec := "fnLieTogether", inPlace := ["internal/abi.NoEscape", "internal/bytealg.IndexByteString", "internal/bytealg.IndexString"], unfollowed := true, recurses := true, named := ["internal/bytealg.MaxLen"], apart := false }
def FnLieTogetherSaid : Prop := fnLieTogetherRow.holds Try.pinned (OpenSpec.ofChange fnLieTogetherSpec)

/-- ITS FALSE NEIGHBOUR: 'it returns false'. Refute it at one input. -/
def fnLieTogetherWrong : ChangeSpec := { name := "fnLieTogether", fn := fun _ => fun
  | [d] => { results := [.lit (.bool false)], args := [d] }
  | _ => none }
def FnLieTogetherWrongFalsely : Prop := fnLieTogetherRow.holds Try.pinned (OpenSpec.ofChange fnLieTogetherWrong)

/-- 'laws.FnLiesAt': WHATEVER THE INPUT: true; the input reads as it did. -/
def fnLiesAtSpec : ChangeSpec := { name := "fnLiesAt", fn := fun _ => fun
  | [d1, d2] => { results := [.lit (.bool true)], args := [d1, d2] }
  | _ => none }
def fnLiesAtRow : OpenClaim := { program := "ytfdcmlmemcbblaa", sum := "75b6426058d2055a0602b44c23fe09a64ddde69b9bedc11bcdd06728e3769c1c", func := "loop.example/segmentrooms/laws.FnLiesAt", spec := "fnLiesAt", inPlace := ["internal/abi.NoEscape"], unfollowed := true, recurses := true, apart := false }
def FnLiesAtSaid : Prop := fnLiesAtRow.holds Try.pinned (OpenSpec.ofChange fnLiesAtSpec)

/-- ITS FALSE NEIGHBOUR: 'it returns false'. Refute it at one input. -/
def fnLiesAtWrong : ChangeSpec := { name := "fnLiesAt", fn := fun _ => fun
  | [d1, d2] => { results := [.lit (.bool false)], args := [d1, d2] }
  | _ => none }
def FnLiesAtWrongFalsely : Prop := fnLiesAtRow.holds Try.pinned (OpenSpec.ofChange fnLiesAtWrong)

/-- 'laws.FnExactParseTree': WHATEVER THE INPUT: true; the input reads as it did. -/
def fnExactParseTreeSpec : ChangeSpec := { name := "fnExactParseTree", fn := fun _ => fun
  | [d] => { results := [.lit (.bool true)], args := [d] }
  | _ => none }
def fnExactParseTreeRow : OpenClaim := { program := "ytfdcmlmemcbblaa", sum := "75b6426058d2055a0602b44c23fe09a64ddde69b9bedc11bcdd06728e3769c1c", func := "loop.example/segmentrooms/laws.FnExactParseTree", spec := "fnExactParseTree", unfollowed := true, recurses := true, apart := false }
def FnExactParseTreeSaid : Prop := fnExactParseTreeRow.holds Try.pinned (OpenSpec.ofChange fnExactParseTreeSpec)

/-- ITS FALSE NEIGHBOUR: 'it returns false'. Refute it at one input. -/
def fnExactParseTreeWrong : ChangeSpec := { name := "fnExactParseTree", fn := fun _ => fun
  | [d] => { results := [.lit (.bool false)], args := [d] }
  | _ => none }
def FnExactParseTreeWrongFalsely : Prop := fnExactParseTreeRow.holds Try.pinned (OpenSpec.ofChange fnExactParseTreeWrong)

/-- 'laws.FnExactAddressOf': WHATEVER THE INPUT: true; the input reads as it did. -/
def fnExactAddressOfSpec : ChangeSpec := { name := "fnExactAddressOf", fn := fun _ => fun
  | [d1, d2] => { results := [.lit (.bool true)], args := [d1, d2] }
  | _ => none }
def fnExactAddressOfRow : OpenClaim := { program := "ytfdcmlmemcbblaa", sum := "75b6426058d2055a0602b44c23fe09a64ddde69b9bedc11bcdd06728e3769c1c", func := "loop.example/segmentrooms/laws.FnExactAddressOf", spec := "fnExactAddressOf", recurses := true, apart := false }
def FnExactAddressOfSaid : Prop := fnExactAddressOfRow.holds Try.pinned (OpenSpec.ofChange fnExactAddressOfSpec)

/-- ITS FALSE NEIGHBOUR: 'it returns false'. Refute it at one input. -/
def fnExactAddressOfWrong : ChangeSpec := { name := "fnExactAddressOf", fn := fun _ => fun
  | [d1, d2] => { results := [.lit (.bool false)], args := [d1, d2] }
  | _ => none }
def FnExactAddressOfWrongFalsely : Prop := fnExactAddressOfRow.holds Try.pinned (OpenSpec.ofChange fnExactAddressOfWrong)

/-- 'laws.FnExactEndOf': WHATEVER THE INPUT: true; the input reads as it did. -/
def fnExactEndOfSpec : ChangeSpec := { name := "fnExactEndOf", fn := fun _ => fun
  | [d1, d2] => { results := [.lit (.bool true)], args := [d1, d2] }
  | _ => none }
def fnExactEndOfRow : OpenClaim := { program := "ytfdcmlmemcbblaa", sum := "75b6426058d2055a0602b44c23fe09a64ddde69b9bedc11bcdd06728e3769c1c", func := "loop.example/segmentrooms/laws.FnExactEndOf", spec := "fnExactEndOf", recurses := true, apart := false }
def FnExactEndOfSaid : Prop := fnExactEndOfRow.holds Try.pinned (OpenSpec.ofChange fnExactEndOfSpec)

/-- ITS FALSE NEIGHBOUR: 'it returns false'. Refute it at one input. -/
def fnExactEndOfWrong : ChangeSpec := { name := "fnExactEndOf", fn := fun _ => fun
  | [d1, d2] => { results := [.lit (.bool false)], args := [d1, d2] }
  | _ => none }
def FnExactEndOfWrongFalsely : Prop := fnExactEndOfRow.holds Try.pinned (OpenSpec.ofChange fnExactEndOfWrong)

/-- 'laws.FnExactRoomOf': WHATEVER THE INPUT: true; the input reads as it did. -/
def fnExactRoomOfSpec : ChangeSpec := { name := "fnExactRoomOf", fn := fun _ => fun
  | [d] => { results := [.lit (.bool true)], args := [d] }
  | _ => none }
def fnExactRoomOfRow : OpenClaim := { program := "ytfdcmlmemcbblaa", sum := "75b6426058d2055a0602b44c23fe09a64ddde69b9bedc11bcdd06728e3769c1c", func := "loop.example/segmentrooms/laws.FnExactRoomOf", spec := "fnExactRoomOf", unfollowed := true, recurses := true, apart := false }
def FnExactRoomOfSaid : Prop := fnExactRoomOfRow.holds Try.pinned (OpenSpec.ofChange fnExactRoomOfSpec)

/-- ITS FALSE NEIGHBOUR: 'it returns false'. Refute it at one input. -/
def fnExactRoomOfWrong : ChangeSpec := { name := "fnExactRoomOf", fn := fun _ => fun
  | [d] => { results := [.lit (.bool false)], args := [d] }
  | _ => none }
def FnExactRoomOfWrongFalsely : Prop := fnExactRoomOfRow.holds Try.pinned (OpenSpec.ofChange fnExactRoomOfWrong)

/-- 'laws.FnExactSavedRoom': WHATEVER THE INPUT: true; the input reads as it did. -/
def fnExactSavedRoomSpec : ChangeSpec := { name := "fnExactSavedRoom", fn := fun _ => fun
  | [d] => { results := [.lit (.bool true)], args := [d] }
  | _ => none }
def fnExactSavedRoomRow : OpenClaim := { program := "ytfdcmlmemcbblaa", sum := "75b6426058d2055a0602b44c23fe09a64ddde69b9bedc11bcdd06728e3769c1c", func := "loop.example/segmentrooms/laws.FnExactSavedRoom", spec := "fnExactSavedRoom", unfollowed := true, recurses := true, apart := false }
def FnExactSavedRoomSaid : Prop := fnExactSavedRoomRow.holds Try.pinned (OpenSpec.ofChange fnExactSavedRoomSpec)

/-- ITS FALSE NEIGHBOUR: 'it returns false'. Refute it at one input. -/
def fnExactSavedRoomWrong : ChangeSpec := { name := "fnExactSavedRoom", fn := fun _ => fun
  | [d] => { results := [.lit (.bool false)], args := [d] }
  | _ => none }
def FnExactSavedRoomWrongFalsely : Prop := fnExactSavedRoomRow.holds Try.pinned (OpenSpec.ofChange fnExactSavedRoomWrong)

/-- 'laws.FnExactLieTogether': WHATEVER THE INPUT: true; the input reads as it did. -/
def fnExactLieTogetherSpec : ChangeSpec := { name := "fnExactLieTogether", fn := fun _ => fun
  | [d1, d2, d3] => { results := [.lit (.bool true)], args := [d1, d2, d3] }
  | _ => none }
def fnExactLieTogetherRow : OpenClaim := { program := "ytfdcmlmemcbblaa", sum := "75b6426058d2055a0602b44c23fe09a64ddde69b9bedc11bcdd06728e3769c1c", func := "loop.example/segmentrooms/laws.FnExactLieTogether", spec := "fnExactLieTogether", unfollowed := true, recurses := true, apart := false }
def FnExactLieTogetherSaid : Prop := fnExactLieTogetherRow.holds Try.pinned (OpenSpec.ofChange fnExactLieTogetherSpec)

/-- ITS FALSE NEIGHBOUR: 'it returns false'. Refute it at one input. -/
def fnExactLieTogetherWrong : ChangeSpec := { name := "fnExactLieTogether", fn := fun _ => fun
  | [d1, d2, d3] => { results := [.lit (.bool false)], args := [d1, d2, d3] }
  | _ => none }
def FnExactLieTogetherWrongFalsely : Prop := fnExactLieTogetherRow.holds Try.pinned (OpenSpec.ofChange fnExactLieTogetherWrong)

/-- 'laws.FnExactOverlap': WHATEVER THE INPUT: true; the input reads as it did. -/
def fnExactOverlapSpec : ChangeSpec := { name := "fnExactOverlap", fn := fun _ => fun
  | [d1, d2, d3] => { results := [.lit (.bool true)], args := [d1, d2, d3] }
  | _ => none }
def fnExactOverlapRow : OpenClaim := { program := "ytfdcmlmemcbblaa", sum := "75b6426058d2055a0602b44c23fe09a64ddde69b9bedc11bcdd06728e3769c1c", func := "loop.example/segmentrooms/laws.FnExactOverlap", spec := "fnExactOverlap", recurses := true, apart := false }
def FnExactOverlapSaid : Prop := fnExactOverlapRow.holds Try.pinned (OpenSpec.ofChange fnExactOverlapSpec)

/-- ITS FALSE NEIGHBOUR: 'it returns false'. Refute it at one input. -/
def fnExactOverlapWrong : ChangeSpec := { name := "fnExactOverlap", fn := fun _ => fun
  | [d1, d2, d3] => { results := [.lit (.bool false)], args := [d1, d2, d3] }
  | _ => none }
def FnExactOverlapWrongFalsely : Prop := fnExactOverlapRow.holds Try.pinned (OpenSpec.ofChange fnExactOverlapWrong)

/-- 'laws.FnExactLongestPath': WHATEVER THE INPUT: true; the input reads as it did. -/
def fnExactLongestPathSpec : ChangeSpec := { name := "fnExactLongestPath", fn := fun _ => fun
  | [d] => { results := [.lit (.bool true)], args := [d] }
  | _ => none }
def fnExactLongestPathRow : OpenClaim := { program := "ytfdcmlmemcbblaa", sum := "75b6426058d2055a0602b44c23fe09a64ddde69b9bedc11bcdd06728e3769c1c", func := "loop.example/segmentrooms/laws.FnExactLongestPath", spec := "fnExactLongestPath", inPlace := ["internal/abi.NoEscape"], unfollowed := true, recurses := true, apart := false }
def FnExactLongestPathSaid : Prop := fnExactLongestPathRow.holds Try.pinned (OpenSpec.ofChange fnExactLongestPathSpec)

/-- ITS FALSE NEIGHBOUR: 'it returns false'. Refute it at one input. -/
def fnExactLongestPathWrong : ChangeSpec := { name := "fnExactLongestPath", fn := fun _ => fun
  | [d] => { results := [.lit (.bool false)], args := [d] }
  | _ => none }
def FnExactLongestPathWrongFalsely : Prop := fnExactLongestPathRow.holds Try.pinned (OpenSpec.ofChange fnExactLongestPathWrong)

/-- 'laws.FnExactLiesAt': WHATEVER THE INPUT: true; the input reads as it did. -/
def fnExactLiesAtSpec : ChangeSpec := { name := "fnExactLiesAt", fn := fun _ => fun
  | [d1, d2] => { results := [.lit (.bool true)], args := [d1, d2] }
  | _ => none }
def fnExactLiesAtRow : OpenClaim := { program := "ytfdcmlmemcbblaa", sum := "75b6426058d2055a0602b44c23fe09a64ddde69b9bedc11bcdd06728e3769c1c", func := "loop.example/segmentrooms/laws.FnExactLiesAt", spec := "fnExactLiesAt", inPlace := ["internal/abi.NoEscape"], unfollowed := true, recurses := true, apart := false }
def FnExactLiesAtSaid : Prop := fnExactLiesAtRow.holds Try.pinned (OpenSpec.ofChange fnExactLiesAtSpec)

/-- ITS FALSE NEIGHBOUR: 'it returns false'. Refute it at one input. -/
def fnExactLiesAtWrong : ChangeSpec := { name := "fnExactLiesAt", fn := fun _ => fun
  | [d1, d2] => { results := [.lit (.bool false)], args := [d1, d2] }
  | _ => none }
def FnExactLiesAtWrongFalsely : Prop := fnExactLiesAtRow.holds Try.pinned (OpenSpec.ofChange fnExactLiesAtWrong)

/- THE SECOND FORM. 'bulk': how many values and letters a reading holds, each counted each time it is reached (what is shared counts as often as it is met; a slice's spare places count too). A statement '..UptoSaid' is the law's where the arguments, and the package variables that the reading takes, are together of bulk at most 1048576: NARROWER than '..Said'. Prove '..Said' where nothing that the law and all that it calls make is longer than what came in: it says more and counts as full. Else prove '..UptoSaid'. A law counts once. -/
mutual
def uptoBulk {H : Type} : DataW H → Nat
  | .lit (.string bytes) => bytes.length + 1
  | .lit _ => 1
  | .nil => 1
  | .ptr d => uptoBulk d + 1
  | .slice elems spare => uptoBulkAll elems + uptoBulkAll spare + 1
  | .agg parts => uptoBulkAll parts + 1
  | .iface _ d => uptoBulk d + 1
  | .map entries => uptoBulkEntries entries + 1
  | .held _ => 1
def uptoBulkAll {H : Type} : List (DataW H) → Nat
  | [] => 0
  | d :: r => uptoBulk d + uptoBulkAll r
def uptoBulkEntries {H : Type} : List (Lit × DataW H) → Nat
  | [] => 0
  | x :: r => uptoBulkEntry x + uptoBulkEntries r
def uptoBulkEntry {H : Type} : Lit × DataW H → Nat
  | (.string bytes, d) => bytes.length + uptoBulk d + 1
  | (_, d) => uptoBulk d + 1
 end
def uptoSmall : (H : Type) → List (DataW H) → Bool := fun _ ds => decide (uptoBulkAll ds ≤ 1048576)
def OpenSpec.upto (s : _root_.Go.ChangeSpec) : _root_.Go.OpenSpec := { _root_.Go.OpenSpec.ofChange s with cond := some uptoSmall }

/-- 'laws.FnPathOf', WHERE WHAT IT READS IS OF BULK AT MOST 1048576: true; the input reads as it did. -/
def fnPathOfUptoRow : OpenClaim := { program := "ytfdcmlmemcbblaa", sum := "75b6426058d2055a0602b44c23fe09a64ddde69b9bedc11bcdd06728e3769c1c", func := "loop.example/segmentrooms/laws.FnPathOf", spec := "fnPathOf", inPlace := ["internal/abi.NoEscape"], unfollowed := true, recurses := true, apart := false, narrowed := true }
def FnPathOfUptoSaid : Prop := fnPathOfUptoRow.holds Try.pinned (OpenSpec.upto fnPathOfSpec)

/-- 'laws.FnCommonOf', WHERE WHAT IT READS IS OF BULK AT MOST 1048576: true; the input reads as it did. -/
def fnCommonOfUptoRow : OpenClaim := { program := "ytfdcmlmemcbblaa", sum := "75b6426058d2055a0602b44c23fe09a64ddde69b9bedc11bcdd06728e3769c1c", func := "loop.example/segmentrooms/laws.FnCommonOf", spec := "fnCommonOf", inPlace := ["internal/abi.NoEscape", "internal/bytealg.IndexByteString", "internal/bytealg.IndexString"], unfollowed := true, recurses := true, named := ["internal/bytealg.MaxLen"], apart := false, narrowed := true }
def FnCommonOfUptoSaid : Prop := fnCommonOfUptoRow.holds Try.pinned (OpenSpec.upto fnCommonOfSpec)

/-- 'laws.FnLieTogether', WHERE WHAT IT READS IS OF BULK AT MOST 1048576: true; the input reads as it did. -/
def fnLieTogetherUptoRow : OpenClaim := { program := "ytfdcmlmemcbblaa", sum := "75b6426058d2055a0602b44c23fe09a64ddde69b9bedc11bcdd06728e3769c1c", func := "loop.example/segmentrooms/laws.FnLieTogether", spec := "fnLieTogether", inPlace := ["internal/abi.NoEscape", "internal/bytealg.IndexByteString", "internal/bytealg.IndexString"], unfollowed := true, recurses := true, named := ["internal/bytealg.MaxLen"], apart := false, narrowed := true }
def FnLieTogetherUptoSaid : Prop := fnLieTogetherUptoRow.holds Try.pinned (OpenSpec.upto fnLieTogetherSpec)

/-- 'laws.FnLiesAt', WHERE WHAT IT READS IS OF BULK AT MOST 1048576: true; the input reads as it did. -/
def fnLiesAtUptoRow : OpenClaim := { program := "ytfdcmlmemcbblaa", sum := "75b6426058d2055a0602b44c23fe09a64ddde69b9bedc11bcdd06728e3769c1c", func := "loop.example/segmentrooms/laws.FnLiesAt", spec := "fnLiesAt", inPlace := ["internal/abi.NoEscape"], unfollowed := true, recurses := true, apart := false, narrowed := true }
def FnLiesAtUptoSaid : Prop := fnLiesAtUptoRow.holds Try.pinned (OpenSpec.upto fnLiesAtSpec)

/-- 'laws.FnExactParseTree', WHERE WHAT IT READS IS OF BULK AT MOST 1048576: true; the input reads as it did. -/
def fnExactParseTreeUptoRow : OpenClaim := { program := "ytfdcmlmemcbblaa", sum := "75b6426058d2055a0602b44c23fe09a64ddde69b9bedc11bcdd06728e3769c1c", func := "loop.example/segmentrooms/laws.FnExactParseTree", spec := "fnExactParseTree", unfollowed := true, recurses := true, apart := false, narrowed := true }
def FnExactParseTreeUptoSaid : Prop := fnExactParseTreeUptoRow.holds Try.pinned (OpenSpec.upto fnExactParseTreeSpec)

/-- 'laws.FnExactAddressOf', WHERE WHAT IT READS IS OF BULK AT MOST 1048576: true; the input reads as it did. -/
def fnExactAddressOfUptoRow : OpenClaim := { program := "ytfdcmlmemcbblaa", sum := "75b6426058d2055a0602b44c23fe09a64ddde69b9bedc11bcdd06728e3769c1c", func := "loop.example/segmentrooms/laws.FnExactAddressOf", spec := "fnExactAddressOf", recurses := true, apart := false, narrowed := true }
def FnExactAddressOfUptoSaid : Prop := fnExactAddressOfUptoRow.holds Try.pinned (OpenSpec.upto fnExactAddressOfSpec)

/-- 'laws.FnExactEndOf', WHERE WHAT IT READS IS OF BULK AT MOST 1048576: true; the input reads as it did. -/
def fnExactEndOfUptoRow : OpenClaim := { program := "ytfdcmlmemcbblaa", sum := "75b6426058d2055a0602b44c23fe09a64ddde69b9bedc11bcdd06728e3769c1c", func := "loop.example/segmentrooms/laws.FnExactEndOf", spec := "fnExactEndOf", recurses := true, apart := false, narrowed := true }
def FnExactEndOfUptoSaid : Prop := fnExactEndOfUptoRow.holds Try.pinned (OpenSpec.upto fnExactEndOfSpec)

/-- 'laws.FnExactRoomOf', WHERE WHAT IT READS IS OF BULK AT MOST 1048576: true; the input reads as it did. -/
def fnExactRoomOfUptoRow : OpenClaim := { program := "ytfdcmlmemcbblaa", sum := "75b6426058d2055a0602b44c23fe09a64ddde69b9bedc11bcdd06728e3769c1c", func := "loop.example/segmentrooms/laws.FnExactRoomOf", spec := "fnExactRoomOf", unfollowed := true, recurses := true, apart := false, narrowed := true }
def FnExactRoomOfUptoSaid : Prop := fnExactRoomOfUptoRow.holds Try.pinned (OpenSpec.upto fnExactRoomOfSpec)

/-- 'laws.FnExactSavedRoom', WHERE WHAT IT READS IS OF BULK AT MOST 1048576: true; the input reads as it did. -/
def fnExactSavedRoomUptoRow : OpenClaim := { program := "ytfdcmlmemcbblaa", sum := "75b6426058d2055a0602b44c23fe09a64ddde69b9bedc11bcdd06728e3769c1c", func := "loop.example/segmentrooms/laws.FnExactSavedRoom", spec := "fnExactSavedRoom", unfollowed := true, recurses := true, apart := false, narrowed := true }
def FnExactSavedRoomUptoSaid : Prop := fnExactSavedRoomUptoRow.holds Try.pinned (OpenSpec.upto fnExactSavedRoomSpec)

/-- 'laws.FnExactLieTogether', WHERE WHAT IT READS IS OF BULK AT MOST 1048576: true; the input reads as it did. -/
def fnExactLieTogetherUptoRow : OpenClaim := { program := "ytfdcmlmemcbblaa", sum := "75b6426058d2055a0602b44c23fe09a64ddde69b9bedc11bcdd06728e3769c1c", func := "loop.example/segmentrooms/laws.FnExactLieTogether", spec := "fnExactLieTogether", unfollowed := true, recurses := true, apart := false, narrowed := true }
def FnExactLieTogetherUptoSaid : Prop := fnExactLieTogetherUptoRow.holds Try.pinned (OpenSpec.upto fnExactLieTogetherSpec)

/-- 'laws.FnExactOverlap', WHERE WHAT IT READS IS OF BULK AT MOST 1048576: true; the input reads as it did. -/
def fnExactOverlapUptoRow : OpenClaim := { program := "ytfdcmlmemcbblaa", sum := "75b6426058d2055a0602b44c23fe09a64ddde69b9bedc11bcdd06728e3769c1c", func := "loop.example/segmentrooms/laws.FnExactOverlap", spec := "fnExactOverlap", recurses := true, apart := false, narrowed := true }
def FnExactOverlapUptoSaid : Prop := fnExactOverlapUptoRow.holds Try.pinned (OpenSpec.upto fnExactOverlapSpec)

/-- 'laws.FnExactLongestPath', WHERE WHAT IT READS IS OF BULK AT MOST 1048576: true; the input reads as it did. -/
def fnExactLongestPathUptoRow : OpenClaim := { program := "ytfdcmlmemcbblaa", sum := "75b6426058d2055a0602b44c23fe09a64ddde69b9bedc11bcdd06728e3769c1c", func := "loop.example/segmentrooms/laws.FnExactLongestPath", spec := "fnExactLongestPath", inPlace := ["internal/abi.NoEscape"], unfollowed := true, recurses := true, apart := false, narrowed := true }
def FnExactLongestPathUptoSaid : Prop := fnExactLongestPathUptoRow.holds Try.pinned (OpenSpec.upto fnExactLongestPathSpec)

/-- 'laws.FnExactLiesAt', WHERE WHAT IT READS IS OF BULK AT MOST 1048576: true; the input reads as it did. -/
def fnExactLiesAtUptoRow : OpenClaim := { program := "ytfdcmlmemcbblaa", sum := "75b6426058d2055a0602b44c23fe09a64ddde69b9bedc11bcdd06728e3769c1c", func := "loop.example/segmentrooms/laws.FnExactLiesAt", spec := "fnExactLiesAt", inPlace := ["internal/abi.NoEscape"], unfollowed := true, recurses := true, apart := false, narrowed := true }
def FnExactLiesAtUptoSaid : Prop := fnExactLiesAtUptoRow.holds Try.pinned (OpenSpec.upto fnExactLiesAtSpec)

end Rows
end Go.Proofs.Ytfdcmlmemcbblaa
