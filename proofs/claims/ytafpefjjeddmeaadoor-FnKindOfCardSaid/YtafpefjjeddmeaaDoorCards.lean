/-
  DERIVED. GIVEN WITH THE SEED: THE CARDS: each row of YtafpefjjeddmeaaDoorRows.lean that lists a variable, with what it lists TIED to the program's text (the seventh form; the later family's looks); each row that meets fmt, with fmt's text TOLD by the authors' own Lean function (tested against real Go, not proved from fmt's source: count such statements apart). THE CARD IS WHAT COUNTS. Prove the row's statement (the work); the ties are given (YtafpefjjeddmeaaDoorTie.lean); close each card by the builder's one call (the guide's Derived/Test/ToyasCard.lean, 'card_holds'). Laid BY PROGRAM, IN A SANDBOX (cutbox-door.mjs). By AI agents, Wed Nov 11 2026. No macro, syntax, notation, axiom, sorry.
-/
import Derived.Test.YtafpefjjeddmeaaDoorRows
import GoSem.ClaimSeven
namespace Go.Proofs.YtafpefjjeddmeaaDoor
namespace Rows

/-- THE TIED CARD OF 'laws.FnKindOf'. -/
def fnKindOfCard : Claim7 := { stood := { row := fnKindOfRow, standIns := [], harness := (true, "b8a57a2987c8771e6bc027d0e92d934d61bdb234a89f93358df58810b499154b"), looks := false }, kinds := [], alts := [], laidByText := true, laidKinds := [.data], laidTests := true, laidLooks := .later }
def FnKindOfCardSaid : Prop := Claim7.holds Tryd.pinned (.plain (OpenSpec.ofChange fnKindOfSpec)) fnKindOfCard

/-- THE TIED CARD OF 'laws.FnExactNameOfKind'. -/
def fnExactNameOfKindCard : Claim7 := { stood := { row := fnExactNameOfKindRow, standIns := [], harness := (true, "b8a57a2987c8771e6bc027d0e92d934d61bdb234a89f93358df58810b499154b"), looks := false }, kinds := [], alts := [], laidByText := true, laidKinds := [.data], laidTests := true, laidLooks := .later }
def FnExactNameOfKindCardSaid : Prop := Claim7.holds Tryd.pinned (.plain (OpenSpec.ofChange fnExactNameOfKindSpec)) fnExactNameOfKindCard

/-- THE SECOND FORM's CARD OF 'laws.FnKindOf'. -/
def fnKindOfUptoCard : Claim7 := { stood := { row := fnKindOfUptoRow, standIns := [], harness := (true, "b8a57a2987c8771e6bc027d0e92d934d61bdb234a89f93358df58810b499154b"), looks := false }, kinds := [], alts := [], laidByText := true, laidKinds := [.data], laidTests := true, laidLooks := .later }
def FnKindOfUptoCardSaid : Prop := Claim7.holds Tryd.pinned (.plain (OpenSpec.upto fnKindOfSpec)) fnKindOfUptoCard

/-- THE SECOND FORM's CARD OF 'laws.FnExactNameOfKind'. -/
def fnExactNameOfKindUptoCard : Claim7 := { stood := { row := fnExactNameOfKindUptoRow, standIns := [], harness := (true, "b8a57a2987c8771e6bc027d0e92d934d61bdb234a89f93358df58810b499154b"), looks := false }, kinds := [], alts := [], laidByText := true, laidKinds := [.data], laidTests := true, laidLooks := .later }
def FnExactNameOfKindUptoCardSaid : Prop := Claim7.holds Tryd.pinned (.plain (OpenSpec.upto fnExactNameOfKindSpec)) fnExactNameOfKindUptoCard
end Rows
end Go.Proofs.YtafpefjjeddmeaaDoor
