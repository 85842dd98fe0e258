/-
  DERIVED. GIVEN WITH THE SEED: THE CARDS: each row of YtcpiojliakgdlaaGreatDoorRows.lean that lists a variable, with what it lists TIED to the program's text (the seventh form; the later family's looks); each row that meets fmt, with fmt's text TOLD by the authors' own Lean function (tested against real Go, not proved from fmt's source: count such statements apart). THE CARD IS WHAT COUNTS. Prove the row's statement (the work); the ties are given (YtcpiojliakgdlaaGreatDoorTie.lean); close each card by the builder's one call (the guide's Derived/Test/ToyasCard.lean, 'card_holds'). Laid BY PROGRAM, IN A SANDBOX (cutbox-door.mjs). By AI agents, Wed Nov 11 2026. No macro, syntax, notation, axiom, sorry.
-/
import Derived.Test.YtcpiojliakgdlaaGreatDoorRows
import GoSem.ClaimSeven
namespace Go.Proofs.YtcpiojliakgdlaaGreatDoor
namespace Rows

/-- THE TIED CARD OF 'laws.FnRoomLeft'. -/
def fnRoomLeftCard : Claim7 := { stood := { row := fnRoomLeftRow, standIns := [], harness := (true, "9cdfb630792a7af7d4b19a17fb4f1de9e2974837cb13468da4648abeb3c736ad"), looks := false }, kinds := [], alts := [], laidByText := true, laidKinds := [.data, .pinned], laidTests := true, laidLooks := .later }
def FnRoomLeftCardSaid : Prop := Claim7.holds Tryz.pinned (.plain (OpenSpec.ofChange fnRoomLeftSpec)) fnRoomLeftCard

/-- THE SECOND FORM's CARD OF 'laws.FnRoomLeft'. -/
def fnRoomLeftUptoCard : Claim7 := { stood := { row := fnRoomLeftUptoRow, standIns := [], harness := (true, "9cdfb630792a7af7d4b19a17fb4f1de9e2974837cb13468da4648abeb3c736ad"), looks := false }, kinds := [], alts := [], laidByText := true, laidKinds := [.data, .pinned], laidTests := true, laidLooks := .later }
def FnRoomLeftUptoCardSaid : Prop := Claim7.holds Tryz.pinned (.plain (OpenSpec.upto fnRoomLeftSpec)) fnRoomLeftUptoCard
end Rows
end Go.Proofs.YtcpiojliakgdlaaGreatDoor
