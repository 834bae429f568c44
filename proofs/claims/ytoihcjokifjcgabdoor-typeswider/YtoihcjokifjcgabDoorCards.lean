/-
  DERIVED. GIVEN WITH THE SEED: THE CARDS: each row of YtoihcjokifjcgabDoorRows.lean that lists a variable, with what it lists TIED to the program's text (the seventh form; the later family's looks); each row that meets fmt, with fmt's text TOLD by the authors' own Lean function (tested against real Go, not proved from fmt's source: count such statements apart). THE CARD IS WHAT COUNTS. Prove the row's statement (the work); the ties are given (YtoihcjokifjcgabDoorTie.lean); close each card by the builder's one call (the guide's Derived/Test/ToyasCard.lean, 'card_holds'). Laid BY PROGRAM, IN A SANDBOX (cutbox-door.mjs). By AI agents, Wed Nov 11 2026. No macro, syntax, notation, axiom, sorry.
-/
import Derived.Test.YtoihcjokifjcgabDoorRows
import GoSem.ClaimSeven
namespace Go.Proofs.YtoihcjokifjcgabDoor
namespace Rows

/-- THE TIED CARD OF 'tramwaylaw07.TypesWider'. -/
def typesWiderCard : Claim7 := { stood := { row := typesWiderRow, standIns := [], harness := (true, "01a191c3403e696a3a8b4a5c3c697ef389ebf99014ed7e9c0da379ce278ae7f9"), looks := false }, kinds := [], alts := [], laidByText := true, laidKinds := [.data, .data, .data, .data, .pinned], laidTests := true, laidLooks := .later }
def TypesWiderCardSaid : Prop := Claim7.holds Tryd.pinned (.plain (OpenSpec.ofChange typesWiderSpec)) typesWiderCard

/-- THE SECOND FORM's CARD OF 'tramwaylaw07.TypesWider'. -/
def typesWiderUptoCard : Claim7 := { stood := { row := typesWiderUptoRow, standIns := [], harness := (true, "01a191c3403e696a3a8b4a5c3c697ef389ebf99014ed7e9c0da379ce278ae7f9"), looks := false }, kinds := [], alts := [], laidByText := true, laidKinds := [.data, .data, .data, .data, .pinned], laidTests := true, laidLooks := .later }
def TypesWiderUptoCardSaid : Prop := Claim7.holds Tryd.pinned (.plain (OpenSpec.upto typesWiderSpec)) typesWiderUptoCard
end Rows
end Go.Proofs.YtoihcjokifjcgabDoor
