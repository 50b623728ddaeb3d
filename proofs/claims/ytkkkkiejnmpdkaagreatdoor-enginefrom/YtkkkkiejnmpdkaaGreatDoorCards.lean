/-
  DERIVED. GIVEN WITH THE SEED: THE CARDS: each row of YtkkkkiejnmpdkaaGreatDoorRows.lean that lists a variable, with what it lists TIED to the program's text (the seventh form; the later family's looks); each row that meets fmt, with fmt's text TOLD by the authors' own Lean function (tested against real Go, not proved from fmt's source: count such statements apart). THE CARD IS WHAT COUNTS. Prove the row's statement (the work); the ties are given (YtkkkkiejnmpdkaaGreatDoorTie.lean); close each card by the builder's one call (the guide's Derived/Test/ToyasCard.lean, 'card_holds'). Laid BY PROGRAM, IN A SANDBOX (cutbox-door.mjs). By AI agents, Wed Nov 11 2026. No macro, syntax, notation, axiom, sorry.
-/
import Derived.Test.YtkkkkiejnmpdkaaGreatDoorRows
import GoSem.ClaimSeven
namespace Go.Proofs.YtkkkkiejnmpdkaaGreatDoor
namespace Rows

/-- THE TIED CARD OF 'hoardlaw15.EnginePlays'. -/
def enginePlaysCard : Claim7 := { stood := { row := enginePlaysRow, standIns := [], harness := (true, "163beb20ab17da91df7896a284226d725bafb0eade1037b1fbe8c7a31245d662"), looks := false }, kinds := [], alts := [], laidByText := true, laidKinds := [.data], laidTests := true, laidLooks := .later }
def EnginePlaysCardSaid : Prop := Claim7.holds Tryz.pinned (.plain (OpenSpec.ofChange enginePlaysSpec)) enginePlaysCard

/-- THE TIED CARD OF 'hoardlaw15.EngineFrom'. -/
def engineFromCard : Claim7 := { stood := { row := engineFromRow, standIns := [], harness := (true, "163beb20ab17da91df7896a284226d725bafb0eade1037b1fbe8c7a31245d662"), looks := false }, kinds := [], alts := [], laidByText := true, laidKinds := [.data], laidTests := true, laidLooks := .later }
def EngineFromCardSaid : Prop := Claim7.holds Tryz.pinned (.plain (OpenSpec.ofChange engineFromSpec)) engineFromCard

/-- THE TIED CARD OF 'hoardlaw15.EngineMoves'. -/
def engineMovesCard : Claim7 := { stood := { row := engineMovesRow, standIns := [], harness := (true, "163beb20ab17da91df7896a284226d725bafb0eade1037b1fbe8c7a31245d662"), looks := false }, kinds := [], alts := [], laidByText := true, laidKinds := [.data], laidTests := true, laidLooks := .later }
def EngineMovesCardSaid : Prop := Claim7.holds Tryz.pinned (.plain (OpenSpec.ofChange engineMovesSpec)) engineMovesCard

/-- THE SECOND FORM's CARD OF 'hoardlaw15.EnginePlays'. -/
def enginePlaysUptoCard : Claim7 := { stood := { row := enginePlaysUptoRow, standIns := [], harness := (true, "163beb20ab17da91df7896a284226d725bafb0eade1037b1fbe8c7a31245d662"), looks := false }, kinds := [], alts := [], laidByText := true, laidKinds := [.data], laidTests := true, laidLooks := .later }
def EnginePlaysUptoCardSaid : Prop := Claim7.holds Tryz.pinned (.plain (OpenSpec.upto enginePlaysSpec)) enginePlaysUptoCard

/-- THE SECOND FORM's CARD OF 'hoardlaw15.EngineFrom'. -/
def engineFromUptoCard : Claim7 := { stood := { row := engineFromUptoRow, standIns := [], harness := (true, "163beb20ab17da91df7896a284226d725bafb0eade1037b1fbe8c7a31245d662"), looks := false }, kinds := [], alts := [], laidByText := true, laidKinds := [.data], laidTests := true, laidLooks := .later }
def EngineFromUptoCardSaid : Prop := Claim7.holds Tryz.pinned (.plain (OpenSpec.upto engineFromSpec)) engineFromUptoCard

/-- THE SECOND FORM's CARD OF 'hoardlaw15.EngineMoves'. -/
def engineMovesUptoCard : Claim7 := { stood := { row := engineMovesUptoRow, standIns := [], harness := (true, "163beb20ab17da91df7896a284226d725bafb0eade1037b1fbe8c7a31245d662"), looks := false }, kinds := [], alts := [], laidByText := true, laidKinds := [.data], laidTests := true, laidLooks := .later }
def EngineMovesUptoCardSaid : Prop := Claim7.holds Tryz.pinned (.plain (OpenSpec.upto engineMovesSpec)) engineMovesUptoCard
end Rows
end Go.Proofs.YtkkkkiejnmpdkaaGreatDoor
