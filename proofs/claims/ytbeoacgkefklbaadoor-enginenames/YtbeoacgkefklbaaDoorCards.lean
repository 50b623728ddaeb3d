/-
  DERIVED. GIVEN WITH THE SEED: THE CARDS: each row of YtbeoacgkefklbaaDoorRows.lean that lists a variable, with what it lists TIED to the program's text (the seventh form; the later family's looks); each row that meets fmt, with fmt's text TOLD by the authors' own Lean function (tested against real Go, not proved from fmt's source: count such statements apart). THE CARD IS WHAT COUNTS. Prove the row's statement (the work); the ties are given (YtbeoacgkefklbaaDoorTie.lean); close each card by the builder's one call (the guide's Derived/Test/ToyasCard.lean, 'card_holds'). Laid BY PROGRAM, IN A SANDBOX (cutbox-door.mjs). By AI agents, Wed Nov 11 2026. No macro, syntax, notation, axiom, sorry.
-/
import Derived.Test.YtbeoacgkefklbaaDoorRows
import GoSem.ClaimSeven
namespace Go.Proofs.YtbeoacgkefklbaaDoor
namespace Rows

/-- THE TIED CARD OF 'hoardlaw15.EngineNames'. -/
def engineNamesCard : Claim7 := { stood := { row := engineNamesRow, standIns := [], harness := (true, "a81038a46bbe8be50beded116158456d480218a293a0cd0ed3cb415c43201160"), looks := false }, kinds := [], alts := [], laidByText := true, laidKinds := [.data], laidTests := true, laidLooks := .later }
def EngineNamesCardSaid : Prop := Claim7.holds Tryd.pinned (.plain (OpenSpec.ofChange engineNamesSpec)) engineNamesCard

/-- THE SECOND FORM's CARD OF 'hoardlaw15.EngineNames'. -/
def engineNamesUptoCard : Claim7 := { stood := { row := engineNamesUptoRow, standIns := [], harness := (true, "a81038a46bbe8be50beded116158456d480218a293a0cd0ed3cb415c43201160"), looks := false }, kinds := [], alts := [], laidByText := true, laidKinds := [.data], laidTests := true, laidLooks := .later }
def EngineNamesUptoCardSaid : Prop := Claim7.holds Tryd.pinned (.plain (OpenSpec.upto engineNamesSpec)) engineNamesUptoCard
end Rows
end Go.Proofs.YtbeoacgkefklbaaDoor
