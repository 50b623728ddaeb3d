/-
  DERIVED. GIVEN WITH THE SEED: THE CARDS: each row of YtnbfokmodjgaaaaDoorRows.lean that lists a variable, with what it lists TIED to the program's text (the seventh form; the later family's looks); each row that meets fmt, with fmt's text TOLD by the authors' own Lean function (tested against real Go, not proved from fmt's source: count such statements apart). THE CARD IS WHAT COUNTS. Prove the row's statement (the work); the ties are given (YtnbfokmodjgaaaaDoorTie.lean); close each card by the builder's one call (the guide's Derived/Test/ToyasCard.lean, 'card_holds'). Laid BY PROGRAM, IN A SANDBOX (cutbox-door.mjs). By AI agents, Wed Nov 11 2026. No macro, syntax, notation, axiom, sorry.
-/
import Derived.Test.YtnbfokmodjgaaaaDoorRows
import GoSem.ClaimSeven
namespace Go.Proofs.YtnbfokmodjgaaaaDoor
namespace Rows

/-- THE TIED CARD OF 'hoardlaw12.S3fifoPlays'. -/
def s3fifoPlaysCard : Claim7 := { stood := { row := s3fifoPlaysRow, standIns := [], harness := (true, "84edf361a895259d6f07645cbe153a3ef5cdc3424144e0593af33fc1a0a2279b"), looks := false }, kinds := [], alts := [], laidByText := true, laidKinds := [.data, .data, .data], laidTests := true, laidLooks := .later }
def S3fifoPlaysCardSaid : Prop := Claim7.holds Tryd.pinned (.plain (OpenSpec.ofChange s3fifoPlaysSpec)) s3fifoPlaysCard

/-- THE TIED CARD OF 'hoardlaw12.S3fifoBounds'. -/
def s3fifoBoundsCard : Claim7 := { stood := { row := s3fifoBoundsRow, standIns := [], harness := (true, "84edf361a895259d6f07645cbe153a3ef5cdc3424144e0593af33fc1a0a2279b"), looks := false }, kinds := [], alts := [], laidByText := true, laidKinds := [.data, .data, .data], laidTests := true, laidLooks := .later }
def S3fifoBoundsCardSaid : Prop := Claim7.holds Tryd.pinned (.plain (OpenSpec.ofChange s3fifoBoundsSpec)) s3fifoBoundsCard

/-- THE TIED CARD OF 'hoardlaw12.S3fifoTold'. -/
def s3fifoToldCard : Claim7 := { stood := { row := s3fifoToldRow, standIns := [], harness := (true, "84edf361a895259d6f07645cbe153a3ef5cdc3424144e0593af33fc1a0a2279b"), looks := false }, kinds := [], alts := [], laidByText := true, laidKinds := [.data, .data, .data], laidTests := true, laidLooks := .later }
def S3fifoToldCardSaid : Prop := Claim7.holds Tryd.pinned (.plain (OpenSpec.ofChange s3fifoToldSpec)) s3fifoToldCard

/-- THE TIED CARD OF 'hoardlaw12.S3fifoEmpties'. -/
def s3fifoEmptiesCard : Claim7 := { stood := { row := s3fifoEmptiesRow, standIns := [], harness := (true, "84edf361a895259d6f07645cbe153a3ef5cdc3424144e0593af33fc1a0a2279b"), looks := false }, kinds := [], alts := [], laidByText := true, laidKinds := [.data, .data, .data], laidTests := true, laidLooks := .later }
def S3fifoEmptiesCardSaid : Prop := Claim7.holds Tryd.pinned (.plain (OpenSpec.ofChange s3fifoEmptiesSpec)) s3fifoEmptiesCard

/-- THE TIED CARD OF 'hoardlaw12.S3fifoLoads'. -/
def s3fifoLoadsCard : Claim7 := { stood := { row := s3fifoLoadsRow, standIns := [], harness := (true, "84edf361a895259d6f07645cbe153a3ef5cdc3424144e0593af33fc1a0a2279b"), looks := false }, kinds := [], alts := [], laidByText := true, laidKinds := [.data, .data, .data], laidTests := true, laidLooks := .later }
def S3fifoLoadsCardSaid : Prop := Claim7.holds Tryd.pinned (.plain (OpenSpec.ofChange s3fifoLoadsSpec)) s3fifoLoadsCard

/-- THE TIED CARD OF 'hoardlaw12.S3fifoRemoves'. -/
def s3fifoRemovesCard : Claim7 := { stood := { row := s3fifoRemovesRow, standIns := [], harness := (true, "84edf361a895259d6f07645cbe153a3ef5cdc3424144e0593af33fc1a0a2279b"), looks := false }, kinds := [], alts := [], laidByText := true, laidKinds := [.data, .data, .data], laidTests := true, laidLooks := .later }
def S3fifoRemovesCardSaid : Prop := Claim7.holds Tryd.pinned (.plain (OpenSpec.ofChange s3fifoRemovesSpec)) s3fifoRemovesCard

/-- THE SECOND FORM's CARD OF 'hoardlaw12.S3fifoPlays'. -/
def s3fifoPlaysUptoCard : Claim7 := { stood := { row := s3fifoPlaysUptoRow, standIns := [], harness := (true, "84edf361a895259d6f07645cbe153a3ef5cdc3424144e0593af33fc1a0a2279b"), looks := false }, kinds := [], alts := [], laidByText := true, laidKinds := [.data, .data, .data], laidTests := true, laidLooks := .later }
def S3fifoPlaysUptoCardSaid : Prop := Claim7.holds Tryd.pinned (.plain (OpenSpec.upto s3fifoPlaysSpec)) s3fifoPlaysUptoCard

/-- THE SECOND FORM's CARD OF 'hoardlaw12.S3fifoBounds'. -/
def s3fifoBoundsUptoCard : Claim7 := { stood := { row := s3fifoBoundsUptoRow, standIns := [], harness := (true, "84edf361a895259d6f07645cbe153a3ef5cdc3424144e0593af33fc1a0a2279b"), looks := false }, kinds := [], alts := [], laidByText := true, laidKinds := [.data, .data, .data], laidTests := true, laidLooks := .later }
def S3fifoBoundsUptoCardSaid : Prop := Claim7.holds Tryd.pinned (.plain (OpenSpec.upto s3fifoBoundsSpec)) s3fifoBoundsUptoCard

/-- THE SECOND FORM's CARD OF 'hoardlaw12.S3fifoTold'. -/
def s3fifoToldUptoCard : Claim7 := { stood := { row := s3fifoToldUptoRow, standIns := [], harness := (true, "84edf361a895259d6f07645cbe153a3ef5cdc3424144e0593af33fc1a0a2279b"), looks := false }, kinds := [], alts := [], laidByText := true, laidKinds := [.data, .data, .data], laidTests := true, laidLooks := .later }
def S3fifoToldUptoCardSaid : Prop := Claim7.holds Tryd.pinned (.plain (OpenSpec.upto s3fifoToldSpec)) s3fifoToldUptoCard

/-- THE SECOND FORM's CARD OF 'hoardlaw12.S3fifoEmpties'. -/
def s3fifoEmptiesUptoCard : Claim7 := { stood := { row := s3fifoEmptiesUptoRow, standIns := [], harness := (true, "84edf361a895259d6f07645cbe153a3ef5cdc3424144e0593af33fc1a0a2279b"), looks := false }, kinds := [], alts := [], laidByText := true, laidKinds := [.data, .data, .data], laidTests := true, laidLooks := .later }
def S3fifoEmptiesUptoCardSaid : Prop := Claim7.holds Tryd.pinned (.plain (OpenSpec.upto s3fifoEmptiesSpec)) s3fifoEmptiesUptoCard

/-- THE SECOND FORM's CARD OF 'hoardlaw12.S3fifoLoads'. -/
def s3fifoLoadsUptoCard : Claim7 := { stood := { row := s3fifoLoadsUptoRow, standIns := [], harness := (true, "84edf361a895259d6f07645cbe153a3ef5cdc3424144e0593af33fc1a0a2279b"), looks := false }, kinds := [], alts := [], laidByText := true, laidKinds := [.data, .data, .data], laidTests := true, laidLooks := .later }
def S3fifoLoadsUptoCardSaid : Prop := Claim7.holds Tryd.pinned (.plain (OpenSpec.upto s3fifoLoadsSpec)) s3fifoLoadsUptoCard

/-- THE SECOND FORM's CARD OF 'hoardlaw12.S3fifoRemoves'. -/
def s3fifoRemovesUptoCard : Claim7 := { stood := { row := s3fifoRemovesUptoRow, standIns := [], harness := (true, "84edf361a895259d6f07645cbe153a3ef5cdc3424144e0593af33fc1a0a2279b"), looks := false }, kinds := [], alts := [], laidByText := true, laidKinds := [.data, .data, .data], laidTests := true, laidLooks := .later }
def S3fifoRemovesUptoCardSaid : Prop := Claim7.holds Tryd.pinned (.plain (OpenSpec.upto s3fifoRemovesSpec)) s3fifoRemovesUptoCard
end Rows
end Go.Proofs.YtnbfokmodjgaaaaDoor
