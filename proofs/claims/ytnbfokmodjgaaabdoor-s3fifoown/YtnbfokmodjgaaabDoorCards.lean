/-
  DERIVED. GIVEN WITH THE SEED: THE CARDS: each row of YtnbfokmodjgaaabDoorRows.lean that lists a variable, with what it lists TIED to the program's text (the seventh form; the later family's looks); each row that meets fmt, with fmt's text TOLD by the authors' own Lean function (tested against real Go, not proved from fmt's source: count such statements apart). THE CARD IS WHAT COUNTS. Prove the row's statement (the work); the ties are given (YtnbfokmodjgaaabDoorTie.lean); close each card by the builder's one call (the guide's Derived/Test/ToyasCard.lean, 'card_holds'). Laid BY PROGRAM, IN A SANDBOX (cutbox-door.mjs). By AI agents, Wed Nov 11 2026. No macro, syntax, notation, axiom, sorry.
-/
import Derived.Test.YtnbfokmodjgaaabDoorRows
import GoSem.ClaimSeven
namespace Go.Proofs.YtnbfokmodjgaaabDoor
namespace Rows

/-- THE TIED CARD OF 'hoardlaw12.S3fifoOfNothing'. -/
def s3fifoOfNothingCard : Claim7 := { stood := { row := s3fifoOfNothingRow, standIns := [], harness := (true, "14bc1a82f33b0d9c4810140d5c12b0d6e8d36941f2efec61b05d2cc25560924c"), looks := false }, kinds := [], alts := [], laidByText := true, laidKinds := [.data, .data, .data], laidTests := true, laidLooks := .later }
def S3fifoOfNothingCardSaid : Prop := Claim7.holds Tryd.pinned (.plain (OpenSpec.ofChange s3fifoOfNothingSpec)) s3fifoOfNothingCard

/-- THE TIED CARD OF 'hoardlaw12.S3fifoOnce'. -/
def s3fifoOnceCard : Claim7 := { stood := { row := s3fifoOnceRow, standIns := [], harness := (true, "14bc1a82f33b0d9c4810140d5c12b0d6e8d36941f2efec61b05d2cc25560924c"), looks := false }, kinds := [], alts := [], laidByText := true, laidKinds := [.data, .data, .data], laidTests := true, laidLooks := .later }
def S3fifoOnceCardSaid : Prop := Claim7.holds Tryd.pinned (.plain (OpenSpec.ofChange s3fifoOnceSpec)) s3fifoOnceCard

/-- THE TIED CARD OF 'hoardlaw12.S3fifoFits'. -/
def s3fifoFitsCard : Claim7 := { stood := { row := s3fifoFitsRow, standIns := [], harness := (true, "14bc1a82f33b0d9c4810140d5c12b0d6e8d36941f2efec61b05d2cc25560924c"), looks := false }, kinds := [], alts := [], laidByText := true, laidKinds := [.data, .data, .data], laidTests := true, laidLooks := .later }
def S3fifoFitsCardSaid : Prop := Claim7.holds Tryd.pinned (.plain (OpenSpec.ofChange s3fifoFitsSpec)) s3fifoFitsCard

/-- THE TIED CARD OF 'hoardlaw12.S3fifoOne'. -/
def s3fifoOneCard : Claim7 := { stood := { row := s3fifoOneRow, standIns := [], harness := (true, "14bc1a82f33b0d9c4810140d5c12b0d6e8d36941f2efec61b05d2cc25560924c"), looks := false }, kinds := [], alts := [], laidByText := true, laidKinds := [.data, .data, .data], laidTests := true, laidLooks := .later }
def S3fifoOneCardSaid : Prop := Claim7.holds Tryd.pinned (.plain (OpenSpec.ofChange s3fifoOneSpec)) s3fifoOneCard

/-- THE TIED CARD OF 'hoardlaw12.S3fifoCounts'. -/
def s3fifoCountsCard : Claim7 := { stood := { row := s3fifoCountsRow, standIns := [], harness := (true, "14bc1a82f33b0d9c4810140d5c12b0d6e8d36941f2efec61b05d2cc25560924c"), looks := false }, kinds := [], alts := [], laidByText := true, laidKinds := [.data, .data, .data], laidTests := true, laidLooks := .later }
def S3fifoCountsCardSaid : Prop := Claim7.holds Tryd.pinned (.plain (OpenSpec.ofChange s3fifoCountsSpec)) s3fifoCountsCard

/-- THE TIED CARD OF 'hoardlaw12.S3fifoOwn'. -/
def s3fifoOwnCard : Claim7 := { stood := { row := s3fifoOwnRow, standIns := [], harness := (true, "14bc1a82f33b0d9c4810140d5c12b0d6e8d36941f2efec61b05d2cc25560924c"), looks := false }, kinds := [], alts := [], laidByText := true, laidKinds := [.data, .data, .data], laidTests := true, laidLooks := .later }
def S3fifoOwnCardSaid : Prop := Claim7.holds Tryd.pinned (.plain (OpenSpec.ofChange s3fifoOwnSpec)) s3fifoOwnCard

/-- THE SECOND FORM's CARD OF 'hoardlaw12.S3fifoOfNothing'. -/
def s3fifoOfNothingUptoCard : Claim7 := { stood := { row := s3fifoOfNothingUptoRow, standIns := [], harness := (true, "14bc1a82f33b0d9c4810140d5c12b0d6e8d36941f2efec61b05d2cc25560924c"), looks := false }, kinds := [], alts := [], laidByText := true, laidKinds := [.data, .data, .data], laidTests := true, laidLooks := .later }
def S3fifoOfNothingUptoCardSaid : Prop := Claim7.holds Tryd.pinned (.plain (OpenSpec.upto s3fifoOfNothingSpec)) s3fifoOfNothingUptoCard

/-- THE SECOND FORM's CARD OF 'hoardlaw12.S3fifoOnce'. -/
def s3fifoOnceUptoCard : Claim7 := { stood := { row := s3fifoOnceUptoRow, standIns := [], harness := (true, "14bc1a82f33b0d9c4810140d5c12b0d6e8d36941f2efec61b05d2cc25560924c"), looks := false }, kinds := [], alts := [], laidByText := true, laidKinds := [.data, .data, .data], laidTests := true, laidLooks := .later }
def S3fifoOnceUptoCardSaid : Prop := Claim7.holds Tryd.pinned (.plain (OpenSpec.upto s3fifoOnceSpec)) s3fifoOnceUptoCard

/-- THE SECOND FORM's CARD OF 'hoardlaw12.S3fifoFits'. -/
def s3fifoFitsUptoCard : Claim7 := { stood := { row := s3fifoFitsUptoRow, standIns := [], harness := (true, "14bc1a82f33b0d9c4810140d5c12b0d6e8d36941f2efec61b05d2cc25560924c"), looks := false }, kinds := [], alts := [], laidByText := true, laidKinds := [.data, .data, .data], laidTests := true, laidLooks := .later }
def S3fifoFitsUptoCardSaid : Prop := Claim7.holds Tryd.pinned (.plain (OpenSpec.upto s3fifoFitsSpec)) s3fifoFitsUptoCard

/-- THE SECOND FORM's CARD OF 'hoardlaw12.S3fifoOne'. -/
def s3fifoOneUptoCard : Claim7 := { stood := { row := s3fifoOneUptoRow, standIns := [], harness := (true, "14bc1a82f33b0d9c4810140d5c12b0d6e8d36941f2efec61b05d2cc25560924c"), looks := false }, kinds := [], alts := [], laidByText := true, laidKinds := [.data, .data, .data], laidTests := true, laidLooks := .later }
def S3fifoOneUptoCardSaid : Prop := Claim7.holds Tryd.pinned (.plain (OpenSpec.upto s3fifoOneSpec)) s3fifoOneUptoCard

/-- THE SECOND FORM's CARD OF 'hoardlaw12.S3fifoCounts'. -/
def s3fifoCountsUptoCard : Claim7 := { stood := { row := s3fifoCountsUptoRow, standIns := [], harness := (true, "14bc1a82f33b0d9c4810140d5c12b0d6e8d36941f2efec61b05d2cc25560924c"), looks := false }, kinds := [], alts := [], laidByText := true, laidKinds := [.data, .data, .data], laidTests := true, laidLooks := .later }
def S3fifoCountsUptoCardSaid : Prop := Claim7.holds Tryd.pinned (.plain (OpenSpec.upto s3fifoCountsSpec)) s3fifoCountsUptoCard

/-- THE SECOND FORM's CARD OF 'hoardlaw12.S3fifoOwn'. -/
def s3fifoOwnUptoCard : Claim7 := { stood := { row := s3fifoOwnUptoRow, standIns := [], harness := (true, "14bc1a82f33b0d9c4810140d5c12b0d6e8d36941f2efec61b05d2cc25560924c"), looks := false }, kinds := [], alts := [], laidByText := true, laidKinds := [.data, .data, .data], laidTests := true, laidLooks := .later }
def S3fifoOwnUptoCardSaid : Prop := Claim7.holds Tryd.pinned (.plain (OpenSpec.upto s3fifoOwnSpec)) s3fifoOwnUptoCard
end Rows
end Go.Proofs.YtnbfokmodjgaaabDoor
