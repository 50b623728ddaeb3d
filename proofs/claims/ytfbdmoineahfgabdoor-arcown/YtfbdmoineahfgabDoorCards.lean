/-
  DERIVED. GIVEN WITH THE SEED: THE CARDS: each row of YtfbdmoineahfgabDoorRows.lean that lists a variable, with what it lists TIED to the program's text (the seventh form; the later family's looks); each row that meets fmt, with fmt's text TOLD by the authors' own Lean function (tested against real Go, not proved from fmt's source: count such statements apart). THE CARD IS WHAT COUNTS. Prove the row's statement (the work); the ties are given (YtfbdmoineahfgabDoorTie.lean); close each card by the builder's one call (the guide's Derived/Test/ToyasCard.lean, 'card_holds'). Laid BY PROGRAM, IN A SANDBOX (cutbox-door.mjs). By AI agents, Wed Nov 11 2026. No macro, syntax, notation, axiom, sorry.
-/
import Derived.Test.YtfbdmoineahfgabDoorRows
import GoSem.ClaimSeven
namespace Go.Proofs.YtfbdmoineahfgabDoor
namespace Rows

/-- THE TIED CARD OF 'hoardlaw10.ArcOfNothing'. -/
def arcOfNothingCard : Claim7 := { stood := { row := arcOfNothingRow, standIns := [], harness := (true, "218fcc84000f10d3bef0d4243c37e6b674b5f703e1c08367f6f542d0c3811cd4"), looks := false }, kinds := [], alts := [], laidByText := true, laidKinds := [.data, .data, .data], laidTests := true, laidLooks := .later }
def ArcOfNothingCardSaid : Prop := Claim7.holds Tryd.pinned (.plain (OpenSpec.ofChange arcOfNothingSpec)) arcOfNothingCard

/-- THE TIED CARD OF 'hoardlaw10.ArcOften'. -/
def arcOftenCard : Claim7 := { stood := { row := arcOftenRow, standIns := [], harness := (true, "218fcc84000f10d3bef0d4243c37e6b674b5f703e1c08367f6f542d0c3811cd4"), looks := false }, kinds := [], alts := [], laidByText := true, laidKinds := [.data, .data, .data], laidTests := true, laidLooks := .later }
def ArcOftenCardSaid : Prop := Claim7.holds Tryd.pinned (.plain (OpenSpec.ofChange arcOftenSpec)) arcOftenCard

/-- THE TIED CARD OF 'hoardlaw10.ArcFits'. -/
def arcFitsCard : Claim7 := { stood := { row := arcFitsRow, standIns := [], harness := (true, "218fcc84000f10d3bef0d4243c37e6b674b5f703e1c08367f6f542d0c3811cd4"), looks := false }, kinds := [], alts := [], laidByText := true, laidKinds := [.data, .data, .data], laidTests := true, laidLooks := .later }
def ArcFitsCardSaid : Prop := Claim7.holds Tryd.pinned (.plain (OpenSpec.ofChange arcFitsSpec)) arcFitsCard

/-- THE TIED CARD OF 'hoardlaw10.ArcOne'. -/
def arcOneCard : Claim7 := { stood := { row := arcOneRow, standIns := [], harness := (true, "218fcc84000f10d3bef0d4243c37e6b674b5f703e1c08367f6f542d0c3811cd4"), looks := false }, kinds := [], alts := [], laidByText := true, laidKinds := [.data, .data, .data], laidTests := true, laidLooks := .later }
def ArcOneCardSaid : Prop := Claim7.holds Tryd.pinned (.plain (OpenSpec.ofChange arcOneSpec)) arcOneCard

/-- THE TIED CARD OF 'hoardlaw10.ArcCounts'. -/
def arcCountsCard : Claim7 := { stood := { row := arcCountsRow, standIns := [], harness := (true, "218fcc84000f10d3bef0d4243c37e6b674b5f703e1c08367f6f542d0c3811cd4"), looks := false }, kinds := [], alts := [], laidByText := true, laidKinds := [.data, .data, .data], laidTests := true, laidLooks := .later }
def ArcCountsCardSaid : Prop := Claim7.holds Tryd.pinned (.plain (OpenSpec.ofChange arcCountsSpec)) arcCountsCard

/-- THE TIED CARD OF 'hoardlaw10.ArcOwn'. -/
def arcOwnCard : Claim7 := { stood := { row := arcOwnRow, standIns := [], harness := (true, "218fcc84000f10d3bef0d4243c37e6b674b5f703e1c08367f6f542d0c3811cd4"), looks := false }, kinds := [], alts := [], laidByText := true, laidKinds := [.data, .data, .data], laidTests := true, laidLooks := .later }
def ArcOwnCardSaid : Prop := Claim7.holds Tryd.pinned (.plain (OpenSpec.ofChange arcOwnSpec)) arcOwnCard

/-- THE SECOND FORM's CARD OF 'hoardlaw10.ArcOfNothing'. -/
def arcOfNothingUptoCard : Claim7 := { stood := { row := arcOfNothingUptoRow, standIns := [], harness := (true, "218fcc84000f10d3bef0d4243c37e6b674b5f703e1c08367f6f542d0c3811cd4"), looks := false }, kinds := [], alts := [], laidByText := true, laidKinds := [.data, .data, .data], laidTests := true, laidLooks := .later }
def ArcOfNothingUptoCardSaid : Prop := Claim7.holds Tryd.pinned (.plain (OpenSpec.upto arcOfNothingSpec)) arcOfNothingUptoCard

/-- THE SECOND FORM's CARD OF 'hoardlaw10.ArcOften'. -/
def arcOftenUptoCard : Claim7 := { stood := { row := arcOftenUptoRow, standIns := [], harness := (true, "218fcc84000f10d3bef0d4243c37e6b674b5f703e1c08367f6f542d0c3811cd4"), looks := false }, kinds := [], alts := [], laidByText := true, laidKinds := [.data, .data, .data], laidTests := true, laidLooks := .later }
def ArcOftenUptoCardSaid : Prop := Claim7.holds Tryd.pinned (.plain (OpenSpec.upto arcOftenSpec)) arcOftenUptoCard

/-- THE SECOND FORM's CARD OF 'hoardlaw10.ArcFits'. -/
def arcFitsUptoCard : Claim7 := { stood := { row := arcFitsUptoRow, standIns := [], harness := (true, "218fcc84000f10d3bef0d4243c37e6b674b5f703e1c08367f6f542d0c3811cd4"), looks := false }, kinds := [], alts := [], laidByText := true, laidKinds := [.data, .data, .data], laidTests := true, laidLooks := .later }
def ArcFitsUptoCardSaid : Prop := Claim7.holds Tryd.pinned (.plain (OpenSpec.upto arcFitsSpec)) arcFitsUptoCard

/-- THE SECOND FORM's CARD OF 'hoardlaw10.ArcOne'. -/
def arcOneUptoCard : Claim7 := { stood := { row := arcOneUptoRow, standIns := [], harness := (true, "218fcc84000f10d3bef0d4243c37e6b674b5f703e1c08367f6f542d0c3811cd4"), looks := false }, kinds := [], alts := [], laidByText := true, laidKinds := [.data, .data, .data], laidTests := true, laidLooks := .later }
def ArcOneUptoCardSaid : Prop := Claim7.holds Tryd.pinned (.plain (OpenSpec.upto arcOneSpec)) arcOneUptoCard

/-- THE SECOND FORM's CARD OF 'hoardlaw10.ArcCounts'. -/
def arcCountsUptoCard : Claim7 := { stood := { row := arcCountsUptoRow, standIns := [], harness := (true, "218fcc84000f10d3bef0d4243c37e6b674b5f703e1c08367f6f542d0c3811cd4"), looks := false }, kinds := [], alts := [], laidByText := true, laidKinds := [.data, .data, .data], laidTests := true, laidLooks := .later }
def ArcCountsUptoCardSaid : Prop := Claim7.holds Tryd.pinned (.plain (OpenSpec.upto arcCountsSpec)) arcCountsUptoCard

/-- THE SECOND FORM's CARD OF 'hoardlaw10.ArcOwn'. -/
def arcOwnUptoCard : Claim7 := { stood := { row := arcOwnUptoRow, standIns := [], harness := (true, "218fcc84000f10d3bef0d4243c37e6b674b5f703e1c08367f6f542d0c3811cd4"), looks := false }, kinds := [], alts := [], laidByText := true, laidKinds := [.data, .data, .data], laidTests := true, laidLooks := .later }
def ArcOwnUptoCardSaid : Prop := Claim7.holds Tryd.pinned (.plain (OpenSpec.upto arcOwnSpec)) arcOwnUptoCard
end Rows
end Go.Proofs.YtfbdmoineahfgabDoor
