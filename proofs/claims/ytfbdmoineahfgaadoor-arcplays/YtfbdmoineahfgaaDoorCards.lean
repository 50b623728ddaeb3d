/-
  DERIVED. GIVEN WITH THE SEED: THE CARDS: each row of YtfbdmoineahfgaaDoorRows.lean that lists a variable, with what it lists TIED to the program's text (the seventh form; the later family's looks); each row that meets fmt, with fmt's text TOLD by the authors' own Lean function (tested against real Go, not proved from fmt's source: count such statements apart). THE CARD IS WHAT COUNTS. Prove the row's statement (the work); the ties are given (YtfbdmoineahfgaaDoorTie.lean); close each card by the builder's one call (the guide's Derived/Test/ToyasCard.lean, 'card_holds'). Laid BY PROGRAM, IN A SANDBOX (cutbox-door.mjs). By AI agents, Wed Nov 11 2026. No macro, syntax, notation, axiom, sorry.
-/
import Derived.Test.YtfbdmoineahfgaaDoorRows
import GoSem.ClaimSeven
namespace Go.Proofs.YtfbdmoineahfgaaDoor
namespace Rows

/-- THE TIED CARD OF 'hoardlaw10.ArcPlays'. -/
def arcPlaysCard : Claim7 := { stood := { row := arcPlaysRow, standIns := [], harness := (true, "5ca321d4e23db214cbc8f0492ab02ab87e1ae4249e3ed6a88a8fc9649b0a6717"), looks := false }, kinds := [], alts := [], laidByText := true, laidKinds := [.data, .data, .data], laidTests := true, laidLooks := .later }
def ArcPlaysCardSaid : Prop := Claim7.holds Tryd.pinned (.plain (OpenSpec.ofChange arcPlaysSpec)) arcPlaysCard

/-- THE TIED CARD OF 'hoardlaw10.ArcBounds'. -/
def arcBoundsCard : Claim7 := { stood := { row := arcBoundsRow, standIns := [], harness := (true, "5ca321d4e23db214cbc8f0492ab02ab87e1ae4249e3ed6a88a8fc9649b0a6717"), looks := false }, kinds := [], alts := [], laidByText := true, laidKinds := [.data, .data, .data], laidTests := true, laidLooks := .later }
def ArcBoundsCardSaid : Prop := Claim7.holds Tryd.pinned (.plain (OpenSpec.ofChange arcBoundsSpec)) arcBoundsCard

/-- THE TIED CARD OF 'hoardlaw10.ArcTold'. -/
def arcToldCard : Claim7 := { stood := { row := arcToldRow, standIns := [], harness := (true, "5ca321d4e23db214cbc8f0492ab02ab87e1ae4249e3ed6a88a8fc9649b0a6717"), looks := false }, kinds := [], alts := [], laidByText := true, laidKinds := [.data, .data, .data], laidTests := true, laidLooks := .later }
def ArcToldCardSaid : Prop := Claim7.holds Tryd.pinned (.plain (OpenSpec.ofChange arcToldSpec)) arcToldCard

/-- THE TIED CARD OF 'hoardlaw10.ArcEmpties'. -/
def arcEmptiesCard : Claim7 := { stood := { row := arcEmptiesRow, standIns := [], harness := (true, "5ca321d4e23db214cbc8f0492ab02ab87e1ae4249e3ed6a88a8fc9649b0a6717"), looks := false }, kinds := [], alts := [], laidByText := true, laidKinds := [.data, .data, .data], laidTests := true, laidLooks := .later }
def ArcEmptiesCardSaid : Prop := Claim7.holds Tryd.pinned (.plain (OpenSpec.ofChange arcEmptiesSpec)) arcEmptiesCard

/-- THE TIED CARD OF 'hoardlaw10.ArcLoads'. -/
def arcLoadsCard : Claim7 := { stood := { row := arcLoadsRow, standIns := [], harness := (true, "5ca321d4e23db214cbc8f0492ab02ab87e1ae4249e3ed6a88a8fc9649b0a6717"), looks := false }, kinds := [], alts := [], laidByText := true, laidKinds := [.data, .data, .data], laidTests := true, laidLooks := .later }
def ArcLoadsCardSaid : Prop := Claim7.holds Tryd.pinned (.plain (OpenSpec.ofChange arcLoadsSpec)) arcLoadsCard

/-- THE TIED CARD OF 'hoardlaw10.ArcRemoves'. -/
def arcRemovesCard : Claim7 := { stood := { row := arcRemovesRow, standIns := [], harness := (true, "5ca321d4e23db214cbc8f0492ab02ab87e1ae4249e3ed6a88a8fc9649b0a6717"), looks := false }, kinds := [], alts := [], laidByText := true, laidKinds := [.data, .data, .data], laidTests := true, laidLooks := .later }
def ArcRemovesCardSaid : Prop := Claim7.holds Tryd.pinned (.plain (OpenSpec.ofChange arcRemovesSpec)) arcRemovesCard

/-- THE SECOND FORM's CARD OF 'hoardlaw10.ArcPlays'. -/
def arcPlaysUptoCard : Claim7 := { stood := { row := arcPlaysUptoRow, standIns := [], harness := (true, "5ca321d4e23db214cbc8f0492ab02ab87e1ae4249e3ed6a88a8fc9649b0a6717"), looks := false }, kinds := [], alts := [], laidByText := true, laidKinds := [.data, .data, .data], laidTests := true, laidLooks := .later }
def ArcPlaysUptoCardSaid : Prop := Claim7.holds Tryd.pinned (.plain (OpenSpec.upto arcPlaysSpec)) arcPlaysUptoCard

/-- THE SECOND FORM's CARD OF 'hoardlaw10.ArcBounds'. -/
def arcBoundsUptoCard : Claim7 := { stood := { row := arcBoundsUptoRow, standIns := [], harness := (true, "5ca321d4e23db214cbc8f0492ab02ab87e1ae4249e3ed6a88a8fc9649b0a6717"), looks := false }, kinds := [], alts := [], laidByText := true, laidKinds := [.data, .data, .data], laidTests := true, laidLooks := .later }
def ArcBoundsUptoCardSaid : Prop := Claim7.holds Tryd.pinned (.plain (OpenSpec.upto arcBoundsSpec)) arcBoundsUptoCard

/-- THE SECOND FORM's CARD OF 'hoardlaw10.ArcTold'. -/
def arcToldUptoCard : Claim7 := { stood := { row := arcToldUptoRow, standIns := [], harness := (true, "5ca321d4e23db214cbc8f0492ab02ab87e1ae4249e3ed6a88a8fc9649b0a6717"), looks := false }, kinds := [], alts := [], laidByText := true, laidKinds := [.data, .data, .data], laidTests := true, laidLooks := .later }
def ArcToldUptoCardSaid : Prop := Claim7.holds Tryd.pinned (.plain (OpenSpec.upto arcToldSpec)) arcToldUptoCard

/-- THE SECOND FORM's CARD OF 'hoardlaw10.ArcEmpties'. -/
def arcEmptiesUptoCard : Claim7 := { stood := { row := arcEmptiesUptoRow, standIns := [], harness := (true, "5ca321d4e23db214cbc8f0492ab02ab87e1ae4249e3ed6a88a8fc9649b0a6717"), looks := false }, kinds := [], alts := [], laidByText := true, laidKinds := [.data, .data, .data], laidTests := true, laidLooks := .later }
def ArcEmptiesUptoCardSaid : Prop := Claim7.holds Tryd.pinned (.plain (OpenSpec.upto arcEmptiesSpec)) arcEmptiesUptoCard

/-- THE SECOND FORM's CARD OF 'hoardlaw10.ArcLoads'. -/
def arcLoadsUptoCard : Claim7 := { stood := { row := arcLoadsUptoRow, standIns := [], harness := (true, "5ca321d4e23db214cbc8f0492ab02ab87e1ae4249e3ed6a88a8fc9649b0a6717"), looks := false }, kinds := [], alts := [], laidByText := true, laidKinds := [.data, .data, .data], laidTests := true, laidLooks := .later }
def ArcLoadsUptoCardSaid : Prop := Claim7.holds Tryd.pinned (.plain (OpenSpec.upto arcLoadsSpec)) arcLoadsUptoCard

/-- THE SECOND FORM's CARD OF 'hoardlaw10.ArcRemoves'. -/
def arcRemovesUptoCard : Claim7 := { stood := { row := arcRemovesUptoRow, standIns := [], harness := (true, "5ca321d4e23db214cbc8f0492ab02ab87e1ae4249e3ed6a88a8fc9649b0a6717"), looks := false }, kinds := [], alts := [], laidByText := true, laidKinds := [.data, .data, .data], laidTests := true, laidLooks := .later }
def ArcRemovesUptoCardSaid : Prop := Claim7.holds Tryd.pinned (.plain (OpenSpec.upto arcRemovesSpec)) arcRemovesUptoCard
end Rows
end Go.Proofs.YtfbdmoineahfgaaDoor
