/-
  NARROWER THAN 'FOR EVERY INPUT', by the rows' own cells (each row's printed sentence says how): EnginePlays: laid · EngineFrom: laid · EngineMoves: laid.
  DERIVED. THE GIVEN ROWS OF THIS SEAT. 3 by the template 'for every input the law returns true; each argument reads behind the call as it read before'; 0 by the template 'total and deterministic' (their statements: YtkkkkiejnmpdkaaGreatDoorTotals.lean).
  GIVEN WITH THE SEED: the statements are not yours to turn. If you find one false, say at which input.
  Laid BY PROGRAM, IN A SANDBOX (cutbox-rows.mjs): the forced cells as the released guide's own fill.sh prints them over the translation ac8f12c2a03b8418… (all of the seat's roots in one cut). By AI agents, Wed Nov 11 2026. No macro, syntax, notation, axiom, sorry.
-/
import Derived.Test.YtkkkkiejnmpdkaaGreatDoorChecked
import GoSem.Claim
import GoSem.ClaimJoined
import GoSem.ClaimMapViews
import Derived.JoinedTies
import Derived.KernelRfl
namespace Go.Proofs.YtkkkkiejnmpdkaaGreatDoor
/- THE CELL 'sum', in the pinned program and in every row, IS THE sha256 OF THE DUMP (.gsa) THAT YtkkkkiejnmpdkaaGreatDoorProg.lean LOADS. Nothing in Lean hashes anything: it is a label: what it is worth is what the hold of that sum in a sandbox is worth. -/
noncomputable def Tryz.pinned : Pinned := { name := "ytkkkkiejnmpdkaagreatdoor", sum := "ac8f12c2a03b8418315295c7a37001e89ff6e2f1e91a66bc6efbfd16b844a0e8", checked := Tryz.checked }
namespace Rows
def none {H : Type} : Left H := { results := [], args := [] }

/- WHAT THE LISTED PACKAGE-LEVEL VARIABLES READ AS WHEN THE CALL BEGINS. Each datum BY PROGRAM (the guide's laid-datum.mjs) off the statement by which the dump's own 'gosem.cut.vars' lays the variable. In a bare row this is a premise. The card (YtkkkkiejnmpdkaaGreatDoorCards.lean) ties it to the program's text. -/
def laid_hoard_engine_names {H : Type} : DataW H := .agg [.lit (.string [97, 114, 99]), .lit (.string [108, 105, 114, 115]), .lit (.string [50, 113]), .lit (.string [116, 105, 110, 121, 108, 102, 117]), .lit (.string [115, 51, 102, 105, 102, 111])]

/-- 'hoardlaw15.EnginePlays': WHATEVER THE INPUT: true; the input reads as it did. -/
def enginePlaysSpec : ChangeSpec := { name := "enginePlays", fn := fun _ => fun
  | [d1, d2, d3] => { results := [.lit (.bool true)], args := [d1, d2, d3] }
  | _ => none }
def enginePlaysRow : OpenClaim := { program := "ytkkkkiejnmpdkaagreatdoor", sum := "ac8f12c2a03b8418315295c7a37001e89ff6e2f1e91a66bc6efbfd16b844a0e8", func := "hoard/hoardlaw15.EnginePlays", spec := "enginePlays", unfollowed := true, recurses := true, named := ["hoard/engine.names"], apart := false, laid := [("hoard/engine.names", laid_hoard_engine_names)] }
def EnginePlaysSaid : Prop := enginePlaysRow.holds Tryz.pinned (OpenSpec.ofChange enginePlaysSpec)

/-- ITS FALSE NEIGHBOUR: 'it returns false'. Refute it at one input. -/
def enginePlaysWrong : ChangeSpec := { name := "enginePlays", fn := fun _ => fun
  | [d1, d2, d3] => { results := [.lit (.bool false)], args := [d1, d2, d3] }
  | _ => none }
def EnginePlaysWrongFalsely : Prop := enginePlaysRow.holds Tryz.pinned (OpenSpec.ofChange enginePlaysWrong)

/-- 'hoardlaw15.EngineFrom': WHATEVER THE INPUT: true; the input reads as it did. -/
def engineFromSpec : ChangeSpec := { name := "engineFrom", fn := fun _ => fun
  | [d1, d2, d3] => { results := [.lit (.bool true)], args := [d1, d2, d3] }
  | _ => none }
def engineFromRow : OpenClaim := { program := "ytkkkkiejnmpdkaagreatdoor", sum := "ac8f12c2a03b8418315295c7a37001e89ff6e2f1e91a66bc6efbfd16b844a0e8", func := "hoard/hoardlaw15.EngineFrom", spec := "engineFrom", unfollowed := true, recurses := true, named := ["hoard/engine.names"], apart := false, laid := [("hoard/engine.names", laid_hoard_engine_names)] }
def EngineFromSaid : Prop := engineFromRow.holds Tryz.pinned (OpenSpec.ofChange engineFromSpec)

/-- ITS FALSE NEIGHBOUR: 'it returns false'. Refute it at one input. -/
def engineFromWrong : ChangeSpec := { name := "engineFrom", fn := fun _ => fun
  | [d1, d2, d3] => { results := [.lit (.bool false)], args := [d1, d2, d3] }
  | _ => none }
def EngineFromWrongFalsely : Prop := engineFromRow.holds Tryz.pinned (OpenSpec.ofChange engineFromWrong)

/-- 'hoardlaw15.EngineMoves': WHATEVER THE INPUT: true; the input reads as it did. -/
def engineMovesSpec : ChangeSpec := { name := "engineMoves", fn := fun _ => fun
  | [d1, d2, d3, d4] => { results := [.lit (.bool true)], args := [d1, d2, d3, d4] }
  | _ => none }
def engineMovesRow : OpenClaim := { program := "ytkkkkiejnmpdkaagreatdoor", sum := "ac8f12c2a03b8418315295c7a37001e89ff6e2f1e91a66bc6efbfd16b844a0e8", func := "hoard/hoardlaw15.EngineMoves", spec := "engineMoves", unfollowed := true, recurses := true, named := ["hoard/engine.names"], apart := false, laid := [("hoard/engine.names", laid_hoard_engine_names)] }
def EngineMovesSaid : Prop := engineMovesRow.holds Tryz.pinned (OpenSpec.ofChange engineMovesSpec)

/-- ITS FALSE NEIGHBOUR: 'it returns false'. Refute it at one input. -/
def engineMovesWrong : ChangeSpec := { name := "engineMoves", fn := fun _ => fun
  | [d1, d2, d3, d4] => { results := [.lit (.bool false)], args := [d1, d2, d3, d4] }
  | _ => none }
def EngineMovesWrongFalsely : Prop := engineMovesRow.holds Tryz.pinned (OpenSpec.ofChange engineMovesWrong)

/- THE SECOND FORM. 'bulk': how many values and letters a reading holds, each counted each time it is reached (what is shared counts as often as it is met; a slice's spare places count too). A statement '..UptoSaid' is the law's where the arguments, and the package variables that the reading takes, are together of bulk at most 1048576: NARROWER than '..Said'. Prove '..Said' where nothing that the law and all that it calls make is longer than what came in: it says more and counts as full. Else prove '..UptoSaid'. A law counts once. -/
mutual
def uptoBulk {H : Type} : DataW H → Nat
  | .lit (.string bytes) => bytes.length + 1
  | .lit _ => 1
  | .nil => 1
  | .ptr d => uptoBulk d + 1
  | .slice elems spare => uptoBulkAll elems + uptoBulkAll spare + 1
  | .agg parts => uptoBulkAll parts + 1
  | .iface _ d => uptoBulk d + 1
  | .map entries => uptoBulkEntries entries + 1
  | .held _ => 1
def uptoBulkAll {H : Type} : List (DataW H) → Nat
  | [] => 0
  | d :: r => uptoBulk d + uptoBulkAll r
def uptoBulkEntries {H : Type} : List (Lit × DataW H) → Nat
  | [] => 0
  | x :: r => uptoBulkEntry x + uptoBulkEntries r
def uptoBulkEntry {H : Type} : Lit × DataW H → Nat
  | (.string bytes, d) => bytes.length + uptoBulk d + 1
  | (_, d) => uptoBulk d + 1
 end
def uptoSmall : (H : Type) → List (DataW H) → Bool := fun _ ds => decide (uptoBulkAll ds ≤ 1048576)
def OpenSpec.upto (s : _root_.Go.ChangeSpec) : _root_.Go.OpenSpec := { _root_.Go.OpenSpec.ofChange s with cond := some uptoSmall }

/-- 'hoardlaw15.EnginePlays', WHERE WHAT IT READS IS OF BULK AT MOST 1048576: true; the input reads as it did. -/
def enginePlaysUptoRow : OpenClaim := { program := "ytkkkkiejnmpdkaagreatdoor", sum := "ac8f12c2a03b8418315295c7a37001e89ff6e2f1e91a66bc6efbfd16b844a0e8", func := "hoard/hoardlaw15.EnginePlays", spec := "enginePlays", unfollowed := true, recurses := true, named := ["hoard/engine.names"], apart := false, laid := [("hoard/engine.names", laid_hoard_engine_names)], narrowed := true }
def EnginePlaysUptoSaid : Prop := enginePlaysUptoRow.holds Tryz.pinned (OpenSpec.upto enginePlaysSpec)

/-- 'hoardlaw15.EngineFrom', WHERE WHAT IT READS IS OF BULK AT MOST 1048576: true; the input reads as it did. -/
def engineFromUptoRow : OpenClaim := { program := "ytkkkkiejnmpdkaagreatdoor", sum := "ac8f12c2a03b8418315295c7a37001e89ff6e2f1e91a66bc6efbfd16b844a0e8", func := "hoard/hoardlaw15.EngineFrom", spec := "engineFrom", unfollowed := true, recurses := true, named := ["hoard/engine.names"], apart := false, laid := [("hoard/engine.names", laid_hoard_engine_names)], narrowed := true }
def EngineFromUptoSaid : Prop := engineFromUptoRow.holds Tryz.pinned (OpenSpec.upto engineFromSpec)

/-- 'hoardlaw15.EngineMoves', WHERE WHAT IT READS IS OF BULK AT MOST 1048576: true; the input reads as it did. -/
def engineMovesUptoRow : OpenClaim := { program := "ytkkkkiejnmpdkaagreatdoor", sum := "ac8f12c2a03b8418315295c7a37001e89ff6e2f1e91a66bc6efbfd16b844a0e8", func := "hoard/hoardlaw15.EngineMoves", spec := "engineMoves", unfollowed := true, recurses := true, named := ["hoard/engine.names"], apart := false, laid := [("hoard/engine.names", laid_hoard_engine_names)], narrowed := true }
def EngineMovesUptoSaid : Prop := engineMovesUptoRow.holds Tryz.pinned (OpenSpec.upto engineMovesSpec)

end Rows
end Go.Proofs.YtkkkkiejnmpdkaaGreatDoor
