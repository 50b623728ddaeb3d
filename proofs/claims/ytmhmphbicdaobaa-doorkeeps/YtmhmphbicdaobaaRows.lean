/-
  No cell of these rows narrows 'for every input' (looked for: loops, veiled, ifaces, maps, wideKeys, modest, calm, conditions, laid).
  DERIVED. THE GIVEN ROWS OF THIS SEAT. 4 by the template 'for every input the law returns true; each argument reads behind the call as it read before'; 0 by the template 'total and deterministic' (their statements: YtmhmphbicdaobaaTotals.lean).
  GIVEN WITH THE SEED: the statements are not yours to turn. If you find one false, say at which input.
  Laid BY PROGRAM, IN A SANDBOX (cutbox-rows.mjs): the forced cells as the released guide's own fill.sh prints them over the translation f10723e781223761… (all of the seat's roots in one cut). By AI agents, Wed Nov 11 2026. No macro, syntax, notation, axiom, sorry.
-/
import Derived.Test.YtmhmphbicdaobaaChecked
import GoSem.Claim
import GoSem.ClaimJoined
import GoSem.ClaimMapViews
import Derived.JoinedTies
import Derived.KernelRfl
namespace Go.Proofs.Ytmhmphbicdaobaa
/- THE CELL 'sum', in the pinned program and in every row, IS THE sha256 OF THE DUMP (.gsa) THAT YtmhmphbicdaobaaProg.lean LOADS. Nothing in Lean hashes anything: it is a label: what it is worth is what the hold of that sum in a sandbox is worth. -/
noncomputable def Try.pinned : Pinned := { name := "ytmhmphbicdaobaa", sum := "f10723e78122376111d52b997f74db3eb50ad8cfffb13e98cc6d48e68a7d7e6e", checked := Try.checked }
namespace Rows
def none {H : Type} : Left H := { results := [], args := [] }

/-- 'hoardlaw8.DoorPlays': WHATEVER THE INPUT: true; the input reads as it did. -/
def doorPlaysSpec : ChangeSpec := { name := "doorPlays", fn := fun _ => fun
  | [d1, d2, d3] => { results := [.lit (.bool true)], args := [d1, d2, d3] }
  | _ => none }
def doorPlaysRow : OpenClaim := { program := "ytmhmphbicdaobaa", sum := "f10723e78122376111d52b997f74db3eb50ad8cfffb13e98cc6d48e68a7d7e6e", func := "hoard/hoardlaw8.DoorPlays", spec := "doorPlays", apart := false }
def DoorPlaysSaid : Prop := doorPlaysRow.holds Try.pinned (OpenSpec.ofChange doorPlaysSpec)

/-- ITS FALSE NEIGHBOUR: 'it returns false'. Refute it at one input. -/
def doorPlaysWrong : ChangeSpec := { name := "doorPlays", fn := fun _ => fun
  | [d1, d2, d3] => { results := [.lit (.bool false)], args := [d1, d2, d3] }
  | _ => none }
def DoorPlaysWrongFalsely : Prop := doorPlaysRow.holds Try.pinned (OpenSpec.ofChange doorPlaysWrong)

/-- 'hoardlaw8.DoorKeeps': WHATEVER THE INPUT: true; the input reads as it did. -/
def doorKeepsSpec : ChangeSpec := { name := "doorKeeps", fn := fun _ => fun
  | [d1, d2] => { results := [.lit (.bool true)], args := [d1, d2] }
  | _ => none }
def doorKeepsRow : OpenClaim := { program := "ytmhmphbicdaobaa", sum := "f10723e78122376111d52b997f74db3eb50ad8cfffb13e98cc6d48e68a7d7e6e", func := "hoard/hoardlaw8.DoorKeeps", spec := "doorKeeps", apart := false }
def DoorKeepsSaid : Prop := doorKeepsRow.holds Try.pinned (OpenSpec.ofChange doorKeepsSpec)

/-- ITS FALSE NEIGHBOUR: 'it returns false'. Refute it at one input. -/
def doorKeepsWrong : ChangeSpec := { name := "doorKeeps", fn := fun _ => fun
  | [d1, d2] => { results := [.lit (.bool false)], args := [d1, d2] }
  | _ => none }
def DoorKeepsWrongFalsely : Prop := doorKeepsRow.holds Try.pinned (OpenSpec.ofChange doorKeepsWrong)

/-- 'hoardlaw8.DoorOfNothing': WHATEVER THE INPUT: true; the input reads as it did. -/
def doorOfNothingSpec : ChangeSpec := { name := "doorOfNothing", fn := fun _ => fun
  | [d] => { results := [.lit (.bool true)], args := [d] }
  | _ => none }
def doorOfNothingRow : OpenClaim := { program := "ytmhmphbicdaobaa", sum := "f10723e78122376111d52b997f74db3eb50ad8cfffb13e98cc6d48e68a7d7e6e", func := "hoard/hoardlaw8.DoorOfNothing", spec := "doorOfNothing", apart := false }
def DoorOfNothingSaid : Prop := doorOfNothingRow.holds Try.pinned (OpenSpec.ofChange doorOfNothingSpec)

/-- ITS FALSE NEIGHBOUR: 'it returns false'. Refute it at one input. -/
def doorOfNothingWrong : ChangeSpec := { name := "doorOfNothing", fn := fun _ => fun
  | [d] => { results := [.lit (.bool false)], args := [d] }
  | _ => none }
def DoorOfNothingWrongFalsely : Prop := doorOfNothingRow.holds Try.pinned (OpenSpec.ofChange doorOfNothingWrong)

/-- 'hoardlaw8.DoorTurns': WHATEVER THE INPUT: true; the input reads as it did. -/
def doorTurnsSpec : ChangeSpec := { name := "doorTurns", fn := fun _ => fun
  | [d1, d2, d3] => { results := [.lit (.bool true)], args := [d1, d2, d3] }
  | _ => none }
def doorTurnsRow : OpenClaim := { program := "ytmhmphbicdaobaa", sum := "f10723e78122376111d52b997f74db3eb50ad8cfffb13e98cc6d48e68a7d7e6e", func := "hoard/hoardlaw8.DoorTurns", spec := "doorTurns", apart := false }
def DoorTurnsSaid : Prop := doorTurnsRow.holds Try.pinned (OpenSpec.ofChange doorTurnsSpec)

/-- ITS FALSE NEIGHBOUR: 'it returns false'. Refute it at one input. -/
def doorTurnsWrong : ChangeSpec := { name := "doorTurns", fn := fun _ => fun
  | [d1, d2, d3] => { results := [.lit (.bool false)], args := [d1, d2, d3] }
  | _ => none }
def DoorTurnsWrongFalsely : Prop := doorTurnsRow.holds Try.pinned (OpenSpec.ofChange doorTurnsWrong)

/- THE SECOND FORM. 'bulk': how many values and letters a reading holds, each counted each time it is reached (what is shared counts as often as it is met; a slice's spare places count too). A statement '..UptoSaid' is the law's where the arguments, and the package variables that the reading takes, are together of bulk at most 1048576: NARROWER than '..Said'. Prove '..Said' where nothing that the law and all that it calls make is longer than what came in: it says more and counts as full. Else prove '..UptoSaid'. A law counts once. -/
mutual
def uptoBulk {H : Type} : DataW H → Nat
  | .lit (.string bytes) => bytes.length + 1
  | .lit _ => 1
  | .nil => 1
  | .ptr d => uptoBulk d + 1
  | .slice elems spare => uptoBulkAll elems + uptoBulkAll spare + 1
  | .agg parts => uptoBulkAll parts + 1
  | .iface _ d => uptoBulk d + 1
  | .map entries => uptoBulkEntries entries + 1
  | .held _ => 1
def uptoBulkAll {H : Type} : List (DataW H) → Nat
  | [] => 0
  | d :: r => uptoBulk d + uptoBulkAll r
def uptoBulkEntries {H : Type} : List (Lit × DataW H) → Nat
  | [] => 0
  | x :: r => uptoBulkEntry x + uptoBulkEntries r
def uptoBulkEntry {H : Type} : Lit × DataW H → Nat
  | (.string bytes, d) => bytes.length + uptoBulk d + 1
  | (_, d) => uptoBulk d + 1
 end
def uptoSmall : (H : Type) → List (DataW H) → Bool := fun _ ds => decide (uptoBulkAll ds ≤ 1048576)
def OpenSpec.upto (s : _root_.Go.ChangeSpec) : _root_.Go.OpenSpec := { _root_.Go.OpenSpec.ofChange s with cond := some uptoSmall }

/-- 'hoardlaw8.DoorPlays', WHERE WHAT IT READS IS OF BULK AT MOST 1048576: true; the input reads as it did. -/
def doorPlaysUptoRow : OpenClaim := { program := "ytmhmphbicdaobaa", sum := "f10723e78122376111d52b997f74db3eb50ad8cfffb13e98cc6d48e68a7d7e6e", func := "hoard/hoardlaw8.DoorPlays", spec := "doorPlays", apart := false, narrowed := true }
def DoorPlaysUptoSaid : Prop := doorPlaysUptoRow.holds Try.pinned (OpenSpec.upto doorPlaysSpec)

/-- 'hoardlaw8.DoorKeeps', WHERE WHAT IT READS IS OF BULK AT MOST 1048576: true; the input reads as it did. -/
def doorKeepsUptoRow : OpenClaim := { program := "ytmhmphbicdaobaa", sum := "f10723e78122376111d52b997f74db3eb50ad8cfffb13e98cc6d48e68a7d7e6e", func := "hoard/hoardlaw8.DoorKeeps", spec := "doorKeeps", apart := false, narrowed := true }
def DoorKeepsUptoSaid : Prop := doorKeepsUptoRow.holds Try.pinned (OpenSpec.upto doorKeepsSpec)

/-- 'hoardlaw8.DoorOfNothing', WHERE WHAT IT READS IS OF BULK AT MOST 1048576: true; the input reads as it did. -/
def doorOfNothingUptoRow : OpenClaim := { program := "ytmhmphbicdaobaa", sum := "f10723e78122376111d52b997f74db3eb50ad8cfffb13e98cc6d48e68a7d7e6e", func := "hoard/hoardlaw8.DoorOfNothing", spec := "doorOfNothing", apart := false, narrowed := true }
def DoorOfNothingUptoSaid : Prop := doorOfNothingUptoRow.holds Try.pinned (OpenSpec.upto doorOfNothingSpec)

/-- 'hoardlaw8.DoorTurns', WHERE WHAT IT READS IS OF BULK AT MOST 1048576: true; the input reads as it did. -/
def doorTurnsUptoRow : OpenClaim := { program := "ytmhmphbicdaobaa", sum := "f10723e78122376111d52b997f74db3eb50ad8cfffb13e98cc6d48e68a7d7e6e", func := "hoard/hoardlaw8.DoorTurns", spec := "doorTurns", apart := false, narrowed := true }
def DoorTurnsUptoSaid : Prop := doorTurnsUptoRow.holds Try.pinned (OpenSpec.upto doorTurnsSpec)

end Rows
end Go.Proofs.Ytmhmphbicdaobaa
