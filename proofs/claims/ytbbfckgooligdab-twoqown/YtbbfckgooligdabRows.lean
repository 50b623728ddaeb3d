/-
  No cell of these rows narrows 'for every input' (looked for: loops, veiled, ifaces, maps, wideKeys, modest, calm, conditions, laid).
  DERIVED. THE GIVEN ROWS OF THIS SEAT. 6 by the template 'for every input the law returns true; each argument reads behind the call as it read before'; 0 by the template 'total and deterministic' (their statements: YtbbfckgooligdabTotals.lean).
  GIVEN WITH THE SEED: the statements are not yours to turn. If you find one false, say at which input.
  Laid BY PROGRAM, IN A SANDBOX (cutbox-rows.mjs): the forced cells as the released guide's own fill.sh prints them over the translation 405e339fa7d1618d… (all of the seat's roots in one cut). By AI agents, Wed Nov 11 2026. No macro, syntax, notation, axiom, sorry.
-/
import Derived.Test.YtbbfckgooligdabChecked
import GoSem.Claim
import GoSem.ClaimJoined
import GoSem.ClaimMapViews
import Derived.JoinedTies
import Derived.KernelRfl
namespace Go.Proofs.Ytbbfckgooligdab
/- THE CELL 'sum', in the pinned program and in every row, IS THE sha256 OF THE DUMP (.gsa) THAT YtbbfckgooligdabProg.lean LOADS. Nothing in Lean hashes anything: it is a label: what it is worth is what the hold of that sum in a sandbox is worth. -/
noncomputable def Try.pinned : Pinned := { name := "ytbbfckgooligdab", sum := "405e339fa7d1618d887758e265a53c216ad21c70ee817d1db759da59cd92d55c", checked := Try.checked }
namespace Rows
def none {H : Type} : Left H := { results := [], args := [] }

/-- 'hoardlaw11.TwoqOfNothing': WHATEVER THE INPUT: true; the input reads as it did. -/
def twoqOfNothingSpec : ChangeSpec := { name := "twoqOfNothing", fn := fun _ => fun
  | [d] => { results := [.lit (.bool true)], args := [d] }
  | _ => none }
def twoqOfNothingRow : OpenClaim := { program := "ytbbfckgooligdab", sum := "405e339fa7d1618d887758e265a53c216ad21c70ee817d1db759da59cd92d55c", func := "hoard/hoardlaw11.TwoqOfNothing", spec := "twoqOfNothing", inPlace := ["internal/abi.NoEscape"], apart := false }
def TwoqOfNothingSaid : Prop := twoqOfNothingRow.holds Try.pinned (OpenSpec.ofChange twoqOfNothingSpec)

/-- ITS FALSE NEIGHBOUR: 'it returns false'. Refute it at one input. -/
def twoqOfNothingWrong : ChangeSpec := { name := "twoqOfNothing", fn := fun _ => fun
  | [d] => { results := [.lit (.bool false)], args := [d] }
  | _ => none }
def TwoqOfNothingWrongFalsely : Prop := twoqOfNothingRow.holds Try.pinned (OpenSpec.ofChange twoqOfNothingWrong)

/-- 'hoardlaw11.TwoqFirst': WHATEVER THE INPUT: true; the input reads as it did. -/
def twoqFirstSpec : ChangeSpec := { name := "twoqFirst", fn := fun _ => fun
  | [d1, d2] => { results := [.lit (.bool true)], args := [d1, d2] }
  | _ => none }
def twoqFirstRow : OpenClaim := { program := "ytbbfckgooligdab", sum := "405e339fa7d1618d887758e265a53c216ad21c70ee817d1db759da59cd92d55c", func := "hoard/hoardlaw11.TwoqFirst", spec := "twoqFirst", inPlace := ["internal/abi.NoEscape"], apart := false }
def TwoqFirstSaid : Prop := twoqFirstRow.holds Try.pinned (OpenSpec.ofChange twoqFirstSpec)

/-- ITS FALSE NEIGHBOUR: 'it returns false'. Refute it at one input. -/
def twoqFirstWrong : ChangeSpec := { name := "twoqFirst", fn := fun _ => fun
  | [d1, d2] => { results := [.lit (.bool false)], args := [d1, d2] }
  | _ => none }
def TwoqFirstWrongFalsely : Prop := twoqFirstRow.holds Try.pinned (OpenSpec.ofChange twoqFirstWrong)

/-- 'hoardlaw11.TwoqFits': WHATEVER THE INPUT: true; the input reads as it did. -/
def twoqFitsSpec : ChangeSpec := { name := "twoqFits", fn := fun _ => fun
  | [d1, d2] => { results := [.lit (.bool true)], args := [d1, d2] }
  | _ => none }
def twoqFitsRow : OpenClaim := { program := "ytbbfckgooligdab", sum := "405e339fa7d1618d887758e265a53c216ad21c70ee817d1db759da59cd92d55c", func := "hoard/hoardlaw11.TwoqFits", spec := "twoqFits", inPlace := ["internal/abi.NoEscape"], apart := false }
def TwoqFitsSaid : Prop := twoqFitsRow.holds Try.pinned (OpenSpec.ofChange twoqFitsSpec)

/-- ITS FALSE NEIGHBOUR: 'it returns false'. Refute it at one input. -/
def twoqFitsWrong : ChangeSpec := { name := "twoqFits", fn := fun _ => fun
  | [d1, d2] => { results := [.lit (.bool false)], args := [d1, d2] }
  | _ => none }
def TwoqFitsWrongFalsely : Prop := twoqFitsRow.holds Try.pinned (OpenSpec.ofChange twoqFitsWrong)

/-- 'hoardlaw11.TwoqOne': WHATEVER THE INPUT: true; the input reads as it did. -/
def twoqOneSpec : ChangeSpec := { name := "twoqOne", fn := fun _ => fun
  | [d] => { results := [.lit (.bool true)], args := [d] }
  | _ => none }
def twoqOneRow : OpenClaim := { program := "ytbbfckgooligdab", sum := "405e339fa7d1618d887758e265a53c216ad21c70ee817d1db759da59cd92d55c", func := "hoard/hoardlaw11.TwoqOne", spec := "twoqOne", inPlace := ["internal/abi.NoEscape"], apart := false }
def TwoqOneSaid : Prop := twoqOneRow.holds Try.pinned (OpenSpec.ofChange twoqOneSpec)

/-- ITS FALSE NEIGHBOUR: 'it returns false'. Refute it at one input. -/
def twoqOneWrong : ChangeSpec := { name := "twoqOne", fn := fun _ => fun
  | [d] => { results := [.lit (.bool false)], args := [d] }
  | _ => none }
def TwoqOneWrongFalsely : Prop := twoqOneRow.holds Try.pinned (OpenSpec.ofChange twoqOneWrong)

/-- 'hoardlaw11.TwoqCounts': WHATEVER THE INPUT: true; the input reads as it did. -/
def twoqCountsSpec : ChangeSpec := { name := "twoqCounts", fn := fun _ => fun
  | [d1, d2] => { results := [.lit (.bool true)], args := [d1, d2] }
  | _ => none }
def twoqCountsRow : OpenClaim := { program := "ytbbfckgooligdab", sum := "405e339fa7d1618d887758e265a53c216ad21c70ee817d1db759da59cd92d55c", func := "hoard/hoardlaw11.TwoqCounts", spec := "twoqCounts", inPlace := ["internal/abi.NoEscape"], apart := false }
def TwoqCountsSaid : Prop := twoqCountsRow.holds Try.pinned (OpenSpec.ofChange twoqCountsSpec)

/-- ITS FALSE NEIGHBOUR: 'it returns false'. Refute it at one input. -/
def twoqCountsWrong : ChangeSpec := { name := "twoqCounts", fn := fun _ => fun
  | [d1, d2] => { results := [.lit (.bool false)], args := [d1, d2] }
  | _ => none }
def TwoqCountsWrongFalsely : Prop := twoqCountsRow.holds Try.pinned (OpenSpec.ofChange twoqCountsWrong)

/-- 'hoardlaw11.TwoqOwn': WHATEVER THE INPUT: true; the input reads as it did. -/
def twoqOwnSpec : ChangeSpec := { name := "twoqOwn", fn := fun _ => fun
  | [d1, d2] => { results := [.lit (.bool true)], args := [d1, d2] }
  | _ => none }
def twoqOwnRow : OpenClaim := { program := "ytbbfckgooligdab", sum := "405e339fa7d1618d887758e265a53c216ad21c70ee817d1db759da59cd92d55c", func := "hoard/hoardlaw11.TwoqOwn", spec := "twoqOwn", inPlace := ["internal/abi.NoEscape"], apart := false }
def TwoqOwnSaid : Prop := twoqOwnRow.holds Try.pinned (OpenSpec.ofChange twoqOwnSpec)

/-- ITS FALSE NEIGHBOUR: 'it returns false'. Refute it at one input. -/
def twoqOwnWrong : ChangeSpec := { name := "twoqOwn", fn := fun _ => fun
  | [d1, d2] => { results := [.lit (.bool false)], args := [d1, d2] }
  | _ => none }
def TwoqOwnWrongFalsely : Prop := twoqOwnRow.holds Try.pinned (OpenSpec.ofChange twoqOwnWrong)

/- THE SECOND FORM. 'bulk': how many values and letters a reading holds, each counted each time it is reached (what is shared counts as often as it is met; a slice's spare places count too). A statement '..UptoSaid' is the law's where the arguments, and the package variables that the reading takes, are together of bulk at most 1048576: NARROWER than '..Said'. Prove '..Said' where nothing that the law and all that it calls make is longer than what came in: it says more and counts as full. Else prove '..UptoSaid'. A law counts once. -/
mutual
def uptoBulk {H : Type} : DataW H → Nat
  | .lit (.string bytes) => bytes.length + 1
  | .lit _ => 1
  | .nil => 1
  | .ptr d => uptoBulk d + 1
  | .slice elems spare => uptoBulkAll elems + uptoBulkAll spare + 1
  | .agg parts => uptoBulkAll parts + 1
  | .iface _ d => uptoBulk d + 1
  | .map entries => uptoBulkEntries entries + 1
  | .held _ => 1
def uptoBulkAll {H : Type} : List (DataW H) → Nat
  | [] => 0
  | d :: r => uptoBulk d + uptoBulkAll r
def uptoBulkEntries {H : Type} : List (Lit × DataW H) → Nat
  | [] => 0
  | x :: r => uptoBulkEntry x + uptoBulkEntries r
def uptoBulkEntry {H : Type} : Lit × DataW H → Nat
  | (.string bytes, d) => bytes.length + uptoBulk d + 1
  | (_, d) => uptoBulk d + 1
 end
def uptoSmall : (H : Type) → List (DataW H) → Bool := fun _ ds => decide (uptoBulkAll ds ≤ 1048576)
def OpenSpec.upto (s : _root_.Go.ChangeSpec) : _root_.Go.OpenSpec := { _root_.Go.OpenSpec.ofChange s with cond := some uptoSmall }

/-- 'hoardlaw11.TwoqOfNothing', WHERE WHAT IT READS IS OF BULK AT MOST 1048576: true; the input reads as it did. -/
def twoqOfNothingUptoRow : OpenClaim := { program := "ytbbfckgooligdab", sum := "405e339fa7d1618d887758e265a53c216ad21c70ee817d1db759da59cd92d55c", func := "hoard/hoardlaw11.TwoqOfNothing", spec := "twoqOfNothing", inPlace := ["internal/abi.NoEscape"], apart := false, narrowed := true }
def TwoqOfNothingUptoSaid : Prop := twoqOfNothingUptoRow.holds Try.pinned (OpenSpec.upto twoqOfNothingSpec)

/-- 'hoardlaw11.TwoqFirst', WHERE WHAT IT READS IS OF BULK AT MOST 1048576: true; the input reads as it did. -/
def twoqFirstUptoRow : OpenClaim := { program := "ytbbfckgooligdab", sum := "405e339fa7d1618d887758e265a53c216ad21c70ee817d1db759da59cd92d55c", func := "hoard/hoardlaw11.TwoqFirst", spec := "twoqFirst", inPlace := ["internal/abi.NoEscape"], apart := false, narrowed := true }
def TwoqFirstUptoSaid : Prop := twoqFirstUptoRow.holds Try.pinned (OpenSpec.upto twoqFirstSpec)

/-- 'hoardlaw11.TwoqFits', WHERE WHAT IT READS IS OF BULK AT MOST 1048576: true; the input reads as it did. -/
def twoqFitsUptoRow : OpenClaim := { program := "ytbbfckgooligdab", sum := "405e339fa7d1618d887758e265a53c216ad21c70ee817d1db759da59cd92d55c", func := "hoard/hoardlaw11.TwoqFits", spec := "twoqFits", inPlace := ["internal/abi.NoEscape"], apart := false, narrowed := true }
def TwoqFitsUptoSaid : Prop := twoqFitsUptoRow.holds Try.pinned (OpenSpec.upto twoqFitsSpec)

/-- 'hoardlaw11.TwoqOne', WHERE WHAT IT READS IS OF BULK AT MOST 1048576: true; the input reads as it did. -/
def twoqOneUptoRow : OpenClaim := { program := "ytbbfckgooligdab", sum := "405e339fa7d1618d887758e265a53c216ad21c70ee817d1db759da59cd92d55c", func := "hoard/hoardlaw11.TwoqOne", spec := "twoqOne", inPlace := ["internal/abi.NoEscape"], apart := false, narrowed := true }
def TwoqOneUptoSaid : Prop := twoqOneUptoRow.holds Try.pinned (OpenSpec.upto twoqOneSpec)

/-- 'hoardlaw11.TwoqCounts', WHERE WHAT IT READS IS OF BULK AT MOST 1048576: true; the input reads as it did. -/
def twoqCountsUptoRow : OpenClaim := { program := "ytbbfckgooligdab", sum := "405e339fa7d1618d887758e265a53c216ad21c70ee817d1db759da59cd92d55c", func := "hoard/hoardlaw11.TwoqCounts", spec := "twoqCounts", inPlace := ["internal/abi.NoEscape"], apart := false, narrowed := true }
def TwoqCountsUptoSaid : Prop := twoqCountsUptoRow.holds Try.pinned (OpenSpec.upto twoqCountsSpec)

/-- 'hoardlaw11.TwoqOwn', WHERE WHAT IT READS IS OF BULK AT MOST 1048576: true; the input reads as it did. -/
def twoqOwnUptoRow : OpenClaim := { program := "ytbbfckgooligdab", sum := "405e339fa7d1618d887758e265a53c216ad21c70ee817d1db759da59cd92d55c", func := "hoard/hoardlaw11.TwoqOwn", spec := "twoqOwn", inPlace := ["internal/abi.NoEscape"], apart := false, narrowed := true }
def TwoqOwnUptoSaid : Prop := twoqOwnUptoRow.holds Try.pinned (OpenSpec.upto twoqOwnSpec)

end Rows
end Go.Proofs.Ytbbfckgooligdab
