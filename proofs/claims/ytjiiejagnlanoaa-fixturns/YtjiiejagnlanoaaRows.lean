/-
  No cell of these rows narrows 'for every input' (looked for: loops, veiled, ifaces, maps, wideKeys, modest, calm, conditions, laid).
  DERIVED. THE GIVEN ROWS OF THIS SEAT. 5 by the template 'for every input the law returns true; each argument reads behind the call as it read before'; 0 by the template 'total and deterministic' (their statements: YtjiiejagnlanoaaTotals.lean).
  GIVEN WITH THE SEED: the statements are not yours to turn. If you find one false, say at which input.
  Laid BY PROGRAM, IN A SANDBOX (cutbox-rows.mjs): the forced cells as the released guide's own fill.sh prints them over the translation 0e6abb6dedf4f414… (all of the seat's roots in one cut). By AI agents, Wed Nov 11 2026. No macro, syntax, notation, axiom, sorry.
-/
import Derived.Test.YtjiiejagnlanoaaChecked
import GoSem.Claim
import GoSem.ClaimJoined
import GoSem.ClaimMapViews
import Derived.JoinedTies
import Derived.KernelRfl
namespace Go.Proofs.Ytjiiejagnlanoaa
/- THE CELL 'sum', in the pinned program and in every row, IS THE sha256 OF THE DUMP (.gsa) THAT YtjiiejagnlanoaaProg.lean LOADS. Nothing in Lean hashes anything: it is a label: what it is worth is what the hold of that sum in a sandbox is worth. -/
noncomputable def Try.pinned : Pinned := { name := "ytjiiejagnlanoaa", sum := "0e6abb6dedf4f4143521f45197fa973398c99f872c3e54a8392e91576af97162", checked := Try.checked }
namespace Rows
def none {H : Type} : Left H := { results := [], args := [] }

/-- 'hoardlaw2.FixCounts': WHATEVER THE INPUT: true; the input reads as it did. -/
def fixCountsSpec : ChangeSpec := { name := "fixCounts", fn := fun _ => fun
  | [d1, d2, d3] => { results := [.lit (.bool true)], args := [d1, d2, d3] }
  | _ => none }
def fixCountsRow : OpenClaim := { program := "ytjiiejagnlanoaa", sum := "0e6abb6dedf4f4143521f45197fa973398c99f872c3e54a8392e91576af97162", func := "hoard/hoardlaw2.FixCounts", spec := "fixCounts", named := ["math/bits.divideError", "math/bits.overflowError"], apart := false }
def FixCountsSaid : Prop := fixCountsRow.holds Try.pinned (OpenSpec.ofChange fixCountsSpec)

/-- ITS FALSE NEIGHBOUR: 'it returns false'. Refute it at one input. -/
def fixCountsWrong : ChangeSpec := { name := "fixCounts", fn := fun _ => fun
  | [d1, d2, d3] => { results := [.lit (.bool false)], args := [d1, d2, d3] }
  | _ => none }
def FixCountsWrongFalsely : Prop := fixCountsRow.holds Try.pinned (OpenSpec.ofChange fixCountsWrong)

/-- 'hoardlaw2.FixProducts': WHATEVER THE INPUT: true; the input reads as it did. -/
def fixProductsSpec : ChangeSpec := { name := "fixProducts", fn := fun _ => fun
  | [d1, d2, d3] => { results := [.lit (.bool true)], args := [d1, d2, d3] }
  | _ => none }
def fixProductsRow : OpenClaim := { program := "ytjiiejagnlanoaa", sum := "0e6abb6dedf4f4143521f45197fa973398c99f872c3e54a8392e91576af97162", func := "hoard/hoardlaw2.FixProducts", spec := "fixProducts", named := ["math/bits.divideError", "math/bits.overflowError"], apart := false }
def FixProductsSaid : Prop := fixProductsRow.holds Try.pinned (OpenSpec.ofChange fixProductsSpec)

/-- ITS FALSE NEIGHBOUR: 'it returns false'. Refute it at one input. -/
def fixProductsWrong : ChangeSpec := { name := "fixProducts", fn := fun _ => fun
  | [d1, d2, d3] => { results := [.lit (.bool false)], args := [d1, d2, d3] }
  | _ => none }
def FixProductsWrongFalsely : Prop := fixProductsRow.holds Try.pinned (OpenSpec.ofChange fixProductsWrong)

/-- 'hoardlaw2.FixWhole': WHATEVER THE INPUT: true; the input reads as it did. -/
def fixWholeSpec : ChangeSpec := { name := "fixWhole", fn := fun _ => fun
  | [d1, d2] => { results := [.lit (.bool true)], args := [d1, d2] }
  | _ => none }
def fixWholeRow : OpenClaim := { program := "ytjiiejagnlanoaa", sum := "0e6abb6dedf4f4143521f45197fa973398c99f872c3e54a8392e91576af97162", func := "hoard/hoardlaw2.FixWhole", spec := "fixWhole", named := ["math/bits.divideError", "math/bits.overflowError"], apart := false }
def FixWholeSaid : Prop := fixWholeRow.holds Try.pinned (OpenSpec.ofChange fixWholeSpec)

/-- ITS FALSE NEIGHBOUR: 'it returns false'. Refute it at one input. -/
def fixWholeWrong : ChangeSpec := { name := "fixWhole", fn := fun _ => fun
  | [d1, d2] => { results := [.lit (.bool false)], args := [d1, d2] }
  | _ => none }
def FixWholeWrongFalsely : Prop := fixWholeRow.holds Try.pinned (OpenSpec.ofChange fixWholeWrong)

/-- 'hoardlaw2.FixNever': WHATEVER THE INPUT: true; the input reads as it did. -/
def fixNeverSpec : ChangeSpec := { name := "fixNever", fn := fun _ => fun
  | [d1, d2] => { results := [.lit (.bool true)], args := [d1, d2] }
  | _ => none }
def fixNeverRow : OpenClaim := { program := "ytjiiejagnlanoaa", sum := "0e6abb6dedf4f4143521f45197fa973398c99f872c3e54a8392e91576af97162", func := "hoard/hoardlaw2.FixNever", spec := "fixNever", named := ["math/bits.divideError", "math/bits.overflowError"], apart := false }
def FixNeverSaid : Prop := fixNeverRow.holds Try.pinned (OpenSpec.ofChange fixNeverSpec)

/-- ITS FALSE NEIGHBOUR: 'it returns false'. Refute it at one input. -/
def fixNeverWrong : ChangeSpec := { name := "fixNever", fn := fun _ => fun
  | [d1, d2] => { results := [.lit (.bool false)], args := [d1, d2] }
  | _ => none }
def FixNeverWrongFalsely : Prop := fixNeverRow.holds Try.pinned (OpenSpec.ofChange fixNeverWrong)

/-- 'hoardlaw2.FixTurns': WHATEVER THE INPUT: true; the input reads as it did. -/
def fixTurnsSpec : ChangeSpec := { name := "fixTurns", fn := fun _ => fun
  | [d1, d2, d3] => { results := [.lit (.bool true)], args := [d1, d2, d3] }
  | _ => none }
def fixTurnsRow : OpenClaim := { program := "ytjiiejagnlanoaa", sum := "0e6abb6dedf4f4143521f45197fa973398c99f872c3e54a8392e91576af97162", func := "hoard/hoardlaw2.FixTurns", spec := "fixTurns", named := ["math/bits.divideError", "math/bits.overflowError"], apart := false }
def FixTurnsSaid : Prop := fixTurnsRow.holds Try.pinned (OpenSpec.ofChange fixTurnsSpec)

/-- ITS FALSE NEIGHBOUR: 'it returns false'. Refute it at one input. -/
def fixTurnsWrong : ChangeSpec := { name := "fixTurns", fn := fun _ => fun
  | [d1, d2, d3] => { results := [.lit (.bool false)], args := [d1, d2, d3] }
  | _ => none }
def FixTurnsWrongFalsely : Prop := fixTurnsRow.holds Try.pinned (OpenSpec.ofChange fixTurnsWrong)

/- THE SECOND FORM. 'bulk': how many values and letters a reading holds, each counted each time it is reached (what is shared counts as often as it is met; a slice's spare places count too). A statement '..UptoSaid' is the law's where the arguments, and the package variables that the reading takes, are together of bulk at most 1048576: NARROWER than '..Said'. Prove '..Said' where nothing that the law and all that it calls make is longer than what came in: it says more and counts as full. Else prove '..UptoSaid'. A law counts once. -/
mutual
def uptoBulk {H : Type} : DataW H → Nat
  | .lit (.string bytes) => bytes.length + 1
  | .lit _ => 1
  | .nil => 1
  | .ptr d => uptoBulk d + 1
  | .slice elems spare => uptoBulkAll elems + uptoBulkAll spare + 1
  | .agg parts => uptoBulkAll parts + 1
  | .iface _ d => uptoBulk d + 1
  | .map entries => uptoBulkEntries entries + 1
  | .held _ => 1
def uptoBulkAll {H : Type} : List (DataW H) → Nat
  | [] => 0
  | d :: r => uptoBulk d + uptoBulkAll r
def uptoBulkEntries {H : Type} : List (Lit × DataW H) → Nat
  | [] => 0
  | x :: r => uptoBulkEntry x + uptoBulkEntries r
def uptoBulkEntry {H : Type} : Lit × DataW H → Nat
  | (.string bytes, d) => bytes.length + uptoBulk d + 1
  | (_, d) => uptoBulk d + 1
 end
def uptoSmall : (H : Type) → List (DataW H) → Bool := fun _ ds => decide (uptoBulkAll ds ≤ 1048576)
def OpenSpec.upto (s : _root_.Go.ChangeSpec) : _root_.Go.OpenSpec := { _root_.Go.OpenSpec.ofChange s with cond := some uptoSmall }

/-- 'hoardlaw2.FixCounts', WHERE WHAT IT READS IS OF BULK AT MOST 1048576: true; the input reads as it did. -/
def fixCountsUptoRow : OpenClaim := { program := "ytjiiejagnlanoaa", sum := "0e6abb6dedf4f4143521f45197fa973398c99f872c3e54a8392e91576af97162", func := "hoard/hoardlaw2.FixCounts", spec := "fixCounts", named := ["math/bits.divideError", "math/bits.overflowError"], apart := false, narrowed := true }
def FixCountsUptoSaid : Prop := fixCountsUptoRow.holds Try.pinned (OpenSpec.upto fixCountsSpec)

/-- 'hoardlaw2.FixProducts', WHERE WHAT IT READS IS OF BULK AT MOST 1048576: true; the input reads as it did. -/
def fixProductsUptoRow : OpenClaim := { program := "ytjiiejagnlanoaa", sum := "0e6abb6dedf4f4143521f45197fa973398c99f872c3e54a8392e91576af97162", func := "hoard/hoardlaw2.FixProducts", spec := "fixProducts", named := ["math/bits.divideError", "math/bits.overflowError"], apart := false, narrowed := true }
def FixProductsUptoSaid : Prop := fixProductsUptoRow.holds Try.pinned (OpenSpec.upto fixProductsSpec)

/-- 'hoardlaw2.FixWhole', WHERE WHAT IT READS IS OF BULK AT MOST 1048576: true; the input reads as it did. -/
def fixWholeUptoRow : OpenClaim := { program := "ytjiiejagnlanoaa", sum := "0e6abb6dedf4f4143521f45197fa973398c99f872c3e54a8392e91576af97162", func := "hoard/hoardlaw2.FixWhole", spec := "fixWhole", named := ["math/bits.divideError", "math/bits.overflowError"], apart := false, narrowed := true }
def FixWholeUptoSaid : Prop := fixWholeUptoRow.holds Try.pinned (OpenSpec.upto fixWholeSpec)

/-- 'hoardlaw2.FixNever', WHERE WHAT IT READS IS OF BULK AT MOST 1048576: true; the input reads as it did. -/
def fixNeverUptoRow : OpenClaim := { program := "ytjiiejagnlanoaa", sum := "0e6abb6dedf4f4143521f45197fa973398c99f872c3e54a8392e91576af97162", func := "hoard/hoardlaw2.FixNever", spec := "fixNever", named := ["math/bits.divideError", "math/bits.overflowError"], apart := false, narrowed := true }
def FixNeverUptoSaid : Prop := fixNeverUptoRow.holds Try.pinned (OpenSpec.upto fixNeverSpec)

/-- 'hoardlaw2.FixTurns', WHERE WHAT IT READS IS OF BULK AT MOST 1048576: true; the input reads as it did. -/
def fixTurnsUptoRow : OpenClaim := { program := "ytjiiejagnlanoaa", sum := "0e6abb6dedf4f4143521f45197fa973398c99f872c3e54a8392e91576af97162", func := "hoard/hoardlaw2.FixTurns", spec := "fixTurns", named := ["math/bits.divideError", "math/bits.overflowError"], apart := false, narrowed := true }
def FixTurnsUptoSaid : Prop := fixTurnsUptoRow.holds Try.pinned (OpenSpec.upto fixTurnsSpec)

end Rows
end Go.Proofs.Ytjiiejagnlanoaa
