/-
  No cell of these rows narrows 'for every input' (looked for: loops, veiled, ifaces, maps, wideKeys, modest, calm, conditions, laid).
  DERIVED. THE GIVEN ROWS OF THIS SEAT. 6 by the template 'for every input the law returns true; each argument reads behind the call as it read before'; 0 by the template 'total and deterministic' (their statements: YtcbaalodhgkgmabTotals.lean).
  GIVEN WITH THE SEED: the statements are not yours to turn. If you find one false, say at which input.
  Laid BY PROGRAM, IN A SANDBOX (cutbox-rows.mjs): the forced cells as the released guide's own fill.sh prints them over the translation 22c1377e035e3de6… (all of the seat's roots in one cut). By AI agents, Wed Nov 11 2026. No macro, syntax, notation, axiom, sorry.
-/
import Derived.Test.YtcbaalodhgkgmabChecked
import GoSem.Claim
import GoSem.ClaimJoined
import GoSem.ClaimMapViews
import Derived.JoinedTies
import Derived.KernelRfl
namespace Go.Proofs.Ytcbaalodhgkgmab
/- THE CELL 'sum', in the pinned program and in every row, IS THE sha256 OF THE DUMP (.gsa) THAT YtcbaalodhgkgmabProg.lean LOADS. Nothing in Lean hashes anything: it is a label: what it is worth is what the hold of that sum in a sandbox is worth. -/
noncomputable def Try.pinned : Pinned := { name := "ytcbaalodhgkgmab", sum := "22c1377e035e3de6f0078d54c086c01fb5db3770969573fab9ec9ee6eee27912", checked := Try.checked }
namespace Rows
def none {H : Type} : Left H := { results := [], args := [] }

/-- 'hoardlaw13.LirsOfNothing': WHATEVER THE INPUT: true; the input reads as it did. -/
def lirsOfNothingSpec : ChangeSpec := { name := "lirsOfNothing", fn := fun _ => fun
  | [d] => { results := [.lit (.bool true)], args := [d] }
  | _ => none }
def lirsOfNothingRow : OpenClaim := { program := "ytcbaalodhgkgmab", sum := "22c1377e035e3de6f0078d54c086c01fb5db3770969573fab9ec9ee6eee27912", func := "hoard/hoardlaw13.LirsOfNothing", spec := "lirsOfNothing", inPlace := ["internal/abi.NoEscape"], apart := false }
def LirsOfNothingSaid : Prop := lirsOfNothingRow.holds Try.pinned (OpenSpec.ofChange lirsOfNothingSpec)

/-- ITS FALSE NEIGHBOUR: 'it returns false'. Refute it at one input. -/
def lirsOfNothingWrong : ChangeSpec := { name := "lirsOfNothing", fn := fun _ => fun
  | [d] => { results := [.lit (.bool false)], args := [d] }
  | _ => none }
def LirsOfNothingWrongFalsely : Prop := lirsOfNothingRow.holds Try.pinned (OpenSpec.ofChange lirsOfNothingWrong)

/-- 'hoardlaw13.LirsScan': WHATEVER THE INPUT: true; the input reads as it did. -/
def lirsScanSpec : ChangeSpec := { name := "lirsScan", fn := fun _ => fun
  | [d1, d2] => { results := [.lit (.bool true)], args := [d1, d2] }
  | _ => none }
def lirsScanRow : OpenClaim := { program := "ytcbaalodhgkgmab", sum := "22c1377e035e3de6f0078d54c086c01fb5db3770969573fab9ec9ee6eee27912", func := "hoard/hoardlaw13.LirsScan", spec := "lirsScan", inPlace := ["internal/abi.NoEscape"], apart := false }
def LirsScanSaid : Prop := lirsScanRow.holds Try.pinned (OpenSpec.ofChange lirsScanSpec)

/-- ITS FALSE NEIGHBOUR: 'it returns false'. Refute it at one input. -/
def lirsScanWrong : ChangeSpec := { name := "lirsScan", fn := fun _ => fun
  | [d1, d2] => { results := [.lit (.bool false)], args := [d1, d2] }
  | _ => none }
def LirsScanWrongFalsely : Prop := lirsScanRow.holds Try.pinned (OpenSpec.ofChange lirsScanWrong)

/-- 'hoardlaw13.LirsFits': WHATEVER THE INPUT: true; the input reads as it did. -/
def lirsFitsSpec : ChangeSpec := { name := "lirsFits", fn := fun _ => fun
  | [d1, d2] => { results := [.lit (.bool true)], args := [d1, d2] }
  | _ => none }
def lirsFitsRow : OpenClaim := { program := "ytcbaalodhgkgmab", sum := "22c1377e035e3de6f0078d54c086c01fb5db3770969573fab9ec9ee6eee27912", func := "hoard/hoardlaw13.LirsFits", spec := "lirsFits", inPlace := ["internal/abi.NoEscape"], apart := false }
def LirsFitsSaid : Prop := lirsFitsRow.holds Try.pinned (OpenSpec.ofChange lirsFitsSpec)

/-- ITS FALSE NEIGHBOUR: 'it returns false'. Refute it at one input. -/
def lirsFitsWrong : ChangeSpec := { name := "lirsFits", fn := fun _ => fun
  | [d1, d2] => { results := [.lit (.bool false)], args := [d1, d2] }
  | _ => none }
def LirsFitsWrongFalsely : Prop := lirsFitsRow.holds Try.pinned (OpenSpec.ofChange lirsFitsWrong)

/-- 'hoardlaw13.LirsOne': WHATEVER THE INPUT: true; the input reads as it did. -/
def lirsOneSpec : ChangeSpec := { name := "lirsOne", fn := fun _ => fun
  | [d] => { results := [.lit (.bool true)], args := [d] }
  | _ => none }
def lirsOneRow : OpenClaim := { program := "ytcbaalodhgkgmab", sum := "22c1377e035e3de6f0078d54c086c01fb5db3770969573fab9ec9ee6eee27912", func := "hoard/hoardlaw13.LirsOne", spec := "lirsOne", inPlace := ["internal/abi.NoEscape"], apart := false }
def LirsOneSaid : Prop := lirsOneRow.holds Try.pinned (OpenSpec.ofChange lirsOneSpec)

/-- ITS FALSE NEIGHBOUR: 'it returns false'. Refute it at one input. -/
def lirsOneWrong : ChangeSpec := { name := "lirsOne", fn := fun _ => fun
  | [d] => { results := [.lit (.bool false)], args := [d] }
  | _ => none }
def LirsOneWrongFalsely : Prop := lirsOneRow.holds Try.pinned (OpenSpec.ofChange lirsOneWrong)

/-- 'hoardlaw13.LirsCounts': WHATEVER THE INPUT: true; the input reads as it did. -/
def lirsCountsSpec : ChangeSpec := { name := "lirsCounts", fn := fun _ => fun
  | [d1, d2] => { results := [.lit (.bool true)], args := [d1, d2] }
  | _ => none }
def lirsCountsRow : OpenClaim := { program := "ytcbaalodhgkgmab", sum := "22c1377e035e3de6f0078d54c086c01fb5db3770969573fab9ec9ee6eee27912", func := "hoard/hoardlaw13.LirsCounts", spec := "lirsCounts", inPlace := ["internal/abi.NoEscape"], apart := false }
def LirsCountsSaid : Prop := lirsCountsRow.holds Try.pinned (OpenSpec.ofChange lirsCountsSpec)

/-- ITS FALSE NEIGHBOUR: 'it returns false'. Refute it at one input. -/
def lirsCountsWrong : ChangeSpec := { name := "lirsCounts", fn := fun _ => fun
  | [d1, d2] => { results := [.lit (.bool false)], args := [d1, d2] }
  | _ => none }
def LirsCountsWrongFalsely : Prop := lirsCountsRow.holds Try.pinned (OpenSpec.ofChange lirsCountsWrong)

/-- 'hoardlaw13.LirsOwn': WHATEVER THE INPUT: true; the input reads as it did. -/
def lirsOwnSpec : ChangeSpec := { name := "lirsOwn", fn := fun _ => fun
  | [d1, d2] => { results := [.lit (.bool true)], args := [d1, d2] }
  | _ => none }
def lirsOwnRow : OpenClaim := { program := "ytcbaalodhgkgmab", sum := "22c1377e035e3de6f0078d54c086c01fb5db3770969573fab9ec9ee6eee27912", func := "hoard/hoardlaw13.LirsOwn", spec := "lirsOwn", inPlace := ["internal/abi.NoEscape"], apart := false }
def LirsOwnSaid : Prop := lirsOwnRow.holds Try.pinned (OpenSpec.ofChange lirsOwnSpec)

/-- ITS FALSE NEIGHBOUR: 'it returns false'. Refute it at one input. -/
def lirsOwnWrong : ChangeSpec := { name := "lirsOwn", fn := fun _ => fun
  | [d1, d2] => { results := [.lit (.bool false)], args := [d1, d2] }
  | _ => none }
def LirsOwnWrongFalsely : Prop := lirsOwnRow.holds Try.pinned (OpenSpec.ofChange lirsOwnWrong)

/- THE SECOND FORM. 'bulk': how many values and letters a reading holds, each counted each time it is reached (what is shared counts as often as it is met; a slice's spare places count too). A statement '..UptoSaid' is the law's where the arguments, and the package variables that the reading takes, are together of bulk at most 1048576: NARROWER than '..Said'. Prove '..Said' where nothing that the law and all that it calls make is longer than what came in: it says more and counts as full. Else prove '..UptoSaid'. A law counts once. -/
mutual
def uptoBulk {H : Type} : DataW H → Nat
  | .lit (.string bytes) => bytes.length + 1
  | .lit _ => 1
  | .nil => 1
  | .ptr d => uptoBulk d + 1
  | .slice elems spare => uptoBulkAll elems + uptoBulkAll spare + 1
  | .agg parts => uptoBulkAll parts + 1
  | .iface _ d => uptoBulk d + 1
  | .map entries => uptoBulkEntries entries + 1
  | .held _ => 1
def uptoBulkAll {H : Type} : List (DataW H) → Nat
  | [] => 0
  | d :: r => uptoBulk d + uptoBulkAll r
def uptoBulkEntries {H : Type} : List (Lit × DataW H) → Nat
  | [] => 0
  | x :: r => uptoBulkEntry x + uptoBulkEntries r
def uptoBulkEntry {H : Type} : Lit × DataW H → Nat
  | (.string bytes, d) => bytes.length + uptoBulk d + 1
  | (_, d) => uptoBulk d + 1
 end
def uptoSmall : (H : Type) → List (DataW H) → Bool := fun _ ds => decide (uptoBulkAll ds ≤ 1048576)
def OpenSpec.upto (s : _root_.Go.ChangeSpec) : _root_.Go.OpenSpec := { _root_.Go.OpenSpec.ofChange s with cond := some uptoSmall }

/-- 'hoardlaw13.LirsOfNothing', WHERE WHAT IT READS IS OF BULK AT MOST 1048576: true; the input reads as it did. -/
def lirsOfNothingUptoRow : OpenClaim := { program := "ytcbaalodhgkgmab", sum := "22c1377e035e3de6f0078d54c086c01fb5db3770969573fab9ec9ee6eee27912", func := "hoard/hoardlaw13.LirsOfNothing", spec := "lirsOfNothing", inPlace := ["internal/abi.NoEscape"], apart := false, narrowed := true }
def LirsOfNothingUptoSaid : Prop := lirsOfNothingUptoRow.holds Try.pinned (OpenSpec.upto lirsOfNothingSpec)

/-- 'hoardlaw13.LirsScan', WHERE WHAT IT READS IS OF BULK AT MOST 1048576: true; the input reads as it did. -/
def lirsScanUptoRow : OpenClaim := { program := "ytcbaalodhgkgmab", sum := "22c1377e035e3de6f0078d54c086c01fb5db3770969573fab9ec9ee6eee27912", func := "hoard/hoardlaw13.LirsScan", spec := "lirsScan", inPlace := ["internal/abi.NoEscape"], apart := false, narrowed := true }
def LirsScanUptoSaid : Prop := lirsScanUptoRow.holds Try.pinned (OpenSpec.upto lirsScanSpec)

/-- 'hoardlaw13.LirsFits', WHERE WHAT IT READS IS OF BULK AT MOST 1048576: true; the input reads as it did. -/
def lirsFitsUptoRow : OpenClaim := { program := "ytcbaalodhgkgmab", sum := "22c1377e035e3de6f0078d54c086c01fb5db3770969573fab9ec9ee6eee27912", func := "hoard/hoardlaw13.LirsFits", spec := "lirsFits", inPlace := ["internal/abi.NoEscape"], apart := false, narrowed := true }
def LirsFitsUptoSaid : Prop := lirsFitsUptoRow.holds Try.pinned (OpenSpec.upto lirsFitsSpec)

/-- 'hoardlaw13.LirsOne', WHERE WHAT IT READS IS OF BULK AT MOST 1048576: true; the input reads as it did. -/
def lirsOneUptoRow : OpenClaim := { program := "ytcbaalodhgkgmab", sum := "22c1377e035e3de6f0078d54c086c01fb5db3770969573fab9ec9ee6eee27912", func := "hoard/hoardlaw13.LirsOne", spec := "lirsOne", inPlace := ["internal/abi.NoEscape"], apart := false, narrowed := true }
def LirsOneUptoSaid : Prop := lirsOneUptoRow.holds Try.pinned (OpenSpec.upto lirsOneSpec)

/-- 'hoardlaw13.LirsCounts', WHERE WHAT IT READS IS OF BULK AT MOST 1048576: true; the input reads as it did. -/
def lirsCountsUptoRow : OpenClaim := { program := "ytcbaalodhgkgmab", sum := "22c1377e035e3de6f0078d54c086c01fb5db3770969573fab9ec9ee6eee27912", func := "hoard/hoardlaw13.LirsCounts", spec := "lirsCounts", inPlace := ["internal/abi.NoEscape"], apart := false, narrowed := true }
def LirsCountsUptoSaid : Prop := lirsCountsUptoRow.holds Try.pinned (OpenSpec.upto lirsCountsSpec)

/-- 'hoardlaw13.LirsOwn', WHERE WHAT IT READS IS OF BULK AT MOST 1048576: true; the input reads as it did. -/
def lirsOwnUptoRow : OpenClaim := { program := "ytcbaalodhgkgmab", sum := "22c1377e035e3de6f0078d54c086c01fb5db3770969573fab9ec9ee6eee27912", func := "hoard/hoardlaw13.LirsOwn", spec := "lirsOwn", inPlace := ["internal/abi.NoEscape"], apart := false, narrowed := true }
def LirsOwnUptoSaid : Prop := lirsOwnUptoRow.holds Try.pinned (OpenSpec.upto lirsOwnSpec)

end Rows
end Go.Proofs.Ytcbaalodhgkgmab
