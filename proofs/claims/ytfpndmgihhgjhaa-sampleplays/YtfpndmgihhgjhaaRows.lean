/-
  No cell of these rows narrows 'for every input' (looked for: loops, veiled, ifaces, maps, wideKeys, modest, calm, conditions, laid).
  DERIVED. THE GIVEN ROWS OF THIS SEAT. 5 by the template 'for every input the law returns true; each argument reads behind the call as it read before'; 0 by the template 'total and deterministic' (their statements: YtfpndmgihhgjhaaTotals.lean).
  GIVEN WITH THE SEED: the statements are not yours to turn. If you find one false, say at which input.
  Laid BY PROGRAM, IN A SANDBOX (cutbox-rows.mjs): the forced cells as the released guide's own fill.sh prints them over the translation 91e7ff33e60de346… (all of the seat's roots in one cut). By AI agents, Wed Nov 11 2026. No macro, syntax, notation, axiom, sorry.
-/
import Derived.Test.YtfpndmgihhgjhaaChecked
import GoSem.Claim
import GoSem.ClaimJoined
import GoSem.ClaimMapViews
import Derived.JoinedTies
import Derived.KernelRfl
namespace Go.Proofs.Ytfpndmgihhgjhaa
/- THE CELL 'sum', in the pinned program and in every row, IS THE sha256 OF THE DUMP (.gsa) THAT YtfpndmgihhgjhaaProg.lean LOADS. Nothing in Lean hashes anything: it is a label: what it is worth is what the hold of that sum in a sandbox is worth. -/
noncomputable def Try.pinned : Pinned := { name := "ytfpndmgihhgjhaa", sum := "91e7ff33e60de3461d99d7e5117d82263d1310483ebdcc3a4cc4aec22bc9b7e5", checked := Try.checked }
namespace Rows
def none {H : Type} : Left H := { results := [], args := [] }

/-- 'hoardlaw9.SamplePlays': WHATEVER THE INPUT: true; the input reads as it did. -/
def samplePlaysSpec : ChangeSpec := { name := "samplePlays", fn := fun _ => fun
  | [d1, d2, d3] => { results := [.lit (.bool true)], args := [d1, d2, d3] }
  | _ => none }
def samplePlaysRow : OpenClaim := { program := "ytfpndmgihhgjhaa", sum := "91e7ff33e60de3461d99d7e5117d82263d1310483ebdcc3a4cc4aec22bc9b7e5", func := "hoard/hoardlaw9.SamplePlays", spec := "samplePlays", named := ["math/bits.divideError", "math/bits.overflowError"], apart := false }
def SamplePlaysSaid : Prop := samplePlaysRow.holds Try.pinned (OpenSpec.ofChange samplePlaysSpec)

/-- ITS FALSE NEIGHBOUR: 'it returns false'. Refute it at one input. -/
def samplePlaysWrong : ChangeSpec := { name := "samplePlays", fn := fun _ => fun
  | [d1, d2, d3] => { results := [.lit (.bool false)], args := [d1, d2, d3] }
  | _ => none }
def SamplePlaysWrongFalsely : Prop := samplePlaysRow.holds Try.pinned (OpenSpec.ofChange samplePlaysWrong)

/-- 'hoardlaw9.SampleAlways': WHATEVER THE INPUT: true; the input reads as it did. -/
def sampleAlwaysSpec : ChangeSpec := { name := "sampleAlways", fn := fun _ => fun
  | [d1, d2, d3, d4] => { results := [.lit (.bool true)], args := [d1, d2, d3, d4] }
  | _ => none }
def sampleAlwaysRow : OpenClaim := { program := "ytfpndmgihhgjhaa", sum := "91e7ff33e60de3461d99d7e5117d82263d1310483ebdcc3a4cc4aec22bc9b7e5", func := "hoard/hoardlaw9.SampleAlways", spec := "sampleAlways", named := ["math/bits.divideError", "math/bits.overflowError"], apart := false }
def SampleAlwaysSaid : Prop := sampleAlwaysRow.holds Try.pinned (OpenSpec.ofChange sampleAlwaysSpec)

/-- ITS FALSE NEIGHBOUR: 'it returns false'. Refute it at one input. -/
def sampleAlwaysWrong : ChangeSpec := { name := "sampleAlways", fn := fun _ => fun
  | [d1, d2, d3, d4] => { results := [.lit (.bool false)], args := [d1, d2, d3, d4] }
  | _ => none }
def SampleAlwaysWrongFalsely : Prop := sampleAlwaysRow.holds Try.pinned (OpenSpec.ofChange sampleAlwaysWrong)

/-- 'hoardlaw9.SampleAll': WHATEVER THE INPUT: true; the input reads as it did. -/
def sampleAllSpec : ChangeSpec := { name := "sampleAll", fn := fun _ => fun
  | [d1, d2] => { results := [.lit (.bool true)], args := [d1, d2] }
  | _ => none }
def sampleAllRow : OpenClaim := { program := "ytfpndmgihhgjhaa", sum := "91e7ff33e60de3461d99d7e5117d82263d1310483ebdcc3a4cc4aec22bc9b7e5", func := "hoard/hoardlaw9.SampleAll", spec := "sampleAll", named := ["math/bits.divideError", "math/bits.overflowError"], apart := false }
def SampleAllSaid : Prop := sampleAllRow.holds Try.pinned (OpenSpec.ofChange sampleAllSpec)

/-- ITS FALSE NEIGHBOUR: 'it returns false'. Refute it at one input. -/
def sampleAllWrong : ChangeSpec := { name := "sampleAll", fn := fun _ => fun
  | [d1, d2] => { results := [.lit (.bool false)], args := [d1, d2] }
  | _ => none }
def SampleAllWrongFalsely : Prop := sampleAllRow.holds Try.pinned (OpenSpec.ofChange sampleAllWrong)

/-- 'hoardlaw9.SampleOfNothing': WHATEVER THE INPUT: true; the input reads as it did. -/
def sampleOfNothingSpec : ChangeSpec := { name := "sampleOfNothing", fn := fun _ => fun
  | [d] => { results := [.lit (.bool true)], args := [d] }
  | _ => none }
def sampleOfNothingRow : OpenClaim := { program := "ytfpndmgihhgjhaa", sum := "91e7ff33e60de3461d99d7e5117d82263d1310483ebdcc3a4cc4aec22bc9b7e5", func := "hoard/hoardlaw9.SampleOfNothing", spec := "sampleOfNothing", named := ["math/bits.divideError", "math/bits.overflowError"], apart := false }
def SampleOfNothingSaid : Prop := sampleOfNothingRow.holds Try.pinned (OpenSpec.ofChange sampleOfNothingSpec)

/-- ITS FALSE NEIGHBOUR: 'it returns false'. Refute it at one input. -/
def sampleOfNothingWrong : ChangeSpec := { name := "sampleOfNothing", fn := fun _ => fun
  | [d] => { results := [.lit (.bool false)], args := [d] }
  | _ => none }
def SampleOfNothingWrongFalsely : Prop := sampleOfNothingRow.holds Try.pinned (OpenSpec.ofChange sampleOfNothingWrong)

/-- 'hoardlaw9.SampleRooms': WHATEVER THE INPUT: true; the input reads as it did. -/
def sampleRoomsSpec : ChangeSpec := { name := "sampleRooms", fn := fun _ => fun
  | [d1, d2, d3, d4] => { results := [.lit (.bool true)], args := [d1, d2, d3, d4] }
  | _ => none }
def sampleRoomsRow : OpenClaim := { program := "ytfpndmgihhgjhaa", sum := "91e7ff33e60de3461d99d7e5117d82263d1310483ebdcc3a4cc4aec22bc9b7e5", func := "hoard/hoardlaw9.SampleRooms", spec := "sampleRooms", named := ["math/bits.divideError", "math/bits.overflowError"], apart := false }
def SampleRoomsSaid : Prop := sampleRoomsRow.holds Try.pinned (OpenSpec.ofChange sampleRoomsSpec)

/-- ITS FALSE NEIGHBOUR: 'it returns false'. Refute it at one input. -/
def sampleRoomsWrong : ChangeSpec := { name := "sampleRooms", fn := fun _ => fun
  | [d1, d2, d3, d4] => { results := [.lit (.bool false)], args := [d1, d2, d3, d4] }
  | _ => none }
def SampleRoomsWrongFalsely : Prop := sampleRoomsRow.holds Try.pinned (OpenSpec.ofChange sampleRoomsWrong)

/- THE SECOND FORM. 'bulk': how many values and letters a reading holds, each counted each time it is reached (what is shared counts as often as it is met; a slice's spare places count too). A statement '..UptoSaid' is the law's where the arguments, and the package variables that the reading takes, are together of bulk at most 1048576: NARROWER than '..Said'. Prove '..Said' where nothing that the law and all that it calls make is longer than what came in: it says more and counts as full. Else prove '..UptoSaid'. A law counts once. -/
mutual
def uptoBulk {H : Type} : DataW H → Nat
  | .lit (.string bytes) => bytes.length + 1
  | .lit _ => 1
  | .nil => 1
  | .ptr d => uptoBulk d + 1
  | .slice elems spare => uptoBulkAll elems + uptoBulkAll spare + 1
  | .agg parts => uptoBulkAll parts + 1
  | .iface _ d => uptoBulk d + 1
  | .map entries => uptoBulkEntries entries + 1
  | .held _ => 1
def uptoBulkAll {H : Type} : List (DataW H) → Nat
  | [] => 0
  | d :: r => uptoBulk d + uptoBulkAll r
def uptoBulkEntries {H : Type} : List (Lit × DataW H) → Nat
  | [] => 0
  | x :: r => uptoBulkEntry x + uptoBulkEntries r
def uptoBulkEntry {H : Type} : Lit × DataW H → Nat
  | (.string bytes, d) => bytes.length + uptoBulk d + 1
  | (_, d) => uptoBulk d + 1
 end
def uptoSmall : (H : Type) → List (DataW H) → Bool := fun _ ds => decide (uptoBulkAll ds ≤ 1048576)
def OpenSpec.upto (s : _root_.Go.ChangeSpec) : _root_.Go.OpenSpec := { _root_.Go.OpenSpec.ofChange s with cond := some uptoSmall }

/-- 'hoardlaw9.SamplePlays', WHERE WHAT IT READS IS OF BULK AT MOST 1048576: true; the input reads as it did. -/
def samplePlaysUptoRow : OpenClaim := { program := "ytfpndmgihhgjhaa", sum := "91e7ff33e60de3461d99d7e5117d82263d1310483ebdcc3a4cc4aec22bc9b7e5", func := "hoard/hoardlaw9.SamplePlays", spec := "samplePlays", named := ["math/bits.divideError", "math/bits.overflowError"], apart := false, narrowed := true }
def SamplePlaysUptoSaid : Prop := samplePlaysUptoRow.holds Try.pinned (OpenSpec.upto samplePlaysSpec)

/-- 'hoardlaw9.SampleAlways', WHERE WHAT IT READS IS OF BULK AT MOST 1048576: true; the input reads as it did. -/
def sampleAlwaysUptoRow : OpenClaim := { program := "ytfpndmgihhgjhaa", sum := "91e7ff33e60de3461d99d7e5117d82263d1310483ebdcc3a4cc4aec22bc9b7e5", func := "hoard/hoardlaw9.SampleAlways", spec := "sampleAlways", named := ["math/bits.divideError", "math/bits.overflowError"], apart := false, narrowed := true }
def SampleAlwaysUptoSaid : Prop := sampleAlwaysUptoRow.holds Try.pinned (OpenSpec.upto sampleAlwaysSpec)

/-- 'hoardlaw9.SampleAll', WHERE WHAT IT READS IS OF BULK AT MOST 1048576: true; the input reads as it did. -/
def sampleAllUptoRow : OpenClaim := { program := "ytfpndmgihhgjhaa", sum := "91e7ff33e60de3461d99d7e5117d82263d1310483ebdcc3a4cc4aec22bc9b7e5", func := "hoard/hoardlaw9.SampleAll", spec := "sampleAll", named := ["math/bits.divideError", "math/bits.overflowError"], apart := false, narrowed := true }
def SampleAllUptoSaid : Prop := sampleAllUptoRow.holds Try.pinned (OpenSpec.upto sampleAllSpec)

/-- 'hoardlaw9.SampleOfNothing', WHERE WHAT IT READS IS OF BULK AT MOST 1048576: true; the input reads as it did. -/
def sampleOfNothingUptoRow : OpenClaim := { program := "ytfpndmgihhgjhaa", sum := "91e7ff33e60de3461d99d7e5117d82263d1310483ebdcc3a4cc4aec22bc9b7e5", func := "hoard/hoardlaw9.SampleOfNothing", spec := "sampleOfNothing", named := ["math/bits.divideError", "math/bits.overflowError"], apart := false, narrowed := true }
def SampleOfNothingUptoSaid : Prop := sampleOfNothingUptoRow.holds Try.pinned (OpenSpec.upto sampleOfNothingSpec)

/-- 'hoardlaw9.SampleRooms', WHERE WHAT IT READS IS OF BULK AT MOST 1048576: true; the input reads as it did. -/
def sampleRoomsUptoRow : OpenClaim := { program := "ytfpndmgihhgjhaa", sum := "91e7ff33e60de3461d99d7e5117d82263d1310483ebdcc3a4cc4aec22bc9b7e5", func := "hoard/hoardlaw9.SampleRooms", spec := "sampleRooms", named := ["math/bits.divideError", "math/bits.overflowError"], apart := false, narrowed := true }
def SampleRoomsUptoSaid : Prop := sampleRoomsUptoRow.holds Try.pinned (OpenSpec.upto sampleRoomsSpec)

end Rows
end Go.Proofs.Ytfpndmgihhgjhaa
