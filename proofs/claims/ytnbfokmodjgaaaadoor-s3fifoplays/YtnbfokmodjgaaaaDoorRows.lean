/-
  NARROWER THAN 'FOR EVERY INPUT', by the rows' own cells (each row's printed sentence says how): S3fifoPlays: laid · S3fifoBounds: laid · S3fifoTold: laid · S3fifoEmpties: laid · S3fifoLoads: laid · S3fifoRemoves: laid.
  DERIVED. THE GIVEN ROWS OF THIS SEAT. 6 by the template 'for every input the law returns true; each argument reads behind the call as it read before'; 0 by the template 'total and deterministic' (their statements: YtnbfokmodjgaaaaDoorTotals.lean).
  GIVEN WITH THE SEED: the statements are not yours to turn. If you find one false, say at which input.
  Laid BY PROGRAM, IN A SANDBOX (cutbox-rows.mjs): the forced cells as the released guide's own fill.sh prints them over the translation 04ed1f2a05b9fe09… (all of the seat's roots in one cut). By AI agents, Wed Nov 11 2026. No macro, syntax, notation, axiom, sorry.
-/
import Derived.Test.YtnbfokmodjgaaaaDoorChecked
import GoSem.Claim
import GoSem.ClaimJoined
import GoSem.ClaimMapViews
import Derived.JoinedTies
import Derived.KernelRfl
namespace Go.Proofs.YtnbfokmodjgaaaaDoor
/- THE CELL 'sum', in the pinned program and in every row, IS THE sha256 OF THE DUMP (.gsa) THAT YtnbfokmodjgaaaaDoorProg.lean LOADS. Nothing in Lean hashes anything: it is a label: what it is worth is what the hold of that sum in a sandbox is worth. -/
noncomputable def Tryd.pinned : Pinned := { name := "ytnbfokmodjgaaaadoor", sum := "04ed1f2a05b9fe09714a074e674f57ec2862049753b19cb9fb9cd3e86c7a5934", checked := Tryd.checked }
namespace Rows
def none {H : Type} : Left H := { results := [], args := [] }

/- WHAT THE LISTED PACKAGE-LEVEL VARIABLES READ AS WHEN THE CALL BEGINS. Each datum BY PROGRAM (the guide's laid-datum.mjs) off the statement by which the dump's own 'gosem.cut.vars' lays the variable. In a bare row this is a premise. The card (YtnbfokmodjgaaaaDoorCards.lean) ties it to the program's text. -/
def laid_math_bits_deBruijn32tab {H : Type} : DataW H := .agg [.lit (.int .u8 0), .lit (.int .u8 1), .lit (.int .u8 28), .lit (.int .u8 2), .lit (.int .u8 29), .lit (.int .u8 14), .lit (.int .u8 24), .lit (.int .u8 3), .lit (.int .u8 30), .lit (.int .u8 22), .lit (.int .u8 20), .lit (.int .u8 15), .lit (.int .u8 25), .lit (.int .u8 17), .lit (.int .u8 4), .lit (.int .u8 8), .lit (.int .u8 31), .lit (.int .u8 27), .lit (.int .u8 13), .lit (.int .u8 23), .lit (.int .u8 21), .lit (.int .u8 19), .lit (.int .u8 16), .lit (.int .u8 7), .lit (.int .u8 26), .lit (.int .u8 12), .lit (.int .u8 18), .lit (.int .u8 6), .lit (.int .u8 11), .lit (.int .u8 5), .lit (.int .u8 10), .lit (.int .u8 9)]
def laid_math_bits_deBruijn64tab {H : Type} : DataW H := .agg [.lit (.int .u8 0), .lit (.int .u8 1), .lit (.int .u8 56), .lit (.int .u8 2), .lit (.int .u8 57), .lit (.int .u8 49), .lit (.int .u8 28), .lit (.int .u8 3), .lit (.int .u8 61), .lit (.int .u8 58), .lit (.int .u8 42), .lit (.int .u8 50), .lit (.int .u8 38), .lit (.int .u8 29), .lit (.int .u8 17), .lit (.int .u8 4), .lit (.int .u8 62), .lit (.int .u8 47), .lit (.int .u8 59), .lit (.int .u8 36), .lit (.int .u8 45), .lit (.int .u8 43), .lit (.int .u8 51), .lit (.int .u8 22), .lit (.int .u8 53), .lit (.int .u8 39), .lit (.int .u8 33), .lit (.int .u8 30), .lit (.int .u8 24), .lit (.int .u8 18), .lit (.int .u8 12), .lit (.int .u8 5), .lit (.int .u8 63), .lit (.int .u8 55), .lit (.int .u8 48), .lit (.int .u8 27), .lit (.int .u8 60), .lit (.int .u8 41), .lit (.int .u8 37), .lit (.int .u8 16), .lit (.int .u8 46), .lit (.int .u8 35), .lit (.int .u8 44), .lit (.int .u8 21), .lit (.int .u8 52), .lit (.int .u8 32), .lit (.int .u8 23), .lit (.int .u8 11), .lit (.int .u8 54), .lit (.int .u8 26), .lit (.int .u8 40), .lit (.int .u8 15), .lit (.int .u8 34), .lit (.int .u8 20), .lit (.int .u8 31), .lit (.int .u8 10), .lit (.int .u8 25), .lit (.int .u8 14), .lit (.int .u8 19), .lit (.int .u8 9), .lit (.int .u8 13), .lit (.int .u8 8), .lit (.int .u8 7), .lit (.int .u8 6)]
def laid_internal_strconv_uint64pow10 {H : Type} : DataW H := .agg [.lit (.int .u64 1), .lit (.int .u64 10), .lit (.int .u64 100), .lit (.int .u64 1000), .lit (.int .u64 10000), .lit (.int .u64 100000), .lit (.int .u64 1000000), .lit (.int .u64 10000000), .lit (.int .u64 100000000), .lit (.int .u64 1000000000), .lit (.int .u64 10000000000), .lit (.int .u64 100000000000), .lit (.int .u64 1000000000000), .lit (.int .u64 10000000000000), .lit (.int .u64 100000000000000), .lit (.int .u64 1000000000000000), .lit (.int .u64 10000000000000000), .lit (.int .u64 100000000000000000), .lit (.int .u64 1000000000000000000), .lit (.int .u64 10000000000000000000)]

/-- 'hoardlaw12.S3fifoPlays': WHATEVER THE INPUT: true; the input reads as it did. -/
def s3fifoPlaysSpec : ChangeSpec := { name := "s3fifoPlays", fn := fun _ => fun
  | [d1, d2] => { results := [.lit (.bool true)], args := [d1, d2] }
  | _ => none }
def s3fifoPlaysRow : OpenClaim := { program := "ytnbfokmodjgaaaadoor", sum := "04ed1f2a05b9fe09714a074e674f57ec2862049753b19cb9fb9cd3e86c7a5934", func := "hoard/hoardlaw12.S3fifoPlays", spec := "s3fifoPlays", inPlace := ["internal/abi.NoEscape"], named := ["internal/strconv.uint64pow10", "math/bits.deBruijn32tab", "math/bits.deBruijn64tab"], apart := false, laid := [("math/bits.deBruijn32tab", laid_math_bits_deBruijn32tab), ("math/bits.deBruijn64tab", laid_math_bits_deBruijn64tab), ("internal/strconv.uint64pow10", laid_internal_strconv_uint64pow10)] }
def S3fifoPlaysSaid : Prop := s3fifoPlaysRow.holds Tryd.pinned (OpenSpec.ofChange s3fifoPlaysSpec)

/-- ITS FALSE NEIGHBOUR: 'it returns false'. Refute it at one input. -/
def s3fifoPlaysWrong : ChangeSpec := { name := "s3fifoPlays", fn := fun _ => fun
  | [d1, d2] => { results := [.lit (.bool false)], args := [d1, d2] }
  | _ => none }
def S3fifoPlaysWrongFalsely : Prop := s3fifoPlaysRow.holds Tryd.pinned (OpenSpec.ofChange s3fifoPlaysWrong)

/-- 'hoardlaw12.S3fifoBounds': WHATEVER THE INPUT: true; the input reads as it did. -/
def s3fifoBoundsSpec : ChangeSpec := { name := "s3fifoBounds", fn := fun _ => fun
  | [d1, d2] => { results := [.lit (.bool true)], args := [d1, d2] }
  | _ => none }
def s3fifoBoundsRow : OpenClaim := { program := "ytnbfokmodjgaaaadoor", sum := "04ed1f2a05b9fe09714a074e674f57ec2862049753b19cb9fb9cd3e86c7a5934", func := "hoard/hoardlaw12.S3fifoBounds", spec := "s3fifoBounds", inPlace := ["internal/abi.NoEscape"], named := ["internal/strconv.uint64pow10", "math/bits.deBruijn32tab", "math/bits.deBruijn64tab"], apart := false, laid := [("math/bits.deBruijn32tab", laid_math_bits_deBruijn32tab), ("math/bits.deBruijn64tab", laid_math_bits_deBruijn64tab), ("internal/strconv.uint64pow10", laid_internal_strconv_uint64pow10)] }
def S3fifoBoundsSaid : Prop := s3fifoBoundsRow.holds Tryd.pinned (OpenSpec.ofChange s3fifoBoundsSpec)

/-- ITS FALSE NEIGHBOUR: 'it returns false'. Refute it at one input. -/
def s3fifoBoundsWrong : ChangeSpec := { name := "s3fifoBounds", fn := fun _ => fun
  | [d1, d2] => { results := [.lit (.bool false)], args := [d1, d2] }
  | _ => none }
def S3fifoBoundsWrongFalsely : Prop := s3fifoBoundsRow.holds Tryd.pinned (OpenSpec.ofChange s3fifoBoundsWrong)

/-- 'hoardlaw12.S3fifoTold': WHATEVER THE INPUT: true; the input reads as it did. -/
def s3fifoToldSpec : ChangeSpec := { name := "s3fifoTold", fn := fun _ => fun
  | [d1, d2] => { results := [.lit (.bool true)], args := [d1, d2] }
  | _ => none }
def s3fifoToldRow : OpenClaim := { program := "ytnbfokmodjgaaaadoor", sum := "04ed1f2a05b9fe09714a074e674f57ec2862049753b19cb9fb9cd3e86c7a5934", func := "hoard/hoardlaw12.S3fifoTold", spec := "s3fifoTold", inPlace := ["internal/abi.NoEscape"], named := ["internal/strconv.uint64pow10", "math/bits.deBruijn32tab", "math/bits.deBruijn64tab"], apart := false, laid := [("math/bits.deBruijn32tab", laid_math_bits_deBruijn32tab), ("math/bits.deBruijn64tab", laid_math_bits_deBruijn64tab), ("internal/strconv.uint64pow10", laid_internal_strconv_uint64pow10)] }
def S3fifoToldSaid : Prop := s3fifoToldRow.holds Tryd.pinned (OpenSpec.ofChange s3fifoToldSpec)

/-- ITS FALSE NEIGHBOUR: 'it returns false'. Refute it at one input. -/
def s3fifoToldWrong : ChangeSpec := { name := "s3fifoTold", fn := fun _ => fun
  | [d1, d2] => { results := [.lit (.bool false)], args := [d1, d2] }
  | _ => none }
def S3fifoToldWrongFalsely : Prop := s3fifoToldRow.holds Tryd.pinned (OpenSpec.ofChange s3fifoToldWrong)

/-- 'hoardlaw12.S3fifoEmpties': WHATEVER THE INPUT: true; the input reads as it did. -/
def s3fifoEmptiesSpec : ChangeSpec := { name := "s3fifoEmpties", fn := fun _ => fun
  | [d1, d2] => { results := [.lit (.bool true)], args := [d1, d2] }
  | _ => none }
def s3fifoEmptiesRow : OpenClaim := { program := "ytnbfokmodjgaaaadoor", sum := "04ed1f2a05b9fe09714a074e674f57ec2862049753b19cb9fb9cd3e86c7a5934", func := "hoard/hoardlaw12.S3fifoEmpties", spec := "s3fifoEmpties", inPlace := ["internal/abi.NoEscape"], named := ["internal/strconv.uint64pow10", "math/bits.deBruijn32tab", "math/bits.deBruijn64tab"], apart := false, laid := [("math/bits.deBruijn32tab", laid_math_bits_deBruijn32tab), ("math/bits.deBruijn64tab", laid_math_bits_deBruijn64tab), ("internal/strconv.uint64pow10", laid_internal_strconv_uint64pow10)] }
def S3fifoEmptiesSaid : Prop := s3fifoEmptiesRow.holds Tryd.pinned (OpenSpec.ofChange s3fifoEmptiesSpec)

/-- ITS FALSE NEIGHBOUR: 'it returns false'. Refute it at one input. -/
def s3fifoEmptiesWrong : ChangeSpec := { name := "s3fifoEmpties", fn := fun _ => fun
  | [d1, d2] => { results := [.lit (.bool false)], args := [d1, d2] }
  | _ => none }
def S3fifoEmptiesWrongFalsely : Prop := s3fifoEmptiesRow.holds Tryd.pinned (OpenSpec.ofChange s3fifoEmptiesWrong)

/-- 'hoardlaw12.S3fifoLoads': WHATEVER THE INPUT: true; the input reads as it did. -/
def s3fifoLoadsSpec : ChangeSpec := { name := "s3fifoLoads", fn := fun _ => fun
  | [d1, d2, d3] => { results := [.lit (.bool true)], args := [d1, d2, d3] }
  | _ => none }
def s3fifoLoadsRow : OpenClaim := { program := "ytnbfokmodjgaaaadoor", sum := "04ed1f2a05b9fe09714a074e674f57ec2862049753b19cb9fb9cd3e86c7a5934", func := "hoard/hoardlaw12.S3fifoLoads", spec := "s3fifoLoads", inPlace := ["internal/abi.NoEscape"], named := ["internal/strconv.uint64pow10", "math/bits.deBruijn32tab", "math/bits.deBruijn64tab"], apart := false, laid := [("math/bits.deBruijn32tab", laid_math_bits_deBruijn32tab), ("math/bits.deBruijn64tab", laid_math_bits_deBruijn64tab), ("internal/strconv.uint64pow10", laid_internal_strconv_uint64pow10)] }
def S3fifoLoadsSaid : Prop := s3fifoLoadsRow.holds Tryd.pinned (OpenSpec.ofChange s3fifoLoadsSpec)

/-- ITS FALSE NEIGHBOUR: 'it returns false'. Refute it at one input. -/
def s3fifoLoadsWrong : ChangeSpec := { name := "s3fifoLoads", fn := fun _ => fun
  | [d1, d2, d3] => { results := [.lit (.bool false)], args := [d1, d2, d3] }
  | _ => none }
def S3fifoLoadsWrongFalsely : Prop := s3fifoLoadsRow.holds Tryd.pinned (OpenSpec.ofChange s3fifoLoadsWrong)

/-- 'hoardlaw12.S3fifoRemoves': WHATEVER THE INPUT: true; the input reads as it did. -/
def s3fifoRemovesSpec : ChangeSpec := { name := "s3fifoRemoves", fn := fun _ => fun
  | [d1, d2, d3] => { results := [.lit (.bool true)], args := [d1, d2, d3] }
  | _ => none }
def s3fifoRemovesRow : OpenClaim := { program := "ytnbfokmodjgaaaadoor", sum := "04ed1f2a05b9fe09714a074e674f57ec2862049753b19cb9fb9cd3e86c7a5934", func := "hoard/hoardlaw12.S3fifoRemoves", spec := "s3fifoRemoves", inPlace := ["internal/abi.NoEscape"], named := ["internal/strconv.uint64pow10", "math/bits.deBruijn32tab", "math/bits.deBruijn64tab"], apart := false, laid := [("math/bits.deBruijn32tab", laid_math_bits_deBruijn32tab), ("math/bits.deBruijn64tab", laid_math_bits_deBruijn64tab), ("internal/strconv.uint64pow10", laid_internal_strconv_uint64pow10)] }
def S3fifoRemovesSaid : Prop := s3fifoRemovesRow.holds Tryd.pinned (OpenSpec.ofChange s3fifoRemovesSpec)

/-- ITS FALSE NEIGHBOUR: 'it returns false'. Refute it at one input. -/
def s3fifoRemovesWrong : ChangeSpec := { name := "s3fifoRemoves", fn := fun _ => fun
  | [d1, d2, d3] => { results := [.lit (.bool false)], args := [d1, d2, d3] }
  | _ => none }
def S3fifoRemovesWrongFalsely : Prop := s3fifoRemovesRow.holds Tryd.pinned (OpenSpec.ofChange s3fifoRemovesWrong)

/- THE SECOND FORM. 'bulk': how many values and letters a reading holds, each counted each time it is reached (what is shared counts as often as it is met; a slice's spare places count too). A statement '..UptoSaid' is the law's where the arguments, and the package variables that the reading takes, are together of bulk at most 1048576: NARROWER than '..Said'. Prove '..Said' where nothing that the law and all that it calls make is longer than what came in: it says more and counts as full. Else prove '..UptoSaid'. A law counts once. -/
mutual
def uptoBulk {H : Type} : DataW H → Nat
  | .lit (.string bytes) => bytes.length + 1
  | .lit _ => 1
  | .nil => 1
  | .ptr d => uptoBulk d + 1
  | .slice elems spare => uptoBulkAll elems + uptoBulkAll spare + 1
  | .agg parts => uptoBulkAll parts + 1
  | .iface _ d => uptoBulk d + 1
  | .map entries => uptoBulkEntries entries + 1
  | .held _ => 1
def uptoBulkAll {H : Type} : List (DataW H) → Nat
  | [] => 0
  | d :: r => uptoBulk d + uptoBulkAll r
def uptoBulkEntries {H : Type} : List (Lit × DataW H) → Nat
  | [] => 0
  | x :: r => uptoBulkEntry x + uptoBulkEntries r
def uptoBulkEntry {H : Type} : Lit × DataW H → Nat
  | (.string bytes, d) => bytes.length + uptoBulk d + 1
  | (_, d) => uptoBulk d + 1
 end
def uptoSmall : (H : Type) → List (DataW H) → Bool := fun _ ds => decide (uptoBulkAll ds ≤ 1048576)
def OpenSpec.upto (s : _root_.Go.ChangeSpec) : _root_.Go.OpenSpec := { _root_.Go.OpenSpec.ofChange s with cond := some uptoSmall }

/-- 'hoardlaw12.S3fifoPlays', WHERE WHAT IT READS IS OF BULK AT MOST 1048576: true; the input reads as it did. -/
def s3fifoPlaysUptoRow : OpenClaim := { program := "ytnbfokmodjgaaaadoor", sum := "04ed1f2a05b9fe09714a074e674f57ec2862049753b19cb9fb9cd3e86c7a5934", func := "hoard/hoardlaw12.S3fifoPlays", spec := "s3fifoPlays", inPlace := ["internal/abi.NoEscape"], named := ["internal/strconv.uint64pow10", "math/bits.deBruijn32tab", "math/bits.deBruijn64tab"], apart := false, laid := [("math/bits.deBruijn32tab", laid_math_bits_deBruijn32tab), ("math/bits.deBruijn64tab", laid_math_bits_deBruijn64tab), ("internal/strconv.uint64pow10", laid_internal_strconv_uint64pow10)], narrowed := true }
def S3fifoPlaysUptoSaid : Prop := s3fifoPlaysUptoRow.holds Tryd.pinned (OpenSpec.upto s3fifoPlaysSpec)

/-- 'hoardlaw12.S3fifoBounds', WHERE WHAT IT READS IS OF BULK AT MOST 1048576: true; the input reads as it did. -/
def s3fifoBoundsUptoRow : OpenClaim := { program := "ytnbfokmodjgaaaadoor", sum := "04ed1f2a05b9fe09714a074e674f57ec2862049753b19cb9fb9cd3e86c7a5934", func := "hoard/hoardlaw12.S3fifoBounds", spec := "s3fifoBounds", inPlace := ["internal/abi.NoEscape"], named := ["internal/strconv.uint64pow10", "math/bits.deBruijn32tab", "math/bits.deBruijn64tab"], apart := false, laid := [("math/bits.deBruijn32tab", laid_math_bits_deBruijn32tab), ("math/bits.deBruijn64tab", laid_math_bits_deBruijn64tab), ("internal/strconv.uint64pow10", laid_internal_strconv_uint64pow10)], narrowed := true }
def S3fifoBoundsUptoSaid : Prop := s3fifoBoundsUptoRow.holds Tryd.pinned (OpenSpec.upto s3fifoBoundsSpec)

/-- 'hoardlaw12.S3fifoTold', WHERE WHAT IT READS IS OF BULK AT MOST 1048576: true; the input reads as it did. -/
def s3fifoToldUptoRow : OpenClaim := { program := "ytnbfokmodjgaaaadoor", sum := "04ed1f2a05b9fe09714a074e674f57ec2862049753b19cb9fb9cd3e86c7a5934", func := "hoard/hoardlaw12.S3fifoTold", spec := "s3fifoTold", inPlace := ["internal/abi.NoEscape"], named := ["internal/strconv.uint64pow10", "math/bits.deBruijn32tab", "math/bits.deBruijn64tab"], apart := false, laid := [("math/bits.deBruijn32tab", laid_math_bits_deBruijn32tab), ("math/bits.deBruijn64tab", laid_math_bits_deBruijn64tab), ("internal/strconv.uint64pow10", laid_internal_strconv_uint64pow10)], narrowed := true }
def S3fifoToldUptoSaid : Prop := s3fifoToldUptoRow.holds Tryd.pinned (OpenSpec.upto s3fifoToldSpec)

/-- 'hoardlaw12.S3fifoEmpties', WHERE WHAT IT READS IS OF BULK AT MOST 1048576: true; the input reads as it did. -/
def s3fifoEmptiesUptoRow : OpenClaim := { program := "ytnbfokmodjgaaaadoor", sum := "04ed1f2a05b9fe09714a074e674f57ec2862049753b19cb9fb9cd3e86c7a5934", func := "hoard/hoardlaw12.S3fifoEmpties", spec := "s3fifoEmpties", inPlace := ["internal/abi.NoEscape"], named := ["internal/strconv.uint64pow10", "math/bits.deBruijn32tab", "math/bits.deBruijn64tab"], apart := false, laid := [("math/bits.deBruijn32tab", laid_math_bits_deBruijn32tab), ("math/bits.deBruijn64tab", laid_math_bits_deBruijn64tab), ("internal/strconv.uint64pow10", laid_internal_strconv_uint64pow10)], narrowed := true }
def S3fifoEmptiesUptoSaid : Prop := s3fifoEmptiesUptoRow.holds Tryd.pinned (OpenSpec.upto s3fifoEmptiesSpec)

/-- 'hoardlaw12.S3fifoLoads', WHERE WHAT IT READS IS OF BULK AT MOST 1048576: true; the input reads as it did. -/
def s3fifoLoadsUptoRow : OpenClaim := { program := "ytnbfokmodjgaaaadoor", sum := "04ed1f2a05b9fe09714a074e674f57ec2862049753b19cb9fb9cd3e86c7a5934", func := "hoard/hoardlaw12.S3fifoLoads", spec := "s3fifoLoads", inPlace := ["internal/abi.NoEscape"], named := ["internal/strconv.uint64pow10", "math/bits.deBruijn32tab", "math/bits.deBruijn64tab"], apart := false, laid := [("math/bits.deBruijn32tab", laid_math_bits_deBruijn32tab), ("math/bits.deBruijn64tab", laid_math_bits_deBruijn64tab), ("internal/strconv.uint64pow10", laid_internal_strconv_uint64pow10)], narrowed := true }
def S3fifoLoadsUptoSaid : Prop := s3fifoLoadsUptoRow.holds Tryd.pinned (OpenSpec.upto s3fifoLoadsSpec)

/-- 'hoardlaw12.S3fifoRemoves', WHERE WHAT IT READS IS OF BULK AT MOST 1048576: true; the input reads as it did. -/
def s3fifoRemovesUptoRow : OpenClaim := { program := "ytnbfokmodjgaaaadoor", sum := "04ed1f2a05b9fe09714a074e674f57ec2862049753b19cb9fb9cd3e86c7a5934", func := "hoard/hoardlaw12.S3fifoRemoves", spec := "s3fifoRemoves", inPlace := ["internal/abi.NoEscape"], named := ["internal/strconv.uint64pow10", "math/bits.deBruijn32tab", "math/bits.deBruijn64tab"], apart := false, laid := [("math/bits.deBruijn32tab", laid_math_bits_deBruijn32tab), ("math/bits.deBruijn64tab", laid_math_bits_deBruijn64tab), ("internal/strconv.uint64pow10", laid_internal_strconv_uint64pow10)], narrowed := true }
def S3fifoRemovesUptoSaid : Prop := s3fifoRemovesUptoRow.holds Tryd.pinned (OpenSpec.upto s3fifoRemovesSpec)

end Rows
end Go.Proofs.YtnbfokmodjgaaaaDoor
