/-
  NARROWER THAN 'FOR EVERY INPUT', by the rows' own cells (each row's printed sentence says how): ReadLaid: loops, laid · ReadUnder: laid · Builds: laid · BuildBack: laid · BuildForms: laid · BuildZeros: laid · BuildBools: laid · BuildUnlike: laid · Concats: loops, laid · ConcatRows: loops, laid · ConcatThree: loops, laid · ConcatFull: laid · ConcatParts: loops, laid.
  DERIVED. THE GIVEN ROWS OF THIS SEAT. 13 by the template 'for every input the law returns true; each argument reads behind the call as it read before'; 0 by the template 'total and deterministic' (their statements: YtcpfhfdgfcilaaaGreatDoorTotals.lean).
  GIVEN WITH THE SEED: the statements are not yours to turn. If you find one false, say at which input.
  Laid BY PROGRAM, IN A SANDBOX (cutbox-rows.mjs): the forced cells as the released guide's own fill.sh prints them over the translation 376d2340ba631ef9… (all of the seat's roots in one cut). By AI agents, Wed Nov 11 2026. No macro, syntax, notation, axiom, sorry.
-/
import Derived.Test.YtcpfhfdgfcilaaaGreatDoorChecked
import GoSem.Claim
import GoSem.ClaimJoined
import GoSem.ClaimMapViews
import Derived.JoinedTies
import Derived.KernelRfl
namespace Go.Proofs.YtcpfhfdgfcilaaaGreatDoor
/- THE CELL 'sum', in the pinned program and in every row, IS THE sha256 OF THE DUMP (.gsa) THAT YtcpfhfdgfcilaaaGreatDoorProg.lean LOADS. Nothing in Lean hashes anything: it is a label: what it is worth is what the hold of that sum in a sandbox is worth. -/
noncomputable def Tryz.pinned : Pinned := { name := "ytcpfhfdgfcilaaagreatdoor", sum := "376d2340ba631ef93ff99f5a3c65673f760eaa483da9fa37787449998c5c6f1f", checked := Tryz.checked }
namespace Rows
def none {H : Type} : Left H := { results := [], args := [] }

/- WHAT THE LISTED PACKAGE-LEVEL VARIABLES READ AS WHEN THE CALL BEGINS. Each datum BY PROGRAM (the guide's laid-datum.mjs) off the statement by which the dump's own 'gosem.cut.vars' lays the variable. In a bare row this is a premise. The card (YtcpfhfdgfcilaaaGreatDoorCards.lean) ties it to the program's text. -/
def laid_math_bits_deBruijn32tab {H : Type} : DataW H := .agg [.lit (.int .u8 0), .lit (.int .u8 1), .lit (.int .u8 28), .lit (.int .u8 2), .lit (.int .u8 29), .lit (.int .u8 14), .lit (.int .u8 24), .lit (.int .u8 3), .lit (.int .u8 30), .lit (.int .u8 22), .lit (.int .u8 20), .lit (.int .u8 15), .lit (.int .u8 25), .lit (.int .u8 17), .lit (.int .u8 4), .lit (.int .u8 8), .lit (.int .u8 31), .lit (.int .u8 27), .lit (.int .u8 13), .lit (.int .u8 23), .lit (.int .u8 21), .lit (.int .u8 19), .lit (.int .u8 16), .lit (.int .u8 7), .lit (.int .u8 26), .lit (.int .u8 12), .lit (.int .u8 18), .lit (.int .u8 6), .lit (.int .u8 11), .lit (.int .u8 5), .lit (.int .u8 10), .lit (.int .u8 9)]
def laid_math_bits_deBruijn64tab {H : Type} : DataW H := .agg [.lit (.int .u8 0), .lit (.int .u8 1), .lit (.int .u8 56), .lit (.int .u8 2), .lit (.int .u8 57), .lit (.int .u8 49), .lit (.int .u8 28), .lit (.int .u8 3), .lit (.int .u8 61), .lit (.int .u8 58), .lit (.int .u8 42), .lit (.int .u8 50), .lit (.int .u8 38), .lit (.int .u8 29), .lit (.int .u8 17), .lit (.int .u8 4), .lit (.int .u8 62), .lit (.int .u8 47), .lit (.int .u8 59), .lit (.int .u8 36), .lit (.int .u8 45), .lit (.int .u8 43), .lit (.int .u8 51), .lit (.int .u8 22), .lit (.int .u8 53), .lit (.int .u8 39), .lit (.int .u8 33), .lit (.int .u8 30), .lit (.int .u8 24), .lit (.int .u8 18), .lit (.int .u8 12), .lit (.int .u8 5), .lit (.int .u8 63), .lit (.int .u8 55), .lit (.int .u8 48), .lit (.int .u8 27), .lit (.int .u8 60), .lit (.int .u8 41), .lit (.int .u8 37), .lit (.int .u8 16), .lit (.int .u8 46), .lit (.int .u8 35), .lit (.int .u8 44), .lit (.int .u8 21), .lit (.int .u8 52), .lit (.int .u8 32), .lit (.int .u8 23), .lit (.int .u8 11), .lit (.int .u8 54), .lit (.int .u8 26), .lit (.int .u8 40), .lit (.int .u8 15), .lit (.int .u8 34), .lit (.int .u8 20), .lit (.int .u8 31), .lit (.int .u8 10), .lit (.int .u8 25), .lit (.int .u8 14), .lit (.int .u8 19), .lit (.int .u8 9), .lit (.int .u8 13), .lit (.int .u8 8), .lit (.int .u8 7), .lit (.int .u8 6)]
def laid_internal_strconv_uint64pow10 {H : Type} : DataW H := .agg [.lit (.int .u64 1), .lit (.int .u64 10), .lit (.int .u64 100), .lit (.int .u64 1000), .lit (.int .u64 10000), .lit (.int .u64 100000), .lit (.int .u64 1000000), .lit (.int .u64 10000000), .lit (.int .u64 100000000), .lit (.int .u64 1000000000), .lit (.int .u64 10000000000), .lit (.int .u64 100000000000), .lit (.int .u64 1000000000000), .lit (.int .u64 10000000000000), .lit (.int .u64 100000000000000), .lit (.int .u64 1000000000000000), .lit (.int .u64 10000000000000000), .lit (.int .u64 100000000000000000), .lit (.int .u64 1000000000000000000), .lit (.int .u64 10000000000000000000)]
def laid_strconv_ErrRange {H : Type} : DataW H := .iface "*errors.errorString" (.ptr (.agg [.lit (.string [118, 97, 108, 117, 101, 32, 111, 117, 116, 32, 111, 102, 32, 114, 97, 110, 103, 101])]))
def laid_strconv_ErrSyntax {H : Type} : DataW H := .iface "*errors.errorString" (.ptr (.agg [.lit (.string [105, 110, 118, 97, 108, 105, 100, 32, 115, 121, 110, 116, 97, 120])]))

/-- 'quiverlaw9.ReadLaid': WHATEVER THE INPUT: true; the input reads as it did. -/
def readLaidSpec : ChangeSpec := { name := "readLaid", fn := fun _ => fun
  | [d1, d2, d3] => { results := [.lit (.bool true)], args := [d1, d2, d3] }
  | _ => none }
def readLaidRow : OpenClaim := { program := "ytcpfhfdgfcilaaagreatdoor", sum := "376d2340ba631ef93ff99f5a3c65673f760eaa483da9fa37787449998c5c6f1f", func := "quiver/quiverlaw9.ReadLaid", spec := "readLaid", inPlace := ["internal/abi.NoEscape", "internal/bytealg.MakeNoZero"], unfollowed := true, recurses := true, named := ["internal/strconv.uint64pow10", "math/bits.deBruijn32tab", "math/bits.deBruijn64tab"], loops := true, apart := false, laid := [("math/bits.deBruijn32tab", laid_math_bits_deBruijn32tab), ("math/bits.deBruijn64tab", laid_math_bits_deBruijn64tab), ("internal/strconv.uint64pow10", laid_internal_strconv_uint64pow10)] }
def ReadLaidSaid : Prop := readLaidRow.holds Tryz.pinned (OpenSpec.ofChange readLaidSpec)

/-- ITS FALSE NEIGHBOUR: 'it returns false'. Refute it at one input. -/
def readLaidWrong : ChangeSpec := { name := "readLaid", fn := fun _ => fun
  | [d1, d2, d3] => { results := [.lit (.bool false)], args := [d1, d2, d3] }
  | _ => none }
def ReadLaidWrongFalsely : Prop := readLaidRow.holds Tryz.pinned (OpenSpec.ofChange readLaidWrong)

/-- 'quiverlaw9.ReadUnder': WHATEVER THE INPUT: true; the input reads as it did. -/
def readUnderSpec : ChangeSpec := { name := "readUnder", fn := fun _ => fun
  | [d1, d2, d3] => { results := [.lit (.bool true)], args := [d1, d2, d3] }
  | _ => none }
def readUnderRow : OpenClaim := { program := "ytcpfhfdgfcilaaagreatdoor", sum := "376d2340ba631ef93ff99f5a3c65673f760eaa483da9fa37787449998c5c6f1f", func := "quiver/quiverlaw9.ReadUnder", spec := "readUnder", inPlace := ["internal/abi.NoEscape", "internal/bytealg.MakeNoZero"], unfollowed := true, recurses := true, named := ["internal/strconv.uint64pow10", "math/bits.deBruijn32tab", "math/bits.deBruijn64tab"], apart := false, laid := [("math/bits.deBruijn32tab", laid_math_bits_deBruijn32tab), ("math/bits.deBruijn64tab", laid_math_bits_deBruijn64tab), ("internal/strconv.uint64pow10", laid_internal_strconv_uint64pow10)] }
def ReadUnderSaid : Prop := readUnderRow.holds Tryz.pinned (OpenSpec.ofChange readUnderSpec)

/-- ITS FALSE NEIGHBOUR: 'it returns false'. Refute it at one input. -/
def readUnderWrong : ChangeSpec := { name := "readUnder", fn := fun _ => fun
  | [d1, d2, d3] => { results := [.lit (.bool false)], args := [d1, d2, d3] }
  | _ => none }
def ReadUnderWrongFalsely : Prop := readUnderRow.holds Tryz.pinned (OpenSpec.ofChange readUnderWrong)

/-- 'quiverlaw10.Builds': WHATEVER THE INPUT: true; the input reads as it did. -/
def buildsSpec : ChangeSpec := { name := "builds", fn := fun _ => fun
  | [d1, d2, d3] => { results := [.lit (.bool true)], args := [d1, d2, d3] }
  | _ => none }
def buildsRow : OpenClaim := { program := "ytcpfhfdgfcilaaagreatdoor", sum := "376d2340ba631ef93ff99f5a3c65673f760eaa483da9fa37787449998c5c6f1f", func := "quiver/quiverlaw10.Builds", spec := "builds", inPlace := ["internal/bytealg.IndexByteString", "internal/abi.NoEscape", "internal/bytealg.MakeNoZero"], unfollowed := true, recurses := true, named := ["strconv.ErrSyntax", "strconv.ErrRange", "internal/strconv.uint64pow10", "math/bits.deBruijn32tab", "math/bits.deBruijn64tab"], apart := false, laid := [("math/bits.deBruijn32tab", laid_math_bits_deBruijn32tab), ("math/bits.deBruijn64tab", laid_math_bits_deBruijn64tab), ("internal/strconv.uint64pow10", laid_internal_strconv_uint64pow10), ("strconv.ErrRange", laid_strconv_ErrRange), ("strconv.ErrSyntax", laid_strconv_ErrSyntax)] }
def BuildsSaid : Prop := buildsRow.holds Tryz.pinned (OpenSpec.ofChange buildsSpec)

/-- ITS FALSE NEIGHBOUR: 'it returns false'. Refute it at one input. -/
def buildsWrong : ChangeSpec := { name := "builds", fn := fun _ => fun
  | [d1, d2, d3] => { results := [.lit (.bool false)], args := [d1, d2, d3] }
  | _ => none }
def BuildsWrongFalsely : Prop := buildsRow.holds Tryz.pinned (OpenSpec.ofChange buildsWrong)

/-- 'quiverlaw10.BuildBack': WHATEVER THE INPUT: true; the input reads as it did. -/
def buildBackSpec : ChangeSpec := { name := "buildBack", fn := fun _ => fun
  | [d1, d2, d3] => { results := [.lit (.bool true)], args := [d1, d2, d3] }
  | _ => none }
def buildBackRow : OpenClaim := { program := "ytcpfhfdgfcilaaagreatdoor", sum := "376d2340ba631ef93ff99f5a3c65673f760eaa483da9fa37787449998c5c6f1f", func := "quiver/quiverlaw10.BuildBack", spec := "buildBack", inPlace := ["internal/bytealg.IndexByteString", "internal/abi.NoEscape", "internal/bytealg.MakeNoZero"], unfollowed := true, recurses := true, named := ["strconv.ErrSyntax", "strconv.ErrRange", "internal/strconv.uint64pow10", "math/bits.deBruijn32tab", "math/bits.deBruijn64tab"], apart := false, laid := [("math/bits.deBruijn32tab", laid_math_bits_deBruijn32tab), ("math/bits.deBruijn64tab", laid_math_bits_deBruijn64tab), ("internal/strconv.uint64pow10", laid_internal_strconv_uint64pow10), ("strconv.ErrRange", laid_strconv_ErrRange), ("strconv.ErrSyntax", laid_strconv_ErrSyntax)] }
def BuildBackSaid : Prop := buildBackRow.holds Tryz.pinned (OpenSpec.ofChange buildBackSpec)

/-- ITS FALSE NEIGHBOUR: 'it returns false'. Refute it at one input. -/
def buildBackWrong : ChangeSpec := { name := "buildBack", fn := fun _ => fun
  | [d1, d2, d3] => { results := [.lit (.bool false)], args := [d1, d2, d3] }
  | _ => none }
def BuildBackWrongFalsely : Prop := buildBackRow.holds Tryz.pinned (OpenSpec.ofChange buildBackWrong)

/-- 'quiverlaw10.BuildForms': WHATEVER THE INPUT: true; the input reads as it did. -/
def buildFormsSpec : ChangeSpec := { name := "buildForms", fn := fun _ => fun
  | [d1, d2] => { results := [.lit (.bool true)], args := [d1, d2] }
  | _ => none }
def buildFormsRow : OpenClaim := { program := "ytcpfhfdgfcilaaagreatdoor", sum := "376d2340ba631ef93ff99f5a3c65673f760eaa483da9fa37787449998c5c6f1f", func := "quiver/quiverlaw10.BuildForms", spec := "buildForms", inPlace := ["internal/bytealg.IndexByteString", "internal/abi.NoEscape", "internal/bytealg.MakeNoZero"], unfollowed := true, recurses := true, named := ["strconv.ErrSyntax", "strconv.ErrRange", "internal/strconv.uint64pow10", "math/bits.deBruijn32tab", "math/bits.deBruijn64tab"], apart := false, laid := [("math/bits.deBruijn32tab", laid_math_bits_deBruijn32tab), ("math/bits.deBruijn64tab", laid_math_bits_deBruijn64tab), ("internal/strconv.uint64pow10", laid_internal_strconv_uint64pow10), ("strconv.ErrRange", laid_strconv_ErrRange), ("strconv.ErrSyntax", laid_strconv_ErrSyntax)] }
def BuildFormsSaid : Prop := buildFormsRow.holds Tryz.pinned (OpenSpec.ofChange buildFormsSpec)

/-- ITS FALSE NEIGHBOUR: 'it returns false'. Refute it at one input. -/
def buildFormsWrong : ChangeSpec := { name := "buildForms", fn := fun _ => fun
  | [d1, d2] => { results := [.lit (.bool false)], args := [d1, d2] }
  | _ => none }
def BuildFormsWrongFalsely : Prop := buildFormsRow.holds Tryz.pinned (OpenSpec.ofChange buildFormsWrong)

/-- 'quiverlaw10.BuildZeros': WHATEVER THE INPUT: true; the input reads as it did. -/
def buildZerosSpec : ChangeSpec := { name := "buildZeros", fn := fun _ => fun
  | [d1, d2] => { results := [.lit (.bool true)], args := [d1, d2] }
  | _ => none }
def buildZerosRow : OpenClaim := { program := "ytcpfhfdgfcilaaagreatdoor", sum := "376d2340ba631ef93ff99f5a3c65673f760eaa483da9fa37787449998c5c6f1f", func := "quiver/quiverlaw10.BuildZeros", spec := "buildZeros", inPlace := ["internal/bytealg.IndexByteString", "internal/abi.NoEscape", "internal/bytealg.MakeNoZero"], unfollowed := true, recurses := true, named := ["strconv.ErrSyntax", "strconv.ErrRange", "internal/strconv.uint64pow10", "math/bits.deBruijn32tab", "math/bits.deBruijn64tab"], apart := false, laid := [("math/bits.deBruijn32tab", laid_math_bits_deBruijn32tab), ("math/bits.deBruijn64tab", laid_math_bits_deBruijn64tab), ("internal/strconv.uint64pow10", laid_internal_strconv_uint64pow10), ("strconv.ErrRange", laid_strconv_ErrRange), ("strconv.ErrSyntax", laid_strconv_ErrSyntax)] }
def BuildZerosSaid : Prop := buildZerosRow.holds Tryz.pinned (OpenSpec.ofChange buildZerosSpec)

/-- ITS FALSE NEIGHBOUR: 'it returns false'. Refute it at one input. -/
def buildZerosWrong : ChangeSpec := { name := "buildZeros", fn := fun _ => fun
  | [d1, d2] => { results := [.lit (.bool false)], args := [d1, d2] }
  | _ => none }
def BuildZerosWrongFalsely : Prop := buildZerosRow.holds Tryz.pinned (OpenSpec.ofChange buildZerosWrong)

/-- 'quiverlaw10.BuildBools': WHATEVER THE INPUT: true; the input reads as it did. -/
def buildBoolsSpec : ChangeSpec := { name := "buildBools", fn := fun _ => fun
  | [d1, d2] => { results := [.lit (.bool true)], args := [d1, d2] }
  | _ => none }
def buildBoolsRow : OpenClaim := { program := "ytcpfhfdgfcilaaagreatdoor", sum := "376d2340ba631ef93ff99f5a3c65673f760eaa483da9fa37787449998c5c6f1f", func := "quiver/quiverlaw10.BuildBools", spec := "buildBools", inPlace := ["internal/bytealg.IndexByteString", "internal/abi.NoEscape", "internal/bytealg.MakeNoZero"], unfollowed := true, recurses := true, named := ["strconv.ErrSyntax", "strconv.ErrRange", "internal/strconv.uint64pow10", "math/bits.deBruijn32tab", "math/bits.deBruijn64tab"], apart := false, laid := [("math/bits.deBruijn32tab", laid_math_bits_deBruijn32tab), ("math/bits.deBruijn64tab", laid_math_bits_deBruijn64tab), ("internal/strconv.uint64pow10", laid_internal_strconv_uint64pow10), ("strconv.ErrRange", laid_strconv_ErrRange), ("strconv.ErrSyntax", laid_strconv_ErrSyntax)] }
def BuildBoolsSaid : Prop := buildBoolsRow.holds Tryz.pinned (OpenSpec.ofChange buildBoolsSpec)

/-- ITS FALSE NEIGHBOUR: 'it returns false'. Refute it at one input. -/
def buildBoolsWrong : ChangeSpec := { name := "buildBools", fn := fun _ => fun
  | [d1, d2] => { results := [.lit (.bool false)], args := [d1, d2] }
  | _ => none }
def BuildBoolsWrongFalsely : Prop := buildBoolsRow.holds Tryz.pinned (OpenSpec.ofChange buildBoolsWrong)

/-- 'quiverlaw10.BuildUnlike': WHATEVER THE INPUT: true; the input reads as it did. -/
def buildUnlikeSpec : ChangeSpec := { name := "buildUnlike", fn := fun _ => fun
  | [d1, d2, d3, d4] => { results := [.lit (.bool true)], args := [d1, d2, d3, d4] }
  | _ => none }
def buildUnlikeRow : OpenClaim := { program := "ytcpfhfdgfcilaaagreatdoor", sum := "376d2340ba631ef93ff99f5a3c65673f760eaa483da9fa37787449998c5c6f1f", func := "quiver/quiverlaw10.BuildUnlike", spec := "buildUnlike", inPlace := ["internal/bytealg.IndexByteString", "internal/abi.NoEscape", "internal/bytealg.MakeNoZero"], unfollowed := true, recurses := true, named := ["strconv.ErrSyntax", "strconv.ErrRange", "internal/strconv.uint64pow10", "math/bits.deBruijn32tab", "math/bits.deBruijn64tab"], apart := false, laid := [("math/bits.deBruijn32tab", laid_math_bits_deBruijn32tab), ("math/bits.deBruijn64tab", laid_math_bits_deBruijn64tab), ("internal/strconv.uint64pow10", laid_internal_strconv_uint64pow10), ("strconv.ErrRange", laid_strconv_ErrRange), ("strconv.ErrSyntax", laid_strconv_ErrSyntax)] }
def BuildUnlikeSaid : Prop := buildUnlikeRow.holds Tryz.pinned (OpenSpec.ofChange buildUnlikeSpec)

/-- ITS FALSE NEIGHBOUR: 'it returns false'. Refute it at one input. -/
def buildUnlikeWrong : ChangeSpec := { name := "buildUnlike", fn := fun _ => fun
  | [d1, d2, d3, d4] => { results := [.lit (.bool false)], args := [d1, d2, d3, d4] }
  | _ => none }
def BuildUnlikeWrongFalsely : Prop := buildUnlikeRow.holds Tryz.pinned (OpenSpec.ofChange buildUnlikeWrong)

/-- 'quiverlaw12.Concats': WHATEVER THE INPUT: true; the input reads as it did. -/
def concatsSpec : ChangeSpec := { name := "concats", fn := fun _ => fun
  | [d1, d2, d3, d4] => { results := [.lit (.bool true)], args := [d1, d2, d3, d4] }
  | _ => none }
def concatsRow : OpenClaim := { program := "ytcpfhfdgfcilaaagreatdoor", sum := "376d2340ba631ef93ff99f5a3c65673f760eaa483da9fa37787449998c5c6f1f", func := "quiver/quiverlaw12.Concats", spec := "concats", inPlace := ["internal/abi.NoEscape", "internal/bytealg.MakeNoZero", "internal/bytealg.IndexByteString"], unfollowed := true, recurses := true, named := ["internal/strconv.uint64pow10", "math/bits.deBruijn32tab", "math/bits.deBruijn64tab", "strconv.ErrSyntax", "strconv.ErrRange"], loops := true, apart := false, laid := [("math/bits.deBruijn32tab", laid_math_bits_deBruijn32tab), ("math/bits.deBruijn64tab", laid_math_bits_deBruijn64tab), ("internal/strconv.uint64pow10", laid_internal_strconv_uint64pow10), ("strconv.ErrRange", laid_strconv_ErrRange), ("strconv.ErrSyntax", laid_strconv_ErrSyntax)] }
def ConcatsSaid : Prop := concatsRow.holds Tryz.pinned (OpenSpec.ofChange concatsSpec)

/-- ITS FALSE NEIGHBOUR: 'it returns false'. Refute it at one input. -/
def concatsWrong : ChangeSpec := { name := "concats", fn := fun _ => fun
  | [d1, d2, d3, d4] => { results := [.lit (.bool false)], args := [d1, d2, d3, d4] }
  | _ => none }
def ConcatsWrongFalsely : Prop := concatsRow.holds Tryz.pinned (OpenSpec.ofChange concatsWrong)

/-- 'quiverlaw12.ConcatRows': WHATEVER THE INPUT: true; the input reads as it did. -/
def concatRowsSpec : ChangeSpec := { name := "concatRows", fn := fun _ => fun
  | [d1, d2, d3, d4] => { results := [.lit (.bool true)], args := [d1, d2, d3, d4] }
  | _ => none }
def concatRowsRow : OpenClaim := { program := "ytcpfhfdgfcilaaagreatdoor", sum := "376d2340ba631ef93ff99f5a3c65673f760eaa483da9fa37787449998c5c6f1f", func := "quiver/quiverlaw12.ConcatRows", spec := "concatRows", inPlace := ["internal/abi.NoEscape", "internal/bytealg.MakeNoZero", "internal/bytealg.IndexByteString"], unfollowed := true, recurses := true, named := ["internal/strconv.uint64pow10", "math/bits.deBruijn32tab", "math/bits.deBruijn64tab", "strconv.ErrSyntax", "strconv.ErrRange"], loops := true, apart := false, laid := [("math/bits.deBruijn32tab", laid_math_bits_deBruijn32tab), ("math/bits.deBruijn64tab", laid_math_bits_deBruijn64tab), ("internal/strconv.uint64pow10", laid_internal_strconv_uint64pow10), ("strconv.ErrRange", laid_strconv_ErrRange), ("strconv.ErrSyntax", laid_strconv_ErrSyntax)] }
def ConcatRowsSaid : Prop := concatRowsRow.holds Tryz.pinned (OpenSpec.ofChange concatRowsSpec)

/-- ITS FALSE NEIGHBOUR: 'it returns false'. Refute it at one input. -/
def concatRowsWrong : ChangeSpec := { name := "concatRows", fn := fun _ => fun
  | [d1, d2, d3, d4] => { results := [.lit (.bool false)], args := [d1, d2, d3, d4] }
  | _ => none }
def ConcatRowsWrongFalsely : Prop := concatRowsRow.holds Tryz.pinned (OpenSpec.ofChange concatRowsWrong)

/-- 'quiverlaw12.ConcatThree': WHATEVER THE INPUT: true; the input reads as it did. -/
def concatThreeSpec : ChangeSpec := { name := "concatThree", fn := fun _ => fun
  | [d1, d2, d3, d4] => { results := [.lit (.bool true)], args := [d1, d2, d3, d4] }
  | _ => none }
def concatThreeRow : OpenClaim := { program := "ytcpfhfdgfcilaaagreatdoor", sum := "376d2340ba631ef93ff99f5a3c65673f760eaa483da9fa37787449998c5c6f1f", func := "quiver/quiverlaw12.ConcatThree", spec := "concatThree", inPlace := ["internal/abi.NoEscape", "internal/bytealg.MakeNoZero", "internal/bytealg.IndexByteString"], unfollowed := true, recurses := true, named := ["internal/strconv.uint64pow10", "math/bits.deBruijn32tab", "math/bits.deBruijn64tab", "strconv.ErrSyntax", "strconv.ErrRange"], loops := true, apart := false, laid := [("math/bits.deBruijn32tab", laid_math_bits_deBruijn32tab), ("math/bits.deBruijn64tab", laid_math_bits_deBruijn64tab), ("internal/strconv.uint64pow10", laid_internal_strconv_uint64pow10), ("strconv.ErrRange", laid_strconv_ErrRange), ("strconv.ErrSyntax", laid_strconv_ErrSyntax)] }
def ConcatThreeSaid : Prop := concatThreeRow.holds Tryz.pinned (OpenSpec.ofChange concatThreeSpec)

/-- ITS FALSE NEIGHBOUR: 'it returns false'. Refute it at one input. -/
def concatThreeWrong : ChangeSpec := { name := "concatThree", fn := fun _ => fun
  | [d1, d2, d3, d4] => { results := [.lit (.bool false)], args := [d1, d2, d3, d4] }
  | _ => none }
def ConcatThreeWrongFalsely : Prop := concatThreeRow.holds Tryz.pinned (OpenSpec.ofChange concatThreeWrong)

/-- 'quiverlaw12.ConcatFull': WHATEVER THE INPUT: true; the input reads as it did. -/
def concatFullSpec : ChangeSpec := { name := "concatFull", fn := fun _ => fun
  | [d1, d2] => { results := [.lit (.bool true)], args := [d1, d2] }
  | _ => none }
def concatFullRow : OpenClaim := { program := "ytcpfhfdgfcilaaagreatdoor", sum := "376d2340ba631ef93ff99f5a3c65673f760eaa483da9fa37787449998c5c6f1f", func := "quiver/quiverlaw12.ConcatFull", spec := "concatFull", inPlace := ["internal/abi.NoEscape", "internal/bytealg.MakeNoZero", "internal/bytealg.IndexByteString"], unfollowed := true, recurses := true, named := ["internal/strconv.uint64pow10", "math/bits.deBruijn32tab", "math/bits.deBruijn64tab", "strconv.ErrSyntax", "strconv.ErrRange"], apart := false, laid := [("math/bits.deBruijn32tab", laid_math_bits_deBruijn32tab), ("math/bits.deBruijn64tab", laid_math_bits_deBruijn64tab), ("internal/strconv.uint64pow10", laid_internal_strconv_uint64pow10), ("strconv.ErrRange", laid_strconv_ErrRange), ("strconv.ErrSyntax", laid_strconv_ErrSyntax)] }
def ConcatFullSaid : Prop := concatFullRow.holds Tryz.pinned (OpenSpec.ofChange concatFullSpec)

/-- ITS FALSE NEIGHBOUR: 'it returns false'. Refute it at one input. -/
def concatFullWrong : ChangeSpec := { name := "concatFull", fn := fun _ => fun
  | [d1, d2] => { results := [.lit (.bool false)], args := [d1, d2] }
  | _ => none }
def ConcatFullWrongFalsely : Prop := concatFullRow.holds Tryz.pinned (OpenSpec.ofChange concatFullWrong)

/-- 'quiverlaw12.ConcatParts': WHATEVER THE INPUT: true; the input reads as it did. -/
def concatPartsSpec : ChangeSpec := { name := "concatParts", fn := fun _ => fun
  | [d1, d2, d3, d4] => { results := [.lit (.bool true)], args := [d1, d2, d3, d4] }
  | _ => none }
def concatPartsRow : OpenClaim := { program := "ytcpfhfdgfcilaaagreatdoor", sum := "376d2340ba631ef93ff99f5a3c65673f760eaa483da9fa37787449998c5c6f1f", func := "quiver/quiverlaw12.ConcatParts", spec := "concatParts", inPlace := ["internal/abi.NoEscape", "internal/bytealg.MakeNoZero", "internal/bytealg.IndexByteString"], unfollowed := true, recurses := true, named := ["internal/strconv.uint64pow10", "math/bits.deBruijn32tab", "math/bits.deBruijn64tab", "strconv.ErrSyntax", "strconv.ErrRange"], loops := true, apart := false, laid := [("math/bits.deBruijn32tab", laid_math_bits_deBruijn32tab), ("math/bits.deBruijn64tab", laid_math_bits_deBruijn64tab), ("internal/strconv.uint64pow10", laid_internal_strconv_uint64pow10), ("strconv.ErrRange", laid_strconv_ErrRange), ("strconv.ErrSyntax", laid_strconv_ErrSyntax)] }
def ConcatPartsSaid : Prop := concatPartsRow.holds Tryz.pinned (OpenSpec.ofChange concatPartsSpec)

/-- ITS FALSE NEIGHBOUR: 'it returns false'. Refute it at one input. -/
def concatPartsWrong : ChangeSpec := { name := "concatParts", fn := fun _ => fun
  | [d1, d2, d3, d4] => { results := [.lit (.bool false)], args := [d1, d2, d3, d4] }
  | _ => none }
def ConcatPartsWrongFalsely : Prop := concatPartsRow.holds Tryz.pinned (OpenSpec.ofChange concatPartsWrong)

/- THE SECOND FORM. 'bulk': how many values and letters a reading holds, each counted each time it is reached (what is shared counts as often as it is met; a slice's spare places count too). A statement '..UptoSaid' is the law's where the arguments, and the package variables that the reading takes, are together of bulk at most 1048576: NARROWER than '..Said'. Prove '..Said' where nothing that the law and all that it calls make is longer than what came in: it says more and counts as full. Else prove '..UptoSaid'. A law counts once. -/
mutual
def uptoBulk {H : Type} : DataW H → Nat
  | .lit (.string bytes) => bytes.length + 1
  | .lit _ => 1
  | .nil => 1
  | .ptr d => uptoBulk d + 1
  | .slice elems spare => uptoBulkAll elems + uptoBulkAll spare + 1
  | .agg parts => uptoBulkAll parts + 1
  | .iface _ d => uptoBulk d + 1
  | .map entries => uptoBulkEntries entries + 1
  | .held _ => 1
def uptoBulkAll {H : Type} : List (DataW H) → Nat
  | [] => 0
  | d :: r => uptoBulk d + uptoBulkAll r
def uptoBulkEntries {H : Type} : List (Lit × DataW H) → Nat
  | [] => 0
  | x :: r => uptoBulkEntry x + uptoBulkEntries r
def uptoBulkEntry {H : Type} : Lit × DataW H → Nat
  | (.string bytes, d) => bytes.length + uptoBulk d + 1
  | (_, d) => uptoBulk d + 1
 end
def uptoSmall : (H : Type) → List (DataW H) → Bool := fun _ ds => decide (uptoBulkAll ds ≤ 1048576)
def OpenSpec.upto (s : _root_.Go.ChangeSpec) : _root_.Go.OpenSpec := { _root_.Go.OpenSpec.ofChange s with cond := some uptoSmall }

/-- 'quiverlaw9.ReadLaid', WHERE WHAT IT READS IS OF BULK AT MOST 1048576: true; the input reads as it did. -/
def readLaidUptoRow : OpenClaim := { program := "ytcpfhfdgfcilaaagreatdoor", sum := "376d2340ba631ef93ff99f5a3c65673f760eaa483da9fa37787449998c5c6f1f", func := "quiver/quiverlaw9.ReadLaid", spec := "readLaid", inPlace := ["internal/abi.NoEscape", "internal/bytealg.MakeNoZero"], unfollowed := true, recurses := true, named := ["internal/strconv.uint64pow10", "math/bits.deBruijn32tab", "math/bits.deBruijn64tab"], loops := true, apart := false, laid := [("math/bits.deBruijn32tab", laid_math_bits_deBruijn32tab), ("math/bits.deBruijn64tab", laid_math_bits_deBruijn64tab), ("internal/strconv.uint64pow10", laid_internal_strconv_uint64pow10)], narrowed := true }
def ReadLaidUptoSaid : Prop := readLaidUptoRow.holds Tryz.pinned (OpenSpec.upto readLaidSpec)

/-- 'quiverlaw9.ReadUnder', WHERE WHAT IT READS IS OF BULK AT MOST 1048576: true; the input reads as it did. -/
def readUnderUptoRow : OpenClaim := { program := "ytcpfhfdgfcilaaagreatdoor", sum := "376d2340ba631ef93ff99f5a3c65673f760eaa483da9fa37787449998c5c6f1f", func := "quiver/quiverlaw9.ReadUnder", spec := "readUnder", inPlace := ["internal/abi.NoEscape", "internal/bytealg.MakeNoZero"], unfollowed := true, recurses := true, named := ["internal/strconv.uint64pow10", "math/bits.deBruijn32tab", "math/bits.deBruijn64tab"], apart := false, laid := [("math/bits.deBruijn32tab", laid_math_bits_deBruijn32tab), ("math/bits.deBruijn64tab", laid_math_bits_deBruijn64tab), ("internal/strconv.uint64pow10", laid_internal_strconv_uint64pow10)], narrowed := true }
def ReadUnderUptoSaid : Prop := readUnderUptoRow.holds Tryz.pinned (OpenSpec.upto readUnderSpec)

/-- 'quiverlaw10.Builds', WHERE WHAT IT READS IS OF BULK AT MOST 1048576: true; the input reads as it did. -/
def buildsUptoRow : OpenClaim := { program := "ytcpfhfdgfcilaaagreatdoor", sum := "376d2340ba631ef93ff99f5a3c65673f760eaa483da9fa37787449998c5c6f1f", func := "quiver/quiverlaw10.Builds", spec := "builds", inPlace := ["internal/bytealg.IndexByteString", "internal/abi.NoEscape", "internal/bytealg.MakeNoZero"], unfollowed := true, recurses := true, named := ["strconv.ErrSyntax", "strconv.ErrRange", "internal/strconv.uint64pow10", "math/bits.deBruijn32tab", "math/bits.deBruijn64tab"], apart := false, laid := [("math/bits.deBruijn32tab", laid_math_bits_deBruijn32tab), ("math/bits.deBruijn64tab", laid_math_bits_deBruijn64tab), ("internal/strconv.uint64pow10", laid_internal_strconv_uint64pow10), ("strconv.ErrRange", laid_strconv_ErrRange), ("strconv.ErrSyntax", laid_strconv_ErrSyntax)], narrowed := true }
def BuildsUptoSaid : Prop := buildsUptoRow.holds Tryz.pinned (OpenSpec.upto buildsSpec)

/-- 'quiverlaw10.BuildBack', WHERE WHAT IT READS IS OF BULK AT MOST 1048576: true; the input reads as it did. -/
def buildBackUptoRow : OpenClaim := { program := "ytcpfhfdgfcilaaagreatdoor", sum := "376d2340ba631ef93ff99f5a3c65673f760eaa483da9fa37787449998c5c6f1f", func := "quiver/quiverlaw10.BuildBack", spec := "buildBack", inPlace := ["internal/bytealg.IndexByteString", "internal/abi.NoEscape", "internal/bytealg.MakeNoZero"], unfollowed := true, recurses := true, named := ["strconv.ErrSyntax", "strconv.ErrRange", "internal/strconv.uint64pow10", "math/bits.deBruijn32tab", "math/bits.deBruijn64tab"], apart := false, laid := [("math/bits.deBruijn32tab", laid_math_bits_deBruijn32tab), ("math/bits.deBruijn64tab", laid_math_bits_deBruijn64tab), ("internal/strconv.uint64pow10", laid_internal_strconv_uint64pow10), ("strconv.ErrRange", laid_strconv_ErrRange), ("strconv.ErrSyntax", laid_strconv_ErrSyntax)], narrowed := true }
def BuildBackUptoSaid : Prop := buildBackUptoRow.holds Tryz.pinned (OpenSpec.upto buildBackSpec)

/-- 'quiverlaw10.BuildForms', WHERE WHAT IT READS IS OF BULK AT MOST 1048576: true; the input reads as it did. -/
def buildFormsUptoRow : OpenClaim := { program := "ytcpfhfdgfcilaaagreatdoor", sum := "376d2340ba631ef93ff99f5a3c65673f760eaa483da9fa37787449998c5c6f1f", func := "quiver/quiverlaw10.BuildForms", spec := "buildForms", inPlace := ["internal/bytealg.IndexByteString", "internal/abi.NoEscape", "internal/bytealg.MakeNoZero"], unfollowed := true, recurses := true, named := ["strconv.ErrSyntax", "strconv.ErrRange", "internal/strconv.uint64pow10", "math/bits.deBruijn32tab", "math/bits.deBruijn64tab"], apart := false, laid := [("math/bits.deBruijn32tab", laid_math_bits_deBruijn32tab), ("math/bits.deBruijn64tab", laid_math_bits_deBruijn64tab), ("internal/strconv.uint64pow10", laid_internal_strconv_uint64pow10), ("strconv.ErrRange", laid_strconv_ErrRange), ("strconv.ErrSyntax", laid_strconv_ErrSyntax)], narrowed := true }
def BuildFormsUptoSaid : Prop := buildFormsUptoRow.holds Tryz.pinned (OpenSpec.upto buildFormsSpec)

/-- 'quiverlaw10.BuildZeros', WHERE WHAT IT READS IS OF BULK AT MOST 1048576: true; the input reads as it did. -/
def buildZerosUptoRow : OpenClaim := { program := "ytcpfhfdgfcilaaagreatdoor", sum := "376d2340ba631ef93ff99f5a3c65673f760eaa483da9fa37787449998c5c6f1f", func := "quiver/quiverlaw10.BuildZeros", spec := "buildZeros", inPlace := ["internal/bytealg.IndexByteString", "internal/abi.NoEscape", "internal/bytealg.MakeNoZero"], unfollowed := true, recurses := true, named := ["strconv.ErrSyntax", "strconv.ErrRange", "internal/strconv.uint64pow10", "math/bits.deBruijn32tab", "math/bits.deBruijn64tab"], apart := false, laid := [("math/bits.deBruijn32tab", laid_math_bits_deBruijn32tab), ("math/bits.deBruijn64tab", laid_math_bits_deBruijn64tab), ("internal/strconv.uint64pow10", laid_internal_strconv_uint64pow10), ("strconv.ErrRange", laid_strconv_ErrRange), ("strconv.ErrSyntax", laid_strconv_ErrSyntax)], narrowed := true }
def BuildZerosUptoSaid : Prop := buildZerosUptoRow.holds Tryz.pinned (OpenSpec.upto buildZerosSpec)

/-- 'quiverlaw10.BuildBools', WHERE WHAT IT READS IS OF BULK AT MOST 1048576: true; the input reads as it did. -/
def buildBoolsUptoRow : OpenClaim := { program := "ytcpfhfdgfcilaaagreatdoor", sum := "376d2340ba631ef93ff99f5a3c65673f760eaa483da9fa37787449998c5c6f1f", func := "quiver/quiverlaw10.BuildBools", spec := "buildBools", inPlace := ["internal/bytealg.IndexByteString", "internal/abi.NoEscape", "internal/bytealg.MakeNoZero"], unfollowed := true, recurses := true, named := ["strconv.ErrSyntax", "strconv.ErrRange", "internal/strconv.uint64pow10", "math/bits.deBruijn32tab", "math/bits.deBruijn64tab"], apart := false, laid := [("math/bits.deBruijn32tab", laid_math_bits_deBruijn32tab), ("math/bits.deBruijn64tab", laid_math_bits_deBruijn64tab), ("internal/strconv.uint64pow10", laid_internal_strconv_uint64pow10), ("strconv.ErrRange", laid_strconv_ErrRange), ("strconv.ErrSyntax", laid_strconv_ErrSyntax)], narrowed := true }
def BuildBoolsUptoSaid : Prop := buildBoolsUptoRow.holds Tryz.pinned (OpenSpec.upto buildBoolsSpec)

/-- 'quiverlaw10.BuildUnlike', WHERE WHAT IT READS IS OF BULK AT MOST 1048576: true; the input reads as it did. -/
def buildUnlikeUptoRow : OpenClaim := { program := "ytcpfhfdgfcilaaagreatdoor", sum := "376d2340ba631ef93ff99f5a3c65673f760eaa483da9fa37787449998c5c6f1f", func := "quiver/quiverlaw10.BuildUnlike", spec := "buildUnlike", inPlace := ["internal/bytealg.IndexByteString", "internal/abi.NoEscape", "internal/bytealg.MakeNoZero"], unfollowed := true, recurses := true, named := ["strconv.ErrSyntax", "strconv.ErrRange", "internal/strconv.uint64pow10", "math/bits.deBruijn32tab", "math/bits.deBruijn64tab"], apart := false, laid := [("math/bits.deBruijn32tab", laid_math_bits_deBruijn32tab), ("math/bits.deBruijn64tab", laid_math_bits_deBruijn64tab), ("internal/strconv.uint64pow10", laid_internal_strconv_uint64pow10), ("strconv.ErrRange", laid_strconv_ErrRange), ("strconv.ErrSyntax", laid_strconv_ErrSyntax)], narrowed := true }
def BuildUnlikeUptoSaid : Prop := buildUnlikeUptoRow.holds Tryz.pinned (OpenSpec.upto buildUnlikeSpec)

/-- 'quiverlaw12.Concats', WHERE WHAT IT READS IS OF BULK AT MOST 1048576: true; the input reads as it did. -/
def concatsUptoRow : OpenClaim := { program := "ytcpfhfdgfcilaaagreatdoor", sum := "376d2340ba631ef93ff99f5a3c65673f760eaa483da9fa37787449998c5c6f1f", func := "quiver/quiverlaw12.Concats", spec := "concats", inPlace := ["internal/abi.NoEscape", "internal/bytealg.MakeNoZero", "internal/bytealg.IndexByteString"], unfollowed := true, recurses := true, named := ["internal/strconv.uint64pow10", "math/bits.deBruijn32tab", "math/bits.deBruijn64tab", "strconv.ErrSyntax", "strconv.ErrRange"], loops := true, apart := false, laid := [("math/bits.deBruijn32tab", laid_math_bits_deBruijn32tab), ("math/bits.deBruijn64tab", laid_math_bits_deBruijn64tab), ("internal/strconv.uint64pow10", laid_internal_strconv_uint64pow10), ("strconv.ErrRange", laid_strconv_ErrRange), ("strconv.ErrSyntax", laid_strconv_ErrSyntax)], narrowed := true }
def ConcatsUptoSaid : Prop := concatsUptoRow.holds Tryz.pinned (OpenSpec.upto concatsSpec)

/-- 'quiverlaw12.ConcatRows', WHERE WHAT IT READS IS OF BULK AT MOST 1048576: true; the input reads as it did. -/
def concatRowsUptoRow : OpenClaim := { program := "ytcpfhfdgfcilaaagreatdoor", sum := "376d2340ba631ef93ff99f5a3c65673f760eaa483da9fa37787449998c5c6f1f", func := "quiver/quiverlaw12.ConcatRows", spec := "concatRows", inPlace := ["internal/abi.NoEscape", "internal/bytealg.MakeNoZero", "internal/bytealg.IndexByteString"], unfollowed := true, recurses := true, named := ["internal/strconv.uint64pow10", "math/bits.deBruijn32tab", "math/bits.deBruijn64tab", "strconv.ErrSyntax", "strconv.ErrRange"], loops := true, apart := false, laid := [("math/bits.deBruijn32tab", laid_math_bits_deBruijn32tab), ("math/bits.deBruijn64tab", laid_math_bits_deBruijn64tab), ("internal/strconv.uint64pow10", laid_internal_strconv_uint64pow10), ("strconv.ErrRange", laid_strconv_ErrRange), ("strconv.ErrSyntax", laid_strconv_ErrSyntax)], narrowed := true }
def ConcatRowsUptoSaid : Prop := concatRowsUptoRow.holds Tryz.pinned (OpenSpec.upto concatRowsSpec)

/-- 'quiverlaw12.ConcatThree', WHERE WHAT IT READS IS OF BULK AT MOST 1048576: true; the input reads as it did. -/
def concatThreeUptoRow : OpenClaim := { program := "ytcpfhfdgfcilaaagreatdoor", sum := "376d2340ba631ef93ff99f5a3c65673f760eaa483da9fa37787449998c5c6f1f", func := "quiver/quiverlaw12.ConcatThree", spec := "concatThree", inPlace := ["internal/abi.NoEscape", "internal/bytealg.MakeNoZero", "internal/bytealg.IndexByteString"], unfollowed := true, recurses := true, named := ["internal/strconv.uint64pow10", "math/bits.deBruijn32tab", "math/bits.deBruijn64tab", "strconv.ErrSyntax", "strconv.ErrRange"], loops := true, apart := false, laid := [("math/bits.deBruijn32tab", laid_math_bits_deBruijn32tab), ("math/bits.deBruijn64tab", laid_math_bits_deBruijn64tab), ("internal/strconv.uint64pow10", laid_internal_strconv_uint64pow10), ("strconv.ErrRange", laid_strconv_ErrRange), ("strconv.ErrSyntax", laid_strconv_ErrSyntax)], narrowed := true }
def ConcatThreeUptoSaid : Prop := concatThreeUptoRow.holds Tryz.pinned (OpenSpec.upto concatThreeSpec)

/-- 'quiverlaw12.ConcatFull', WHERE WHAT IT READS IS OF BULK AT MOST 1048576: true; the input reads as it did. -/
def concatFullUptoRow : OpenClaim := { program := "ytcpfhfdgfcilaaagreatdoor", sum := "376d2340ba631ef93ff99f5a3c65673f760eaa483da9fa37787449998c5c6f1f", func := "quiver/quiverlaw12.ConcatFull", spec := "concatFull", inPlace := ["internal/abi.NoEscape", "internal/bytealg.MakeNoZero", "internal/bytealg.IndexByteString"], unfollowed := true, recurses := true, named := ["internal/strconv.uint64pow10", "math/bits.deBruijn32tab", "math/bits.deBruijn64tab", "strconv.ErrSyntax", "strconv.ErrRange"], apart := false, laid := [("math/bits.deBruijn32tab", laid_math_bits_deBruijn32tab), ("math/bits.deBruijn64tab", laid_math_bits_deBruijn64tab), ("internal/strconv.uint64pow10", laid_internal_strconv_uint64pow10), ("strconv.ErrRange", laid_strconv_ErrRange), ("strconv.ErrSyntax", laid_strconv_ErrSyntax)], narrowed := true }
def ConcatFullUptoSaid : Prop := concatFullUptoRow.holds Tryz.pinned (OpenSpec.upto concatFullSpec)

/-- 'quiverlaw12.ConcatParts', WHERE WHAT IT READS IS OF BULK AT MOST 1048576: true; the input reads as it did. -/
def concatPartsUptoRow : OpenClaim := { program := "ytcpfhfdgfcilaaagreatdoor", sum := "376d2340ba631ef93ff99f5a3c65673f760eaa483da9fa37787449998c5c6f1f", func := "quiver/quiverlaw12.ConcatParts", spec := "concatParts", inPlace := ["internal/abi.NoEscape", "internal/bytealg.MakeNoZero", "internal/bytealg.IndexByteString"], unfollowed := true, recurses := true, named := ["internal/strconv.uint64pow10", "math/bits.deBruijn32tab", "math/bits.deBruijn64tab", "strconv.ErrSyntax", "strconv.ErrRange"], loops := true, apart := false, laid := [("math/bits.deBruijn32tab", laid_math_bits_deBruijn32tab), ("math/bits.deBruijn64tab", laid_math_bits_deBruijn64tab), ("internal/strconv.uint64pow10", laid_internal_strconv_uint64pow10), ("strconv.ErrRange", laid_strconv_ErrRange), ("strconv.ErrSyntax", laid_strconv_ErrSyntax)], narrowed := true }
def ConcatPartsUptoSaid : Prop := concatPartsUptoRow.holds Tryz.pinned (OpenSpec.upto concatPartsSpec)

end Rows
end Go.Proofs.YtcpfhfdgfcilaaaGreatDoor
