/-
  NARROWER THAN 'FOR EVERY INPUT', by the rows' own cells (each row's printed sentence says how): Arrays: loops · ArrayMore: loops · ArrayParts: loops.
  DERIVED. THE GIVEN ROWS OF THIS SEAT. 4 by the template 'for every input the law returns true; each argument reads behind the call as it read before'; 0 by the template 'total and deterministic' (their statements: YtbekelnhlfghlaaTotals.lean).
  GIVEN WITH THE SEED: the statements are not yours to turn. If you find one false, say at which input.
  Laid BY PROGRAM, IN A SANDBOX (cutbox-rows.mjs): the forced cells as the released guide's own fill.sh prints them over the translation efbdb313a1aeca52… (all of the seat's roots in one cut). By AI agents, Wed Nov 11 2026. No macro, syntax, notation, axiom, sorry.
-/
import Derived.Test.YtbekelnhlfghlaaChecked
import GoSem.Claim
import GoSem.ClaimJoined
import GoSem.ClaimMapViews
import Derived.JoinedTies
import Derived.KernelRfl
namespace Go.Proofs.Ytbekelnhlfghlaa
/- THE CELL 'sum', in the pinned program and in every row, IS THE sha256 OF THE DUMP (.gsa) THAT YtbekelnhlfghlaaProg.lean LOADS. Nothing in Lean hashes anything: it is a label: what it is worth is what the hold of that sum in a sandbox is worth. -/
noncomputable def Try.pinned : Pinned := { name := "ytbekelnhlfghlaa", sum := "efbdb313a1aeca521fa744b5948f91eb34273a9970c87fe2c5a40078dba09f0b", checked := Try.checked }
namespace Rows
def none {H : Type} : Left H := { results := [], args := [] }

/-- 'quiverlaw8.Arrays': WHATEVER THE INPUT: true; the input reads as it did. -/
def arraysSpec : ChangeSpec := { name := "arrays", fn := fun _ => fun
  | [d1, d2, d3] => { results := [.lit (.bool true)], args := [d1, d2, d3] }
  | _ => none }
def arraysRow : OpenClaim := { program := "ytbekelnhlfghlaa", sum := "efbdb313a1aeca521fa744b5948f91eb34273a9970c87fe2c5a40078dba09f0b", func := "quiver/quiverlaw8.Arrays", spec := "arrays", unfollowed := true, recurses := true, loops := true, apart := false }
def ArraysSaid : Prop := arraysRow.holds Try.pinned (OpenSpec.ofChange arraysSpec)

/-- ITS FALSE NEIGHBOUR: 'it returns false'. Refute it at one input. -/
def arraysWrong : ChangeSpec := { name := "arrays", fn := fun _ => fun
  | [d1, d2, d3] => { results := [.lit (.bool false)], args := [d1, d2, d3] }
  | _ => none }
def ArraysWrongFalsely : Prop := arraysRow.holds Try.pinned (OpenSpec.ofChange arraysWrong)

/-- 'quiverlaw8.ArrayEnds': WHATEVER THE INPUT: true; the input reads as it did. -/
def arrayEndsSpec : ChangeSpec := { name := "arrayEnds", fn := fun _ => fun
  | [d] => { results := [.lit (.bool true)], args := [d] }
  | _ => none }
def arrayEndsRow : OpenClaim := { program := "ytbekelnhlfghlaa", sum := "efbdb313a1aeca521fa744b5948f91eb34273a9970c87fe2c5a40078dba09f0b", func := "quiver/quiverlaw8.ArrayEnds", spec := "arrayEnds", unfollowed := true, recurses := true, apart := false }
def ArrayEndsSaid : Prop := arrayEndsRow.holds Try.pinned (OpenSpec.ofChange arrayEndsSpec)

/-- ITS FALSE NEIGHBOUR: 'it returns false'. Refute it at one input. -/
def arrayEndsWrong : ChangeSpec := { name := "arrayEnds", fn := fun _ => fun
  | [d] => { results := [.lit (.bool false)], args := [d] }
  | _ => none }
def ArrayEndsWrongFalsely : Prop := arrayEndsRow.holds Try.pinned (OpenSpec.ofChange arrayEndsWrong)

/-- 'quiverlaw8.ArrayMore': WHATEVER THE INPUT: true; the input reads as it did. -/
def arrayMoreSpec : ChangeSpec := { name := "arrayMore", fn := fun _ => fun
  | [d1, d2, d3, d4] => { results := [.lit (.bool true)], args := [d1, d2, d3, d4] }
  | _ => none }
def arrayMoreRow : OpenClaim := { program := "ytbekelnhlfghlaa", sum := "efbdb313a1aeca521fa744b5948f91eb34273a9970c87fe2c5a40078dba09f0b", func := "quiver/quiverlaw8.ArrayMore", spec := "arrayMore", unfollowed := true, recurses := true, loops := true, apart := false }
def ArrayMoreSaid : Prop := arrayMoreRow.holds Try.pinned (OpenSpec.ofChange arrayMoreSpec)

/-- ITS FALSE NEIGHBOUR: 'it returns false'. Refute it at one input. -/
def arrayMoreWrong : ChangeSpec := { name := "arrayMore", fn := fun _ => fun
  | [d1, d2, d3, d4] => { results := [.lit (.bool false)], args := [d1, d2, d3, d4] }
  | _ => none }
def ArrayMoreWrongFalsely : Prop := arrayMoreRow.holds Try.pinned (OpenSpec.ofChange arrayMoreWrong)

/-- 'quiverlaw8.ArrayParts': WHATEVER THE INPUT: true; the input reads as it did. -/
def arrayPartsSpec : ChangeSpec := { name := "arrayParts", fn := fun _ => fun
  | [d1, d2, d3, d4, d5] => { results := [.lit (.bool true)], args := [d1, d2, d3, d4, d5] }
  | _ => none }
def arrayPartsRow : OpenClaim := { program := "ytbekelnhlfghlaa", sum := "efbdb313a1aeca521fa744b5948f91eb34273a9970c87fe2c5a40078dba09f0b", func := "quiver/quiverlaw8.ArrayParts", spec := "arrayParts", unfollowed := true, recurses := true, loops := true, apart := false }
def ArrayPartsSaid : Prop := arrayPartsRow.holds Try.pinned (OpenSpec.ofChange arrayPartsSpec)

/-- ITS FALSE NEIGHBOUR: 'it returns false'. Refute it at one input. -/
def arrayPartsWrong : ChangeSpec := { name := "arrayParts", fn := fun _ => fun
  | [d1, d2, d3, d4, d5] => { results := [.lit (.bool false)], args := [d1, d2, d3, d4, d5] }
  | _ => none }
def ArrayPartsWrongFalsely : Prop := arrayPartsRow.holds Try.pinned (OpenSpec.ofChange arrayPartsWrong)

/- THE SECOND FORM. 'bulk': how many values and letters a reading holds, each counted each time it is reached (what is shared counts as often as it is met; a slice's spare places count too). A statement '..UptoSaid' is the law's where the arguments, and the package variables that the reading takes, are together of bulk at most 1048576: NARROWER than '..Said'. Prove '..Said' where nothing that the law and all that it calls make is longer than what came in: it says more and counts as full. Else prove '..UptoSaid'. A law counts once. -/
mutual
def uptoBulk {H : Type} : DataW H → Nat
  | .lit (.string bytes) => bytes.length + 1
  | .lit _ => 1
  | .nil => 1
  | .ptr d => uptoBulk d + 1
  | .slice elems spare => uptoBulkAll elems + uptoBulkAll spare + 1
  | .agg parts => uptoBulkAll parts + 1
  | .iface _ d => uptoBulk d + 1
  | .map entries => uptoBulkEntries entries + 1
  | .held _ => 1
def uptoBulkAll {H : Type} : List (DataW H) → Nat
  | [] => 0
  | d :: r => uptoBulk d + uptoBulkAll r
def uptoBulkEntries {H : Type} : List (Lit × DataW H) → Nat
  | [] => 0
  | x :: r => uptoBulkEntry x + uptoBulkEntries r
def uptoBulkEntry {H : Type} : Lit × DataW H → Nat
  | (.string bytes, d) => bytes.length + uptoBulk d + 1
  | (_, d) => uptoBulk d + 1
 end
def uptoSmall : (H : Type) → List (DataW H) → Bool := fun _ ds => decide (uptoBulkAll ds ≤ 1048576)
def OpenSpec.upto (s : _root_.Go.ChangeSpec) : _root_.Go.OpenSpec := { _root_.Go.OpenSpec.ofChange s with cond := some uptoSmall }

/-- 'quiverlaw8.Arrays', WHERE WHAT IT READS IS OF BULK AT MOST 1048576: true; the input reads as it did. -/
def arraysUptoRow : OpenClaim := { program := "ytbekelnhlfghlaa", sum := "efbdb313a1aeca521fa744b5948f91eb34273a9970c87fe2c5a40078dba09f0b", func := "quiver/quiverlaw8.Arrays", spec := "arrays", unfollowed := true, recurses := true, loops := true, apart := false, narrowed := true }
def ArraysUptoSaid : Prop := arraysUptoRow.holds Try.pinned (OpenSpec.upto arraysSpec)

/-- 'quiverlaw8.ArrayEnds', WHERE WHAT IT READS IS OF BULK AT MOST 1048576: true; the input reads as it did. -/
def arrayEndsUptoRow : OpenClaim := { program := "ytbekelnhlfghlaa", sum := "efbdb313a1aeca521fa744b5948f91eb34273a9970c87fe2c5a40078dba09f0b", func := "quiver/quiverlaw8.ArrayEnds", spec := "arrayEnds", unfollowed := true, recurses := true, apart := false, narrowed := true }
def ArrayEndsUptoSaid : Prop := arrayEndsUptoRow.holds Try.pinned (OpenSpec.upto arrayEndsSpec)

/-- 'quiverlaw8.ArrayMore', WHERE WHAT IT READS IS OF BULK AT MOST 1048576: true; the input reads as it did. -/
def arrayMoreUptoRow : OpenClaim := { program := "ytbekelnhlfghlaa", sum := "efbdb313a1aeca521fa744b5948f91eb34273a9970c87fe2c5a40078dba09f0b", func := "quiver/quiverlaw8.ArrayMore", spec := "arrayMore", unfollowed := true, recurses := true, loops := true, apart := false, narrowed := true }
def ArrayMoreUptoSaid : Prop := arrayMoreUptoRow.holds Try.pinned (OpenSpec.upto arrayMoreSpec)

/-- 'quiverlaw8.ArrayParts', WHERE WHAT IT READS IS OF BULK AT MOST 1048576: true; the input reads as it did. -/
def arrayPartsUptoRow : OpenClaim := { program := "ytbekelnhlfghlaa", sum := "efbdb313a1aeca521fa744b5948f91eb34273a9970c87fe2c5a40078dba09f0b", func := "quiver/quiverlaw8.ArrayParts", spec := "arrayParts", unfollowed := true, recurses := true, loops := true, apart := false, narrowed := true }
def ArrayPartsUptoSaid : Prop := arrayPartsUptoRow.holds Try.pinned (OpenSpec.upto arrayPartsSpec)

end Rows
end Go.Proofs.Ytbekelnhlfghlaa
