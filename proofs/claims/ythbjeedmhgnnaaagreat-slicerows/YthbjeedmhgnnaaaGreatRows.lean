/-
  NARROWER THAN 'FOR EVERY INPUT', by the rows' own cells (each row's printed sentence says how): Slices: loops · SliceRows: loops · SliceForms: loops · SliceShares: loops.
  DERIVED. THE GIVEN ROWS OF THIS SEAT. 5 by the template 'for every input the law returns true; each argument reads behind the call as it read before'; 0 by the template 'total and deterministic' (their statements: YthbjeedmhgnnaaaGreatTotals.lean).
  GIVEN WITH THE SEED: the statements are not yours to turn. If you find one false, say at which input.
  Laid BY PROGRAM, IN A SANDBOX (cutbox-rows.mjs): the forced cells as the released guide's own fill.sh prints them over the translation 921e11b3ad24e8b8… (all of the seat's roots in one cut). By AI agents, Wed Nov 11 2026. No macro, syntax, notation, axiom, sorry.
-/
import Derived.Test.YthbjeedmhgnnaaaGreatChecked
import GoSem.Claim
import GoSem.ClaimJoined
import GoSem.ClaimMapViews
import Derived.JoinedTies
import Derived.KernelRfl
namespace Go.Proofs.YthbjeedmhgnnaaaGreat
/- THE CELL 'sum', in the pinned program and in every row, IS THE sha256 OF THE DUMP (.gsa) THAT YthbjeedmhgnnaaaGreatProg.lean LOADS. Nothing in Lean hashes anything: it is a label: what it is worth is what the hold of that sum in a sandbox is worth. -/
noncomputable def Tryz.pinned : Pinned := { name := "ythbjeedmhgnnaaagreat", sum := "921e11b3ad24e8b8f503b3953b01c51783e1ed6597ef0bcab4cf1690cbee519d", checked := Tryz.checked }
namespace Rows
def none {H : Type} : Left H := { results := [], args := [] }

/-- 'quiverlaw8.ArrayForms': WHATEVER THE INPUT: true; the input reads as it did. -/
def arrayFormsSpec : ChangeSpec := { name := "arrayForms", fn := fun _ => fun
  | [d1, d2] => { results := [.lit (.bool true)], args := [d1, d2] }
  | _ => none }
def arrayFormsRow : OpenClaim := { program := "ythbjeedmhgnnaaagreat", sum := "921e11b3ad24e8b8f503b3953b01c51783e1ed6597ef0bcab4cf1690cbee519d", func := "quiver/quiverlaw8.ArrayForms", spec := "arrayForms", unfollowed := true, recurses := true, apart := false }
def ArrayFormsSaid : Prop := arrayFormsRow.holds Tryz.pinned (OpenSpec.ofChange arrayFormsSpec)

/-- ITS FALSE NEIGHBOUR: 'it returns false'. Refute it at one input. -/
def arrayFormsWrong : ChangeSpec := { name := "arrayForms", fn := fun _ => fun
  | [d1, d2] => { results := [.lit (.bool false)], args := [d1, d2] }
  | _ => none }
def ArrayFormsWrongFalsely : Prop := arrayFormsRow.holds Tryz.pinned (OpenSpec.ofChange arrayFormsWrong)

/-- 'quiverlaw11.Slices': WHATEVER THE INPUT: true; the input reads as it did. -/
def slicesSpec : ChangeSpec := { name := "slices", fn := fun _ => fun
  | [d1, d2, d3, d4, d5] => { results := [.lit (.bool true)], args := [d1, d2, d3, d4, d5] }
  | _ => none }
def slicesRow : OpenClaim := { program := "ythbjeedmhgnnaaagreat", sum := "921e11b3ad24e8b8f503b3953b01c51783e1ed6597ef0bcab4cf1690cbee519d", func := "quiver/quiverlaw11.Slices", spec := "slices", unfollowed := true, recurses := true, loops := true, apart := false }
def SlicesSaid : Prop := slicesRow.holds Tryz.pinned (OpenSpec.ofChange slicesSpec)

/-- ITS FALSE NEIGHBOUR: 'it returns false'. Refute it at one input. -/
def slicesWrong : ChangeSpec := { name := "slices", fn := fun _ => fun
  | [d1, d2, d3, d4, d5] => { results := [.lit (.bool false)], args := [d1, d2, d3, d4, d5] }
  | _ => none }
def SlicesWrongFalsely : Prop := slicesRow.holds Tryz.pinned (OpenSpec.ofChange slicesWrong)

/-- 'quiverlaw11.SliceRows': WHATEVER THE INPUT: true; the input reads as it did. -/
def sliceRowsSpec : ChangeSpec := { name := "sliceRows", fn := fun _ => fun
  | [d1, d2, d3, d4, d5, d6] => { results := [.lit (.bool true)], args := [d1, d2, d3, d4, d5, d6] }
  | _ => none }
def sliceRowsRow : OpenClaim := { program := "ythbjeedmhgnnaaagreat", sum := "921e11b3ad24e8b8f503b3953b01c51783e1ed6597ef0bcab4cf1690cbee519d", func := "quiver/quiverlaw11.SliceRows", spec := "sliceRows", unfollowed := true, recurses := true, loops := true, apart := false }
def SliceRowsSaid : Prop := sliceRowsRow.holds Tryz.pinned (OpenSpec.ofChange sliceRowsSpec)

/-- ITS FALSE NEIGHBOUR: 'it returns false'. Refute it at one input. -/
def sliceRowsWrong : ChangeSpec := { name := "sliceRows", fn := fun _ => fun
  | [d1, d2, d3, d4, d5, d6] => { results := [.lit (.bool false)], args := [d1, d2, d3, d4, d5, d6] }
  | _ => none }
def SliceRowsWrongFalsely : Prop := sliceRowsRow.holds Tryz.pinned (OpenSpec.ofChange sliceRowsWrong)

/-- 'quiverlaw11.SliceForms': WHATEVER THE INPUT: true; the input reads as it did. -/
def sliceFormsSpec : ChangeSpec := { name := "sliceForms", fn := fun _ => fun
  | [d1, d2, d3, d4] => { results := [.lit (.bool true)], args := [d1, d2, d3, d4] }
  | _ => none }
def sliceFormsRow : OpenClaim := { program := "ythbjeedmhgnnaaagreat", sum := "921e11b3ad24e8b8f503b3953b01c51783e1ed6597ef0bcab4cf1690cbee519d", func := "quiver/quiverlaw11.SliceForms", spec := "sliceForms", unfollowed := true, recurses := true, loops := true, apart := false }
def SliceFormsSaid : Prop := sliceFormsRow.holds Tryz.pinned (OpenSpec.ofChange sliceFormsSpec)

/-- ITS FALSE NEIGHBOUR: 'it returns false'. Refute it at one input. -/
def sliceFormsWrong : ChangeSpec := { name := "sliceForms", fn := fun _ => fun
  | [d1, d2, d3, d4] => { results := [.lit (.bool false)], args := [d1, d2, d3, d4] }
  | _ => none }
def SliceFormsWrongFalsely : Prop := sliceFormsRow.holds Tryz.pinned (OpenSpec.ofChange sliceFormsWrong)

/-- 'quiverlaw11.SliceShares': WHATEVER THE INPUT: true; the input reads as it did. -/
def sliceSharesSpec : ChangeSpec := { name := "sliceShares", fn := fun _ => fun
  | [d1, d2, d3, d4] => { results := [.lit (.bool true)], args := [d1, d2, d3, d4] }
  | _ => none }
def sliceSharesRow : OpenClaim := { program := "ythbjeedmhgnnaaagreat", sum := "921e11b3ad24e8b8f503b3953b01c51783e1ed6597ef0bcab4cf1690cbee519d", func := "quiver/quiverlaw11.SliceShares", spec := "sliceShares", unfollowed := true, recurses := true, loops := true, apart := false }
def SliceSharesSaid : Prop := sliceSharesRow.holds Tryz.pinned (OpenSpec.ofChange sliceSharesSpec)

/-- ITS FALSE NEIGHBOUR: 'it returns false'. Refute it at one input. -/
def sliceSharesWrong : ChangeSpec := { name := "sliceShares", fn := fun _ => fun
  | [d1, d2, d3, d4] => { results := [.lit (.bool false)], args := [d1, d2, d3, d4] }
  | _ => none }
def SliceSharesWrongFalsely : Prop := sliceSharesRow.holds Tryz.pinned (OpenSpec.ofChange sliceSharesWrong)

/- THE SECOND FORM. 'bulk': how many values and letters a reading holds, each counted each time it is reached (what is shared counts as often as it is met; a slice's spare places count too). A statement '..UptoSaid' is the law's where the arguments, and the package variables that the reading takes, are together of bulk at most 1048576: NARROWER than '..Said'. Prove '..Said' where nothing that the law and all that it calls make is longer than what came in: it says more and counts as full. Else prove '..UptoSaid'. A law counts once. -/
mutual
def uptoBulk {H : Type} : DataW H → Nat
  | .lit (.string bytes) => bytes.length + 1
  | .lit _ => 1
  | .nil => 1
  | .ptr d => uptoBulk d + 1
  | .slice elems spare => uptoBulkAll elems + uptoBulkAll spare + 1
  | .agg parts => uptoBulkAll parts + 1
  | .iface _ d => uptoBulk d + 1
  | .map entries => uptoBulkEntries entries + 1
  | .held _ => 1
def uptoBulkAll {H : Type} : List (DataW H) → Nat
  | [] => 0
  | d :: r => uptoBulk d + uptoBulkAll r
def uptoBulkEntries {H : Type} : List (Lit × DataW H) → Nat
  | [] => 0
  | x :: r => uptoBulkEntry x + uptoBulkEntries r
def uptoBulkEntry {H : Type} : Lit × DataW H → Nat
  | (.string bytes, d) => bytes.length + uptoBulk d + 1
  | (_, d) => uptoBulk d + 1
 end
def uptoSmall : (H : Type) → List (DataW H) → Bool := fun _ ds => decide (uptoBulkAll ds ≤ 1048576)
def OpenSpec.upto (s : _root_.Go.ChangeSpec) : _root_.Go.OpenSpec := { _root_.Go.OpenSpec.ofChange s with cond := some uptoSmall }

/-- 'quiverlaw8.ArrayForms', WHERE WHAT IT READS IS OF BULK AT MOST 1048576: true; the input reads as it did. -/
def arrayFormsUptoRow : OpenClaim := { program := "ythbjeedmhgnnaaagreat", sum := "921e11b3ad24e8b8f503b3953b01c51783e1ed6597ef0bcab4cf1690cbee519d", func := "quiver/quiverlaw8.ArrayForms", spec := "arrayForms", unfollowed := true, recurses := true, apart := false, narrowed := true }
def ArrayFormsUptoSaid : Prop := arrayFormsUptoRow.holds Tryz.pinned (OpenSpec.upto arrayFormsSpec)

/-- 'quiverlaw11.Slices', WHERE WHAT IT READS IS OF BULK AT MOST 1048576: true; the input reads as it did. -/
def slicesUptoRow : OpenClaim := { program := "ythbjeedmhgnnaaagreat", sum := "921e11b3ad24e8b8f503b3953b01c51783e1ed6597ef0bcab4cf1690cbee519d", func := "quiver/quiverlaw11.Slices", spec := "slices", unfollowed := true, recurses := true, loops := true, apart := false, narrowed := true }
def SlicesUptoSaid : Prop := slicesUptoRow.holds Tryz.pinned (OpenSpec.upto slicesSpec)

/-- 'quiverlaw11.SliceRows', WHERE WHAT IT READS IS OF BULK AT MOST 1048576: true; the input reads as it did. -/
def sliceRowsUptoRow : OpenClaim := { program := "ythbjeedmhgnnaaagreat", sum := "921e11b3ad24e8b8f503b3953b01c51783e1ed6597ef0bcab4cf1690cbee519d", func := "quiver/quiverlaw11.SliceRows", spec := "sliceRows", unfollowed := true, recurses := true, loops := true, apart := false, narrowed := true }
def SliceRowsUptoSaid : Prop := sliceRowsUptoRow.holds Tryz.pinned (OpenSpec.upto sliceRowsSpec)

/-- 'quiverlaw11.SliceForms', WHERE WHAT IT READS IS OF BULK AT MOST 1048576: true; the input reads as it did. -/
def sliceFormsUptoRow : OpenClaim := { program := "ythbjeedmhgnnaaagreat", sum := "921e11b3ad24e8b8f503b3953b01c51783e1ed6597ef0bcab4cf1690cbee519d", func := "quiver/quiverlaw11.SliceForms", spec := "sliceForms", unfollowed := true, recurses := true, loops := true, apart := false, narrowed := true }
def SliceFormsUptoSaid : Prop := sliceFormsUptoRow.holds Tryz.pinned (OpenSpec.upto sliceFormsSpec)

/-- 'quiverlaw11.SliceShares', WHERE WHAT IT READS IS OF BULK AT MOST 1048576: true; the input reads as it did. -/
def sliceSharesUptoRow : OpenClaim := { program := "ythbjeedmhgnnaaagreat", sum := "921e11b3ad24e8b8f503b3953b01c51783e1ed6597ef0bcab4cf1690cbee519d", func := "quiver/quiverlaw11.SliceShares", spec := "sliceShares", unfollowed := true, recurses := true, loops := true, apart := false, narrowed := true }
def SliceSharesUptoSaid : Prop := sliceSharesUptoRow.holds Tryz.pinned (OpenSpec.upto sliceSharesSpec)

end Rows
end Go.Proofs.YthbjeedmhgnnaaaGreat
