/-
  No cell of these rows narrows 'for every input' (looked for: loops, veiled, ifaces, maps, wideKeys, modest, calm, conditions, laid).
  DERIVED. THE GIVEN ROWS OF THIS SEAT. 5 by the template 'for every input the law returns true; each argument reads behind the call as it read before'; 0 by the template 'total and deterministic' (their statements: YtjgkhpkligodkaaTotals.lean).
  GIVEN WITH THE SEED: the statements are not yours to turn. If you find one false, say at which input.
  Laid BY PROGRAM, IN A SANDBOX (cutbox-rows.mjs): the forced cells as the released guide's own fill.sh prints them over the translation c4a1d0448cc568fc… (all of the seat's roots in one cut). By AI agents, Wed Nov 11 2026. No macro, syntax, notation, axiom, sorry.
-/
import Derived.Test.YtjgkhpkligodkaaChecked
import GoSem.Claim
import GoSem.ClaimJoined
import GoSem.ClaimMapViews
import Derived.JoinedTies
import Derived.KernelRfl
namespace Go.Proofs.Ytjgkhpkligodkaa
/- THE CELL 'sum', in the pinned program and in every row, IS THE sha256 OF THE DUMP (.gsa) THAT YtjgkhpkligodkaaProg.lean LOADS. Nothing in Lean hashes anything: it is a label: what it is worth is what the hold of that sum in a sandbox is worth. -/
noncomputable def Try.pinned : Pinned := { name := "ytjgkhpkligodkaa", sum := "c4a1d0448cc568fc6385115d9bfc0f15c1fdb410b282f30841d99725df89e665", checked := Try.checked }
namespace Rows
def none {H : Type} : Left H := { results := [], args := [] }

/-- 'quiverlaw1.Pads': WHATEVER THE INPUT: true; the input reads as it did. -/
def padsSpec : ChangeSpec := { name := "pads", fn := fun _ => fun
  | [d1, d2] => { results := [.lit (.bool true)], args := [d1, d2] }
  | _ => none }
def padsRow : OpenClaim := { program := "ytjgkhpkligodkaa", sum := "c4a1d0448cc568fc6385115d9bfc0f15c1fdb410b282f30841d99725df89e665", func := "quiver/quiverlaw1.Pads", spec := "pads", apart := false }
def PadsSaid : Prop := padsRow.holds Try.pinned (OpenSpec.ofChange padsSpec)

/-- ITS FALSE NEIGHBOUR: 'it returns false'. Refute it at one input. -/
def padsWrong : ChangeSpec := { name := "pads", fn := fun _ => fun
  | [d1, d2] => { results := [.lit (.bool false)], args := [d1, d2] }
  | _ => none }
def PadsWrongFalsely : Prop := padsRow.holds Try.pinned (OpenSpec.ofChange padsWrong)

/-- 'quiverlaw1.PadUp': WHATEVER THE INPUT: true; the input reads as it did. -/
def padUpSpec : ChangeSpec := { name := "padUp", fn := fun _ => fun
  | [d] => { results := [.lit (.bool true)], args := [d] }
  | _ => none }
def padUpRow : OpenClaim := { program := "ytjgkhpkligodkaa", sum := "c4a1d0448cc568fc6385115d9bfc0f15c1fdb410b282f30841d99725df89e665", func := "quiver/quiverlaw1.PadUp", spec := "padUp", apart := false }
def PadUpSaid : Prop := padUpRow.holds Try.pinned (OpenSpec.ofChange padUpSpec)

/-- ITS FALSE NEIGHBOUR: 'it returns false'. Refute it at one input. -/
def padUpWrong : ChangeSpec := { name := "padUp", fn := fun _ => fun
  | [d] => { results := [.lit (.bool false)], args := [d] }
  | _ => none }
def PadUpWrongFalsely : Prop := padUpRow.holds Try.pinned (OpenSpec.ofChange padUpWrong)

/-- 'quiverlaw1.PadForms': WHATEVER THE INPUT: true; the input reads as it did. -/
def padFormsSpec : ChangeSpec := { name := "padForms", fn := fun _ => fun
  | [d1, d2] => { results := [.lit (.bool true)], args := [d1, d2] }
  | _ => none }
def padFormsRow : OpenClaim := { program := "ytjgkhpkligodkaa", sum := "c4a1d0448cc568fc6385115d9bfc0f15c1fdb410b282f30841d99725df89e665", func := "quiver/quiverlaw1.PadForms", spec := "padForms", apart := false }
def PadFormsSaid : Prop := padFormsRow.holds Try.pinned (OpenSpec.ofChange padFormsSpec)

/-- ITS FALSE NEIGHBOUR: 'it returns false'. Refute it at one input. -/
def padFormsWrong : ChangeSpec := { name := "padForms", fn := fun _ => fun
  | [d1, d2] => { results := [.lit (.bool false)], args := [d1, d2] }
  | _ => none }
def PadFormsWrongFalsely : Prop := padFormsRow.holds Try.pinned (OpenSpec.ofChange padFormsWrong)

/-- 'quiverlaw1.PadSums': WHATEVER THE INPUT: true; the input reads as it did. -/
def padSumsSpec : ChangeSpec := { name := "padSums", fn := fun _ => fun
  | [d1, d2] => { results := [.lit (.bool true)], args := [d1, d2] }
  | _ => none }
def padSumsRow : OpenClaim := { program := "ytjgkhpkligodkaa", sum := "c4a1d0448cc568fc6385115d9bfc0f15c1fdb410b282f30841d99725df89e665", func := "quiver/quiverlaw1.PadSums", spec := "padSums", apart := false }
def PadSumsSaid : Prop := padSumsRow.holds Try.pinned (OpenSpec.ofChange padSumsSpec)

/-- ITS FALSE NEIGHBOUR: 'it returns false'. Refute it at one input. -/
def padSumsWrong : ChangeSpec := { name := "padSums", fn := fun _ => fun
  | [d1, d2] => { results := [.lit (.bool false)], args := [d1, d2] }
  | _ => none }
def PadSumsWrongFalsely : Prop := padSumsRow.holds Try.pinned (OpenSpec.ofChange padSumsWrong)

/-- 'quiverlaw1.PadRow': WHATEVER THE INPUT: true; the input reads as it did. -/
def padRowSpec : ChangeSpec := { name := "padRow", fn := fun _ => fun
  | [d] => { results := [.lit (.bool true)], args := [d] }
  | _ => none }
def padRowRow : OpenClaim := { program := "ytjgkhpkligodkaa", sum := "c4a1d0448cc568fc6385115d9bfc0f15c1fdb410b282f30841d99725df89e665", func := "quiver/quiverlaw1.PadRow", spec := "padRow", apart := false }
def PadRowSaid : Prop := padRowRow.holds Try.pinned (OpenSpec.ofChange padRowSpec)

/-- ITS FALSE NEIGHBOUR: 'it returns false'. Refute it at one input. -/
def padRowWrong : ChangeSpec := { name := "padRow", fn := fun _ => fun
  | [d] => { results := [.lit (.bool false)], args := [d] }
  | _ => none }
def PadRowWrongFalsely : Prop := padRowRow.holds Try.pinned (OpenSpec.ofChange padRowWrong)

/- THE SECOND FORM. 'bulk': how many values and letters a reading holds, each counted each time it is reached (what is shared counts as often as it is met; a slice's spare places count too). A statement '..UptoSaid' is the law's where the arguments, and the package variables that the reading takes, are together of bulk at most 1048576: NARROWER than '..Said'. Prove '..Said' where nothing that the law and all that it calls make is longer than what came in: it says more and counts as full. Else prove '..UptoSaid'. A law counts once. -/
mutual
def uptoBulk {H : Type} : DataW H → Nat
  | .lit (.string bytes) => bytes.length + 1
  | .lit _ => 1
  | .nil => 1
  | .ptr d => uptoBulk d + 1
  | .slice elems spare => uptoBulkAll elems + uptoBulkAll spare + 1
  | .agg parts => uptoBulkAll parts + 1
  | .iface _ d => uptoBulk d + 1
  | .map entries => uptoBulkEntries entries + 1
  | .held _ => 1
def uptoBulkAll {H : Type} : List (DataW H) → Nat
  | [] => 0
  | d :: r => uptoBulk d + uptoBulkAll r
def uptoBulkEntries {H : Type} : List (Lit × DataW H) → Nat
  | [] => 0
  | x :: r => uptoBulkEntry x + uptoBulkEntries r
def uptoBulkEntry {H : Type} : Lit × DataW H → Nat
  | (.string bytes, d) => bytes.length + uptoBulk d + 1
  | (_, d) => uptoBulk d + 1
 end
def uptoSmall : (H : Type) → List (DataW H) → Bool := fun _ ds => decide (uptoBulkAll ds ≤ 1048576)
def OpenSpec.upto (s : _root_.Go.ChangeSpec) : _root_.Go.OpenSpec := { _root_.Go.OpenSpec.ofChange s with cond := some uptoSmall }

/-- 'quiverlaw1.Pads', WHERE WHAT IT READS IS OF BULK AT MOST 1048576: true; the input reads as it did. -/
def padsUptoRow : OpenClaim := { program := "ytjgkhpkligodkaa", sum := "c4a1d0448cc568fc6385115d9bfc0f15c1fdb410b282f30841d99725df89e665", func := "quiver/quiverlaw1.Pads", spec := "pads", apart := false, narrowed := true }
def PadsUptoSaid : Prop := padsUptoRow.holds Try.pinned (OpenSpec.upto padsSpec)

/-- 'quiverlaw1.PadUp', WHERE WHAT IT READS IS OF BULK AT MOST 1048576: true; the input reads as it did. -/
def padUpUptoRow : OpenClaim := { program := "ytjgkhpkligodkaa", sum := "c4a1d0448cc568fc6385115d9bfc0f15c1fdb410b282f30841d99725df89e665", func := "quiver/quiverlaw1.PadUp", spec := "padUp", apart := false, narrowed := true }
def PadUpUptoSaid : Prop := padUpUptoRow.holds Try.pinned (OpenSpec.upto padUpSpec)

/-- 'quiverlaw1.PadForms', WHERE WHAT IT READS IS OF BULK AT MOST 1048576: true; the input reads as it did. -/
def padFormsUptoRow : OpenClaim := { program := "ytjgkhpkligodkaa", sum := "c4a1d0448cc568fc6385115d9bfc0f15c1fdb410b282f30841d99725df89e665", func := "quiver/quiverlaw1.PadForms", spec := "padForms", apart := false, narrowed := true }
def PadFormsUptoSaid : Prop := padFormsUptoRow.holds Try.pinned (OpenSpec.upto padFormsSpec)

/-- 'quiverlaw1.PadSums', WHERE WHAT IT READS IS OF BULK AT MOST 1048576: true; the input reads as it did. -/
def padSumsUptoRow : OpenClaim := { program := "ytjgkhpkligodkaa", sum := "c4a1d0448cc568fc6385115d9bfc0f15c1fdb410b282f30841d99725df89e665", func := "quiver/quiverlaw1.PadSums", spec := "padSums", apart := false, narrowed := true }
def PadSumsUptoSaid : Prop := padSumsUptoRow.holds Try.pinned (OpenSpec.upto padSumsSpec)

/-- 'quiverlaw1.PadRow', WHERE WHAT IT READS IS OF BULK AT MOST 1048576: true; the input reads as it did. -/
def padRowUptoRow : OpenClaim := { program := "ytjgkhpkligodkaa", sum := "c4a1d0448cc568fc6385115d9bfc0f15c1fdb410b282f30841d99725df89e665", func := "quiver/quiverlaw1.PadRow", spec := "padRow", apart := false, narrowed := true }
def PadRowUptoSaid : Prop := padRowUptoRow.holds Try.pinned (OpenSpec.upto padRowSpec)

end Rows
end Go.Proofs.Ytjgkhpkligodkaa
