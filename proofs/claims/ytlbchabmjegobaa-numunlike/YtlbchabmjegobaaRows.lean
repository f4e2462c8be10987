/-
  No cell of these rows narrows 'for every input' (looked for: loops, veiled, ifaces, maps, wideKeys, modest, calm, conditions, laid).
  DERIVED. THE GIVEN ROWS OF THIS SEAT. 5 by the template 'for every input the law returns true; each argument reads behind the call as it read before'; 0 by the template 'total and deterministic' (their statements: YtlbchabmjegobaaTotals.lean).
  GIVEN WITH THE SEED: the statements are not yours to turn. If you find one false, say at which input.
  Laid BY PROGRAM, IN A SANDBOX (cutbox-rows.mjs): the forced cells as the released guide's own fill.sh prints them over the translation 739c5b1a38113659… (all of the seat's roots in one cut). By AI agents, Wed Nov 11 2026. No macro, syntax, notation, axiom, sorry.
-/
import Derived.Test.YtlbchabmjegobaaChecked
import GoSem.Claim
import GoSem.ClaimJoined
import GoSem.ClaimMapViews
import Derived.JoinedTies
import Derived.KernelRfl
namespace Go.Proofs.Ytlbchabmjegobaa
/- THE CELL 'sum', in the pinned program and in every row, IS THE sha256 OF THE DUMP (.gsa) THAT YtlbchabmjegobaaProg.lean LOADS. Nothing in Lean hashes anything: it is a label: what it is worth is what the hold of that sum in a sandbox is worth. -/
noncomputable def Try.pinned : Pinned := { name := "ytlbchabmjegobaa", sum := "739c5b1a3811365900b17859ff83f0cfda61dbe8bdd9e69454d0cc1c27a02bd0", checked := Try.checked }
namespace Rows
def none {H : Type} : Left H := { results := [], args := [] }

/-- 'quiverlaw3.Nums': WHATEVER THE INPUT: true; the input reads as it did. -/
def numsSpec : ChangeSpec := { name := "nums", fn := fun _ => fun
  | [d1, d2, d3, d4] => { results := [.lit (.bool true)], args := [d1, d2, d3, d4] }
  | _ => none }
def numsRow : OpenClaim := { program := "ytlbchabmjegobaa", sum := "739c5b1a3811365900b17859ff83f0cfda61dbe8bdd9e69454d0cc1c27a02bd0", func := "quiver/quiverlaw3.Nums", spec := "nums", apart := false }
def NumsSaid : Prop := numsRow.holds Try.pinned (OpenSpec.ofChange numsSpec)

/-- ITS FALSE NEIGHBOUR: 'it returns false'. Refute it at one input. -/
def numsWrong : ChangeSpec := { name := "nums", fn := fun _ => fun
  | [d1, d2, d3, d4] => { results := [.lit (.bool false)], args := [d1, d2, d3, d4] }
  | _ => none }
def NumsWrongFalsely : Prop := numsRow.holds Try.pinned (OpenSpec.ofChange numsWrong)

/-- 'quiverlaw3.NumBack': WHATEVER THE INPUT: true; the input reads as it did. -/
def numBackSpec : ChangeSpec := { name := "numBack", fn := fun _ => fun
  | [d1, d2] => { results := [.lit (.bool true)], args := [d1, d2] }
  | _ => none }
def numBackRow : OpenClaim := { program := "ytlbchabmjegobaa", sum := "739c5b1a3811365900b17859ff83f0cfda61dbe8bdd9e69454d0cc1c27a02bd0", func := "quiver/quiverlaw3.NumBack", spec := "numBack", apart := false }
def NumBackSaid : Prop := numBackRow.holds Try.pinned (OpenSpec.ofChange numBackSpec)

/-- ITS FALSE NEIGHBOUR: 'it returns false'. Refute it at one input. -/
def numBackWrong : ChangeSpec := { name := "numBack", fn := fun _ => fun
  | [d1, d2] => { results := [.lit (.bool false)], args := [d1, d2] }
  | _ => none }
def NumBackWrongFalsely : Prop := numBackRow.holds Try.pinned (OpenSpec.ofChange numBackWrong)

/-- 'quiverlaw3.NumForms': WHATEVER THE INPUT: true; the input reads as it did. -/
def numFormsSpec : ChangeSpec := { name := "numForms", fn := fun _ => fun
  | [d1, d2] => { results := [.lit (.bool true)], args := [d1, d2] }
  | _ => none }
def numFormsRow : OpenClaim := { program := "ytlbchabmjegobaa", sum := "739c5b1a3811365900b17859ff83f0cfda61dbe8bdd9e69454d0cc1c27a02bd0", func := "quiver/quiverlaw3.NumForms", spec := "numForms", apart := false }
def NumFormsSaid : Prop := numFormsRow.holds Try.pinned (OpenSpec.ofChange numFormsSpec)

/-- ITS FALSE NEIGHBOUR: 'it returns false'. Refute it at one input. -/
def numFormsWrong : ChangeSpec := { name := "numForms", fn := fun _ => fun
  | [d1, d2] => { results := [.lit (.bool false)], args := [d1, d2] }
  | _ => none }
def NumFormsWrongFalsely : Prop := numFormsRow.holds Try.pinned (OpenSpec.ofChange numFormsWrong)

/-- 'quiverlaw3.NumRow': WHATEVER THE INPUT: true; the input reads as it did. -/
def numRowSpec : ChangeSpec := { name := "numRow", fn := fun _ => fun
  | [d] => { results := [.lit (.bool true)], args := [d] }
  | _ => none }
def numRowRow : OpenClaim := { program := "ytlbchabmjegobaa", sum := "739c5b1a3811365900b17859ff83f0cfda61dbe8bdd9e69454d0cc1c27a02bd0", func := "quiver/quiverlaw3.NumRow", spec := "numRow", apart := false }
def NumRowSaid : Prop := numRowRow.holds Try.pinned (OpenSpec.ofChange numRowSpec)

/-- ITS FALSE NEIGHBOUR: 'it returns false'. Refute it at one input. -/
def numRowWrong : ChangeSpec := { name := "numRow", fn := fun _ => fun
  | [d] => { results := [.lit (.bool false)], args := [d] }
  | _ => none }
def NumRowWrongFalsely : Prop := numRowRow.holds Try.pinned (OpenSpec.ofChange numRowWrong)

/-- 'quiverlaw3.NumUnlike': WHATEVER THE INPUT: true; the input reads as it did. -/
def numUnlikeSpec : ChangeSpec := { name := "numUnlike", fn := fun _ => fun
  | [d1, d2] => { results := [.lit (.bool true)], args := [d1, d2] }
  | _ => none }
def numUnlikeRow : OpenClaim := { program := "ytlbchabmjegobaa", sum := "739c5b1a3811365900b17859ff83f0cfda61dbe8bdd9e69454d0cc1c27a02bd0", func := "quiver/quiverlaw3.NumUnlike", spec := "numUnlike", apart := false }
def NumUnlikeSaid : Prop := numUnlikeRow.holds Try.pinned (OpenSpec.ofChange numUnlikeSpec)

/-- ITS FALSE NEIGHBOUR: 'it returns false'. Refute it at one input. -/
def numUnlikeWrong : ChangeSpec := { name := "numUnlike", fn := fun _ => fun
  | [d1, d2] => { results := [.lit (.bool false)], args := [d1, d2] }
  | _ => none }
def NumUnlikeWrongFalsely : Prop := numUnlikeRow.holds Try.pinned (OpenSpec.ofChange numUnlikeWrong)

/- THE SECOND FORM. 'bulk': how many values and letters a reading holds, each counted each time it is reached (what is shared counts as often as it is met; a slice's spare places count too). A statement '..UptoSaid' is the law's where the arguments, and the package variables that the reading takes, are together of bulk at most 1048576: NARROWER than '..Said'. Prove '..Said' where nothing that the law and all that it calls make is longer than what came in: it says more and counts as full. Else prove '..UptoSaid'. A law counts once. -/
mutual
def uptoBulk {H : Type} : DataW H → Nat
  | .lit (.string bytes) => bytes.length + 1
  | .lit _ => 1
  | .nil => 1
  | .ptr d => uptoBulk d + 1
  | .slice elems spare => uptoBulkAll elems + uptoBulkAll spare + 1
  | .agg parts => uptoBulkAll parts + 1
  | .iface _ d => uptoBulk d + 1
  | .map entries => uptoBulkEntries entries + 1
  | .held _ => 1
def uptoBulkAll {H : Type} : List (DataW H) → Nat
  | [] => 0
  | d :: r => uptoBulk d + uptoBulkAll r
def uptoBulkEntries {H : Type} : List (Lit × DataW H) → Nat
  | [] => 0
  | x :: r => uptoBulkEntry x + uptoBulkEntries r
def uptoBulkEntry {H : Type} : Lit × DataW H → Nat
  | (.string bytes, d) => bytes.length + uptoBulk d + 1
  | (_, d) => uptoBulk d + 1
 end
def uptoSmall : (H : Type) → List (DataW H) → Bool := fun _ ds => decide (uptoBulkAll ds ≤ 1048576)
def OpenSpec.upto (s : _root_.Go.ChangeSpec) : _root_.Go.OpenSpec := { _root_.Go.OpenSpec.ofChange s with cond := some uptoSmall }

/-- 'quiverlaw3.Nums', WHERE WHAT IT READS IS OF BULK AT MOST 1048576: true; the input reads as it did. -/
def numsUptoRow : OpenClaim := { program := "ytlbchabmjegobaa", sum := "739c5b1a3811365900b17859ff83f0cfda61dbe8bdd9e69454d0cc1c27a02bd0", func := "quiver/quiverlaw3.Nums", spec := "nums", apart := false, narrowed := true }
def NumsUptoSaid : Prop := numsUptoRow.holds Try.pinned (OpenSpec.upto numsSpec)

/-- 'quiverlaw3.NumBack', WHERE WHAT IT READS IS OF BULK AT MOST 1048576: true; the input reads as it did. -/
def numBackUptoRow : OpenClaim := { program := "ytlbchabmjegobaa", sum := "739c5b1a3811365900b17859ff83f0cfda61dbe8bdd9e69454d0cc1c27a02bd0", func := "quiver/quiverlaw3.NumBack", spec := "numBack", apart := false, narrowed := true }
def NumBackUptoSaid : Prop := numBackUptoRow.holds Try.pinned (OpenSpec.upto numBackSpec)

/-- 'quiverlaw3.NumForms', WHERE WHAT IT READS IS OF BULK AT MOST 1048576: true; the input reads as it did. -/
def numFormsUptoRow : OpenClaim := { program := "ytlbchabmjegobaa", sum := "739c5b1a3811365900b17859ff83f0cfda61dbe8bdd9e69454d0cc1c27a02bd0", func := "quiver/quiverlaw3.NumForms", spec := "numForms", apart := false, narrowed := true }
def NumFormsUptoSaid : Prop := numFormsUptoRow.holds Try.pinned (OpenSpec.upto numFormsSpec)

/-- 'quiverlaw3.NumRow', WHERE WHAT IT READS IS OF BULK AT MOST 1048576: true; the input reads as it did. -/
def numRowUptoRow : OpenClaim := { program := "ytlbchabmjegobaa", sum := "739c5b1a3811365900b17859ff83f0cfda61dbe8bdd9e69454d0cc1c27a02bd0", func := "quiver/quiverlaw3.NumRow", spec := "numRow", apart := false, narrowed := true }
def NumRowUptoSaid : Prop := numRowUptoRow.holds Try.pinned (OpenSpec.upto numRowSpec)

/-- 'quiverlaw3.NumUnlike', WHERE WHAT IT READS IS OF BULK AT MOST 1048576: true; the input reads as it did. -/
def numUnlikeUptoRow : OpenClaim := { program := "ytlbchabmjegobaa", sum := "739c5b1a3811365900b17859ff83f0cfda61dbe8bdd9e69454d0cc1c27a02bd0", func := "quiver/quiverlaw3.NumUnlike", spec := "numUnlike", apart := false, narrowed := true }
def NumUnlikeUptoSaid : Prop := numUnlikeUptoRow.holds Try.pinned (OpenSpec.upto numUnlikeSpec)

end Rows
end Go.Proofs.Ytlbchabmjegobaa
