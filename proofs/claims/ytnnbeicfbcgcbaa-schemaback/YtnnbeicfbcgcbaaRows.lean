/-
  No cell of these rows narrows 'for every input' (looked for: loops, veiled, ifaces, maps, wideKeys, modest, calm, conditions, laid).
  DERIVED. THE GIVEN ROWS OF THIS SEAT. 5 by the template 'for every input the law returns true; each argument reads behind the call as it read before'; 0 by the template 'total and deterministic' (their statements: YtnnbeicfbcgcbaaTotals.lean).
  GIVEN WITH THE SEED: the statements are not yours to turn. If you find one false, say at which input.
  Laid BY PROGRAM, IN A SANDBOX (cutbox-rows.mjs): the forced cells as the released guide's own fill.sh prints them over the translation d2c84cd82ef8b979… (all of the seat's roots in one cut). By AI agents, Wed Nov 11 2026. No macro, syntax, notation, axiom, sorry.
-/
import Derived.Test.YtnnbeicfbcgcbaaChecked
import GoSem.Claim
import GoSem.ClaimJoined
import GoSem.ClaimMapViews
import Derived.JoinedTies
import Derived.KernelRfl
namespace Go.Proofs.Ytnnbeicfbcgcbaa
/- THE CELL 'sum', in the pinned program and in every row, IS THE sha256 OF THE DUMP (.gsa) THAT YtnnbeicfbcgcbaaProg.lean LOADS. Nothing in Lean hashes anything: it is a label: what it is worth is what the hold of that sum in a sandbox is worth. -/
noncomputable def Try.pinned : Pinned := { name := "ytnnbeicfbcgcbaa", sum := "d2c84cd82ef8b97922e4df2142b0ba5b0027094b638874071aef373c678778b4", checked := Try.checked }
namespace Rows
def none {H : Type} : Left H := { results := [], args := [] }

/-- 'quiverlaw6.Schemas': WHATEVER THE INPUT: true; the input reads as it did. -/
def schemasSpec : ChangeSpec := { name := "schemas", fn := fun _ => fun
  | [d1, d2] => { results := [.lit (.bool true)], args := [d1, d2] }
  | _ => none }
def schemasRow : OpenClaim := { program := "ytnnbeicfbcgcbaa", sum := "d2c84cd82ef8b97922e4df2142b0ba5b0027094b638874071aef373c678778b4", func := "quiver/quiverlaw6.Schemas", spec := "schemas", unfollowed := true, recurses := true, apart := false }
def SchemasSaid : Prop := schemasRow.holds Try.pinned (OpenSpec.ofChange schemasSpec)

/-- ITS FALSE NEIGHBOUR: 'it returns false'. Refute it at one input. -/
def schemasWrong : ChangeSpec := { name := "schemas", fn := fun _ => fun
  | [d1, d2] => { results := [.lit (.bool false)], args := [d1, d2] }
  | _ => none }
def SchemasWrongFalsely : Prop := schemasRow.holds Try.pinned (OpenSpec.ofChange schemasWrong)

/-- 'quiverlaw6.SchemaBack': WHATEVER THE INPUT: true; the input reads as it did. -/
def schemaBackSpec : ChangeSpec := { name := "schemaBack", fn := fun _ => fun
  | [d1, d2] => { results := [.lit (.bool true)], args := [d1, d2] }
  | _ => none }
def schemaBackRow : OpenClaim := { program := "ytnnbeicfbcgcbaa", sum := "d2c84cd82ef8b97922e4df2142b0ba5b0027094b638874071aef373c678778b4", func := "quiver/quiverlaw6.SchemaBack", spec := "schemaBack", unfollowed := true, recurses := true, apart := false }
def SchemaBackSaid : Prop := schemaBackRow.holds Try.pinned (OpenSpec.ofChange schemaBackSpec)

/-- ITS FALSE NEIGHBOUR: 'it returns false'. Refute it at one input. -/
def schemaBackWrong : ChangeSpec := { name := "schemaBack", fn := fun _ => fun
  | [d1, d2] => { results := [.lit (.bool false)], args := [d1, d2] }
  | _ => none }
def SchemaBackWrongFalsely : Prop := schemaBackRow.holds Try.pinned (OpenSpec.ofChange schemaBackWrong)

/-- 'quiverlaw6.SchemaForms': WHATEVER THE INPUT: true; the input reads as it did. -/
def schemaFormsSpec : ChangeSpec := { name := "schemaForms", fn := fun _ => fun
  | [d1, d2] => { results := [.lit (.bool true)], args := [d1, d2] }
  | _ => none }
def schemaFormsRow : OpenClaim := { program := "ytnnbeicfbcgcbaa", sum := "d2c84cd82ef8b97922e4df2142b0ba5b0027094b638874071aef373c678778b4", func := "quiver/quiverlaw6.SchemaForms", spec := "schemaForms", unfollowed := true, recurses := true, apart := false }
def SchemaFormsSaid : Prop := schemaFormsRow.holds Try.pinned (OpenSpec.ofChange schemaFormsSpec)

/-- ITS FALSE NEIGHBOUR: 'it returns false'. Refute it at one input. -/
def schemaFormsWrong : ChangeSpec := { name := "schemaForms", fn := fun _ => fun
  | [d1, d2] => { results := [.lit (.bool false)], args := [d1, d2] }
  | _ => none }
def SchemaFormsWrongFalsely : Prop := schemaFormsRow.holds Try.pinned (OpenSpec.ofChange schemaFormsWrong)

/-- 'quiverlaw6.SchemaUnlike': WHATEVER THE INPUT: true; the input reads as it did. -/
def schemaUnlikeSpec : ChangeSpec := { name := "schemaUnlike", fn := fun _ => fun
  | [d1, d2] => { results := [.lit (.bool true)], args := [d1, d2] }
  | _ => none }
def schemaUnlikeRow : OpenClaim := { program := "ytnnbeicfbcgcbaa", sum := "d2c84cd82ef8b97922e4df2142b0ba5b0027094b638874071aef373c678778b4", func := "quiver/quiverlaw6.SchemaUnlike", spec := "schemaUnlike", unfollowed := true, recurses := true, apart := false }
def SchemaUnlikeSaid : Prop := schemaUnlikeRow.holds Try.pinned (OpenSpec.ofChange schemaUnlikeSpec)

/-- ITS FALSE NEIGHBOUR: 'it returns false'. Refute it at one input. -/
def schemaUnlikeWrong : ChangeSpec := { name := "schemaUnlike", fn := fun _ => fun
  | [d1, d2] => { results := [.lit (.bool false)], args := [d1, d2] }
  | _ => none }
def SchemaUnlikeWrongFalsely : Prop := schemaUnlikeRow.holds Try.pinned (OpenSpec.ofChange schemaUnlikeWrong)

/-- 'quiverlaw6.SchemaCut': WHATEVER THE INPUT: true; the input reads as it did. -/
def schemaCutSpec : ChangeSpec := { name := "schemaCut", fn := fun _ => fun
  | [d1, d2, d3] => { results := [.lit (.bool true)], args := [d1, d2, d3] }
  | _ => none }
def schemaCutRow : OpenClaim := { program := "ytnnbeicfbcgcbaa", sum := "d2c84cd82ef8b97922e4df2142b0ba5b0027094b638874071aef373c678778b4", func := "quiver/quiverlaw6.SchemaCut", spec := "schemaCut", unfollowed := true, recurses := true, apart := false }
def SchemaCutSaid : Prop := schemaCutRow.holds Try.pinned (OpenSpec.ofChange schemaCutSpec)

/-- ITS FALSE NEIGHBOUR: 'it returns false'. Refute it at one input. -/
def schemaCutWrong : ChangeSpec := { name := "schemaCut", fn := fun _ => fun
  | [d1, d2, d3] => { results := [.lit (.bool false)], args := [d1, d2, d3] }
  | _ => none }
def SchemaCutWrongFalsely : Prop := schemaCutRow.holds Try.pinned (OpenSpec.ofChange schemaCutWrong)

/- THE SECOND FORM. 'bulk': how many values and letters a reading holds, each counted each time it is reached (what is shared counts as often as it is met; a slice's spare places count too). A statement '..UptoSaid' is the law's where the arguments, and the package variables that the reading takes, are together of bulk at most 1048576: NARROWER than '..Said'. Prove '..Said' where nothing that the law and all that it calls make is longer than what came in: it says more and counts as full. Else prove '..UptoSaid'. A law counts once. -/
mutual
def uptoBulk {H : Type} : DataW H → Nat
  | .lit (.string bytes) => bytes.length + 1
  | .lit _ => 1
  | .nil => 1
  | .ptr d => uptoBulk d + 1
  | .slice elems spare => uptoBulkAll elems + uptoBulkAll spare + 1
  | .agg parts => uptoBulkAll parts + 1
  | .iface _ d => uptoBulk d + 1
  | .map entries => uptoBulkEntries entries + 1
  | .held _ => 1
def uptoBulkAll {H : Type} : List (DataW H) → Nat
  | [] => 0
  | d :: r => uptoBulk d + uptoBulkAll r
def uptoBulkEntries {H : Type} : List (Lit × DataW H) → Nat
  | [] => 0
  | x :: r => uptoBulkEntry x + uptoBulkEntries r
def uptoBulkEntry {H : Type} : Lit × DataW H → Nat
  | (.string bytes, d) => bytes.length + uptoBulk d + 1
  | (_, d) => uptoBulk d + 1
 end
def uptoSmall : (H : Type) → List (DataW H) → Bool := fun _ ds => decide (uptoBulkAll ds ≤ 1048576)
def OpenSpec.upto (s : _root_.Go.ChangeSpec) : _root_.Go.OpenSpec := { _root_.Go.OpenSpec.ofChange s with cond := some uptoSmall }

/-- 'quiverlaw6.Schemas', WHERE WHAT IT READS IS OF BULK AT MOST 1048576: true; the input reads as it did. -/
def schemasUptoRow : OpenClaim := { program := "ytnnbeicfbcgcbaa", sum := "d2c84cd82ef8b97922e4df2142b0ba5b0027094b638874071aef373c678778b4", func := "quiver/quiverlaw6.Schemas", spec := "schemas", unfollowed := true, recurses := true, apart := false, narrowed := true }
def SchemasUptoSaid : Prop := schemasUptoRow.holds Try.pinned (OpenSpec.upto schemasSpec)

/-- 'quiverlaw6.SchemaBack', WHERE WHAT IT READS IS OF BULK AT MOST 1048576: true; the input reads as it did. -/
def schemaBackUptoRow : OpenClaim := { program := "ytnnbeicfbcgcbaa", sum := "d2c84cd82ef8b97922e4df2142b0ba5b0027094b638874071aef373c678778b4", func := "quiver/quiverlaw6.SchemaBack", spec := "schemaBack", unfollowed := true, recurses := true, apart := false, narrowed := true }
def SchemaBackUptoSaid : Prop := schemaBackUptoRow.holds Try.pinned (OpenSpec.upto schemaBackSpec)

/-- 'quiverlaw6.SchemaForms', WHERE WHAT IT READS IS OF BULK AT MOST 1048576: true; the input reads as it did. -/
def schemaFormsUptoRow : OpenClaim := { program := "ytnnbeicfbcgcbaa", sum := "d2c84cd82ef8b97922e4df2142b0ba5b0027094b638874071aef373c678778b4", func := "quiver/quiverlaw6.SchemaForms", spec := "schemaForms", unfollowed := true, recurses := true, apart := false, narrowed := true }
def SchemaFormsUptoSaid : Prop := schemaFormsUptoRow.holds Try.pinned (OpenSpec.upto schemaFormsSpec)

/-- 'quiverlaw6.SchemaUnlike', WHERE WHAT IT READS IS OF BULK AT MOST 1048576: true; the input reads as it did. -/
def schemaUnlikeUptoRow : OpenClaim := { program := "ytnnbeicfbcgcbaa", sum := "d2c84cd82ef8b97922e4df2142b0ba5b0027094b638874071aef373c678778b4", func := "quiver/quiverlaw6.SchemaUnlike", spec := "schemaUnlike", unfollowed := true, recurses := true, apart := false, narrowed := true }
def SchemaUnlikeUptoSaid : Prop := schemaUnlikeUptoRow.holds Try.pinned (OpenSpec.upto schemaUnlikeSpec)

/-- 'quiverlaw6.SchemaCut', WHERE WHAT IT READS IS OF BULK AT MOST 1048576: true; the input reads as it did. -/
def schemaCutUptoRow : OpenClaim := { program := "ytnnbeicfbcgcbaa", sum := "d2c84cd82ef8b97922e4df2142b0ba5b0027094b638874071aef373c678778b4", func := "quiver/quiverlaw6.SchemaCut", spec := "schemaCut", unfollowed := true, recurses := true, apart := false, narrowed := true }
def SchemaCutUptoSaid : Prop := schemaCutUptoRow.holds Try.pinned (OpenSpec.upto schemaCutSpec)

end Rows
end Go.Proofs.Ytnnbeicfbcgcbaa
