/-
  No cell of these rows narrows 'for every input' (looked for: loops, veiled, ifaces, maps, wideKeys, modest, calm, conditions, laid).
  DERIVED. THE GIVEN ROWS OF THIS SEAT. 6 by the template 'for every input the law returns true; each argument reads behind the call as it read before'; 0 by the template 'total and deterministic' (their statements: YtjjfkgiecndmjaaTotals.lean).
  GIVEN WITH THE SEED: the statements are not yours to turn. If you find one false, say at which input.
  Laid BY PROGRAM, IN A SANDBOX (cutbox-rows.mjs): the forced cells as the released guide's own fill.sh prints them over the translation 8d1f361dade075e1… (all of the seat's roots in one cut). By AI agents, Wed Nov 11 2026. No macro, syntax, notation, axiom, sorry.
-/
import Derived.Test.YtjjfkgiecndmjaaChecked
import GoSem.Claim
import GoSem.ClaimJoined
import GoSem.ClaimMapViews
import Derived.JoinedTies
import Derived.KernelRfl
namespace Go.Proofs.Ytjjfkgiecndmjaa
/- THE CELL 'sum', in the pinned program and in every row, IS THE sha256 OF THE DUMP (.gsa) THAT YtjjfkgiecndmjaaProg.lean LOADS. Nothing in Lean hashes anything: it is a label: what it is worth is what the hold of that sum in a sandbox is worth. -/
noncomputable def Try.pinned : Pinned := { name := "ytjjfkgiecndmjaa", sum := "8d1f361dade075e1aa31191e15f64f892f9d78e2c9dfeb98065facfe2a1ea706", checked := Try.checked }
namespace Rows
def none {H : Type} : Left H := { results := [], args := [] }

/-- 'quiverlaw5.Types': WHATEVER THE INPUT: true; the input reads as it did. -/
def typesSpec : ChangeSpec := { name := "types", fn := fun _ => fun
  | [d1, d2] => { results := [.lit (.bool true)], args := [d1, d2] }
  | _ => none }
def typesRow : OpenClaim := { program := "ytjjfkgiecndmjaa", sum := "8d1f361dade075e1aa31191e15f64f892f9d78e2c9dfeb98065facfe2a1ea706", func := "quiver/quiverlaw5.Types", spec := "types", unfollowed := true, recurses := true, apart := false }
def TypesSaid : Prop := typesRow.holds Try.pinned (OpenSpec.ofChange typesSpec)

/-- ITS FALSE NEIGHBOUR: 'it returns false'. Refute it at one input. -/
def typesWrong : ChangeSpec := { name := "types", fn := fun _ => fun
  | [d1, d2] => { results := [.lit (.bool false)], args := [d1, d2] }
  | _ => none }
def TypesWrongFalsely : Prop := typesRow.holds Try.pinned (OpenSpec.ofChange typesWrong)

/-- 'quiverlaw5.TypesLevels': WHATEVER THE INPUT: true; the input reads as it did. -/
def typesLevelsSpec : ChangeSpec := { name := "typesLevels", fn := fun _ => fun
  | [d] => { results := [.lit (.bool true)], args := [d] }
  | _ => none }
def typesLevelsRow : OpenClaim := { program := "ytjjfkgiecndmjaa", sum := "8d1f361dade075e1aa31191e15f64f892f9d78e2c9dfeb98065facfe2a1ea706", func := "quiver/quiverlaw5.TypesLevels", spec := "typesLevels", unfollowed := true, recurses := true, apart := false }
def TypesLevelsSaid : Prop := typesLevelsRow.holds Try.pinned (OpenSpec.ofChange typesLevelsSpec)

/-- ITS FALSE NEIGHBOUR: 'it returns false'. Refute it at one input. -/
def typesLevelsWrong : ChangeSpec := { name := "typesLevels", fn := fun _ => fun
  | [d] => { results := [.lit (.bool false)], args := [d] }
  | _ => none }
def TypesLevelsWrongFalsely : Prop := typesLevelsRow.holds Try.pinned (OpenSpec.ofChange typesLevelsWrong)

/-- 'quiverlaw5.TypesForms': WHATEVER THE INPUT: true; the input reads as it did. -/
def typesFormsSpec : ChangeSpec := { name := "typesForms", fn := fun _ => fun
  | [d1, d2] => { results := [.lit (.bool true)], args := [d1, d2] }
  | _ => none }
def typesFormsRow : OpenClaim := { program := "ytjjfkgiecndmjaa", sum := "8d1f361dade075e1aa31191e15f64f892f9d78e2c9dfeb98065facfe2a1ea706", func := "quiver/quiverlaw5.TypesForms", spec := "typesForms", unfollowed := true, recurses := true, apart := false }
def TypesFormsSaid : Prop := typesFormsRow.holds Try.pinned (OpenSpec.ofChange typesFormsSpec)

/-- ITS FALSE NEIGHBOUR: 'it returns false'. Refute it at one input. -/
def typesFormsWrong : ChangeSpec := { name := "typesForms", fn := fun _ => fun
  | [d1, d2] => { results := [.lit (.bool false)], args := [d1, d2] }
  | _ => none }
def TypesFormsWrongFalsely : Prop := typesFormsRow.holds Try.pinned (OpenSpec.ofChange typesFormsWrong)

/-- 'quiverlaw5.TypesDeep': WHATEVER THE INPUT: true; the input reads as it did. -/
def typesDeepSpec : ChangeSpec := { name := "typesDeep", fn := fun _ => fun
  | [d1, d2] => { results := [.lit (.bool true)], args := [d1, d2] }
  | _ => none }
def typesDeepRow : OpenClaim := { program := "ytjjfkgiecndmjaa", sum := "8d1f361dade075e1aa31191e15f64f892f9d78e2c9dfeb98065facfe2a1ea706", func := "quiver/quiverlaw5.TypesDeep", spec := "typesDeep", unfollowed := true, recurses := true, apart := false }
def TypesDeepSaid : Prop := typesDeepRow.holds Try.pinned (OpenSpec.ofChange typesDeepSpec)

/-- ITS FALSE NEIGHBOUR: 'it returns false'. Refute it at one input. -/
def typesDeepWrong : ChangeSpec := { name := "typesDeep", fn := fun _ => fun
  | [d1, d2] => { results := [.lit (.bool false)], args := [d1, d2] }
  | _ => none }
def TypesDeepWrongFalsely : Prop := typesDeepRow.holds Try.pinned (OpenSpec.ofChange typesDeepWrong)

/-- 'quiverlaw5.TypesKids': WHATEVER THE INPUT: true; the input reads as it did. -/
def typesKidsSpec : ChangeSpec := { name := "typesKids", fn := fun _ => fun
  | [d] => { results := [.lit (.bool true)], args := [d] }
  | _ => none }
def typesKidsRow : OpenClaim := { program := "ytjjfkgiecndmjaa", sum := "8d1f361dade075e1aa31191e15f64f892f9d78e2c9dfeb98065facfe2a1ea706", func := "quiver/quiverlaw5.TypesKids", spec := "typesKids", unfollowed := true, recurses := true, apart := false }
def TypesKidsSaid : Prop := typesKidsRow.holds Try.pinned (OpenSpec.ofChange typesKidsSpec)

/-- ITS FALSE NEIGHBOUR: 'it returns false'. Refute it at one input. -/
def typesKidsWrong : ChangeSpec := { name := "typesKids", fn := fun _ => fun
  | [d] => { results := [.lit (.bool false)], args := [d] }
  | _ => none }
def TypesKidsWrongFalsely : Prop := typesKidsRow.holds Try.pinned (OpenSpec.ofChange typesKidsWrong)

/-- 'quiverlaw5.TypesSchema': WHATEVER THE INPUT: true; the input reads as it did. -/
def typesSchemaSpec : ChangeSpec := { name := "typesSchema", fn := fun _ => fun
  | [d] => { results := [.lit (.bool true)], args := [d] }
  | _ => none }
def typesSchemaRow : OpenClaim := { program := "ytjjfkgiecndmjaa", sum := "8d1f361dade075e1aa31191e15f64f892f9d78e2c9dfeb98065facfe2a1ea706", func := "quiver/quiverlaw5.TypesSchema", spec := "typesSchema", unfollowed := true, recurses := true, apart := false }
def TypesSchemaSaid : Prop := typesSchemaRow.holds Try.pinned (OpenSpec.ofChange typesSchemaSpec)

/-- ITS FALSE NEIGHBOUR: 'it returns false'. Refute it at one input. -/
def typesSchemaWrong : ChangeSpec := { name := "typesSchema", fn := fun _ => fun
  | [d] => { results := [.lit (.bool false)], args := [d] }
  | _ => none }
def TypesSchemaWrongFalsely : Prop := typesSchemaRow.holds Try.pinned (OpenSpec.ofChange typesSchemaWrong)

/- THE SECOND FORM. 'bulk': how many values and letters a reading holds, each counted each time it is reached (what is shared counts as often as it is met; a slice's spare places count too). A statement '..UptoSaid' is the law's where the arguments, and the package variables that the reading takes, are together of bulk at most 1048576: NARROWER than '..Said'. Prove '..Said' where nothing that the law and all that it calls make is longer than what came in: it says more and counts as full. Else prove '..UptoSaid'. A law counts once. -/
mutual
def uptoBulk {H : Type} : DataW H → Nat
  | .lit (.string bytes) => bytes.length + 1
  | .lit _ => 1
  | .nil => 1
  | .ptr d => uptoBulk d + 1
  | .slice elems spare => uptoBulkAll elems + uptoBulkAll spare + 1
  | .agg parts => uptoBulkAll parts + 1
  | .iface _ d => uptoBulk d + 1
  | .map entries => uptoBulkEntries entries + 1
  | .held _ => 1
def uptoBulkAll {H : Type} : List (DataW H) → Nat
  | [] => 0
  | d :: r => uptoBulk d + uptoBulkAll r
def uptoBulkEntries {H : Type} : List (Lit × DataW H) → Nat
  | [] => 0
  | x :: r => uptoBulkEntry x + uptoBulkEntries r
def uptoBulkEntry {H : Type} : Lit × DataW H → Nat
  | (.string bytes, d) => bytes.length + uptoBulk d + 1
  | (_, d) => uptoBulk d + 1
 end
def uptoSmall : (H : Type) → List (DataW H) → Bool := fun _ ds => decide (uptoBulkAll ds ≤ 1048576)
def OpenSpec.upto (s : _root_.Go.ChangeSpec) : _root_.Go.OpenSpec := { _root_.Go.OpenSpec.ofChange s with cond := some uptoSmall }

/-- 'quiverlaw5.Types', WHERE WHAT IT READS IS OF BULK AT MOST 1048576: true; the input reads as it did. -/
def typesUptoRow : OpenClaim := { program := "ytjjfkgiecndmjaa", sum := "8d1f361dade075e1aa31191e15f64f892f9d78e2c9dfeb98065facfe2a1ea706", func := "quiver/quiverlaw5.Types", spec := "types", unfollowed := true, recurses := true, apart := false, narrowed := true }
def TypesUptoSaid : Prop := typesUptoRow.holds Try.pinned (OpenSpec.upto typesSpec)

/-- 'quiverlaw5.TypesLevels', WHERE WHAT IT READS IS OF BULK AT MOST 1048576: true; the input reads as it did. -/
def typesLevelsUptoRow : OpenClaim := { program := "ytjjfkgiecndmjaa", sum := "8d1f361dade075e1aa31191e15f64f892f9d78e2c9dfeb98065facfe2a1ea706", func := "quiver/quiverlaw5.TypesLevels", spec := "typesLevels", unfollowed := true, recurses := true, apart := false, narrowed := true }
def TypesLevelsUptoSaid : Prop := typesLevelsUptoRow.holds Try.pinned (OpenSpec.upto typesLevelsSpec)

/-- 'quiverlaw5.TypesForms', WHERE WHAT IT READS IS OF BULK AT MOST 1048576: true; the input reads as it did. -/
def typesFormsUptoRow : OpenClaim := { program := "ytjjfkgiecndmjaa", sum := "8d1f361dade075e1aa31191e15f64f892f9d78e2c9dfeb98065facfe2a1ea706", func := "quiver/quiverlaw5.TypesForms", spec := "typesForms", unfollowed := true, recurses := true, apart := false, narrowed := true }
def TypesFormsUptoSaid : Prop := typesFormsUptoRow.holds Try.pinned (OpenSpec.upto typesFormsSpec)

/-- 'quiverlaw5.TypesDeep', WHERE WHAT IT READS IS OF BULK AT MOST 1048576: true; the input reads as it did. -/
def typesDeepUptoRow : OpenClaim := { program := "ytjjfkgiecndmjaa", sum := "8d1f361dade075e1aa31191e15f64f892f9d78e2c9dfeb98065facfe2a1ea706", func := "quiver/quiverlaw5.TypesDeep", spec := "typesDeep", unfollowed := true, recurses := true, apart := false, narrowed := true }
def TypesDeepUptoSaid : Prop := typesDeepUptoRow.holds Try.pinned (OpenSpec.upto typesDeepSpec)

/-- 'quiverlaw5.TypesKids', WHERE WHAT IT READS IS OF BULK AT MOST 1048576: true; the input reads as it did. -/
def typesKidsUptoRow : OpenClaim := { program := "ytjjfkgiecndmjaa", sum := "8d1f361dade075e1aa31191e15f64f892f9d78e2c9dfeb98065facfe2a1ea706", func := "quiver/quiverlaw5.TypesKids", spec := "typesKids", unfollowed := true, recurses := true, apart := false, narrowed := true }
def TypesKidsUptoSaid : Prop := typesKidsUptoRow.holds Try.pinned (OpenSpec.upto typesKidsSpec)

/-- 'quiverlaw5.TypesSchema', WHERE WHAT IT READS IS OF BULK AT MOST 1048576: true; the input reads as it did. -/
def typesSchemaUptoRow : OpenClaim := { program := "ytjjfkgiecndmjaa", sum := "8d1f361dade075e1aa31191e15f64f892f9d78e2c9dfeb98065facfe2a1ea706", func := "quiver/quiverlaw5.TypesSchema", spec := "typesSchema", unfollowed := true, recurses := true, apart := false, narrowed := true }
def TypesSchemaUptoSaid : Prop := typesSchemaUptoRow.holds Try.pinned (OpenSpec.upto typesSchemaSpec)

end Rows
end Go.Proofs.Ytjjfkgiecndmjaa
