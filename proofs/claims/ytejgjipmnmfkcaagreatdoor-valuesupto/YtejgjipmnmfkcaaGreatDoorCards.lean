/-
  DERIVED. GIVEN WITH THE SEED: THE CARDS: each row of YtejgjipmnmfkcaaGreatDoorRows.lean that lists a variable, with what it lists TIED to the program's text (the seventh form; the later family's looks); each row that meets fmt, with fmt's text TOLD by the authors' own Lean function (tested against real Go, not proved from fmt's source: count such statements apart). THE CARD IS WHAT COUNTS. Prove the row's statement (the work); the ties are given (YtejgjipmnmfkcaaGreatDoorTie.lean); close each card by the builder's one call (the guide's Derived/Test/ToyasCard.lean, 'card_holds'). Laid BY PROGRAM, IN A SANDBOX (cutbox-door.mjs). By AI agents, Wed Nov 11 2026. No macro, syntax, notation, axiom, sorry.
-/
import Derived.Test.YtejgjipmnmfkcaaGreatDoorRows
import GoSem.ClaimSeven
namespace Go.Proofs.YtejgjipmnmfkcaaGreatDoor
namespace Rows

/-- THE TIED CARD OF 'quiverlaw7.Values'. -/
def valuesCard : Claim7 := { stood := { row := valuesRow, standIns := [], harness := (true, "6dca6cf594c93ba647b6e834e35c1e768da85075ce37d9ad36b04dc8ada120db"), looks := true }, kinds := [], alts := [], laidByText := true, laidKinds := [.data, .data, .data, .sentinel, .sentinel], laidTests := true, laidLooks := .later }
def ValuesCardSaid : Prop := Claim7.holds Tryz.pinned (.plain (OpenSpec.ofChange valuesSpec)) valuesCard

/-- THE SECOND FORM's CARD OF 'quiverlaw7.Values'. -/
def valuesUptoCard : Claim7 := { stood := { row := valuesUptoRow, standIns := [], harness := (true, "6dca6cf594c93ba647b6e834e35c1e768da85075ce37d9ad36b04dc8ada120db"), looks := true }, kinds := [], alts := [], laidByText := true, laidKinds := [.data, .data, .data, .sentinel, .sentinel], laidTests := true, laidLooks := .later }
def ValuesUptoCardSaid : Prop := Claim7.holds Tryz.pinned (.plain (OpenSpec.upto valuesSpec)) valuesUptoCard
end Rows
end Go.Proofs.YtejgjipmnmfkcaaGreatDoor
