/-
  Several texts in one: Value, Values, by the program; Value by the document: contracts. · Awake, as the laws of reading ask it: its contract. · The heap that the start leaves meets the rows' list of variables.
-/
import Derived.Test.YtcpfhfdgfcilaaaGreatDoorB23
import Derived.Test.YtcpfhfdgfcilaaaGreatDoorB15
import Derived.Test.YtcpfhfdgfcilaaaGreatDoorB09
import Derived.Test.YtcpfhfdgfcilaaaGreatDoorB11
import Derived.Test.YtcpfhfdgfcilaaaGreatDoorB02
import Derived.Test.YtcpfhfdgfcilaaaGreatDoorB12
set_option linter.unusedVariables false
set_option linter.unusedSimpArgs false
namespace Go.Proofs.YtcpfhfdgfcilaaaGreatDoor.Arr
open Go.ChangeShapes Go.WideShapes Go.ChangeAt Go.RowKit
open Tree Val

end Go.Proofs.YtcpfhfdgfcilaaaGreatDoor.Arr
set_option linter.unusedVariables false
set_option linter.unusedSimpArgs false
namespace Go.Proofs.YtcpfhfdgfcilaaaGreatDoor.Arr
open Go.ChangeShapes Go.WideShapes Go.ChangeAt Go.RowKit
open Tree Val

/-- Texts that are laid out at once. -/
theorem tx_lit (w : World) (ss : List ByteArray) (h : ss.length ≤ maxLen) : ∃ w1, w.alloc (.cells (Texts.cellsT ss).toArray 9) = w1 ∧ Texts.IsTx w1 (some ⟨w.heap.size, 0, none⟩) ss ∧ Below w.heap.size w w1 := by
  refine ⟨_, rfl, ⟨h, .inr ⟨_, rfl, fun i hi => ?_⟩⟩, (Below.refl _ _).alloc (Nat.le_refl _) _⟩
  have := Texts.cellsT_at ss i hi
  rw [add0]
  simp only [World.cell?, heap_alloc_new]
  rw [List.getElem?_toArray, this]
  rfl
end Go.Proofs.YtcpfhfdgfcilaaaGreatDoor.Arr
namespace Go.Proofs.YtcpfhfdgfcilaaaGreatDoor.Val
open Go.ChangeShapes Go.WideShapes Go.ChangeAt Go.RowKit

/-- The heap that the start leaves meets the list. -/
theorem doorB_met (os : Os) (args : Array Value) : laidMetH Tryz.prog laidB ((World.doorLaid Tryz.prog 400 os).forCall (fun _ _ => 0) ⟨#[], args, []⟩).memory :=
  laidMetH_of_parts3 (fuel := 8) (laidMet_of_run' 8 (by kernel_rfl) (by kernel_rfl)) (by kernel_rfl) (by kernel_rfl)
end Go.Proofs.YtcpfhfdgfcilaaaGreatDoor.Val
