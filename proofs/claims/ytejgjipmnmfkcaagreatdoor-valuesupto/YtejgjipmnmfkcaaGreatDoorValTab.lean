/-
  Texts that are no values, texts that are, values and nodes, one by one: decided.
-/
import Derived.WalkKit
import Derived.Test.YtejgjipmnmfkcaaGreatDoorTree
import Derived.Test.YtejgjipmnmfkcaaGreatDoorDig
import Derived.Test.YtejgjipmnmfkcaaGreatDoorVal
import Derived.Test.YtejgjipmnmfkcaaGreatDoorParts
import Derived.Test.YtejgjipmnmfkcaaGreatDoorPlaces
import Derived.Test.YtejgjipmnmfkcaaGreatDoorWhole
namespace Go.Proofs.YtejgjipmnmfkcaaGreatDoor.Val
open Tree

def formTexts : List ByteArray := [⟨#[]⟩, ⟨#[120]⟩, ⟨#[105]⟩, ⟨#[105, 59]⟩, ⟨#[105, 45, 59]⟩, ⟨#[105, 45, 48, 59]⟩, ⟨#[105, 48, 48, 59]⟩, ⟨#[105, 48, 49, 59]⟩, ⟨#[105, 49]⟩, ⟨#[105, 32, 49, 59]⟩, ⟨#[105, 57, 50, 50, 51, 51, 55, 50, 48, 51, 54, 56, 53, 52, 55, 55, 53, 56, 48, 56, 59]⟩, ⟨#[105, 45, 57, 50, 50, 51, 51, 55, 50, 48, 51, 54, 56, 53, 52, 55, 55, 53, 56, 48, 57, 59]⟩, ⟨#[115]⟩, ⟨#[115, 49, 58]⟩, ⟨#[115, 49, 58, 97, 98]⟩, ⟨#[115, 45, 49, 58]⟩, ⟨#[115, 48, 49, 58, 97]⟩, ⟨#[115, 50, 58, 97]⟩, ⟨#[91]⟩, ⟨#[93]⟩, ⟨#[91, 110]⟩, ⟨#[91, 110, 93, 93]⟩, ⟨#[123, 110, 93]⟩, ⟨#[91, 125]⟩, ⟨#[110, 110]⟩, ⟨#[116, 102]⟩, ⟨#[91, 91, 91, 91, 91, 110, 93, 93, 93, 93, 93]⟩, ⟨#[123, 123, 123, 123, 123, 123, 125, 125, 125, 125, 125, 125]⟩, ⟨#[91, 91, 91, 91, 91, 91, 93, 93, 93, 93, 93, 93]⟩, ⟨#[115, 57, 57, 57, 57, 57, 58, 97]⟩]
theorem forms_none : ∀ s ∈ formTexts, partsS s = none ∧ s.size ≤ 64 := by decide +kernel
def tabTexts : List ByteArray := [⟨#[110]⟩, ⟨#[105, 48, 59]⟩, ⟨#[105, 45, 57, 50, 50, 51, 51, 55, 50, 48, 51, 54, 56, 53, 52, 55, 55, 53, 56, 48, 56, 59]⟩, ⟨#[105, 57, 50, 50, 51, 51, 55, 50, 48, 51, 54, 56, 53, 52, 55, 55, 53, 56, 48, 55, 59]⟩, ⟨#[116]⟩, ⟨#[102]⟩, ⟨#[115, 48, 58]⟩, ⟨#[115, 50, 58, 93, 110]⟩, ⟨#[91, 93]⟩, ⟨#[123, 125]⟩, ⟨#[91, 110, 105, 53, 59, 93]⟩, ⟨#[123, 91, 93, 115, 49, 58, 125, 116, 125]⟩, ⟨#[91, 91, 91, 91, 110, 93, 93, 93, 93]⟩, ⟨#[91, 91, 91, 91, 91, 110, 93, 93, 93, 93, 93]⟩]
def tabKinds : List Int := [-1, 0, 0, 0, 1, 1, 2, 2, 3, 4, 3, 4, 3, 0]
def tabMany : List Nat := [0, 1, 1, 1, 1, 1, 1, 1, 0, 0, 2, 3, 1, 0]
theorem tab_some : ∀ i : Fin 13, (partsS (tabTexts.getD i.val ByteArray.empty)).map (fun p => (p.1, p.2.length)) = some (tabKinds.getD i.val 0, tabMany.getD i.val 0) ∧ (tabTexts.getD i.val ByteArray.empty).size ≤ 64 := by decide +kernel
theorem tab_last : partsS (tabTexts.getD 13 ByteArray.empty) = none := by decide +kernel
def fitTexts : List ByteArray := [⟨#[105, 53, 59]⟩, ⟨#[116]⟩, ⟨#[115, 50, 58, 97, 98]⟩, ⟨#[91, 105, 53, 59, 93]⟩, ⟨#[123, 105, 53, 59, 125]⟩, ⟨#[110]⟩, ⟨#[91, 110, 93]⟩, ⟨#[123, 110, 125]⟩, ⟨#[91, 116, 93]⟩, ⟨#[123, 125]⟩, ⟨#[123, 105, 53, 59, 105, 53, 59, 125]⟩, ⟨#[115, 49, 55, 58, 97, 97, 97, 97, 97, 97, 97, 97, 97, 97, 97, 97, 97, 97, 97, 97, 97]⟩, ⟨#[91]⟩, ⟨#[91, 93]⟩]
/-- A leaf alone, or a nest of one whole number. -/
def fitType (k : Nat) (null : Bool) : List Nd := if 3 ≤ k then [⟨(k : Int), -1, null⟩, ⟨0, 0, false⟩] else [⟨(k : Int), -1, null⟩]
theorem fit_all : ∀ (k : Fin 5) (null : Bool) (i : Fin 14), fitsZ (fitType k.val null) 0 (fitTexts.getD i.val ByteArray.empty) = (decide (i.val = k.val) || decide (i.val = 5) && null || decide (i.val = 13) && decide (k.val = 3)) := by decide +kernel
theorem fit_no : ∀ (k : Fin 5) (null : Bool) (i : Fin 14), fitsZ (fitType k.val null) (-1) (fitTexts.getD i.val ByteArray.empty) = false ∧ fitsZ (fitType k.val null) 2 (fitTexts.getD i.val ByteArray.empty) = false := by decide +kernel
theorem fit_may : ∀ (k : Fin 5) (null : Bool), may (fitType k.val null) = true := by decide +kernel
/-- What every program answers that is one. -/
theorem awake_parts : partsS ⟨#[123, 105, 45, 49, 50, 59, 91, 110, 116, 93, 115, 50, 58, 97, 59, 125]⟩ = some (4, [⟨#[105, 45, 49, 50, 59]⟩, ⟨#[91, 110, 116, 93]⟩, ⟨#[115, 50, 58, 97, 59]⟩]) := by decide +kernel
theorem awake_none : partsS ⟨#[105, 48, 49, 59]⟩ = none := by decide +kernel
theorem awake_fits : fitsZ [⟨0, -1, false⟩] 0 ⟨#[105, 53, 59]⟩ = true ∧ fitsZ [⟨0, -1, false⟩] 0 ⟨#[110]⟩ = false ∧ fitsZ [⟨0, -1, false⟩] 1 ⟨#[105, 53, 59]⟩ = false := by decide +kernel
theorem awake_made : bl ⟨#[123, 105, 45, 49, 50, 59, 91, 110, 116, 93, 115, 50, 58, 97, 59, 125]⟩ = structM [intM (-12), listM [nullM, boolM true], bytesM [97, 59]] := by decide +kernel
end Go.Proofs.YtejgjipmnmfkcaaGreatDoor.Val
