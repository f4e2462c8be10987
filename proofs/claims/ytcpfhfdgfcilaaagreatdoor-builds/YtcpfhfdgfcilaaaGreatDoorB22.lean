/-
  Several texts in one: What a reader tells of a row: the closures, plain, value: contracts. · What a reader tells of a row: value: contract.
-/
import Derived.Test.YtcpfhfdgfcilaaaGreatDoorB17
import Derived.Test.YtcpfhfdgfcilaaaGreatDoorB21
import Derived.Test.YtcpfhfdgfcilaaaGreatDoorB15
import Derived.Test.YtcpfhfdgfcilaaaGreatDoorB13
import Derived.Test.YtcpfhfdgfcilaaaGreatDoorB12
import Derived.Test.YtcpfhfdgfcilaaaGreatDoorB05
import Derived.Test.YtcpfhfdgfcilaaaGreatDoorB04
import Derived.Deep.CutRange
import Derived.Deep.CutBlock
set_option linter.unusedVariables false
set_option linter.unusedSimpArgs false
namespace Go.Proofs.YtcpfhfdgfcilaaaGreatDoor.Arr
open Go.ChangeShapes Go.WideShapes Go.ChangeAt Go.RowKit
open Tree Val

/-- A kid of a reader. -/
theorem HoldsRd.kid {w : World} {ns : List Nd} {f n : Nat} {a : Arr} {o : Option Addr} {cap : Nat} {k : Int} {r : Option Addr} {c : Nat} (h : HoldsRd w ns (f + 1) n (rdCells a o cap k r a.kids.length c) a) {i : Nat} (hi : i < a.kids.length) :
    ∃ g o' cap' r' c', r = some ⟨g, 0, none⟩ ∧ (∀ j v, j < 9 → (rdCells (kidAt a i) o' cap' (nd ns (kidNode ns n a i)).kind r' (kidAt a i).kids.length c')[j]? = some v → w.cell? ⟨g, i * 9 + j, none⟩ = some v) ∧ HoldsRd w ns f (kidNode ns n a i) (rdCells (kidAt a i) o' cap' (nd ns (kidNode ns n a i)).kind r' (kidAt a i).kids.length c') (kidAt a i) := by
  obtain ⟨o2, cap2, r2, c2, e, h2⟩ := h
  have er : r = r2 := by
    unfold rdCells at e
    simp only [List.cons.injEq, Value.slice.injEq, and_true, true_and] at e
    exact e.2.2.1
  subst er
  rcases h2 with e0 | ⟨g, rfl, hx⟩
  · rw [e0] at hi; exact absurd hi (Nat.not_lt_zero _)
  · obtain ⟨cs', hl, hc, hh⟩ := hx i hi
    cases f with
    | zero => cases hh
    | succ f =>
      obtain ⟨o3, cap3, r3, c3, e3, _⟩ := id hh
      rw [e3] at hh hc
      exact ⟨g, o3, cap3, r3, c3, rfl, fun j v hj hv => (hc j hj).trans hv, hh⟩
end Go.Proofs.YtcpfhfdgfcilaaaGreatDoor.Arr
set_option linter.unusedVariables false
set_option linter.unusedSimpArgs false
namespace Go.Proofs.YtcpfhfdgfcilaaaGreatDoor.Arr
open Go.ChangeShapes Go.WideShapes Go.ChangeAt Go.RowKit
open Tree Val

end Go.Proofs.YtcpfhfdgfcilaaaGreatDoor.Arr
