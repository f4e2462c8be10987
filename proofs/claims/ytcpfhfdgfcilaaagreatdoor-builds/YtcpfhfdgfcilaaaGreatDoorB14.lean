/-
  Several texts in one: A row's value, by the document: plain whole numbers, truths, bytes: contracts. · What is read of an array that may be is a value that fits its node: the whole.
-/
import Derived.Test.YtcpfhfdgfcilaaaGreatDoorB13
import Derived.Maps.AppendAt
import Derived.OneCell
import Derived.Laws.OwnMore
import Derived.WalkKit
import Derived.Test.YtcpfhfdgfcilaaaGreatDoorB01
import Derived.Test.YtcpfhfdgfcilaaaGreatDoorB02
import Derived.Test.YtcpfhfdgfcilaaaGreatDoorB03
import Derived.Test.YtcpfhfdgfcilaaaGreatDoorB04
import Derived.Test.YtcpfhfdgfcilaaaGreatDoorB12
set_option linter.unusedVariables false
set_option linter.unusedSimpArgs false
namespace Go.Proofs.YtcpfhfdgfcilaaaGreatDoor.Arr
open Go.ChangeShapes Go.WideShapes Go.ChangeAt Go.RowKit
open Tree Val

end Go.Proofs.YtcpfhfdgfcilaaaGreatDoor.Arr
namespace Go.Proofs.YtcpfhfdgfcilaaaGreatDoor.Arr
open Tree Val Sums

/-- A text of bytes as a string. -/
def mk (l : List UInt8) : ByteArray := ⟨l.toArray⟩
theorem partsS_mk {t : List UInt8} {k : Int} {ps : List (List UInt8)} (h : partsM t = some (k, ps)) : partsS (mk t) = some (k, ps.map mk) := by
  unfold partsS mk
  rw [bl_mk, h]
  rfl
theorem fits_null {ns : List Nd} {g n : Nat} (h : (nd ns n).null = true) : fitsF ns (g + 1) n (mk nullM) = true := by
  rw [fitsF, partsS_mk parts_null]
  show (if (-1 : Int) < 0 then (nd ns n).null else _) = true
  rw [if_pos (by decide), h]
theorem fits_leaf {ns : List Nd} {g n : Nat} {t : List UInt8} {ps : List (List UInt8)} (hk : (nd ns n).kind = 0 ∨ (nd ns n).kind = 1 ∨ (nd ns n).kind = 2) (h : partsM t = some ((nd ns n).kind, ps)) (h2 : (nd ns n).kind = 2 → (ps.getD 0 []).length ≤ 16 ∧ ps ≠ []) : fitsF ns (g + 1) n (mk t) = true := by
  rw [fitsF, partsS_mk h]
  show (if (nd ns n).kind < 0 then _ else if (nd ns n).kind ≠ (nd ns n).kind then false else if (nd ns n).kind = 2 then decide (((ps.map mk).getD 0 ByteArray.empty).size ≤ 16) else if (nd ns n).kind = 3 then _ else if (nd ns n).kind = 4 then _ else true) = true
  rw [if_neg (by omega), if_neg (fun c => c rfl)]
  by_cases e : (nd ns n).kind = 2
  · rw [if_pos e, decide_eq_true_eq]
    obtain ⟨h3, h4⟩ := h2 e
    cases ps with
    | nil => exact absurd rfl h4
    | cons q ps =>
      rw [List.getD_cons_zero] at h3
      rw [List.map_cons, List.getD_cons_zero, ← bl_length]
      unfold mk
      rw [bl_mk]
      exact h3
  · rw [if_neg e, if_neg (by omega), if_neg (by omega)]
theorem fits_list {ns : List Nd} {g n : Nat} {vs : List (List UInt8)} (hk : (nd ns n).kind = 3) (hp : partsM (listM vs) = some (3, vs)) (h64 : vs.length ≤ 64) (hv : ∀ v ∈ vs, fitsF ns g (kAt ns n 0) (mk v) = true) : fitsF ns (g + 1) n (mk (listM vs)) = true := by
  rw [fitsF, partsS_mk hp]
  show (if (3 : Int) < 0 then _ else if (3 : Int) ≠ (nd ns n).kind then false else if (3 : Int) = 2 then _ else if (3 : Int) = 3 then decide ((vs.map mk).length ≤ 64) && (vs.map mk).all (fitsF ns g ((kids ns n).getD 0 0)) else _) = true
  rw [if_neg (by decide), if_neg (fun c => c hk.symm), if_neg (by decide), if_pos rfl, Bool.and_eq_true, decide_eq_true_eq, List.all_eq_true]
  refine ⟨by rw [List.length_map]; exact h64, fun x hx => ?_⟩
  obtain ⟨v, hv', rfl⟩ := List.mem_map.1 hx
  exact hv v hv'
theorem fits_struct {ns : List Nd} {g n : Nat} {r : Nat → List UInt8} (hk : (nd ns n).kind = 4) (hp : partsM (structM ((List.range (kids ns n).length).map r)) = some (4, (List.range (kids ns n).length).map r)) (hv : ∀ i, i < (kids ns n).length → fitsF ns g (kAt ns n i) (mk (r i)) = true) : fitsF ns (g + 1) n (mk (structM ((List.range (kids ns n).length).map r))) = true := by
  rw [fitsF, partsS_mk hp]
  generalize hvs : (List.range (kids ns n).length).map r = vs
  have hl : vs.length = (kids ns n).length := by rw [← hvs]; simp
  have hat : ∀ i, i < (kids ns n).length → vs[i]? = some (r i) := by
    intro i hi
    rw [← hvs, List.getElem?_map, List.getElem?_range hi]
    rfl
  show (if (4 : Int) < 0 then _ else if (4 : Int) ≠ (nd ns n).kind then false else if (4 : Int) = 2 then _ else if (4 : Int) = 3 then _ else if (4 : Int) = 4 then decide ((vs.map mk).length = (kids ns n).length) && ((kids ns n).zip (vs.map mk)).all (fun q => fitsF ns g q.1 q.2) else true) = true
  rw [if_neg (by decide), if_neg (fun c => c hk.symm), if_neg (by decide), if_neg (by decide), if_pos rfl, Bool.and_eq_true, decide_eq_true_eq, List.all_eq_true]
  refine ⟨by rw [List.length_map]; exact hl, fun x hx => ?_⟩
  obtain ⟨i, hi⟩ := List.getElem?_of_mem hx
  rw [List.getElem?_zip_eq_some] at hi
  obtain ⟨h1, h2⟩ := hi
  have hlt : i < (kids ns n).length := (List.getElem?_eq_some_iff.1 h1).1
  rw [List.getElem?_map, hat i hlt] at h2
  have e1 : x.1 = kAt ns n i := by
    unfold kAt
    rw [List.getD_eq_getElem?_getD, h1]
    rfl
  have e2 : x.2 = mk (r i) := by
    injection h2 with h2
    exact h2.symm
  rw [e1, e2]
  exact hv i hlt
end Go.Proofs.YtcpfhfdgfcilaaaGreatDoor.Arr
