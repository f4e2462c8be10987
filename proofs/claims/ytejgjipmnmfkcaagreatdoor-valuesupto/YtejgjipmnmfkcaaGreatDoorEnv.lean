/-
  What the laws over types are told of the type that came in; bounds of what is answered.
-/
import Derived.Test.YtejgjipmnmfkcaaGreatDoorRows
import Derived.Test.YtejgjipmnmfkcaaGreatDoorTree
import Derived.Test.YtejgjipmnmfkcaaGreatDoorOpen
import Derived.Test.YtejgjipmnmfkcaaGreatDoorMem
import Derived.Test.YtejgjipmnmfkcaaGreatDoorMay
import Derived.Test.YtejgjipmnmfkcaaGreatDoorPro
import Derived.Test.YtejgjipmnmfkcaaGreatDoorLev
import Derived.Test.YtejgjipmnmfkcaaGreatDoorHelp
import Derived.Test.YtejgjipmnmfkcaaGreatDoorCopy
import Derived.WalkKit
import Derived.ProofKit
import Derived.OpenShut
import Derived.Below
import Derived.OwnWalk
namespace Go.Proofs.YtejgjipmnmfkcaaGreatDoor.Tree
open Go.ChangeShapes Go.WideShapes Go.ChangeAt Go.RowKit

theorem getD_take (z : List Nd) (n i : Nat) (h : i < n) : (z.take n).getD i ⟨0, 0, false⟩ = z.getD i ⟨0, 0, false⟩ := by
  rw [List.getD_eq_getElem?_getD, List.getD_eq_getElem?_getD, List.getElem?_take, if_pos h]
theorem isT_of {w : World} {a : Option Addr} {len cap : Nat} {z : List Nd} (h : IsNodes w a len cap z) : ∃ l : List Nd, len = l.length ∧ IsT w a l ∧ l.length ≤ cap ∧ (a = none ∧ l = [] ∧ cap = 0 ∨ ∃ x, a = some x ∧ Lies w x l) := by
  rcases h with ⟨rfl, rfl, rfl, rfl⟩ | ⟨x, rfl, hlc, hm, hz, hl, _⟩
  · exact ⟨[], rfl, ⟨Nat.zero_le _, .inl rfl⟩, Nat.le_refl _, .inl ⟨rfl, rfl, rfl⟩⟩
  · have hlen : (z.take len).length = len := by rw [List.length_take]; omega
    have hl' : Lies w x (z.take len) := by
      refine ⟨fun i hi => ?_, fun i hi => ?_, fun i hi => ?_⟩
      · rw [getD_take _ _ _ (by omega)]; exact hl.kind i (by omega)
      · rw [getD_take _ _ _ (by omega)]; exact hl.par i (by omega)
      · rw [getD_take _ _ _ (by omega)]; exact hl.null i (by omega)
    exact ⟨z.take len, hlen.symm, ⟨by omega, .inr ⟨x, rfl, hl'⟩⟩, by omega, .inr ⟨x, rfl, hl'⟩⟩
theorem getD_mem {p : List Nat} {b : Nat} (h : ∀ j ∈ p, j ≤ b) (i : Nat) : p.getD i 0 ≤ b := by
  rw [List.getD_eq_getElem?_getD]
  cases e : p[i]? with
  | none => exact Nat.zero_le _
  | some v => exact h v (List.mem_of_getElem? e)
theorem kidsA_le (l : List Nd) (i : Int) : (kidsA l i).length ≤ 8 ∧ ∀ j, (kidsA l i).getD j 0 ≤ 8 := by
  unfold kidsA
  cases h : hasB l i
  · rw [if_neg (by simp)]; exact ⟨Nat.zero_le _, fun j => Nat.zero_le _⟩
  · rw [if_pos rfl]
    obtain ⟨k, rfl, hk, hm⟩ := has_of h
    have h8 := hm.most
    refine ⟨Nat.le_trans (length_kidsTo l k l.length) h8, fun j => getD_mem (fun y hy => ?_) j⟩
    have := (mem_kidsTo l k l.length y).1 hy
    omega
theorem leavesA_le (l : List Nd) : (leavesA l).length ≤ 8 ∧ ∀ j, (leavesA l).getD j 0 ≤ 8 := by
  unfold leavesA
  cases h : may l
  · rw [if_neg (by simp)]; exact ⟨Nat.zero_le _, fun j => Nat.zero_le _⟩
  · rw [if_pos rfl]
    have h8 := (may_of h).most
    refine ⟨Nat.le_trans (length_leavesTo l l.length) h8, fun j => getD_mem (fun y hy => ?_) j⟩
    have := (mem_leavesTo l l.length y).1 hy
    omega
/-- A copy of a type that came in. -/
theorem copyA {w : World} {a : Option Addr} {cap : Nat} {l : List Nd} (h : a = none ∧ l = [] ∧ cap = 0 ∨ ∃ x, a = some x ∧ Lies w x l) (hlen : l.length * 24 ≤ 140737488355328) :
    Calls Tryz.prog 5 #[.agg #[.slice a l.length cap]] w fun r w' => ∃ o c, r = .returned (.agg #[.slice o l.length c]) ∧ IsT w' o l ∧ Below w.heap.size w w' := by
  rcases h with ⟨rfl, rfl, rfl⟩ | ⟨x, rfl, hl⟩
  · refine (copyNil w).mono ?_
    rintro r w' ⟨o, c, rfl, _, hb⟩
    exact ⟨o, c, rfl, ⟨Nat.zero_le _, .inl rfl⟩, hb⟩
  · refine (copyT x cap l w hl hlen).mono ?_
    rintro r w' ⟨o, c, rfl, hown, hb⟩
    exact ⟨o, c, rfl, own_lies hown, hb⟩
end Go.Proofs.YtejgjipmnmfkcaaGreatDoor.Tree
