/-
  What the functions of package types compute: contracts.
-/
import Derived.Test.YtejgjipmnmfkcaaGreatDoorRows
import Derived.Test.YtejgjipmnmfkcaaGreatDoorTree
import Derived.Test.YtejgjipmnmfkcaaGreatDoorOpen
import Derived.Test.YtejgjipmnmfkcaaGreatDoorMem
import Derived.Test.YtejgjipmnmfkcaaGreatDoorUp
import Derived.Test.YtejgjipmnmfkcaaGreatDoorWay
import Derived.Test.YtejgjipmnmfkcaaGreatDoorMay
import Derived.WalkKit
import Derived.ProofKit
import Derived.OpenShut
import Derived.Below
import Derived.RegionTactic
import Derived.ChangeAlike
import Derived.OwnWalk
namespace Go.Proofs.YtejgjipmnmfkcaaGreatDoor.Tree
open Go.ChangeShapes Go.WideShapes Go.ChangeAt Go.RowKit

/-- Is a a node of a type that may be? -/
def hasB (l : List Nd) (a : Int) : Bool := decide (0 ≤ a ∧ a < l.length) && may l
/-- The error that is told. -/
def errA (b : Bool) : Int := if b then 0 else 500
def kidsA (l : List Nd) (a : Int) : List Nat := if hasB l a then kids l a else []
def leavesA (l : List Nd) : List Nat := if may l then leaves l else []
def repA (l : List Nd) (a : Int) : Nat := if hasB l a then rep l a.toNat else 0
def dfnA (l : List Nd) (a : Int) : Nat := if hasB l a then dfn l a.toNat else 0
theorem has_of {l : List Nd} {a : Int} (h : hasB l a = true) : ∃ k : Nat, a = k ∧ k < l.length ∧ May l := by
  unfold hasB at h
  rw [Bool.and_eq_true, decide_eq_true_eq] at h
  exact ⟨a.toNat, by omega, by omega, may_of h.2⟩
theorem May.up {l : List Nd} (h : May l) {k : Nat} (hk : k < l.length) : Up l k := ⟨h.first, fun i h1 h2 => h.par i h1 (by omega)⟩
end Go.Proofs.YtejgjipmnmfkcaaGreatDoor.Tree
