/-
  Digits read one by one, round the corner of 64 bits: plain facts.
-/
import Derived.WalkKit
import Derived.Test.YtejgjipmnmfkcaaGreatDoorDig
import Derived.Test.YtejgjipmnmfkcaaGreatDoorDigWalk
namespace Go.Proofs.YtejgjipmnmfkcaaGreatDoor.Val
open Go.RowKit

/-- What is read of digits up to a place, with the sign. -/
def evalW (l : List UInt8) (i : Nat) : Int := if l.getD 0 0 = 45 then - evalN ((l.drop 1).take (i - 1)) else evalN (l.take i)
theorem evalW_zero (l : List UInt8) : evalW l 0 = 0 := by
  unfold evalW
  split
  · simp [evalN_nil]
  · rw [List.take_zero, evalN_nil]
theorem evalW_one (l : List UInt8) (h : l.getD 0 0 = 45) : evalW l 1 = 0 := by
  unfold evalW
  rw [if_pos h]
  simp [evalN_nil]
theorem evalW_all (l : List UInt8) : evalW l l.length = evalZ l := by
  unfold evalW
  by_cases h : l.getD 0 0 = 45
  · rw [if_pos h]
    have hl : 0 < l.length := by
      cases l with
      | nil => exact absurd h (by decide)
      | cons b r => exact Nat.succ_pos _
    rw [evalZ_sign h hl, List.take_of_length_le (by rw [List.length_drop]; exact Nat.le_refl _)]
  · rw [if_neg h, evalZ_plain h, List.take_length]
theorem evalW_neg (l : List UInt8) (i : Nat) (h : l.getD 0 0 = 45) (h1 : 1 ≤ i) (hi : i < l.length) : evalW l (i + 1) = 10 * evalW l i - (((l.getD i 0).toNat : Int) - 48) := by
  unfold evalW
  rw [if_pos h, if_pos h]
  have hd : i - 1 < (l.drop 1).length := by rw [List.length_drop]; omega
  have := evalN_take_succ (l.drop 1) (i - 1) hd
  rw [show i + 1 - 1 = i - 1 + 1 from by omega, this]
  have e : (l.drop 1).getD (i - 1) 0 = l.getD i 0 := by
    rw [List.getD_eq_getElem?_getD, List.getElem?_drop, ← List.getD_eq_getElem?_getD, show 1 + (i - 1) = i from by omega]
  rw [e]
  omega
theorem evalW_pos (l : List UInt8) (i : Nat) (h : l.getD 0 0 ≠ 45) (hi : i < l.length) : evalW l (i + 1) = 10 * evalW l i + (((l.getD i 0).toNat : Int) - 48) := by
  unfold evalW
  rw [if_neg h, if_neg h]
  exact evalN_take_succ l i hi
/-- A number within 64 bits that is another round the corner. -/
def At64 (x e : Int) : Prop := in64 x ∧ (x - e) % 18446744073709551616 = 0
theorem At64.zero : At64 0 0 := ⟨⟨by omega, by omega⟩, rfl⟩
theorem At64.neg {x e d y f : Int} (h : At64 x e) (hy : y = wrap64 (wrap64 (10 * x) - d)) (hf : f = 10 * e - d) : At64 y f := by
  subst hy hf
  unfold At64 in64 wrap64 at *
  omega
theorem At64.pos {x e d y f : Int} (h : At64 x e) (hy : y = wrap64 (wrap64 (10 * x) + d)) (hf : f = 10 * e + d) : At64 y f := by
  subst hy hf
  unfold At64 in64 wrap64 at *
  omega
end Go.Proofs.YtejgjipmnmfkcaaGreatDoor.Val
