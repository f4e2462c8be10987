/-
  What types.Levels computes: its contract.
-/
import Derived.Test.YtejgjipmnmfkcaaGreatDoorRows
import Derived.Test.YtejgjipmnmfkcaaGreatDoorTree
import Derived.Test.YtejgjipmnmfkcaaGreatDoorOpen
import Derived.Test.YtejgjipmnmfkcaaGreatDoorMem
import Derived.Test.YtejgjipmnmfkcaaGreatDoorUp
import Derived.Test.YtejgjipmnmfkcaaGreatDoorWay
import Derived.Test.YtejgjipmnmfkcaaGreatDoorMay
import Derived.Test.YtejgjipmnmfkcaaGreatDoorPro
import Derived.WalkKit
import Derived.ProofKit
import Derived.OpenShut
import Derived.Below
import Derived.RegionTactic
import Derived.ChangeAlike
import Derived.OwnWalk
namespace Go.Proofs.YtejgjipmnmfkcaaGreatDoor.Tree
open Go.ChangeShapes Go.WideShapes Go.ChangeAt Go.RowKit

theorem cellsN_at (p : List Nd) : ∀ i, i < p.length → (cellsN p)[i * 3]? = some (.int .i64 (nd p i).kind) ∧ (cellsN p)[i * 3 + 1]? = some (.int .i64 (nd p i).par) ∧ (cellsN p)[i * 3 + 2]? = some (.bool (nd p i).null) := by
  induction p with
  | nil => intro i hi; simp at hi
  | cons n p ih =>
    intro i hi
    cases i with
    | zero => exact ⟨rfl, rfl, rfl⟩
    | succ i =>
      have := ih i (by simpa using hi)
      have e : cellsN (n :: p) = .int .i64 n.kind :: .int .i64 n.par :: .bool n.null :: cellsN p := rfl
      rw [e, show (i + 1) * 3 = i * 3 + 3 from by omega]
      exact this
theorem length_cellsN (p : List Nd) : (cellsN p).length = p.length * 3 := by
  induction p with
  | nil => rfl
  | cons n p ih =>
    have e : cellsN (n :: p) = .int .i64 n.kind :: .int .i64 n.par :: .bool n.null :: cellsN p := rfl
    rw [e, List.length_cons, List.length_cons, List.length_cons, List.length_cons, ih]
    omega
theorem own_lies {w : World} {b c : Nat} {o : Option Addr} {p : List Nd} (h : w.ownsRow b 59 3 (.slice o p.length c) p.length (cellsN p)) : IsT w o p := by
  rcases h.2 with ⟨h0, h1⟩ | ⟨g, cap, cur, h0, _, _, hle, hm, _⟩
  · exact ⟨by rw [h1]; exact Nat.zero_le _, .inl (List.eq_nil_of_length_eq_zero h1)⟩
  · refine ⟨by omega, .inr ⟨⟨g, 0, none⟩, by injection h0, ?_⟩⟩
    injection h0 with h2 h3 h4
    subst h2 h4
    have hc : ∀ j u, (cellsN p)[j]? = some u → w.cell? ((⟨g, 0, none⟩ : Addr).add j) = some u := h.cells rfl
    exact ⟨fun i hi => hc _ _ (cellsN_at p i hi).1, fun i hi => hc _ _ (cellsN_at p i hi).2.1, fun i hi => hc _ _ (cellsN_at p i hi).2.2⟩
theorem take_snoc (p : List Nd) (k : Nat) (h : k < p.length) : p.take (k + 1) = p.take k ++ [nd p k] := by
  rw [List.take_succ_eq_append_getElem h]
  unfold nd
  rw [List.getD_eq_getElem?_getD, List.getElem?_eq_getElem h]
  rfl
theorem sumR_le (p : List Nd) : sumR p ≤ p.length := by
  induction p with
  | nil => exact Nat.le_refl _
  | cons n p ih => have := rep1_le n; simp [sumR]; omega
theorem sumN_le (p : List Nd) : sumN p ≤ p.length := by
  induction p with
  | nil => exact Nat.le_refl _
  | cons n p ih => have : nul1 n ≤ 1 := by { unfold nul1; split <;> omega }; simp [sumN]; omega
theorem step_R (p : List Nd) (k : Nat) (h : k < p.length) : sumR (p.take (k + 1)) = sumR (p.take k) + if (nd p k).kind = 3 then 1 else 0 := by
  rw [take_snoc p k h, sumR_app]; rfl
theorem step_N (p : List Nd) (k : Nat) (h : k < p.length) : sumN (p.take (k + 1)) = sumN (p.take k) + if (nd p k).null then 1 else 0 := by
  rw [take_snoc p k h, sumN_app]; rfl
theorem ret3_int {a b a' b' e : Int} (h : a = a') (h' : b = b') : Ending.returned (.tuple #[.int .i64 a, .int .i64 b, .int .i64 e]) = .returned (.tuple #[.int .i64 a', .int .i64 b', .int .i64 e]) := by rw [h, h']

end Go.Proofs.YtejgjipmnmfkcaaGreatDoor.Tree
