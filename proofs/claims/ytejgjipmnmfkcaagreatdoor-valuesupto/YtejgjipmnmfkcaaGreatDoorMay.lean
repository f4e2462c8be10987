/-
  What types.May computes: its contract.
-/
import Derived.Test.YtejgjipmnmfkcaaGreatDoorRows
import Derived.Test.YtejgjipmnmfkcaaGreatDoorTree
import Derived.Test.YtejgjipmnmfkcaaGreatDoorOpen
import Derived.Test.YtejgjipmnmfkcaaGreatDoorMem
import Derived.Test.YtejgjipmnmfkcaaGreatDoorUp
import Derived.Test.YtejgjipmnmfkcaaGreatDoorWay
import Derived.Test.YtejgjipmnmfkcaaGreatDoorMayC
import Derived.WalkKit
import Derived.ProofKit
import Derived.OpenShut
import Derived.Below
import Derived.RegionTactic
import Derived.ChangeAlike
import Derived.OwnWalk
namespace Go.Proofs.YtejgjipmnmfkcaaGreatDoor.Tree
open Go.ChangeShapes Go.WideShapes Go.ChangeAt Go.RowKit

/-- A list of nodes that lies somewhere. -/
def IsT (w : World) (a : Option Addr) (l : List Nd) : Prop := l.length ≤ maxLen ∧ (l = [] ∨ ∃ x, a = some x ∧ Lies w x l)
theorem IsT.later {w wx : World} {a : Option Addr} {l : List Nd} (h : IsT w a l) (hb : Below w.heap.size w wx) : IsT wx a l :=
  ⟨h.1, h.2.imp id fun ⟨x, e, hl⟩ => ⟨x, e, hl.later hb⟩⟩
theorem IsT.some {w : World} {a : Option Addr} {l : List Nd} (h : IsT w a l) (h1 : 1 ≤ l.length) : ∃ x, a = some x ∧ Lies w x l := by
  rcases h.2 with rfl | h
  · simp at h1
  · exact h
def sizeB (l : List Nd) : Bool := decide (1 ≤ l.length ∧ l.length ≤ 8)
theorem hasSize (a : Option Addr) (cap : Nat) (l : List Nd) (w : World) (h : l.length ≤ maxLen) :
    Calls Tryz.prog 53 #[.agg #[.slice a l.length cap]] w fun r w' => r = .returned (.bool (sizeB l)) ∧ Below w.heap.size w w' := by
  unfold maxLen at h
  unfold sizeB
  by_cases h1 : 1 ≤ l.length
  · have h0 : 1 ≤ (l.length : Int) := by omega
    go_enter Tryz.func53, Tryz.ntmps53
    go_wp2
    go_ret
    exact ⟨ret_bool (by rw [Bool.eq_iff_iff]; simp; omega), (Below.refl _ _).alloc (Nat.le_refl _) _⟩
  · have h0 : ¬ (1 ≤ (l.length : Int)) := by omega
    go_enter Tryz.func53, Tryz.ntmps53
    go_wp2
    go_ret
    exact ⟨ret_bool (by rw [Bool.eq_iff_iff]), (Below.refl _ _).alloc (Nat.le_refl _) _⟩
theorem may_no_size {l : List Nd} (h : sizeB l = false) : may l = false := by
  rw [← may_eq]
  unfold mayP
  unfold sizeB at h
  rw [h]
  rfl
theorem may_size {l : List Nd} (h : sizeB l = true) : may l = (allTo (hangB l) l.length && allTo (many l) l.length) := by
  rw [← may_eq]
  unfold mayP
  unfold sizeB at h
  rw [h]
  rfl
set_option maxRecDepth 20000 in
set_option maxHeartbeats 1600000 in
theorem mayC (a : Option Addr) (cap : Nat) (l : List Nd) (w : World) (h : IsT w a l) :
    Calls Tryz.prog 37 #[.agg #[.slice a l.length cap]] w fun r w' => r = .returned (.bool (may l)) ∧ Below w.heap.size w w' := by
  have hlen := h.1
  cases hs : sizeB l
  · rw [may_no_size hs]
    have HS : Hid (sizeB l = false) := hs
    clear hs
    go_enter Tryz.func37, Tryz.ntmps37
    go_wp2_with fail
    refine (hasSize a cap l _ hlen).mono ?_
    rintro e w' ⟨rfl, hb⟩
    rw [HS.out]
    go_wp2
    go_ret
    exact ⟨rfl, bel ((Below.refl _ _).alloc (Nat.le_refl _) _) hb⟩
  · rw [may_size hs]
    have hsz := of_decide_eq_true hs
    obtain ⟨x, rfl, hl⟩ : ∃ x, a = some x ∧ Lies w x l := by
      rcases h.2 with rfl | h
      · simp at hsz
      · exact h
    obtain ⟨h1, h8⟩ := hsz
    have HS : Hid (sizeB l = true) := hs
    have HL : Hid (Lies w x l) := hl
    clear hs h hl
    cases hh : allTo (hangB l) l.length
    · rw [Bool.false_and]
      have HH : Hid (allTo (hangB l) l.length = false) := hh
      clear hh
      go_enter Tryz.func37, Tryz.ntmps37
      go_wp2_with fail
      obtain ⟨w1, e1, hs1, hc1, hb1⟩ := boxed w (.slice (some x) l.length cap) 25
      rw [e1]
      clear e1
      refine (hasSize _ cap l _ hlen).mono ?_
      rintro e w' ⟨rfl, hb⟩
      rw [HS.out]
      have hc2 := cell_later hb hc1
      go_wp2_with fail
      refine (one 55 (.inl rfl) w.heap.size (hangB l) x cap l h8 w' (HL.out.later (bel hb1 hb)) ?_).mono ?_
      · intro k v hk hu hbv
        exact may1 w.heap.size x cap l h8 (nd l k) k v (HL.out.later (bel (bel hb1 hb) hbv)) (cell_later hbv hc2) hk hu
      rintro e w2 ⟨rfl, hb2⟩
      rw [HH.out]
      go_wp2
      go_ret
      exact ⟨rfl, bel (bel hb1 hb) hb2⟩
    · rw [Bool.true_and]
      have h0 := (up_of_hang h1 (fun i hi => allTo_at hh hi)).first
      have HH : Hid (allTo (hangB l) l.length = true) := hh
      have H0 : Hid ((nd l 0).par = -1) := h0
      clear hh h0
      go_enter Tryz.func37, Tryz.ntmps37
      go_wp2_with fail
      obtain ⟨w1, e1, hs1, hc1, hb1⟩ := boxed w (.slice (some x) l.length cap) 25
      rw [e1]
      clear e1
      refine (hasSize _ cap l _ hlen).mono ?_
      rintro e w' ⟨rfl, hb⟩
      rw [HS.out]
      have hc2 := cell_later hb hc1
      go_wp2_with fail
      refine (one 55 (.inl rfl) w.heap.size (hangB l) x cap l h8 w' (HL.out.later (bel hb1 hb)) ?_).mono ?_
      · intro k v hk hu hbv
        exact may1 w.heap.size x cap l h8 (nd l k) k v (HL.out.later (bel (bel hb1 hb) hbv)) (cell_later hbv hc2) hk hu
      rintro e w2 ⟨rfl, hb2⟩
      rw [HH.out]
      have hc3 := cell_later hb2 hc2
      go_wp2_with fail
      refine (one 57 (.inr rfl) w.heap.size (many l) x cap l h8 w2 (HL.out.later (bel (bel hb1 hb) hb2)) ?_).mono ?_
      · intro k v _ _ hbv
        exact may2 w.heap.size x cap l h8 k v (HL.out.later (bel (bel (bel hb1 hb) hb2) hbv)) (cell_later hbv hc3) H0.out
      rintro e w3 ⟨rfl, hb3⟩
      go_wp2
      go_ret
      exact ⟨rfl, bel (bel (bel hb1 hb) hb2) hb3⟩
end Go.Proofs.YtejgjipmnmfkcaaGreatDoor.Tree
