/-
  Several texts in one: Whether an array may be, behind its head: May: contract. · Whether an array may be: May, of any array: contract. · The document's own small questions of an array: bare, there, mayEnds: contracts. · What the document's own functions over types compute: contracts. · The document's plainMay: contract.
-/
import Derived.Test.YtcpfhfdgfcilaaaGreatDoorB08
import Derived.Test.YtcpfhfdgfcilaaaGreatDoorProg
import GoSem.Claim
import GoSem.ClaimJoined
import GoSem.ClaimMapViews
import Derived.JoinedTies
import Derived.KernelRfl
import Derived.RowKit
import Derived.Test.YtcpfhfdgfcilaaaGreatDoorB01
import Derived.Test.YtcpfhfdgfcilaaaGreatDoorB02
import Derived.WalkKit
import Derived.ProofKit
import Derived.OpenShut
import Derived.Below
import Derived.RegionTactic
import Derived.ChangeAlike
import Derived.OwnWalk
namespace Go.Proofs.YtcpfhfdgfcilaaaGreatDoor.Arr
open Go.ChangeShapes Go.WideShapes Go.ChangeAt Go.RowKit
open Tree Val

/-- An operation taken first, where its result lies told. -/
theorem take_at {P : Program} {ops : Array Oper} {Q : Exit → Act → World → Prop} {md : Region.Mode} {S : World → Prop} {i : Nat} {oi : Oper} {v : Value} {fuel : Nat} {listed : Array Bool} {a : Act} {w : World} {d : Option Nat} (hi : ops[i]? = some oi) (hd : oi.dst = d)
    (hs : Region.noSelect ops = true) (hf : Region.free md ops listed i = true) (hr : (Region.ready md ops listed).contains i = true)
    (hQ : ∀ c a w, Q (.panic c) (a.put oi.dst v) w → Q (.panic c) a w) (hy : YieldsIf P ops S oi v a) (hS : S w)
    (h : wpAnyH P md ops Q S fuel (listed.setIfInBounds i true) (a.put d v) w) : wpAnyH P md ops Q S (fuel + 1) listed a w := by
  subst hd
  exact wpAnyH_take hi hs hf hr hQ hy hS h
end Go.Proofs.YtcpfhfdgfcilaaaGreatDoor.Arr
namespace Go.Proofs.YtcpfhfdgfcilaaaGreatDoor.Arr
open Go.ChangeShapes Go.WideShapes Go.ChangeAt Go.RowKit
open Tree Val

end Go.Proofs.YtcpfhfdgfcilaaaGreatDoor.Arr
namespace Go.Proofs.YtcpfhfdgfcilaaaGreatDoor.Arr
open Go.ChangeShapes Go.WideShapes Go.ChangeAt Go.RowKit
open Tree Val

end Go.Proofs.YtcpfhfdgfcilaaaGreatDoor.Arr
namespace Go.Proofs.YtcpfhfdgfcilaaaGreatDoor.Tree
open Go.ChangeShapes Go.WideShapes Go.ChangeAt Go.RowKit

set_option maxRecDepth 20000 in
set_option maxHeartbeats 800000 in
theorem nodeMay (a : Option Addr) (cap : Nat) (l : List Nd) (i : Int) (w : World) (h : IsT w a l) :
    Calls Tryz.prog 51 #[.agg #[.slice a l.length cap], .int .i64 i] w fun r w' => r = .returned (.bool (hasB l i)) ∧ Below w.heap.size w w' := by
  have hlen := h.1
  unfold maxLen at hlen
  have hb : Below w.heap.size w (w.alloc (Obj.cells #[.slice a l.length cap] 24)) := (Below.refl _ _).alloc (Nat.le_refl _) _
  have hc : (w.alloc (Obj.cells #[.slice a l.length cap] 24)).cell? ⟨w.heap.size, 0, none⟩ = some (.slice a l.length cap) := by simp
  cases hm : may l
  · have HB : hasB l i = false := by unfold hasB; rw [hm, Bool.and_false]
    rw [HB]
    have HM : Hid (may l = false) := hm
    clear HB hm
    go_enter Tryz.func51, Tryz.ntmps51
    go_wp2_with fail
    refine (refMay a cap l _ (h.later hb)).mono ?_
    rintro e w' ⟨rfl, hb'⟩
    rw [HM.out]
    go_wp2
    go_ret
    exact ⟨rfl, bel hb hb'⟩
  · have HB : hasB l i = decide (0 ≤ i ∧ i < l.length) := by unfold hasB; rw [hm, Bool.and_true]
    rw [HB]
    have HM : Hid (may l = true) := hm
    clear HB hm
    by_cases h0 : 0 ≤ i
    · go_enter Tryz.func51, Tryz.ntmps51
      go_wp2_with fail
      refine (refMay a cap l _ (h.later hb)).mono ?_
      rintro e w' ⟨rfl, hb'⟩
      rw [HM.out]
      have hc2 := cell_later hb' hc
      go_wp2
      go_ret
      exact ⟨ret_bool (by simp [h0]), bel hb hb'⟩
    · rw [decide_eq_false (fun h => h0 h.1)]
      go_enter Tryz.func51, Tryz.ntmps51
      go_wp2_with fail
      refine (refMay a cap l _ (h.later hb)).mono ?_
      rintro e w' ⟨rfl, hb'⟩
      rw [HM.out]
      have hc2 := cell_later hb' hc
      go_wp2
      go_ret
      exact ⟨rfl, bel hb hb'⟩
set_option maxRecDepth 20000 in
set_option maxHeartbeats 800000 in
theorem kidsR (a : Option Addr) (cap : Nat) (l : List Nd) (i : Int) (w : World) (h : IsT w a l) :
    Calls Tryz.prog 83 #[.agg #[.slice a l.length cap], .int .i64 i] w fun r w' => ∃ o c, r = .returned (.tuple #[.slice o (kidsA l i).length c, .int .i64 (errA (hasB l i))]) ∧ w'.ownsRow w.heap.size 3 1 (.slice o (kidsA l i).length c) (kidsA l i).length (ints (kidsA l i)) ∧ Below w.heap.size w w' := by
  unfold kidsA errA
  have hb : Below w.heap.size w (w.alloc (Obj.cells #[.slice a l.length cap] 24)) := (Below.refl _ _).alloc (Nat.le_refl _) _
  have hc : (w.alloc (Obj.cells #[.slice a l.length cap] 24)).cell? ⟨w.heap.size, 0, none⟩ = some (.slice a l.length cap) := by simp
  cases hh : hasB l i
  · rw [if_neg (by simp), if_neg (by simp)]
    have HH : Hid (hasB l i = false) := hh
    clear hh
    go_enter Tryz.func83, Tryz.ntmps83
    go_wp2_with fail
    refine (nodeMay a cap l i _ (h.later hb)).mono ?_
    rintro e w' ⟨rfl, hb'⟩
    rw [HH.out]
    go_wp2
    go_ret2
    exact ⟨none, 0, rfl, World.ownsRow_nil _ _ _ _, bel hb hb'⟩
  · rw [if_pos rfl, if_pos rfl]
    obtain ⟨k, rfl, hk, hm⟩ := has_of hh
    have HH : Hid (hasB l k = true) := hh
    have HM : Hid (May l) := hm
    clear hh hm
    obtain ⟨x, rfl, hl⟩ := h.some (by omega)
    go_enter Tryz.func83, Tryz.ntmps83
    go_wp2_with fail
    refine (nodeMay _ cap l k _ (h.later hb)).mono ?_
    rintro e w' ⟨rfl, hb'⟩
    rw [HH.out]
    have hc2 := cell_later hb' hc
    go_wp2_with fail
    refine (refKids x cap l HM.out.one HM.out.most k _ (hl.later (bel hb hb'))).mono ?_
    rintro e w3 ⟨o, c, rfl, hown, hb3⟩
    go_wp2
    go_ret2
    exact ⟨o, c, rfl, own_mono hown (bel hb hb').size, bel (bel hb hb') hb3⟩
/-- What has been counted on the way from a up, when z is asked next. -/
def LevInv (l : List Nd) (a r d : Nat) (z : Int) : Prop :=
  (z = -1 ∧ r = rep l a ∧ d = dfn l a) ∨ ∃ k : Nat, k ≤ a ∧ z = k ∧ r + rep l k = rep l a ∧ d + dfn l k = dfn l a
theorem LevInv.start (l : List Nd) (a : Nat) : LevInv l a 0 0 a := .inr ⟨a, Nat.le_refl _, rfl, by omega, by omega⟩
theorem LevInv.more {l : List Nd} {a k r d : Nat} (hu : Up l a) (h : LevInv l a r d k) : k ≤ a ∧ LevInv l a (r + rep1 (nd l k)) (d + def1 (nd l k)) (nd l k).par ∧ -1 ≤ (nd l k).par ∧ (nd l k).par < k ∧ r ≤ rep l a ∧ d ≤ dfn l a := by
  rcases h with h | ⟨k', h1, h2, h4, h5⟩
  · omega
  obtain rfl : k = k' := by omega
  refine ⟨h1, ?_, ?_⟩
  · by_cases e : k = 0
    · subst e
      rw [rep_first] at h4
      rw [dfn_first] at h5
      exact .inl ⟨hu.first, h4, h5⟩
    · have hp := hu.par k (by omega) h1
      rw [hu.rep_up (by omega) h1] at h4
      rw [hu.dfn_up (by omega) h1] at h5
      exact .inr ⟨(nd l k).par.toNat, by omega, by omega, by omega, by omega⟩
  · by_cases e : k = 0
    · subst e; rw [hu.first]; omega
    · have hp := hu.par k (by omega) h1
      omega
theorem LevInv.done {l : List Nd} {a r d : Nat} {z : Int} (h : LevInv l a r d z) (hz : z < 0) : r = rep l a ∧ d = dfn l a := by
  rcases h with h | ⟨k', h1, h2, h3, h4⟩
  · exact h.2
  · omega
end Go.Proofs.YtcpfhfdgfcilaaaGreatDoor.Tree
namespace Go.Proofs.YtcpfhfdgfcilaaaGreatDoor.Arr
open Go.ChangeShapes Go.WideShapes Go.ChangeAt Go.RowKit
open Tree Val

end Go.Proofs.YtcpfhfdgfcilaaaGreatDoor.Arr
