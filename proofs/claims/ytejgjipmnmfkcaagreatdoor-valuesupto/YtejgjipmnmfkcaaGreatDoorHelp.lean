/-
  What the laws' own helpers compute: Num, SameInts, SpoilInts, SameNodes, CopyType: contracts.
-/
import Derived.Test.YtejgjipmnmfkcaaGreatDoorRows
import Derived.Test.YtejgjipmnmfkcaaGreatDoorTree
import Derived.Test.YtejgjipmnmfkcaaGreatDoorOpen
import Derived.Test.YtejgjipmnmfkcaaGreatDoorMem
import Derived.Test.YtejgjipmnmfkcaaGreatDoorMay
import Derived.Test.YtejgjipmnmfkcaaGreatDoorPro
import Derived.Test.YtejgjipmnmfkcaaGreatDoorRefMay
import Derived.Test.YtejgjipmnmfkcaaGreatDoorLev
import Derived.WalkKit
import Derived.ProofKit
import Derived.OpenShut
import Derived.Below
import Derived.RegionTactic
import Derived.ChangeAlike
import Derived.OwnWalk
import Derived.Deep.QuietTactic
import Derived.BigQuiet
import Derived.WalkSmall
namespace Go.Proofs.YtejgjipmnmfkcaaGreatDoor.Tree
open Go.ChangeShapes Go.WideShapes Go.ChangeAt Go.RowKit

theorem num (e : Int) (w : World) : Calls Tryz.prog 9 #[.int .i64 e] w fun r w' => r = .returned (.int .i64 e) ∧ w' = w := by
  go_enter Tryz.func9, Tryz.ntmps9
  go_wp2
  go_ret
  exact ⟨rfl, rfl⟩
/-- Ints that can be read and written. -/
def IsI (w : World) (b : Nat) (o : Option Addr) (p : List Nat) : Prop := p = [] ∨ ∃ g, o = some ⟨g, 0, none⟩ ∧ b ≤ g ∧ Row w g p.length (fun i => p.getD i 0)
theorem own_ints {w : World} {b c : Nat} {o : Option Addr} {p : List Nat} (h : w.ownsRow b 3 1 (.slice o p.length c) p.length (ints p)) : IsI w b o p := by
  rcases h.2 with ⟨_, h1⟩ | ⟨g, cap, cur, h0, hg, _⟩
  · exact .inl (List.eq_nil_of_length_eq_zero h1)
  · injection h0 with h2 h3 h4
    subst h2 h4
    refine .inr ⟨g, rfl, hg, fun i hi => ?_, fun i _ => h.frozenAt i⟩
    rw [h.cellAt i (by omega)]
    simp [ints, hi]
theorem IsI.later {w w' : World} {b : Nat} {o : Option Addr} {p : List Nat} (h : IsI w b o p) (hb : Below w.heap.size w w') : IsI w' b o p :=
  h.imp id fun ⟨g, e, hg, hr⟩ => ⟨g, e, hg, hr.later hb⟩
/-- So many ints at the head of block g, the first k of them written over. -/
def spoilF (p : List Nat) (k i : Nat) : Int := if i < k then -9 - ((p.getD i 0 : Nat) : Int) else ((p.getD i 0 : Nat) : Int)
structure RowZ (w : World) (g L : Nat) (f : Nat → Int) : Prop where
  cell : ∀ i, i < L → w.cell? ⟨g, i, none⟩ = some (.int .i64 (f i))
  free : ∀ i, i < L → w.frozen? ⟨g, i, none⟩ = false
theorem RowZ.set {w : World} {g L : Nat} {f : Nat → Int} (h : RowZ w g L f) (j : Nat) (hj : j < L) (v : Int) : RowZ (w.setCell ⟨g, j, none⟩ (.int .i64 v)) g L (fun i => if i = j then v else f i) := by
  constructor
  · intro i hi
    by_cases e : i = j
    · subst e
      rw [World.cell?_setCell_same _ _ _ (h.cell i hi), if_pos rfl]
    · rw [World.cell?_setCell_other _ _ _ _ (by intro c; exact e (by injection c with _ c2; exact c2.symm)), h.cell i hi, if_neg e]
  · intro i hi
    rw [World.frozen?_setCell]
    exact h.free i hi
theorem RowZ.as {w : World} {g L : Nat} {f f' : Nat → Int} (h : RowZ w g L f) (e : ∀ i, i < L → f i = f' i) : RowZ w g L f' :=
  ⟨fun i hi => by rw [h.cell i hi, e i hi], h.free⟩
theorem spoilF_step (p : List Nat) (k i : Nat) : spoilF p (k + 1) i = if i = k then -9 - ((p.getD k 0 : Nat) : Int) else spoilF p k i := by
  unfold spoilF
  by_cases e : i = k
  · subst e; rw [if_pos (by omega), if_pos rfl]
  · rw [if_neg e]
    by_cases c : i < k
    · rw [if_pos (by omega), if_pos c]
    · rw [if_neg (by omega), if_neg c]
set_option maxRecDepth 20000 in
set_option maxHeartbeats 800000 in
theorem sameNodes (o o' : Option Addr) (c c' : Nat) (l : List Nd) (w : World) (h : IsT w o l) (h' : IsT w o' l) :
    Calls Tryz.prog 43 #[.slice o l.length c, .slice o' l.length c'] w fun r w' => r = .returned (.bool true) ∧ Below w.heap.size w w' := by
  have hlen := h.1
  unfold maxLen at hlen
  by_cases h1 : 1 ≤ l.length
  · obtain ⟨x, rfl, hx⟩ := h.some h1
    obtain ⟨y, rfl, hy⟩ := h'.some h1
    clear h h'
    go_enter Tryz.func43, Tryz.ntmps43
    go_wp2_with fail
    go_loopw [5] (fun t wr => ∃ k : Nat, k ≤ l.length ∧ t = .int .i64 (k : Int) ∧ Below w.heap.size w wr) (fun t _ => l.length - (intOf t).toNat)
    case atStart => exact ⟨0, Nat.zero_le _, rfl, Below.refl _ _⟩
    case round =>
      obtain ⟨k, hk, rfl, hbl⟩ := hrel
      by_cases hlt : k < l.length
      · have a1 := (hx.later hbl).kind' k hlt
        have a2 := (hx.later hbl).par' k hlt
        have a3 := (hx.later hbl).null' k hlt
        have b1 := (hy.later hbl).kind' k hlt
        have b2 := (hy.later hbl).par' k hlt
        have b3 := (hy.later hbl).null' k hlt
        generalize nd l k = n at *
        go_wp2
        go_quiet (fail)
        go_wp2
        go_roundw
        case rel => exact ⟨k + 1, by omega, by go_num, below_drewN hbl _⟩
        case measure => simp [intOf]; omega
      · obtain rfl : k = l.length := by omega
        go_wp2
        go_ret
        exact ⟨rfl, hbl⟩
  · have h0 : l.length = 0 := by omega
    rw [h0]
    clear h h'
    go_enter Tryz.func43, Tryz.ntmps43
    go_wp2_with fail
    go_loopw [5] (fun t wr => t = .int .i64 0 ∧ Below w.heap.size w wr) (fun _ _ => 0)
    case atStart => exact ⟨rfl, Below.refl _ _⟩
    case round =>
      obtain ⟨rfl, hbl⟩ := hrel
      go_wp2
      go_ret
      exact ⟨rfl, hbl⟩
end Go.Proofs.YtejgjipmnmfkcaaGreatDoor.Tree
