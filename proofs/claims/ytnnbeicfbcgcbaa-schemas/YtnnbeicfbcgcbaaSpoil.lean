/-
  What the law's own helpers SpoilNodes, SpoilType do: nothing to what stood below.
-/
import Derived.Test.YtnnbeicfbcgcbaaRows
import Derived.Test.YtnnbeicfbcgcbaaTree
import Derived.Test.YtnnbeicfbcgcbaaOpen
import Derived.Test.YtnnbeicfbcgcbaaMem
import Derived.Test.YtnnbeicfbcgcbaaMay
import Derived.Test.YtnnbeicfbcgcbaaLev
import Derived.Test.YtnnbeicfbcgcbaaHelp
import Derived.Test.YtnnbeicfbcgcbaaCopy
import Derived.WalkKit
import Derived.ProofKit
import Derived.OpenShut
import Derived.Below
import Derived.RegionTactic
import Derived.ChangeAlike
import Derived.OwnWalk
import Derived.Laws.OwnMore
namespace Go.Proofs.Ytnnbeicfbcgcbaa.Tree
open Go.ChangeShapes Go.WideShapes Go.ChangeAt Go.RowKit

/-- So many nodes at the head of block g, whose kinds are ints and may be written. -/
structure RowK (w : World) (g L : Nat) : Prop where
  cell : ∀ i, i < L → ∃ z, w.cell? ⟨g, i * 3, none⟩ = some (.int .i64 z)
  free : ∀ i, i < L → w.frozen? ⟨g, i * 3, none⟩ = false
theorem RowK.set {w : World} {g L : Nat} (h : RowK w g L) (j : Nat) (hj : j < L) (v : Int) : RowK (w.setCell ⟨g, j * 3, none⟩ (.int .i64 v)) g L := by
  constructor
  · intro i hi
    by_cases e : i = j
    · subst e
      obtain ⟨z, hz⟩ := h.cell i hi
      exact ⟨v, World.cell?_setCell_same _ _ _ hz⟩
    · rw [World.cell?_setCell_other _ _ _ _ (by intro c; apply e; injection c with _ c2; omega)]
      exact h.cell i hi
  · intro i hi
    rw [World.frozen?_setCell]
    exact h.free i hi
set_option maxRecDepth 20000 in
set_option maxHeartbeats 800000 in
theorem spoilNodes (o : Option Addr) (c b : Nat) (l : List Nd) (w : World) (h8 : l.length ≤ 8) (h : w.ownsRow b 41 3 (.slice o l.length c) l.length (cellsN l)) :
    Calls Try.prog 22 #[.slice o l.length c] w fun r w' => r = .returned (.tuple #[]) ∧ Below b w w' := by
  rcases h.2 with ⟨_, h0⟩ | ⟨g, cap, cur, h0, hg, _⟩
  · clear h
    rw [h0]
    go_enter Try.func22, Try.ntmps22
    go_wp2_with fail
    go_loopw [2] (fun t wr => t = .int .i64 0 ∧ wr = w) (fun _ _ => 0)
    case atStart => exact ⟨rfl, rfl⟩
    case round =>
      obtain ⟨rfl, rfl⟩ := hrel
      go_wp2
      go_end0
      exact ⟨rfl, Below.refl _ _⟩
  · injection h0 with h2 h3 h4
    subst h2 h4
    have hz : RowK w g l.length := by
      refine ⟨fun i hi => ⟨(nd l i).kind, ?_⟩, fun i _ => h.frozenAt _⟩
      · rw [h.cellAt (i * 3) (by omega)]
        exact (cellsN_at l i hi).1
    clear h
    go_enter Try.func22, Try.ntmps22
    go_wp2_with fail
    go_loopw [2] (fun t wr => ∃ k : Nat, k ≤ l.length ∧ t = .int .i64 (k : Int) ∧ RowK wr g l.length ∧ Below b w wr) (fun t _ => l.length - (intOf t).toNat)
    case atStart => exact ⟨0, Nat.zero_le _, rfl, hz, Below.refl _ _⟩
    case round =>
      obtain ⟨k, hk, rfl, hrow, hbl⟩ := hrel
      clear hz
      by_cases hlt : k < l.length
      · obtain ⟨z, c1⟩ := hrow.cell k hlt
        have f1 := hrow.free k hlt
        have HR : Hid (RowK wr g l.length) := hrow
        clear hrow
        go_wp2
        go_roundw
        case rel => exact ⟨k + 1, by omega, by go_num, HR.out.set k hlt _, hbl.setCell hg _⟩
        case measure => simp [intOf]; omega
      · obtain rfl : k = l.length := by omega
        go_wp2
        go_end0
        exact ⟨rfl, hbl⟩
set_option maxRecDepth 20000 in
set_option maxHeartbeats 800000 in
theorem spoilType (o : Option Addr) (c b : Nat) (l : List Nd) (w : World) (h8 : l.length ≤ 8) (hb : b ≤ w.heap.size) (h : w.ownsRow b 41 3 (.slice o l.length c) l.length (cellsN l)) :
    Calls Try.prog 15 #[.agg #[.slice o l.length c]] w fun r w' => r = .returned (.tuple #[]) ∧ Below b w w' := by
  have hB : Below b w (w.alloc (Obj.cells #[.slice o l.length c] 24)) := (Below.refl _ _).alloc hb _
  go_enter Try.func15, Try.ntmps15
  go_wp2_with fail
  refine (spoilNodes o c b l _ h8 (h.alloc _)).mono ?_
  rintro e w' ⟨rfl, hb'⟩
  go_wp2
  go_end0
  exact ⟨rfl, hB.trans hb'⟩
end Go.Proofs.Ytnnbeicfbcgcbaa.Tree
