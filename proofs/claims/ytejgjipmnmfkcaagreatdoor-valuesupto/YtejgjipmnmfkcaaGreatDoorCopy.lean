/-
  What the laws' own helpers compute: SameType, CopyType: contracts.
-/
import Derived.Test.YtejgjipmnmfkcaaGreatDoorRows
import Derived.Test.YtejgjipmnmfkcaaGreatDoorTree
import Derived.Test.YtejgjipmnmfkcaaGreatDoorOpen
import Derived.Test.YtejgjipmnmfkcaaGreatDoorMem
import Derived.Test.YtejgjipmnmfkcaaGreatDoorMay
import Derived.Test.YtejgjipmnmfkcaaGreatDoorLev
import Derived.Test.YtejgjipmnmfkcaaGreatDoorHelp
import Derived.WalkKit
import Derived.ProofKit
import Derived.OpenShut
import Derived.Below
import Derived.RegionTactic
import Derived.ChangeAlike
import Derived.OwnWalk
import Derived.Laws.OwnMore
import Derived.Laws.AppendOwnNone
namespace Go.Proofs.YtejgjipmnmfkcaaGreatDoor.Tree
open Go.ChangeShapes Go.WideShapes Go.ChangeAt Go.RowKit

theorem sameType (o o' : Option Addr) (c c' : Nat) (l : List Nd) (w : World) (h : IsT w o l) (h' : IsT w o' l) :
    Calls Tryz.prog 25 #[.agg #[.slice o l.length c], .agg #[.slice o' l.length c']] w fun r w' => r = .returned (.bool true) ∧ Below w.heap.size w w' := by
  have hb : Below w.heap.size w ((w.alloc (Obj.cells #[.slice o l.length c] 25)).alloc (Obj.cells #[.slice o' l.length c'] 25)) := ((Below.refl _ _).alloc (Nat.le_refl _) _).alloc (by simp) _
  go_enter Tryz.func25, Tryz.ntmps25
  go_wp2_with fail
  refine (sameNodes o o' c c' l _ (h.later hb) (h'.later hb)).mono ?_
  rintro e w' ⟨rfl, hb'⟩
  go_wp2
  go_ret
  exact ⟨rfl, bel hb hb'⟩
theorem lies_cells {w : World} {x : Addr} {l : List Nd} (h : Lies w x l) (j : Nat) (u : Value) (hj : (cellsN l)[j]? = some u) : w.cell? (x.add j) = some u := by
  have hlt : j < l.length * 3 := by
    rw [← length_cellsN]
    exact (List.getElem?_eq_some_iff.1 hj).1
  obtain ⟨a1, a2, a3⟩ := cellsN_at l (j / 3) (by omega)
  have h3 : j % 3 = 0 ∨ j % 3 = 1 ∨ j % 3 = 2 := by omega
  rcases h3 with e | e | e
  · have ej : j = j / 3 * 3 := by omega
    rw [ej] at hj ⊢
    rw [a1] at hj
    cases hj
    exact h.kind _ (by omega)
  · have ej : j = j / 3 * 3 + 1 := by omega
    rw [ej] at hj ⊢
    rw [a2] at hj
    cases hj
    exact h.par _ (by omega)
  · have ej : j = j / 3 * 3 + 2 := by omega
    rw [ej] at hj ⊢
    rw [a3] at hj
    cases hj
    exact h.null _ (by omega)
theorem cellsN_one (l : List Nd) : ∀ u ∈ cellsN l, u.oneCell' = true := by
  intro u hu
  simp [cellsN] at hu
  obtain ⟨n, _, rfl | rfl | rfl⟩ := hu <;> rfl

/-- A cell that was laid down, and may be written, with one more block behind it. -/
theorem laid2 (X : World) (n : Nat) (hn : X.heap.size = n) (v : Value) (t : TypeId) (o : Obj) : ((X.alloc (.cells #[v] t)).alloc o).cell? ⟨n, 0, none⟩ = some v ∧ ((X.alloc (.cells #[v] t)).alloc o).frozen? ⟨n, 0, none⟩ = false := by
  subst hn
  have hb : Below (X.alloc (.cells #[v] t)).heap.size (X.alloc (.cells #[v] t)) ((X.alloc (.cells #[v] t)).alloc o) := (Below.refl _ _).alloc (Nat.le_refl _) _
  have hlt : X.heap.size < (X.alloc (.cells #[v] t)).heap.size := by simp
  constructor
  · rw [hb.cell (p := ⟨X.heap.size, 0, none⟩) hlt]; simp
  · rw [hb.frozen (p := ⟨X.heap.size, 0, none⟩) hlt]; simp
set_option maxRecDepth 20000 in
set_option maxHeartbeats 800000 in
theorem copyT (x : Addr) (cap : Nat) (l : List Nd) (w : World) (hl : Lies w x l) (hlen : l.length * 24 ≤ 140737488355328) :
    Calls Tryz.prog 5 #[.agg #[.slice (some x) l.length cap]] w fun r w' => ∃ o c, r = .returned (.agg #[.slice o l.length c]) ∧ w'.ownsRow w.heap.size 59 3 (.slice o l.length c) l.length (cellsN l) ∧ Below w.heap.size w w' := by
  obtain ⟨i46, hi, hz0, hz1, hz2⟩ := info_parts info46
  go_enter Tryz.func5, Tryz.ntmps5
  have hb3 : Below w.heap.size w (((w.alloc (Obj.cells #[.slice (some x) l.length cap] 25)).alloc (Obj.cells #[.slice none 0 0] 25)).alloc (Obj.cells #[] 59)) := (((Below.refl _ _).alloc (Nat.le_refl _) _).alloc (by simp) _).alloc (by simp; omega) _
  have hcr : (((w.alloc (Obj.cells #[.slice (some x) l.length cap] 25)).alloc (Obj.cells #[.slice none 0 0] 25)).alloc (Obj.cells #[] 59)).cell? ⟨w.heap.size + 1, 0, none⟩ = some (.slice none 0 0) := (laid2 _ _ (by simp) _ _ _).1
  have hfr : (((w.alloc (Obj.cells #[.slice (some x) l.length cap] 25)).alloc (Obj.cells #[.slice none 0 0] 25)).alloc (Obj.cells #[] 59)).frozen? ⟨w.heap.size + 1, 0, none⟩ = false := (laid2 _ _ (by simp) _ _ _).2
  have hown0 : (((w.alloc (Obj.cells #[.slice (some x) l.length cap] 25)).alloc (Obj.cells #[.slice none 0 0] 25)).alloc (Obj.cells #[] 59)).ownsRow (w.heap.size + 1 + 1) 59 3 (.slice (some ⟨w.heap.size + 1 + 1, 0, none⟩) 0 0) 0 [] := by
    have := World.ownsRow_lit (base := w.heap.size + 1 + 1) (e := 59) (size := 3) ((w.alloc (Obj.cells #[.slice (some x) l.length cap] 25)).alloc (Obj.cells #[.slice none 0 0] 25)) #[] 0 (by simp) (Nat.zero_le _) rfl
    simpa using this
  go_wp2_with (at_builtin; refine wpList_append_own _ rfl (.tmp 3) (.tmp 5) 23 rfl (w.heap.size + 1 + 1) 59 i46 (.agg #[.int .i64 0, .int .i64 0, .bool false]) 3 24 Tryz.underlying23 hi hz0 hz1 hz2 rfl (by decide) _ 0 _ rfl hown0 x l.length cap (cellsN l) rfl (length_cellsN l) ?c1 (cellsN_one l) ?c3 ?c4 ?c5 ?_)
  case c1 => exact lies_cells (hl.later hb3)
  case c3 => unfold maxLen; omega
  case c4 => omega
  case c5 => simp
  intro v' w3 hown' hgrow _
  have hs3 : w.heap.size + 1 + 1 < (((w.alloc (Obj.cells #[.slice (some x) l.length cap] 25)).alloc (Obj.cells #[.slice none 0 0] 25)).alloc (Obj.cells #[] 59)).heap.size := by simp
  generalize (((w.alloc (Obj.cells #[.slice (some x) l.length cap] 25)).alloc (Obj.cells #[.slice none 0 0] 25)).alloc (Obj.cells #[] 59)) = w2 at *
  have hb4 : Below (w.heap.size + 1 + 1) w2 w3 := (Below.refl _ _).grown hgrow (by omega) (fun j hj => (hown0.lt j hj).1)
  have hc4 : w3.cell? ⟨w.heap.size + 1, 0, none⟩ = some (.slice none 0 0) := (hb4.cell (p := ⟨w.heap.size + 1, 0, none⟩) (Nat.lt_succ_self _)).trans hcr
  have hf4 : w3.frozen? ⟨w.heap.size + 1, 0, none⟩ = false := (hb4.frozen (p := ⟨w.heap.size + 1, 0, none⟩) (Nat.lt_succ_self _)).trans hfr
  obtain ⟨o3, c3, rfl⟩ := own_slice hown'
  have HO : Hid (w3.ownsRow (w.heap.size + 1 + 1) 59 3 (.slice o3 l.length c3) l.length (cellsN l)) := hown'
  have HB : Hid (Below w.heap.size w w3) := hb3.trans (hb4.mono (by omega))
  clear hown' hgrow hown0 hcr hfr hb3 hb4 hs3 hl
  go_wp2
  have hcs := World.cell?_setCell_same w3 ⟨w.heap.size + 1, 0, none⟩ (.slice o3 l.length c3) hc4
  exact bodyPost_ret (v := .agg #[.slice o3 l.length c3]) (by simp [results, Tryz.results5, go_sem, hcs]) rfl ⟨o3, c3, rfl, own_mono (ownsRow_setCell_below HO.out (Nat.lt_succ_self _) _) (by omega), HB.out.setCell (Nat.le_succ _) _⟩
set_option maxRecDepth 20000 in
set_option maxHeartbeats 800000 in
theorem copyNil (w : World) :
    Calls Tryz.prog 5 #[.agg #[.slice none 0 0]] w fun r w' => ∃ o c, r = .returned (.agg #[.slice o 0 c]) ∧ w'.ownsRow w.heap.size 59 3 (.slice o 0 c) 0 [] ∧ Below w.heap.size w w' := by
  go_enter Tryz.func5, Tryz.ntmps5
  go_wp2
  refine bodyPost_ret (v := .agg #[.slice (some ⟨w.heap.size + 1 + 1, 0, none⟩) 0 0]) (by simp [results, Tryz.results5, go_sem]) rfl ⟨_, _, rfl, ?_, (((Below.refl _ _).alloc (Nat.le_refl _) _).alloc (by simp) _).alloc (by simp; omega) _⟩
  have := World.ownsRow_lit (base := w.heap.size) (e := 59) (size := 3) ((w.alloc (Obj.cells #[.slice none 0 0] 25)).alloc (Obj.cells #[.slice (some ⟨w.heap.size + 1 + 1, 0, none⟩) 0 0] 25)) #[] 0 (by simp; omega) (Nat.zero_le _) rfl
  simpa using this
end Go.Proofs.YtejgjipmnmfkcaaGreatDoor.Tree
