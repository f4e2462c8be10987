/-
  What awake computes: its contract.
-/
import Derived.Test.YtjjfkgiecndmjaaRows
import Derived.Test.YtjjfkgiecndmjaaTree
import Derived.Test.YtjjfkgiecndmjaaOpen
import Derived.Test.YtjjfkgiecndmjaaMem
import Derived.Test.YtjjfkgiecndmjaaMay
import Derived.Test.YtjjfkgiecndmjaaPro
import Derived.Test.YtjjfkgiecndmjaaLev
import Derived.Test.YtjjfkgiecndmjaaHelp
import Derived.WalkKit
import Derived.ProofKit
import Derived.OpenShut
import Derived.Below
import Derived.RegionTactic
import Derived.ChangeAlike
import Derived.OwnWalk
namespace Go.Proofs.Ytjjfkgiecndmjaa.Tree
open Go.ChangeShapes Go.WideShapes Go.ChangeAt Go.RowKit

def t0 : List Nd := [⟨4, -1, false⟩, ⟨3, 0, true⟩, ⟨0, 1, true⟩, ⟨2, 0, false⟩]
theorem t0_may : may t0 = true := by decide
theorem t0_kids : kidsA t0 0 = [1, 3] := by decide
theorem t0_leaves : leavesA t0 = [2, 3] := by decide
theorem t0_rep : repA t0 2 = 1 := by decide
theorem t0_dfn : dfnA t0 2 = 3 := by decide
theorem t0_has0 : hasB t0 0 = true := by decide
theorem t0_has2 : hasB t0 2 = true := by decide
theorem t0_has4 : hasB t0 4 = false := by decide
theorem nil_may : may [] = false := by decide
theorem isT_nil (w : World) (a : Option Addr) : IsT w a [] := ⟨Nat.zero_le _, .inl rfl⟩

theorem awK (w : World) (x : Addr) (h : IsT w (some x) t0) :
    Calls Try.prog 10 #[.agg #[.slice (some x) 4 4], .int .i64 0] w fun r w' => ∃ o c, r = .returned (.tuple #[.slice o 2 c, .int .i64 0]) ∧ IsI w' w.heap.size o [1, 3] ∧ Below w.heap.size w w' := by
  refine (kidsP (some x) 4 t0 0 w h).mono ?_
  rintro r w' ⟨o, c, rfl, hown, hb⟩
  rw [t0_kids] at hown
  refine ⟨o, c, ?_, own_ints hown, hb⟩
  rw [t0_kids, t0_has0]
  rfl
theorem awK4 (w : World) (x : Addr) (h : IsT w (some x) t0) :
    Calls Try.prog 10 #[.agg #[.slice (some x) 4 4], .int .i64 4] w fun r w' => ∃ o n c, r = .returned (.tuple #[.slice o n c, .int .i64 500]) ∧ Below w.heap.size w w' := by
  refine (kidsP (some x) 4 t0 4 w h).mono ?_
  rintro r w' ⟨o, c, rfl, hown, hb⟩
  refine ⟨o, (kidsA t0 4).length, c, ?_, hb⟩
  rw [t0_has4]
  rfl
theorem awL (w : World) (x : Addr) (h : IsT w (some x) t0) :
    Calls Try.prog 12 #[.agg #[.slice (some x) 4 4]] w fun r w' => ∃ o c, r = .returned (.tuple #[.slice o 2 c, .int .i64 0]) ∧ IsI w' w.heap.size o [2, 3] ∧ Below w.heap.size w w' := by
  refine (leavesP (some x) 4 t0 w h).mono ?_
  rintro r w' ⟨o, c, rfl, hown, hb⟩
  rw [t0_leaves] at hown
  refine ⟨o, c, ?_, own_ints hown, hb⟩
  rw [t0_leaves, t0_may]
  rfl
theorem awL0 (w : World) :
    Calls Try.prog 12 #[.agg #[.slice none 0 0]] w fun r w' => ∃ o n c, r = .returned (.tuple #[.slice o n c, .int .i64 500]) ∧ Below w.heap.size w w' := by
  refine (leavesP none 0 [] w (isT_nil _ _)).mono ?_
  rintro r w' ⟨o, c, rfl, hown, hb⟩
  refine ⟨o, (leavesA []).length, c, ?_, hb⟩
  rw [nil_may]
  rfl
theorem awV (w : World) (x : Addr) (h : IsT w (some x) t0) :
    Calls Try.prog 14 #[.agg #[.slice (some x) 4 4], .int .i64 2] w fun r w' => r = .returned (.tuple #[.int .i64 1, .int .i64 3, .int .i64 0]) ∧ Below w.heap.size w w' := by
  refine (levelsP (some x) 4 t0 2 w h).mono ?_
  rintro r w' ⟨rfl, hb⟩
  refine ⟨?_, hb⟩
  rw [t0_rep, t0_dfn, t0_has2]
  rfl
theorem awM (w : World) (x : Addr) (h : IsT w (some x) t0) :
    Calls Try.prog 18 #[.agg #[.slice (some x) 4 4]] w fun r w' => r = .returned (.bool true) ∧ Below w.heap.size w w' := by
  refine (mayC (some x) 4 t0 w h).mono ?_
  rintro r w' ⟨rfl, hb⟩
  exact ⟨by rw [t0_may], hb⟩
theorem awM0 (w : World) :
    Calls Try.prog 18 #[.agg #[.slice none 0 0]] w fun r w' => r = .returned (.bool false) ∧ Below w.heap.size w w' := by
  refine (mayC none 0 [] w (isT_nil _ _)).mono ?_
  rintro r w' ⟨rfl, hb⟩
  exact ⟨by rw [nil_may], hb⟩
theorem awS (o : Option Addr) (c b : Nat) (p : List Nat) (hp : p.length = 2) (w : World) (g : Nat) (h : IsI w b o p) (hr : IsI w 0 (some ⟨g, 0, none⟩) p) :
    Calls Try.prog 16 #[.slice o 2 c, .slice (some ⟨g, 0, none⟩) 2 2] w fun r w' => r = .returned (.bool true) ∧ Below w.heap.size w w' := by
  have := sameInts o (some ⟨g, 0, none⟩) c 2 b 0 p w (by omega) h hr
  rw [hp] at this
  exact this
theorem pair_made (w : World) (a b : Nat) : IsI (w.alloc (.cells #[.int .i64 (a : Int), .int .i64 (b : Int)] 3)) 0 (some ⟨w.heap.size, 0, none⟩) [a, b] := by
  refine .inr ⟨_, rfl, Nat.zero_le _, fun i hi => ?_, fun i hi => ?_⟩
  · match i, hi with
    | 0, _ => simp
    | 1, _ => simp
  · simp
/-- The literal of awake. -/
def lit0 (w : World) : World := (w.alloc (Obj.cells #[.int .i64 4, .int .i64 (-1), .bool false, .int .i64 3, .int .i64 0, .bool true, .int .i64 0, .int .i64 1, .bool true, .int .i64 2, .int .i64 0, .bool false] 46)).alloc (Obj.cells #[.slice (some ⟨w.heap.size, 0, none⟩) 4 4] 24)
theorem lit0_is (w : World) : IsT (lit0 w) (some ⟨w.heap.size, 0, none⟩) t0 ∧ (lit0 w).cell? ⟨w.heap.size + 1, 0, none⟩ = some (.slice (some ⟨w.heap.size, 0, none⟩) 4 4) ∧ Below w.heap.size w (lit0 w) := by
  refine ⟨?_, ?_, ((Below.refl _ _).alloc (Nat.le_refl _) _).alloc (by simp) _⟩
  · have hb : Below (w.alloc (Obj.cells #[.int .i64 4, .int .i64 (-1), .bool false, .int .i64 3, .int .i64 0, .bool true, .int .i64 0, .int .i64 1, .bool true, .int .i64 2, .int .i64 0, .bool false] 46)).heap.size _ (lit0 w) := (Below.refl _ _).alloc (Nat.le_refl _) _
    refine IsT.later ⟨by decide, .inr ⟨_, rfl, ?_⟩⟩ hb
    constructor
    all_goals
      intro i hi
      match i, hi with
      | 0, _ => simp [t0, Addr.add]
      | 1, _ => simp [t0, Addr.add]
      | 2, _ => simp [t0, Addr.add]
      | 3, _ => simp [t0, Addr.add]
  · unfold lit0
    simp
set_option maxRecDepth 20000 in
set_option maxHeartbeats 1600000 in
theorem awake (w : World) : Calls Try.prog 22 #[] w fun r w' => r = .returned (.bool true) ∧ Below w.heap.size w w' := by
  obtain ⟨hT, hc, hb⟩ := lit0_is w
  go_enter Try.func22, Try.ntmps22
  go_wp2_with fail
  show Calls _ _ _ (lit0 w) _
  generalize lit0 w = w1 at *
  refine (awK w1 _ hT).mono ?_
  rintro e w2 ⟨o2, c2, rfl, hi2, hb2⟩
  have hT2 := hT.later hb2
  have hc2 := cell_later hb2 hc
  have hbb2 := hb.trans (hb2.mono hb.size)
  clear hT hc hb hb2
  go_wp2_with fail
  refine (awL w2 _ hT2).mono ?_
  rintro e w3 ⟨o3, c3, rfl, hi3, hb3⟩
  have hT3 := hT2.later hb3
  have hc3 := cell_later hb3 hc2
  have hi23 := hi2.later hb3
  have hbb3 := hbb2.trans (hb3.mono hbb2.size)
  clear hT2 hc2 hb3 hi2 hbb2
  go_wp2_with fail
  refine (awV w3 _ hT3).mono ?_
  rintro e w4 ⟨rfl, hb4⟩
  have hT4 := hT3.later hb4
  have hc4 := cell_later hb4 hc3
  have hi24 := hi23.later hb4
  have hi34 := hi3.later hb4
  have hbb4 := hbb3.trans (hb4.mono hbb3.size)
  clear hT3 hc3 hb4 hi23 hi3 hbb3
  go_wp2_with fail
  refine (awK4 w4 _ hT4).mono ?_
  rintro e w5 ⟨o5, n5, c5, rfl, hb5⟩
  have hT5 := hT4.later hb5
  have hc5 := cell_later hb5 hc4
  have hi25 := hi24.later hb5
  have hi35 := hi34.later hb5
  have hbb5 := hbb4.trans (hb5.mono hbb4.size)
  clear hT4 hc4 hb5 hi24 hi34 hbb4
  go_wp2_with fail
  refine (awL0 w5).mono ?_
  rintro e w6 ⟨o6, n6, c6, rfl, hb6⟩
  have hT6 := hT5.later hb6
  have hc6 := cell_later hb6 hc5
  have hi26 := hi25.later hb6
  have hi36 := hi35.later hb6
  have hbb6 := hbb5.trans (hb6.mono hbb5.size)
  clear hT5 hc5 hb6 hi25 hi35 hbb5
  go_wp2_with fail
  refine (awM w6 _ hT6).mono ?_
  rintro e w7 ⟨rfl, hb7⟩
  have hi27 := hi26.later hb7
  have hi37 := hi36.later hb7
  have hbb7 := hbb6.trans (hb7.mono hbb6.size)
  clear hT6 hc6 hb7 hi26 hi36 hbb6
  go_wp2_with fail
  refine (awM0 w7).mono ?_
  rintro e w8 ⟨rfl, hb8⟩
  have hi28 := hi27.later hb8
  have hi38 := hi37.later hb8
  have hbb8 := hbb7.trans (hb8.mono hbb7.size)
  clear hb8 hi27 hi37 hbb7
  go_wp2_with fail
  have hb9 : Below w8.heap.size w8 (w8.alloc (Obj.cells #[.int .i64 1, .int .i64 3] 3)) := (Below.refl _ _).alloc (Nat.le_refl _) _
  refine (awS _ _ _ [1, 3] rfl _ _ (hi28.later hb9) (pair_made w8 1 3)).mono ?_
  rintro e wA ⟨rfl, hbA⟩
  have hi3A := (hi38.later hb9).later hbA
  have hbbA := hbb8.trans ((bel hb9 hbA).mono hbb8.size)
  clear hb9 hi38 hi28 hbA hbb8
  go_wp2_with fail
  refine (num _ _).mono ?_
  rintro e wB ⟨rfl, rfl⟩
  go_wp2_with fail
  have hbB : Below wB.heap.size wB (wB.alloc (Obj.cells #[.int .i64 2, .int .i64 3] 3)) := (Below.refl _ _).alloc (Nat.le_refl _) _
  refine (awS _ _ _ [2, 3] rfl _ _ (hi3A.later hbB) (pair_made wB 2 3)).mono ?_
  rintro e wC ⟨rfl, hbC⟩
  have hbbC := hbbA.trans ((bel hbB hbC).mono hbbA.size)
  clear hi3A hbB hbC hbbA
  go_wp2_with fail
  refine (num _ _).mono ?_
  rintro e w' ⟨rfl, rfl⟩
  go_wp2_with fail
  refine (num _ _).mono ?_
  rintro e w' ⟨rfl, rfl⟩
  go_wp2_with fail
  refine (num _ _).mono ?_
  rintro e w' ⟨rfl, rfl⟩
  go_wp2_with fail
  refine (num _ _).mono ?_
  rintro e w' ⟨rfl, rfl⟩
  go_wp2
  go_ret
  exact ⟨rfl, hbbC⟩
end Go.Proofs.Ytjjfkgiecndmjaa.Tree
