/-
  What is answered of a type that may not be, or of a node that it has not: contracts.
-/
import Derived.Test.YtjjfkgiecndmjaaRows
import Derived.Test.YtjjfkgiecndmjaaTree
import Derived.Test.YtjjfkgiecndmjaaMem
import Derived.Test.YtjjfkgiecndmjaaMay
import Derived.Test.YtjjfkgiecndmjaaPro
import Derived.Test.YtjjfkgiecndmjaaLev
namespace Go.Proofs.Ytjjfkgiecndmjaa.Tree
open Go.ChangeShapes Go.WideShapes Go.ChangeAt Go.RowKit

theorem has_no {l : List Nd} (h : may l = false) (i : Int) : hasB l i = false := by unfold hasB; rw [h, Bool.and_false]
theorem kidsN (a : Option Addr) (cap : Nat) (l : List Nd) (i : Int) (w : World) (h : IsT w a l) (hm : hasB l i = false) :
    Calls Try.prog 10 #[.agg #[.slice a l.length cap], .int .i64 i] w fun r w' => ∃ o n c, r = .returned (.tuple #[.slice o n c, .int .i64 500]) ∧ Below w.heap.size w w' := by
  refine (kidsP a cap l i w h).mono ?_
  rintro r w' ⟨o, c, rfl, _, hb⟩
  refine ⟨o, (kidsA l i).length, c, ?_, hb⟩
  rw [hm]
  rfl
theorem leavesN (a : Option Addr) (cap : Nat) (l : List Nd) (w : World) (h : IsT w a l) (hm : may l = false) :
    Calls Try.prog 12 #[.agg #[.slice a l.length cap]] w fun r w' => ∃ o n c, r = .returned (.tuple #[.slice o n c, .int .i64 500]) ∧ Below w.heap.size w w' := by
  refine (leavesP a cap l w h).mono ?_
  rintro r w' ⟨o, c, rfl, _, hb⟩
  refine ⟨o, (leavesA l).length, c, ?_, hb⟩
  rw [hm]
  rfl
theorem lvlsN (a : Option Addr) (cap : Nat) (l : List Nd) (i : Int) (w : World) (h : IsT w a l) (hm : hasB l i = false) :
    Calls Try.prog 14 #[.agg #[.slice a l.length cap], .int .i64 i] w fun r w' => r = .returned (.tuple #[.int .i64 0, .int .i64 0, .int .i64 500]) ∧ Below w.heap.size w w' := by
  have := levelsP a cap l i w h
  unfold repA dfnA at this
  rw [hm, if_neg (by simp), if_neg (by simp)] at this
  exact this
theorem mayN (a : Option Addr) (cap : Nat) (l : List Nd) (w : World) (h : IsT w a l) (hm : may l = false) :
    Calls Try.prog 18 #[.agg #[.slice a l.length cap]] w fun r w' => r = .returned (.bool false) ∧ Below w.heap.size w w' := by
  have := mayC a cap l w h
  rw [hm] at this
  exact this
end Go.Proofs.Ytjjfkgiecndmjaa.Tree
