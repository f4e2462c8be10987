/-
  A region that draws its order, in a class of worlds: those in which all that was there still stands.
-/
import Derived.Test.YtncagkkngbmdkaaDoorTree
import Derived.Test.YtncagkkngbmdkaaDoorMem
import Derived.WalkKit
import Derived.Below
import Derived.Deep.QuietTactic
import Derived.BigQuiet
namespace Go.Proofs.YtncagkkngbmdkaaDoor.Tree
open Go.ChangeShapes Go.WideShapes Go.ChangeAt Go.RowKit

/-- A world in which what w1 has still stands. -/
structure BW (w1 : World) where
  w : World
  ok : Below w1.heap.size w1 w
theorem BW.some (w1 : World) : Nonempty (BW w1) := ⟨⟨w1, Below.refl _ _⟩⟩
theorem region_in {P : Program} {C : World → Prop} {id : Nat} {Q : Exit → Act → World → Prop} {a : Act} {w : World} {l : List Oper} (hm : P.follows .mixedOrders = true) (hB : Region.lexB .any l.toArray = true) (hC : C w.drew)
    (h : wpQuiet P l.toArray C (fun a' => ∀ w', C w' → Q .normal a' w') l a) : (Code.region id l.toArray true).wp P Q a w :=
  wp_region_quiet (C := C) hm hB hC (by simpa using h)
end Go.Proofs.YtncagkkngbmdkaaDoor.Tree
