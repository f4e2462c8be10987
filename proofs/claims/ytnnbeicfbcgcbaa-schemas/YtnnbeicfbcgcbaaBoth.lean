/-
  Put and Get, the program's and the document's, each told in one way for every type and every text.
-/
import Derived.Test.YtnnbeicfbcgcbaaRows
import Derived.Test.YtnnbeicfbcgcbaaTree
import Derived.Test.YtnnbeicfbcgcbaaText
import Derived.Test.YtnnbeicfbcgcbaaOpen
import Derived.Test.YtnnbeicfbcgcbaaMem
import Derived.Test.YtnnbeicfbcgcbaaMay
import Derived.Test.YtnnbeicfbcgcbaaLev
import Derived.Test.YtnnbeicfbcgcbaaHelp
import Derived.Test.YtnnbeicfbcgcbaaCopy
import Derived.Test.YtnnbeicfbcgcbaaPut
import Derived.Test.YtnnbeicfbcgcbaaGet
import Derived.Test.YtnnbeicfbcgcbaaTold
import Derived.Test.YtnnbeicfbcgcbaaGetAny
import Derived.Test.YtnnbeicfbcgcbaaSPut
import Derived.Test.YtnnbeicfbcgcbaaSGet
import Derived.WalkKit
import Derived.ProofKit
import Derived.Below
namespace Go.Proofs.Ytnnbeicfbcgcbaa.Tree
open Go.ChangeShapes Go.WideShapes Go.ChangeAt Go.RowKit

/-- What Put tells of a type. -/
def PutA (l : List Nd) (A : ByteArray) (E : Int) : Prop := (may l = true → A = ⟨(enc l).toArray⟩ ∧ E = 0) ∧ (may l = false → A = ⟨#[]⟩ ∧ E = 600)
theorem putA_some (l : List Nd) : ∃ A E, PutA l A E := by
  cases h : may l
  · exact ⟨_, _, fun c => (by rw [h] at c; cases c), fun _ => ⟨rfl, rfl⟩⟩
  · exact ⟨_, _, fun _ => ⟨rfl, rfl⟩, fun c => (by rw [h] at c; cases c)⟩
/-- What Get tells of a text. -/
def GetA (s : ByteArray) (L : List Nd) (F : Int) : Prop := (isText s → L = decL s.data.toList ∧ F = 0) ∧ (¬ isText s → L = [] ∧ F = 600)
theorem getA_some (s : ByteArray) : ∃ L F, GetA s L F := by
  by_cases h : isText s
  · exact ⟨_, _, fun _ => ⟨rfl, rfl⟩, fun c => absurd h c⟩
  · exact ⟨_, _, fun c => absurd c h, fun _ => ⟨rfl, rfl⟩⟩
theorem GetA.few {s : ByteArray} {L : List Nd} {F : Int} (h : GetA s L F) : L.length ≤ 8 := by
  by_cases c : isText s
  · rw [(h.1 c).1]; exact (may_of c.2.1).most
  · rw [(h.2 c).1]; exact Nat.zero_le _
theorem PutA.few {l : List Nd} {A : ByteArray} {E : Int} (h : PutA l A E) : A.size ≤ 25 := by
  cases c : may l
  · rw [(h.2 c).1]; exact Nat.zero_le _
  · rw [(h.1 c).1, text_size, length_enc]
    have := (may_of c).most
    omega
theorem sputR (a : Option Addr) (cap : Nat) (l : List Nd) (A : ByteArray) (E : Int) (HA : Hid (PutA l A E)) (w : World) (h : IsT w a l) :
    Calls Try.prog 9 #[.agg #[.slice a l.length cap]] w fun r w' => r = .returned (.tuple #[.string A, .int .i64 E]) ∧ Below w.heap.size w w' := by
  cases c : may l
  · obtain ⟨rfl, rfl⟩ := HA.out.2 c
    exact sputN a cap l w h c
  · obtain ⟨rfl, rfl⟩ := HA.out.1 c
    obtain ⟨x, rfl, hl⟩ := h.some (may_of c).one
    exact sputY x cap l w hl c
theorem putR (a : Option Addr) (cap : Nat) (l : List Nd) (A : ByteArray) (E : Int) (HA : Hid (PutA l A E)) (w : World) (h : IsT w a l) :
    Calls Try.prog 10 #[.agg #[.slice a l.length cap]] w fun r w' => r = .returned (.tuple #[.string A, .int .i64 E]) ∧ Below w.heap.size w w' := by
  cases c : may l
  · obtain ⟨rfl, rfl⟩ := HA.out.2 c
    exact putN a cap l w h c
  · obtain ⟨rfl, rfl⟩ := HA.out.1 c
    obtain ⟨x, rfl, hl⟩ := h.some (may_of c).one
    exact putY x cap l w hl c
/-- A type comes back from its text. -/
theorem PutA.back {l : List Nd} {A : ByteArray} {E : Int} (h : PutA l A E) (hm : may l = true) : GetA A l 0 := by
  obtain ⟨rfl, _⟩ := h.1 hm
  have ht := may_true (may_of hm) hm
  refine ⟨fun _ => ⟨?_, rfl⟩, fun c => absurd ht c⟩
  show l = decL (enc l).toArray.toList
  rw [List.toList_toArray, (may_of hm).told]
/-- A text that is one is told as it stood. -/
theorem GetA.back {s : ByteArray} {L : List Nd} {F : Int} (h : GetA s L F) (ht : isText s) : PutA L s 0 := by
  obtain ⟨rfl, _⟩ := h.1 ht
  exact ⟨fun _ => ⟨ht.2.2.symm, rfl⟩, fun c => (by rw [ht.2.1] at c; cases c)⟩
theorem co_later {w w' : World} {a : Option Addr} {cap : Nat} {l : List Nd} (h : a = none ∧ l = [] ∧ cap = 0 ∨ ∃ x, a = some x ∧ Lies w x l) (hb : Below w.heap.size w w') : a = none ∧ l = [] ∧ cap = 0 ∨ ∃ x, a = some x ∧ Lies w' x l :=
  h.imp id fun ⟨x, e, hl⟩ => ⟨x, e, hl.later hb⟩
end Go.Proofs.Ytnnbeicfbcgcbaa.Tree
