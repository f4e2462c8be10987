/-
  Several texts in one: What was built, read: plain facts. · Arrays held against arrays, texts against texts, whichever they are: contracts.
-/
import Derived.Test.YtcpfhfdgfcilaaaGreatDoorB30
import Derived.Test.YtcpfhfdgfcilaaaGreatDoorB11
import Derived.Test.YtcpfhfdgfcilaaaGreatDoorB12
set_option linter.unusedVariables false
namespace Go.Proofs.YtcpfhfdgfcilaaaGreatDoor.Arr
open Tree Val Sums

theorem sizes_in {ss : List ByteArray} (h : ∀ s ∈ ss, s.size ≤ maxLen) : SizesOk ss := fun k hk => by
  rw [getD_get ss hk]
  have := h _ (List.getElem_mem hk)
  unfold maxLen at this
  omega
end Go.Proofs.YtcpfhfdgfcilaaaGreatDoor.Arr
set_option linter.unusedVariables false
set_option linter.unusedSimpArgs false
namespace Go.Proofs.YtcpfhfdgfcilaaaGreatDoor.Arr
open Go.ChangeShapes Go.WideShapes Go.ChangeAt Go.RowKit
open Tree Val

end Go.Proofs.YtcpfhfdgfcilaaaGreatDoor.Arr
