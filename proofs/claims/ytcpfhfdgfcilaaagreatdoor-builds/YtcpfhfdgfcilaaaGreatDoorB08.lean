/-
  Several texts in one: Arrays by runs: isRun: contract. · Whether an array may be: May: contract. · Whether an array may be: May: contract. · Whether an array may be, behind its head: May: contract.
-/
import Derived.Test.YtcpfhfdgfcilaaaGreatDoorB07
import Derived.Laws.AppendOwnNone
import Derived.OwnWalk
import Derived.Laws.OwnMore
namespace Go.Proofs.YtcpfhfdgfcilaaaGreatDoor.Arr
open Go.ChangeShapes Go.WideShapes Go.ChangeAt Go.RowKit
open Tree Val

end Go.Proofs.YtcpfhfdgfcilaaaGreatDoor.Arr
namespace Go.Proofs.YtcpfhfdgfcilaaaGreatDoor.Arr
open Go.ChangeShapes Go.WideShapes Go.ChangeAt Go.RowKit
open Tree Val

end Go.Proofs.YtcpfhfdgfcilaaaGreatDoor.Arr
namespace Go.Proofs.YtcpfhfdgfcilaaaGreatDoor.Arr
open Go.ChangeShapes Go.WideShapes Go.ChangeAt Go.RowKit
open Tree Val

end Go.Proofs.YtcpfhfdgfcilaaaGreatDoor.Arr
namespace Go.Proofs.YtcpfhfdgfcilaaaGreatDoor.Arr
open Go.ChangeShapes Go.WideShapes Go.ChangeAt Go.RowKit
open Tree Val

end Go.Proofs.YtcpfhfdgfcilaaaGreatDoor.Arr
