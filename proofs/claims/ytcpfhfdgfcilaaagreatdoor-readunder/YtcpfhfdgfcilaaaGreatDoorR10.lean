/-
  Several texts in one: The document's plainMay of lists and structs: contracts. · The document's plainMay of structs, and of any node: contracts. · The document's ArrayMay: its head: contracts. · The document's ArrayMay: which rows lack, plain arrays: contracts.
-/
import Derived.Test.YtcpfhfdgfcilaaaGreatDoorR09
namespace Go.Proofs.YtcpfhfdgfcilaaaGreatDoor.Arr
open Go.ChangeShapes Go.WideShapes Go.ChangeAt Go.RowKit
open Tree Val

/-- A kid's cells in every world in which it still stands. -/
structure KCells (w3 : World) (y : Addr) (k : Arr) (o : Option Addr) (cap : Nat) : Prop where
  k0 : ∀ s : BW w3, s.w.cell? y = some (.int .i64 k.layout)
  k1 : ∀ s : BW w3, s.w.cell? { block := y.block, off := y.off + 1 } = some (.int .i64 k.offset)
  k2 : ∀ s : BW w3, s.w.cell? { block := y.block, off := y.off + 2 } = some (.int .i64 k.length)
  k3 : ∀ s : BW w3, s.w.cell? { block := y.block, off := y.off + 3 } = some (.string k.valid)
  k4 : ∀ s : BW w3, s.w.cell? { block := y.block, off := y.off + 4 } = some (.string k.ends)
  k5 : ∀ s : BW w3, s.w.cell? { block := y.block, off := y.off + 5 } = some (.string k.data)
  k6 : ∀ s : BW w3, s.w.cell? { block := y.block, off := y.off + 6 } = some (.slice o k.kids.length cap)
theorem Kid.cells {w3 : World} {y : Addr} {k : Arr} {o : Option Addr} {cap : Nat} (h : Kid w3 y k o cap) : KCells w3 y k o cap :=
  ⟨fun s => (h.later s.ok).k0, fun s => (h.later s.ok).k1, fun s => (h.later s.ok).k2, fun s => (h.later s.ok).k3, fun s => (h.later s.ok).k4, fun s => (h.later s.ok).k5, fun s => (h.later s.ok).k6⟩
end Go.Proofs.YtcpfhfdgfcilaaaGreatDoor.Arr
namespace Go.Proofs.YtcpfhfdgfcilaaaGreatDoor.Arr
open Go.ChangeShapes Go.WideShapes Go.ChangeAt Go.RowKit
open Tree Val

end Go.Proofs.YtcpfhfdgfcilaaaGreatDoor.Arr
namespace Go.Proofs.YtcpfhfdgfcilaaaGreatDoor.Arr
open Go.ChangeShapes Go.WideShapes Go.ChangeAt Go.RowKit
open Tree Val

end Go.Proofs.YtcpfhfdgfcilaaaGreatDoor.Arr
namespace Go.Proofs.YtcpfhfdgfcilaaaGreatDoor.Arr
open Go.ChangeShapes Go.WideShapes Go.ChangeAt Go.RowKit
open Tree Val

end Go.Proofs.YtcpfhfdgfcilaaaGreatDoor.Arr
