/-
  Several texts in one: What a taker takes: values, behind, take: contracts, by how deep a value stands. · What stands behind a value's first sign; take, at every depth: contracts. · The one value that a text is: only: contract. · The values in a list or in a struct: within: contract. · A value's kind and parts: taken.parts, Parts: contracts. · Which values fit a node, a step down: plain facts. · Digits read one by one, round the corner of 64 bits: plain facts. · Where a value ends, as the document's own answer looks for it: contracts. · Where a value ends, as the document's own answer looks for it, at each depth: contracts.
-/
import Derived.Test.YtcpfhfdgfcilaaaGreatDoorR12
import Derived.Test.YtcpfhfdgfcilaaaGreatDoorR15
import Derived.Deep.RegionWith
import Derived.Test.YtcpfhfdgfcilaaaGreatDoorR01
import Derived.Test.YtcpfhfdgfcilaaaGreatDoorR13
import Derived.Test.YtcpfhfdgfcilaaaGreatDoorR03
import Derived.WalkKit
import Derived.Test.YtcpfhfdgfcilaaaGreatDoorR02
import Derived.Deep.CutBlock
namespace Go.Proofs.YtcpfhfdgfcilaaaGreatDoor.Val
open Go.ChangeShapes Go.WideShapes Go.ChangeAt Go.RowKit

end Go.Proofs.YtcpfhfdgfcilaaaGreatDoor.Val
namespace Go.Proofs.YtcpfhfdgfcilaaaGreatDoor.Val
open Go.ChangeShapes Go.WideShapes Go.ChangeAt Go.RowKit

/-- A value that was taken, in a block. -/
structure Bx (w : World) (g : Nat) (k : Int) (v c : ByteArray) : Prop where
  blk : w.heap[g]? = some (.cells #[.int .i64 k, .string v, .string c] 154 (0, 0))
theorem Bx.lt {w : World} {g : Nat} {k : Int} {v c : ByteArray} (h : Bx w g k v c) : g < w.heap.size := by
  by_cases d : g < w.heap.size
  · exact d
  · have := h.blk
    rw [Array.getElem?_eq_none (by omega)] at this
    cases this
theorem Bx.c0 {w : World} {g : Nat} {k : Int} {v c : ByteArray} (h : Bx w g k v c) : w.cell? ⟨g, 0, none⟩ = some (.int .i64 k) := by simp [World.cell?, h.blk]
theorem Bx.c1 {w : World} {g : Nat} {k : Int} {v c : ByteArray} (h : Bx w g k v c) : w.cell? ⟨g, 1, none⟩ = some (.string v) := by simp [World.cell?, h.blk]
theorem Bx.c2 {w : World} {g : Nat} {k : Int} {v c : ByteArray} (h : Bx w g k v c) : w.cell? ⟨g, 2, none⟩ = some (.string c) := by simp [World.cell?, h.blk]
theorem Bx.fz {w : World} {g : Nat} {k : Int} {v c : ByteArray} (h : Bx w g k v c) (o : Nat) : w.frozen? ⟨g, o, none⟩ = false := by simp [World.frozen?, h.blk]
theorem Bx.later {w w' : World} {g : Nat} {k : Int} {v c : ByteArray} (h : Bx w g k v c) (hb : Below w.heap.size w w') : Bx w' g k v c := ⟨(hb.block g h.lt).trans h.blk⟩
theorem Bx.put {w : World} {g : Nat} {k : Int} {v c : ByteArray} (h : Bx w g k v c) (k' : Int) (v' c' : ByteArray) :
    ∃ w1, ((w.setCell ⟨g, 0, none⟩ (.int .i64 k')).setCell ⟨g, 1, none⟩ (.string v')).setCell ⟨g, 2, none⟩ (.string c') = w1 ∧ Bx w1 g k' v' c' ∧ Mv g w w1 := by
  refine ⟨_, rfl, ⟨?_⟩, ((Mv.set g w 0 _).trans (Mv.set g _ 1 _)).trans (Mv.set g _ 2 _)⟩
  simp only [World.setCell, Array.getElem?_modify, if_true, h.blk, Option.map_some]
  rfl
theorem Mv.own {b g : Nat} {u v w : World} (h : Mv b u v) (k : Mv g v w) (hg : u.heap.size ≤ g) : Mv b u w :=
  ⟨k.os.trans h.os, k.tape.trans h.tape, k.output.trans h.output, Nat.le_trans h.size k.size, fun i hi hb => (k.block i (Nat.lt_of_lt_of_le hi h.size) (by omega)).trans (h.block i hi hb)⟩
end Go.Proofs.YtcpfhfdgfcilaaaGreatDoor.Val
namespace Go.Proofs.YtcpfhfdgfcilaaaGreatDoor.Val
open Go.ChangeShapes Go.WideShapes Go.ChangeAt Go.RowKit

end Go.Proofs.YtcpfhfdgfcilaaaGreatDoor.Val
namespace Go.Proofs.YtcpfhfdgfcilaaaGreatDoor.Val
open Go.ChangeShapes Go.WideShapes Go.ChangeAt Go.RowKit
open Tree (own_slice own_mono)

theorem Mv.grown {b : Nat} {u v w : World} {row : Option Nat} (h : Mv b u v) (hg : v.grownBy w row) (hr : ∀ k, row = some k → u.heap.size ≤ k) : Mv b u w :=
  ⟨hg.os.trans h.os, hg.tape.trans h.tape, hg.output.trans h.output, Nat.le_trans h.size hg.size, fun k hk hb => (hg.block k (Nat.lt_of_lt_of_le hk h.size) (fun e => by have := hr k e.symm; omega)).trans (h.block k hk hb)⟩
theorem Tk.grown {w w' : World} {b : Nat} {s : ByteArray} {p : Nat} {row : Option Nat} (h : Tk w b s p) (hg : w.grownBy w' row) (hr : ∀ k, row = some k → b < k) : Tk w' b s p :=
  ⟨(hg.block b h.lt (fun e => by have := hr b e.symm; omega)).trans h.blk⟩
end Go.Proofs.YtcpfhfdgfcilaaaGreatDoor.Val
namespace Go.Proofs.YtcpfhfdgfcilaaaGreatDoor.Val
open Go.ChangeShapes Go.WideShapes Go.ChangeAt Go.RowKit
open Tree (own_slice own_mono)
open Texts (cellsT cellsT_snoc)

theorem info9 : (Tryz.prog.info? 9).map (fun i => (i.zero, i.size, i.bytes)) = some (some (.string ⟨#[]⟩), 1, 16) := by kernel_rfl
theorem Bx.one (w : World) (k : Int) (v c : ByteArray) : Bx (w.alloc (.cells #[.int .i64 k, .string v, .string c] 154)) w.heap.size k v c := ⟨heap_alloc_new _ _⟩
/-- Values that were taken, from an address on. -/
structure KLies (w : World) (x : Addr) (vs : List ByteArray) : Prop where
  kind : ∀ i, i < vs.length → w.cell? (x.add (i * 3)) = some (.int .i64 (kindOf (bl (vs.getD i ByteArray.empty))))
  all : ∀ i, i < vs.length → w.cell? (x.add (i * 3 + 1)) = some (.string (vs.getD i ByteArray.empty))
  body : ∀ i, i < vs.length → w.cell? (x.add (i * 3 + 2)) = some (.string (bodyS (vs.getD i ByteArray.empty)))
theorem KLies.later {w w' : World} {x : Addr} {vs : List ByteArray} (h : KLies w x vs) (hb : Below w.heap.size w w') : KLies w' x vs :=
  ⟨fun i hi => Tree.cell_later hb (h.kind i hi), fun i hi => Tree.cell_later hb (h.all i hi), fun i hi => Tree.cell_later hb (h.body i hi)⟩
end Go.Proofs.YtcpfhfdgfcilaaaGreatDoor.Val
namespace Go.Proofs.YtcpfhfdgfcilaaaGreatDoor.Val
open Tree

end Go.Proofs.YtcpfhfdgfcilaaaGreatDoor.Val
namespace Go.Proofs.YtcpfhfdgfcilaaaGreatDoor.Val
open Go.RowKit

/-- A number within 64 bits that is another round the corner. -/
def At64 (x e : Int) : Prop := in64 x ∧ (x - e) % 18446744073709551616 = 0
theorem At64.zero : At64 0 0 := ⟨⟨by omega, by omega⟩, rfl⟩
theorem At64.pos {x e d y f : Int} (h : At64 x e) (hy : y = wrap64 (wrap64 (10 * x) + d)) (hf : f = 10 * e + d) : At64 y f := by
  subst hy hf
  unfold At64 in64 wrap64 at *
  omega
end Go.Proofs.YtcpfhfdgfcilaaaGreatDoor.Val
namespace Go.Proofs.YtcpfhfdgfcilaaaGreatDoor.Val
open Go.ChangeShapes Go.WideShapes Go.ChangeAt Go.RowKit

end Go.Proofs.YtcpfhfdgfcilaaaGreatDoor.Val
namespace Go.Proofs.YtcpfhfdgfcilaaaGreatDoor.Val
open Go.ChangeShapes Go.WideShapes Go.ChangeAt Go.RowKit

theorem ret_int {a b : Int} (h : a = b) : Ending.returned (.int .i64 a) = .returned (.int .i64 b) := by rw [h]
end Go.Proofs.YtcpfhfdgfcilaaaGreatDoor.Val
