/-
  Several texts in one: Whether a plain array of a list, of a struct may be; isPlain of any node: contracts. · The plain array that another layout stands on: base: contract. · Arrays by a dictionary: isDict: contract.
-/
import Derived.Test.YtcpfhfdgfcilaaaGreatDoorB06
import Derived.Deep.RegionHeld3
namespace Go.Proofs.YtcpfhfdgfcilaaaGreatDoor.Arr
open Go.ChangeShapes Go.WideShapes Go.ChangeAt Go.RowKit
open Tree Val

end Go.Proofs.YtcpfhfdgfcilaaaGreatDoor.Arr
namespace Go.Proofs.YtcpfhfdgfcilaaaGreatDoor.Arr
open Go.ChangeShapes Go.WideShapes Go.ChangeAt Go.RowKit
open Tree Val

/-- All blocks but one are as they were. -/
structure Mv (b : Nat) (w w' : World) : Prop where
  os : w'.os = w.os
  tape : w'.tape = w.tape
  output : w'.output = w.output
  size : w.heap.size ≤ w'.heap.size
  block : ∀ k, k < w.heap.size → k ≠ b → w'.heap[k]? = w.heap[k]?
theorem Mv.trans {b : Nat} {u v w : World} (h : Mv b u v) (k : Mv b v w) : Mv b u w :=
  ⟨k.os.trans h.os, k.tape.trans h.tape, k.output.trans h.output, Nat.le_trans h.size k.size, fun i hi hb => (k.block i (Nat.lt_of_lt_of_le hi h.size) hb).trans (h.block i hi hb)⟩
theorem Mv.of {b : Nat} {w w' : World} (h : Below w.heap.size w w') : Mv b w w' := ⟨h.os, h.tape, h.output, h.size, fun k hk _ => h.block k hk⟩
theorem Mv.set (b : Nat) (w : World) (o : Nat) (v : Value) : Mv b w (w.setCell ⟨b, o, none⟩ v) := ⟨rfl, rfl, rfl, by simp [World.setCell], fun k _ hk => Below.heap_setCell _ _ _ _ hk⟩
theorem Mv.below {b B : Nat} {w w' : World} (h : Mv b w w') (hB : B ≤ b) (hw : B ≤ w.heap.size) : Below B w w' := ⟨h.os, h.tape, h.output, h.size, fun k hk => h.block k (by omega) (by omega)⟩
theorem Bx.move {b : Nat} {w w' : World} {g : Nat} {a : Arr} {o : Option Addr} {cap : Nat} (h : Bx w g a o cap) (hm : Mv b w w') (hg : g ≠ b) : Bx w' g a o cap := ⟨(hm.block g h.lt hg).trans h.blk⟩
theorem Bx.put {w : World} {g : Nat} {a : Arr} {o : Option Addr} {cap : Nat} (h : Bx w g a o cap) (k : Arr) (ok : Option Addr) (ck : Nat) :
    ∃ w1, ((((((w.setCell ⟨g, 0, none⟩ (.int .i64 k.layout)).setCell ⟨g, 1, none⟩ (.int .i64 k.offset)).setCell ⟨g, 2, none⟩ (.int .i64 k.length)).setCell ⟨g, 3, none⟩ (.string k.valid)).setCell ⟨g, 4, none⟩ (.string k.ends)).setCell ⟨g, 5, none⟩ (.string k.data)).setCell ⟨g, 6, none⟩ (.slice ok k.kids.length ck) = w1 ∧ Bx w1 g k ok ck ∧ Mv g w w1 := by
  refine ⟨_, rfl, ⟨?_⟩, (((((((Mv.set g w 0 _).trans (Mv.set g _ 1 _)).trans (Mv.set g _ 2 _)).trans (Mv.set g _ 3 _)).trans (Mv.set g _ 4 _)).trans (Mv.set g _ 5 _)).trans (Mv.set g _ 6 _))⟩
  simp only [World.setCell, Array.getElem?_modify, if_true, h.blk, Option.map_some]
  rfl
theorem add_zero (x : Addr) : x.add (0 * 7) = x := by
  rw [Nat.zero_mul]
  unfold Addr.add
  split <;> simp_all
end Go.Proofs.YtcpfhfdgfcilaaaGreatDoor.Arr
namespace Go.Proofs.YtcpfhfdgfcilaaaGreatDoor.Arr
open Go.ChangeShapes Go.WideShapes Go.ChangeAt Go.RowKit
open Tree Val

end Go.Proofs.YtcpfhfdgfcilaaaGreatDoor.Arr
