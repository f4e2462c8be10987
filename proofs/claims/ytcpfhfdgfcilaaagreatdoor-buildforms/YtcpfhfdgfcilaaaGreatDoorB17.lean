/-
  Several texts in one: A value's kind and parts, as the document's own answer tells them: contracts. · Whether a value may be of a node of a type, as the document's own answer tells it: contracts. · What a reader has of a place: short, span: contracts.
-/
import Derived.Test.YtcpfhfdgfcilaaaGreatDoorB03
import Derived.Test.YtcpfhfdgfcilaaaGreatDoorB13
import Derived.Test.YtcpfhfdgfcilaaaGreatDoorB16
import Derived.Deep.CutBlock
import Derived.Test.YtcpfhfdgfcilaaaGreatDoorB01
import Derived.Test.YtcpfhfdgfcilaaaGreatDoorB02
import Derived.Test.YtcpfhfdgfcilaaaGreatDoorB09
import Derived.Test.YtcpfhfdgfcilaaaGreatDoorB12
import Derived.Deep.RegionWith
import Derived.Test.YtcpfhfdgfcilaaaGreatDoorB05
import Derived.Deep.QuietTactic
import Derived.BigQuiet
namespace Go.Proofs.YtcpfhfdgfcilaaaGreatDoor.Val
open Go.ChangeShapes Go.WideShapes Go.ChangeAt Go.RowKit
open Tree (own_slice own_mono)
open Texts (cellsT cellsT_snoc)

end Go.Proofs.YtcpfhfdgfcilaaaGreatDoor.Val
namespace Go.Proofs.YtcpfhfdgfcilaaaGreatDoor.Val
open Go.ChangeShapes Go.WideShapes Go.ChangeAt Go.RowKit
open Tree
open Texts
theorem kids_lt {ns : List Nd} (a : Nat) : ∀ j, j < (kids ns a).length → (kids ns a).getD j 0 < ns.length := by
  have key : ∀ k, ∀ u ∈ kidsTo ns a k, u < k := by
    intro k
    induction k with
    | zero => intro u hu; cases hu
    | succ k ih =>
      intro u hu
      rw [kidsTo] at hu
      split at hu
      · rcases List.mem_append.1 hu with c | c
        · have := ih u c; omega
        · rw [List.mem_singleton] at c; omega
      · have := ih u hu; omega
  intro j hj
  refine key ns.length _ ?_
  rw [List.getD_eq_getElem?_getD, List.getElem?_eq_getElem hj]
  exact List.getElem_mem hj

theorem add_zero {x : Addr} {w : World} {v : Value} (h : w.cell? (x.add 0) = some v) : w.cell? x = some v := by
  rw [show x.add 0 = x from by unfold Addr.add; split <;> simp_all] at h
  exact h
theorem fitsZ_yes {ns : List Nd} {a : Nat} {v : ByteArray} (h : hasB ns (a : Int) = true) : fitsZ ns (a : Int) v = fitsF ns 8 a v := by
  unfold fitsZ
  unfold hasB at h
  rw [← Bool.and_assoc, h, Bool.true_and, Int.toNat_natCast]
end Go.Proofs.YtcpfhfdgfcilaaaGreatDoor.Val
namespace Go.Proofs.YtcpfhfdgfcilaaaGreatDoor.Arr
open Go.ChangeShapes Go.WideShapes Go.ChangeAt Go.RowKit
open Tree Val

/-- A reader in a box. -/
structure Rx (w : World) (g : Nat) (a : Arr) (o : Option Addr) (cap : Nat) (k : Int) (r : Option Addr) (n c : Nat) : Prop where
  blk : w.heap[g]? = some (.cells #[.int .i64 a.layout, .int .i64 a.offset, .int .i64 a.length, .string a.valid, .string a.ends, .string a.data, .slice o a.kids.length cap, .int .i64 k, .slice r n c] 71)
theorem Rx.lt {w : World} {g : Nat} {a : Arr} {o : Option Addr} {cap : Nat} {k : Int} {r : Option Addr} {n c : Nat} (h : Rx w g a o cap k r n c) : g < w.heap.size := (Array.getElem?_eq_some_iff.1 h.blk).1
theorem Rx.c0 {w : World} {g : Nat} {a : Arr} {o : Option Addr} {cap : Nat} {k : Int} {r : Option Addr} {n c : Nat} (h : Rx w g a o cap k r n c) : w.cell? ⟨g, 0, none⟩ = some (.int .i64 a.layout) := by simp [World.cell?, h.blk]
theorem Rx.c1 {w : World} {g : Nat} {a : Arr} {o : Option Addr} {cap : Nat} {k : Int} {r : Option Addr} {n c : Nat} (h : Rx w g a o cap k r n c) : w.cell? ⟨g, 1, none⟩ = some (.int .i64 a.offset) := by simp [World.cell?, h.blk]
theorem Rx.c2 {w : World} {g : Nat} {a : Arr} {o : Option Addr} {cap : Nat} {k : Int} {r : Option Addr} {n c : Nat} (h : Rx w g a o cap k r n c) : w.cell? ⟨g, 2, none⟩ = some (.int .i64 a.length) := by simp [World.cell?, h.blk]
theorem Rx.c3 {w : World} {g : Nat} {a : Arr} {o : Option Addr} {cap : Nat} {k : Int} {r : Option Addr} {n c : Nat} (h : Rx w g a o cap k r n c) : w.cell? ⟨g, 3, none⟩ = some (.string a.valid) := by simp [World.cell?, h.blk]
theorem Rx.c4 {w : World} {g : Nat} {a : Arr} {o : Option Addr} {cap : Nat} {k : Int} {r : Option Addr} {n c : Nat} (h : Rx w g a o cap k r n c) : w.cell? ⟨g, 4, none⟩ = some (.string a.ends) := by simp [World.cell?, h.blk]
theorem Rx.c5 {w : World} {g : Nat} {a : Arr} {o : Option Addr} {cap : Nat} {k : Int} {r : Option Addr} {n c : Nat} (h : Rx w g a o cap k r n c) : w.cell? ⟨g, 5, none⟩ = some (.string a.data) := by simp [World.cell?, h.blk]
theorem Rx.c6 {w : World} {g : Nat} {a : Arr} {o : Option Addr} {cap : Nat} {k : Int} {r : Option Addr} {n c : Nat} (h : Rx w g a o cap k r n c) : w.cell? ⟨g, 6, none⟩ = some (.slice o a.kids.length cap) := by simp [World.cell?, h.blk]
theorem Rx.c8 {w : World} {g : Nat} {a : Arr} {o : Option Addr} {cap : Nat} {k : Int} {r : Option Addr} {n c : Nat} (h : Rx w g a o cap k r n c) : w.cell? ⟨g, 8, none⟩ = some (.slice r n c) := by simp [World.cell?, h.blk]
theorem Rx.fz {w : World} {g : Nat} {a : Arr} {o : Option Addr} {cap : Nat} {k : Int} {r : Option Addr} {n c : Nat} (h : Rx w g a o cap k r n c) (j : Nat) : w.frozen? ⟨g, j, none⟩ = false := by simp [World.frozen?, h.blk]
theorem Rx.later {w : World} {g : Nat} {a : Arr} {o : Option Addr} {cap : Nat} {k : Int} {r : Option Addr} {n c : Nat} (h : Rx w g a o cap k r n c) {w' : World} (hb : Below w.heap.size w w') : Rx w' g a o cap k r n c := ⟨(hb.block g h.lt).trans h.blk⟩
end Go.Proofs.YtcpfhfdgfcilaaaGreatDoor.Arr
