/-
  Several texts in one: Texts that a function value tells, one behind the other: gather: contracts. · In which run a place lies: run: contracts. · In which run a place lies, by the reader: run: contract. · A tree of readers, as it lies in memory.
-/
import Derived.Test.YtcpfhfdgfcilaaaGreatDoorB17
import Derived.Test.YtcpfhfdgfcilaaaGreatDoorB15
import Derived.Laws.MakeOwn
import Derived.Test.YtcpfhfdgfcilaaaGreatDoorB09
set_option linter.unusedVariables false
set_option linter.unusedSimpArgs false
namespace Go.Proofs.YtcpfhfdgfcilaaaGreatDoor.Arr
open Go.ChangeShapes Go.WideShapes Go.ChangeAt Go.RowKit
open Tree Val

/-- A row of texts, the first k of them told. -/
def fillL (G : Nat → List UInt8) (n k : Nat) : List Value := (List.range n).map fun j => if j < k then .string (mk (G j)) else .string ⟨#[]⟩
theorem fill_length (G : Nat → List UInt8) (n k : Nat) : (fillL G n k).length = n := by simp [fillL]
theorem fill_at (G : Nat → List UInt8) {n k j : Nat} (h : j < n) : (fillL G n k)[j]? = some (if j < k then .string (mk (G j)) else .string ⟨#[]⟩) := by
  unfold fillL
  rw [List.getElem?_map, List.getElem?_range h]
  rfl
theorem fill_all (G : Nat → List UInt8) (n : Nat) : fillL G n n = Texts.cellsT (told G n) := by
  unfold fillL Texts.cellsT told
  rw [List.map_map]
  exact List.map_congr_left fun j hj => by rw [if_pos (List.mem_range.1 hj)]; rfl
/-- The texts so far, in a block. -/
structure Fill (w : World) (g : Nat) (G : Nat → List UInt8) (n k : Nat) : Prop where
  blk : w.heap[g]? = some (.cells (fillL G n k).toArray 9 (0, 0))
theorem Fill.later {w w' : World} {g : Nat} {G : Nat → List UInt8} {n k : Nat} (h : Fill w g G n k) (hb : Below w.heap.size w w') : Fill w' g G n k := ⟨(hb.block g (Array.getElem?_eq_some_iff.1 h.blk).1).trans h.blk⟩
theorem Fill.cell {w : World} {g : Nat} {G : Nat → List UInt8} {n k : Nat} (h : Fill w g G n k) (hk : k < n) : w.cell? ⟨g, k, none⟩ = some (.string ⟨#[]⟩) := by
  have := fill_at G (n := n) (k := k) hk
  rw [if_neg (Nat.lt_irrefl _)] at this
  simp only [World.cell?, h.blk]
  rw [List.getElem?_toArray, this]
  rfl
theorem Fill.fz {w : World} {g : Nat} {G : Nat → List UInt8} {n k : Nat} (h : Fill w g G n k) (j : Nat) : w.frozen? ⟨g, j, none⟩ = false := by simp [World.frozen?, h.blk]
theorem Fill.done {w : World} {b g : Nat} {G : Nat → List UInt8} {n : Nat} (h : Fill w g G n n) (hb : b ≤ g) (hn : n ≤ 4096) : w.ownsRow b 9 1 (.slice (some ⟨g, 0, none⟩) n n) n (Texts.cellsT (told G n)) := by
  rw [← fill_all]
  refine ⟨by rw [fill_length]; omega, .inr ⟨g, n, _, rfl, hb, h.blk, Nat.le_refl _, by unfold maxLen; omega, by simp [fill_length], ?_⟩⟩
  rw [Nat.mul_one]
  have := fill_length G n n
  simp only [List.toList_toArray]
  rw [List.take_of_length_le (by omega)]
end Go.Proofs.YtcpfhfdgfcilaaaGreatDoor.Arr
set_option linter.unusedVariables false
set_option linter.unusedSimpArgs false
namespace Go.Proofs.YtcpfhfdgfcilaaaGreatDoor.Arr
open Go.ChangeShapes Go.WideShapes Go.ChangeAt Go.RowKit
open Tree Val

end Go.Proofs.YtcpfhfdgfcilaaaGreatDoor.Arr
set_option linter.unusedVariables false
set_option linter.unusedSimpArgs false
namespace Go.Proofs.YtcpfhfdgfcilaaaGreatDoor.Arr
open Go.ChangeShapes Go.WideShapes Go.ChangeAt Go.RowKit
open Tree Val

end Go.Proofs.YtcpfhfdgfcilaaaGreatDoor.Arr
namespace Go.Proofs.YtcpfhfdgfcilaaaGreatDoor.Arr
open Go.ChangeShapes Go.WideShapes Go.ChangeAt Go.RowKit
open Tree Val

/-- A reader's nine cells. -/
def rdCells (a : Arr) (o : Option Addr) (cap : Nat) (k : Int) (r : Option Addr) (n c : Nat) : List Value := [.int .i64 a.layout, .int .i64 a.offset, .int .i64 a.length, .string a.valid, .string a.ends, .string a.data, .slice o a.kids.length cap, .int .i64 k, .slice r n c]
/-- The node of an array's kid: of a dictionary, of runs its own. -/
def kidNode (ns : List Nd) (n : Nat) (a : Arr) (i : Nat) : Nat := if a.layout = 0 then kAt ns n i else n
/-- These cells are a reader's of an array of a node; so deep it goes. -/
def HoldsRd (w : World) (ns : List Nd) : Nat → Nat → List Value → Arr → Prop
  | 0, _, _, _ => False
  | f + 1, n, cs, a => ∃ (o : Option Addr) (cap : Nat) (r : Option Addr) (c : Nat), cs = rdCells a o cap (nd ns n).kind r a.kids.length c ∧
      (a.kids = [] ∨ ∃ g, r = some ⟨g, 0, none⟩ ∧ ∀ i, i < a.kids.length → ∃ cs', cs'.length = 9 ∧ (∀ j, j < 9 → w.cell? ⟨g, i * 9 + j, none⟩ = cs'[j]?) ∧ HoldsRd w ns f (kidNode ns n a i) cs' (kidAt a i))
theorem HoldsRd.later {w w' : World} {ns : List Nd} (hb : Below w.heap.size w w') : ∀ {f n : Nat} {cs : List Value} {a : Arr}, HoldsRd w ns f n cs a → HoldsRd w' ns f n cs a := by
  intro f
  induction f with
  | zero => intro n cs a h; cases h
  | succ f ih =>
    rintro n cs a ⟨o, cap, r, c, h1, h2⟩
    refine ⟨o, cap, r, c, h1, h2.imp id ?_⟩
    rintro ⟨g, e, hx⟩
    refine ⟨g, e, fun i hi => ?_⟩
    obtain ⟨cs', hl, hc, hh⟩ := hx i hi
    refine ⟨cs', hl, fun j hj => ?_, ih hh⟩
    have hv : cs'[j]? = some (cs'[j]'(by omega)) := List.getElem?_eq_getElem (by omega)
    have := hc j hj
    rw [hv] at this ⊢
    exact (hb.cell (World.block_lt_of_cell? _ _ this)).trans this
end Go.Proofs.YtcpfhfdgfcilaaaGreatDoor.Arr
