/-
  A list of texts that came in, opened: what the walks of the laws over lists of texts are told. Over whatever program.
-/
import Derived.WalkKit
import Derived.ProofKit
import Derived.OpenShut
import Derived.ChangeOld
import Derived.Below
import Derived.SizedLaws
import Derived.SliceStrings
import Derived.OwnWalk
import Derived.Laws.OwnMore
namespace Go.Proofs.YtejgjipmnmfkcaaGreatDoor.Texts
open Go.ChangeShapes Go.WideShapes Go.ChangeAt Go.RowKit

/-- The texts lie so, a cell each, from a on. -/
def LiesT (w : World) (a : Addr) (ss : List ByteArray) : Prop := ∀ i, i < ss.length → w.cell? (a.add i) = some (.string (ss.getD i ByteArray.empty))
/-- A list of texts that came in: nil, or a row of 'cap' texts, 'len' of them its own. -/
def IsTexts (w : World) (a : Option Addr) (len cap : Nat) (ss : List ByteArray) : Prop :=
  (a = none ∧ len = 0 ∧ cap = 0 ∧ ss = []) ∨
  ∃ x, a = some x ∧ len ≤ cap ∧ cap ≤ maxLen ∧ ss.length = cap ∧ LiesT w x ss ∧ ∀ s ∈ ss, s.size ≤ maxLen

section
variable {H : Type} {enc : TypeId × Value → H} {P : Program} {w : World} {base : Nat} {held : Bool}

theorem open_texts {r : Reach} {b0 : Nat} {t e : TypeId} {v : Value} {d : DataW H} {ps : List MemPlace} (ht : P.underlying t = some (.slice e)) (he : P.underlying e = some .string) (ce : P.cellsOf e = 1)
    (hval : Value.okWide P w r b0 t v) (hd : DataW.Trod enc P w base (fun _ => true) held t v d ps) :
    ∃ a len cap ss, v = .slice a len cap ∧ IsTexts w a len cap ss ∧ (d = .nil ∧ cap = 0 ∨ d = .slice (strs (ss.take len)) (strs (ss.drop len)) ∧ ss.length = cap) := by
  obtain ⟨a, len, cap, rfl⟩ := okWide_slice ht hval
  obtain ⟨fuel, hf⟩ := hd
  rcases open_strings ht he ce hf with ⟨hcs, hx⟩ | ⟨x, len', cap', ss, hcs, _, hl, hm, hz, hx, hcell, hws⟩
  · have hcs' : [Value.slice a len cap] = [.slice none 0 0] := hcs
    injection hcs' with hcs' _
    injection hcs' with h1 h2 h3
    subst h1 h2 h3
    exact ⟨none, 0, 0, [], rfl, .inl ⟨rfl, rfl, rfl, rfl⟩, .inl ⟨(Prod.mk.inj hx).1, rfl⟩⟩
  · have hcs' : [Value.slice a len cap] = [.slice (some x) len' cap'] := hcs
    injection hcs' with hcs' _
    injection hcs' with h1 h2 h3
    subst h1 h2 h3
    rw [if_pos rfl] at hz
    exact ⟨some x, len, cap, ss, rfl, .inr ⟨x, rfl, hl, hm, hz, hcell, hws⟩, .inr ⟨(Prod.mk.inj hx).1, hz⟩⟩
theorem sized_texts {ts : List TypeId} {ds : List (DataW H)} (h : (DataW.weightsEach P ts ds).all (· ≤ reachBytes) = true) {j t e : Nat} {len cap : Nat} {ss : List ByteArray} {d : DataW H} (hj : ts[j]? = some t) (hd : ds[j]? = some d) (ht : P.underlying t = some (.slice e))
    (hy : d = .nil ∧ cap = 0 ∨ d = .slice (strs (ss.take len)) (strs (ss.drop len)) ∧ ss.length = cap) : cap * P.bytesOf e ≤ reachBytes := by
  rcases hy with ⟨_, rfl⟩ | ⟨rfl, hc⟩
  · simp
  · have := sized_slice h hj hd ht
    simp only [strs, List.length_map, List.length_take, List.length_drop] at this
    rw [show min len ss.length + (ss.length - len) = cap from by omega] at this
    exact this
end
/-- A list of texts, as a walk meets it. -/
def IsTx (w : World) (o : Option Addr) (ss : List ByteArray) : Prop := ss.length ≤ maxLen ∧ (ss = [] ∨ ∃ x, o = some x ∧ LiesT w x ss)
theorem IsTx.later {w w' : World} {o : Option Addr} {ss : List ByteArray} (h : IsTx w o ss) (hb : Below w.heap.size w w') : IsTx w' o ss :=
  ⟨h.1, h.2.imp id fun ⟨x, e, hl⟩ => ⟨x, e, fun i hi => (hb.cell (World.block_lt_of_cell? _ _ (hl i hi))).trans (hl i hi)⟩⟩
theorem getD_takeT (z : List ByteArray) (n i : Nat) (h : i < n) : (z.take n).getD i ByteArray.empty = z.getD i ByteArray.empty := by
  rw [List.getD_eq_getElem?_getD, List.getElem?_take, if_pos h, ← List.getD_eq_getElem?_getD]
/-- What came in, its own texts alone. -/
theorem isTx_of {w : World} {a : Option Addr} {len cap : Nat} {z : List ByteArray} (h : IsTexts w a len cap z) : ∃ ss : List ByteArray, len = ss.length ∧ ss = z.take len ∧ IsTx w a ss ∧ ss.length ≤ cap ∧ ∀ s ∈ ss, s.size ≤ maxLen := by
  rcases h with ⟨rfl, rfl, rfl, rfl⟩ | ⟨x, rfl, h1, h2, h3, h4, h5⟩
  · exact ⟨[], rfl, rfl, ⟨Nat.zero_le _, .inl rfl⟩, Nat.le_refl _, fun s hs => by cases hs⟩
  · have hl : (z.take len).length = len := by rw [List.length_take, h3, Nat.min_eq_left h1]
    refine ⟨z.take len, hl.symm, rfl, ⟨by omega, .inr ⟨x, rfl, fun i hi => ?_⟩⟩, by omega, fun s hs => h5 s (List.mem_of_mem_take hs)⟩
    rw [hl] at hi
    rw [getD_takeT z len i hi]
    exact h4 i (by omega)
/-- Texts as cells. -/
def cellsT (ss : List ByteArray) : List Value := ss.map Value.string
theorem cellsT_snoc (ss : List ByteArray) (s : ByteArray) : cellsT (ss ++ [s]) = cellsT ss ++ [.string s] := by simp [cellsT]
theorem cellsT_at (ss : List ByteArray) (i : Nat) (h : i < ss.length) : (cellsT ss)[i]? = some (.string (ss.getD i ByteArray.empty)) := by
  unfold cellsT
  rw [List.getElem?_map, List.getElem?_eq_getElem h, List.getD_eq_getElem?_getD, List.getElem?_eq_getElem h]
  rfl
/-- A row of one's own. -/
theorem own_texts {w : World} {b c : Nat} {T : TypeId} {o : Option Addr} {ss : List ByteArray} (h : w.ownsRow b T 1 (.slice o ss.length c) ss.length (cellsT ss)) : IsTx w o ss := by
  rcases h.2 with ⟨h0, h1⟩ | ⟨g, cap, cur, h0, _, _, hle, hm, _⟩
  · exact ⟨by rw [h1]; exact Nat.zero_le _, .inl (List.eq_nil_of_length_eq_zero h1)⟩
  · refine ⟨by omega, .inr ⟨⟨g, 0, none⟩, by injection h0, fun i hi => ?_⟩⟩
    injection h0 with h2 h3 h4
    subst h2 h4
    exact h.cells rfl _ _ (cellsT_at ss i hi)
end Go.Proofs.YtejgjipmnmfkcaaGreatDoor.Texts
