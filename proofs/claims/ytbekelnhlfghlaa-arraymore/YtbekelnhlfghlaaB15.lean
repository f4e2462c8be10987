/-
  Several texts in one: A list of texts that came in, opened: what the walks of the laws over lists of texts are told. Over whatever program. · A value's kind and what it has between its signs, by the places of a text: plain facts. · Values one behind the other in a text: plain facts; such values as cells. · The library's words for a number's digits and what digits are read as, and ours: plain facts. · A taker in a block; the worlds that a taker's work leads through; isDone, sign, upTo, number, digits, bytes: contracts. · The texts that values are made as; texts held against texts: contracts. · A taker's bytes: contracts. · What a taker takes: values, behind, take: contracts, by how deep a value stands. · What stands behind a value's first sign; take, at every depth: contracts. · The one value that a text is: only: contract. · The values in a list or in a struct: within: contract. · A value's kind and parts: taken.parts, Parts: contracts. · Which values fit a node, a step down: plain facts.
-/
import Derived.WalkKit
import Derived.ProofKit
import Derived.OpenShut
import Derived.ChangeOld
import Derived.Below
import Derived.SizedLaws
import Derived.SliceStrings
import Derived.OwnWalk
import Derived.Laws.OwnMore
import Derived.Test.YtbekelnhlfghlaaB03
import Derived.Lib.Bytealg
import Derived.Lib.ItoaNum
import Derived.Lib.ParseIntBTie
import Derived.Test.YtbekelnhlfghlaaRows
import Derived.RegionTactic
import Derived.ChangeAlike
import Derived.Deep.QuietTactic
import Derived.BigQuiet
import Derived.WalkSmall
import Derived.Lib.AppendIntMem
import Derived.Lib.AtoiErrMem
import Derived.Test.YtbekelnhlfghlaaB01
import Derived.Deep.RegionWith
namespace Go.Proofs.Ytbekelnhlfghlaa.Texts
open Go.ChangeShapes Go.WideShapes Go.ChangeAt Go.RowKit

/-- The texts lie so, a cell each, from a on. -/
def LiesT (w : World) (a : Addr) (ss : List ByteArray) : Prop := ∀ i, i < ss.length → w.cell? (a.add i) = some (.string (ss.getD i ByteArray.empty))
/-- A list of texts that came in: nil, or a row of 'cap' texts, 'len' of them its own. -/
def IsTexts (w : World) (a : Option Addr) (len cap : Nat) (ss : List ByteArray) : Prop :=
  (a = none ∧ len = 0 ∧ cap = 0 ∧ ss = []) ∨
  ∃ x, a = some x ∧ len ≤ cap ∧ cap ≤ maxLen ∧ ss.length = cap ∧ LiesT w x ss ∧ ∀ s ∈ ss, s.size ≤ maxLen

section
variable {H : Type} {enc : TypeId × Value → H} {P : Program} {w : World} {base : Nat} {held : Bool}

theorem open_texts {r : Reach} {b0 : Nat} {t e : TypeId} {v : Value} {d : DataW H} {ps : List MemPlace} (ht : P.underlying t = some (.slice e)) (he : P.underlying e = some .string) (ce : P.cellsOf e = 1)
    (hval : Value.okWide P w r b0 t v) (hd : DataW.Trod enc P w base (fun _ => true) held t v d ps) :
    ∃ a len cap ss, v = .slice a len cap ∧ IsTexts w a len cap ss ∧ (d = .nil ∧ cap = 0 ∨ d = .slice (strs (ss.take len)) (strs (ss.drop len)) ∧ ss.length = cap) := by
  obtain ⟨a, len, cap, rfl⟩ := okWide_slice ht hval
  obtain ⟨fuel, hf⟩ := hd
  rcases open_strings ht he ce hf with ⟨hcs, hx⟩ | ⟨x, len', cap', ss, hcs, _, hl, hm, hz, hx, hcell, hws⟩
  · have hcs' : [Value.slice a len cap] = [.slice none 0 0] := hcs
    injection hcs' with hcs' _
    injection hcs' with h1 h2 h3
    subst h1 h2 h3
    exact ⟨none, 0, 0, [], rfl, .inl ⟨rfl, rfl, rfl, rfl⟩, .inl ⟨(Prod.mk.inj hx).1, rfl⟩⟩
  · have hcs' : [Value.slice a len cap] = [.slice (some x) len' cap'] := hcs
    injection hcs' with hcs' _
    injection hcs' with h1 h2 h3
    subst h1 h2 h3
    rw [if_pos rfl] at hz
    exact ⟨some x, len, cap, ss, rfl, .inr ⟨x, rfl, hl, hm, hz, hcell, hws⟩, .inr ⟨(Prod.mk.inj hx).1, hz⟩⟩
theorem sized_texts {ts : List TypeId} {ds : List (DataW H)} (h : (DataW.weightsEach P ts ds).all (· ≤ reachBytes) = true) {j t e : Nat} {len cap : Nat} {ss : List ByteArray} {d : DataW H} (hj : ts[j]? = some t) (hd : ds[j]? = some d) (ht : P.underlying t = some (.slice e))
    (hy : d = .nil ∧ cap = 0 ∨ d = .slice (strs (ss.take len)) (strs (ss.drop len)) ∧ ss.length = cap) : cap * P.bytesOf e ≤ reachBytes := by
  rcases hy with ⟨_, rfl⟩ | ⟨rfl, hc⟩
  · simp
  · have := sized_slice h hj hd ht
    simp only [strs, List.length_map, List.length_take, List.length_drop] at this
    rw [show min len ss.length + (ss.length - len) = cap from by omega] at this
    exact this
end
/-- A list of texts, as a walk meets it. -/
def IsTx (w : World) (o : Option Addr) (ss : List ByteArray) : Prop := ss.length ≤ maxLen ∧ (ss = [] ∨ ∃ x, o = some x ∧ LiesT w x ss)
theorem IsTx.later {w w' : World} {o : Option Addr} {ss : List ByteArray} (h : IsTx w o ss) (hb : Below w.heap.size w w') : IsTx w' o ss :=
  ⟨h.1, h.2.imp id fun ⟨x, e, hl⟩ => ⟨x, e, fun i hi => (hb.cell (World.block_lt_of_cell? _ _ (hl i hi))).trans (hl i hi)⟩⟩
theorem getD_takeT (z : List ByteArray) (n i : Nat) (h : i < n) : (z.take n).getD i ByteArray.empty = z.getD i ByteArray.empty := by
  rw [List.getD_eq_getElem?_getD, List.getElem?_take, if_pos h, ← List.getD_eq_getElem?_getD]
/-- What came in, its own texts alone. -/
theorem isTx_of {w : World} {a : Option Addr} {len cap : Nat} {z : List ByteArray} (h : IsTexts w a len cap z) : ∃ ss : List ByteArray, len = ss.length ∧ ss = z.take len ∧ IsTx w a ss ∧ ss.length ≤ cap ∧ ∀ s ∈ ss, s.size ≤ maxLen := by
  rcases h with ⟨rfl, rfl, rfl, rfl⟩ | ⟨x, rfl, h1, h2, h3, h4, h5⟩
  · exact ⟨[], rfl, rfl, ⟨Nat.zero_le _, .inl rfl⟩, Nat.le_refl _, fun s hs => by cases hs⟩
  · have hl : (z.take len).length = len := by rw [List.length_take, h3, Nat.min_eq_left h1]
    refine ⟨z.take len, hl.symm, rfl, ⟨by omega, .inr ⟨x, rfl, fun i hi => ?_⟩⟩, by omega, fun s hs => h5 s (List.mem_of_mem_take hs)⟩
    rw [hl] at hi
    rw [getD_takeT z len i hi]
    exact h4 i (by omega)
/-- Texts as cells. -/
def cellsT (ss : List ByteArray) : List Value := ss.map Value.string
theorem cellsT_snoc (ss : List ByteArray) (s : ByteArray) : cellsT (ss ++ [s]) = cellsT ss ++ [.string s] := by simp [cellsT]
theorem cellsT_at (ss : List ByteArray) (i : Nat) (h : i < ss.length) : (cellsT ss)[i]? = some (.string (ss.getD i ByteArray.empty)) := by
  unfold cellsT
  rw [List.getElem?_map, List.getElem?_eq_getElem h, List.getD_eq_getElem?_getD, List.getElem?_eq_getElem h]
  rfl
/-- A row of one's own. -/
theorem own_texts {w : World} {b c : Nat} {T : TypeId} {o : Option Addr} {ss : List ByteArray} (h : w.ownsRow b T 1 (.slice o ss.length c) ss.length (cellsT ss)) : IsTx w o ss := by
  rcases h.2 with ⟨h0, h1⟩ | ⟨g, cap, cur, h0, _, _, hle, hm, _⟩
  · exact ⟨by rw [h1]; exact Nat.zero_le _, .inl (List.eq_nil_of_length_eq_zero h1)⟩
  · refine ⟨by omega, .inr ⟨⟨g, 0, none⟩, by injection h0, fun i hi => ?_⟩⟩
    injection h0 with h2 h3 h4
    subst h2 h4
    exact h.cells rfl _ _ (cellsT_at ss i hi)
end Go.Proofs.Ytbekelnhlfghlaa.Texts
namespace Go.Proofs.Ytbekelnhlfghlaa.Val

def kindOf : List UInt8 → Int
  | [] => 0
  | b :: _ => if b = 110 then -1 else if b = 105 then 0 else if b = 115 then 2 else if b = 91 then 3 else if b = 123 then 4 else 1
def bodyOf : List UInt8 → List UInt8
  | [] => []
  | b :: r => if b = 110 then [] else if b = 105 ∨ b = 91 ∨ b = 123 then r.dropLast else if b = 115 then (match seek 58 r with | none => [] | some j => r.drop (j + 1)) else [b]
theorem bodyOf_s (r : List UInt8) : bodyOf (115 :: r) = match seek 58 r with | none => [] | some j => r.drop (j + 1) := by
  rw [bodyOf, if_neg (by decide), if_neg (by decide), if_pos rfl]
theorem bl_cut (s : ByteArray) (p q : Nat) (hp : p < s.size) (hq : p < q) : bl (s.extract p q) = s[p] :: ((bl s).drop (p + 1)).take (q - p - 1) := by
  rw [← take_drop_extract, bl_drop s p hp]
  obtain ⟨m, hm⟩ : ∃ m, q - p = m + 1 := ⟨q - p - 1, by omega⟩
  rw [hm]
  rfl
theorem bl_part (s : ByteArray) (p q : Nat) : bl (s.extract p q) = ((bl s).drop p).take (q - p) := (take_drop_extract s p q).symm
theorem dropLast_part (s : ByteArray) (p q : Nat) (hp : p ≤ q) (hq : q < s.size) : (((bl s).drop p).take (q + 1 - p)).dropLast = bl (s.extract p q) := by
  rw [bl_part, List.dropLast_eq_take, List.length_take, List.length_drop, bl_length, List.take_take]
  congr 1
  omega
theorem take_word {s : ByteArray} {p : Nat} (hp : p < s.size) (hb : s[p] = 110 ∨ s[p] = 116 ∨ s[p] = 102) (d : Nat) : val d ((bl s).drop p) = some 1 := by
  rw [bl_drop s p hp]
  exact val_is (.word _ _ hb)
theorem one_byte {s : ByteArray} {p : Nat} (hp : p < s.size) : bl (s.extract p (p + 1)) = [s[p]] := by
  rw [bl_cut s p (p + 1) hp (by omega), show p + 1 - p - 1 = 0 from by omega]
  rfl
theorem val_num {s : ByteArray} {p : Nat} (hp : p < s.size) (hb : s[p] = 105) (d : Nat) : val d ((bl s).drop p) = (numAt 59 ((bl s).drop (p + 1))).map (fun q => q.1 + 2) := by
  rw [bl_drop s p hp, hb, val_below, valStep, if_neg (by decide), if_pos rfl]
theorem int_yes {s : ByteArray} {p j : Nat} {x : Int} (hp : p < s.size) (hb : s[p] = 105) (h : numAt 59 ((bl s).drop (p + 1)) = some (j, x)) (d : Nat) :
    val d ((bl s).drop p) = some (p + 1 + j + 1 - p) ∧ kindOf (bl (s.extract p (p + 1 + j + 1))) = 0 ∧ bodyOf (bl (s.extract p (p + 1 + j + 1))) = bl (s.extract (p + 1) (p + 1 + j)) ∧ p + 1 + j < s.size := by
  have hj := numAt_lt h
  rw [List.length_drop, bl_length] at hj
  refine ⟨?_, ?_, ?_, by omega⟩
  · rw [val_num hp hb, h, Option.map_some]
    congr 1
    show j + 2 = _
    omega
  · rw [bl_cut s p _ hp (by omega), hb]
    rfl
  · rw [bl_cut s p _ hp (by omega), hb]
    show (((bl s).drop (p + 1)).take (p + 1 + j + 1 - p - 1)).dropLast = _
    rw [show p + 1 + j + 1 - p - 1 = p + 1 + j + 1 - (p + 1) from by omega]
    exact dropLast_part s (p + 1) (p + 1 + j) (by omega) (by omega)
theorem int_no {s : ByteArray} {p : Nat} (hp : p < s.size) (hb : s[p] = 105) (h : numAt 59 ((bl s).drop (p + 1)) = none) (d : Nat) : val d ((bl s).drop p) = none := by
  rw [val_num hp hb, h]
  rfl
theorem val_cnt {s : ByteArray} {p : Nat} (hp : p < s.size) (hb : s[p] = 115) (d : Nat) : val d ((bl s).drop p) = (numAt 58 ((bl s).drop (p + 1))).bind (fun q => if 0 ≤ q.2 ∧ q.2 ≤ ((((bl s).drop (p + 1)).length : Nat) : Int) - q.1 - 1 then some (q.1 + 2 + q.2.toNat) else none) := by
  rw [bl_drop s p hp, hb, val_below, valStep, if_neg (by decide), if_neg (by decide), if_pos rfl]
theorem cnt_yes {s : ByteArray} {p j n : Nat} (hp : p < s.size) (hb : s[p] = 115) (h : numAt 58 ((bl s).drop (p + 1)) = some (j, (n : Int))) (hn : p + 1 + j + 1 + n ≤ s.size) (d : Nat) :
    val d ((bl s).drop p) = some (p + 1 + j + 1 + n - p) ∧ kindOf (bl (s.extract p (p + 1 + j + 1 + n))) = 2 ∧ bodyOf (bl (s.extract p (p + 1 + j + 1 + n))) = bl (s.extract (p + 1 + j + 1) (p + 1 + j + 1 + n)) := by
  refine ⟨?_, ?_, ?_⟩
  · rw [val_cnt hp hb, h, Option.bind_some, List.length_drop, bl_length]
    show (if 0 ≤ (n : Int) ∧ (n : Int) ≤ ((s.size - (p + 1) : Nat) : Int) - (j : Int) - 1 then some (j + 2 + ((n : Int)).toNat) else none) = _
    rw [if_pos (by omega)]
    congr 1
    omega
  · rw [bl_cut s p _ hp (by omega), hb]
    rfl
  · rw [bl_cut s p _ hp (by omega), hb]
    have hs : seek 58 (((bl s).drop (p + 1)).take (p + 1 + j + 1 + n - p - 1)) = some j := seek_take (numAt_some.1 h).1 (by omega)
    rw [bodyOf_s, hs]
    show (((bl s).drop (p + 1)).take (p + 1 + j + 1 + n - p - 1)).drop (j + 1) = _
    rw [bl_part, List.drop_take, List.drop_drop]
    congr 1
    · omega
theorem cnt_no {s : ByteArray} {p : Nat} (hp : p < s.size) (hb : s[p] = 115) (h : ∀ (j n : Nat), numAt 58 ((bl s).drop (p + 1)) = some (j, (n : Int)) → s.size < p + 1 + j + 1 + n) (d : Nat) : val d ((bl s).drop p) = none := by
  rw [val_cnt hp hb]
  cases c : numAt 58 ((bl s).drop (p + 1)) with
  | none => rfl
  | some y =>
    obtain ⟨j, x⟩ := y
    rw [Option.bind_some]
    have hj := numAt_lt c
    rw [List.length_drop, bl_length] at hj ⊢
    show (if 0 ≤ x ∧ x ≤ ((s.size - (p + 1) : Nat) : Int) - (j : Int) - 1 then some (j + 2 + x.toNat) else none) = none
    rw [if_neg]
    intro hx
    obtain ⟨n, rfl⟩ : ∃ n : Nat, x = (n : Int) := ⟨x.toNat, by omega⟩
    have := h j n c
    omega
theorem nest_yes {s : ByteArray} {p q d : Nat} (hp : p < s.size) (hb : s[p] = 91 ∨ s[p] = 123) (h : manyZ (below d) (s[p] + 2) s (p + 1) = (q : Int)) :
    val d ((bl s).drop p) = some (q - p) ∧ p + 1 < q ∧ q ≤ s.size ∧ kindOf (bl (s.extract p q)) = (if s[p] = 91 then 3 else 4) ∧ bodyOf (bl (s.extract p q)) = bl (s.extract (p + 1) (q - 1)) := by
  have hz := endZ_nest (d := d) hp hb
  rw [h] at hz
  rcases endO_cases (fair_val d) s p hp with ⟨e, _⟩ | ⟨q', e, h1, h2, h3⟩
  · rw [show endZ d s p = endO (val d) s p from rfl, e] at hz
    omega
  · rw [show endZ d s p = endO (val d) s p from rfl, e] at hz
    obtain rfl : q' = q := by omega
    have h4 : p + 1 < q' := by
      unfold manyZ at h
      cases hm : many (below d) (s[p] + 2) (s.size - (p + 1) + 1) ((bl s).drop (p + 1)) with
      | none =>
        rw [hm] at h
        have h' : (-1 : Int) = (q' : Int) := h
        omega
      | some k =>
        rw [hm] at h
        have := (many_pos (fair_below d) _ _ _ _ hm).1
        have h' : ((p + 1 + k : Nat) : Int) = (q' : Int) := h
        omega
    refine ⟨h3, h4, h2, ?_, ?_⟩
    · rw [bl_cut s p _ hp (by omega)]
      rcases hb with e | e
      · rw [e]
        rfl
      · rw [e]
        rfl
    · rw [bl_cut s p _ hp (by omega)]
      have e2 : (((bl s).drop (p + 1)).take (q' - p - 1)).dropLast = bl (s.extract (p + 1) (q' - 1)) := by
        have := dropLast_part s (p + 1) (q' - 1) (by omega) (by omega)
        rw [show q' - 1 + 1 - (p + 1) = q' - p - 1 from by omega] at this
        exact this
      rcases hb with e | e
      · rw [e]
        exact e2
      · rw [e]
        exact e2
theorem nest_no {s : ByteArray} {p d : Nat} (hp : p < s.size) (hb : s[p] = 91 ∨ s[p] = 123) (h : manyZ (below d) (s[p] + 2) s (p + 1) = -1) : val d ((bl s).drop p) = none := by
  have hz := endZ_nest (d := d) hp hb
  rw [h] at hz
  rcases endO_cases (fair_val d) s p hp with ⟨_, e⟩ | ⟨q', e, _⟩
  · exact e
  · rw [show endZ d s p = endO (val d) s p from rfl, e] at hz
    omega
theorem other_no {s : ByteArray} {p : Nat} (h : p < s.size) (hb : s[p] ≠ 110 ∧ s[p] ≠ 116 ∧ s[p] ≠ 102 ∧ s[p] ≠ 105 ∧ s[p] ≠ 115 ∧ s[p] ≠ 91 ∧ s[p] ≠ 123) (d : Nat) : val d ((bl s).drop p) = none := by
  have hz := endZ_other (d := d) h hb
  rcases endO_cases (fair_val d) s p h with ⟨_, e⟩ | ⟨q', e, _⟩
  · exact e
  · rw [show endZ d s p = endO (val d) s p from rfl, e] at hz
    omega
end Go.Proofs.Ytbekelnhlfghlaa.Val
namespace Go.Proofs.Ytbekelnhlfghlaa.Val

def flat (vs : List ByteArray) : List UInt8 := (vs.map bl).flatten
/-- Where the value of a number begins. -/
def pos (vs : List ByteArray) (i : Nat) : Nat := (flat (vs.take i)).length
/-- A text is these values. -/
structure Row4 (c : ByteArray) (vs : List ByteArray) : Prop where
  eq : bl c = flat vs
  each : ∀ v ∈ vs, val 4 (bl v) = some v.size
theorem flat_app (a b : List ByteArray) : flat (a ++ b) = flat a ++ flat b := by unfold flat; rw [List.map_append, List.flatten_append]
theorem flat_one (v : ByteArray) : flat [v] = bl v := by simp [flat]
theorem getD_text (vs : List ByteArray) (i : Nat) (h : i < vs.length) : vs.getD i ByteArray.empty = vs[i] := by rw [List.getD_eq_getElem?_getD, List.getElem?_eq_getElem h]; rfl
theorem take_text (vs : List ByteArray) (i : Nat) (h : i < vs.length) : vs.take (i + 1) = vs.take i ++ [vs.getD i ByteArray.empty] := by rw [List.take_succ_eq_append_getElem h, getD_text vs i h]
theorem pos_succ (vs : List ByteArray) (i : Nat) (h : i < vs.length) : pos vs (i + 1) = pos vs i + (vs.getD i ByteArray.empty).size := by
  unfold pos
  rw [take_text vs i h, flat_app, List.length_append, flat_one, bl_length]
theorem pos_zero (vs : List ByteArray) : pos vs 0 = 0 := rfl
theorem Row4.last {c : ByteArray} {vs : List ByteArray} (h : Row4 c vs) : pos vs vs.length = c.size := by
  unfold pos
  rw [List.take_length, ← h.eq, bl_length]
theorem Row4.cut {c : ByteArray} {vs : List ByteArray} (h : Row4 c vs) (i : Nat) (hi : i < vs.length) : (bl c).drop (pos vs i) = bl (vs.getD i ByteArray.empty) ++ flat (vs.drop (i + 1)) := by
  have e : vs = vs.take i ++ (vs.getD i ByteArray.empty :: vs.drop (i + 1)) := by
    rw [getD_text vs i hi, ← List.drop_eq_getElem_cons hi, List.take_append_drop]
  have e2 : flat vs = flat (vs.take i) ++ (bl (vs.getD i ByteArray.empty) ++ flat (vs.drop (i + 1))) := by
    rw [show flat vs = flat (vs.take i ++ (vs.getD i ByteArray.empty :: vs.drop (i + 1))) from by rw [← e], flat_app]
    rfl
  rw [h.eq, e2]
  unfold pos
  rw [List.drop_append_of_le_length (Nat.le_refl _), List.drop_length]
  rfl
theorem getD_memT (vs : List ByteArray) (i : Nat) (h : i < vs.length) : vs.getD i ByteArray.empty ∈ vs := by
  rw [getD_text vs i h]
  exact List.getElem_mem h
theorem Row4.at {c : ByteArray} {vs : List ByteArray} (h : Row4 c vs) (i : Nat) (hi : i < vs.length) :
    val 4 ((bl c).drop (pos vs i)) = some (vs.getD i ByteArray.empty).size ∧ c.extract (pos vs i) (pos vs i + (vs.getD i ByteArray.empty).size) = vs.getD i ByteArray.empty := by
  have hc := h.cut i hi
  constructor
  · rw [hc]
    exact (fair_val 4).ext _ _ _ (h.each _ (getD_memT vs i hi))
  · apply bl_inj
    rw [bl_part, hc, Nat.add_sub_cancel_left, ← bl_length, List.take_append_of_le_length (Nat.le_refl _), List.take_length]
theorem Row4.pos_le {c : ByteArray} {vs : List ByteArray} (h : Row4 c vs) (i : Nat) : pos vs i ≤ c.size := by
  rw [← bl_length, h.eq]
  unfold pos
  rw [show flat vs = flat (vs.take i ++ vs.drop i) from by rw [List.take_append_drop], flat_app, List.length_append]
  omega
theorem size_pos {v : ByteArray} (h : val 4 (bl v) = some v.size) : 1 ≤ v.size := ((fair_val 4).pos _ _ h).1
theorem Row4.le_pos {c : ByteArray} {vs : List ByteArray} (h : Row4 c vs) : ∀ i, i ≤ vs.length → i ≤ pos vs i := by
  intro i
  induction i with
  | zero => intro _; exact Nat.zero_le _
  | succ i ih =>
    intro hi
    have := ih (by omega)
    have := size_pos (h.each _ (getD_memT vs i hi))
    rw [pos_succ vs i hi]
    omega
theorem Row4.len {c : ByteArray} {vs : List ByteArray} (h : Row4 c vs) : vs.length ≤ c.size := by
  rw [← h.last]
  exact h.le_pos _ (Nat.le_refl _)
/-- What a value has between its signs, as a text. -/
def bodyS (v : ByteArray) : ByteArray := ⟨(bodyOf (bl v)).toArray⟩
theorem bodyS_eq {c v : ByteArray} (h : bl c = bodyOf (bl v)) : c = bodyS v := bl_inj (by rw [h]; exact (bl_mk _).symm)
theorem bl_bodyS (v : ByteArray) : bl (bodyS v) = bodyOf (bl v) := bl_mk _
/-- Values as cells. -/
def cellsK (vs : List ByteArray) : List Value := vs.flatMap fun v => [.int .i64 (kindOf (bl v)), .string v, .string (bodyS v)]
theorem cellsK_snoc (vs : List ByteArray) (v : ByteArray) : cellsK (vs ++ [v]) = cellsK vs ++ [.int .i64 (kindOf (bl v)), .string v, .string (bodyS v)] := by
  unfold cellsK
  rw [List.flatMap_append]
  rfl
/-- The values in a list or a struct. -/
theorem row_of_nest {v : List UInt8} {d : Nat} (hd : d ≤ 4) (h : val d v = some v.length) (hk : kindOf v = 3 ∨ kindOf v = 4) : ∃ ps : List (List UInt8), bodyOf v = ps.flatten ∧ (∀ p ∈ ps, val 4 p = some p.length) ∧ (∀ p ∈ ps, below d p = some p.length) ∧ (kindOf v = 3 → v = listM ps) ∧ (kindOf v = 4 → v = structM ps) := by
  rw [val_below] at h
  rcases valStep_is h with ⟨b, r, rfl, hh, _⟩ | ⟨r, j, x, rfl, hh, _⟩ | ⟨r, j, n, rfl, hh, hn, _⟩ | ⟨b, r, m, f, rfl, hb, hh, hl⟩
  · rcases hh with rfl | rfl | rfl
    · rcases hk with c | c <;> exact absurd c (by show ¬ ((-1 : Int) = _); decide)
    · rcases hk with c | c <;> exact absurd c (by show ¬ ((1 : Int) = _); decide)
    · rcases hk with c | c <;> exact absurd c (by show ¬ ((1 : Int) = _); decide)
  · rcases hk with c | c <;> exact absurd c (by show ¬ ((0 : Int) = _); decide)
  · rcases hk with c | c <;> exact absurd c (by show ¬ ((2 : Int) = _); decide)
  · have hm : m = r.length := by simpa using hl.symm
    have h1 := many_fuel (fair_below d) _ _ _ _ (r.length + 1) hh (by omega)
    have h2 := items_flat _ _ _ _ h1
    rw [hm, List.take_length] at h2
    have h3 := items_each (fair_below d) _ _ _ _ h1
    have h4 : ∀ p ∈ items (below d) (b + 2) (r.length + 1) r, val 4 p = some p.length := by
      intro p hp
      have := h3 p hp
      cases d with
      | zero => cases this
      | succ d => exact val_up d 4 (by omega) _ _ this
    refine ⟨items (below d) (b + 2) (r.length + 1) r, ?_, h4, h3, ?_, ?_⟩
    · rcases hb with rfl | rfl
      · show r.dropLast = _
        rw [← h2, List.dropLast_concat]
        rw [h2]
      · show r.dropLast = _
        rw [← h2, List.dropLast_concat]
        rw [h2]
    · intro c
      rcases hb with rfl | rfl
      · unfold listM
        rw [show (93 : UInt8) = 91 + 2 from rfl, h2]
      · exact absurd c (by show ¬ ((4 : Int) = _); decide)
    · intro c
      rcases hb with rfl | rfl
      · exact absurd c (by show ¬ ((3 : Int) = _); decide)
      · unfold structM
        rw [show (125 : UInt8) = 123 + 2 from rfl, h2]
end Go.Proofs.Ytbekelnhlfghlaa.Val
namespace Go.Proofs.Ytbekelnhlfghlaa.Val

theorem dec_dig : ∀ n, n < 10 ^ 20 → Lib.decDigits n = dig n := by
  intro n
  induction n using Nat.strongRecOn with
  | _ n ih =>
    intro hn
    rw [Lib.decDigits]
    by_cases h : n < 10
    · rw [dif_pos h, dig_low n h]
    · rw [dif_neg h, dig_high n (by omega) hn, ih (n / 10) (by omega) (by omega)]
theorem itoa_intD (x : Int) (h : in64 x) : Lib.itoa x = intD x := by
  unfold Lib.itoa intD in64 at *
  by_cases c : x < 0
  · rw [if_pos c, if_neg (by omega), dec_dig _ (by omega), show x.natAbs = (-x).toNat from by omega]
  · rw [if_neg c, if_pos (by omega), dec_dig _ (by omega)]
/-- What digits count to, from a number on. -/
def foldN (a : Nat) (l : List UInt8) : Nat := l.foldl (fun a b => a * 10 + (b.toNat - 48)) a
theorem foldN_snoc (a : Nat) (l : List UInt8) (b : UInt8) : foldN a (l ++ [b]) = foldN a l * 10 + (b.toNat - 48) := by
  unfold foldN
  rw [List.foldl_append]
  rfl
theorem foldN_le (l : List UInt8) : ∀ a, a ≤ foldN a l := by
  induction l with
  | nil => intro a; exact Nat.le_refl _
  | cons b l ih =>
    intro a
    have := ih (a * 10 + (b.toNat - 48))
    show a ≤ foldN (a * 10 + (b.toNat - 48)) l
    omega
theorem foldN_dig : ∀ n, n < 10 ^ 20 → foldN 0 (dig n) = n := by
  intro n
  induction n using Nat.strongRecOn with
  | _ n ih =>
    intro hn
    by_cases h : n < 10
    · rw [dig_low n h]
      show 0 * 10 + ((UInt8.ofNat (48 + n)).toNat - 48) = n
      rw [byte_nat _ (by omega)]
      omega
    · rw [dig_high n (by omega) hn, foldN_snoc, ih (n / 10) (by omega) (by omega), byte_nat _ (by omega)]
      omega
theorem parseM (l : List UInt8) : ∀ a, (∀ b ∈ l, 48 ≤ b.toNat ∧ b.toNat ≤ 57) → foldN a l ≤ 18446744073709551615 → Lib.parseUintM 18446744073709551615 a l = .ok (foldN a l) := by
  induction l with
  | nil => intro a _ _; rfl
  | cons b l ih =>
    intro a hd hf
    have hb := hd b List.mem_cons_self
    have h1 : foldN a (b :: l) = foldN (a * 10 + (b.toNat - 48)) l := rfl
    rw [h1] at hf ⊢
    have h2 := foldN_le l (a * 10 + (b.toNat - 48))
    rw [Lib.parseUintM, if_pos hb, if_neg (by omega), if_neg (by omega)]
    exact ih _ (fun x hx => hd x (List.mem_cons_of_mem _ hx)) hf
theorem parseU_dig (n : Nat) (h : n ≤ 18446744073709551615) : Lib.parseUintB 64 (dig n) = .ok n := by
  unfold Lib.parseUintB
  have e : (2 : Nat) ^ 64 - 1 = 18446744073709551615 := by decide
  rw [if_neg (dig_ne n), e, parseM _ _ (dig_digit n) (by rw [foldN_dig n (by omega)]; exact h), foldN_dig n (by omega)]
theorem parse_intD (x : Int) (h : in64 x) : Lib.parseIntB 64 (intD x) = .ok x := by
  unfold in64 at h
  have e : (2 : Nat) ^ (64 - 1) = 9223372036854775808 := by decide
  unfold intD
  by_cases c : 0 ≤ x
  · rw [if_pos c]
    have hp := parseU_dig x.toNat (by omega)
    cases hd : dig x.toNat with
    | nil => exact absurd hd (dig_ne _)
    | cons b r =>
      have hb := dig_digit x.toNat b (by rw [hd]; exact List.mem_cons_self)
      rw [Lib.parseIntB_plain 64 b r (by omega) (by omega), ← hd, hp, e]
      unfold Lib.signlessC
      simp only
      rw [if_neg (by omega)]
      congr 1
      omega
  · rw [if_neg c, Lib.parseIntB_minus, parseU_dig _ (by omega), e]
    unfold Lib.signedC
    simp only
    rw [if_neg (by omega)]
    congr 1
    omega
theorem parse_none {l : List UInt8} (h : numOf l = none) {v : Int} (hv : Lib.parseIntB 64 l = .ok v) : Lib.itoa v ≠ l ∧ in64 v := by
  have hb := Lib.parseIntB_bounds hv
  have e : (2 : Nat) ^ (64 - 1) = 9223372036854775808 := by decide
  rw [e] at hb
  have hi : in64 v := ⟨by omega, by omega⟩
  refine ⟨?_, hi⟩
  rw [itoa_intD v hi]
  exact numOf_none.1 h v hi
theorem parse_some {l : List UInt8} {x : Int} (h : numOf l = some x) : Lib.parseIntB 64 l = .ok x ∧ Lib.itoa x = l ∧ in64 x := by
  obtain ⟨h1, h2⟩ := numOf_some.1 h
  exact ⟨by rw [← h2]; exact parse_intD x h1, by rw [itoa_intD x h1]; exact h2, h1⟩
/-- The first place of a sign, in the library's words. -/
theorem index_seek (c : UInt8) : ∀ l : List UInt8, Lib.indexByte l c = match seek c l with | none => -1 | some k => (k : Int)
  | [] => rfl
  | b :: l => by
    rw [Lib.indexByte, seek, index_seek c l]
    by_cases e : b = c
    · rw [if_pos e, if_pos (by rw [e]; exact beq_self_eq_true c)]
      rfl
    · rw [if_neg e, if_neg (by rw [beq_iff_eq]; exact e)]
      cases seek c l with
      | none => rfl
      | some k =>
        show (if ((k : Int) == -1) = true then -1 else (k : Int) + 1) = ((k + 1 : Nat) : Int)
        rw [if_neg (by rw [beq_iff_eq]; omega)]
        omega
end Go.Proofs.Ytbekelnhlfghlaa.Val
namespace Go.Proofs.Ytbekelnhlfghlaa.Val
open Go.ChangeShapes Go.WideShapes Go.ChangeAt Go.RowKit

/-- A taker of a text, so far come. -/
structure Tk (w : World) (b : Nat) (s : ByteArray) (p : Nat) : Prop where
  blk : w.heap[b]? = some (.cells #[.string s, .int .i64 (p : Int)] 66 (0, 0))
theorem Tk.lt {w : World} {b : Nat} {s : ByteArray} {p : Nat} (h : Tk w b s p) : b < w.heap.size := by
  by_cases c : b < w.heap.size
  · exact c
  · have := h.blk
    rw [Array.getElem?_eq_none (by omega)] at this
    cases this
theorem Tk.text {w : World} {b : Nat} {s : ByteArray} {p : Nat} (h : Tk w b s p) : w.cell? ⟨b, 0, none⟩ = some (.string s) := by simp [World.cell?, h.blk]
theorem Tk.at {w : World} {b : Nat} {s : ByteArray} {p : Nat} (h : Tk w b s p) : w.cell? ⟨b, 1, none⟩ = some (.int .i64 (p : Int)) := by simp [World.cell?, h.blk]
theorem Tk.fz {w : World} {b : Nat} {s : ByteArray} {p : Nat} (h : Tk w b s p) : w.frozen? ⟨b, 1, none⟩ = false := by simp [World.frozen?, h.blk]
theorem Tk.set {w : World} {b : Nat} {s : ByteArray} {p : Nat} (h : Tk w b s p) (q : Nat) : Tk (w.setCell ⟨b, 1, none⟩ (.int .i64 (q : Int))) b s q := by
  refine ⟨?_⟩
  simp only [World.setCell, Array.getElem?_modify, if_true, h.blk, Option.map_some]
  rfl
/-- What stands but for one block. -/
structure Mv (b : Nat) (w w' : World) : Prop where
  os : w'.os = w.os
  tape : w'.tape = w.tape
  output : w'.output = w.output
  size : w.heap.size ≤ w'.heap.size
  block : ∀ k, k < w.heap.size → k ≠ b → w'.heap[k]? = w.heap[k]?
theorem Mv.refl (b : Nat) (w : World) : Mv b w w := ⟨rfl, rfl, rfl, Nat.le_refl _, fun _ _ _ => rfl⟩
theorem Mv.trans {b : Nat} {u v w : World} (h : Mv b u v) (k : Mv b v w) : Mv b u w :=
  ⟨k.os.trans h.os, k.tape.trans h.tape, k.output.trans h.output, Nat.le_trans h.size k.size, fun i hi hb => (k.block i (Nat.lt_of_lt_of_le hi h.size) hb).trans (h.block i hi hb)⟩
theorem Mv.of {b : Nat} {w w' : World} (h : Below w.heap.size w w') : Mv b w w' := ⟨h.os, h.tape, h.output, h.size, fun k hk _ => h.block k hk⟩
theorem Mv.set (b : Nat) (w : World) (o : Nat) (v : Value) : Mv b w (w.setCell ⟨b, o, none⟩ v) := ⟨rfl, rfl, rfl, by simp [World.setCell], fun k _ hk => Below.heap_setCell _ _ _ _ hk⟩
theorem Mv.below {b B : Nat} {w w' : World} (h : Mv b w w') (hB : B ≤ b) (hw : B ≤ w.heap.size) : Below B w w' := ⟨h.os, h.tape, h.output, h.size, fun k hk => h.block k (by omega) (by omega)⟩
theorem Tk.later {w w' : World} {b : Nat} {s : ByteArray} {p : Nat} (h : Tk w b s p) (hb : Below w.heap.size w w') : Tk w' b s p := ⟨(hb.block b h.lt).trans h.blk⟩
theorem drewN_below (w : World) (n : Nat) : Below w.heap.size w (w.drewN n) := below_drewN (Below.refl _ _) n
theorem bel2 {a b c : World} (h : Below a.heap.size a b) (k : Below b.heap.size b c) : Below a.heap.size a c := h.trans (k.mono h.size)

theorem Tk.go {w : World} {b : Nat} {s : ByteArray} {p : Nat} (h : Tk w b s p) (q : Nat) (z : Int) (hz : z = (q : Int)) : ∃ w1, w.setCell ⟨b, 1, none⟩ (.int .i64 z) = w1 ∧ Tk w1 b s q ∧ Mv b w w1 := by
  subst hz
  exact ⟨_, rfl, h.set q, Mv.set b w 1 _⟩
theorem bl_rest (s : ByteArray) (p : Nat) : (s.extract p s.size).data.toList = (bl s).drop p := by
  have := bl_extract s p s.size
  rw [← bl_length, List.take_length] at this
  rw [← this, bl_length]
  rfl
theorem sign_byte (c : Nat) : ((c : Int)).toNat.toUInt8 = UInt8.ofNat c := by rw [Int.toNat_natCast]
theorem texts_part {u s : ByteArray} (h : u ≠ s) : (u.toList == s.toList) = false := by
  rw [Go.ByteArray.toList_eq, Go.ByteArray.toList_eq]
  cases c : (u.data.toList == s.data.toList)
  · rfl
  · have e : u.data.toList = s.data.toList := by simpa using c
    refine absurd ?_ h
    have e2 : u.data = s.data := Array.toList_inj.1 e
    cases u
    cases s
    simpa using e2
theorem extract_size (s : ByteArray) (a b : Nat) (h : s.size ≤ 65536) : (s.extract a b).size ≤ 65536 := by
  rw [ByteArray.size_extract]
  omega
end Go.Proofs.Ytbekelnhlfghlaa.Val
namespace Go.Proofs.Ytbekelnhlfghlaa.Val
open Go.ChangeShapes Go.WideShapes Go.ChangeAt Go.RowKit
open Texts

/-- Bytes as a text. -/
def mk (l : List UInt8) : ByteArray := ⟨l.toArray⟩
theorem bl_mk' (l : List UInt8) : bl (mk l) = l := bl_mk l
theorem mk_app (a b : List UInt8) : mk a ++ mk b = mk (a ++ b) := bl_inj (by rw [bl_append, bl_mk', bl_mk', bl_mk'])
theorem mk_of (s : ByteArray) : mk (bl s) = s := bl_back s
theorem mk_size' (l : List UInt8) : (mk l).size = l.length := by rw [← bl_length, bl_mk']
theorem numC (e : Int) (w : World) : Calls Try.prog 15 #[.int .i64 e] w fun r w' => r = .returned (.int .i64 e) ∧ w' = w := by
  go_enter Try.func15, Try.ntmps15
  go_wp2
  go_ret
  exact ⟨rfl, rfl⟩
theorem ret_text {a b : ByteArray} (h : a = b) : Ending.returned (.string a) = .returned (.string b) := by rw [h]
/-- A list of texts that lie somewhere. -/
theorem addr_lit {x : Addr} {w : World} {v : Value} (h : w.cell? x = some v) : x = ⟨x.block, x.off, none⟩ := by
  obtain ⟨b, o, sp⟩ := x
  cases sp with
  | none => rfl
  | some t =>
    exfalso
    unfold World.cell? at h
    split at h
    · simp at h
    · cases h
/-- Texts held against the same texts. -/
theorem tx_at {w : World} {o : Option Addr} {ss : List ByteArray} (h : IsTx w o ss) (h1 : 1 ≤ ss.length) : ∃ x, o = some x ∧ LiesT w x ss := by
  rcases h.2 with rfl | h
  · cases h1
  · exact h
theorem same_no (t : ByteArray) : (t.toList != t.toList) = false := by rw [bne_eq_false_iff_eq]
set_option maxRecDepth 20000 in
set_option maxHeartbeats 800000 in
theorem sameTexts (o p : Option Addr) (c d : Nat) (ss : List ByteArray) (hn : ss.length ≤ 140737488355328) (w : World) (ho : Hid (IsTx w o ss)) (hp : Hid (IsTx w p ss)) :
    Calls Try.prog 17 #[.slice o ss.length c, .slice p ss.length d] w fun r w' => r = .returned (.bool true) ∧ Below w.heap.size w w' := by
  have hq : (((ss.length : Nat) : Int) != ((ss.length : Nat) : Int)) = false := by rw [bne_eq_false_iff_eq]
  go_enter Try.func17, Try.ntmps17
  go_wp2_with fail
  go_loopw [5] (fun t wr => ∃ k : Nat, k ≤ ss.length ∧ t = .int .i64 (k : Int) ∧ Below w.heap.size w wr) (fun t _ => ss.length - (intOf t).toNat)
  case atStart => exact ⟨0, Nat.zero_le _, rfl, Below.refl _ _⟩
  case round =>
    obtain ⟨k, hk, rfl, hbl⟩ := hrel
    by_cases hlt : k < ss.length
    · obtain ⟨x, rfl, hx⟩ := tx_at ho.out (by omega)
      obtain ⟨y, rfl, hy⟩ := tx_at hp.out (by omega)
      have c1 := Tree.cell_later hbl (hx k hlt)
      have c2 := Tree.cell_later hbl (hy k hlt)
      have hne := same_no (ss.getD k ByteArray.empty)
      have j0 : (0 : Int) ≤ (k : Int) := Int.natCast_nonneg _
      have j1 : (k : Int) < (ss.length : Int) := by omega
      clear hx hy
      generalize ss.getD k ByteArray.empty = u at *
      go_wp2_with fail
      go_quiet (fail)
      have HB : Hid (Below w.heap.size w (wr.drewN nq)) := below_drewN hbl nq
      clear hbl
      go_wp2
      go_roundw
      case rel => exact ⟨k + 1, by omega, by go_num, HB.out⟩
      case measure => simp [intOf]; omega
    · obtain rfl : k = ss.length := by omega
      go_wp2
      go_ret
      exact ⟨rfl, hbl⟩
end Go.Proofs.Ytbekelnhlfghlaa.Val
namespace Go.Proofs.Ytbekelnhlfghlaa.Val
open Go.ChangeShapes Go.WideShapes Go.ChangeAt Go.RowKit

/-- No count, or one that is too much. -/
def NoBytes (s : ByteArray) (p : Nat) : Prop := ∀ (j n : Nat), numAt 58 ((bl s).drop p) = some (j, (n : Int)) → s.size < p + j + 1 + n
end Go.Proofs.Ytbekelnhlfghlaa.Val
namespace Go.Proofs.Ytbekelnhlfghlaa.Val
open Go.ChangeShapes Go.WideShapes Go.ChangeAt Go.RowKit

/-- Where a taker stands. -/
def atOf (w : World) (b : Nat) : Nat := (intOf ((w.cell? ⟨b, 1, none⟩).getD (.bool false))).toNat
theorem Tk.atOf {w : World} {b : Nat} {s : ByteArray} {p : Nat} (h : Tk w b s p) : atOf w b = p := by
  unfold Val.atOf
  rw [h.at]
  rfl
theorem done_no (p n : Nat) (h : p < n) : ((p : Int) == (n : Int)) = false := by
  rw [beq_eq_false_iff_ne]
  omega
theorem byte_ne {s : ByteArray} {q c : Nat} (hq : q < s.size) (hc : c < 256) (h : s[q] ≠ UInt8.ofNat c) : (((s[q].toNat : Nat) : Int) != (c : Int)) = true := by
  rw [bne_iff_ne]
  intro e
  exact h ((byte_eq hc).1 e)
theorem byte_same {s : ByteArray} {q c : Nat} (hq : q < s.size) (hc : c < 256) (h : s[q] = UInt8.ofNat c) : (((s[q].toNat : Nat) : Int) != (c : Int)) = false := by
  rw [bne_eq_false_iff_eq]
  exact (byte_eq hc).2 h
end Go.Proofs.Ytbekelnhlfghlaa.Val
namespace Go.Proofs.Ytbekelnhlfghlaa.Val
open Go.ChangeShapes Go.WideShapes Go.ChangeAt Go.RowKit

/-- A value that was taken, in a block. -/
structure Bx (w : World) (g : Nat) (k : Int) (v c : ByteArray) : Prop where
  blk : w.heap[g]? = some (.cells #[.int .i64 k, .string v, .string c] 46 (0, 0))
theorem Bx.lt {w : World} {g : Nat} {k : Int} {v c : ByteArray} (h : Bx w g k v c) : g < w.heap.size := by
  by_cases d : g < w.heap.size
  · exact d
  · have := h.blk
    rw [Array.getElem?_eq_none (by omega)] at this
    cases this
theorem Bx.c0 {w : World} {g : Nat} {k : Int} {v c : ByteArray} (h : Bx w g k v c) : w.cell? ⟨g, 0, none⟩ = some (.int .i64 k) := by simp [World.cell?, h.blk]
theorem Bx.c1 {w : World} {g : Nat} {k : Int} {v c : ByteArray} (h : Bx w g k v c) : w.cell? ⟨g, 1, none⟩ = some (.string v) := by simp [World.cell?, h.blk]
theorem Bx.c2 {w : World} {g : Nat} {k : Int} {v c : ByteArray} (h : Bx w g k v c) : w.cell? ⟨g, 2, none⟩ = some (.string c) := by simp [World.cell?, h.blk]
theorem Bx.fz {w : World} {g : Nat} {k : Int} {v c : ByteArray} (h : Bx w g k v c) (o : Nat) : w.frozen? ⟨g, o, none⟩ = false := by simp [World.frozen?, h.blk]
theorem Bx.later {w w' : World} {g : Nat} {k : Int} {v c : ByteArray} (h : Bx w g k v c) (hb : Below w.heap.size w w') : Bx w' g k v c := ⟨(hb.block g h.lt).trans h.blk⟩
theorem Bx.move {b : Nat} {w w' : World} {g : Nat} {k : Int} {v c : ByteArray} (h : Bx w g k v c) (hm : Mv b w w') (hg : g ≠ b) : Bx w' g k v c := ⟨(hm.block g h.lt hg).trans h.blk⟩
theorem Bx.put {w : World} {g : Nat} {k : Int} {v c : ByteArray} (h : Bx w g k v c) (k' : Int) (v' c' : ByteArray) :
    ∃ w1, ((w.setCell ⟨g, 0, none⟩ (.int .i64 k')).setCell ⟨g, 1, none⟩ (.string v')).setCell ⟨g, 2, none⟩ (.string c') = w1 ∧ Bx w1 g k' v' c' ∧ Mv g w w1 := by
  refine ⟨_, rfl, ⟨?_⟩, ((Mv.set g w 0 _).trans (Mv.set g _ 1 _)).trans (Mv.set g _ 2 _)⟩
  simp only [World.setCell, Array.getElem?_modify, if_true, h.blk, Option.map_some]
  rfl
theorem Mv.own {b g : Nat} {u v w : World} (h : Mv b u v) (k : Mv g v w) (hg : u.heap.size ≤ g) : Mv b u w :=
  ⟨k.os.trans h.os, k.tape.trans h.tape, k.output.trans h.output, Nat.le_trans h.size k.size, fun i hi hb => (k.block i (Nat.lt_of_lt_of_le hi h.size) (by omega)).trans (h.block i hi hb)⟩
theorem Tk.move {w w' : World} {b g : Nat} {s : ByteArray} {p : Nat} (h : Tk w b s p) (hm : Mv g w w') (hg : b ≠ g) : Tk w' b s p := ⟨(hm.block b h.lt hg).trans h.blk⟩
theorem box3 (w : World) (k : Int) (v c : ByteArray) : ∃ w1, w.alloc (.cells #[.int .i64 k, .string v, .string c] 46) = w1 ∧ Bx w1 w.heap.size k v c ∧ Below w.heap.size w w1 ∧ w1.heap.size = w.heap.size + 1 :=
  ⟨_, rfl, ⟨heap_alloc_new _ _⟩, (Below.refl _ _).alloc (Nat.le_refl _) _, by simp⟩
end Go.Proofs.Ytbekelnhlfghlaa.Val
namespace Go.Proofs.Ytbekelnhlfghlaa.Val
open Go.ChangeShapes Go.WideShapes Go.ChangeAt Go.RowKit

/-- A taker that is made. -/
theorem made (w : World) (s : ByteArray) : ∃ w1, w.alloc (.cells #[.string s, .int .i64 0] 66) = w1 ∧ Tk w1 w.heap.size s 0 ∧ Below w.heap.size w w1 ∧ w1.heap.size = w.heap.size + 1 :=
  ⟨_, rfl, ⟨heap_alloc_new _ _⟩, (Below.refl _ _).alloc (Nat.le_refl _) _, by simp⟩
/-- What is told of a text: one value, all of it; or none. -/
def OnlyA (s : ByteArray) (k : Int) (v c : ByteArray) (ok : Bool) : Prop := ok = true ∧ isVal (bl s) ∧ v = s ∧ k = kindOf (bl s) ∧ bl c = bodyOf (bl s) ∨ ok = false ∧ ¬ isVal (bl s)
theorem only_of {s : ByteArray} (hs : s.size ≤ 65536) {k : Int} {v c : ByteArray} {ok : Bool} {q : Nat} (hq : q ≤ s.size)
    (h : ok = true ∧ below (5 - 0) ((bl s).drop 0) = some (q - 0) ∧ v = s.extract 0 q ∧ k = kindOf (bl v) ∧ bl c = bodyOf (bl v) ∨ ok = false ∧ below (5 - 0) ((bl s).drop 0) = none) : OnlyA s k v c (ok && ((q : Int) == (s.size : Int))) := by
  rw [List.drop_zero] at h
  have hb : below (5 - 0) = val 4 := rfl
  rw [hb] at h
  rcases h with ⟨rfl, h1, h2, h3, h4⟩ | ⟨rfl, h1⟩
  · by_cases c : q = s.size
    · subst c
      have e : s.extract 0 s.size = s := by
        apply bl_inj
        rw [bl_extract, ← bl_length, List.take_length]
        rfl
      rw [e] at h2
      subst h2
      exact .inl ⟨by rw [Bool.true_and]; exact beq_self_eq_true _, ⟨by rw [bl_length]; exact hs, by rw [h1, bl_length]; rfl⟩, rfl, h3, h4⟩
    · refine .inr ⟨by rw [Bool.true_and, done_no q s.size (by omega)], fun hv => ?_⟩
      have := hv.2
      rw [h1, bl_length] at this
      injection this with this
      omega
  · refine .inr ⟨rfl, fun hv => ?_⟩
    rw [hv.2] at h1
    cases h1
end Go.Proofs.Ytbekelnhlfghlaa.Val
namespace Go.Proofs.Ytbekelnhlfghlaa.Val
open Go.ChangeShapes Go.WideShapes Go.ChangeAt Go.RowKit
open Tree (own_slice own_mono)

/-- A row of one's own stands while another block is written. -/
theorem own_move {w w' : World} {b B n : Nat} {e : TypeId} {k : Nat} {v : Value} {xs : List Value} (h : w.ownsRow B e k v n xs) (hm : Mv b w w') (hb : b < B) : w'.ownsRow B e k v n xs := by
  have hlt := h.lt
  refine ⟨h.1, ?_⟩
  rcases h.2 with h | ⟨g, cap, cur, h0, h1, h2, h3⟩
  · exact .inl h
  · subst h0
    exact .inr ⟨g, cap, cur, rfl, h1, (hm.block g (hlt g rfl).2 (by omega)).trans h2, h3⟩
theorem Mv.grown {b : Nat} {u v w : World} {row : Option Nat} (h : Mv b u v) (hg : v.grownBy w row) (hr : ∀ k, row = some k → u.heap.size ≤ k) : Mv b u w :=
  ⟨hg.os.trans h.os, hg.tape.trans h.tape, hg.output.trans h.output, Nat.le_trans h.size hg.size, fun k hk hb => (hg.block k (Nat.lt_of_lt_of_le hk h.size) (fun e => by have := hr k e.symm; omega)).trans (h.block k hk hb)⟩
theorem Tk.grown {w w' : World} {b : Nat} {s : ByteArray} {p : Nat} {row : Option Nat} (h : Tk w b s p) (hg : w.grownBy w' row) (hr : ∀ k, row = some k → b < k) : Tk w' b s p :=
  ⟨(hg.block b h.lt (fun e => by have := hr b e.symm; omega)).trans h.blk⟩
end Go.Proofs.Ytbekelnhlfghlaa.Val
namespace Go.Proofs.Ytbekelnhlfghlaa.Val
open Go.ChangeShapes Go.WideShapes Go.ChangeAt Go.RowKit
open Tree (own_slice own_mono)
open Texts (cellsT cellsT_snoc)

theorem info9 : (Try.prog.info? 9).map (fun i => (i.zero, i.size, i.bytes)) = some (some (.string ⟨#[]⟩), 1, 16) := by kernel_rfl
/-- A row of one text. -/
theorem own_one (w : World) (s : ByteArray) : (w.alloc (.cells #[.string s] 9)).ownsRow w.heap.size 9 1 (.slice (some ⟨w.heap.size, 0, none⟩) 1 1) 1 (cellsT [s]) :=
  ⟨rfl, .inr ⟨w.heap.size, 1, #[.string s], rfl, Nat.le_refl _, heap_alloc_new _ _, Nat.le_refl _, by unfold maxLen; omega, rfl, rfl⟩⟩
/-- What a value that was taken is made of. -/
def PartsA (k : Int) (c : ByteArray) (ps : List ByteArray) : Prop := k = -1 ∧ ps = [] ∨ (k = 3 ∨ k = 4) ∧ Row4 c ps ∨ (k ≠ -1 ∧ k ≠ 3 ∧ k ≠ 4) ∧ ps = [c]
theorem Bx.one (w : World) (k : Int) (v c : ByteArray) : Bx (w.alloc (.cells #[.int .i64 k, .string v, .string c] 46)) w.heap.size k v c := ⟨heap_alloc_new _ _⟩
theorem cellsK_at : ∀ (vs : List ByteArray) (i : Nat), i < vs.length → (cellsK vs)[i * 3]? = some (.int .i64 (kindOf (bl (vs.getD i ByteArray.empty)))) ∧ (cellsK vs)[i * 3 + 1]? = some (.string (vs.getD i ByteArray.empty)) ∧ (cellsK vs)[i * 3 + 2]? = some (.string (bodyS (vs.getD i ByteArray.empty)))
  | [], i, h => absurd h (Nat.not_lt_zero _)
  | v :: vs, i, h => by
    have e : cellsK (v :: vs) = [.int .i64 (kindOf (bl v)), .string v, .string (bodyS v)] ++ cellsK vs := rfl
    cases i with
    | zero => exact ⟨rfl, rfl, rfl⟩
    | succ i =>
      obtain ⟨h1, h2, h3⟩ := cellsK_at vs i (Nat.lt_of_succ_lt_succ h)
      rw [e]
      refine ⟨?_, ?_, ?_⟩
      · rw [List.getElem?_append_right (by simp; omega)]
        rw [show (i + 1) * 3 - [Value.int .i64 (kindOf (bl v)), .string v, .string (bodyS v)].length = i * 3 from by simp; omega]
        exact h1
      · rw [List.getElem?_append_right (by simp; omega)]
        rw [show (i + 1) * 3 + 1 - [Value.int .i64 (kindOf (bl v)), .string v, .string (bodyS v)].length = i * 3 + 1 from by simp; omega]
        exact h2
      · rw [List.getElem?_append_right (by simp; omega)]
        rw [show (i + 1) * 3 + 2 - [Value.int .i64 (kindOf (bl v)), .string v, .string (bodyS v)].length = i * 3 + 2 from by simp; omega]
        exact h3
/-- Values that were taken, from an address on. -/
structure KLies (w : World) (x : Addr) (vs : List ByteArray) : Prop where
  kind : ∀ i, i < vs.length → w.cell? (x.add (i * 3)) = some (.int .i64 (kindOf (bl (vs.getD i ByteArray.empty))))
  all : ∀ i, i < vs.length → w.cell? (x.add (i * 3 + 1)) = some (.string (vs.getD i ByteArray.empty))
  body : ∀ i, i < vs.length → w.cell? (x.add (i * 3 + 2)) = some (.string (bodyS (vs.getD i ByteArray.empty)))
theorem KLies.later {w w' : World} {x : Addr} {vs : List ByteArray} (h : KLies w x vs) (hb : Below w.heap.size w w') : KLies w' x vs :=
  ⟨fun i hi => Tree.cell_later hb (h.kind i hi), fun i hi => Tree.cell_later hb (h.all i hi), fun i hi => Tree.cell_later hb (h.body i hi)⟩
theorem KLies.all' {w : World} {x : Addr} {vs : List ByteArray} (h : KLies w x vs) (i : Nat) (hi : i < vs.length) : w.cell? { block := (x.add (i * 3)).block, off := (x.add (i * 3)).off + 1 } = some (.string (vs.getD i ByteArray.empty)) :=
  Tree.add_at (i * 3) 1 (h.all i hi)
theorem KLies.body' {w : World} {x : Addr} {vs : List ByteArray} (h : KLies w x vs) (i : Nat) (hi : i < vs.length) : w.cell? { block := (x.add (i * 3)).block, off := (x.add (i * 3)).off + 2 } = some (.string (bodyS (vs.getD i ByteArray.empty))) :=
  Tree.add_at (i * 3) 2 (h.body i hi)
theorem row_lies {w : World} {B cap : Nat} {o : Option Addr} {vs : List ByteArray} (h : w.ownsRow B 46 3 (.slice o vs.length cap) vs.length (cellsK vs)) (h1 : 1 ≤ vs.length) : ∃ x, o = some x ∧ KLies w x vs := by
  rcases h.2 with ⟨_, e⟩ | ⟨g, cap', cur, h0, _, _, hle, hm, _⟩
  · omega
  · injection h0 with h2 h3 h4
    subst h2 h4
    have hc : ∀ j u, (cellsK vs)[j]? = some u → w.cell? ((⟨g, 0, none⟩ : Addr).add j) = some u := h.cells rfl
    exact ⟨_, rfl, fun i hi => hc _ _ (cellsK_at vs i hi).1, fun i hi => hc _ _ (cellsK_at vs i hi).2.1, fun i hi => hc _ _ (cellsK_at vs i hi).2.2⟩
theorem mk_size (l : List UInt8) : (⟨l.toArray⟩ : ByteArray).size = l.length := by rw [← bl_length, bl_mk]
theorem flat_mk (ps : List (List UInt8)) : flat (ps.map fun l => (⟨l.toArray⟩ : ByteArray)) = ps.flatten := by
  unfold flat
  rw [List.map_map, show (bl ∘ fun l : List UInt8 => (⟨l.toArray⟩ : ByteArray)) = id from funext fun l => bl_mk l, List.map_id]
theorem row_mk {v : ByteArray} {ps : List (List UInt8)} (h1 : bodyOf (bl v) = ps.flatten) (h2 : ∀ p ∈ ps, val 3 p = some p.length) : Row4 (bodyS v) (ps.map fun l => (⟨l.toArray⟩ : ByteArray)) := by
  refine ⟨by rw [bl_bodyS, h1, flat_mk], fun u hu => ?_⟩
  obtain ⟨p, hp, rfl⟩ := List.mem_map.1 hu
  rw [bl_mk, mk_size]
  exact val_up 3 4 (by omega) _ _ (h2 p hp)
theorem parts_told {s : ByteArray} (hv : isVal (bl s)) : ∃ ps, partsS s = some (kindOf (bl s), ps) ∧ PartsA (kindOf (bl s)) (bodyS s) ps := by
  obtain ⟨k, ps, h, hm⟩ := parts_made hv
  have hs : partsS s = some (k, ps.map fun l => (⟨l.toArray⟩ : ByteArray)) := by
    unfold partsS
    rw [h]
    rfl
  rcases hm with ⟨rfl, rfl, e⟩ | ⟨x, _, rfl, rfl, e⟩ | ⟨b, rfl, rfl, e⟩ | ⟨t, rfl, rfl, e⟩ | ⟨rfl, e, hp⟩ | ⟨rfl, e, hp⟩
  · have hk : kindOf (bl s) = -1 := by rw [e]; rfl
    rw [hk]
    exact ⟨_, hs, .inl ⟨rfl, rfl⟩⟩
  · have hk : kindOf (bl s) = 0 := by rw [e]; rfl
    have hb : bodyOf (bl s) = intD x := by
      rw [e]
      show (intD x ++ [59]).dropLast = _
      rw [List.dropLast_concat]
    rw [hk]
    exact ⟨_, hs, .inr (.inr ⟨by decide, by unfold bodyS; rw [hb]; rfl⟩)⟩
  · have hk : kindOf (bl s) = 1 := by rw [e]; cases b <;> rfl
    have hb : bodyOf (bl s) = boolM b := by rw [e]; cases b <;> rfl
    rw [hk]
    exact ⟨_, hs, .inr (.inr ⟨by decide, by unfold bodyS; rw [hb]; rfl⟩)⟩
  · have hk : kindOf (bl s) = 2 := by rw [e]; rfl
    have hb : bodyOf (bl s) = t := by
      rw [e]
      unfold bytesM
      have hs2 : seek 58 (dig t.length ++ 58 :: t) = some (dig t.length).length := by
        refine seek_app _ _ fun b hb e => ?_
        have := dig_digit _ b hb
        rw [e] at this
        exact absurd this.2 (by decide)
      rw [bodyOf_s, hs2]
      show (dig t.length ++ 58 :: t).drop ((dig t.length).length + 1) = t
      rw [show dig t.length ++ 58 :: t = (dig t.length ++ [58]) ++ t from by simp, List.drop_append_of_le_length (by simp), List.drop_eq_nil_of_le (by simp)]
      rfl
    rw [hk]
    exact ⟨_, hs, .inr (.inr ⟨by decide, by unfold bodyS; rw [hb]; rfl⟩)⟩
  · have hk : kindOf (bl s) = 3 := by rw [e]; rfl
    have hb : bodyOf (bl s) = ps.flatten := by
      rw [e]
      show (ps.flatten ++ [93]).dropLast = _
      rw [List.dropLast_concat]
    rw [hk]
    exact ⟨_, hs, .inr (.inl ⟨.inl rfl, row_mk hb hp⟩)⟩
  · have hk : kindOf (bl s) = 4 := by rw [e]; rfl
    have hb : bodyOf (bl s) = ps.flatten := by
      rw [e]
      show (ps.flatten ++ [125]).dropLast = _
      rw [List.dropLast_concat]
    rw [hk]
    exact ⟨_, hs, .inr (.inl ⟨.inr rfl, row_mk hb hp⟩)⟩
theorem body_size (s : ByteArray) (hs : s.size ≤ 65536) : (bodyS s).size ≤ 65536 := by
  rw [← bl_length, bl_bodyS]
  rw [← bl_length] at hs
  cases h : bl s with
  | nil => exact Nat.zero_le _
  | cons b r =>
    rw [h] at hs
    have hr : r.length ≤ 65535 := by simpa using hs
    rw [bodyOf]
    split
    · exact Nat.zero_le _
    · split
      · rw [List.length_dropLast]
        omega
      · split
        · split
          · exact Nat.zero_le _
          · rw [List.length_drop]
            omega
        · simp
/-- What Parts tells of a text. -/
def TellA (s : ByteArray) (k : Int) (ps : List ByteArray) (E : Int) : Prop := partsS s = some (k, ps) ∧ E = 0 ∨ partsS s = none ∧ k = 0 ∧ ps = [] ∧ E = 700
theorem tellA_some (s : ByteArray) : ∃ k ps E, TellA s k ps E := by
  cases h : partsS s with
  | none => exact ⟨0, [], 700, .inr ⟨h, rfl, rfl, rfl⟩⟩
  | some p => exact ⟨p.1, p.2, 0, .inl ⟨h, rfl⟩⟩
end Go.Proofs.Ytbekelnhlfghlaa.Val
namespace Go.Proofs.Ytbekelnhlfghlaa.Val
open Tree

theorem below_up {f : Nat} (hf : f ≤ 5) {l : List UInt8} {k : Nat} (h : below f l = some k) : val 4 l = some k := by
  cases f with
  | zero => cases h
  | succ f => exact val_up f 4 (by omega) _ _ h
theorem isVal_below {f : Nat} (hf : f ≤ 5) {v : ByteArray} (hs : v.size ≤ 65536) (h : below f (bl v) = some v.size) : isVal (bl v) :=
  ⟨by rw [bl_length]; exact hs, by rw [bl_length]; exact below_up hf h⟩
theorem nest_parts {f : Nat} (hf : f ≤ 4) {v : ByteArray} (hs : v.size ≤ 65536) (h : val f (bl v) = some v.size) (hk : kindOf (bl v) = 3 ∨ kindOf (bl v) = 4) :
    ∃ ps : List ByteArray, partsS v = some (kindOf (bl v), ps) ∧ Row4 (bodyS v) ps ∧ ∀ p ∈ ps, below f (bl p) = some p.size := by
  rw [← bl_length] at h
  obtain ⟨qs, h1, h2, h3, h4, h5⟩ := row_of_nest hf h hk
  have h6 : ∀ p ∈ qs, val 3 p = some p.length := by
    intro p hp
    have := h3 p hp
    cases f with
    | zero => cases this
    | succ f => exact val_up f 3 (by omega) _ _ this
  refine ⟨qs.map fun l => ⟨l.toArray⟩, ?_, row_mk h1 h6, fun p hp => ?_⟩
  · unfold partsS
    rcases hk with c | c
    · have e := h4 c
      have hl : (listM qs).length ≤ 65536 := by rw [← e, bl_length]; exact hs
      rw [c, e, parts_list qs h6 hl]
      rfl
    · have e := h5 c
      have hl : (structM qs).length ≤ 65536 := by rw [← e, bl_length]; exact hs
      rw [c, e, parts_struct qs h6 hl]
      rfl
  · obtain ⟨q, hq, rfl⟩ := List.mem_map.1 hp
    rw [bl_mk, mk_size]
    exact h3 q hq
theorem fitsF_succ (ns : List Nd) (f a : Nat) (v : ByteArray) : fitsF ns (f + 1) a v = match partsS v with
    | none => false
    | some (k, ps) =>
      if k < 0 then (nd ns a).null
      else if k ≠ (nd ns a).kind then false
      else if k = 2 then decide ((ps.getD 0 ByteArray.empty).size ≤ 16)
      else if k = 3 then decide (ps.length ≤ 64) && ps.all (fitsF ns f ((kids ns a).getD 0 0))
      else if k = 4 then decide (ps.length = (kids ns a).length) && ((kids ns a).zip ps).all fun q => fitsF ns f q.1 q.2
      else true := rfl
theorem kindOf_in (l : List UInt8) : -1 ≤ kindOf l ∧ kindOf l ≤ 4 := by
  cases l with
  | nil => exact ⟨by decide, by decide⟩
  | cons b r =>
    rw [kindOf]
    split
    · exact ⟨by decide, by decide⟩
    · split
      · exact ⟨by decide, by decide⟩
      · split
        · exact ⟨by decide, by decide⟩
        · split
          · exact ⟨by decide, by decide⟩
          · split
            · exact ⟨by decide, by decide⟩
            · exact ⟨by decide, by decide⟩
theorem fits_null {ns : List Nd} {f a : Nat} (hf : f ≤ 4) {v : ByteArray} (hs : v.size ≤ 65536) (h : val f (bl v) = some v.size) (hk : kindOf (bl v) = -1) : fitsF ns (f + 1) a v = (nd ns a).null := by
  obtain ⟨ps, h1, _⟩ := parts_told (isVal_below (f := f + 1) (by omega) hs h)
  rw [fitsF_succ, h1]
  show (if kindOf (bl v) < 0 then _ else _) = _
  rw [if_pos (by omega)]
theorem fits_other {ns : List Nd} {f a : Nat} (hf : f ≤ 4) {v : ByteArray} (hs : v.size ≤ 65536) (h : val f (bl v) = some v.size) (hk : kindOf (bl v) ≠ -1) (hn : kindOf (bl v) ≠ (nd ns a).kind) : fitsF ns (f + 1) a v = false := by
  obtain ⟨ps, h1, _⟩ := parts_told (isVal_below (f := f + 1) (by omega) hs h)
  have := kindOf_in (bl v)
  rw [fitsF_succ, h1]
  show (if kindOf (bl v) < 0 then _ else if kindOf (bl v) ≠ (nd ns a).kind then _ else _) = _
  rw [if_neg (by omega), if_pos hn]
theorem fits_bytes {ns : List Nd} {f a : Nat} (hf : f ≤ 4) {v : ByteArray} (hs : v.size ≤ 65536) (h : val f (bl v) = some v.size) (hk : kindOf (bl v) = 2) (hn : (nd ns a).kind = 2) : fitsF ns (f + 1) a v = decide ((bodyS v).size ≤ 16) := by
  obtain ⟨ps, h1, h2⟩ := parts_told (isVal_below (f := f + 1) (by omega) hs h)
  rw [hk] at h1 h2
  rw [fitsF_succ, h1]
  show (if (2 : Int) < 0 then _ else if (2 : Int) ≠ (nd ns a).kind then _ else if (2 : Int) = 2 then decide ((ps.getD 0 ByteArray.empty).size ≤ 16) else _) = _
  rw [if_neg (by decide), if_neg (by rw [hn]; decide), if_pos rfl]
  rcases h2 with ⟨c, _⟩ | ⟨c, _⟩ | ⟨_, rfl⟩
  · cases c
  · rcases c with c | c <;> cases c
  · rfl
theorem fits_leaf {ns : List Nd} {f a : Nat} (hf : f ≤ 4) {v : ByteArray} (hs : v.size ≤ 65536) (h : val f (bl v) = some v.size) (hk : kindOf (bl v) = 0 ∨ kindOf (bl v) = 1) (hn : kindOf (bl v) = (nd ns a).kind) : fitsF ns (f + 1) a v = true := by
  obtain ⟨ps, h1, h2⟩ := parts_told (isVal_below (f := f + 1) (by omega) hs h)
  rw [fitsF_succ, h1]
  show (if kindOf (bl v) < 0 then _ else if kindOf (bl v) ≠ (nd ns a).kind then _ else if kindOf (bl v) = 2 then _ else if kindOf (bl v) = 3 then _ else if kindOf (bl v) = 4 then _ else true) = _
  rw [if_neg (by omega), if_neg (by rw [hn]; exact fun c => c rfl), if_neg (by omega), if_neg (by omega), if_neg (by omega)]
theorem fits_list {ns : List Nd} {f a : Nat} {v : ByteArray} {ps : List ByteArray} (h1 : partsS v = some (kindOf (bl v), ps)) (hk : kindOf (bl v) = 3) (hn : (nd ns a).kind = 3) : fitsF ns (f + 1) a v = (decide (ps.length ≤ 64) && ps.all (fitsF ns f ((kids ns a).getD 0 0))) := by
  rw [hk] at h1
  rw [fitsF_succ, h1]
  show (if (3 : Int) < 0 then _ else if (3 : Int) ≠ (nd ns a).kind then _ else if (3 : Int) = 2 then _ else if (3 : Int) = 3 then _ else _) = _
  rw [if_neg (by decide), if_neg (by rw [hn]; decide), if_neg (by decide), if_pos rfl]
theorem fits_struct {ns : List Nd} {f a : Nat} {v : ByteArray} {ps : List ByteArray} (h1 : partsS v = some (kindOf (bl v), ps)) (hk : kindOf (bl v) = 4) (hn : (nd ns a).kind = 4) : fitsF ns (f + 1) a v = (decide (ps.length = (kids ns a).length) && ((kids ns a).zip ps).all fun q => fitsF ns f q.1 q.2) := by
  rw [hk] at h1
  rw [fitsF_succ, h1]
  show (if (4 : Int) < 0 then _ else if (4 : Int) ≠ (nd ns a).kind then _ else if (4 : Int) = 2 then _ else if (4 : Int) = 3 then _ else if (4 : Int) = 4 then _ else _) = _
  rw [if_neg (by decide), if_neg (by rw [hn]; decide), if_neg (by decide), if_neg (by decide), if_pos rfl]
theorem allTo_congr {p q : Nat → Bool} : ∀ {n : Nat}, (∀ i, i < n → p i = q i) → allTo p n = allTo q n
  | 0, _ => rfl
  | n + 1, h => by
    show (allTo p n && p n) = (allTo q n && q n)
    rw [allTo_congr (n := n) (fun i hi => h i (by omega)), h n (Nat.lt_succ_self _)]
/-- All of a list, by places. -/
theorem all_to (ps : List ByteArray) (q : ByteArray → Bool) : ps.all q = allTo (fun i => q (ps.getD i ByteArray.empty)) ps.length := by
  have key : ∀ k, k ≤ ps.length → (ps.take k).all q = allTo (fun i => q (ps.getD i ByteArray.empty)) k := by
    intro k
    induction k with
    | zero => intro _; rfl
    | succ k ih =>
      intro hk
      rw [take_text ps k hk, List.all_append, ih (by omega), allTo]
      simp
  have := key ps.length (Nat.le_refl _)
  rw [List.take_length] at this
  exact this
theorem zip_to (ks : List Nat) (ps : List ByteArray) (h : ps.length = ks.length) (q : Nat → ByteArray → Bool) : ((ks.zip ps).all fun x => q x.1 x.2) = allTo (fun i => q (ks.getD i 0) (ps.getD i ByteArray.empty)) ks.length := by
  have key : ∀ k, k ≤ ks.length → ((ks.take k).zip (ps.take k)).all (fun x => q x.1 x.2) = allTo (fun i => q (ks.getD i 0) (ps.getD i ByteArray.empty)) k := by
    intro k
    induction k with
    | zero => intro _; rfl
    | succ k ih =>
      intro hk
      have hkt : ks.take (k + 1) = ks.take k ++ [ks.getD k 0] := by rw [List.take_succ_eq_append_getElem hk, List.getD_eq_getElem?_getD, List.getElem?_eq_getElem hk]; rfl
      rw [take_text ps k (by omega), hkt, List.zip_append (by rw [List.length_take, List.length_take]; omega), List.all_append, ih (by omega), allTo]
      simp
  have := key ks.length (Nat.le_refl _)
  rw [List.take_length, ← h, List.take_length, h] at this
  exact this
/-- Enough is enough. -/
theorem fits_fuel {ns : List Nd} : ∀ (f g a : Nat) (v : ByteArray), f ≤ 5 → f ≤ g → v.size ≤ 65536 → below f (bl v) = some v.size → fitsF ns g a v = fitsF ns f a v := by
  intro f
  induction f with
  | zero => intro g a v _ _ _ h; cases h
  | succ f ih =>
    intro g a v hf hg hs h
    obtain ⟨g, rfl⟩ : ∃ x, g = x + 1 := ⟨g - 1, by omega⟩
    have hv : val f (bl v) = some v.size := h
    by_cases hk : kindOf (bl v) = 3 ∨ kindOf (bl v) = 4
    · obtain ⟨ps, h1, h2, h3⟩ := nest_parts (by omega) hs hv hk
      have hsz : ∀ p ∈ ps, p.size ≤ 65536 := fun p hp => by
        have hb := body_size v hs
        obtain ⟨i, hi, e⟩ := List.getElem_of_mem hp
        have := h2.pos_le (i + 1)
        rw [pos_succ ps i hi, getD_text ps i hi, e] at this
        omega
      rw [fitsF_succ, fitsF_succ, h1]
      simp only
      have e1 : ps.all (fitsF ns g ((kids ns a).getD 0 0)) = ps.all (fitsF ns f ((kids ns a).getD 0 0)) := by
        rw [all_to, all_to]
        refine allTo_congr fun i hi => ?_
        have hm := getD_memT ps i hi
        exact ih g _ _ (by omega) (by omega) (hsz _ hm) (h3 _ hm)
      have e2 : (((kids ns a).zip ps).all fun q => fitsF ns g q.1 q.2) = (((kids ns a).zip ps).all fun q => fitsF ns f q.1 q.2) := by
        rw [Bool.eq_iff_iff, List.all_eq_true, List.all_eq_true]
        constructor
        · intro hh q hq
          have hm := (List.of_mem_zip hq).2
          rw [← ih g q.1 q.2 (by omega) (by omega) (hsz _ hm) (h3 _ hm)]
          exact hh q hq
        · intro hh q hq
          have hm := (List.of_mem_zip hq).2
          rw [ih g q.1 q.2 (by omega) (by omega) (hsz _ hm) (h3 _ hm)]
          exact hh q hq
      rw [e1, e2]
    · obtain ⟨ps, h1, _⟩ := parts_told (isVal_below hf hs h)
      rw [fitsF_succ, fitsF_succ, h1]
      simp only
      have c3 : ¬ kindOf (bl v) = 3 := fun c => hk (.inl c)
      have c4 : ¬ kindOf (bl v) = 4 := fun c => hk (.inr c)
      rw [if_neg c3, if_neg c4, if_neg c3, if_neg c4]
end Go.Proofs.Ytbekelnhlfghlaa.Val
