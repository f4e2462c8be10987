/-
  A value's kind and what it has between its signs, by the places of a text: plain facts.
-/
import Derived.WalkKit
import Derived.Test.YtejgjipmnmfkcaaGreatDoorDig
import Derived.Test.YtejgjipmnmfkcaaGreatDoorVal
import Derived.Test.YtejgjipmnmfkcaaGreatDoorParts
import Derived.Test.YtejgjipmnmfkcaaGreatDoorPlaces
namespace Go.Proofs.YtejgjipmnmfkcaaGreatDoor.Val

def kindOf : List UInt8 → Int
  | [] => 0
  | b :: _ => if b = 110 then -1 else if b = 105 then 0 else if b = 115 then 2 else if b = 91 then 3 else if b = 123 then 4 else 1
def bodyOf : List UInt8 → List UInt8
  | [] => []
  | b :: r => if b = 110 then [] else if b = 105 ∨ b = 91 ∨ b = 123 then r.dropLast else if b = 115 then (match seek 58 r with | none => [] | some j => r.drop (j + 1)) else [b]
theorem bodyOf_s (r : List UInt8) : bodyOf (115 :: r) = match seek 58 r with | none => [] | some j => r.drop (j + 1) := by
  rw [bodyOf, if_neg (by decide), if_neg (by decide), if_pos rfl]
theorem bl_cut (s : ByteArray) (p q : Nat) (hp : p < s.size) (hq : p < q) : bl (s.extract p q) = s[p] :: ((bl s).drop (p + 1)).take (q - p - 1) := by
  rw [← take_drop_extract, bl_drop s p hp]
  obtain ⟨m, hm⟩ : ∃ m, q - p = m + 1 := ⟨q - p - 1, by omega⟩
  rw [hm]
  rfl
theorem bl_part (s : ByteArray) (p q : Nat) : bl (s.extract p q) = ((bl s).drop p).take (q - p) := (take_drop_extract s p q).symm
theorem dropLast_part (s : ByteArray) (p q : Nat) (hp : p ≤ q) (hq : q < s.size) : (((bl s).drop p).take (q + 1 - p)).dropLast = bl (s.extract p q) := by
  rw [bl_part, List.dropLast_eq_take, List.length_take, List.length_drop, bl_length, List.take_take]
  congr 1
  omega
theorem take_word {s : ByteArray} {p : Nat} (hp : p < s.size) (hb : s[p] = 110 ∨ s[p] = 116 ∨ s[p] = 102) (d : Nat) : val d ((bl s).drop p) = some 1 := by
  rw [bl_drop s p hp]
  exact val_is (.word _ _ hb)
theorem one_byte {s : ByteArray} {p : Nat} (hp : p < s.size) : bl (s.extract p (p + 1)) = [s[p]] := by
  rw [bl_cut s p (p + 1) hp (by omega), show p + 1 - p - 1 = 0 from by omega]
  rfl
theorem val_num {s : ByteArray} {p : Nat} (hp : p < s.size) (hb : s[p] = 105) (d : Nat) : val d ((bl s).drop p) = (numAt 59 ((bl s).drop (p + 1))).map (fun q => q.1 + 2) := by
  rw [bl_drop s p hp, hb, val_below, valStep, if_neg (by decide), if_pos rfl]
theorem int_yes {s : ByteArray} {p j : Nat} {x : Int} (hp : p < s.size) (hb : s[p] = 105) (h : numAt 59 ((bl s).drop (p + 1)) = some (j, x)) (d : Nat) :
    val d ((bl s).drop p) = some (p + 1 + j + 1 - p) ∧ kindOf (bl (s.extract p (p + 1 + j + 1))) = 0 ∧ bodyOf (bl (s.extract p (p + 1 + j + 1))) = bl (s.extract (p + 1) (p + 1 + j)) ∧ p + 1 + j < s.size := by
  have hj := numAt_lt h
  rw [List.length_drop, bl_length] at hj
  refine ⟨?_, ?_, ?_, by omega⟩
  · rw [val_num hp hb, h, Option.map_some]
    congr 1
    show j + 2 = _
    omega
  · rw [bl_cut s p _ hp (by omega), hb]
    rfl
  · rw [bl_cut s p _ hp (by omega), hb]
    show (((bl s).drop (p + 1)).take (p + 1 + j + 1 - p - 1)).dropLast = _
    rw [show p + 1 + j + 1 - p - 1 = p + 1 + j + 1 - (p + 1) from by omega]
    exact dropLast_part s (p + 1) (p + 1 + j) (by omega) (by omega)
theorem int_no {s : ByteArray} {p : Nat} (hp : p < s.size) (hb : s[p] = 105) (h : numAt 59 ((bl s).drop (p + 1)) = none) (d : Nat) : val d ((bl s).drop p) = none := by
  rw [val_num hp hb, h]
  rfl
theorem val_cnt {s : ByteArray} {p : Nat} (hp : p < s.size) (hb : s[p] = 115) (d : Nat) : val d ((bl s).drop p) = (numAt 58 ((bl s).drop (p + 1))).bind (fun q => if 0 ≤ q.2 ∧ q.2 ≤ ((((bl s).drop (p + 1)).length : Nat) : Int) - q.1 - 1 then some (q.1 + 2 + q.2.toNat) else none) := by
  rw [bl_drop s p hp, hb, val_below, valStep, if_neg (by decide), if_neg (by decide), if_pos rfl]
theorem cnt_yes {s : ByteArray} {p j n : Nat} (hp : p < s.size) (hb : s[p] = 115) (h : numAt 58 ((bl s).drop (p + 1)) = some (j, (n : Int))) (hn : p + 1 + j + 1 + n ≤ s.size) (d : Nat) :
    val d ((bl s).drop p) = some (p + 1 + j + 1 + n - p) ∧ kindOf (bl (s.extract p (p + 1 + j + 1 + n))) = 2 ∧ bodyOf (bl (s.extract p (p + 1 + j + 1 + n))) = bl (s.extract (p + 1 + j + 1) (p + 1 + j + 1 + n)) := by
  refine ⟨?_, ?_, ?_⟩
  · rw [val_cnt hp hb, h, Option.bind_some, List.length_drop, bl_length]
    show (if 0 ≤ (n : Int) ∧ (n : Int) ≤ ((s.size - (p + 1) : Nat) : Int) - (j : Int) - 1 then some (j + 2 + ((n : Int)).toNat) else none) = _
    rw [if_pos (by omega)]
    congr 1
    omega
  · rw [bl_cut s p _ hp (by omega), hb]
    rfl
  · rw [bl_cut s p _ hp (by omega), hb]
    have hs : seek 58 (((bl s).drop (p + 1)).take (p + 1 + j + 1 + n - p - 1)) = some j := seek_take (numAt_some.1 h).1 (by omega)
    rw [bodyOf_s, hs]
    show (((bl s).drop (p + 1)).take (p + 1 + j + 1 + n - p - 1)).drop (j + 1) = _
    rw [bl_part, List.drop_take, List.drop_drop]
    congr 1
    · omega
theorem cnt_no {s : ByteArray} {p : Nat} (hp : p < s.size) (hb : s[p] = 115) (h : ∀ (j n : Nat), numAt 58 ((bl s).drop (p + 1)) = some (j, (n : Int)) → s.size < p + 1 + j + 1 + n) (d : Nat) : val d ((bl s).drop p) = none := by
  rw [val_cnt hp hb]
  cases c : numAt 58 ((bl s).drop (p + 1)) with
  | none => rfl
  | some y =>
    obtain ⟨j, x⟩ := y
    rw [Option.bind_some]
    have hj := numAt_lt c
    rw [List.length_drop, bl_length] at hj ⊢
    show (if 0 ≤ x ∧ x ≤ ((s.size - (p + 1) : Nat) : Int) - (j : Int) - 1 then some (j + 2 + x.toNat) else none) = none
    rw [if_neg]
    intro hx
    obtain ⟨n, rfl⟩ : ∃ n : Nat, x = (n : Int) := ⟨x.toNat, by omega⟩
    have := h j n c
    omega
theorem nest_yes {s : ByteArray} {p q d : Nat} (hp : p < s.size) (hb : s[p] = 91 ∨ s[p] = 123) (h : manyZ (below d) (s[p] + 2) s (p + 1) = (q : Int)) :
    val d ((bl s).drop p) = some (q - p) ∧ p + 1 < q ∧ q ≤ s.size ∧ kindOf (bl (s.extract p q)) = (if s[p] = 91 then 3 else 4) ∧ bodyOf (bl (s.extract p q)) = bl (s.extract (p + 1) (q - 1)) := by
  have hz := endZ_nest (d := d) hp hb
  rw [h] at hz
  rcases endO_cases (fair_val d) s p hp with ⟨e, _⟩ | ⟨q', e, h1, h2, h3⟩
  · rw [show endZ d s p = endO (val d) s p from rfl, e] at hz
    omega
  · rw [show endZ d s p = endO (val d) s p from rfl, e] at hz
    obtain rfl : q' = q := by omega
    have h4 : p + 1 < q' := by
      unfold manyZ at h
      cases hm : many (below d) (s[p] + 2) (s.size - (p + 1) + 1) ((bl s).drop (p + 1)) with
      | none =>
        rw [hm] at h
        have h' : (-1 : Int) = (q' : Int) := h
        omega
      | some k =>
        rw [hm] at h
        have := (many_pos (fair_below d) _ _ _ _ hm).1
        have h' : ((p + 1 + k : Nat) : Int) = (q' : Int) := h
        omega
    refine ⟨h3, h4, h2, ?_, ?_⟩
    · rw [bl_cut s p _ hp (by omega)]
      rcases hb with e | e
      · rw [e]
        rfl
      · rw [e]
        rfl
    · rw [bl_cut s p _ hp (by omega)]
      have e2 : (((bl s).drop (p + 1)).take (q' - p - 1)).dropLast = bl (s.extract (p + 1) (q' - 1)) := by
        have := dropLast_part s (p + 1) (q' - 1) (by omega) (by omega)
        rw [show q' - 1 + 1 - (p + 1) = q' - p - 1 from by omega] at this
        exact this
      rcases hb with e | e
      · rw [e]
        exact e2
      · rw [e]
        exact e2
theorem nest_no {s : ByteArray} {p d : Nat} (hp : p < s.size) (hb : s[p] = 91 ∨ s[p] = 123) (h : manyZ (below d) (s[p] + 2) s (p + 1) = -1) : val d ((bl s).drop p) = none := by
  have hz := endZ_nest (d := d) hp hb
  rw [h] at hz
  rcases endO_cases (fair_val d) s p hp with ⟨_, e⟩ | ⟨q', e, _⟩
  · exact e
  · rw [show endZ d s p = endO (val d) s p from rfl, e] at hz
    omega
theorem other_no {s : ByteArray} {p : Nat} (h : p < s.size) (hb : s[p] ≠ 110 ∧ s[p] ≠ 116 ∧ s[p] ≠ 102 ∧ s[p] ≠ 105 ∧ s[p] ≠ 115 ∧ s[p] ≠ 91 ∧ s[p] ≠ 123) (d : Nat) : val d ((bl s).drop p) = none := by
  have hz := endZ_other (d := d) h hb
  rcases endO_cases (fair_val d) s p h with ⟨_, e⟩ | ⟨q', e, _⟩
  · exact e
  · rw [show endZ d s p = endO (val d) s p from rfl, e] at hz
    omega
end Go.Proofs.YtejgjipmnmfkcaaGreatDoor.Val
