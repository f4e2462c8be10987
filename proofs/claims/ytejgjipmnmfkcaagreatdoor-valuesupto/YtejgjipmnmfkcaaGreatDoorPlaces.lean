/-
  Values in a text, by places: what stands where, as a reader by places meets it.
-/
import Derived.WalkKit
import Derived.Test.YtejgjipmnmfkcaaGreatDoorDig
import Derived.Test.YtejgjipmnmfkcaaGreatDoorVal
import Derived.Test.YtejgjipmnmfkcaaGreatDoorParts
namespace Go.Proofs.YtejgjipmnmfkcaaGreatDoor.Val

/-- A text's bytes. -/
def bl (s : ByteArray) : List UInt8 := s.data.toList
theorem bl_length (s : ByteArray) : (bl s).length = s.size := Array.length_toList
theorem bl_inj {s t : ByteArray} (h : bl s = bl t) : s = t := ByteArray.ext (Array.toList_inj.1 h)
theorem bl_append (s t : ByteArray) : bl (s ++ t) = bl s ++ bl t := by
  unfold bl
  rw [ByteArray.data_append, Array.toList_append]
theorem bl_extract (s : ByteArray) (a b : Nat) : bl (s.extract a b) = ((bl s).take b).drop a := by
  unfold bl
  rw [ByteArray.data_extract, Array.toList_extract, List.extract_eq_take_drop, List.drop_take]
theorem bl_mk (l : List UInt8) : bl ⟨l.toArray⟩ = l := by
  unfold bl
  exact List.toList_toArray
theorem bl_back (s : ByteArray) : (⟨(bl s).toArray⟩ : ByteArray) = s := bl_inj (bl_mk _)
theorem bl_at (s : ByteArray) (i : Nat) (h : i < s.size) : s[i] = (bl s).getD i 0 := by
  unfold bl
  show s.data[i] = _
  rw [List.getD_eq_getElem?_getD, Array.getElem?_toList, Array.getElem?_eq_getElem h]
  rfl
theorem bl_drop (s : ByteArray) (p : Nat) (h : p < s.size) : (bl s).drop p = s[p] :: (bl s).drop (p + 1) := by
  have h' : p < (bl s).length := by rw [bl_length]; exact h
  rw [List.drop_eq_getElem_cons h', bl_at s p h, List.getD_eq_getElem?_getD, List.getElem?_eq_getElem h']
  rfl
theorem bl_drop_out (s : ByteArray) (p : Nat) (h : s.size ≤ p) : (bl s).drop p = [] := List.drop_eq_nil_of_le (by rw [bl_length]; exact h)
/-- A byte as a number is that byte. -/
theorem byte_eq {b : UInt8} {n : Nat} (hn : n < 256) : ((b.toNat : Int) = (n : Int)) ↔ b = UInt8.ofNat n := by
  constructor
  · intro h
    have : b.toNat = n := by omega
    rw [← this]
    simp
  · rintro rfl
    rw [byte_nat n hn]
/-- Where the value at a place ends; -1: there is none. -/
def endO (one : List UInt8 → Option Nat) (s : ByteArray) (p : Nat) : Int :=
  match one ((bl s).drop p) with
  | none => -1
  | some k => ((p + k : Nat) : Int)
def endZ (d : Nat) (s : ByteArray) (p : Nat) : Int := endO (val d) s p
/-- Where the values at a place, and a stop, end; -1: they do not. -/
def manyZ (one : List UInt8 → Option Nat) (stop : UInt8) (s : ByteArray) (p : Nat) : Int :=
  match many one stop (s.size - p + 1) ((bl s).drop p) with
  | none => -1
  | some k => ((p + k : Nat) : Int)
theorem endO_none {one : List UInt8 → Option Nat} {s : ByteArray} {p : Nat} (h : one ((bl s).drop p) = none) : endO one s p = -1 := by
  unfold endO
  rw [h]
theorem endO_some {one : List UInt8 → Option Nat} {s : ByteArray} {p k : Nat} (h : one ((bl s).drop p) = some k) : endO one s p = ((p + k : Nat) : Int) := by
  unfold endO
  rw [h]
theorem endO_cases {one : List UInt8 → Option Nat} (ho : Fair one) (s : ByteArray) (p : Nat) (hp : p < s.size) : (endO one s p = -1 ∧ one ((bl s).drop p) = none) ∨ ∃ q : Nat, endO one s p = (q : Int) ∧ p < q ∧ q ≤ s.size ∧ one ((bl s).drop p) = some (q - p) := by
  cases h : one ((bl s).drop p) with
  | none => exact .inl ⟨endO_none h, rfl⟩
  | some k =>
    have := ho.pos _ _ h
    rw [List.length_drop, bl_length] at this
    exact .inr ⟨p + k, endO_some h, by omega, by omega, by rw [Nat.add_sub_cancel_left]⟩
theorem manyZ_out {one : List UInt8 → Option Nat} {stop : UInt8} {s : ByteArray} {p : Nat} (h : s.size ≤ p) : manyZ one stop s p = -1 := by
  unfold manyZ
  rw [bl_drop_out s p h]
  rfl
theorem manyZ_stop {one : List UInt8 → Option Nat} {stop : UInt8} {s : ByteArray} {p : Nat} (h : p < s.size) (hs : s[p] = stop) : manyZ one stop s p = ((p + 1 : Nat) : Int) := by
  unfold manyZ
  rw [bl_drop s p h, hs, many_stop]
theorem manyZ_bad {one : List UInt8 → Option Nat} {stop : UInt8} {s : ByteArray} {p : Nat} (h : p < s.size) (hs : s[p] ≠ stop) (ho : one ((bl s).drop p) = none) : manyZ one stop s p = -1 := by
  unfold manyZ
  rw [bl_drop s p h] at ho ⊢
  rw [many_step _ _ _ _ _ hs, ho]
  rfl
theorem manyZ_step {one : List UInt8 → Option Nat} (hf : Fair one) {stop : UInt8} {s : ByteArray} {p q : Nat} (h : p < s.size) (hs : s[p] ≠ stop) (hpq : p < q) (hq : q ≤ s.size) (ho : one ((bl s).drop p) = some (q - p)) : manyZ one stop s p = manyZ one stop s q := by
  have hd : ((bl s).drop p).drop (q - p) = (bl s).drop q := by rw [List.drop_drop, show p + (q - p) = q from by omega]
  unfold manyZ
  have e : many one stop (s.size - p + 1) ((bl s).drop p) = (many one stop (s.size - p) ((bl s).drop q)).map (· + (q - p)) := by
    rw [bl_drop s p h] at ho hd ⊢
    rw [many_step _ _ _ _ _ hs, ho, Option.bind_some, hd]
  rw [e]
  have hfu : many one stop (s.size - p) ((bl s).drop q) = many one stop (s.size - q + 1) ((bl s).drop q) := by
    cases h1 : many one stop (s.size - p) ((bl s).drop q) with
    | none =>
      cases h2 : many one stop (s.size - q + 1) ((bl s).drop q) with
      | none => rfl
      | some k =>
        have hk := many_pos hf _ _ _ _ h2
        rw [List.length_drop, bl_length] at hk
        have := many_fuel hf _ _ _ _ (s.size - p) h2 (by omega)
        rw [this] at h1
        cases h1
    | some k =>
      have hk := many_pos hf _ _ _ _ h1
      rw [List.length_drop, bl_length] at hk
      exact (many_fuel hf _ _ _ _ (s.size - q + 1) h1 (by omega)).symm
  rw [hfu]
  cases many one stop (s.size - q + 1) ((bl s).drop q) with
  | none => rfl
  | some k =>
    show ((p + (k + (q - p)) : Nat) : Int) = ((q + k : Nat) : Int)
    omega
/-- What may stand within at a depth: one less. -/
def below : Nat → List UInt8 → Option Nat
  | 0 => fun _ => none
  | d + 1 => val d
theorem val_below (d : Nat) : val d = valStep (below d) := by cases d <;> rfl
theorem fair_below : ∀ d, Fair (below d)
  | 0 => fair_none
  | d + 1 => fair_val d
theorem endZ_out {d : Nat} {s : ByteArray} {p : Nat} (h : s.size ≤ p) : endZ d s p = -1 := by
  refine endO_none ?_
  rw [bl_drop_out s p h, val_below]
  rfl
theorem endZ_word {d : Nat} {s : ByteArray} {p : Nat} (h : p < s.size) (hb : s[p] = 110 ∨ s[p] = 116 ∨ s[p] = 102) : endZ d s p = ((p + 1 : Nat) : Int) := by
  refine endO_some ?_
  rw [bl_drop s p h]
  exact val_is (.word _ _ hb)
theorem endZ_other {d : Nat} {s : ByteArray} {p : Nat} (h : p < s.size) (hb : s[p] ≠ 110 ∧ s[p] ≠ 116 ∧ s[p] ≠ 102 ∧ s[p] ≠ 105 ∧ s[p] ≠ 115 ∧ s[p] ≠ 91 ∧ s[p] ≠ 123) : endZ d s p = -1 := by
  obtain ⟨h1, h2, h3, h4, h5, h6, h7⟩ := hb
  refine endO_none ?_
  rw [bl_drop s p h, val_below, valStep, if_neg (fun c => by rcases c with c | c | c <;> contradiction), if_neg h4, if_neg h5, if_neg (fun c => by rcases c with c | c <;> contradiction)]
theorem endZ_nest {d : Nat} {s : ByteArray} {p : Nat} (h : p < s.size) (hb : s[p] = 91 ∨ s[p] = 123) : endZ d s p = manyZ (below d) (s[p] + 2) s (p + 1) := by
  unfold endZ endO manyZ
  rw [bl_drop s p h, val_below, valStep]
  have c1 : ¬ (s[p] = 110 ∨ s[p] = 116 ∨ s[p] = 102) := by rcases hb with e | e <;> rw [e] <;> decide
  have c2 : s[p] ≠ 105 := by rcases hb with e | e <;> rw [e] <;> decide
  have c3 : s[p] ≠ 115 := by rcases hb with e | e <;> rw [e] <;> decide
  rw [if_neg c1, if_neg c2, if_neg c3, if_pos hb]
  rw [List.length_drop, bl_length]
  cases many (below d) (s[p] + 2) (s.size - (p + 1) + 1) ((bl s).drop (p + 1)) with
  | none => rfl
  | some k =>
    show ((p + (k + 1) : Nat) : Int) = ((p + 1 + k : Nat) : Int)
    omega
/-- A sign's first place from a place on. -/
def FirstAt (s : ByteArray) (p : Nat) (c : UInt8) (k : Nat) : Prop := p ≤ k ∧ k < s.size ∧ (bl s).getD k 0 = c ∧ ∀ j, p ≤ j → j < k → (bl s).getD j 0 ≠ c
theorem getD_drop (l : List UInt8) (p j : Nat) : (l.drop p).getD j 0 = l.getD (p + j) 0 := by
  rw [List.getD_eq_getElem?_getD, List.getElem?_drop, ← List.getD_eq_getElem?_getD]
theorem seek_first {s : ByteArray} {p k : Nat} {c : UInt8} (h : FirstAt s p c k) : seek c ((bl s).drop p) = some (k - p) := by
  obtain ⟨h1, h2, h3, h4⟩ := h
  refine seek_of (by rw [List.length_drop, bl_length]; omega) ?_ ?_
  · rw [getD_drop, show p + (k - p) = k from by omega]
    exact h3
  · intro j hj
    rw [getD_drop]
    exact h4 (p + j) (by omega) (by omega)
theorem first_seek {s : ByteArray} {p k : Nat} {c : UInt8} (h : seek c ((bl s).drop p) = some k) : FirstAt s p c (p + k) := by
  obtain ⟨h1, h2, h3⟩ := seek_some h
  rw [List.length_drop, bl_length] at h1
  rw [getD_drop] at h2
  refine ⟨by omega, by omega, h2, fun j hj hk => ?_⟩
  have := h3 (j - p) (by omega)
  rw [getD_drop, show p + (j - p) = j from by omega] at this
  exact this
theorem take_drop_extract (s : ByteArray) (p k : Nat) : ((bl s).drop p).take (k - p) = bl (s.extract p k) := by
  rw [bl_extract, List.drop_take]
theorem numAt_first {s : ByteArray} {p k : Nat} {c : UInt8} (h : FirstAt s p c k) : numAt c ((bl s).drop p) = (numOf (bl (s.extract p k))).map fun x => (k - p, x) := by
  unfold numAt
  rw [seek_first h]
  simp only
  rw [take_drop_extract s p k]
/-- No such sign, or only far off: no digits up to one. -/
theorem numAt_far {s : ByteArray} {p : Nat} {c : UInt8} (h : ∀ j, p ≤ j → j < s.size → j < p + 21 → (bl s).getD j 0 ≠ c) : numAt c ((bl s).drop p) = none := by
  cases e : numAt c ((bl s).drop p) with
  | none => rfl
  | some y =>
    obtain ⟨j, x⟩ := y
    exfalso
    have h1 := numAt_lt e
    rw [numAt_some] at e
    obtain ⟨f1, f2, f3, _⟩ := first_seek e.1
    exact h (p + j) f1 f2 (by omega) f3
theorem endZ_int_far {d : Nat} {s : ByteArray} {p : Nat} (h : p < s.size) (hb : s[p] = 105) (hf : ∀ j, p + 1 ≤ j → j < s.size → j < p + 22 → (bl s).getD j 0 ≠ 59) : endZ d s p = -1 := by
  refine endO_none ?_
  rw [bl_drop s p h, hb, val_below, valStep, if_neg (by decide), if_pos rfl, numAt_far (fun j h1 h2 h3 => hf j h1 h2 (by omega))]
  rfl
theorem endZ_int {d : Nat} {s : ByteArray} {p k : Nat} (h : p < s.size) (hb : s[p] = 105) (hk : FirstAt s (p + 1) 59 k) : endZ d s p = if (numOf (bl (s.extract (p + 1) k))).isSome then ((k + 1 : Nat) : Int) else -1 := by
  have hk1 := hk.1
  have e : val d ((bl s).drop p) = (numAt 59 ((bl s).drop (p + 1))).map (fun q => q.1 + 2) := by
    rw [bl_drop s p h, hb, val_below, valStep, if_neg (by decide), if_pos rfl]
  rw [numAt_first hk] at e
  cases c : numOf (bl (s.extract (p + 1) k)) with
  | none =>
    rw [c] at e
    exact endO_none e
  | some x =>
    rw [c] at e
    show _ = ((k + 1 : Nat) : Int)
    rw [endZ, endO_some e]
    show ((p + (k - (p + 1) + 2) : Nat) : Int) = _
    omega
theorem endZ_bytes_far {d : Nat} {s : ByteArray} {p : Nat} (h : p < s.size) (hb : s[p] = 115) (hf : ∀ j, p + 1 ≤ j → j < s.size → j < p + 22 → (bl s).getD j 0 ≠ 58) : endZ d s p = -1 := by
  refine endO_none ?_
  rw [bl_drop s p h, hb, val_below, valStep, if_neg (by decide), if_neg (by decide), if_pos rfl, numAt_far (fun j h1 h2 h3 => hf j h1 h2 (by omega))]
  rfl
theorem endZ_bytes {d : Nat} {s : ByteArray} {p k : Nat} (h : p < s.size) (hb : s[p] = 115) (hk : FirstAt s (p + 1) 58 k) : endZ d s p = match numOf (bl (s.extract (p + 1) k)) with
    | none => -1
    | some x => if 0 ≤ x ∧ x ≤ (s.size : Int) - k - 1 then (k : Int) + 1 + x else -1 := by
  have hk1 := hk.1
  have hk2 := hk.2.1
  have e : val d ((bl s).drop p) = (numAt 58 ((bl s).drop (p + 1))).bind (fun q => if 0 ≤ q.2 ∧ q.2 ≤ ((((bl s).drop (p + 1)).length : Nat) : Int) - q.1 - 1 then some (q.1 + 2 + q.2.toNat) else none) := by
    rw [bl_drop s p h, hb, val_below, valStep, if_neg (by decide), if_neg (by decide), if_pos rfl]
  rw [numAt_first hk, List.length_drop, bl_length] at e
  cases c : numOf (bl (s.extract (p + 1) k)) with
  | none =>
    rw [c] at e
    exact endO_none e
  | some x =>
    rw [c] at e
    have e' : val d ((bl s).drop p) = if 0 ≤ x ∧ x ≤ (((s.size - (p + 1)) : Nat) : Int) - ((k - (p + 1) : Nat) : Int) - 1 then some ((k - (p + 1)) + 2 + x.toNat) else none := e
    show _ = if 0 ≤ x ∧ x ≤ (s.size : Int) - k - 1 then (k : Int) + 1 + x else -1
    by_cases q : 0 ≤ x ∧ x ≤ (s.size : Int) - k - 1
    · rw [if_pos (by omega)] at e'
      rw [if_pos q, endZ, endO_some e']
      omega
    · rw [if_neg (by omega)] at e'
      rw [if_neg q]
      exact endO_none e'
end Go.Proofs.YtejgjipmnmfkcaaGreatDoor.Val
