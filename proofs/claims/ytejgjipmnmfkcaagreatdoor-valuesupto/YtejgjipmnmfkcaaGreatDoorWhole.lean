/-
  A nest's values by places; a value's kind and parts as texts; which values fit a node: plain facts.
-/
import Derived.WalkKit
import Derived.Test.YtejgjipmnmfkcaaGreatDoorTree
import Derived.Test.YtejgjipmnmfkcaaGreatDoorDig
import Derived.Test.YtejgjipmnmfkcaaGreatDoorVal
import Derived.Test.YtejgjipmnmfkcaaGreatDoorParts
import Derived.Test.YtejgjipmnmfkcaaGreatDoorPlaces
namespace Go.Proofs.YtejgjipmnmfkcaaGreatDoor.Val
open Tree

/-- From a place on a text is values and a stop, to its end. -/
def Whole (one : List UInt8 → Option Nat) (stop : UInt8) (s : ByteArray) (p : Nat) : Prop := many one stop (s.size - p + 1) ((bl s).drop p) = some (s.size - p) ∧ p < s.size
/-- These values. -/
def itemsZ (one : List UInt8 → Option Nat) (stop : UInt8) (s : ByteArray) (p : Nat) : List (List UInt8) := items one stop (s.size - p + 1) ((bl s).drop p)
theorem Whole.last {one : List UInt8 → Option Nat} (hf : Fair one) {stop : UInt8} {s : ByteArray} {p : Nat} (h : Whole one stop s p) (hp : ¬ p < s.size - 1) : p = s.size - 1 ∧ itemsZ one stop s p = [] := by
  obtain ⟨h, hl⟩ := h
  refine ⟨by omega, ?_⟩
  have hd := bl_drop s p hl
  rw [bl_drop_out s (p + 1) (by omega)] at hd
  unfold itemsZ
  rw [hd] at h ⊢
  obtain ⟨g, hg, c | ⟨b, r, j, m, e, hb, h1, h2, hk⟩⟩ := many_cases h
  · obtain ⟨r, e, _⟩ := c
    injection e with e1 e2
    rw [e1]
    exact items_stop _ _ _ _
  · exfalso
    have hj := hf.pos _ _ h1
    have hm := many_pos hf _ _ _ _ h2
    rw [List.length_drop] at hm
    simp only [List.length_singleton] at hj hm
    omega
theorem Whole.step {one : List UInt8 → Option Nat} (hf : Fair one) {stop : UInt8} {s : ByteArray} {p : Nat} (h : Whole one stop s p) (hp : p < s.size - 1) :
    ∃ q : Nat, p < q ∧ q ≤ s.size - 1 ∧ one ((bl s).drop p) = some (q - p) ∧ Whole one stop s q ∧ itemsZ one stop s p = bl (s.extract p q) :: itemsZ one stop s q := by
  obtain ⟨h, hl⟩ := h
  have hd := bl_drop s p hl
  obtain ⟨g, hg, c | ⟨b, r, j, m, e, hb, h1, h2, hk⟩⟩ := many_cases h
  · obtain ⟨r, e, hk⟩ := c
    exfalso
    omega
  · have hj := hf.pos _ _ h1
    rw [List.length_drop, bl_length] at hj
    have hm := many_pos hf _ _ _ _ h2
    have hdd : ((bl s).drop p).drop j = (bl s).drop (p + j) := by rw [List.drop_drop]
    rw [hdd] at h2 hm
    rw [List.length_drop, bl_length] at hm
    have hw : Whole one stop s (p + j) := by
      refine ⟨?_, by omega⟩
      have := many_fuel hf _ _ _ _ (s.size - (p + j) + 1) h2 (by omega)
      rw [this]
      congr 1
      omega
    refine ⟨p + j, by omega, by omega, by rw [Nat.add_sub_cancel_left]; exact h1, hw, ?_⟩
    unfold itemsZ
    have e1 : (bl s).drop p = b :: r := e
    have ht : ((bl s).drop p).take j = bl (s.extract p (p + j)) := by
      have := take_drop_extract s p (p + j)
      rw [Nat.add_sub_cancel_left] at this
      exact this
    have hst : items one stop (s.size - p + 1) ((bl s).drop p) = ((bl s).drop p).take j :: items one stop (s.size - p) (((bl s).drop p).drop j) := by
      rw [e1] at h1 ⊢
      exact items_step _ hb h1
    rw [hst, ht, hdd, items_fuel hf _ _ _ _ (s.size - p) hw.1 (by omega)]
/-- A nest is whole from behind its first byte on. -/
theorem whole_of {s : ByteArray} (hv : isVal (bl s)) (h0 : 0 < s.size) (hb : s[0] = 91 ∨ s[0] = 123) : Whole (val 3) (s[0] + 2) s 1 := by
  have h := hv.2
  rw [bl_length] at h
  have hd := bl_drop s 0 h0
  rw [List.drop_zero] at hd
  rw [hd] at h
  have h' : valStep (val 3) (s[0] :: (bl s).drop 1) = some s.size := h
  rcases valStep_is h' with ⟨c, r, e, hh, _⟩ | ⟨r, j, x, e, hh, _⟩ | ⟨r, j, n, e, hh, hn, _⟩ | ⟨c, r, m, f, e, hc, hh, hk⟩
  · injection e with e1 _
    rw [← e1] at hh
    rcases hb with c | c <;> rw [c] at hh <;> exact absurd hh (by decide)
  · injection e with e1 _
    rcases hb with c | c <;> rw [c] at e1 <;> exact absurd e1 (by decide)
  · injection e with e1 _
    rcases hb with c | c <;> rw [c] at e1 <;> exact absurd e1 (by decide)
  · injection e with e1 e2
    rw [← e1, ← e2] at hh
    have hm := many_pos (fair_val 3) _ _ _ _ hh
    refine ⟨?_, by omega⟩
    rw [many_fuel (fair_val 3) _ _ _ _ (s.size - 1 + 1) hh (by omega)]
    congr 1
    omega
/-- A value's kind and parts, as texts. -/
def partsS (s : ByteArray) : Option (Int × List ByteArray) := (partsM (bl s)).map fun p => (p.1, p.2.map fun l => ⟨l.toArray⟩)
theorem partsS_none {s : ByteArray} (h : ¬ isVal (bl s)) : partsS s = none := by
  unfold partsS
  rw [partsM_none h]
  rfl
theorem isVal_iff (s : ByteArray) : isVal (bl s) ↔ s.size ≤ 65536 ∧ endZ 4 s 0 = (s.size : Int) := by
  unfold isVal
  rw [bl_length]
  constructor
  · rintro ⟨h1, h2⟩
    refine ⟨h1, ?_⟩
    have : val 4 ((bl s).drop 0) = some s.size := by rw [List.drop_zero]; exact h2
    rw [endZ, endO_some this, Nat.zero_add]
  · rintro ⟨h1, h2⟩
    refine ⟨h1, ?_⟩
    cases c : val 4 ((bl s).drop 0) with
    | none => rw [endZ, endO_none c] at h2; omega
    | some k =>
      rw [endZ, endO_some c] at h2
      rw [List.drop_zero] at c
      rw [c]
      congr 1
      omega
theorem mk_bl (s : ByteArray) : (⟨(bl s).toArray⟩ : ByteArray) = s := bl_back s
theorem first_byte {s : ByteArray} (h : 0 < s.size) : bl s = s[0] :: (bl s).drop 1 := by
  have hd := bl_drop s 0 h
  rw [List.drop_zero] at hd
  exact hd
theorem isVal_pos {s : ByteArray} (h : isVal (bl s)) : 0 < s.size := by
  have := ((fair_val 4).pos _ _ h.2).1
  rw [bl_length] at this
  omega
theorem isVal_bytes {s : ByteArray} (h : isVal (bl s)) : s[0]'(isVal_pos h) = 110 ∨ s[0]'(isVal_pos h) = 105 ∨ s[0]'(isVal_pos h) = 116 ∨ s[0]'(isVal_pos h) = 102 ∨ s[0]'(isVal_pos h) = 115 ∨ s[0]'(isVal_pos h) = 91 ∨ s[0]'(isVal_pos h) = 123 := by
  have h0 := isVal_pos h
  have hv : valStep (val 3) (bl s) = some (bl s).length := h.2
  rw [first_byte h0] at hv
  rcases valStep_is hv with ⟨c, r, e, hh, _⟩ | ⟨r, j, x, e, hh, _⟩ | ⟨r, j, n, e, hh, hn, _⟩ | ⟨c, r, m, f, e, hc, hh, hk⟩
  · injection e with e1 _
    rw [← e1] at hh
    rcases hh with c | c | c
    · exact .inl c
    · exact .inr (.inr (.inl c))
    · exact .inr (.inr (.inr (.inl c)))
  · injection e with e1 _
    exact .inr (.inl e1)
  · injection e with e1 _
    exact .inr (.inr (.inr (.inr (.inl e1))))
  · injection e with e1 _
    rw [← e1] at hc
    rcases hc with c | c
    · exact .inr (.inr (.inr (.inr (.inr (.inl c)))))
    · exact .inr (.inr (.inr (.inr (.inr (.inr c)))))
theorem partsS_tell {s : ByteArray} (h : isVal (bl s)) {k : Int} {ps : List (List UInt8)} (ht : tell (bl s) = some (k, ps)) : partsS s = some (k, ps.map fun l => ⟨l.toArray⟩) := by
  unfold partsS
  rw [partsM_tell h, ht]
  rfl
theorem partsS_n {s : ByteArray} (h : isVal (bl s)) (hb : s[0]'(isVal_pos h) = 110) : partsS s = some (-1, []) := by
  refine partsS_tell h (ps := []) ?_
  rw [first_byte (isVal_pos h), hb]
  exact tell_n _
theorem partsS_w {s : ByteArray} (h : isVal (bl s)) (hb : s[0]'(isVal_pos h) = 116 ∨ s[0]'(isVal_pos h) = 102) : partsS s = some (1, [s]) := by
  have e := partsS_tell h (k := 1) (ps := [bl s]) (by
    have hd := first_byte (isVal_pos h)
    rcases hb with c | c
    · rw [c] at hd
      rw [hd]
      exact tell_t _
    · rw [c] at hd
      rw [hd]
      exact tell_f _)
  rw [e]
  show some (1, [(⟨(bl s).toArray⟩ : ByteArray)]) = _
  rw [mk_bl]
theorem partsS_i {s : ByteArray} (h : isVal (bl s)) (hb : s[0]'(isVal_pos h) = 105) : partsS s = some (0, [s.extract 1 (s.size - 1)]) := by
  have hd := first_byte (isVal_pos h)
  rw [hb] at hd
  have e := partsS_tell h (k := 0) (ps := [((bl s).drop 1).dropLast]) (by
    generalize (bl s).drop 1 = r at hd
    rw [hd]
    exact tell_i _)
  rw [e]
  have e2 : ((bl s).drop 1).dropLast = bl (s.extract 1 (s.size - 1)) := by
    rw [bl_extract, List.dropLast_eq_take, List.length_drop, bl_length, List.drop_take]
  rw [e2]
  show some (0, [(⟨(bl (s.extract 1 (s.size - 1))).toArray⟩ : ByteArray)]) = _
  rw [mk_bl]
theorem partsS_s {s : ByteArray} (h : isVal (bl s)) (hb : s[0]'(isVal_pos h) = 115) {k : Nat} (hk : FirstAt s 1 58 k) : partsS s = some (2, [s.extract (k + 1) s.size]) := by
  have hd := first_byte (isVal_pos h)
  rw [hb] at hd
  have h1 := hk.1
  have e := partsS_tell h (k := 2) (ps := [((bl s).drop 1).drop (k - 1 + 1)]) (by
    have hs := seek_first hk
    generalize (bl s).drop 1 = r at hd hs
    rw [hd, tell_s, hs]
    rfl)
  rw [e]
  have e2 : ((bl s).drop 1).drop (k - 1 + 1) = bl (s.extract (k + 1) s.size) := by
    rw [bl_extract, List.drop_drop, show 1 + (k - 1 + 1) = k + 1 from by omega, ← bl_length, List.take_length]
  rw [e2]
  show some (2, [(⟨(bl (s.extract (k + 1) s.size)).toArray⟩ : ByteArray)]) = _
  rw [mk_bl]
/-- There is such a place. -/
theorem first_colon {s : ByteArray} (h : isVal (bl s)) (hb : s[0]'(isVal_pos h) = 115) : ∃ k, FirstAt s 1 58 k ∧ k ≤ 21 := by
  have h0 := isVal_pos h
  have hv : valStep (val 3) (bl s) = some (bl s).length := h.2
  rw [first_byte h0, hb] at hv
  rcases valStep_is hv with ⟨c, r, e, hh, _⟩ | ⟨r, j, x, e, hh, _⟩ | ⟨r, j, n, e, hh, hn, _⟩ | ⟨c, r, m, f, e, hc, hh, hk⟩
  · injection e with e1 _
    rw [← e1] at hh
    exact absurd hh (by decide)
  · injection e with e1 _
    exact absurd e1 (by decide)
  · injection e with e1 e2
    rw [← e2] at hh
    have hj := numAt_lt hh
    rw [numAt_some] at hh
    exact ⟨1 + j, first_seek hh.1, by omega⟩
  · injection e with e1 _
    rw [← e1] at hc
    exact absurd hc (by decide)
theorem partsS_l {s : ByteArray} (h : isVal (bl s)) (hb : s[0]'(isVal_pos h) = 91) : partsS s = some (3, (itemsZ (val 3) 93 s 1).map fun l => ⟨l.toArray⟩) := by
  have hd := first_byte (isVal_pos h)
  rw [hb] at hd
  refine partsS_tell h ?_
  unfold itemsZ
  have hl : ((bl s).drop 1).length = s.size - 1 := by rw [List.length_drop, bl_length]
  rw [← hl]
  generalize (bl s).drop 1 = r at hd
  rw [hd]
  exact tell_l _
theorem partsS_o {s : ByteArray} (h : isVal (bl s)) (hb : s[0]'(isVal_pos h) = 123) : partsS s = some (4, (itemsZ (val 3) 125 s 1).map fun l => ⟨l.toArray⟩) := by
  have hd := first_byte (isVal_pos h)
  rw [hb] at hd
  refine partsS_tell h ?_
  unfold itemsZ
  have hl : ((bl s).drop 1).length = s.size - 1 := by rw [List.length_drop, bl_length]
  rw [← hl]
  generalize (bl s).drop 1 = r at hd
  rw [hd]
  exact tell_o _
/-- Which values fit a node; so far down it is looked. -/
def fitsF (ns : List Nd) : Nat → Nat → ByteArray → Bool
  | 0, _, _ => false
  | f + 1, a, v =>
    match partsS v with
    | none => false
    | some (k, ps) =>
      if k < 0 then (nd ns a).null
      else if k ≠ (nd ns a).kind then false
      else if k = 2 then decide ((ps.getD 0 ByteArray.empty).size ≤ 16)
      else if k = 3 then decide (ps.length ≤ 64) && ps.all (fitsF ns f ((kids ns a).getD 0 0))
      else if k = 4 then decide (ps.length = (kids ns a).length) && ((kids ns a).zip ps).all fun q => fitsF ns f q.1 q.2
      else true
def fitsZ (ns : List Nd) (a : Int) (v : ByteArray) : Bool := decide (0 ≤ a ∧ a < (ns.length : Int)) && (may ns && fitsF ns 8 a.toNat v)
end Go.Proofs.YtejgjipmnmfkcaaGreatDoor.Val
