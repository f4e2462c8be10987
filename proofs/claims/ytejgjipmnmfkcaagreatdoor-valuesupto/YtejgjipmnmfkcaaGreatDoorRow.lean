/-
  Values one behind the other in a text: plain facts; such values as cells.
-/
import Derived.WalkKit
import Derived.Test.YtejgjipmnmfkcaaGreatDoorDig
import Derived.Test.YtejgjipmnmfkcaaGreatDoorVal
import Derived.Test.YtejgjipmnmfkcaaGreatDoorParts
import Derived.Test.YtejgjipmnmfkcaaGreatDoorPlaces
import Derived.Test.YtejgjipmnmfkcaaGreatDoorKind
namespace Go.Proofs.YtejgjipmnmfkcaaGreatDoor.Val

def flat (vs : List ByteArray) : List UInt8 := (vs.map bl).flatten
/-- Where the value of a number begins. -/
def pos (vs : List ByteArray) (i : Nat) : Nat := (flat (vs.take i)).length
/-- A text is these values. -/
structure Row4 (c : ByteArray) (vs : List ByteArray) : Prop where
  eq : bl c = flat vs
  each : ∀ v ∈ vs, val 4 (bl v) = some v.size
theorem flat_app (a b : List ByteArray) : flat (a ++ b) = flat a ++ flat b := by unfold flat; rw [List.map_append, List.flatten_append]
theorem flat_one (v : ByteArray) : flat [v] = bl v := by simp [flat]
theorem getD_text (vs : List ByteArray) (i : Nat) (h : i < vs.length) : vs.getD i ByteArray.empty = vs[i] := by rw [List.getD_eq_getElem?_getD, List.getElem?_eq_getElem h]; rfl
theorem take_text (vs : List ByteArray) (i : Nat) (h : i < vs.length) : vs.take (i + 1) = vs.take i ++ [vs.getD i ByteArray.empty] := by rw [List.take_succ_eq_append_getElem h, getD_text vs i h]
theorem pos_succ (vs : List ByteArray) (i : Nat) (h : i < vs.length) : pos vs (i + 1) = pos vs i + (vs.getD i ByteArray.empty).size := by
  unfold pos
  rw [take_text vs i h, flat_app, List.length_append, flat_one, bl_length]
theorem pos_zero (vs : List ByteArray) : pos vs 0 = 0 := rfl
theorem Row4.last {c : ByteArray} {vs : List ByteArray} (h : Row4 c vs) : pos vs vs.length = c.size := by
  unfold pos
  rw [List.take_length, ← h.eq, bl_length]
theorem Row4.cut {c : ByteArray} {vs : List ByteArray} (h : Row4 c vs) (i : Nat) (hi : i < vs.length) : (bl c).drop (pos vs i) = bl (vs.getD i ByteArray.empty) ++ flat (vs.drop (i + 1)) := by
  have e : vs = vs.take i ++ (vs.getD i ByteArray.empty :: vs.drop (i + 1)) := by
    rw [getD_text vs i hi, ← List.drop_eq_getElem_cons hi, List.take_append_drop]
  have e2 : flat vs = flat (vs.take i) ++ (bl (vs.getD i ByteArray.empty) ++ flat (vs.drop (i + 1))) := by
    rw [show flat vs = flat (vs.take i ++ (vs.getD i ByteArray.empty :: vs.drop (i + 1))) from by rw [← e], flat_app]
    rfl
  rw [h.eq, e2]
  unfold pos
  rw [List.drop_append_of_le_length (Nat.le_refl _), List.drop_length]
  rfl
theorem getD_memT (vs : List ByteArray) (i : Nat) (h : i < vs.length) : vs.getD i ByteArray.empty ∈ vs := by
  rw [getD_text vs i h]
  exact List.getElem_mem h
theorem Row4.at {c : ByteArray} {vs : List ByteArray} (h : Row4 c vs) (i : Nat) (hi : i < vs.length) :
    val 4 ((bl c).drop (pos vs i)) = some (vs.getD i ByteArray.empty).size ∧ c.extract (pos vs i) (pos vs i + (vs.getD i ByteArray.empty).size) = vs.getD i ByteArray.empty := by
  have hc := h.cut i hi
  constructor
  · rw [hc]
    exact (fair_val 4).ext _ _ _ (h.each _ (getD_memT vs i hi))
  · apply bl_inj
    rw [bl_part, hc, Nat.add_sub_cancel_left, ← bl_length, List.take_append_of_le_length (Nat.le_refl _), List.take_length]
theorem Row4.pos_le {c : ByteArray} {vs : List ByteArray} (h : Row4 c vs) (i : Nat) : pos vs i ≤ c.size := by
  rw [← bl_length, h.eq]
  unfold pos
  rw [show flat vs = flat (vs.take i ++ vs.drop i) from by rw [List.take_append_drop], flat_app, List.length_append]
  omega
theorem size_pos {v : ByteArray} (h : val 4 (bl v) = some v.size) : 1 ≤ v.size := ((fair_val 4).pos _ _ h).1
theorem Row4.le_pos {c : ByteArray} {vs : List ByteArray} (h : Row4 c vs) : ∀ i, i ≤ vs.length → i ≤ pos vs i := by
  intro i
  induction i with
  | zero => intro _; exact Nat.zero_le _
  | succ i ih =>
    intro hi
    have := ih (by omega)
    have := size_pos (h.each _ (getD_memT vs i hi))
    rw [pos_succ vs i hi]
    omega
theorem Row4.len {c : ByteArray} {vs : List ByteArray} (h : Row4 c vs) : vs.length ≤ c.size := by
  rw [← h.last]
  exact h.le_pos _ (Nat.le_refl _)
/-- What a value has between its signs, as a text. -/
def bodyS (v : ByteArray) : ByteArray := ⟨(bodyOf (bl v)).toArray⟩
theorem bodyS_eq {c v : ByteArray} (h : bl c = bodyOf (bl v)) : c = bodyS v := bl_inj (by rw [h]; exact (bl_mk _).symm)
theorem bl_bodyS (v : ByteArray) : bl (bodyS v) = bodyOf (bl v) := bl_mk _
/-- Values as cells. -/
def cellsK (vs : List ByteArray) : List Value := vs.flatMap fun v => [.int .i64 (kindOf (bl v)), .string v, .string (bodyS v)]
theorem cellsK_snoc (vs : List ByteArray) (v : ByteArray) : cellsK (vs ++ [v]) = cellsK vs ++ [.int .i64 (kindOf (bl v)), .string v, .string (bodyS v)] := by
  unfold cellsK
  rw [List.flatMap_append]
  rfl
/-- The values in a list or a struct. -/
theorem row_of_nest {v : List UInt8} {d : Nat} (hd : d ≤ 4) (h : val d v = some v.length) (hk : kindOf v = 3 ∨ kindOf v = 4) : ∃ ps : List (List UInt8), bodyOf v = ps.flatten ∧ (∀ p ∈ ps, val 4 p = some p.length) ∧ (∀ p ∈ ps, below d p = some p.length) ∧ (kindOf v = 3 → v = listM ps) ∧ (kindOf v = 4 → v = structM ps) := by
  rw [val_below] at h
  rcases valStep_is h with ⟨b, r, rfl, hh, _⟩ | ⟨r, j, x, rfl, hh, _⟩ | ⟨r, j, n, rfl, hh, hn, _⟩ | ⟨b, r, m, f, rfl, hb, hh, hl⟩
  · rcases hh with rfl | rfl | rfl
    · rcases hk with c | c <;> exact absurd c (by show ¬ ((-1 : Int) = _); decide)
    · rcases hk with c | c <;> exact absurd c (by show ¬ ((1 : Int) = _); decide)
    · rcases hk with c | c <;> exact absurd c (by show ¬ ((1 : Int) = _); decide)
  · rcases hk with c | c <;> exact absurd c (by show ¬ ((0 : Int) = _); decide)
  · rcases hk with c | c <;> exact absurd c (by show ¬ ((2 : Int) = _); decide)
  · have hm : m = r.length := by simpa using hl.symm
    have h1 := many_fuel (fair_below d) _ _ _ _ (r.length + 1) hh (by omega)
    have h2 := items_flat _ _ _ _ h1
    rw [hm, List.take_length] at h2
    have h3 := items_each (fair_below d) _ _ _ _ h1
    have h4 : ∀ p ∈ items (below d) (b + 2) (r.length + 1) r, val 4 p = some p.length := by
      intro p hp
      have := h3 p hp
      cases d with
      | zero => cases this
      | succ d => exact val_up d 4 (by omega) _ _ this
    refine ⟨items (below d) (b + 2) (r.length + 1) r, ?_, h4, h3, ?_, ?_⟩
    · rcases hb with rfl | rfl
      · show r.dropLast = _
        rw [← h2, List.dropLast_concat]
        rw [h2]
      · show r.dropLast = _
        rw [← h2, List.dropLast_concat]
        rw [h2]
    · intro c
      rcases hb with rfl | rfl
      · unfold listM
        rw [show (93 : UInt8) = 91 + 2 from rfl, h2]
      · exact absurd c (by show ¬ ((4 : Int) = _); decide)
    · intro c
      rcases hb with rfl | rfl
      · exact absurd c (by show ¬ ((3 : Int) = _); decide)
      · unfold structM
        rw [show (125 : UInt8) = 123 + 2 from rfl, h2]
end Go.Proofs.YtejgjipmnmfkcaaGreatDoor.Val
