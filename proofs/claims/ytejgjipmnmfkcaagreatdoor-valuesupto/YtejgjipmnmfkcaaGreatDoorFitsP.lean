/-
  Which values fit a node, a step down: plain facts.
-/
import Derived.WalkKit
import Derived.Test.YtejgjipmnmfkcaaGreatDoorTree
import Derived.Test.YtejgjipmnmfkcaaGreatDoorUp
import Derived.Test.YtejgjipmnmfkcaaGreatDoorDig
import Derived.Test.YtejgjipmnmfkcaaGreatDoorVal
import Derived.Test.YtejgjipmnmfkcaaGreatDoorParts
import Derived.Test.YtejgjipmnmfkcaaGreatDoorPlaces
import Derived.Test.YtejgjipmnmfkcaaGreatDoorWhole
import Derived.Test.YtejgjipmnmfkcaaGreatDoorKind
import Derived.Test.YtejgjipmnmfkcaaGreatDoorRow
import Derived.Test.YtejgjipmnmfkcaaGreatDoorPartsC
namespace Go.Proofs.YtejgjipmnmfkcaaGreatDoor.Val
open Tree

theorem below_up {f : Nat} (hf : f ≤ 5) {l : List UInt8} {k : Nat} (h : below f l = some k) : val 4 l = some k := by
  cases f with
  | zero => cases h
  | succ f => exact val_up f 4 (by omega) _ _ h
theorem isVal_below {f : Nat} (hf : f ≤ 5) {v : ByteArray} (hs : v.size ≤ 65536) (h : below f (bl v) = some v.size) : isVal (bl v) :=
  ⟨by rw [bl_length]; exact hs, by rw [bl_length]; exact below_up hf h⟩
theorem nest_parts {f : Nat} (hf : f ≤ 4) {v : ByteArray} (hs : v.size ≤ 65536) (h : val f (bl v) = some v.size) (hk : kindOf (bl v) = 3 ∨ kindOf (bl v) = 4) :
    ∃ ps : List ByteArray, partsS v = some (kindOf (bl v), ps) ∧ Row4 (bodyS v) ps ∧ ∀ p ∈ ps, below f (bl p) = some p.size := by
  rw [← bl_length] at h
  obtain ⟨qs, h1, h2, h3, h4, h5⟩ := row_of_nest hf h hk
  have h6 : ∀ p ∈ qs, val 3 p = some p.length := by
    intro p hp
    have := h3 p hp
    cases f with
    | zero => cases this
    | succ f => exact val_up f 3 (by omega) _ _ this
  refine ⟨qs.map fun l => ⟨l.toArray⟩, ?_, row_mk h1 h6, fun p hp => ?_⟩
  · unfold partsS
    rcases hk with c | c
    · have e := h4 c
      have hl : (listM qs).length ≤ 65536 := by rw [← e, bl_length]; exact hs
      rw [c, e, parts_list qs h6 hl]
      rfl
    · have e := h5 c
      have hl : (structM qs).length ≤ 65536 := by rw [← e, bl_length]; exact hs
      rw [c, e, parts_struct qs h6 hl]
      rfl
  · obtain ⟨q, hq, rfl⟩ := List.mem_map.1 hp
    rw [bl_mk, mk_size]
    exact h3 q hq
theorem fitsF_succ (ns : List Nd) (f a : Nat) (v : ByteArray) : fitsF ns (f + 1) a v = match partsS v with
    | none => false
    | some (k, ps) =>
      if k < 0 then (nd ns a).null
      else if k ≠ (nd ns a).kind then false
      else if k = 2 then decide ((ps.getD 0 ByteArray.empty).size ≤ 16)
      else if k = 3 then decide (ps.length ≤ 64) && ps.all (fitsF ns f ((kids ns a).getD 0 0))
      else if k = 4 then decide (ps.length = (kids ns a).length) && ((kids ns a).zip ps).all fun q => fitsF ns f q.1 q.2
      else true := rfl
theorem kindOf_in (l : List UInt8) : -1 ≤ kindOf l ∧ kindOf l ≤ 4 := by
  cases l with
  | nil => exact ⟨by decide, by decide⟩
  | cons b r =>
    rw [kindOf]
    split
    · exact ⟨by decide, by decide⟩
    · split
      · exact ⟨by decide, by decide⟩
      · split
        · exact ⟨by decide, by decide⟩
        · split
          · exact ⟨by decide, by decide⟩
          · split
            · exact ⟨by decide, by decide⟩
            · exact ⟨by decide, by decide⟩
theorem fits_null {ns : List Nd} {f a : Nat} (hf : f ≤ 4) {v : ByteArray} (hs : v.size ≤ 65536) (h : val f (bl v) = some v.size) (hk : kindOf (bl v) = -1) : fitsF ns (f + 1) a v = (nd ns a).null := by
  obtain ⟨ps, h1, _⟩ := parts_told (isVal_below (f := f + 1) (by omega) hs h)
  rw [fitsF_succ, h1]
  show (if kindOf (bl v) < 0 then _ else _) = _
  rw [if_pos (by omega)]
theorem fits_other {ns : List Nd} {f a : Nat} (hf : f ≤ 4) {v : ByteArray} (hs : v.size ≤ 65536) (h : val f (bl v) = some v.size) (hk : kindOf (bl v) ≠ -1) (hn : kindOf (bl v) ≠ (nd ns a).kind) : fitsF ns (f + 1) a v = false := by
  obtain ⟨ps, h1, _⟩ := parts_told (isVal_below (f := f + 1) (by omega) hs h)
  have := kindOf_in (bl v)
  rw [fitsF_succ, h1]
  show (if kindOf (bl v) < 0 then _ else if kindOf (bl v) ≠ (nd ns a).kind then _ else _) = _
  rw [if_neg (by omega), if_pos hn]
theorem fits_bytes {ns : List Nd} {f a : Nat} (hf : f ≤ 4) {v : ByteArray} (hs : v.size ≤ 65536) (h : val f (bl v) = some v.size) (hk : kindOf (bl v) = 2) (hn : (nd ns a).kind = 2) : fitsF ns (f + 1) a v = decide ((bodyS v).size ≤ 16) := by
  obtain ⟨ps, h1, h2⟩ := parts_told (isVal_below (f := f + 1) (by omega) hs h)
  rw [hk] at h1 h2
  rw [fitsF_succ, h1]
  show (if (2 : Int) < 0 then _ else if (2 : Int) ≠ (nd ns a).kind then _ else if (2 : Int) = 2 then decide ((ps.getD 0 ByteArray.empty).size ≤ 16) else _) = _
  rw [if_neg (by decide), if_neg (by rw [hn]; decide), if_pos rfl]
  rcases h2 with ⟨c, _⟩ | ⟨c, _⟩ | ⟨_, rfl⟩
  · cases c
  · rcases c with c | c <;> cases c
  · rfl
theorem fits_leaf {ns : List Nd} {f a : Nat} (hf : f ≤ 4) {v : ByteArray} (hs : v.size ≤ 65536) (h : val f (bl v) = some v.size) (hk : kindOf (bl v) = 0 ∨ kindOf (bl v) = 1) (hn : kindOf (bl v) = (nd ns a).kind) : fitsF ns (f + 1) a v = true := by
  obtain ⟨ps, h1, h2⟩ := parts_told (isVal_below (f := f + 1) (by omega) hs h)
  rw [fitsF_succ, h1]
  show (if kindOf (bl v) < 0 then _ else if kindOf (bl v) ≠ (nd ns a).kind then _ else if kindOf (bl v) = 2 then _ else if kindOf (bl v) = 3 then _ else if kindOf (bl v) = 4 then _ else true) = _
  rw [if_neg (by omega), if_neg (by rw [hn]; exact fun c => c rfl), if_neg (by omega), if_neg (by omega), if_neg (by omega)]
theorem fits_list {ns : List Nd} {f a : Nat} {v : ByteArray} {ps : List ByteArray} (h1 : partsS v = some (kindOf (bl v), ps)) (hk : kindOf (bl v) = 3) (hn : (nd ns a).kind = 3) : fitsF ns (f + 1) a v = (decide (ps.length ≤ 64) && ps.all (fitsF ns f ((kids ns a).getD 0 0))) := by
  rw [hk] at h1
  rw [fitsF_succ, h1]
  show (if (3 : Int) < 0 then _ else if (3 : Int) ≠ (nd ns a).kind then _ else if (3 : Int) = 2 then _ else if (3 : Int) = 3 then _ else _) = _
  rw [if_neg (by decide), if_neg (by rw [hn]; decide), if_neg (by decide), if_pos rfl]
theorem fits_struct {ns : List Nd} {f a : Nat} {v : ByteArray} {ps : List ByteArray} (h1 : partsS v = some (kindOf (bl v), ps)) (hk : kindOf (bl v) = 4) (hn : (nd ns a).kind = 4) : fitsF ns (f + 1) a v = (decide (ps.length = (kids ns a).length) && ((kids ns a).zip ps).all fun q => fitsF ns f q.1 q.2) := by
  rw [hk] at h1
  rw [fitsF_succ, h1]
  show (if (4 : Int) < 0 then _ else if (4 : Int) ≠ (nd ns a).kind then _ else if (4 : Int) = 2 then _ else if (4 : Int) = 3 then _ else if (4 : Int) = 4 then _ else _) = _
  rw [if_neg (by decide), if_neg (by rw [hn]; decide), if_neg (by decide), if_neg (by decide), if_pos rfl]
theorem allTo_congr {p q : Nat → Bool} : ∀ {n : Nat}, (∀ i, i < n → p i = q i) → allTo p n = allTo q n
  | 0, _ => rfl
  | n + 1, h => by
    show (allTo p n && p n) = (allTo q n && q n)
    rw [allTo_congr (n := n) (fun i hi => h i (by omega)), h n (Nat.lt_succ_self _)]
/-- All of a list, by places. -/
theorem all_to (ps : List ByteArray) (q : ByteArray → Bool) : ps.all q = allTo (fun i => q (ps.getD i ByteArray.empty)) ps.length := by
  have key : ∀ k, k ≤ ps.length → (ps.take k).all q = allTo (fun i => q (ps.getD i ByteArray.empty)) k := by
    intro k
    induction k with
    | zero => intro _; rfl
    | succ k ih =>
      intro hk
      rw [take_text ps k hk, List.all_append, ih (by omega), allTo]
      simp
  have := key ps.length (Nat.le_refl _)
  rw [List.take_length] at this
  exact this
theorem zip_to (ks : List Nat) (ps : List ByteArray) (h : ps.length = ks.length) (q : Nat → ByteArray → Bool) : ((ks.zip ps).all fun x => q x.1 x.2) = allTo (fun i => q (ks.getD i 0) (ps.getD i ByteArray.empty)) ks.length := by
  have key : ∀ k, k ≤ ks.length → ((ks.take k).zip (ps.take k)).all (fun x => q x.1 x.2) = allTo (fun i => q (ks.getD i 0) (ps.getD i ByteArray.empty)) k := by
    intro k
    induction k with
    | zero => intro _; rfl
    | succ k ih =>
      intro hk
      have hkt : ks.take (k + 1) = ks.take k ++ [ks.getD k 0] := by rw [List.take_succ_eq_append_getElem hk, List.getD_eq_getElem?_getD, List.getElem?_eq_getElem hk]; rfl
      rw [take_text ps k (by omega), hkt, List.zip_append (by rw [List.length_take, List.length_take]; omega), List.all_append, ih (by omega), allTo]
      simp
  have := key ks.length (Nat.le_refl _)
  rw [List.take_length, ← h, List.take_length, h] at this
  exact this
/-- Enough is enough. -/
theorem fits_fuel {ns : List Nd} : ∀ (f g a : Nat) (v : ByteArray), f ≤ 5 → f ≤ g → v.size ≤ 65536 → below f (bl v) = some v.size → fitsF ns g a v = fitsF ns f a v := by
  intro f
  induction f with
  | zero => intro g a v _ _ _ h; cases h
  | succ f ih =>
    intro g a v hf hg hs h
    obtain ⟨g, rfl⟩ : ∃ x, g = x + 1 := ⟨g - 1, by omega⟩
    have hv : val f (bl v) = some v.size := h
    by_cases hk : kindOf (bl v) = 3 ∨ kindOf (bl v) = 4
    · obtain ⟨ps, h1, h2, h3⟩ := nest_parts (by omega) hs hv hk
      have hsz : ∀ p ∈ ps, p.size ≤ 65536 := fun p hp => by
        have hb := body_size v hs
        obtain ⟨i, hi, e⟩ := List.getElem_of_mem hp
        have := h2.pos_le (i + 1)
        rw [pos_succ ps i hi, getD_text ps i hi, e] at this
        omega
      rw [fitsF_succ, fitsF_succ, h1]
      simp only
      have e1 : ps.all (fitsF ns g ((kids ns a).getD 0 0)) = ps.all (fitsF ns f ((kids ns a).getD 0 0)) := by
        rw [all_to, all_to]
        refine allTo_congr fun i hi => ?_
        have hm := getD_memT ps i hi
        exact ih g _ _ (by omega) (by omega) (hsz _ hm) (h3 _ hm)
      have e2 : (((kids ns a).zip ps).all fun q => fitsF ns g q.1 q.2) = (((kids ns a).zip ps).all fun q => fitsF ns f q.1 q.2) := by
        rw [Bool.eq_iff_iff, List.all_eq_true, List.all_eq_true]
        constructor
        · intro hh q hq
          have hm := (List.of_mem_zip hq).2
          rw [← ih g q.1 q.2 (by omega) (by omega) (hsz _ hm) (h3 _ hm)]
          exact hh q hq
        · intro hh q hq
          have hm := (List.of_mem_zip hq).2
          rw [ih g q.1 q.2 (by omega) (by omega) (hsz _ hm) (h3 _ hm)]
          exact hh q hq
      rw [e1, e2]
    · obtain ⟨ps, h1, _⟩ := parts_told (isVal_below hf hs h)
      rw [fitsF_succ, fitsF_succ, h1]
      simp only
      have c3 : ¬ kindOf (bl v) = 3 := fun c => hk (.inl c)
      have c4 : ¬ kindOf (bl v) = 4 := fun c => hk (.inr c)
      rw [if_neg c3, if_neg c4, if_neg c3, if_neg c4]
end Go.Proofs.YtejgjipmnmfkcaaGreatDoor.Val
