/-
  A value's kind and parts, as plain lists of bytes; values made of parts; that each is the other's way back.
-/
import Derived.WalkKit
import Derived.Test.YtejgjipmnmfkcaaGreatDoorDig
import Derived.Test.YtejgjipmnmfkcaaGreatDoorVal
namespace Go.Proofs.YtejgjipmnmfkcaaGreatDoor.Val

theorem items_stop (one : List UInt8 → Option Nat) (stop : UInt8) (f : Nat) (l : List UInt8) : items one stop (f + 1) (stop :: l) = [] := by
  rw [items, if_pos rfl]
theorem items_step {one : List UInt8 → Option Nat} {stop : UInt8} (f : Nat) {b : UInt8} {l : List UInt8} {k : Nat} (h : b ≠ stop) (hk : one (b :: l) = some k) : items one stop (f + 1) (b :: l) = (b :: l).take k :: items one stop f ((b :: l).drop k) := by
  rw [items, if_neg h, hk]
theorem items_flat {one : List UInt8 → Option Nat} (stop : UInt8) : ∀ (f : Nat) (l : List UInt8) (k : Nat), many one stop f l = some k → (items one stop f l).flatten ++ [stop] = l.take k := by
  intro f
  induction f with
  | zero => intro l k h; cases h
  | succ f ih =>
    intro l k h
    obtain ⟨g, hg, h | ⟨b, r, j, m, rfl, e, h1, h2, rfl⟩⟩ := many_cases h
    · obtain ⟨r, rfl, rfl⟩ := h
      rw [items_stop]
      rfl
    · injection hg with hg
      subst hg
      rw [items_step f e h1, List.flatten_cons, List.append_assoc, ih _ _ h2, Nat.add_comm m j, List.take_add]
theorem items_each {one : List UInt8 → Option Nat} (ho : Fair one) (stop : UInt8) : ∀ (f : Nat) (l : List UInt8) (k : Nat), many one stop f l = some k → ∀ p ∈ items one stop f l, one p = some p.length := by
  intro f
  induction f with
  | zero => intro l k h; cases h
  | succ f ih =>
    intro l k h p hp
    obtain ⟨g, hg, h | ⟨b, r, j, m, rfl, e, h1, h2, rfl⟩⟩ := many_cases h
    · obtain ⟨r, rfl, rfl⟩ := h
      rw [items_stop] at hp
      cases hp
    · injection hg with hg
      subst hg
      rw [items_step f e h1] at hp
      rcases List.mem_cons.1 hp with rfl | hp
      · rw [List.length_take, Nat.min_eq_left (ho.pos _ _ h1).2]
        exact ho.cut _ _ h1
      · exact ih _ _ h2 p hp
theorem items_fuel {one : List UInt8 → Option Nat} (ho : Fair one) (stop : UInt8) : ∀ (f : Nat) (l : List UInt8) (k f' : Nat), many one stop f l = some k → k ≤ f' → items one stop f' l = items one stop f l := by
  intro f
  induction f with
  | zero => intro l k f' h; cases h
  | succ f ih =>
    intro l k f' h hf
    obtain ⟨g, hg, h | ⟨b, r, j, m, rfl, e, h1, h2, rfl⟩⟩ := many_cases h
    · obtain ⟨r, rfl, rfl⟩ := h
      obtain ⟨x, rfl⟩ : ∃ x, f' = x + 1 := ⟨f' - 1, by omega⟩
      rw [items_stop, items_stop]
    · injection hg with hg
      subst hg
      have h3 := ho.pos _ _ h1
      obtain ⟨x, rfl⟩ : ∃ x, f' = x + 1 := ⟨f' - 1, by omega⟩
      rw [items_step x e h1, items_step f e h1, ih _ _ x h2 (by omega)]
theorem items_mono {one two : List UInt8 → Option Nat} (h12 : ∀ l k, one l = some k → two l = some k) (stop : UInt8) : ∀ (f : Nat) (l : List UInt8) (k : Nat), many one stop f l = some k → items two stop f l = items one stop f l := by
  intro f
  induction f with
  | zero => intro l k h; cases h
  | succ f ih =>
    intro l k h
    obtain ⟨g, hg, h | ⟨b, r, j, m, rfl, e, h1, h2, rfl⟩⟩ := many_cases h
    · obtain ⟨r, rfl, rfl⟩ := h
      rw [items_stop, items_stop]
    · injection hg with hg
      subst hg
      rw [items_step f e (h12 _ _ h1), items_step f e h1, ih _ _ h2]
/-- Values one behind the other, and a stop: these are the values. -/
theorem many_made {one : List UInt8 → Option Nat} (ho : Fair one) (stop : UInt8) (q : List UInt8) : ∀ (vs : List (List UInt8)), (∀ v ∈ vs, one v = some v.length ∧ v.head? ≠ some stop) →
    many one stop (vs.length + 1) (vs.flatten ++ stop :: q) = some (vs.flatten.length + 1) ∧ items one stop (vs.length + 1) (vs.flatten ++ stop :: q) = vs
  | [], _ => ⟨many_stop _ _ _ _, items_stop _ _ _ _⟩
  | v :: vs, hv => by
    obtain ⟨h1, h2⟩ := hv v List.mem_cons_self
    obtain ⟨ih1, ih2⟩ := many_made ho stop q vs (fun x hx => hv x (List.mem_cons_of_mem _ hx))
    have hp := ho.pos _ _ h1
    have h3 := ho.ext _ (vs.flatten ++ stop :: q) _ h1
    have e : (v :: vs).flatten ++ stop :: q = v ++ (vs.flatten ++ stop :: q) := by rw [List.flatten_cons, List.append_assoc]
    have hd : (v ++ (vs.flatten ++ stop :: q)).drop v.length = vs.flatten ++ stop :: q := by
      rw [drop_app_le _ _ _ (Nat.le_refl _), List.drop_length]
      rfl
    have ht : (v ++ (vs.flatten ++ stop :: q)).take v.length = v := by
      rw [take_app_le _ _ _ (Nat.le_refl _), List.take_length]
    cases v with
    | nil => simp at hp
    | cons b v =>
      have hb : b ≠ stop := fun c => h2 (by rw [c]; rfl)
      rw [e]
      constructor
      · show many one stop (vs.length + 1 + 1) (b :: (v ++ (vs.flatten ++ stop :: q))) = _
        rw [many_step _ _ _ _ _ hb]
        rw [show b :: (v ++ (vs.flatten ++ stop :: q)) = (b :: v) ++ (vs.flatten ++ stop :: q) from rfl, h3, Option.bind_some, hd, ih1]
        rw [List.flatten_cons, List.length_append, Option.map_some, show vs.flatten.length + 1 + (b :: v).length = (b :: v).length + vs.flatten.length + 1 from by omega]
      · show items one stop (vs.length + 1 + 1) (b :: (v ++ (vs.flatten ++ stop :: q))) = _
        rw [items_step (l := v ++ (vs.flatten ++ stop :: q)) (k := (b :: v).length) _ hb h3]
        rw [show b :: (v ++ (vs.flatten ++ stop :: q)) = (b :: v) ++ (vs.flatten ++ stop :: q) from rfl, hd, ht, ih2]
/-- The makers. -/
def nullM : List UInt8 := [110]
def intM (x : Int) : List UInt8 := 105 :: (intD x ++ [59])
def boolM (b : Bool) : List UInt8 := if b then [116] else [102]
def bytesM (s : List UInt8) : List UInt8 := 115 :: (dig s.length ++ 58 :: s)
def listM (vs : List (List UInt8)) : List UInt8 := 91 :: (vs.flatten ++ [93])
def structM (vs : List (List UInt8)) : List UInt8 := 123 :: (vs.flatten ++ [125])
theorem val_is {d : Nat} {l : List UInt8} {k : Nat} (h : Is (fun _ => none) l k) : val d l = some k := val_up 0 d (Nat.zero_le _) l k (is_valStep fair_none h)
theorem val_null (d : Nat) : val d nullM = some nullM.length := val_is (.word 110 [] (.inl rfl))
theorem val_int (d : Nat) (x : Int) (h : in64 x) : val d (intM x) = some (intM x).length := by
  have := numAt_made 59 x [] h (.inr rfl)
  have e : (intM x).length = (intD x).length + 2 := by simp [intM]
  rw [e]
  exact val_is (.int _ _ x this)
theorem val_bool (d : Nat) (b : Bool) : val d (boolM b) = some (boolM b).length := by
  cases b
  · exact val_is (.word 102 [] (.inr (.inr rfl)))
  · exact val_is (.word 116 [] (.inr (.inl rfl)))
theorem intD_nat (n : Nat) : intD (n : Int) = dig n := by
  unfold intD
  rw [if_pos (by omega), Int.toNat_natCast]
theorem val_bytes (d : Nat) (s : List UInt8) (h : s.length ≤ 9223372036854775807) : val d (bytesM s) = some (bytesM s).length := by
  have := numAt_made 58 (s.length : Int) s ⟨by omega, by omega⟩ (.inl rfl)
  rw [intD_nat] at this
  have e : (bytesM s).length = (dig s.length).length + 2 + s.length := by simp [bytesM]; omega
  rw [e]
  exact val_is (.bytes _ _ s.length this (by simp; omega))
theorem val_nest (d : Nat) (b : UInt8) (hb : b = 91 ∨ b = 123) (vs : List (List UInt8)) (h : ∀ v ∈ vs, val d v = some v.length) : val (d + 1) (b :: (vs.flatten ++ [b + 2])) = some (b :: (vs.flatten ++ [b + 2])).length ∧ items (val d) (b + 2) (vs.flatten.length + 2) (vs.flatten ++ [b + 2]) = vs := by
  have hh : ∀ v ∈ vs, val d v = some v.length ∧ v.head? ≠ some (b + 2) := by
    intro v hv
    refine ⟨h v hv, fun c => ?_⟩
    cases v with
    | nil => cases c
    | cons x v =>
      have := val_head (h _ hv)
      have hx : x = b + 2 := by simpa using c
      rcases hb with rfl | rfl
      · exact this.1 hx
      · exact this.2 hx
  obtain ⟨h1, h2⟩ := many_made (fair_val d) (b + 2) [] vs hh
  refine ⟨?_, ?_⟩
  · have e : (b :: (vs.flatten ++ [b + 2])).length = vs.flatten.length + 1 + 1 := by simp
    rw [e]
    exact is_valStep (fair_val d) (.nest b _ _ _ hb h1)
  · rw [items_fuel (fair_val d) _ _ _ _ _ h1 (by omega)]
    exact h2
theorem val_list (d : Nat) (vs : List (List UInt8)) (h : ∀ v ∈ vs, val d v = some v.length) : val (d + 1) (listM vs) = some (listM vs).length := (val_nest d 91 (.inl rfl) vs h).1
theorem val_struct (d : Nat) (vs : List (List UInt8)) (h : ∀ v ∈ vs, val d v = some v.length) : val (d + 1) (structM vs) = some (structM vs).length := (val_nest d 123 (.inr rfl) vs h).1
/-- Is a text a value's, no longer and no deeper than it may be? -/
def isVal (l : List UInt8) : Prop := l.length ≤ 65536 ∧ val 4 l = some l.length
/-- A value's kind and parts, by its first byte. -/
def tell : List UInt8 → Option (Int × List (List UInt8))
  | [] => none
  | b :: r =>
    if b = 110 then some (-1, [])
    else if b = 105 then some (0, [r.dropLast])
    else if b = 115 then (seek 58 r).map fun j => (2, [r.drop (j + 1)])
    else if b = 91 then some (3, items (val 3) 93 (r.length + 1) r)
    else if b = 123 then some (4, items (val 3) 125 (r.length + 1) r)
    else some (1, [b :: r])
theorem tell_n (r : List UInt8) : tell (110 :: r) = some (-1, []) := by rw [tell, if_pos rfl]
theorem tell_i (r : List UInt8) : tell (105 :: r) = some (0, [r.dropLast]) := by rw [tell, if_neg (by decide), if_pos rfl]
theorem tell_s (r : List UInt8) : tell (115 :: r) = (seek 58 r).map fun j => (2, [r.drop (j + 1)]) := by rw [tell, if_neg (by decide), if_neg (by decide), if_pos rfl]
theorem tell_l (r : List UInt8) : tell (91 :: r) = some (3, items (val 3) 93 (r.length + 1) r) := by rw [tell, if_neg (by decide), if_neg (by decide), if_neg (by decide), if_pos rfl]
theorem tell_o (r : List UInt8) : tell (123 :: r) = some (4, items (val 3) 125 (r.length + 1) r) := by rw [tell, if_neg (by decide), if_neg (by decide), if_neg (by decide), if_neg (by decide), if_pos rfl]
theorem tell_t (r : List UInt8) : tell (116 :: r) = some (1, [116 :: r]) := by rw [tell, if_neg (by decide), if_neg (by decide), if_neg (by decide), if_neg (by decide), if_neg (by decide)]
theorem tell_f (r : List UInt8) : tell (102 :: r) = some (1, [102 :: r]) := by rw [tell, if_neg (by decide), if_neg (by decide), if_neg (by decide), if_neg (by decide), if_neg (by decide)]
/-- A value's kind and parts. -/
def partsM (l : List UInt8) : Option (Int × List (List UInt8)) := if l.length ≤ 65536 ∧ val 4 l = some l.length then tell l else none
theorem partsM_none {l : List UInt8} (h : ¬ isVal l) : partsM l = none := by
  unfold partsM
  unfold isVal at h
  rw [if_neg h]
theorem partsM_tell {l : List UInt8} (h : isVal l) : partsM l = tell l := by
  unfold partsM
  unfold isVal at h
  rw [if_pos h]
/-- A value is what its parts make. -/
def Made (k : Int) (ps : List (List UInt8)) (l : List UInt8) : Prop :=
  (k = -1 ∧ ps = [] ∧ l = nullM) ∨ (∃ x, in64 x ∧ k = 0 ∧ ps = [intD x] ∧ l = intM x) ∨ (∃ b, k = 1 ∧ ps = [boolM b] ∧ l = boolM b) ∨ (∃ s, k = 2 ∧ ps = [s] ∧ l = bytesM s) ∨ (k = 3 ∧ l = listM ps ∧ ∀ p ∈ ps, val 3 p = some p.length) ∨ (k = 4 ∧ l = structM ps ∧ ∀ p ∈ ps, val 3 p = some p.length)
theorem take_of_nest {b : UInt8} {r : List UInt8} {m f : Nat} (h : many (val 3) (b + 2) f r = some m) (hm : m + 1 = (b :: r).length) : (items (val 3) (b + 2) (r.length + 1) r).flatten ++ [b + 2] = r ∧ ∀ p ∈ items (val 3) (b + 2) (r.length + 1) r, val 3 p = some p.length := by
  have hl : m = r.length := by simpa using hm
  have h1 := many_fuel (fair_val 3) _ _ _ _ (r.length + 1) h (by omega)
  have h2 := items_flat _ _ _ _ h1
  rw [hl, List.take_length] at h2
  exact ⟨h2, items_each (fair_val 3) _ _ _ _ h1⟩
theorem parts_made {l : List UInt8} (h : isVal l) : ∃ k ps, partsM l = some (k, ps) ∧ Made k ps l := by
  have hv : valStep (val 3) l = some l.length := h.2
  rw [partsM_tell h]
  rcases valStep_is hv with ⟨b, r, rfl, hh, hk⟩ | ⟨r, j, x, rfl, hh, hk⟩ | ⟨r, j, n, rfl, hh, hn, hk⟩ | ⟨b, r, m, f, rfl, hb, hh, hk⟩
  · have hr : r = [] := List.eq_nil_of_length_eq_zero (by simpa using hk)
    subst hr
    rcases hh with rfl | rfl | rfl
    · exact ⟨-1, [], tell_n _, .inl ⟨rfl, rfl, rfl⟩⟩
    · exact ⟨1, [[116]], tell_t _, .inr (.inr (.inl ⟨true, rfl, rfl, rfl⟩))⟩
    · exact ⟨1, [[102]], tell_f _, .inr (.inr (.inl ⟨false, rfl, rfl, rfl⟩))⟩
  · rw [numAt_some] at hh
    obtain ⟨h1, h2⟩ := hh
    obtain ⟨h3, h4⟩ := numOf_some.1 h2
    obtain ⟨h5, h6, _⟩ := seek_some h1
    have hl : r.length = j + 1 := by
      rw [List.length_cons] at hk
      omega
    have hr : r = intD x ++ [59] := by
      have : r = r.take j ++ r.drop j := (List.take_append_drop j r).symm
      rw [this, h4, List.drop_eq_getElem_cons h5, List.drop_eq_nil_of_le (by omega)]
      rw [List.getD_eq_getElem?_getD, List.getElem?_eq_getElem h5] at h6
      have h7 : r[j] = 59 := h6
      rw [h7]
    refine ⟨0, [intD x], ?_, .inr (.inl ⟨x, h3, rfl, rfl, by rw [hr]; rfl⟩)⟩
    rw [tell_i, hr, List.dropLast_concat]
  · rw [numAt_some] at hh
    obtain ⟨h1, h2⟩ := hh
    obtain ⟨h3, h4⟩ := numOf_some.1 h2
    obtain ⟨h5, h6, _⟩ := seek_some h1
    have hl : (r.drop (j + 1)).length = n := by
      rw [List.length_drop]
      rw [List.length_cons] at hk
      omega
    refine ⟨2, [r.drop (j + 1)], ?_, .inr (.inr (.inr (.inl ⟨r.drop (j + 1), rfl, rfl, ?_⟩)))⟩
    · rw [tell_s, h1]
      rfl
    · unfold bytesM
      rw [hl, ← intD_nat, h4]
      rw [List.getD_eq_getElem?_getD, List.getElem?_eq_getElem h5] at h6
      have h7 : r[j] = 58 := h6
      rw [← h7, ← List.drop_eq_getElem_cons h5, List.take_append_drop]
  · obtain ⟨h1, h2⟩ := take_of_nest hh hk.symm
    rcases hb with rfl | rfl
    · refine ⟨3, _, tell_l _, .inr (.inr (.inr (.inr (.inl ⟨rfl, ?_, h2⟩))))⟩
      unfold listM
      rw [show (93 : UInt8) = 91 + 2 from rfl, h1]
    · refine ⟨4, _, tell_o _, .inr (.inr (.inr (.inr (.inr ⟨rfl, ?_, h2⟩))))⟩
      unfold structM
      rw [show (125 : UInt8) = 123 + 2 from rfl, h1]
/-- Of what is made the parts are told. -/
theorem parts_int (x : Int) (h : in64 x) : partsM (intM x) = some (0, [intD x]) := by
  have hl := length_intD x h
  rw [partsM_tell ⟨by simp [intM]; omega, val_int 4 x h⟩]
  unfold intM
  rw [tell_i, List.dropLast_concat]
theorem parts_bytes (s : List UInt8) (hl : (bytesM s).length ≤ 65536) : partsM (bytesM s) = some (2, [s]) := by
  have h : s.length ≤ (bytesM s).length := by simp [bytesM]; omega
  rw [partsM_tell ⟨hl, val_bytes 4 s (by omega)⟩]
  unfold bytesM
  have hs : seek 58 (dig s.length ++ 58 :: s) = some (dig s.length).length := by
    refine seek_app _ _ fun b hb e => ?_
    have := dig_digit _ b hb
    rw [e] at this
    exact absurd this.2 (by decide)
  rw [tell_s, hs, Option.map_some, show (dig s.length ++ 58 :: s).drop ((dig s.length).length + 1) = s from by
    rw [show dig s.length ++ 58 :: s = (dig s.length ++ [58]) ++ s from by simp, List.drop_append_of_le_length (by simp), List.drop_eq_nil_of_le (by simp)]
    rfl]
theorem parts_null : partsM nullM = some (-1, []) := by
  rw [partsM_tell ⟨by decide, val_null 4⟩]
  exact tell_n _
theorem parts_bool (b : Bool) : partsM (boolM b) = some (1, [boolM b]) := by
  rw [partsM_tell ⟨by cases b <;> decide, val_bool 4 b⟩]
  cases b
  · exact tell_f _
  · exact tell_t _
theorem parts_list (vs : List (List UInt8)) (h : ∀ v ∈ vs, val 3 v = some v.length) (hl : (listM vs).length ≤ 65536) : partsM (listM vs) = some (3, vs) := by
  rw [partsM_tell ⟨hl, val_list 3 vs h⟩]
  unfold listM
  rw [tell_l, show (vs.flatten ++ [(93 : UInt8)]).length + 1 = vs.flatten.length + 2 from by simp]
  have := (val_nest 3 91 (.inl rfl) vs h).2
  rw [show (93 : UInt8) = 91 + 2 from rfl, this]
theorem parts_struct (vs : List (List UInt8)) (h : ∀ v ∈ vs, val 3 v = some v.length) (hl : (structM vs).length ≤ 65536) : partsM (structM vs) = some (4, vs) := by
  rw [partsM_tell ⟨hl, val_struct 3 vs h⟩]
  unfold structM
  rw [tell_o, show (vs.flatten ++ [(125 : UInt8)]).length + 1 = vs.flatten.length + 2 from by simp]
  have := (val_nest 3 123 (.inr rfl) vs h).2
  rw [show (125 : UInt8) = 123 + 2 from rfl, this]
end Go.Proofs.YtejgjipmnmfkcaaGreatDoor.Val
