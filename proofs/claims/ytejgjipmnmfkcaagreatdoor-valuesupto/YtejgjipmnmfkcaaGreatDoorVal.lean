/-
  Values as plain lists of bytes: where the value at a text's head ends, how deep it may go; what stands in it.
-/
import Derived.WalkKit
import Derived.Test.YtejgjipmnmfkcaaGreatDoorDig
namespace Go.Proofs.YtejgjipmnmfkcaaGreatDoor.Val

/-- Where a sign stands first. -/
def seek (c : UInt8) : List UInt8 → Option Nat
  | [] => none
  | b :: l => if b = c then some 0 else (seek c l).map (· + 1)
theorem seek_some {c : UInt8} : ∀ {l : List UInt8} {k : Nat}, seek c l = some k → k < l.length ∧ l.getD k 0 = c ∧ ∀ j, j < k → l.getD j 0 ≠ c
  | [], k, h => by cases h
  | b :: l, k, h => by
    rw [seek] at h
    by_cases e : b = c
    · rw [if_pos e] at h
      injection h with h
      subst h
      exact ⟨Nat.succ_pos _, e, fun j hj => absurd hj (Nat.not_lt_zero j)⟩
    · rw [if_neg e] at h
      cases hs : seek c l with
      | none => rw [hs] at h; cases h
      | some j =>
        rw [hs] at h
        injection h with h
        subst h
        obtain ⟨h1, h2, h3⟩ := seek_some hs
        refine ⟨Nat.succ_lt_succ h1, h2, fun i hi => ?_⟩
        cases i with
        | zero => exact e
        | succ i => exact h3 i (Nat.lt_of_succ_lt_succ hi)
theorem seek_of {c : UInt8} : ∀ {l : List UInt8} {k : Nat}, k < l.length → l.getD k 0 = c → (∀ j, j < k → l.getD j 0 ≠ c) → seek c l = some k
  | [], k, h, _, _ => absurd h (Nat.not_lt_zero _)
  | b :: l, k, h, h1, h2 => by
    rw [seek]
    cases k with
    | zero => rw [if_pos (show b = c from h1)]
    | succ k =>
      rw [if_neg (show ¬ b = c from h2 0 (Nat.succ_pos _)), seek_of (Nat.lt_of_succ_lt_succ h) h1 (fun j hj => h2 (j + 1) (Nat.succ_lt_succ hj))]
      rfl
theorem seek_none {c : UInt8} : ∀ {l : List UInt8}, seek c l = none ↔ ∀ j, j < l.length → l.getD j 0 ≠ c
  | [] => ⟨fun _ j hj => absurd hj (Nat.not_lt_zero _), fun _ => rfl⟩
  | b :: l => by
    rw [seek]
    by_cases e : b = c
    · rw [if_pos e]
      exact ⟨fun h => by (cases h), fun h => absurd e (h 0 (Nat.succ_pos _))⟩
    · rw [if_neg e, Option.map_eq_none_iff, seek_none]
      constructor
      · intro h j hj
        cases j with
        | zero => exact e
        | succ j => exact h j (Nat.lt_of_succ_lt_succ hj)
      · intro h j hj
        exact h (j + 1) (Nat.succ_lt_succ hj)
theorem seek_app {c : UInt8} : ∀ (p q : List UInt8), (∀ b ∈ p, b ≠ c) → seek c (p ++ c :: q) = some p.length
  | [], q, _ => by
    show seek c (c :: q) = some 0
    rw [seek, if_pos rfl]
  | b :: p, q, h => by
    show seek c (b :: (p ++ c :: q)) = _
    rw [seek, if_neg (h b List.mem_cons_self), seek_app p q (fun x hx => h x (List.mem_cons_of_mem _ hx))]
    rfl
theorem seek_ext {c : UInt8} {p : List UInt8} {k : Nat} (q : List UInt8) (h : seek c p = some k) : seek c (p ++ q) = some k := by
  obtain ⟨h1, h2, h3⟩ := seek_some h
  refine seek_of (by rw [List.length_append]; omega) ?_ ?_
  · rw [List.getD_eq_getElem?_getD, List.getElem?_append_left h1, ← List.getD_eq_getElem?_getD]
    exact h2
  · intro j hj
    rw [List.getD_eq_getElem?_getD, List.getElem?_append_left (by omega), ← List.getD_eq_getElem?_getD]
    exact h3 j hj
theorem seek_take {c : UInt8} {l : List UInt8} {k n : Nat} (h : seek c l = some k) (hn : k < n) : seek c (l.take n) = some k := by
  obtain ⟨h1, h2, h3⟩ := seek_some h
  refine seek_of (by rw [List.length_take]; omega) ?_ ?_
  · rw [List.getD_eq_getElem?_getD, List.getElem?_take, if_pos hn, ← List.getD_eq_getElem?_getD]
    exact h2
  · intro j hj
    rw [List.getD_eq_getElem?_getD, List.getElem?_take, if_pos (by omega), ← List.getD_eq_getElem?_getD]
    exact h3 j hj
/-- The digits up to a sign: how many, and their number. -/
def numAt (c : UInt8) (r : List UInt8) : Option (Nat × Int) :=
  match seek c r with
  | none => none
  | some j => (numOf (r.take j)).map fun x => (j, x)
theorem numAt_some {c : UInt8} {r : List UInt8} {j : Nat} {x : Int} : numAt c r = some (j, x) ↔ seek c r = some j ∧ numOf (r.take j) = some x := by
  unfold numAt
  cases h : seek c r with
  | none => exact ⟨fun c => by (cases c), fun c => by (cases c.1)⟩
  | some k =>
    constructor
    · intro e
      cases h2 : numOf (r.take k) with
      | none => simp only [h2] at e; cases e
      | some y =>
        simp only [h2, Option.map_some, Option.some.injEq, Prod.mk.injEq] at e
        obtain ⟨rfl, rfl⟩ := e
        exact ⟨rfl, h2⟩
    · rintro ⟨e, h2⟩
      injection e with e
      subst e
      simp only [h2, Option.map_some]
theorem take_app_le (p q : List UInt8) (j : Nat) (h : j ≤ p.length) : (p ++ q).take j = p.take j := by
  rw [List.take_append_of_le_length h]
theorem numAt_ext {c : UInt8} {p : List UInt8} {y : Nat × Int} (q : List UInt8) (h : numAt c p = some y) : numAt c (p ++ q) = some y := by
  obtain ⟨j, x⟩ := y
  rw [numAt_some] at *
  refine ⟨seek_ext q h.1, ?_⟩
  rw [take_app_le _ _ _ (Nat.le_of_lt (seek_some h.1).1)]
  exact h.2
theorem numAt_take {c : UInt8} {l : List UInt8} {j n : Nat} {x : Int} (h : numAt c l = some (j, x)) (hn : j < n) : numAt c (l.take n) = some (j, x) := by
  rw [numAt_some] at *
  refine ⟨seek_take h.1 hn, ?_⟩
  rw [List.take_take, Nat.min_eq_left (by omega)]
  exact h.2
theorem numAt_lt {c : UInt8} {l : List UInt8} {j : Nat} {x : Int} (h : numAt c l = some (j, x)) : j < l.length ∧ 1 ≤ j ∧ j ≤ 20 := by
  rw [numAt_some] at h
  have h1 := (seek_some h.1).1
  have h2 := numOf_length h.2
  rw [List.length_take, Nat.min_eq_left (by omega)] at h2
  omega
theorem numAt_made (c : UInt8) (x : Int) (q : List UInt8) (hx : in64 x) (hc : c = 58 ∨ c = 59) : numAt c (intD x ++ c :: q) = some ((intD x).length, x) := by
  rw [numAt_some]
  constructor
  · refine seek_app _ _ fun b hb e => ?_
    subst e
    rcases intD_signs x b hb with h | h
    · rcases hc with rfl | rfl <;> cases h
    · rcases hc with rfl | rfl
      · exact absurd h.2 (by decide)
      · exact absurd h.2 (by decide)
  · rw [take_app_le _ _ _ (Nat.le_refl _), List.take_length]
    exact numOf_intD x hx
/-- Values up to a sign: where that ends. -/
def many (one : List UInt8 → Option Nat) (stop : UInt8) : Nat → List UInt8 → Option Nat
  | 0, _ => none
  | _ + 1, [] => none
  | f + 1, b :: l => if b = stop then some 1 else
      match one (b :: l) with
      | none => none
      | some k => (many one stop f ((b :: l).drop k)).map (· + k)
/-- These values. -/
def items (one : List UInt8 → Option Nat) (stop : UInt8) : Nat → List UInt8 → List (List UInt8)
  | 0, _ => []
  | _ + 1, [] => []
  | f + 1, b :: l => if b = stop then [] else
      match one (b :: l) with
      | none => []
      | some k => (b :: l).take k :: items one stop f ((b :: l).drop k)
/-- What ends where it says, whatever follows. -/
structure Fair (one : List UInt8 → Option Nat) : Prop where
  pos : ∀ l k, one l = some k → 1 ≤ k ∧ k ≤ l.length
  ext : ∀ p q k, one p = some k → one (p ++ q) = some k
  cut : ∀ l k, one l = some k → one (l.take k) = some k
theorem many_step (one : List UInt8 → Option Nat) (stop : UInt8) (f : Nat) (b : UInt8) (l : List UInt8) (h : b ≠ stop) : many one stop (f + 1) (b :: l) = (one (b :: l)).bind fun k => (many one stop f ((b :: l).drop k)).map (· + k) := by
  rw [many, if_neg h]
  cases one (b :: l) <;> rfl
theorem many_stop (one : List UInt8 → Option Nat) (stop : UInt8) (f : Nat) (l : List UInt8) : many one stop (f + 1) (stop :: l) = some 1 := by
  rw [many, if_pos rfl]
/-- How many ends: by a stop, or by a value and what follows. -/
theorem many_cases {one : List UInt8 → Option Nat} {stop : UInt8} {f : Nat} {l : List UInt8} {k : Nat} (h : many one stop f l = some k) :
    ∃ g, f = g + 1 ∧ ((∃ r, l = stop :: r ∧ k = 1) ∨ ∃ b r j m, l = b :: r ∧ b ≠ stop ∧ one l = some j ∧ many one stop g (l.drop j) = some m ∧ k = m + j) := by
  cases f with
  | zero => cases h
  | succ g =>
    refine ⟨g, rfl, ?_⟩
    cases l with
    | nil => cases h
    | cons b r =>
      by_cases e : b = stop
      · subst e
        rw [many_stop] at h
        injection h with h
        exact .inl ⟨r, rfl, h.symm⟩
      · rw [many_step _ _ _ _ _ e] at h
        cases h1 : one (b :: r) with
        | none => rw [h1] at h; cases h
        | some j =>
          rw [h1] at h
          cases h2 : many one stop g ((b :: r).drop j) with
          | none => simp only [Option.bind_some, h2] at h; cases h
          | some m =>
            simp only [Option.bind_some, h2, Option.map_some, Option.some.injEq] at h
            exact .inr ⟨b, r, j, m, rfl, e, rfl, h2, h.symm⟩
theorem many_pos {one : List UInt8 → Option Nat} (ho : Fair one) (stop : UInt8) : ∀ (f : Nat) (l : List UInt8) (k : Nat), many one stop f l = some k → 1 ≤ k ∧ k ≤ l.length := by
  intro f
  induction f with
  | zero => intro l k h; cases h
  | succ f ih =>
    intro l k h
    obtain ⟨g, hg, h | ⟨b, r, j, m, rfl, _, h1, h2, rfl⟩⟩ := many_cases h
    · obtain ⟨r, rfl, rfl⟩ := h
      simp
    · injection hg with hg
      subst hg
      have h3 := ho.pos _ _ h1
      have h4 := ih _ _ h2
      rw [List.length_drop] at h4
      omega
theorem many_fuel {one : List UInt8 → Option Nat} (ho : Fair one) (stop : UInt8) : ∀ (f : Nat) (l : List UInt8) (k f' : Nat), many one stop f l = some k → k ≤ f' → many one stop f' l = some k := by
  intro f
  induction f with
  | zero => intro l k f' h; cases h
  | succ f ih =>
    intro l k f' h hf
    obtain ⟨g, hg, h | ⟨b, r, j, m, rfl, e, h1, h2, rfl⟩⟩ := many_cases h
    · obtain ⟨r, rfl, rfl⟩ := h
      obtain ⟨x, rfl⟩ : ∃ x, f' = x + 1 := ⟨f' - 1, by omega⟩
      rw [many_stop]
    · injection hg with hg
      subst hg
      have h3 := ho.pos _ _ h1
      obtain ⟨x, rfl⟩ : ∃ x, f' = x + 1 := ⟨f' - 1, by omega⟩
      rw [many_step _ _ _ _ _ e, h1, Option.bind_some, ih _ _ x h2 (by omega)]
      rfl
theorem drop_app_le (p q : List UInt8) (j : Nat) (h : j ≤ p.length) : (p ++ q).drop j = p.drop j ++ q := by
  rw [List.drop_append_of_le_length h]
theorem many_ext {one : List UInt8 → Option Nat} (ho : Fair one) (stop : UInt8) : ∀ (f : Nat) (p q : List UInt8) (k : Nat), many one stop f p = some k → many one stop f (p ++ q) = some k := by
  intro f
  induction f with
  | zero => intro p q k h; cases h
  | succ f ih =>
    intro p q k h
    obtain ⟨g, hg, h | ⟨b, r, j, m, rfl, e, h1, h2, rfl⟩⟩ := many_cases h
    · obtain ⟨r, rfl, rfl⟩ := h
      exact many_stop _ _ _ _
    · injection hg with hg
      subst hg
      have h3 := ho.pos _ _ h1
      have h4 := ho.ext _ q _ h1
      have h5 := ih _ q _ h2
      rw [← drop_app_le _ q j h3.2] at h5
      show many one stop (f + 1) (b :: (r ++ q)) = _
      rw [many_step _ _ _ _ _ e]
      rw [show b :: (r ++ q) = (b :: r) ++ q from rfl, h4, Option.bind_some, h5]
      rfl
theorem many_cut {one : List UInt8 → Option Nat} (ho : Fair one) (stop : UInt8) : ∀ (f : Nat) (l : List UInt8) (k : Nat), many one stop f l = some k → many one stop f (l.take k) = some k := by
  intro f
  induction f with
  | zero => intro l k h; cases h
  | succ f ih =>
    intro l k h
    obtain ⟨g, hg, h | ⟨b, r, j, m, rfl, e, h1, h2, rfl⟩⟩ := many_cases h
    · obtain ⟨r, rfl, rfl⟩ := h
      exact many_stop _ _ _ _
    · injection hg with hg
      subst hg
      have h3 := ho.pos _ _ h1
      have h4 := ih _ _ h2
      have h5 : one ((b :: r).take (m + j)) = some j := by
        have h6 := ho.ext _ (((b :: r).drop j).take m) _ (ho.cut _ _ h1)
        rw [show (b :: r).take j ++ ((b :: r).drop j).take m = (b :: r).take (m + j) from by rw [Nat.add_comm m j, List.take_add]] at h6
        exact h6
      have h7 : ((b :: r).take (m + j)).drop j = ((b :: r).drop j).take m := by rw [List.drop_take, Nat.add_sub_cancel]
      have h8 : (b :: r).take (m + j) = b :: r.take (m + j - 1) := by
        obtain ⟨x, hx⟩ : ∃ x, m + j = x + 1 := ⟨m + j - 1, by omega⟩
        rw [hx]
        rfl
      rw [← h7] at h4
      rw [h8] at h4 h5 ⊢
      rw [many_step _ _ _ _ _ e, h5, Option.bind_some, h4]
      rfl
theorem many_mono {one two : List UInt8 → Option Nat} (h12 : ∀ l k, one l = some k → two l = some k) (stop : UInt8) : ∀ (f : Nat) (l : List UInt8) (k : Nat), many one stop f l = some k → many two stop f l = some k := by
  intro f
  induction f with
  | zero => intro l k h; cases h
  | succ f ih =>
    intro l k h
    obtain ⟨g, hg, h | ⟨b, r, j, m, rfl, e, h1, h2, rfl⟩⟩ := many_cases h
    · obtain ⟨r, rfl, rfl⟩ := h
      exact many_stop _ _ _ _
    · injection hg with hg
      subst hg
      rw [many_step _ _ _ _ _ e, h12 _ _ h1, Option.bind_some, ih _ _ h2]
      rfl
/-- One value, what stands within by another rule. -/
def valStep (one : List UInt8 → Option Nat) : List UInt8 → Option Nat
  | [] => none
  | b :: r =>
    if b = 110 ∨ b = 116 ∨ b = 102 then some 1
    else if b = 105 then (numAt 59 r).map (fun p => p.1 + 2)
    else if b = 115 then (numAt 58 r).bind (fun p => if 0 ≤ p.2 ∧ p.2 ≤ (r.length : Int) - p.1 - 1 then some (p.1 + 2 + p.2.toNat) else none)
    else if b = 91 ∨ b = 123 then (many one (b + 2) (r.length + 1) r).map (· + 1)
    else none
/-- Where the value at a text's head ends; so deep it may go. -/
def val : Nat → List UInt8 → Option Nat
  | 0 => valStep (fun _ => none)
  | d + 1 => valStep (val d)
theorem fair_none : Fair (fun _ => none) := ⟨fun _ _ h => by (cases h), fun _ _ _ h => by (cases h), fun _ _ h => by (cases h)⟩
/-- The ways in which there is a value. -/
def Is (one : List UInt8 → Option Nat) (l : List UInt8) (k : Nat) : Prop :=
  (∃ b r, l = b :: r ∧ (b = 110 ∨ b = 116 ∨ b = 102) ∧ k = 1) ∨
  (∃ r j x, l = 105 :: r ∧ numAt 59 r = some (j, x) ∧ k = j + 2) ∨
  (∃ r j n, l = 115 :: r ∧ numAt 58 r = some (j, ((n : Nat) : Int)) ∧ j + 1 + n ≤ r.length ∧ k = j + 2 + n) ∨
  (∃ b r m f, l = b :: r ∧ (b = 91 ∨ b = 123) ∧ many one (b + 2) f r = some m ∧ k = m + 1)
theorem Is.word {one : List UInt8 → Option Nat} (b : UInt8) (r : List UInt8) (h : b = 110 ∨ b = 116 ∨ b = 102) : Is one (b :: r) 1 := .inl ⟨b, r, rfl, h, rfl⟩
theorem Is.int {one : List UInt8 → Option Nat} (r : List UInt8) (j : Nat) (x : Int) (h : numAt 59 r = some (j, x)) : Is one (105 :: r) (j + 2) := .inr (.inl ⟨r, j, x, rfl, h, rfl⟩)
theorem Is.bytes {one : List UInt8 → Option Nat} (r : List UInt8) (j n : Nat) (h : numAt 58 r = some (j, (n : Int))) (hn : j + 1 + n ≤ r.length) : Is one (115 :: r) (j + 2 + n) := .inr (.inr (.inl ⟨r, j, n, rfl, h, hn, rfl⟩))
theorem Is.nest {one : List UInt8 → Option Nat} (b : UInt8) (r : List UInt8) (m f : Nat) (hb : b = 91 ∨ b = 123) (h : many one (b + 2) f r = some m) : Is one (b :: r) (m + 1) := .inr (.inr (.inr ⟨b, r, m, f, rfl, hb, h, rfl⟩))
theorem valStep_is {one : List UInt8 → Option Nat} {l : List UInt8} {k : Nat} (h : valStep one l = some k) : Is one l k := by
  cases l with
  | nil => cases h
  | cons b r =>
    rw [valStep] at h
    by_cases c1 : b = 110 ∨ b = 116 ∨ b = 102
    · rw [if_pos c1] at h
      injection h with h
      subst h
      exact .word b r c1
    · rw [if_neg c1] at h
      by_cases c2 : b = 105
      · subst c2
        rw [if_pos rfl] at h
        cases h1 : numAt 59 r with
        | none => rw [h1] at h; cases h
        | some p =>
          obtain ⟨j, x⟩ := p
          rw [h1] at h
          injection h with h
          subst h
          exact .int r j x h1
      · rw [if_neg c2] at h
        by_cases c3 : b = 115
        · subst c3
          rw [if_pos rfl] at h
          cases h1 : numAt 58 r with
          | none => rw [h1] at h; cases h
          | some p =>
            obtain ⟨j, x⟩ := p
            rw [h1, Option.bind_some] at h
            simp only at h
            by_cases c : 0 ≤ x ∧ x ≤ (r.length : Int) - j - 1
            · rw [if_pos c] at h
              injection h with h
              subst h
              obtain ⟨n, rfl⟩ : ∃ n : Nat, x = (n : Int) := ⟨x.toNat, by omega⟩
              exact .bytes r j n h1 (by omega)
            · rw [if_neg c] at h; cases h
        · rw [if_neg c3] at h
          by_cases c4 : b = 91 ∨ b = 123
          · rw [if_pos c4] at h
            cases h1 : many one (b + 2) (r.length + 1) r with
            | none => rw [h1] at h; cases h
            | some m =>
              rw [h1] at h
              injection h with h
              subst h
              exact .nest b r m _ c4 h1
          · rw [if_neg c4] at h; cases h
theorem is_valStep {one : List UInt8 → Option Nat} (ho : Fair one) {l : List UInt8} {k : Nat} (h : Is one l k) : valStep one l = some k := by
  rcases h with ⟨b, r, rfl, hh, rfl⟩ | ⟨r, j, x, rfl, hh, rfl⟩ | ⟨r, j, n, rfl, hh, hn, rfl⟩ | ⟨b, r, m, f, rfl, hb, hh, rfl⟩
  · rw [valStep, if_pos hh]
  · rw [valStep, if_neg (by decide), if_pos rfl, hh]
    rfl
  · rw [valStep, if_neg (by decide), if_neg (by decide), if_pos rfl, hh, Option.bind_some]
    show (if 0 ≤ (n : Int) ∧ (n : Int) ≤ (r.length : Int) - j - 1 then some (j + 2 + (n : Int).toNat) else none) = _
    rw [if_pos ⟨by omega, by omega⟩, Int.toNat_natCast]
  · have hk := many_pos ho _ _ _ _ hh
    have e : many one (b + 2) (r.length + 1) r = some m := many_fuel ho _ _ _ _ _ hh (by omega)
    have c1 : ¬ (b = 110 ∨ b = 116 ∨ b = 102) := by rcases hb with rfl | rfl <;> decide
    have c2 : b ≠ 105 := by rcases hb with rfl | rfl <;> decide
    have c3 : b ≠ 115 := by rcases hb with rfl | rfl <;> decide
    rw [valStep, if_neg c1, if_neg c2, if_neg c3, if_pos hb, e]
    rfl
theorem fair_valStep {one : List UInt8 → Option Nat} (ho : Fair one) : Fair (valStep one) := by
  refine ⟨fun l k h => ?_, fun p q k h => ?_, fun l k h => ?_⟩
  · rcases valStep_is h with ⟨b, r, rfl, hh, rfl⟩ | ⟨r, j, x, rfl, hh, rfl⟩ | ⟨r, j, n, rfl, hh, hn, rfl⟩ | ⟨b, r, m, f, rfl, hb, hh, rfl⟩
    · simp
    · have := numAt_lt hh; simp; omega
    · have := numAt_lt hh; simp; omega
    · have := many_pos ho _ _ _ _ hh; simp; omega
  · refine is_valStep ho ?_
    rcases valStep_is h with ⟨b, r, rfl, hh, rfl⟩ | ⟨r, j, x, rfl, hh, rfl⟩ | ⟨r, j, n, rfl, hh, hn, rfl⟩ | ⟨b, r, m, f, rfl, hb, hh, rfl⟩
    · exact .word b _ hh
    · exact .int _ j x (numAt_ext q hh)
    · exact .bytes _ j n (numAt_ext q hh) (by show _ ≤ (r ++ q).length; rw [List.length_append]; omega)
    · exact .nest b _ m f hb (many_ext ho _ _ _ q _ hh)
  · refine is_valStep ho ?_
    rcases valStep_is h with ⟨b, r, rfl, hh, rfl⟩ | ⟨r, j, x, rfl, hh, rfl⟩ | ⟨r, j, n, rfl, hh, hn, rfl⟩ | ⟨b, r, m, f, rfl, hb, hh, rfl⟩
    · exact .word b _ hh
    · exact .int _ j x (numAt_take hh (by omega))
    · have hj := numAt_lt hh
      have e : (115 :: r).take (j + 2 + n) = 115 :: r.take (j + 1 + n) := by
        rw [show j + 2 + n = (j + 1 + n) + 1 from by omega]
        rfl
      rw [e]
      exact .bytes _ j n (numAt_take hh (by omega)) (by rw [List.length_take]; omega)
    · exact .nest b _ m f hb (many_cut ho _ _ _ _ hh)
theorem fair_val : ∀ d, Fair (val d)
  | 0 => fair_valStep fair_none
  | d + 1 => fair_valStep (fair_val d)
theorem valStep_mono {one two : List UInt8 → Option Nat} (ho : Fair two) (h12 : ∀ l k, one l = some k → two l = some k) (l : List UInt8) (k : Nat) (h : valStep one l = some k) : valStep two l = some k := by
  refine is_valStep ho ?_
  rcases valStep_is h with ⟨b, r, rfl, hh, rfl⟩ | ⟨r, j, x, rfl, hh, rfl⟩ | ⟨r, j, n, rfl, hh, hn, rfl⟩ | ⟨b, r, m, f, rfl, hb, hh, rfl⟩
  · exact .word b _ hh
  · exact .int _ j x hh
  · exact .bytes _ j n hh hn
  · exact .nest b _ m f hb (many_mono h12 _ _ _ _ hh)
/-- Deeper is no less. -/
theorem val_mono : ∀ (d : Nat) (l : List UInt8) (k : Nat), val d l = some k → val (d + 1) l = some k
  | 0, l, k, h => valStep_mono (fair_val 0) (fun _ _ c => by (cases c)) l k h
  | d + 1, l, k, h => valStep_mono (fair_val (d + 1)) (val_mono d) l k h
theorem val_up (d e : Nat) (h : d ≤ e) (l : List UInt8) (k : Nat) (hv : val d l = some k) : val e l = some k := by
  induction e with
  | zero =>
    obtain rfl : d = 0 := by omega
    exact hv
  | succ e ih =>
    by_cases c : d = e + 1
    · subst c; exact hv
    · exact val_mono e l k (ih (by omega))
/-- No value begins with a sign that ends one. -/
theorem val_head {d : Nat} {b : UInt8} {r : List UInt8} {k : Nat} (h : val d (b :: r) = some k) : b ≠ 93 ∧ b ≠ 125 := by
  have h' : ∃ one, valStep one (b :: r) = some k := by
    cases d with
    | zero => exact ⟨_, h⟩
    | succ d => exact ⟨_, h⟩
  obtain ⟨one, h'⟩ := h'
  rcases valStep_is h' with ⟨c, q, e, hh, _⟩ | ⟨q, j, x, e, hh, _⟩ | ⟨q, j, n, e, hh, hn, _⟩ | ⟨c, q, m, f, e, hb, hh, _⟩
  · injection e with e _
    subst e
    rcases hh with rfl | rfl | rfl <;> decide
  · injection e with e _
    subst e
    decide
  · injection e with e _
    subst e
    decide
  · injection e with e _
    subst e
    rcases hb with rfl | rfl <;> decide
end Go.Proofs.YtejgjipmnmfkcaaGreatDoor.Val
