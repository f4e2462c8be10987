/-
  Several texts in one: Values as plain lists of bytes: where the value at a text's head ends, how deep it may go; what stands in it. · A value's kind and parts, as plain lists of bytes; values made of parts; that each is the other's way back. · Values in a text, by places: what stands where, as a reader by places meets it. · A nest's values by places; a value's kind and parts as texts; which values fit a node: plain facts.
-/
import Derived.WalkKit
import Derived.Test.YtcpfhfdgfcilaaaGreatDoorR02
import Derived.Test.YtcpfhfdgfcilaaaGreatDoorR01
namespace Go.Proofs.YtcpfhfdgfcilaaaGreatDoor.Val

/-- Where a sign stands first. -/
def seek (c : UInt8) : List UInt8 → Option Nat
  | [] => none
  | b :: l => if b = c then some 0 else (seek c l).map (· + 1)
theorem seek_some {c : UInt8} : ∀ {l : List UInt8} {k : Nat}, seek c l = some k → k < l.length ∧ l.getD k 0 = c ∧ ∀ j, j < k → l.getD j 0 ≠ c
  | [], k, h => by cases h
  | b :: l, k, h => by
    rw [seek] at h
    by_cases e : b = c
    · rw [if_pos e] at h
      injection h with h
      subst h
      exact ⟨Nat.succ_pos _, e, fun j hj => absurd hj (Nat.not_lt_zero j)⟩
    · rw [if_neg e] at h
      cases hs : seek c l with
      | none => rw [hs] at h; cases h
      | some j =>
        rw [hs] at h
        injection h with h
        subst h
        obtain ⟨h1, h2, h3⟩ := seek_some hs
        refine ⟨Nat.succ_lt_succ h1, h2, fun i hi => ?_⟩
        cases i with
        | zero => exact e
        | succ i => exact h3 i (Nat.lt_of_succ_lt_succ hi)
theorem seek_of {c : UInt8} : ∀ {l : List UInt8} {k : Nat}, k < l.length → l.getD k 0 = c → (∀ j, j < k → l.getD j 0 ≠ c) → seek c l = some k
  | [], k, h, _, _ => absurd h (Nat.not_lt_zero _)
  | b :: l, k, h, h1, h2 => by
    rw [seek]
    cases k with
    | zero => rw [if_pos (show b = c from h1)]
    | succ k =>
      rw [if_neg (show ¬ b = c from h2 0 (Nat.succ_pos _)), seek_of (Nat.lt_of_succ_lt_succ h) h1 (fun j hj => h2 (j + 1) (Nat.succ_lt_succ hj))]
      rfl
theorem seek_app {c : UInt8} : ∀ (p q : List UInt8), (∀ b ∈ p, b ≠ c) → seek c (p ++ c :: q) = some p.length
  | [], q, _ => by
    show seek c (c :: q) = some 0
    rw [seek, if_pos rfl]
  | b :: p, q, h => by
    show seek c (b :: (p ++ c :: q)) = _
    rw [seek, if_neg (h b List.mem_cons_self), seek_app p q (fun x hx => h x (List.mem_cons_of_mem _ hx))]
    rfl
theorem seek_ext {c : UInt8} {p : List UInt8} {k : Nat} (q : List UInt8) (h : seek c p = some k) : seek c (p ++ q) = some k := by
  obtain ⟨h1, h2, h3⟩ := seek_some h
  refine seek_of (by rw [List.length_append]; omega) ?_ ?_
  · rw [List.getD_eq_getElem?_getD, List.getElem?_append_left h1, ← List.getD_eq_getElem?_getD]
    exact h2
  · intro j hj
    rw [List.getD_eq_getElem?_getD, List.getElem?_append_left (by omega), ← List.getD_eq_getElem?_getD]
    exact h3 j hj
theorem seek_take {c : UInt8} {l : List UInt8} {k n : Nat} (h : seek c l = some k) (hn : k < n) : seek c (l.take n) = some k := by
  obtain ⟨h1, h2, h3⟩ := seek_some h
  refine seek_of (by rw [List.length_take]; omega) ?_ ?_
  · rw [List.getD_eq_getElem?_getD, List.getElem?_take, if_pos hn, ← List.getD_eq_getElem?_getD]
    exact h2
  · intro j hj
    rw [List.getD_eq_getElem?_getD, List.getElem?_take, if_pos (by omega), ← List.getD_eq_getElem?_getD]
    exact h3 j hj
/-- The digits up to a sign: how many, and their number. -/
def numAt (c : UInt8) (r : List UInt8) : Option (Nat × Int) :=
  match seek c r with
  | none => none
  | some j => (numOf (r.take j)).map fun x => (j, x)
theorem numAt_some {c : UInt8} {r : List UInt8} {j : Nat} {x : Int} : numAt c r = some (j, x) ↔ seek c r = some j ∧ numOf (r.take j) = some x := by
  unfold numAt
  cases h : seek c r with
  | none => exact ⟨fun c => by (cases c), fun c => by (cases c.1)⟩
  | some k =>
    constructor
    · intro e
      cases h2 : numOf (r.take k) with
      | none => simp only [h2] at e; cases e
      | some y =>
        simp only [h2, Option.map_some, Option.some.injEq, Prod.mk.injEq] at e
        obtain ⟨rfl, rfl⟩ := e
        exact ⟨rfl, h2⟩
    · rintro ⟨e, h2⟩
      injection e with e
      subst e
      simp only [h2, Option.map_some]
theorem take_app_le (p q : List UInt8) (j : Nat) (h : j ≤ p.length) : (p ++ q).take j = p.take j := by
  rw [List.take_append_of_le_length h]
theorem numAt_ext {c : UInt8} {p : List UInt8} {y : Nat × Int} (q : List UInt8) (h : numAt c p = some y) : numAt c (p ++ q) = some y := by
  obtain ⟨j, x⟩ := y
  rw [numAt_some] at *
  refine ⟨seek_ext q h.1, ?_⟩
  rw [take_app_le _ _ _ (Nat.le_of_lt (seek_some h.1).1)]
  exact h.2
theorem numAt_take {c : UInt8} {l : List UInt8} {j n : Nat} {x : Int} (h : numAt c l = some (j, x)) (hn : j < n) : numAt c (l.take n) = some (j, x) := by
  rw [numAt_some] at *
  refine ⟨seek_take h.1 hn, ?_⟩
  rw [List.take_take, Nat.min_eq_left (by omega)]
  exact h.2
theorem numAt_lt {c : UInt8} {l : List UInt8} {j : Nat} {x : Int} (h : numAt c l = some (j, x)) : j < l.length ∧ 1 ≤ j ∧ j ≤ 20 := by
  rw [numAt_some] at h
  have h1 := (seek_some h.1).1
  have h2 := numOf_length h.2
  rw [List.length_take, Nat.min_eq_left (by omega)] at h2
  omega
theorem numAt_made (c : UInt8) (x : Int) (q : List UInt8) (hx : in64 x) (hc : c = 58 ∨ c = 59) : numAt c (intD x ++ c :: q) = some ((intD x).length, x) := by
  rw [numAt_some]
  constructor
  · refine seek_app _ _ fun b hb e => ?_
    subst e
    rcases intD_signs x b hb with h | h
    · rcases hc with rfl | rfl <;> cases h
    · rcases hc with rfl | rfl
      · exact absurd h.2 (by decide)
      · exact absurd h.2 (by decide)
  · rw [take_app_le _ _ _ (Nat.le_refl _), List.take_length]
    exact numOf_intD x hx
/-- Values up to a sign: where that ends. -/
def many (one : List UInt8 → Option Nat) (stop : UInt8) : Nat → List UInt8 → Option Nat
  | 0, _ => none
  | _ + 1, [] => none
  | f + 1, b :: l => if b = stop then some 1 else
      match one (b :: l) with
      | none => none
      | some k => (many one stop f ((b :: l).drop k)).map (· + k)
/-- These values. -/
def items (one : List UInt8 → Option Nat) (stop : UInt8) : Nat → List UInt8 → List (List UInt8)
  | 0, _ => []
  | _ + 1, [] => []
  | f + 1, b :: l => if b = stop then [] else
      match one (b :: l) with
      | none => []
      | some k => (b :: l).take k :: items one stop f ((b :: l).drop k)
/-- What ends where it says, whatever follows. -/
structure Fair (one : List UInt8 → Option Nat) : Prop where
  pos : ∀ l k, one l = some k → 1 ≤ k ∧ k ≤ l.length
  ext : ∀ p q k, one p = some k → one (p ++ q) = some k
  cut : ∀ l k, one l = some k → one (l.take k) = some k
theorem many_step (one : List UInt8 → Option Nat) (stop : UInt8) (f : Nat) (b : UInt8) (l : List UInt8) (h : b ≠ stop) : many one stop (f + 1) (b :: l) = (one (b :: l)).bind fun k => (many one stop f ((b :: l).drop k)).map (· + k) := by
  rw [many, if_neg h]
  cases one (b :: l) <;> rfl
theorem many_stop (one : List UInt8 → Option Nat) (stop : UInt8) (f : Nat) (l : List UInt8) : many one stop (f + 1) (stop :: l) = some 1 := by
  rw [many, if_pos rfl]
/-- How many ends: by a stop, or by a value and what follows. -/
theorem many_cases {one : List UInt8 → Option Nat} {stop : UInt8} {f : Nat} {l : List UInt8} {k : Nat} (h : many one stop f l = some k) :
    ∃ g, f = g + 1 ∧ ((∃ r, l = stop :: r ∧ k = 1) ∨ ∃ b r j m, l = b :: r ∧ b ≠ stop ∧ one l = some j ∧ many one stop g (l.drop j) = some m ∧ k = m + j) := by
  cases f with
  | zero => cases h
  | succ g =>
    refine ⟨g, rfl, ?_⟩
    cases l with
    | nil => cases h
    | cons b r =>
      by_cases e : b = stop
      · subst e
        rw [many_stop] at h
        injection h with h
        exact .inl ⟨r, rfl, h.symm⟩
      · rw [many_step _ _ _ _ _ e] at h
        cases h1 : one (b :: r) with
        | none => rw [h1] at h; cases h
        | some j =>
          rw [h1] at h
          cases h2 : many one stop g ((b :: r).drop j) with
          | none => simp only [Option.bind_some, h2] at h; cases h
          | some m =>
            simp only [Option.bind_some, h2, Option.map_some, Option.some.injEq] at h
            exact .inr ⟨b, r, j, m, rfl, e, rfl, h2, h.symm⟩
theorem many_pos {one : List UInt8 → Option Nat} (ho : Fair one) (stop : UInt8) : ∀ (f : Nat) (l : List UInt8) (k : Nat), many one stop f l = some k → 1 ≤ k ∧ k ≤ l.length := by
  intro f
  induction f with
  | zero => intro l k h; cases h
  | succ f ih =>
    intro l k h
    obtain ⟨g, hg, h | ⟨b, r, j, m, rfl, _, h1, h2, rfl⟩⟩ := many_cases h
    · obtain ⟨r, rfl, rfl⟩ := h
      simp
    · injection hg with hg
      subst hg
      have h3 := ho.pos _ _ h1
      have h4 := ih _ _ h2
      rw [List.length_drop] at h4
      omega
theorem many_fuel {one : List UInt8 → Option Nat} (ho : Fair one) (stop : UInt8) : ∀ (f : Nat) (l : List UInt8) (k f' : Nat), many one stop f l = some k → k ≤ f' → many one stop f' l = some k := by
  intro f
  induction f with
  | zero => intro l k f' h; cases h
  | succ f ih =>
    intro l k f' h hf
    obtain ⟨g, hg, h | ⟨b, r, j, m, rfl, e, h1, h2, rfl⟩⟩ := many_cases h
    · obtain ⟨r, rfl, rfl⟩ := h
      obtain ⟨x, rfl⟩ : ∃ x, f' = x + 1 := ⟨f' - 1, by omega⟩
      rw [many_stop]
    · injection hg with hg
      subst hg
      have h3 := ho.pos _ _ h1
      obtain ⟨x, rfl⟩ : ∃ x, f' = x + 1 := ⟨f' - 1, by omega⟩
      rw [many_step _ _ _ _ _ e, h1, Option.bind_some, ih _ _ x h2 (by omega)]
      rfl
theorem drop_app_le (p q : List UInt8) (j : Nat) (h : j ≤ p.length) : (p ++ q).drop j = p.drop j ++ q := by
  rw [List.drop_append_of_le_length h]
theorem many_ext {one : List UInt8 → Option Nat} (ho : Fair one) (stop : UInt8) : ∀ (f : Nat) (p q : List UInt8) (k : Nat), many one stop f p = some k → many one stop f (p ++ q) = some k := by
  intro f
  induction f with
  | zero => intro p q k h; cases h
  | succ f ih =>
    intro p q k h
    obtain ⟨g, hg, h | ⟨b, r, j, m, rfl, e, h1, h2, rfl⟩⟩ := many_cases h
    · obtain ⟨r, rfl, rfl⟩ := h
      exact many_stop _ _ _ _
    · injection hg with hg
      subst hg
      have h3 := ho.pos _ _ h1
      have h4 := ho.ext _ q _ h1
      have h5 := ih _ q _ h2
      rw [← drop_app_le _ q j h3.2] at h5
      show many one stop (f + 1) (b :: (r ++ q)) = _
      rw [many_step _ _ _ _ _ e]
      rw [show b :: (r ++ q) = (b :: r) ++ q from rfl, h4, Option.bind_some, h5]
      rfl
theorem many_cut {one : List UInt8 → Option Nat} (ho : Fair one) (stop : UInt8) : ∀ (f : Nat) (l : List UInt8) (k : Nat), many one stop f l = some k → many one stop f (l.take k) = some k := by
  intro f
  induction f with
  | zero => intro l k h; cases h
  | succ f ih =>
    intro l k h
    obtain ⟨g, hg, h | ⟨b, r, j, m, rfl, e, h1, h2, rfl⟩⟩ := many_cases h
    · obtain ⟨r, rfl, rfl⟩ := h
      exact many_stop _ _ _ _
    · injection hg with hg
      subst hg
      have h3 := ho.pos _ _ h1
      have h4 := ih _ _ h2
      have h5 : one ((b :: r).take (m + j)) = some j := by
        have h6 := ho.ext _ (((b :: r).drop j).take m) _ (ho.cut _ _ h1)
        rw [show (b :: r).take j ++ ((b :: r).drop j).take m = (b :: r).take (m + j) from by rw [Nat.add_comm m j, List.take_add]] at h6
        exact h6
      have h7 : ((b :: r).take (m + j)).drop j = ((b :: r).drop j).take m := by rw [List.drop_take, Nat.add_sub_cancel]
      have h8 : (b :: r).take (m + j) = b :: r.take (m + j - 1) := by
        obtain ⟨x, hx⟩ : ∃ x, m + j = x + 1 := ⟨m + j - 1, by omega⟩
        rw [hx]
        rfl
      rw [← h7] at h4
      rw [h8] at h4 h5 ⊢
      rw [many_step _ _ _ _ _ e, h5, Option.bind_some, h4]
      rfl
theorem many_mono {one two : List UInt8 → Option Nat} (h12 : ∀ l k, one l = some k → two l = some k) (stop : UInt8) : ∀ (f : Nat) (l : List UInt8) (k : Nat), many one stop f l = some k → many two stop f l = some k := by
  intro f
  induction f with
  | zero => intro l k h; cases h
  | succ f ih =>
    intro l k h
    obtain ⟨g, hg, h | ⟨b, r, j, m, rfl, e, h1, h2, rfl⟩⟩ := many_cases h
    · obtain ⟨r, rfl, rfl⟩ := h
      exact many_stop _ _ _ _
    · injection hg with hg
      subst hg
      rw [many_step _ _ _ _ _ e, h12 _ _ h1, Option.bind_some, ih _ _ h2]
      rfl
/-- One value, what stands within by another rule. -/
def valStep (one : List UInt8 → Option Nat) : List UInt8 → Option Nat
  | [] => none
  | b :: r =>
    if b = 110 ∨ b = 116 ∨ b = 102 then some 1
    else if b = 105 then (numAt 59 r).map (fun p => p.1 + 2)
    else if b = 115 then (numAt 58 r).bind (fun p => if 0 ≤ p.2 ∧ p.2 ≤ (r.length : Int) - p.1 - 1 then some (p.1 + 2 + p.2.toNat) else none)
    else if b = 91 ∨ b = 123 then (many one (b + 2) (r.length + 1) r).map (· + 1)
    else none
/-- Where the value at a text's head ends; so deep it may go. -/
def val : Nat → List UInt8 → Option Nat
  | 0 => valStep (fun _ => none)
  | d + 1 => valStep (val d)
theorem fair_none : Fair (fun _ => none) := ⟨fun _ _ h => by (cases h), fun _ _ _ h => by (cases h), fun _ _ h => by (cases h)⟩
/-- The ways in which there is a value. -/
def Is (one : List UInt8 → Option Nat) (l : List UInt8) (k : Nat) : Prop :=
  (∃ b r, l = b :: r ∧ (b = 110 ∨ b = 116 ∨ b = 102) ∧ k = 1) ∨
  (∃ r j x, l = 105 :: r ∧ numAt 59 r = some (j, x) ∧ k = j + 2) ∨
  (∃ r j n, l = 115 :: r ∧ numAt 58 r = some (j, ((n : Nat) : Int)) ∧ j + 1 + n ≤ r.length ∧ k = j + 2 + n) ∨
  (∃ b r m f, l = b :: r ∧ (b = 91 ∨ b = 123) ∧ many one (b + 2) f r = some m ∧ k = m + 1)
theorem Is.word {one : List UInt8 → Option Nat} (b : UInt8) (r : List UInt8) (h : b = 110 ∨ b = 116 ∨ b = 102) : Is one (b :: r) 1 := .inl ⟨b, r, rfl, h, rfl⟩
theorem Is.int {one : List UInt8 → Option Nat} (r : List UInt8) (j : Nat) (x : Int) (h : numAt 59 r = some (j, x)) : Is one (105 :: r) (j + 2) := .inr (.inl ⟨r, j, x, rfl, h, rfl⟩)
theorem Is.bytes {one : List UInt8 → Option Nat} (r : List UInt8) (j n : Nat) (h : numAt 58 r = some (j, (n : Int))) (hn : j + 1 + n ≤ r.length) : Is one (115 :: r) (j + 2 + n) := .inr (.inr (.inl ⟨r, j, n, rfl, h, hn, rfl⟩))
theorem Is.nest {one : List UInt8 → Option Nat} (b : UInt8) (r : List UInt8) (m f : Nat) (hb : b = 91 ∨ b = 123) (h : many one (b + 2) f r = some m) : Is one (b :: r) (m + 1) := .inr (.inr (.inr ⟨b, r, m, f, rfl, hb, h, rfl⟩))
theorem valStep_is {one : List UInt8 → Option Nat} {l : List UInt8} {k : Nat} (h : valStep one l = some k) : Is one l k := by
  cases l with
  | nil => cases h
  | cons b r =>
    rw [valStep] at h
    by_cases c1 : b = 110 ∨ b = 116 ∨ b = 102
    · rw [if_pos c1] at h
      injection h with h
      subst h
      exact .word b r c1
    · rw [if_neg c1] at h
      by_cases c2 : b = 105
      · subst c2
        rw [if_pos rfl] at h
        cases h1 : numAt 59 r with
        | none => rw [h1] at h; cases h
        | some p =>
          obtain ⟨j, x⟩ := p
          rw [h1] at h
          injection h with h
          subst h
          exact .int r j x h1
      · rw [if_neg c2] at h
        by_cases c3 : b = 115
        · subst c3
          rw [if_pos rfl] at h
          cases h1 : numAt 58 r with
          | none => rw [h1] at h; cases h
          | some p =>
            obtain ⟨j, x⟩ := p
            rw [h1, Option.bind_some] at h
            simp only at h
            by_cases c : 0 ≤ x ∧ x ≤ (r.length : Int) - j - 1
            · rw [if_pos c] at h
              injection h with h
              subst h
              obtain ⟨n, rfl⟩ : ∃ n : Nat, x = (n : Int) := ⟨x.toNat, by omega⟩
              exact .bytes r j n h1 (by omega)
            · rw [if_neg c] at h; cases h
        · rw [if_neg c3] at h
          by_cases c4 : b = 91 ∨ b = 123
          · rw [if_pos c4] at h
            cases h1 : many one (b + 2) (r.length + 1) r with
            | none => rw [h1] at h; cases h
            | some m =>
              rw [h1] at h
              injection h with h
              subst h
              exact .nest b r m _ c4 h1
          · rw [if_neg c4] at h; cases h
theorem is_valStep {one : List UInt8 → Option Nat} (ho : Fair one) {l : List UInt8} {k : Nat} (h : Is one l k) : valStep one l = some k := by
  rcases h with ⟨b, r, rfl, hh, rfl⟩ | ⟨r, j, x, rfl, hh, rfl⟩ | ⟨r, j, n, rfl, hh, hn, rfl⟩ | ⟨b, r, m, f, rfl, hb, hh, rfl⟩
  · rw [valStep, if_pos hh]
  · rw [valStep, if_neg (by decide), if_pos rfl, hh]
    rfl
  · rw [valStep, if_neg (by decide), if_neg (by decide), if_pos rfl, hh, Option.bind_some]
    show (if 0 ≤ (n : Int) ∧ (n : Int) ≤ (r.length : Int) - j - 1 then some (j + 2 + (n : Int).toNat) else none) = _
    rw [if_pos ⟨by omega, by omega⟩, Int.toNat_natCast]
  · have hk := many_pos ho _ _ _ _ hh
    have e : many one (b + 2) (r.length + 1) r = some m := many_fuel ho _ _ _ _ _ hh (by omega)
    have c1 : ¬ (b = 110 ∨ b = 116 ∨ b = 102) := by rcases hb with rfl | rfl <;> decide
    have c2 : b ≠ 105 := by rcases hb with rfl | rfl <;> decide
    have c3 : b ≠ 115 := by rcases hb with rfl | rfl <;> decide
    rw [valStep, if_neg c1, if_neg c2, if_neg c3, if_pos hb, e]
    rfl
theorem fair_valStep {one : List UInt8 → Option Nat} (ho : Fair one) : Fair (valStep one) := by
  refine ⟨fun l k h => ?_, fun p q k h => ?_, fun l k h => ?_⟩
  · rcases valStep_is h with ⟨b, r, rfl, hh, rfl⟩ | ⟨r, j, x, rfl, hh, rfl⟩ | ⟨r, j, n, rfl, hh, hn, rfl⟩ | ⟨b, r, m, f, rfl, hb, hh, rfl⟩
    · simp
    · have := numAt_lt hh; simp; omega
    · have := numAt_lt hh; simp; omega
    · have := many_pos ho _ _ _ _ hh; simp; omega
  · refine is_valStep ho ?_
    rcases valStep_is h with ⟨b, r, rfl, hh, rfl⟩ | ⟨r, j, x, rfl, hh, rfl⟩ | ⟨r, j, n, rfl, hh, hn, rfl⟩ | ⟨b, r, m, f, rfl, hb, hh, rfl⟩
    · exact .word b _ hh
    · exact .int _ j x (numAt_ext q hh)
    · exact .bytes _ j n (numAt_ext q hh) (by show _ ≤ (r ++ q).length; rw [List.length_append]; omega)
    · exact .nest b _ m f hb (many_ext ho _ _ _ q _ hh)
  · refine is_valStep ho ?_
    rcases valStep_is h with ⟨b, r, rfl, hh, rfl⟩ | ⟨r, j, x, rfl, hh, rfl⟩ | ⟨r, j, n, rfl, hh, hn, rfl⟩ | ⟨b, r, m, f, rfl, hb, hh, rfl⟩
    · exact .word b _ hh
    · exact .int _ j x (numAt_take hh (by omega))
    · have hj := numAt_lt hh
      have e : (115 :: r).take (j + 2 + n) = 115 :: r.take (j + 1 + n) := by
        rw [show j + 2 + n = (j + 1 + n) + 1 from by omega]
        rfl
      rw [e]
      exact .bytes _ j n (numAt_take hh (by omega)) (by rw [List.length_take]; omega)
    · exact .nest b _ m f hb (many_cut ho _ _ _ _ hh)
theorem fair_val : ∀ d, Fair (val d)
  | 0 => fair_valStep fair_none
  | d + 1 => fair_valStep (fair_val d)
theorem valStep_mono {one two : List UInt8 → Option Nat} (ho : Fair two) (h12 : ∀ l k, one l = some k → two l = some k) (l : List UInt8) (k : Nat) (h : valStep one l = some k) : valStep two l = some k := by
  refine is_valStep ho ?_
  rcases valStep_is h with ⟨b, r, rfl, hh, rfl⟩ | ⟨r, j, x, rfl, hh, rfl⟩ | ⟨r, j, n, rfl, hh, hn, rfl⟩ | ⟨b, r, m, f, rfl, hb, hh, rfl⟩
  · exact .word b _ hh
  · exact .int _ j x hh
  · exact .bytes _ j n hh hn
  · exact .nest b _ m f hb (many_mono h12 _ _ _ _ hh)
/-- Deeper is no less. -/
theorem val_mono : ∀ (d : Nat) (l : List UInt8) (k : Nat), val d l = some k → val (d + 1) l = some k
  | 0, l, k, h => valStep_mono (fair_val 0) (fun _ _ c => by (cases c)) l k h
  | d + 1, l, k, h => valStep_mono (fair_val (d + 1)) (val_mono d) l k h
theorem val_up (d e : Nat) (h : d ≤ e) (l : List UInt8) (k : Nat) (hv : val d l = some k) : val e l = some k := by
  induction e with
  | zero =>
    obtain rfl : d = 0 := by omega
    exact hv
  | succ e ih =>
    by_cases c : d = e + 1
    · subst c; exact hv
    · exact val_mono e l k (ih (by omega))
/-- No value begins with a sign that ends one. -/
theorem val_head {d : Nat} {b : UInt8} {r : List UInt8} {k : Nat} (h : val d (b :: r) = some k) : b ≠ 93 ∧ b ≠ 125 := by
  have h' : ∃ one, valStep one (b :: r) = some k := by
    cases d with
    | zero => exact ⟨_, h⟩
    | succ d => exact ⟨_, h⟩
  obtain ⟨one, h'⟩ := h'
  rcases valStep_is h' with ⟨c, q, e, hh, _⟩ | ⟨q, j, x, e, hh, _⟩ | ⟨q, j, n, e, hh, hn, _⟩ | ⟨c, q, m, f, e, hb, hh, _⟩
  · injection e with e _
    subst e
    rcases hh with rfl | rfl | rfl <;> decide
  · injection e with e _
    subst e
    decide
  · injection e with e _
    subst e
    decide
  · injection e with e _
    subst e
    rcases hb with rfl | rfl <;> decide
end Go.Proofs.YtcpfhfdgfcilaaaGreatDoor.Val
namespace Go.Proofs.YtcpfhfdgfcilaaaGreatDoor.Val

theorem items_stop (one : List UInt8 → Option Nat) (stop : UInt8) (f : Nat) (l : List UInt8) : items one stop (f + 1) (stop :: l) = [] := by
  rw [items, if_pos rfl]
theorem items_step {one : List UInt8 → Option Nat} {stop : UInt8} (f : Nat) {b : UInt8} {l : List UInt8} {k : Nat} (h : b ≠ stop) (hk : one (b :: l) = some k) : items one stop (f + 1) (b :: l) = (b :: l).take k :: items one stop f ((b :: l).drop k) := by
  rw [items, if_neg h, hk]
theorem items_fuel {one : List UInt8 → Option Nat} (ho : Fair one) (stop : UInt8) : ∀ (f : Nat) (l : List UInt8) (k f' : Nat), many one stop f l = some k → k ≤ f' → items one stop f' l = items one stop f l := by
  intro f
  induction f with
  | zero => intro l k f' h; cases h
  | succ f ih =>
    intro l k f' h hf
    obtain ⟨g, hg, h | ⟨b, r, j, m, rfl, e, h1, h2, rfl⟩⟩ := many_cases h
    · obtain ⟨r, rfl, rfl⟩ := h
      obtain ⟨x, rfl⟩ : ∃ x, f' = x + 1 := ⟨f' - 1, by omega⟩
      rw [items_stop, items_stop]
    · injection hg with hg
      subst hg
      have h3 := ho.pos _ _ h1
      obtain ⟨x, rfl⟩ : ∃ x, f' = x + 1 := ⟨f' - 1, by omega⟩
      rw [items_step x e h1, items_step f e h1, ih _ _ x h2 (by omega)]
/-- Values one behind the other, and a stop: these are the values. -/
theorem many_made {one : List UInt8 → Option Nat} (ho : Fair one) (stop : UInt8) (q : List UInt8) : ∀ (vs : List (List UInt8)), (∀ v ∈ vs, one v = some v.length ∧ v.head? ≠ some stop) →
    many one stop (vs.length + 1) (vs.flatten ++ stop :: q) = some (vs.flatten.length + 1) ∧ items one stop (vs.length + 1) (vs.flatten ++ stop :: q) = vs
  | [], _ => ⟨many_stop _ _ _ _, items_stop _ _ _ _⟩
  | v :: vs, hv => by
    obtain ⟨h1, h2⟩ := hv v List.mem_cons_self
    obtain ⟨ih1, ih2⟩ := many_made ho stop q vs (fun x hx => hv x (List.mem_cons_of_mem _ hx))
    have hp := ho.pos _ _ h1
    have h3 := ho.ext _ (vs.flatten ++ stop :: q) _ h1
    have e : (v :: vs).flatten ++ stop :: q = v ++ (vs.flatten ++ stop :: q) := by rw [List.flatten_cons, List.append_assoc]
    have hd : (v ++ (vs.flatten ++ stop :: q)).drop v.length = vs.flatten ++ stop :: q := by
      rw [drop_app_le _ _ _ (Nat.le_refl _), List.drop_length]
      rfl
    have ht : (v ++ (vs.flatten ++ stop :: q)).take v.length = v := by
      rw [take_app_le _ _ _ (Nat.le_refl _), List.take_length]
    cases v with
    | nil => simp at hp
    | cons b v =>
      have hb : b ≠ stop := fun c => h2 (by rw [c]; rfl)
      rw [e]
      constructor
      · show many one stop (vs.length + 1 + 1) (b :: (v ++ (vs.flatten ++ stop :: q))) = _
        rw [many_step _ _ _ _ _ hb]
        rw [show b :: (v ++ (vs.flatten ++ stop :: q)) = (b :: v) ++ (vs.flatten ++ stop :: q) from rfl, h3, Option.bind_some, hd, ih1]
        rw [List.flatten_cons, List.length_append, Option.map_some, show vs.flatten.length + 1 + (b :: v).length = (b :: v).length + vs.flatten.length + 1 from by omega]
      · show items one stop (vs.length + 1 + 1) (b :: (v ++ (vs.flatten ++ stop :: q))) = _
        rw [items_step (l := v ++ (vs.flatten ++ stop :: q)) (k := (b :: v).length) _ hb h3]
        rw [show b :: (v ++ (vs.flatten ++ stop :: q)) = (b :: v) ++ (vs.flatten ++ stop :: q) from rfl, hd, ht, ih2]
/-- The makers. -/
def nullM : List UInt8 := [110]
def intM (x : Int) : List UInt8 := 105 :: (intD x ++ [59])
def boolM (b : Bool) : List UInt8 := if b then [116] else [102]
def bytesM (s : List UInt8) : List UInt8 := 115 :: (dig s.length ++ 58 :: s)
def listM (vs : List (List UInt8)) : List UInt8 := 91 :: (vs.flatten ++ [93])
def structM (vs : List (List UInt8)) : List UInt8 := 123 :: (vs.flatten ++ [125])
theorem val_is {d : Nat} {l : List UInt8} {k : Nat} (h : Is (fun _ => none) l k) : val d l = some k := val_up 0 d (Nat.zero_le _) l k (is_valStep fair_none h)
theorem val_null (d : Nat) : val d nullM = some nullM.length := val_is (.word 110 [] (.inl rfl))
theorem val_int (d : Nat) (x : Int) (h : in64 x) : val d (intM x) = some (intM x).length := by
  have := numAt_made 59 x [] h (.inr rfl)
  have e : (intM x).length = (intD x).length + 2 := by simp [intM]
  rw [e]
  exact val_is (.int _ _ x this)
theorem val_bool (d : Nat) (b : Bool) : val d (boolM b) = some (boolM b).length := by
  cases b
  · exact val_is (.word 102 [] (.inr (.inr rfl)))
  · exact val_is (.word 116 [] (.inr (.inl rfl)))
theorem intD_nat (n : Nat) : intD (n : Int) = dig n := by
  unfold intD
  rw [if_pos (by omega), Int.toNat_natCast]
theorem val_bytes (d : Nat) (s : List UInt8) (h : s.length ≤ 9223372036854775807) : val d (bytesM s) = some (bytesM s).length := by
  have := numAt_made 58 (s.length : Int) s ⟨by omega, by omega⟩ (.inl rfl)
  rw [intD_nat] at this
  have e : (bytesM s).length = (dig s.length).length + 2 + s.length := by simp [bytesM]; omega
  rw [e]
  exact val_is (.bytes _ _ s.length this (by simp; omega))
theorem val_nest (d : Nat) (b : UInt8) (hb : b = 91 ∨ b = 123) (vs : List (List UInt8)) (h : ∀ v ∈ vs, val d v = some v.length) : val (d + 1) (b :: (vs.flatten ++ [b + 2])) = some (b :: (vs.flatten ++ [b + 2])).length ∧ items (val d) (b + 2) (vs.flatten.length + 2) (vs.flatten ++ [b + 2]) = vs := by
  have hh : ∀ v ∈ vs, val d v = some v.length ∧ v.head? ≠ some (b + 2) := by
    intro v hv
    refine ⟨h v hv, fun c => ?_⟩
    cases v with
    | nil => cases c
    | cons x v =>
      have := val_head (h _ hv)
      have hx : x = b + 2 := by simpa using c
      rcases hb with rfl | rfl
      · exact this.1 hx
      · exact this.2 hx
  obtain ⟨h1, h2⟩ := many_made (fair_val d) (b + 2) [] vs hh
  refine ⟨?_, ?_⟩
  · have e : (b :: (vs.flatten ++ [b + 2])).length = vs.flatten.length + 1 + 1 := by simp
    rw [e]
    exact is_valStep (fair_val d) (.nest b _ _ _ hb h1)
  · rw [items_fuel (fair_val d) _ _ _ _ _ h1 (by omega)]
    exact h2
theorem val_list (d : Nat) (vs : List (List UInt8)) (h : ∀ v ∈ vs, val d v = some v.length) : val (d + 1) (listM vs) = some (listM vs).length := (val_nest d 91 (.inl rfl) vs h).1
theorem val_struct (d : Nat) (vs : List (List UInt8)) (h : ∀ v ∈ vs, val d v = some v.length) : val (d + 1) (structM vs) = some (structM vs).length := (val_nest d 123 (.inr rfl) vs h).1
/-- Is a text a value's, no longer and no deeper than it may be? -/
def isVal (l : List UInt8) : Prop := l.length ≤ 65536 ∧ val 4 l = some l.length
/-- A value's kind and parts, by its first byte. -/
def tell : List UInt8 → Option (Int × List (List UInt8))
  | [] => none
  | b :: r =>
    if b = 110 then some (-1, [])
    else if b = 105 then some (0, [r.dropLast])
    else if b = 115 then (seek 58 r).map fun j => (2, [r.drop (j + 1)])
    else if b = 91 then some (3, items (val 3) 93 (r.length + 1) r)
    else if b = 123 then some (4, items (val 3) 125 (r.length + 1) r)
    else some (1, [b :: r])
theorem tell_i (r : List UInt8) : tell (105 :: r) = some (0, [r.dropLast]) := by rw [tell, if_neg (by decide), if_pos rfl]
theorem tell_s (r : List UInt8) : tell (115 :: r) = (seek 58 r).map fun j => (2, [r.drop (j + 1)]) := by rw [tell, if_neg (by decide), if_neg (by decide), if_pos rfl]
theorem tell_t (r : List UInt8) : tell (116 :: r) = some (1, [116 :: r]) := by rw [tell, if_neg (by decide), if_neg (by decide), if_neg (by decide), if_neg (by decide), if_neg (by decide)]
theorem tell_f (r : List UInt8) : tell (102 :: r) = some (1, [102 :: r]) := by rw [tell, if_neg (by decide), if_neg (by decide), if_neg (by decide), if_neg (by decide), if_neg (by decide)]
/-- A value's kind and parts. -/
def partsM (l : List UInt8) : Option (Int × List (List UInt8)) := if l.length ≤ 65536 ∧ val 4 l = some l.length then tell l else none
theorem partsM_tell {l : List UInt8} (h : isVal l) : partsM l = tell l := by
  unfold partsM
  unfold isVal at h
  rw [if_pos h]
/-- Of what is made the parts are told. -/
theorem parts_int (x : Int) (h : in64 x) : partsM (intM x) = some (0, [intD x]) := by
  have hl := length_intD x h
  rw [partsM_tell ⟨by simp [intM]; omega, val_int 4 x h⟩]
  unfold intM
  rw [tell_i, List.dropLast_concat]
theorem parts_bytes (s : List UInt8) (hl : (bytesM s).length ≤ 65536) : partsM (bytesM s) = some (2, [s]) := by
  have h : s.length ≤ (bytesM s).length := by simp [bytesM]; omega
  rw [partsM_tell ⟨hl, val_bytes 4 s (by omega)⟩]
  unfold bytesM
  have hs : seek 58 (dig s.length ++ 58 :: s) = some (dig s.length).length := by
    refine seek_app _ _ fun b hb e => ?_
    have := dig_digit _ b hb
    rw [e] at this
    exact absurd this.2 (by decide)
  rw [tell_s, hs, Option.map_some, show (dig s.length ++ 58 :: s).drop ((dig s.length).length + 1) = s from by
    rw [show dig s.length ++ 58 :: s = (dig s.length ++ [58]) ++ s from by simp, List.drop_append_of_le_length (by simp), List.drop_eq_nil_of_le (by simp)]
    rfl]
theorem parts_bool (b : Bool) : partsM (boolM b) = some (1, [boolM b]) := by
  rw [partsM_tell ⟨by cases b <;> decide, val_bool 4 b⟩]
  cases b
  · exact tell_f _
  · exact tell_t _
end Go.Proofs.YtcpfhfdgfcilaaaGreatDoor.Val
namespace Go.Proofs.YtcpfhfdgfcilaaaGreatDoor.Val

/-- A text's bytes. -/
def bl (s : ByteArray) : List UInt8 := s.data.toList
theorem bl_length (s : ByteArray) : (bl s).length = s.size := Array.length_toList
theorem bl_inj {s t : ByteArray} (h : bl s = bl t) : s = t := ByteArray.ext (Array.toList_inj.1 h)
theorem bl_append (s t : ByteArray) : bl (s ++ t) = bl s ++ bl t := by
  unfold bl
  rw [ByteArray.data_append, Array.toList_append]
theorem bl_extract (s : ByteArray) (a b : Nat) : bl (s.extract a b) = ((bl s).take b).drop a := by
  unfold bl
  rw [ByteArray.data_extract, Array.toList_extract, List.extract_eq_take_drop, List.drop_take]
theorem bl_mk (l : List UInt8) : bl ⟨l.toArray⟩ = l := by
  unfold bl
  exact List.toList_toArray
theorem bl_back (s : ByteArray) : (⟨(bl s).toArray⟩ : ByteArray) = s := bl_inj (bl_mk _)
theorem bl_at (s : ByteArray) (i : Nat) (h : i < s.size) : s[i] = (bl s).getD i 0 := by
  unfold bl
  show s.data[i] = _
  rw [List.getD_eq_getElem?_getD, Array.getElem?_toList, Array.getElem?_eq_getElem h]
  rfl
theorem bl_drop (s : ByteArray) (p : Nat) (h : p < s.size) : (bl s).drop p = s[p] :: (bl s).drop (p + 1) := by
  have h' : p < (bl s).length := by rw [bl_length]; exact h
  rw [List.drop_eq_getElem_cons h', bl_at s p h, List.getD_eq_getElem?_getD, List.getElem?_eq_getElem h']
  rfl
theorem bl_drop_out (s : ByteArray) (p : Nat) (h : s.size ≤ p) : (bl s).drop p = [] := List.drop_eq_nil_of_le (by rw [bl_length]; exact h)
/-- What may stand within at a depth: one less. -/
def below : Nat → List UInt8 → Option Nat
  | 0 => fun _ => none
  | d + 1 => val d
theorem take_drop_extract (s : ByteArray) (p k : Nat) : ((bl s).drop p).take (k - p) = bl (s.extract p k) := by
  rw [bl_extract, List.drop_take]
end Go.Proofs.YtcpfhfdgfcilaaaGreatDoor.Val
namespace Go.Proofs.YtcpfhfdgfcilaaaGreatDoor.Val
open Tree

/-- From a place on a text is values and a stop, to its end. -/
def Whole (one : List UInt8 → Option Nat) (stop : UInt8) (s : ByteArray) (p : Nat) : Prop := many one stop (s.size - p + 1) ((bl s).drop p) = some (s.size - p) ∧ p < s.size
/-- These values. -/
def itemsZ (one : List UInt8 → Option Nat) (stop : UInt8) (s : ByteArray) (p : Nat) : List (List UInt8) := items one stop (s.size - p + 1) ((bl s).drop p)
theorem Whole.last {one : List UInt8 → Option Nat} (hf : Fair one) {stop : UInt8} {s : ByteArray} {p : Nat} (h : Whole one stop s p) (hp : ¬ p < s.size - 1) : p = s.size - 1 ∧ itemsZ one stop s p = [] := by
  obtain ⟨h, hl⟩ := h
  refine ⟨by omega, ?_⟩
  have hd := bl_drop s p hl
  rw [bl_drop_out s (p + 1) (by omega)] at hd
  unfold itemsZ
  rw [hd] at h ⊢
  obtain ⟨g, hg, c | ⟨b, r, j, m, e, hb, h1, h2, hk⟩⟩ := many_cases h
  · obtain ⟨r, e, _⟩ := c
    injection e with e1 e2
    rw [e1]
    exact items_stop _ _ _ _
  · exfalso
    have hj := hf.pos _ _ h1
    have hm := many_pos hf _ _ _ _ h2
    rw [List.length_drop] at hm
    simp only [List.length_singleton] at hj hm
    omega
theorem Whole.step {one : List UInt8 → Option Nat} (hf : Fair one) {stop : UInt8} {s : ByteArray} {p : Nat} (h : Whole one stop s p) (hp : p < s.size - 1) :
    ∃ q : Nat, p < q ∧ q ≤ s.size - 1 ∧ one ((bl s).drop p) = some (q - p) ∧ Whole one stop s q ∧ itemsZ one stop s p = bl (s.extract p q) :: itemsZ one stop s q := by
  obtain ⟨h, hl⟩ := h
  have hd := bl_drop s p hl
  obtain ⟨g, hg, c | ⟨b, r, j, m, e, hb, h1, h2, hk⟩⟩ := many_cases h
  · obtain ⟨r, e, hk⟩ := c
    exfalso
    omega
  · have hj := hf.pos _ _ h1
    rw [List.length_drop, bl_length] at hj
    have hm := many_pos hf _ _ _ _ h2
    have hdd : ((bl s).drop p).drop j = (bl s).drop (p + j) := by rw [List.drop_drop]
    rw [hdd] at h2 hm
    rw [List.length_drop, bl_length] at hm
    have hw : Whole one stop s (p + j) := by
      refine ⟨?_, by omega⟩
      have := many_fuel hf _ _ _ _ (s.size - (p + j) + 1) h2 (by omega)
      rw [this]
      congr 1
      omega
    refine ⟨p + j, by omega, by omega, by rw [Nat.add_sub_cancel_left]; exact h1, hw, ?_⟩
    unfold itemsZ
    have e1 : (bl s).drop p = b :: r := e
    have ht : ((bl s).drop p).take j = bl (s.extract p (p + j)) := by
      have := take_drop_extract s p (p + j)
      rw [Nat.add_sub_cancel_left] at this
      exact this
    have hst : items one stop (s.size - p + 1) ((bl s).drop p) = ((bl s).drop p).take j :: items one stop (s.size - p) (((bl s).drop p).drop j) := by
      rw [e1] at h1 ⊢
      exact items_step _ hb h1
    rw [hst, ht, hdd, items_fuel hf _ _ _ _ (s.size - p) hw.1 (by omega)]
end Go.Proofs.YtcpfhfdgfcilaaaGreatDoor.Val
