/-
  Several texts in one: Values as plain lists of bytes: where the value at a text's head ends, how deep it may go; what stands in it. · A value's kind and parts, as plain lists of bytes; values made of parts; that each is the other's way back. · Values in a text, by places: what stands where, as a reader by places meets it. · A nest's values by places; a value's kind and parts as texts; which values fit a node: plain facts.
-/
import Derived.WalkKit
import Derived.Test.YtcpfhfdgfcilaaaGreatDoorB02
import Derived.Test.YtcpfhfdgfcilaaaGreatDoorB01
namespace Go.Proofs.YtcpfhfdgfcilaaaGreatDoor.Val

/-- Where a sign stands first. -/
def seek (c : UInt8) : List UInt8 → Option Nat
  | [] => none
  | b :: l => if b = c then some 0 else (seek c l).map (· + 1)
theorem seek_some {c : UInt8} : ∀ {l : List UInt8} {k : Nat}, seek c l = some k → k < l.length ∧ l.getD k 0 = c ∧ ∀ j, j < k → l.getD j 0 ≠ c
  | [], k, h => by cases h
  | b :: l, k, h => by
    rw [seek] at h
    by_cases e : b = c
    · rw [if_pos e] at h
      injection h with h
      subst h
      exact ⟨Nat.succ_pos _, e, fun j hj => absurd hj (Nat.not_lt_zero j)⟩
    · rw [if_neg e] at h
      cases hs : seek c l with
      | none => rw [hs] at h; cases h
      | some j =>
        rw [hs] at h
        injection h with h
        subst h
        obtain ⟨h1, h2, h3⟩ := seek_some hs
        refine ⟨Nat.succ_lt_succ h1, h2, fun i hi => ?_⟩
        cases i with
        | zero => exact e
        | succ i => exact h3 i (Nat.lt_of_succ_lt_succ hi)
theorem seek_of {c : UInt8} : ∀ {l : List UInt8} {k : Nat}, k < l.length → l.getD k 0 = c → (∀ j, j < k → l.getD j 0 ≠ c) → seek c l = some k
  | [], k, h, _, _ => absurd h (Nat.not_lt_zero _)
  | b :: l, k, h, h1, h2 => by
    rw [seek]
    cases k with
    | zero => rw [if_pos (show b = c from h1)]
    | succ k =>
      rw [if_neg (show ¬ b = c from h2 0 (Nat.succ_pos _)), seek_of (Nat.lt_of_succ_lt_succ h) h1 (fun j hj => h2 (j + 1) (Nat.succ_lt_succ hj))]
      rfl
theorem seek_app {c : UInt8} : ∀ (p q : List UInt8), (∀ b ∈ p, b ≠ c) → seek c (p ++ c :: q) = some p.length
  | [], q, _ => by
    show seek c (c :: q) = some 0
    rw [seek, if_pos rfl]
  | b :: p, q, h => by
    show seek c (b :: (p ++ c :: q)) = _
    rw [seek, if_neg (h b List.mem_cons_self), seek_app p q (fun x hx => h x (List.mem_cons_of_mem _ hx))]
    rfl
theorem seek_ext {c : UInt8} {p : List UInt8} {k : Nat} (q : List UInt8) (h : seek c p = some k) : seek c (p ++ q) = some k := by
  obtain ⟨h1, h2, h3⟩ := seek_some h
  refine seek_of (by rw [List.length_append]; omega) ?_ ?_
  · rw [List.getD_eq_getElem?_getD, List.getElem?_append_left h1, ← List.getD_eq_getElem?_getD]
    exact h2
  · intro j hj
    rw [List.getD_eq_getElem?_getD, List.getElem?_append_left (by omega), ← List.getD_eq_getElem?_getD]
    exact h3 j hj
theorem seek_take {c : UInt8} {l : List UInt8} {k n : Nat} (h : seek c l = some k) (hn : k < n) : seek c (l.take n) = some k := by
  obtain ⟨h1, h2, h3⟩ := seek_some h
  refine seek_of (by rw [List.length_take]; omega) ?_ ?_
  · rw [List.getD_eq_getElem?_getD, List.getElem?_take, if_pos hn, ← List.getD_eq_getElem?_getD]
    exact h2
  · intro j hj
    rw [List.getD_eq_getElem?_getD, List.getElem?_take, if_pos (by omega), ← List.getD_eq_getElem?_getD]
    exact h3 j hj
/-- The digits up to a sign: how many, and their number. -/
def numAt (c : UInt8) (r : List UInt8) : Option (Nat × Int) :=
  match seek c r with
  | none => none
  | some j => (numOf (r.take j)).map fun x => (j, x)
theorem numAt_some {c : UInt8} {r : List UInt8} {j : Nat} {x : Int} : numAt c r = some (j, x) ↔ seek c r = some j ∧ numOf (r.take j) = some x := by
  unfold numAt
  cases h : seek c r with
  | none => exact ⟨fun c => by (cases c), fun c => by (cases c.1)⟩
  | some k =>
    constructor
    · intro e
      cases h2 : numOf (r.take k) with
      | none => simp only [h2] at e; cases e
      | some y =>
        simp only [h2, Option.map_some, Option.some.injEq, Prod.mk.injEq] at e
        obtain ⟨rfl, rfl⟩ := e
        exact ⟨rfl, h2⟩
    · rintro ⟨e, h2⟩
      injection e with e
      subst e
      simp only [h2, Option.map_some]
theorem take_app_le (p q : List UInt8) (j : Nat) (h : j ≤ p.length) : (p ++ q).take j = p.take j := by
  rw [List.take_append_of_le_length h]
theorem numAt_ext {c : UInt8} {p : List UInt8} {y : Nat × Int} (q : List UInt8) (h : numAt c p = some y) : numAt c (p ++ q) = some y := by
  obtain ⟨j, x⟩ := y
  rw [numAt_some] at *
  refine ⟨seek_ext q h.1, ?_⟩
  rw [take_app_le _ _ _ (Nat.le_of_lt (seek_some h.1).1)]
  exact h.2
theorem numAt_take {c : UInt8} {l : List UInt8} {j n : Nat} {x : Int} (h : numAt c l = some (j, x)) (hn : j < n) : numAt c (l.take n) = some (j, x) := by
  rw [numAt_some] at *
  refine ⟨seek_take h.1 hn, ?_⟩
  rw [List.take_take, Nat.min_eq_left (by omega)]
  exact h.2
theorem numAt_lt {c : UInt8} {l : List UInt8} {j : Nat} {x : Int} (h : numAt c l = some (j, x)) : j < l.length ∧ 1 ≤ j ∧ j ≤ 20 := by
  rw [numAt_some] at h
  have h1 := (seek_some h.1).1
  have h2 := numOf_length h.2
  rw [List.length_take, Nat.min_eq_left (by omega)] at h2
  omega
theorem numAt_made (c : UInt8) (x : Int) (q : List UInt8) (hx : in64 x) (hc : c = 58 ∨ c = 59) : numAt c (intD x ++ c :: q) = some ((intD x).length, x) := by
  rw [numAt_some]
  constructor
  · refine seek_app _ _ fun b hb e => ?_
    subst e
    rcases intD_signs x b hb with h | h
    · rcases hc with rfl | rfl <;> cases h
    · rcases hc with rfl | rfl
      · exact absurd h.2 (by decide)
      · exact absurd h.2 (by decide)
  · rw [take_app_le _ _ _ (Nat.le_refl _), List.take_length]
    exact numOf_intD x hx
/-- Values up to a sign: where that ends. -/
def many (one : List UInt8 → Option Nat) (stop : UInt8) : Nat → List UInt8 → Option Nat
  | 0, _ => none
  | _ + 1, [] => none
  | f + 1, b :: l => if b = stop then some 1 else
      match one (b :: l) with
      | none => none
      | some k => (many one stop f ((b :: l).drop k)).map (· + k)
/-- These values. -/
def items (one : List UInt8 → Option Nat) (stop : UInt8) : Nat → List UInt8 → List (List UInt8)
  | 0, _ => []
  | _ + 1, [] => []
  | f + 1, b :: l => if b = stop then [] else
      match one (b :: l) with
      | none => []
      | some k => (b :: l).take k :: items one stop f ((b :: l).drop k)
/-- What ends where it says, whatever follows. -/
structure Fair (one : List UInt8 → Option Nat) : Prop where
  pos : ∀ l k, one l = some k → 1 ≤ k ∧ k ≤ l.length
  ext : ∀ p q k, one p = some k → one (p ++ q) = some k
  cut : ∀ l k, one l = some k → one (l.take k) = some k
theorem many_step (one : List UInt8 → Option Nat) (stop : UInt8) (f : Nat) (b : UInt8) (l : List UInt8) (h : b ≠ stop) : many one stop (f + 1) (b :: l) = (one (b :: l)).bind fun k => (many one stop f ((b :: l).drop k)).map (· + k) := by
  rw [many, if_neg h]
  cases one (b :: l) <;> rfl
theorem many_stop (one : List UInt8 → Option Nat) (stop : UInt8) (f : Nat) (l : List UInt8) : many one stop (f + 1) (stop :: l) = some 1 := by
  rw [many, if_pos rfl]
/-- How many ends: by a stop, or by a value and what follows. -/
theorem many_cases {one : List UInt8 → Option Nat} {stop : UInt8} {f : Nat} {l : List UInt8} {k : Nat} (h : many one stop f l = some k) :
    ∃ g, f = g + 1 ∧ ((∃ r, l = stop :: r ∧ k = 1) ∨ ∃ b r j m, l = b :: r ∧ b ≠ stop ∧ one l = some j ∧ many one stop g (l.drop j) = some m ∧ k = m + j) := by
  cases f with
  | zero => cases h
  | succ g =>
    refine ⟨g, rfl, ?_⟩
    cases l with
    | nil => cases h
    | cons b r =>
      by_cases e : b = stop
      · subst e
        rw [many_stop] at h
        injection h with h
        exact .inl ⟨r, rfl, h.symm⟩
      · rw [many_step _ _ _ _ _ e] at h
        cases h1 : one (b :: r) with
        | none => rw [h1] at h; cases h
        | some j =>
          rw [h1] at h
          cases h2 : many one stop g ((b :: r).drop j) with
          | none => simp only [Option.bind_some, h2] at h; cases h
          | some m =>
            simp only [Option.bind_some, h2, Option.map_some, Option.some.injEq] at h
            exact .inr ⟨b, r, j, m, rfl, e, rfl, h2, h.symm⟩
theorem many_pos {one : List UInt8 → Option Nat} (ho : Fair one) (stop : UInt8) : ∀ (f : Nat) (l : List UInt8) (k : Nat), many one stop f l = some k → 1 ≤ k ∧ k ≤ l.length := by
  intro f
  induction f with
  | zero => intro l k h; cases h
  | succ f ih =>
    intro l k h
    obtain ⟨g, hg, h | ⟨b, r, j, m, rfl, _, h1, h2, rfl⟩⟩ := many_cases h
    · obtain ⟨r, rfl, rfl⟩ := h
      simp
    · injection hg with hg
      subst hg
      have h3 := ho.pos _ _ h1
      have h4 := ih _ _ h2
      rw [List.length_drop] at h4
      omega
theorem many_fuel {one : List UInt8 → Option Nat} (ho : Fair one) (stop : UInt8) : ∀ (f : Nat) (l : List UInt8) (k f' : Nat), many one stop f l = some k → k ≤ f' → many one stop f' l = some k := by
  intro f
  induction f with
  | zero => intro l k f' h; cases h
  | succ f ih =>
    intro l k f' h hf
    obtain ⟨g, hg, h | ⟨b, r, j, m, rfl, e, h1, h2, rfl⟩⟩ := many_cases h
    · obtain ⟨r, rfl, rfl⟩ := h
      obtain ⟨x, rfl⟩ : ∃ x, f' = x + 1 := ⟨f' - 1, by omega⟩
      rw [many_stop]
    · injection hg with hg
      subst hg
      have h3 := ho.pos _ _ h1
      obtain ⟨x, rfl⟩ : ∃ x, f' = x + 1 := ⟨f' - 1, by omega⟩
      rw [many_step _ _ _ _ _ e, h1, Option.bind_some, ih _ _ x h2 (by omega)]
      rfl
theorem drop_app_le (p q : List UInt8) (j : Nat) (h : j ≤ p.length) : (p ++ q).drop j = p.drop j ++ q := by
  rw [List.drop_append_of_le_length h]
theorem many_ext {one : List UInt8 → Option Nat} (ho : Fair one) (stop : UInt8) : ∀ (f : Nat) (p q : List UInt8) (k : Nat), many one stop f p = some k → many one stop f (p ++ q) = some k := by
  intro f
  induction f with
  | zero => intro p q k h; cases h
  | succ f ih =>
    intro p q k h
    obtain ⟨g, hg, h | ⟨b, r, j, m, rfl, e, h1, h2, rfl⟩⟩ := many_cases h
    · obtain ⟨r, rfl, rfl⟩ := h
      exact many_stop _ _ _ _
    · injection hg with hg
      subst hg
      have h3 := ho.pos _ _ h1
      have h4 := ho.ext _ q _ h1
      have h5 := ih _ q _ h2
      rw [← drop_app_le _ q j h3.2] at h5
      show many one stop (f + 1) (b :: (r ++ q)) = _
      rw [many_step _ _ _ _ _ e]
      rw [show b :: (r ++ q) = (b :: r) ++ q from rfl, h4, Option.bind_some, h5]
      rfl
theorem many_cut {one : List UInt8 → Option Nat} (ho : Fair one) (stop : UInt8) : ∀ (f : Nat) (l : List UInt8) (k : Nat), many one stop f l = some k → many one stop f (l.take k) = some k := by
  intro f
  induction f with
  | zero => intro l k h; cases h
  | succ f ih =>
    intro l k h
    obtain ⟨g, hg, h | ⟨b, r, j, m, rfl, e, h1, h2, rfl⟩⟩ := many_cases h
    · obtain ⟨r, rfl, rfl⟩ := h
      exact many_stop _ _ _ _
    · injection hg with hg
      subst hg
      have h3 := ho.pos _ _ h1
      have h4 := ih _ _ h2
      have h5 : one ((b :: r).take (m + j)) = some j := by
        have h6 := ho.ext _ (((b :: r).drop j).take m) _ (ho.cut _ _ h1)
        rw [show (b :: r).take j ++ ((b :: r).drop j).take m = (b :: r).take (m + j) from by rw [Nat.add_comm m j, List.take_add]] at h6
        exact h6
      have h7 : ((b :: r).take (m + j)).drop j = ((b :: r).drop j).take m := by rw [List.drop_take, Nat.add_sub_cancel]
      have h8 : (b :: r).take (m + j) = b :: r.take (m + j - 1) := by
        obtain ⟨x, hx⟩ : ∃ x, m + j = x + 1 := ⟨m + j - 1, by omega⟩
        rw [hx]
        rfl
      rw [← h7] at h4
      rw [h8] at h4 h5 ⊢
      rw [many_step _ _ _ _ _ e, h5, Option.bind_some, h4]
      rfl
theorem many_mono {one two : List UInt8 → Option Nat} (h12 : ∀ l k, one l = some k → two l = some k) (stop : UInt8) : ∀ (f : Nat) (l : List UInt8) (k : Nat), many one stop f l = some k → many two stop f l = some k := by
  intro f
  induction f with
  | zero => intro l k h; cases h
  | succ f ih =>
    intro l k h
    obtain ⟨g, hg, h | ⟨b, r, j, m, rfl, e, h1, h2, rfl⟩⟩ := many_cases h
    · obtain ⟨r, rfl, rfl⟩ := h
      exact many_stop _ _ _ _
    · injection hg with hg
      subst hg
      rw [many_step _ _ _ _ _ e, h12 _ _ h1, Option.bind_some, ih _ _ h2]
      rfl
/-- One value, what stands within by another rule. -/
def valStep (one : List UInt8 → Option Nat) : List UInt8 → Option Nat
  | [] => none
  | b :: r =>
    if b = 110 ∨ b = 116 ∨ b = 102 then some 1
    else if b = 105 then (numAt 59 r).map (fun p => p.1 + 2)
    else if b = 115 then (numAt 58 r).bind (fun p => if 0 ≤ p.2 ∧ p.2 ≤ (r.length : Int) - p.1 - 1 then some (p.1 + 2 + p.2.toNat) else none)
    else if b = 91 ∨ b = 123 then (many one (b + 2) (r.length + 1) r).map (· + 1)
    else none
/-- Where the value at a text's head ends; so deep it may go. -/
def val : Nat → List UInt8 → Option Nat
  | 0 => valStep (fun _ => none)
  | d + 1 => valStep (val d)
theorem fair_none : Fair (fun _ => none) := ⟨fun _ _ h => by (cases h), fun _ _ _ h => by (cases h), fun _ _ h => by (cases h)⟩
/-- The ways in which there is a value. -/
def Is (one : List UInt8 → Option Nat) (l : List UInt8) (k : Nat) : Prop :=
  (∃ b r, l = b :: r ∧ (b = 110 ∨ b = 116 ∨ b = 102) ∧ k = 1) ∨
  (∃ r j x, l = 105 :: r ∧ numAt 59 r = some (j, x) ∧ k = j + 2) ∨
  (∃ r j n, l = 115 :: r ∧ numAt 58 r = some (j, ((n : Nat) : Int)) ∧ j + 1 + n ≤ r.length ∧ k = j + 2 + n) ∨
  (∃ b r m f, l = b :: r ∧ (b = 91 ∨ b = 123) ∧ many one (b + 2) f r = some m ∧ k = m + 1)
theorem Is.word {one : List UInt8 → Option Nat} (b : UInt8) (r : List UInt8) (h : b = 110 ∨ b = 116 ∨ b = 102) : Is one (b :: r) 1 := .inl ⟨b, r, rfl, h, rfl⟩
theorem Is.int {one : List UInt8 → Option Nat} (r : List UInt8) (j : Nat) (x : Int) (h : numAt 59 r = some (j, x)) : Is one (105 :: r) (j + 2) := .inr (.inl ⟨r, j, x, rfl, h, rfl⟩)
theorem Is.bytes {one : List UInt8 → Option Nat} (r : List UInt8) (j n : Nat) (h : numAt 58 r = some (j, (n : Int))) (hn : j + 1 + n ≤ r.length) : Is one (115 :: r) (j + 2 + n) := .inr (.inr (.inl ⟨r, j, n, rfl, h, hn, rfl⟩))
theorem Is.nest {one : List UInt8 → Option Nat} (b : UInt8) (r : List UInt8) (m f : Nat) (hb : b = 91 ∨ b = 123) (h : many one (b + 2) f r = some m) : Is one (b :: r) (m + 1) := .inr (.inr (.inr ⟨b, r, m, f, rfl, hb, h, rfl⟩))
theorem valStep_is {one : List UInt8 → Option Nat} {l : List UInt8} {k : Nat} (h : valStep one l = some k) : Is one l k := by
  cases l with
  | nil => cases h
  | cons b r =>
    rw [valStep] at h
    by_cases c1 : b = 110 ∨ b = 116 ∨ b = 102
    · rw [if_pos c1] at h
      injection h with h
      subst h
      exact .word b r c1
    · rw [if_neg c1] at h
      by_cases c2 : b = 105
      · subst c2
        rw [if_pos rfl] at h
        cases h1 : numAt 59 r with
        | none => rw [h1] at h; cases h
        | some p =>
          obtain ⟨j, x⟩ := p
          rw [h1] at h
          injection h with h
          subst h
          exact .int r j x h1
      · rw [if_neg c2] at h
        by_cases c3 : b = 115
        · subst c3
          rw [if_pos rfl] at h
          cases h1 : numAt 58 r with
          | none => rw [h1] at h; cases h
          | some p =>
            obtain ⟨j, x⟩ := p
            rw [h1, Option.bind_some] at h
            simp only at h
            by_cases c : 0 ≤ x ∧ x ≤ (r.length : Int) - j - 1
            · rw [if_pos c] at h
              injection h with h
              subst h
              obtain ⟨n, rfl⟩ : ∃ n : Nat, x = (n : Int) := ⟨x.toNat, by omega⟩
              exact .bytes r j n h1 (by omega)
            · rw [if_neg c] at h; cases h
        · rw [if_neg c3] at h
          by_cases c4 : b = 91 ∨ b = 123
          · rw [if_pos c4] at h
            cases h1 : many one (b + 2) (r.length + 1) r with
            | none => rw [h1] at h; cases h
            | some m =>
              rw [h1] at h
              injection h with h
              subst h
              exact .nest b r m _ c4 h1
          · rw [if_neg c4] at h; cases h
theorem is_valStep {one : List UInt8 → Option Nat} (ho : Fair one) {l : List UInt8} {k : Nat} (h : Is one l k) : valStep one l = some k := by
  rcases h with ⟨b, r, rfl, hh, rfl⟩ | ⟨r, j, x, rfl, hh, rfl⟩ | ⟨r, j, n, rfl, hh, hn, rfl⟩ | ⟨b, r, m, f, rfl, hb, hh, rfl⟩
  · rw [valStep, if_pos hh]
  · rw [valStep, if_neg (by decide), if_pos rfl, hh]
    rfl
  · rw [valStep, if_neg (by decide), if_neg (by decide), if_pos rfl, hh, Option.bind_some]
    show (if 0 ≤ (n : Int) ∧ (n : Int) ≤ (r.length : Int) - j - 1 then some (j + 2 + (n : Int).toNat) else none) = _
    rw [if_pos ⟨by omega, by omega⟩, Int.toNat_natCast]
  · have hk := many_pos ho _ _ _ _ hh
    have e : many one (b + 2) (r.length + 1) r = some m := many_fuel ho _ _ _ _ _ hh (by omega)
    have c1 : ¬ (b = 110 ∨ b = 116 ∨ b = 102) := by rcases hb with rfl | rfl <;> decide
    have c2 : b ≠ 105 := by rcases hb with rfl | rfl <;> decide
    have c3 : b ≠ 115 := by rcases hb with rfl | rfl <;> decide
    rw [valStep, if_neg c1, if_neg c2, if_neg c3, if_pos hb, e]
    rfl
theorem fair_valStep {one : List UInt8 → Option Nat} (ho : Fair one) : Fair (valStep one) := by
  refine ⟨fun l k h => ?_, fun p q k h => ?_, fun l k h => ?_⟩
  · rcases valStep_is h with ⟨b, r, rfl, hh, rfl⟩ | ⟨r, j, x, rfl, hh, rfl⟩ | ⟨r, j, n, rfl, hh, hn, rfl⟩ | ⟨b, r, m, f, rfl, hb, hh, rfl⟩
    · simp
    · have := numAt_lt hh; simp; omega
    · have := numAt_lt hh; simp; omega
    · have := many_pos ho _ _ _ _ hh; simp; omega
  · refine is_valStep ho ?_
    rcases valStep_is h with ⟨b, r, rfl, hh, rfl⟩ | ⟨r, j, x, rfl, hh, rfl⟩ | ⟨r, j, n, rfl, hh, hn, rfl⟩ | ⟨b, r, m, f, rfl, hb, hh, rfl⟩
    · exact .word b _ hh
    · exact .int _ j x (numAt_ext q hh)
    · exact .bytes _ j n (numAt_ext q hh) (by show _ ≤ (r ++ q).length; rw [List.length_append]; omega)
    · exact .nest b _ m f hb (many_ext ho _ _ _ q _ hh)
  · refine is_valStep ho ?_
    rcases valStep_is h with ⟨b, r, rfl, hh, rfl⟩ | ⟨r, j, x, rfl, hh, rfl⟩ | ⟨r, j, n, rfl, hh, hn, rfl⟩ | ⟨b, r, m, f, rfl, hb, hh, rfl⟩
    · exact .word b _ hh
    · exact .int _ j x (numAt_take hh (by omega))
    · have hj := numAt_lt hh
      have e : (115 :: r).take (j + 2 + n) = 115 :: r.take (j + 1 + n) := by
        rw [show j + 2 + n = (j + 1 + n) + 1 from by omega]
        rfl
      rw [e]
      exact .bytes _ j n (numAt_take hh (by omega)) (by rw [List.length_take]; omega)
    · exact .nest b _ m f hb (many_cut ho _ _ _ _ hh)
theorem fair_val : ∀ d, Fair (val d)
  | 0 => fair_valStep fair_none
  | d + 1 => fair_valStep (fair_val d)
theorem valStep_mono {one two : List UInt8 → Option Nat} (ho : Fair two) (h12 : ∀ l k, one l = some k → two l = some k) (l : List UInt8) (k : Nat) (h : valStep one l = some k) : valStep two l = some k := by
  refine is_valStep ho ?_
  rcases valStep_is h with ⟨b, r, rfl, hh, rfl⟩ | ⟨r, j, x, rfl, hh, rfl⟩ | ⟨r, j, n, rfl, hh, hn, rfl⟩ | ⟨b, r, m, f, rfl, hb, hh, rfl⟩
  · exact .word b _ hh
  · exact .int _ j x hh
  · exact .bytes _ j n hh hn
  · exact .nest b _ m f hb (many_mono h12 _ _ _ _ hh)
/-- Deeper is no less. -/
theorem val_mono : ∀ (d : Nat) (l : List UInt8) (k : Nat), val d l = some k → val (d + 1) l = some k
  | 0, l, k, h => valStep_mono (fair_val 0) (fun _ _ c => by (cases c)) l k h
  | d + 1, l, k, h => valStep_mono (fair_val (d + 1)) (val_mono d) l k h
theorem val_up (d e : Nat) (h : d ≤ e) (l : List UInt8) (k : Nat) (hv : val d l = some k) : val e l = some k := by
  induction e with
  | zero =>
    obtain rfl : d = 0 := by omega
    exact hv
  | succ e ih =>
    by_cases c : d = e + 1
    · subst c; exact hv
    · exact val_mono e l k (ih (by omega))
/-- No value begins with a sign that ends one. -/
theorem val_head {d : Nat} {b : UInt8} {r : List UInt8} {k : Nat} (h : val d (b :: r) = some k) : b ≠ 93 ∧ b ≠ 125 := by
  have h' : ∃ one, valStep one (b :: r) = some k := by
    cases d with
    | zero => exact ⟨_, h⟩
    | succ d => exact ⟨_, h⟩
  obtain ⟨one, h'⟩ := h'
  rcases valStep_is h' with ⟨c, q, e, hh, _⟩ | ⟨q, j, x, e, hh, _⟩ | ⟨q, j, n, e, hh, hn, _⟩ | ⟨c, q, m, f, e, hb, hh, _⟩
  · injection e with e _
    subst e
    rcases hh with rfl | rfl | rfl <;> decide
  · injection e with e _
    subst e
    decide
  · injection e with e _
    subst e
    decide
  · injection e with e _
    subst e
    rcases hb with rfl | rfl <;> decide
end Go.Proofs.YtcpfhfdgfcilaaaGreatDoor.Val
namespace Go.Proofs.YtcpfhfdgfcilaaaGreatDoor.Val

theorem items_stop (one : List UInt8 → Option Nat) (stop : UInt8) (f : Nat) (l : List UInt8) : items one stop (f + 1) (stop :: l) = [] := by
  rw [items, if_pos rfl]
theorem items_step {one : List UInt8 → Option Nat} {stop : UInt8} (f : Nat) {b : UInt8} {l : List UInt8} {k : Nat} (h : b ≠ stop) (hk : one (b :: l) = some k) : items one stop (f + 1) (b :: l) = (b :: l).take k :: items one stop f ((b :: l).drop k) := by
  rw [items, if_neg h, hk]
theorem items_flat {one : List UInt8 → Option Nat} (stop : UInt8) : ∀ (f : Nat) (l : List UInt8) (k : Nat), many one stop f l = some k → (items one stop f l).flatten ++ [stop] = l.take k := by
  intro f
  induction f with
  | zero => intro l k h; cases h
  | succ f ih =>
    intro l k h
    obtain ⟨g, hg, h | ⟨b, r, j, m, rfl, e, h1, h2, rfl⟩⟩ := many_cases h
    · obtain ⟨r, rfl, rfl⟩ := h
      rw [items_stop]
      rfl
    · injection hg with hg
      subst hg
      rw [items_step f e h1, List.flatten_cons, List.append_assoc, ih _ _ h2, Nat.add_comm m j, List.take_add]
theorem items_each {one : List UInt8 → Option Nat} (ho : Fair one) (stop : UInt8) : ∀ (f : Nat) (l : List UInt8) (k : Nat), many one stop f l = some k → ∀ p ∈ items one stop f l, one p = some p.length := by
  intro f
  induction f with
  | zero => intro l k h; cases h
  | succ f ih =>
    intro l k h p hp
    obtain ⟨g, hg, h | ⟨b, r, j, m, rfl, e, h1, h2, rfl⟩⟩ := many_cases h
    · obtain ⟨r, rfl, rfl⟩ := h
      rw [items_stop] at hp
      cases hp
    · injection hg with hg
      subst hg
      rw [items_step f e h1] at hp
      rcases List.mem_cons.1 hp with rfl | hp
      · rw [List.length_take, Nat.min_eq_left (ho.pos _ _ h1).2]
        exact ho.cut _ _ h1
      · exact ih _ _ h2 p hp
theorem items_fuel {one : List UInt8 → Option Nat} (ho : Fair one) (stop : UInt8) : ∀ (f : Nat) (l : List UInt8) (k f' : Nat), many one stop f l = some k → k ≤ f' → items one stop f' l = items one stop f l := by
  intro f
  induction f with
  | zero => intro l k f' h; cases h
  | succ f ih =>
    intro l k f' h hf
    obtain ⟨g, hg, h | ⟨b, r, j, m, rfl, e, h1, h2, rfl⟩⟩ := many_cases h
    · obtain ⟨r, rfl, rfl⟩ := h
      obtain ⟨x, rfl⟩ : ∃ x, f' = x + 1 := ⟨f' - 1, by omega⟩
      rw [items_stop, items_stop]
    · injection hg with hg
      subst hg
      have h3 := ho.pos _ _ h1
      obtain ⟨x, rfl⟩ : ∃ x, f' = x + 1 := ⟨f' - 1, by omega⟩
      rw [items_step x e h1, items_step f e h1, ih _ _ x h2 (by omega)]
/-- Values one behind the other, and a stop: these are the values. -/
theorem many_made {one : List UInt8 → Option Nat} (ho : Fair one) (stop : UInt8) (q : List UInt8) : ∀ (vs : List (List UInt8)), (∀ v ∈ vs, one v = some v.length ∧ v.head? ≠ some stop) →
    many one stop (vs.length + 1) (vs.flatten ++ stop :: q) = some (vs.flatten.length + 1) ∧ items one stop (vs.length + 1) (vs.flatten ++ stop :: q) = vs
  | [], _ => ⟨many_stop _ _ _ _, items_stop _ _ _ _⟩
  | v :: vs, hv => by
    obtain ⟨h1, h2⟩ := hv v List.mem_cons_self
    obtain ⟨ih1, ih2⟩ := many_made ho stop q vs (fun x hx => hv x (List.mem_cons_of_mem _ hx))
    have hp := ho.pos _ _ h1
    have h3 := ho.ext _ (vs.flatten ++ stop :: q) _ h1
    have e : (v :: vs).flatten ++ stop :: q = v ++ (vs.flatten ++ stop :: q) := by rw [List.flatten_cons, List.append_assoc]
    have hd : (v ++ (vs.flatten ++ stop :: q)).drop v.length = vs.flatten ++ stop :: q := by
      rw [drop_app_le _ _ _ (Nat.le_refl _), List.drop_length]
      rfl
    have ht : (v ++ (vs.flatten ++ stop :: q)).take v.length = v := by
      rw [take_app_le _ _ _ (Nat.le_refl _), List.take_length]
    cases v with
    | nil => simp at hp
    | cons b v =>
      have hb : b ≠ stop := fun c => h2 (by rw [c]; rfl)
      rw [e]
      constructor
      · show many one stop (vs.length + 1 + 1) (b :: (v ++ (vs.flatten ++ stop :: q))) = _
        rw [many_step _ _ _ _ _ hb]
        rw [show b :: (v ++ (vs.flatten ++ stop :: q)) = (b :: v) ++ (vs.flatten ++ stop :: q) from rfl, h3, Option.bind_some, hd, ih1]
        rw [List.flatten_cons, List.length_append, Option.map_some, show vs.flatten.length + 1 + (b :: v).length = (b :: v).length + vs.flatten.length + 1 from by omega]
      · show items one stop (vs.length + 1 + 1) (b :: (v ++ (vs.flatten ++ stop :: q))) = _
        rw [items_step (l := v ++ (vs.flatten ++ stop :: q)) (k := (b :: v).length) _ hb h3]
        rw [show b :: (v ++ (vs.flatten ++ stop :: q)) = (b :: v) ++ (vs.flatten ++ stop :: q) from rfl, hd, ht, ih2]
/-- The makers. -/
def nullM : List UInt8 := [110]
def intM (x : Int) : List UInt8 := 105 :: (intD x ++ [59])
def boolM (b : Bool) : List UInt8 := if b then [116] else [102]
def bytesM (s : List UInt8) : List UInt8 := 115 :: (dig s.length ++ 58 :: s)
def listM (vs : List (List UInt8)) : List UInt8 := 91 :: (vs.flatten ++ [93])
def structM (vs : List (List UInt8)) : List UInt8 := 123 :: (vs.flatten ++ [125])
theorem val_is {d : Nat} {l : List UInt8} {k : Nat} (h : Is (fun _ => none) l k) : val d l = some k := val_up 0 d (Nat.zero_le _) l k (is_valStep fair_none h)
theorem val_null (d : Nat) : val d nullM = some nullM.length := val_is (.word 110 [] (.inl rfl))
theorem val_int (d : Nat) (x : Int) (h : in64 x) : val d (intM x) = some (intM x).length := by
  have := numAt_made 59 x [] h (.inr rfl)
  have e : (intM x).length = (intD x).length + 2 := by simp [intM]
  rw [e]
  exact val_is (.int _ _ x this)
theorem val_bool (d : Nat) (b : Bool) : val d (boolM b) = some (boolM b).length := by
  cases b
  · exact val_is (.word 102 [] (.inr (.inr rfl)))
  · exact val_is (.word 116 [] (.inr (.inl rfl)))
theorem intD_nat (n : Nat) : intD (n : Int) = dig n := by
  unfold intD
  rw [if_pos (by omega), Int.toNat_natCast]
theorem val_bytes (d : Nat) (s : List UInt8) (h : s.length ≤ 9223372036854775807) : val d (bytesM s) = some (bytesM s).length := by
  have := numAt_made 58 (s.length : Int) s ⟨by omega, by omega⟩ (.inl rfl)
  rw [intD_nat] at this
  have e : (bytesM s).length = (dig s.length).length + 2 + s.length := by simp [bytesM]; omega
  rw [e]
  exact val_is (.bytes _ _ s.length this (by simp; omega))
theorem val_nest (d : Nat) (b : UInt8) (hb : b = 91 ∨ b = 123) (vs : List (List UInt8)) (h : ∀ v ∈ vs, val d v = some v.length) : val (d + 1) (b :: (vs.flatten ++ [b + 2])) = some (b :: (vs.flatten ++ [b + 2])).length ∧ items (val d) (b + 2) (vs.flatten.length + 2) (vs.flatten ++ [b + 2]) = vs := by
  have hh : ∀ v ∈ vs, val d v = some v.length ∧ v.head? ≠ some (b + 2) := by
    intro v hv
    refine ⟨h v hv, fun c => ?_⟩
    cases v with
    | nil => cases c
    | cons x v =>
      have := val_head (h _ hv)
      have hx : x = b + 2 := by simpa using c
      rcases hb with rfl | rfl
      · exact this.1 hx
      · exact this.2 hx
  obtain ⟨h1, h2⟩ := many_made (fair_val d) (b + 2) [] vs hh
  refine ⟨?_, ?_⟩
  · have e : (b :: (vs.flatten ++ [b + 2])).length = vs.flatten.length + 1 + 1 := by simp
    rw [e]
    exact is_valStep (fair_val d) (.nest b _ _ _ hb h1)
  · rw [items_fuel (fair_val d) _ _ _ _ _ h1 (by omega)]
    exact h2
theorem val_list (d : Nat) (vs : List (List UInt8)) (h : ∀ v ∈ vs, val d v = some v.length) : val (d + 1) (listM vs) = some (listM vs).length := (val_nest d 91 (.inl rfl) vs h).1
theorem val_struct (d : Nat) (vs : List (List UInt8)) (h : ∀ v ∈ vs, val d v = some v.length) : val (d + 1) (structM vs) = some (structM vs).length := (val_nest d 123 (.inr rfl) vs h).1
/-- Is a text a value's, no longer and no deeper than it may be? -/
def isVal (l : List UInt8) : Prop := l.length ≤ 65536 ∧ val 4 l = some l.length
/-- A value's kind and parts, by its first byte. -/
def tell : List UInt8 → Option (Int × List (List UInt8))
  | [] => none
  | b :: r =>
    if b = 110 then some (-1, [])
    else if b = 105 then some (0, [r.dropLast])
    else if b = 115 then (seek 58 r).map fun j => (2, [r.drop (j + 1)])
    else if b = 91 then some (3, items (val 3) 93 (r.length + 1) r)
    else if b = 123 then some (4, items (val 3) 125 (r.length + 1) r)
    else some (1, [b :: r])
theorem tell_n (r : List UInt8) : tell (110 :: r) = some (-1, []) := by rw [tell, if_pos rfl]
theorem tell_i (r : List UInt8) : tell (105 :: r) = some (0, [r.dropLast]) := by rw [tell, if_neg (by decide), if_pos rfl]
theorem tell_s (r : List UInt8) : tell (115 :: r) = (seek 58 r).map fun j => (2, [r.drop (j + 1)]) := by rw [tell, if_neg (by decide), if_neg (by decide), if_pos rfl]
theorem tell_l (r : List UInt8) : tell (91 :: r) = some (3, items (val 3) 93 (r.length + 1) r) := by rw [tell, if_neg (by decide), if_neg (by decide), if_neg (by decide), if_pos rfl]
theorem tell_o (r : List UInt8) : tell (123 :: r) = some (4, items (val 3) 125 (r.length + 1) r) := by rw [tell, if_neg (by decide), if_neg (by decide), if_neg (by decide), if_neg (by decide), if_pos rfl]
theorem tell_t (r : List UInt8) : tell (116 :: r) = some (1, [116 :: r]) := by rw [tell, if_neg (by decide), if_neg (by decide), if_neg (by decide), if_neg (by decide), if_neg (by decide)]
theorem tell_f (r : List UInt8) : tell (102 :: r) = some (1, [102 :: r]) := by rw [tell, if_neg (by decide), if_neg (by decide), if_neg (by decide), if_neg (by decide), if_neg (by decide)]
/-- A value's kind and parts. -/
def partsM (l : List UInt8) : Option (Int × List (List UInt8)) := if l.length ≤ 65536 ∧ val 4 l = some l.length then tell l else none
theorem partsM_none {l : List UInt8} (h : ¬ isVal l) : partsM l = none := by
  unfold partsM
  unfold isVal at h
  rw [if_neg h]
theorem partsM_tell {l : List UInt8} (h : isVal l) : partsM l = tell l := by
  unfold partsM
  unfold isVal at h
  rw [if_pos h]
/-- A value is what its parts make. -/
def Made (k : Int) (ps : List (List UInt8)) (l : List UInt8) : Prop :=
  (k = -1 ∧ ps = [] ∧ l = nullM) ∨ (∃ x, in64 x ∧ k = 0 ∧ ps = [intD x] ∧ l = intM x) ∨ (∃ b, k = 1 ∧ ps = [boolM b] ∧ l = boolM b) ∨ (∃ s, k = 2 ∧ ps = [s] ∧ l = bytesM s) ∨ (k = 3 ∧ l = listM ps ∧ ∀ p ∈ ps, val 3 p = some p.length) ∨ (k = 4 ∧ l = structM ps ∧ ∀ p ∈ ps, val 3 p = some p.length)
theorem take_of_nest {b : UInt8} {r : List UInt8} {m f : Nat} (h : many (val 3) (b + 2) f r = some m) (hm : m + 1 = (b :: r).length) : (items (val 3) (b + 2) (r.length + 1) r).flatten ++ [b + 2] = r ∧ ∀ p ∈ items (val 3) (b + 2) (r.length + 1) r, val 3 p = some p.length := by
  have hl : m = r.length := by simpa using hm
  have h1 := many_fuel (fair_val 3) _ _ _ _ (r.length + 1) h (by omega)
  have h2 := items_flat _ _ _ _ h1
  rw [hl, List.take_length] at h2
  exact ⟨h2, items_each (fair_val 3) _ _ _ _ h1⟩
theorem parts_made {l : List UInt8} (h : isVal l) : ∃ k ps, partsM l = some (k, ps) ∧ Made k ps l := by
  have hv : valStep (val 3) l = some l.length := h.2
  rw [partsM_tell h]
  rcases valStep_is hv with ⟨b, r, rfl, hh, hk⟩ | ⟨r, j, x, rfl, hh, hk⟩ | ⟨r, j, n, rfl, hh, hn, hk⟩ | ⟨b, r, m, f, rfl, hb, hh, hk⟩
  · have hr : r = [] := List.eq_nil_of_length_eq_zero (by simpa using hk)
    subst hr
    rcases hh with rfl | rfl | rfl
    · exact ⟨-1, [], tell_n _, .inl ⟨rfl, rfl, rfl⟩⟩
    · exact ⟨1, [[116]], tell_t _, .inr (.inr (.inl ⟨true, rfl, rfl, rfl⟩))⟩
    · exact ⟨1, [[102]], tell_f _, .inr (.inr (.inl ⟨false, rfl, rfl, rfl⟩))⟩
  · rw [numAt_some] at hh
    obtain ⟨h1, h2⟩ := hh
    obtain ⟨h3, h4⟩ := numOf_some.1 h2
    obtain ⟨h5, h6, _⟩ := seek_some h1
    have hl : r.length = j + 1 := by
      rw [List.length_cons] at hk
      omega
    have hr : r = intD x ++ [59] := by
      have : r = r.take j ++ r.drop j := (List.take_append_drop j r).symm
      rw [this, h4, List.drop_eq_getElem_cons h5, List.drop_eq_nil_of_le (by omega)]
      rw [List.getD_eq_getElem?_getD, List.getElem?_eq_getElem h5] at h6
      have h7 : r[j] = 59 := h6
      rw [h7]
    refine ⟨0, [intD x], ?_, .inr (.inl ⟨x, h3, rfl, rfl, by rw [hr]; rfl⟩)⟩
    rw [tell_i, hr, List.dropLast_concat]
  · rw [numAt_some] at hh
    obtain ⟨h1, h2⟩ := hh
    obtain ⟨h3, h4⟩ := numOf_some.1 h2
    obtain ⟨h5, h6, _⟩ := seek_some h1
    have hl : (r.drop (j + 1)).length = n := by
      rw [List.length_drop]
      rw [List.length_cons] at hk
      omega
    refine ⟨2, [r.drop (j + 1)], ?_, .inr (.inr (.inr (.inl ⟨r.drop (j + 1), rfl, rfl, ?_⟩)))⟩
    · rw [tell_s, h1]
      rfl
    · unfold bytesM
      rw [hl, ← intD_nat, h4]
      rw [List.getD_eq_getElem?_getD, List.getElem?_eq_getElem h5] at h6
      have h7 : r[j] = 58 := h6
      rw [← h7, ← List.drop_eq_getElem_cons h5, List.take_append_drop]
  · obtain ⟨h1, h2⟩ := take_of_nest hh hk.symm
    rcases hb with rfl | rfl
    · refine ⟨3, _, tell_l _, .inr (.inr (.inr (.inr (.inl ⟨rfl, ?_, h2⟩))))⟩
      unfold listM
      rw [show (93 : UInt8) = 91 + 2 from rfl, h1]
    · refine ⟨4, _, tell_o _, .inr (.inr (.inr (.inr (.inr ⟨rfl, ?_, h2⟩))))⟩
      unfold structM
      rw [show (125 : UInt8) = 123 + 2 from rfl, h1]
/-- Of what is made the parts are told. -/
theorem parts_int (x : Int) (h : in64 x) : partsM (intM x) = some (0, [intD x]) := by
  have hl := length_intD x h
  rw [partsM_tell ⟨by simp [intM]; omega, val_int 4 x h⟩]
  unfold intM
  rw [tell_i, List.dropLast_concat]
theorem parts_bytes (s : List UInt8) (hl : (bytesM s).length ≤ 65536) : partsM (bytesM s) = some (2, [s]) := by
  have h : s.length ≤ (bytesM s).length := by simp [bytesM]; omega
  rw [partsM_tell ⟨hl, val_bytes 4 s (by omega)⟩]
  unfold bytesM
  have hs : seek 58 (dig s.length ++ 58 :: s) = some (dig s.length).length := by
    refine seek_app _ _ fun b hb e => ?_
    have := dig_digit _ b hb
    rw [e] at this
    exact absurd this.2 (by decide)
  rw [tell_s, hs, Option.map_some, show (dig s.length ++ 58 :: s).drop ((dig s.length).length + 1) = s from by
    rw [show dig s.length ++ 58 :: s = (dig s.length ++ [58]) ++ s from by simp, List.drop_append_of_le_length (by simp), List.drop_eq_nil_of_le (by simp)]
    rfl]
theorem parts_null : partsM nullM = some (-1, []) := by
  rw [partsM_tell ⟨by decide, val_null 4⟩]
  exact tell_n _
theorem parts_bool (b : Bool) : partsM (boolM b) = some (1, [boolM b]) := by
  rw [partsM_tell ⟨by cases b <;> decide, val_bool 4 b⟩]
  cases b
  · exact tell_f _
  · exact tell_t _
theorem parts_list (vs : List (List UInt8)) (h : ∀ v ∈ vs, val 3 v = some v.length) (hl : (listM vs).length ≤ 65536) : partsM (listM vs) = some (3, vs) := by
  rw [partsM_tell ⟨hl, val_list 3 vs h⟩]
  unfold listM
  rw [tell_l, show (vs.flatten ++ [(93 : UInt8)]).length + 1 = vs.flatten.length + 2 from by simp]
  have := (val_nest 3 91 (.inl rfl) vs h).2
  rw [show (93 : UInt8) = 91 + 2 from rfl, this]
theorem parts_struct (vs : List (List UInt8)) (h : ∀ v ∈ vs, val 3 v = some v.length) (hl : (structM vs).length ≤ 65536) : partsM (structM vs) = some (4, vs) := by
  rw [partsM_tell ⟨hl, val_struct 3 vs h⟩]
  unfold structM
  rw [tell_o, show (vs.flatten ++ [(125 : UInt8)]).length + 1 = vs.flatten.length + 2 from by simp]
  have := (val_nest 3 123 (.inr rfl) vs h).2
  rw [show (125 : UInt8) = 123 + 2 from rfl, this]
end Go.Proofs.YtcpfhfdgfcilaaaGreatDoor.Val
namespace Go.Proofs.YtcpfhfdgfcilaaaGreatDoor.Val

/-- A text's bytes. -/
def bl (s : ByteArray) : List UInt8 := s.data.toList
theorem bl_length (s : ByteArray) : (bl s).length = s.size := Array.length_toList
theorem bl_inj {s t : ByteArray} (h : bl s = bl t) : s = t := ByteArray.ext (Array.toList_inj.1 h)
theorem bl_append (s t : ByteArray) : bl (s ++ t) = bl s ++ bl t := by
  unfold bl
  rw [ByteArray.data_append, Array.toList_append]
theorem bl_extract (s : ByteArray) (a b : Nat) : bl (s.extract a b) = ((bl s).take b).drop a := by
  unfold bl
  rw [ByteArray.data_extract, Array.toList_extract, List.extract_eq_take_drop, List.drop_take]
theorem bl_mk (l : List UInt8) : bl ⟨l.toArray⟩ = l := by
  unfold bl
  exact List.toList_toArray
theorem bl_back (s : ByteArray) : (⟨(bl s).toArray⟩ : ByteArray) = s := bl_inj (bl_mk _)
theorem bl_at (s : ByteArray) (i : Nat) (h : i < s.size) : s[i] = (bl s).getD i 0 := by
  unfold bl
  show s.data[i] = _
  rw [List.getD_eq_getElem?_getD, Array.getElem?_toList, Array.getElem?_eq_getElem h]
  rfl
theorem bl_drop (s : ByteArray) (p : Nat) (h : p < s.size) : (bl s).drop p = s[p] :: (bl s).drop (p + 1) := by
  have h' : p < (bl s).length := by rw [bl_length]; exact h
  rw [List.drop_eq_getElem_cons h', bl_at s p h, List.getD_eq_getElem?_getD, List.getElem?_eq_getElem h']
  rfl
theorem bl_drop_out (s : ByteArray) (p : Nat) (h : s.size ≤ p) : (bl s).drop p = [] := List.drop_eq_nil_of_le (by rw [bl_length]; exact h)
/-- A byte as a number is that byte. -/
theorem byte_eq {b : UInt8} {n : Nat} (hn : n < 256) : ((b.toNat : Int) = (n : Int)) ↔ b = UInt8.ofNat n := by
  constructor
  · intro h
    have : b.toNat = n := by omega
    rw [← this]
    simp
  · rintro rfl
    rw [byte_nat n hn]
/-- Where the value at a place ends; -1: there is none. -/
def endO (one : List UInt8 → Option Nat) (s : ByteArray) (p : Nat) : Int :=
  match one ((bl s).drop p) with
  | none => -1
  | some k => ((p + k : Nat) : Int)
def endZ (d : Nat) (s : ByteArray) (p : Nat) : Int := endO (val d) s p
/-- Where the values at a place, and a stop, end; -1: they do not. -/
def manyZ (one : List UInt8 → Option Nat) (stop : UInt8) (s : ByteArray) (p : Nat) : Int :=
  match many one stop (s.size - p + 1) ((bl s).drop p) with
  | none => -1
  | some k => ((p + k : Nat) : Int)
theorem endO_none {one : List UInt8 → Option Nat} {s : ByteArray} {p : Nat} (h : one ((bl s).drop p) = none) : endO one s p = -1 := by
  unfold endO
  rw [h]
theorem endO_some {one : List UInt8 → Option Nat} {s : ByteArray} {p k : Nat} (h : one ((bl s).drop p) = some k) : endO one s p = ((p + k : Nat) : Int) := by
  unfold endO
  rw [h]
theorem endO_cases {one : List UInt8 → Option Nat} (ho : Fair one) (s : ByteArray) (p : Nat) (hp : p < s.size) : (endO one s p = -1 ∧ one ((bl s).drop p) = none) ∨ ∃ q : Nat, endO one s p = (q : Int) ∧ p < q ∧ q ≤ s.size ∧ one ((bl s).drop p) = some (q - p) := by
  cases h : one ((bl s).drop p) with
  | none => exact .inl ⟨endO_none h, rfl⟩
  | some k =>
    have := ho.pos _ _ h
    rw [List.length_drop, bl_length] at this
    exact .inr ⟨p + k, endO_some h, by omega, by omega, by rw [Nat.add_sub_cancel_left]⟩
theorem manyZ_out {one : List UInt8 → Option Nat} {stop : UInt8} {s : ByteArray} {p : Nat} (h : s.size ≤ p) : manyZ one stop s p = -1 := by
  unfold manyZ
  rw [bl_drop_out s p h]
  rfl
theorem manyZ_stop {one : List UInt8 → Option Nat} {stop : UInt8} {s : ByteArray} {p : Nat} (h : p < s.size) (hs : s[p] = stop) : manyZ one stop s p = ((p + 1 : Nat) : Int) := by
  unfold manyZ
  rw [bl_drop s p h, hs, many_stop]
theorem manyZ_bad {one : List UInt8 → Option Nat} {stop : UInt8} {s : ByteArray} {p : Nat} (h : p < s.size) (hs : s[p] ≠ stop) (ho : one ((bl s).drop p) = none) : manyZ one stop s p = -1 := by
  unfold manyZ
  rw [bl_drop s p h] at ho ⊢
  rw [many_step _ _ _ _ _ hs, ho]
  rfl
theorem manyZ_step {one : List UInt8 → Option Nat} (hf : Fair one) {stop : UInt8} {s : ByteArray} {p q : Nat} (h : p < s.size) (hs : s[p] ≠ stop) (hpq : p < q) (hq : q ≤ s.size) (ho : one ((bl s).drop p) = some (q - p)) : manyZ one stop s p = manyZ one stop s q := by
  have hd : ((bl s).drop p).drop (q - p) = (bl s).drop q := by rw [List.drop_drop, show p + (q - p) = q from by omega]
  unfold manyZ
  have e : many one stop (s.size - p + 1) ((bl s).drop p) = (many one stop (s.size - p) ((bl s).drop q)).map (· + (q - p)) := by
    rw [bl_drop s p h] at ho hd ⊢
    rw [many_step _ _ _ _ _ hs, ho, Option.bind_some, hd]
  rw [e]
  have hfu : many one stop (s.size - p) ((bl s).drop q) = many one stop (s.size - q + 1) ((bl s).drop q) := by
    cases h1 : many one stop (s.size - p) ((bl s).drop q) with
    | none =>
      cases h2 : many one stop (s.size - q + 1) ((bl s).drop q) with
      | none => rfl
      | some k =>
        have hk := many_pos hf _ _ _ _ h2
        rw [List.length_drop, bl_length] at hk
        have := many_fuel hf _ _ _ _ (s.size - p) h2 (by omega)
        rw [this] at h1
        cases h1
    | some k =>
      have hk := many_pos hf _ _ _ _ h1
      rw [List.length_drop, bl_length] at hk
      exact (many_fuel hf _ _ _ _ (s.size - q + 1) h1 (by omega)).symm
  rw [hfu]
  cases many one stop (s.size - q + 1) ((bl s).drop q) with
  | none => rfl
  | some k =>
    show ((p + (k + (q - p)) : Nat) : Int) = ((q + k : Nat) : Int)
    omega
/-- What may stand within at a depth: one less. -/
def below : Nat → List UInt8 → Option Nat
  | 0 => fun _ => none
  | d + 1 => val d
theorem val_below (d : Nat) : val d = valStep (below d) := by cases d <;> rfl
theorem fair_below : ∀ d, Fair (below d)
  | 0 => fair_none
  | d + 1 => fair_val d
theorem endZ_out {d : Nat} {s : ByteArray} {p : Nat} (h : s.size ≤ p) : endZ d s p = -1 := by
  refine endO_none ?_
  rw [bl_drop_out s p h, val_below]
  rfl
theorem endZ_word {d : Nat} {s : ByteArray} {p : Nat} (h : p < s.size) (hb : s[p] = 110 ∨ s[p] = 116 ∨ s[p] = 102) : endZ d s p = ((p + 1 : Nat) : Int) := by
  refine endO_some ?_
  rw [bl_drop s p h]
  exact val_is (.word _ _ hb)
theorem endZ_other {d : Nat} {s : ByteArray} {p : Nat} (h : p < s.size) (hb : s[p] ≠ 110 ∧ s[p] ≠ 116 ∧ s[p] ≠ 102 ∧ s[p] ≠ 105 ∧ s[p] ≠ 115 ∧ s[p] ≠ 91 ∧ s[p] ≠ 123) : endZ d s p = -1 := by
  obtain ⟨h1, h2, h3, h4, h5, h6, h7⟩ := hb
  refine endO_none ?_
  rw [bl_drop s p h, val_below, valStep, if_neg (fun c => by rcases c with c | c | c <;> contradiction), if_neg h4, if_neg h5, if_neg (fun c => by rcases c with c | c <;> contradiction)]
theorem endZ_nest {d : Nat} {s : ByteArray} {p : Nat} (h : p < s.size) (hb : s[p] = 91 ∨ s[p] = 123) : endZ d s p = manyZ (below d) (s[p] + 2) s (p + 1) := by
  unfold endZ endO manyZ
  rw [bl_drop s p h, val_below, valStep]
  have c1 : ¬ (s[p] = 110 ∨ s[p] = 116 ∨ s[p] = 102) := by rcases hb with e | e <;> rw [e] <;> decide
  have c2 : s[p] ≠ 105 := by rcases hb with e | e <;> rw [e] <;> decide
  have c3 : s[p] ≠ 115 := by rcases hb with e | e <;> rw [e] <;> decide
  rw [if_neg c1, if_neg c2, if_neg c3, if_pos hb]
  rw [List.length_drop, bl_length]
  cases many (below d) (s[p] + 2) (s.size - (p + 1) + 1) ((bl s).drop (p + 1)) with
  | none => rfl
  | some k =>
    show ((p + (k + 1) : Nat) : Int) = ((p + 1 + k : Nat) : Int)
    omega
/-- A sign's first place from a place on. -/
def FirstAt (s : ByteArray) (p : Nat) (c : UInt8) (k : Nat) : Prop := p ≤ k ∧ k < s.size ∧ (bl s).getD k 0 = c ∧ ∀ j, p ≤ j → j < k → (bl s).getD j 0 ≠ c
theorem getD_drop (l : List UInt8) (p j : Nat) : (l.drop p).getD j 0 = l.getD (p + j) 0 := by
  rw [List.getD_eq_getElem?_getD, List.getElem?_drop, ← List.getD_eq_getElem?_getD]
theorem seek_first {s : ByteArray} {p k : Nat} {c : UInt8} (h : FirstAt s p c k) : seek c ((bl s).drop p) = some (k - p) := by
  obtain ⟨h1, h2, h3, h4⟩ := h
  refine seek_of (by rw [List.length_drop, bl_length]; omega) ?_ ?_
  · rw [getD_drop, show p + (k - p) = k from by omega]
    exact h3
  · intro j hj
    rw [getD_drop]
    exact h4 (p + j) (by omega) (by omega)
theorem first_seek {s : ByteArray} {p k : Nat} {c : UInt8} (h : seek c ((bl s).drop p) = some k) : FirstAt s p c (p + k) := by
  obtain ⟨h1, h2, h3⟩ := seek_some h
  rw [List.length_drop, bl_length] at h1
  rw [getD_drop] at h2
  refine ⟨by omega, by omega, h2, fun j hj hk => ?_⟩
  have := h3 (j - p) (by omega)
  rw [getD_drop, show p + (j - p) = j from by omega] at this
  exact this
theorem take_drop_extract (s : ByteArray) (p k : Nat) : ((bl s).drop p).take (k - p) = bl (s.extract p k) := by
  rw [bl_extract, List.drop_take]
theorem numAt_first {s : ByteArray} {p k : Nat} {c : UInt8} (h : FirstAt s p c k) : numAt c ((bl s).drop p) = (numOf (bl (s.extract p k))).map fun x => (k - p, x) := by
  unfold numAt
  rw [seek_first h]
  simp only
  rw [take_drop_extract s p k]
/-- No such sign, or only far off: no digits up to one. -/
theorem numAt_far {s : ByteArray} {p : Nat} {c : UInt8} (h : ∀ j, p ≤ j → j < s.size → j < p + 21 → (bl s).getD j 0 ≠ c) : numAt c ((bl s).drop p) = none := by
  cases e : numAt c ((bl s).drop p) with
  | none => rfl
  | some y =>
    obtain ⟨j, x⟩ := y
    exfalso
    have h1 := numAt_lt e
    rw [numAt_some] at e
    obtain ⟨f1, f2, f3, _⟩ := first_seek e.1
    exact h (p + j) f1 f2 (by omega) f3
theorem endZ_int_far {d : Nat} {s : ByteArray} {p : Nat} (h : p < s.size) (hb : s[p] = 105) (hf : ∀ j, p + 1 ≤ j → j < s.size → j < p + 22 → (bl s).getD j 0 ≠ 59) : endZ d s p = -1 := by
  refine endO_none ?_
  rw [bl_drop s p h, hb, val_below, valStep, if_neg (by decide), if_pos rfl, numAt_far (fun j h1 h2 h3 => hf j h1 h2 (by omega))]
  rfl
theorem endZ_int {d : Nat} {s : ByteArray} {p k : Nat} (h : p < s.size) (hb : s[p] = 105) (hk : FirstAt s (p + 1) 59 k) : endZ d s p = if (numOf (bl (s.extract (p + 1) k))).isSome then ((k + 1 : Nat) : Int) else -1 := by
  have hk1 := hk.1
  have e : val d ((bl s).drop p) = (numAt 59 ((bl s).drop (p + 1))).map (fun q => q.1 + 2) := by
    rw [bl_drop s p h, hb, val_below, valStep, if_neg (by decide), if_pos rfl]
  rw [numAt_first hk] at e
  cases c : numOf (bl (s.extract (p + 1) k)) with
  | none =>
    rw [c] at e
    exact endO_none e
  | some x =>
    rw [c] at e
    show _ = ((k + 1 : Nat) : Int)
    rw [endZ, endO_some e]
    show ((p + (k - (p + 1) + 2) : Nat) : Int) = _
    omega
theorem endZ_bytes_far {d : Nat} {s : ByteArray} {p : Nat} (h : p < s.size) (hb : s[p] = 115) (hf : ∀ j, p + 1 ≤ j → j < s.size → j < p + 22 → (bl s).getD j 0 ≠ 58) : endZ d s p = -1 := by
  refine endO_none ?_
  rw [bl_drop s p h, hb, val_below, valStep, if_neg (by decide), if_neg (by decide), if_pos rfl, numAt_far (fun j h1 h2 h3 => hf j h1 h2 (by omega))]
  rfl
theorem endZ_bytes {d : Nat} {s : ByteArray} {p k : Nat} (h : p < s.size) (hb : s[p] = 115) (hk : FirstAt s (p + 1) 58 k) : endZ d s p = match numOf (bl (s.extract (p + 1) k)) with
    | none => -1
    | some x => if 0 ≤ x ∧ x ≤ (s.size : Int) - k - 1 then (k : Int) + 1 + x else -1 := by
  have hk1 := hk.1
  have hk2 := hk.2.1
  have e : val d ((bl s).drop p) = (numAt 58 ((bl s).drop (p + 1))).bind (fun q => if 0 ≤ q.2 ∧ q.2 ≤ ((((bl s).drop (p + 1)).length : Nat) : Int) - q.1 - 1 then some (q.1 + 2 + q.2.toNat) else none) := by
    rw [bl_drop s p h, hb, val_below, valStep, if_neg (by decide), if_neg (by decide), if_pos rfl]
  rw [numAt_first hk, List.length_drop, bl_length] at e
  cases c : numOf (bl (s.extract (p + 1) k)) with
  | none =>
    rw [c] at e
    exact endO_none e
  | some x =>
    rw [c] at e
    have e' : val d ((bl s).drop p) = if 0 ≤ x ∧ x ≤ (((s.size - (p + 1)) : Nat) : Int) - ((k - (p + 1) : Nat) : Int) - 1 then some ((k - (p + 1)) + 2 + x.toNat) else none := e
    show _ = if 0 ≤ x ∧ x ≤ (s.size : Int) - k - 1 then (k : Int) + 1 + x else -1
    by_cases q : 0 ≤ x ∧ x ≤ (s.size : Int) - k - 1
    · rw [if_pos (by omega)] at e'
      rw [if_pos q, endZ, endO_some e']
      omega
    · rw [if_neg (by omega)] at e'
      rw [if_neg q]
      exact endO_none e'
end Go.Proofs.YtcpfhfdgfcilaaaGreatDoor.Val
namespace Go.Proofs.YtcpfhfdgfcilaaaGreatDoor.Val
open Tree

/-- From a place on a text is values and a stop, to its end. -/
def Whole (one : List UInt8 → Option Nat) (stop : UInt8) (s : ByteArray) (p : Nat) : Prop := many one stop (s.size - p + 1) ((bl s).drop p) = some (s.size - p) ∧ p < s.size
/-- These values. -/
def itemsZ (one : List UInt8 → Option Nat) (stop : UInt8) (s : ByteArray) (p : Nat) : List (List UInt8) := items one stop (s.size - p + 1) ((bl s).drop p)
theorem Whole.last {one : List UInt8 → Option Nat} (hf : Fair one) {stop : UInt8} {s : ByteArray} {p : Nat} (h : Whole one stop s p) (hp : ¬ p < s.size - 1) : p = s.size - 1 ∧ itemsZ one stop s p = [] := by
  obtain ⟨h, hl⟩ := h
  refine ⟨by omega, ?_⟩
  have hd := bl_drop s p hl
  rw [bl_drop_out s (p + 1) (by omega)] at hd
  unfold itemsZ
  rw [hd] at h ⊢
  obtain ⟨g, hg, c | ⟨b, r, j, m, e, hb, h1, h2, hk⟩⟩ := many_cases h
  · obtain ⟨r, e, _⟩ := c
    injection e with e1 e2
    rw [e1]
    exact items_stop _ _ _ _
  · exfalso
    have hj := hf.pos _ _ h1
    have hm := many_pos hf _ _ _ _ h2
    rw [List.length_drop] at hm
    simp only [List.length_singleton] at hj hm
    omega
theorem Whole.step {one : List UInt8 → Option Nat} (hf : Fair one) {stop : UInt8} {s : ByteArray} {p : Nat} (h : Whole one stop s p) (hp : p < s.size - 1) :
    ∃ q : Nat, p < q ∧ q ≤ s.size - 1 ∧ one ((bl s).drop p) = some (q - p) ∧ Whole one stop s q ∧ itemsZ one stop s p = bl (s.extract p q) :: itemsZ one stop s q := by
  obtain ⟨h, hl⟩ := h
  have hd := bl_drop s p hl
  obtain ⟨g, hg, c | ⟨b, r, j, m, e, hb, h1, h2, hk⟩⟩ := many_cases h
  · obtain ⟨r, e, hk⟩ := c
    exfalso
    omega
  · have hj := hf.pos _ _ h1
    rw [List.length_drop, bl_length] at hj
    have hm := many_pos hf _ _ _ _ h2
    have hdd : ((bl s).drop p).drop j = (bl s).drop (p + j) := by rw [List.drop_drop]
    rw [hdd] at h2 hm
    rw [List.length_drop, bl_length] at hm
    have hw : Whole one stop s (p + j) := by
      refine ⟨?_, by omega⟩
      have := many_fuel hf _ _ _ _ (s.size - (p + j) + 1) h2 (by omega)
      rw [this]
      congr 1
      omega
    refine ⟨p + j, by omega, by omega, by rw [Nat.add_sub_cancel_left]; exact h1, hw, ?_⟩
    unfold itemsZ
    have e1 : (bl s).drop p = b :: r := e
    have ht : ((bl s).drop p).take j = bl (s.extract p (p + j)) := by
      have := take_drop_extract s p (p + j)
      rw [Nat.add_sub_cancel_left] at this
      exact this
    have hst : items one stop (s.size - p + 1) ((bl s).drop p) = ((bl s).drop p).take j :: items one stop (s.size - p) (((bl s).drop p).drop j) := by
      rw [e1] at h1 ⊢
      exact items_step _ hb h1
    rw [hst, ht, hdd, items_fuel hf _ _ _ _ (s.size - p) hw.1 (by omega)]
/-- A nest is whole from behind its first byte on. -/
theorem whole_of {s : ByteArray} (hv : isVal (bl s)) (h0 : 0 < s.size) (hb : s[0] = 91 ∨ s[0] = 123) : Whole (val 3) (s[0] + 2) s 1 := by
  have h := hv.2
  rw [bl_length] at h
  have hd := bl_drop s 0 h0
  rw [List.drop_zero] at hd
  rw [hd] at h
  have h' : valStep (val 3) (s[0] :: (bl s).drop 1) = some s.size := h
  rcases valStep_is h' with ⟨c, r, e, hh, _⟩ | ⟨r, j, x, e, hh, _⟩ | ⟨r, j, n, e, hh, hn, _⟩ | ⟨c, r, m, f, e, hc, hh, hk⟩
  · injection e with e1 _
    rw [← e1] at hh
    rcases hb with c | c <;> rw [c] at hh <;> exact absurd hh (by decide)
  · injection e with e1 _
    rcases hb with c | c <;> rw [c] at e1 <;> exact absurd e1 (by decide)
  · injection e with e1 _
    rcases hb with c | c <;> rw [c] at e1 <;> exact absurd e1 (by decide)
  · injection e with e1 e2
    rw [← e1, ← e2] at hh
    have hm := many_pos (fair_val 3) _ _ _ _ hh
    refine ⟨?_, by omega⟩
    rw [many_fuel (fair_val 3) _ _ _ _ (s.size - 1 + 1) hh (by omega)]
    congr 1
    omega
/-- A value's kind and parts, as texts. -/
def partsS (s : ByteArray) : Option (Int × List ByteArray) := (partsM (bl s)).map fun p => (p.1, p.2.map fun l => ⟨l.toArray⟩)
theorem partsS_none {s : ByteArray} (h : ¬ isVal (bl s)) : partsS s = none := by
  unfold partsS
  rw [partsM_none h]
  rfl
theorem isVal_iff (s : ByteArray) : isVal (bl s) ↔ s.size ≤ 65536 ∧ endZ 4 s 0 = (s.size : Int) := by
  unfold isVal
  rw [bl_length]
  constructor
  · rintro ⟨h1, h2⟩
    refine ⟨h1, ?_⟩
    have : val 4 ((bl s).drop 0) = some s.size := by rw [List.drop_zero]; exact h2
    rw [endZ, endO_some this, Nat.zero_add]
  · rintro ⟨h1, h2⟩
    refine ⟨h1, ?_⟩
    cases c : val 4 ((bl s).drop 0) with
    | none => rw [endZ, endO_none c] at h2; omega
    | some k =>
      rw [endZ, endO_some c] at h2
      rw [List.drop_zero] at c
      rw [c]
      congr 1
      omega
theorem mk_bl (s : ByteArray) : (⟨(bl s).toArray⟩ : ByteArray) = s := bl_back s
theorem first_byte {s : ByteArray} (h : 0 < s.size) : bl s = s[0] :: (bl s).drop 1 := by
  have hd := bl_drop s 0 h
  rw [List.drop_zero] at hd
  exact hd
theorem isVal_pos {s : ByteArray} (h : isVal (bl s)) : 0 < s.size := by
  have := ((fair_val 4).pos _ _ h.2).1
  rw [bl_length] at this
  omega
theorem isVal_bytes {s : ByteArray} (h : isVal (bl s)) : s[0]'(isVal_pos h) = 110 ∨ s[0]'(isVal_pos h) = 105 ∨ s[0]'(isVal_pos h) = 116 ∨ s[0]'(isVal_pos h) = 102 ∨ s[0]'(isVal_pos h) = 115 ∨ s[0]'(isVal_pos h) = 91 ∨ s[0]'(isVal_pos h) = 123 := by
  have h0 := isVal_pos h
  have hv : valStep (val 3) (bl s) = some (bl s).length := h.2
  rw [first_byte h0] at hv
  rcases valStep_is hv with ⟨c, r, e, hh, _⟩ | ⟨r, j, x, e, hh, _⟩ | ⟨r, j, n, e, hh, hn, _⟩ | ⟨c, r, m, f, e, hc, hh, hk⟩
  · injection e with e1 _
    rw [← e1] at hh
    rcases hh with c | c | c
    · exact .inl c
    · exact .inr (.inr (.inl c))
    · exact .inr (.inr (.inr (.inl c)))
  · injection e with e1 _
    exact .inr (.inl e1)
  · injection e with e1 _
    exact .inr (.inr (.inr (.inr (.inl e1))))
  · injection e with e1 _
    rw [← e1] at hc
    rcases hc with c | c
    · exact .inr (.inr (.inr (.inr (.inr (.inl c)))))
    · exact .inr (.inr (.inr (.inr (.inr (.inr c)))))
theorem partsS_tell {s : ByteArray} (h : isVal (bl s)) {k : Int} {ps : List (List UInt8)} (ht : tell (bl s) = some (k, ps)) : partsS s = some (k, ps.map fun l => ⟨l.toArray⟩) := by
  unfold partsS
  rw [partsM_tell h, ht]
  rfl
theorem partsS_n {s : ByteArray} (h : isVal (bl s)) (hb : s[0]'(isVal_pos h) = 110) : partsS s = some (-1, []) := by
  refine partsS_tell h (ps := []) ?_
  rw [first_byte (isVal_pos h), hb]
  exact tell_n _
theorem partsS_w {s : ByteArray} (h : isVal (bl s)) (hb : s[0]'(isVal_pos h) = 116 ∨ s[0]'(isVal_pos h) = 102) : partsS s = some (1, [s]) := by
  have e := partsS_tell h (k := 1) (ps := [bl s]) (by
    have hd := first_byte (isVal_pos h)
    rcases hb with c | c
    · rw [c] at hd
      rw [hd]
      exact tell_t _
    · rw [c] at hd
      rw [hd]
      exact tell_f _)
  rw [e]
  show some (1, [(⟨(bl s).toArray⟩ : ByteArray)]) = _
  rw [mk_bl]
theorem partsS_i {s : ByteArray} (h : isVal (bl s)) (hb : s[0]'(isVal_pos h) = 105) : partsS s = some (0, [s.extract 1 (s.size - 1)]) := by
  have hd := first_byte (isVal_pos h)
  rw [hb] at hd
  have e := partsS_tell h (k := 0) (ps := [((bl s).drop 1).dropLast]) (by
    generalize (bl s).drop 1 = r at hd
    rw [hd]
    exact tell_i _)
  rw [e]
  have e2 : ((bl s).drop 1).dropLast = bl (s.extract 1 (s.size - 1)) := by
    rw [bl_extract, List.dropLast_eq_take, List.length_drop, bl_length, List.drop_take]
  rw [e2]
  show some (0, [(⟨(bl (s.extract 1 (s.size - 1))).toArray⟩ : ByteArray)]) = _
  rw [mk_bl]
theorem partsS_s {s : ByteArray} (h : isVal (bl s)) (hb : s[0]'(isVal_pos h) = 115) {k : Nat} (hk : FirstAt s 1 58 k) : partsS s = some (2, [s.extract (k + 1) s.size]) := by
  have hd := first_byte (isVal_pos h)
  rw [hb] at hd
  have h1 := hk.1
  have e := partsS_tell h (k := 2) (ps := [((bl s).drop 1).drop (k - 1 + 1)]) (by
    have hs := seek_first hk
    generalize (bl s).drop 1 = r at hd hs
    rw [hd, tell_s, hs]
    rfl)
  rw [e]
  have e2 : ((bl s).drop 1).drop (k - 1 + 1) = bl (s.extract (k + 1) s.size) := by
    rw [bl_extract, List.drop_drop, show 1 + (k - 1 + 1) = k + 1 from by omega, ← bl_length, List.take_length]
  rw [e2]
  show some (2, [(⟨(bl (s.extract (k + 1) s.size)).toArray⟩ : ByteArray)]) = _
  rw [mk_bl]
/-- There is such a place. -/
theorem first_colon {s : ByteArray} (h : isVal (bl s)) (hb : s[0]'(isVal_pos h) = 115) : ∃ k, FirstAt s 1 58 k ∧ k ≤ 21 := by
  have h0 := isVal_pos h
  have hv : valStep (val 3) (bl s) = some (bl s).length := h.2
  rw [first_byte h0, hb] at hv
  rcases valStep_is hv with ⟨c, r, e, hh, _⟩ | ⟨r, j, x, e, hh, _⟩ | ⟨r, j, n, e, hh, hn, _⟩ | ⟨c, r, m, f, e, hc, hh, hk⟩
  · injection e with e1 _
    rw [← e1] at hh
    exact absurd hh (by decide)
  · injection e with e1 _
    exact absurd e1 (by decide)
  · injection e with e1 e2
    rw [← e2] at hh
    have hj := numAt_lt hh
    rw [numAt_some] at hh
    exact ⟨1 + j, first_seek hh.1, by omega⟩
  · injection e with e1 _
    rw [← e1] at hc
    exact absurd hc (by decide)
theorem partsS_l {s : ByteArray} (h : isVal (bl s)) (hb : s[0]'(isVal_pos h) = 91) : partsS s = some (3, (itemsZ (val 3) 93 s 1).map fun l => ⟨l.toArray⟩) := by
  have hd := first_byte (isVal_pos h)
  rw [hb] at hd
  refine partsS_tell h ?_
  unfold itemsZ
  have hl : ((bl s).drop 1).length = s.size - 1 := by rw [List.length_drop, bl_length]
  rw [← hl]
  generalize (bl s).drop 1 = r at hd
  rw [hd]
  exact tell_l _
theorem partsS_o {s : ByteArray} (h : isVal (bl s)) (hb : s[0]'(isVal_pos h) = 123) : partsS s = some (4, (itemsZ (val 3) 125 s 1).map fun l => ⟨l.toArray⟩) := by
  have hd := first_byte (isVal_pos h)
  rw [hb] at hd
  refine partsS_tell h ?_
  unfold itemsZ
  have hl : ((bl s).drop 1).length = s.size - 1 := by rw [List.length_drop, bl_length]
  rw [← hl]
  generalize (bl s).drop 1 = r at hd
  rw [hd]
  exact tell_o _
/-- Which values fit a node; so far down it is looked. -/
def fitsF (ns : List Nd) : Nat → Nat → ByteArray → Bool
  | 0, _, _ => false
  | f + 1, a, v =>
    match partsS v with
    | none => false
    | some (k, ps) =>
      if k < 0 then (nd ns a).null
      else if k ≠ (nd ns a).kind then false
      else if k = 2 then decide ((ps.getD 0 ByteArray.empty).size ≤ 16)
      else if k = 3 then decide (ps.length ≤ 64) && ps.all (fitsF ns f ((kids ns a).getD 0 0))
      else if k = 4 then decide (ps.length = (kids ns a).length) && ((kids ns a).zip ps).all fun q => fitsF ns f q.1 q.2
      else true
def fitsZ (ns : List Nd) (a : Int) (v : ByteArray) : Bool := decide (0 ≤ a ∧ a < (ns.length : Int)) && (may ns && fitsF ns 8 a.toNat v)
end Go.Proofs.YtcpfhfdgfcilaaaGreatDoor.Val
