/-
  Several texts in one: Whole numbers and their digits, as plain lists of bytes: which digits are a number's, and that number. · Digits as loops make and read them: plain facts for the walks. · Values as plain lists of bytes: where the value at a text's head ends, how deep it may go; what stands in it. · A value's kind and parts, as plain lists of bytes; values made of parts; that each is the other's way back. · Values in a text, by places: what stands where, as a reader by places meets it. · A nest's values by places; a value's kind and parts as texts; which values fit a node: plain facts. · Digits read one by one, round the corner of 64 bits: plain facts. · Plain facts on numbers in bytes: so many bytes, the lowest first, and back; seven bits in a byte, and back. · Plain facts on numbers, bytes and bits: masks, one bit of a byte, bits of a list of bytes, set, counted, copied. · Arrays as plain trees; an array that came in (a struct of three numbers, three texts and a list of such), opened at every one within it. Over whatever program. · What an array may be, and what it is read as: plain functions of a type's nodes and a tree. · Ends as the program asks them: all there, sorted, the last one; near each other; rising: plain facts.
-/
import Derived.WalkKit
import Derived.Test.YthbjeedmhgnnaaaGreatB01
import Derived.Laws.BitsLemmas
import Derived.Laws.Shifts
import Derived.ProofKit
import Derived.OpenShut
import Derived.ChangeOld
import Derived.ChangeArms
import Derived.Below
import Derived.SizedLaws
import Derived.Deep.Slices
namespace Go.Proofs.YthbjeedmhgnnaaaGreat.Val

def digF : Nat → Nat → List UInt8
  | 0, _ => []
  | f + 1, n => (if n < 10 then [] else digF f (n / 10)) ++ [UInt8.ofNat (48 + n % 10)]
/-- The digits of a number that is not below 0. -/
def dig (n : Nat) : List UInt8 := digF 20 n
theorem digF_succ (f n : Nat) : digF (f + 1) n = (if n < 10 then [] else digF f (n / 10)) ++ [UInt8.ofNat (48 + n % 10)] := rfl
theorem digF_more (f : Nat) : ∀ n, n < 10 ^ (f + 1) → digF (f + 1) n = digF (f + 2) n := by
  induction f with
  | zero =>
    intro n hn
    have h : n < 10 := by simpa using hn
    rw [digF_succ (0 + 1) n, digF_succ 0 n, if_pos h, if_pos h]
  | succ f ih =>
    intro n hn
    rw [digF_succ (f + 1 + 1) n, digF_succ (f + 1) n]
    by_cases h : n < 10
    · rw [if_pos h, if_pos h]
    · rw [if_neg h, if_neg h, ih (n / 10) (by rw [Nat.pow_succ] at hn; omega)]
/-- The last digit, and those ahead of it. -/
theorem dig_eq (n : Nat) (h : n < 10 ^ 20) : dig n = (if n < 10 then [] else dig (n / 10)) ++ [UInt8.ofNat (48 + n % 10)] := by
  unfold dig
  rw [digF]
  by_cases c : n < 10
  · rw [if_pos c, if_pos c]
  · rw [if_neg c, if_neg c, digF_more 18 (n / 10) (by omega)]
theorem dig_low (n : Nat) (h : n < 10) : dig n = [UInt8.ofNat (48 + n)] := by
  rw [dig_eq n (by omega), if_pos h, Nat.mod_eq_of_lt h]
  rfl
theorem dig_high (n : Nat) (h : 10 ≤ n) (h2 : n < 10 ^ 20) : dig n = dig (n / 10) ++ [UInt8.ofNat (48 + n % 10)] := by
  rw [dig_eq n h2, if_neg (by omega)]
theorem byte_nat (n : Nat) (h : n < 256) : (UInt8.ofNat n).toNat = n := by
  simp
  omega
theorem length_digF (f n : Nat) : (digF f n).length ≤ f := by
  induction f generalizing n with
  | zero => exact Nat.le_refl _
  | succ f ih =>
    rw [digF, List.length_append]
    split
    · simp
    · have := ih (n / 10)
      simp
      omega
theorem length_dig (n : Nat) : (dig n).length ≤ 20 := length_digF 20 n
theorem dig_ne (n : Nat) : dig n ≠ [] := by
  unfold dig
  rw [digF]
  simp
theorem digF_digit (f n : Nat) : ∀ b ∈ digF f n, 48 ≤ b.toNat ∧ b.toNat ≤ 57 := by
  induction f generalizing n with
  | zero => intro b hb; cases hb
  | succ f ih =>
    intro b hb
    rw [digF, List.mem_append] at hb
    rcases hb with hb | hb
    · split at hb
      · cases hb
      · exact ih _ b hb
    · rw [List.mem_singleton] at hb
      subst hb
      rw [byte_nat _ (by omega)]
      omega
theorem dig_digit (n : Nat) : ∀ b ∈ dig n, 48 ≤ b.toNat ∧ b.toNat ≤ 57 := digF_digit 20 n
/-- So many digits: a number below that. -/
theorem length_dig_le (k : Nat) : ∀ n, n < 10 ^ (k + 1) → k < 20 → (dig n).length ≤ k + 1 := by
  induction k with
  | zero =>
    intro n hn _
    rw [dig_low n (by simpa using hn)]
    exact Nat.le_refl _
  | succ k ih =>
    intro n hn hk
    have hp : 10 ^ (k + 1 + 1) ≤ 10 ^ 20 := Nat.pow_le_pow_right (by decide) (by omega)
    by_cases c : n < 10
    · rw [dig_low n c]
      simp
    · rw [dig_high n (by omega) (by omega), List.length_append]
      have := ih (n / 10) (by rw [Nat.pow_succ] at hn; omega) (by omega)
      simp
      omega
/-- What digits count to. -/
def evalN (l : List UInt8) : Int := l.foldl (fun a b => 10 * a + ((b.toNat : Int) - 48)) 0
theorem evalN_snoc (l : List UInt8) (b : UInt8) : evalN (l ++ [b]) = 10 * evalN l + ((b.toNat : Int) - 48) := by
  unfold evalN
  rw [List.foldl_append]
  rfl
theorem evalN_nil : evalN [] = 0 := rfl
theorem evalN_digF (f : Nat) : ∀ n, n < 10 ^ f → evalN (digF f n) = (n : Int) := by
  induction f with
  | zero => intro n hn; simp at hn; subst hn; rfl
  | succ f ih =>
    intro n hn
    rw [digF, evalN_snoc, byte_nat _ (by omega)]
    split
    · rw [evalN_nil]
      omega
    · rw [ih (n / 10) (by rw [Nat.pow_succ] at hn; omega)]
      omega
theorem evalN_dig (n : Nat) (h : n < 10 ^ 20) : evalN (dig n) = (n : Int) := evalN_digF 20 n h
/-- A whole number's digits, a sign ahead if it is below 0. -/
def intD (x : Int) : List UInt8 := if 0 ≤ x then dig x.toNat else 45 :: dig (-x).toNat
/-- What they count to. -/
def evalZ (l : List UInt8) : Int := if l.head? = some 45 then - evalN l.tail else evalN l
/-- A number of 64 bits. -/
def in64 (x : Int) : Prop := -9223372036854775808 ≤ x ∧ x ≤ 9223372036854775807
theorem dig_head (n : Nat) : (dig n).head? ≠ some 45 := by
  cases e : dig n with
  | nil => exact absurd e (dig_ne n)
  | cons x m =>
    have := dig_digit n x (by rw [e]; exact List.mem_cons_self)
    intro c
    have hx : x = 45 := by simpa using c
    rw [hx] at this
    exact absurd this.1 (by decide)
theorem evalZ_intD (x : Int) (h : in64 x) : evalZ (intD x) = x := by
  unfold intD in64 at *
  split
  · unfold evalZ
    rw [if_neg (dig_head _), evalN_dig _ (by omega)]
    omega
  · unfold evalZ
    rw [if_pos (show (45 :: dig (-x).toNat).head? = some 45 from rfl)]
    show - evalN (dig (-x).toNat) = x
    rw [evalN_dig _ (by omega)]
    omega
theorem length_intD (x : Int) (h : in64 x) : 1 ≤ (intD x).length ∧ (intD x).length ≤ 20 := by
  unfold intD in64 at *
  have h1 : ∀ n, 1 ≤ (dig n).length := fun n => List.length_pos_iff.2 (dig_ne n)
  split
  · exact ⟨h1 _, length_dig _⟩
  · have := length_dig_le 18 (-x).toNat (by omega) (by omega)
    have := h1 (-x).toNat
    simp
    omega
theorem intD_signs (x : Int) : ∀ b ∈ intD x, b = 45 ∨ 48 ≤ b.toNat ∧ b.toNat ≤ 57 := by
  intro b hb
  unfold intD at hb
  split at hb
  · exact .inr (dig_digit _ b hb)
  · rcases List.mem_cons.1 hb with e | e
    · exact .inl e
    · exact .inr (dig_digit _ b e)
/-- The whole number whose digits these are. -/
def numOf (l : List UInt8) : Option Int := if -9223372036854775808 ≤ evalZ l ∧ evalZ l ≤ 9223372036854775807 ∧ intD (evalZ l) = l then some (evalZ l) else none
theorem numOf_some {l : List UInt8} {x : Int} : numOf l = some x ↔ in64 x ∧ intD x = l := by
  unfold numOf
  constructor
  · intro h
    split at h
    · rename_i c
      injection h with h
      subst h
      exact ⟨⟨c.1, c.2.1⟩, c.2.2⟩
    · cases h
  · rintro ⟨hx, rfl⟩
    have := evalZ_intD x hx
    rw [if_pos (by rw [this]; exact ⟨hx.1, hx.2, rfl⟩), this]
theorem numOf_intD (x : Int) (h : in64 x) : numOf (intD x) = some x := numOf_some.2 ⟨h, rfl⟩
theorem numOf_none {l : List UInt8} : numOf l = none ↔ ∀ x, in64 x → intD x ≠ l := by
  constructor
  · intro h x hx c
    rw [← c, numOf_intD x hx] at h
    cases h
  · intro h
    cases c : numOf l with
    | none => rfl
    | some x => exact absurd (numOf_some.1 c).2 (h x (numOf_some.1 c).1)
theorem numOf_length {l : List UInt8} {x : Int} (h : numOf l = some x) : 1 ≤ l.length ∧ l.length ≤ 20 := by
  obtain ⟨h1, rfl⟩ := numOf_some.1 h
  exact length_intD x h1
end Go.Proofs.YthbjeedmhgnnaaaGreat.Val
namespace Go.Proofs.YthbjeedmhgnnaaaGreat.Val

/-- A loop that lays digits ahead of others: what is still to come, and what stands there. -/
def DigAt (n size : Nat) (out : List UInt8) : Prop := (out = [] ∧ size = n) ∨ (out ≠ [] ∧ size = 0 ∧ out = dig n) ∨ (out ≠ [] ∧ 0 < size ∧ size ≤ n ∧ dig size ++ out = dig n)
theorem DigAt.start (n : Nat) : DigAt n n [] := .inl ⟨rfl, rfl⟩
theorem DigAt.step {n size : Nat} {out : List UInt8} (hn : n < 10 ^ 20) (h : DigAt n size out) (hs : 0 < size ∨ out = []) : DigAt n (size / 10) (UInt8.ofNat (48 + size % 10) :: out) := by
  have key : dig size ++ out = dig n ∧ size ≤ n := by
    rcases h with ⟨rfl, rfl⟩ | ⟨h1, h2, _⟩ | ⟨_, _, h3, h4⟩
    · exact ⟨List.append_nil _, Nat.le_refl _⟩
    · rcases hs with c | c
      · omega
      · exact absurd c h1
    · exact ⟨h4, h3⟩
  obtain ⟨k1, k2⟩ := key
  by_cases c : size < 10
  · refine .inr (.inl ⟨List.cons_ne_nil _ _, by omega, ?_⟩)
    rw [← k1, dig_low size c, Nat.mod_eq_of_lt c]
    rfl
  · refine .inr (.inr ⟨List.cons_ne_nil _ _, by omega, by omega, ?_⟩)
    rw [← k1, dig_high size (by omega) (by omega), List.append_assoc]
    rfl
theorem DigAt.stop {n size : Nat} {out : List UInt8} (h : DigAt n size out) (hs : ¬ (0 < size ∨ out = [])) : out = dig n := by
  rcases h with ⟨h1, _⟩ | ⟨_, _, h⟩ | ⟨_, h2, _⟩
  · exact absurd (.inr h1) hs
  · exact h
  · exact absurd (.inl h2) hs
theorem DigAt.length {n size : Nat} {out : List UInt8} (h : DigAt n size out) : out.length ≤ 20 := by
  have hl := length_dig n
  rcases h with ⟨rfl, _⟩ | ⟨_, _, rfl⟩ | ⟨_, _, _, h4⟩
  · exact Nat.zero_le _
  · exact hl
  · rw [← h4, List.length_append] at hl
    omega
/-- What is read of digits, up to a place, with its sign. -/
theorem evalN_take_succ (l : List UInt8) (k : Nat) (h : k < l.length) : evalN (l.take (k + 1)) = 10 * evalN (l.take k) + (((l.getD k 0).toNat : Int) - 48) := by
  rw [List.take_succ_eq_append_getElem h, evalN_snoc, List.getD_eq_getElem?_getD, List.getElem?_eq_getElem h]
  rfl
/-- Numbers that differ by a multiple of two to the sixty-fourth, within 64 bits, are one. -/
theorem same64 {x y : Int} (hx : in64 x) (hy : in64 y) (h : (x - y) % 18446744073709551616 = 0) : x = y := by
  unfold in64 at *
  omega
/-- A number read round the corner is the text's just if its digits are the text. -/
theorem read_iff {l : List UInt8} {x : Int} (hx : in64 x) (h : (x - evalZ l) % 18446744073709551616 = 0) : (numOf l = some x ∧ intD x = l) ∨ (numOf l = none ∧ intD x ≠ l) := by
  by_cases c : intD x = l
  · exact .inl ⟨numOf_some.2 ⟨hx, c⟩, c⟩
  · refine .inr ⟨?_, c⟩
    cases e : numOf l with
    | none => rfl
    | some y =>
      exfalso
      obtain ⟨hy, e2⟩ := numOf_some.1 e
      have e3 := evalZ_intD y hy
      rw [e2] at e3
      rw [e3] at h
      have := same64 hx hy h
      rw [this] at c
      exact c e2
/-- A sign that is none: no number. -/
theorem bad_sign {l : List UInt8} {i : Nat} (hi : i < l.length) (hb : (l.getD i 0).toNat < 48 ∨ 57 < (l.getD i 0).toNat) (h0 : ¬ (i = 0 ∧ l.getD 0 0 = 45)) : numOf l = none := by
  rw [numOf_none]
  intro x hx e
  have hm : l.getD i 0 ∈ l := by
    rw [List.getD_eq_getElem?_getD, List.getElem?_eq_getElem hi]
    exact List.getElem_mem hi
  unfold intD at e
  split at e
  · have := dig_digit x.toNat (l.getD i 0) (by rw [e]; exact hm)
    omega
  · subst e
    cases i with
    | zero => exact h0 ⟨rfl, rfl⟩
    | succ i =>
      have hi' : i < (dig (-x).toNat).length := by simpa using hi
      have := dig_digit (-x).toNat ((dig (-x).toNat).getD i 0) (by
        rw [List.getD_eq_getElem?_getD, List.getElem?_eq_getElem hi']
        exact List.getElem_mem hi')
      rw [List.getD_cons_succ] at hb
      omega
theorem too_long {l : List UInt8} (h : 21 ≤ l.length) : numOf l = none := by
  cases e : numOf l with
  | none => rfl
  | some x =>
    have := numOf_length e
    omega
/-- Digits with a sign ahead, and without. -/
theorem evalZ_sign {l : List UInt8} (h : l.getD 0 0 = 45) (hl : 0 < l.length) : evalZ l = - evalN (l.drop 1) := by
  unfold evalZ
  cases l with
  | nil => cases hl
  | cons b r =>
    have e : b = 45 := h
    rw [e, if_pos (show ((45 : UInt8) :: r).head? = some 45 from rfl)]
    rfl
theorem evalZ_plain {l : List UInt8} (h : l.getD 0 0 ≠ 45) : evalZ l = evalN l := by
  unfold evalZ
  cases l with
  | nil => rfl
  | cons b r => rw [if_neg (fun c => h (by simpa using c))]
end Go.Proofs.YthbjeedmhgnnaaaGreat.Val
namespace Go.Proofs.YthbjeedmhgnnaaaGreat.Val

/-- Where a sign stands first. -/
def seek (c : UInt8) : List UInt8 → Option Nat
  | [] => none
  | b :: l => if b = c then some 0 else (seek c l).map (· + 1)
theorem seek_some {c : UInt8} : ∀ {l : List UInt8} {k : Nat}, seek c l = some k → k < l.length ∧ l.getD k 0 = c ∧ ∀ j, j < k → l.getD j 0 ≠ c
  | [], k, h => by cases h
  | b :: l, k, h => by
    rw [seek] at h
    by_cases e : b = c
    · rw [if_pos e] at h
      injection h with h
      subst h
      exact ⟨Nat.succ_pos _, e, fun j hj => absurd hj (Nat.not_lt_zero j)⟩
    · rw [if_neg e] at h
      cases hs : seek c l with
      | none => rw [hs] at h; cases h
      | some j =>
        rw [hs] at h
        injection h with h
        subst h
        obtain ⟨h1, h2, h3⟩ := seek_some hs
        refine ⟨Nat.succ_lt_succ h1, h2, fun i hi => ?_⟩
        cases i with
        | zero => exact e
        | succ i => exact h3 i (Nat.lt_of_succ_lt_succ hi)
theorem seek_of {c : UInt8} : ∀ {l : List UInt8} {k : Nat}, k < l.length → l.getD k 0 = c → (∀ j, j < k → l.getD j 0 ≠ c) → seek c l = some k
  | [], k, h, _, _ => absurd h (Nat.not_lt_zero _)
  | b :: l, k, h, h1, h2 => by
    rw [seek]
    cases k with
    | zero => rw [if_pos (show b = c from h1)]
    | succ k =>
      rw [if_neg (show ¬ b = c from h2 0 (Nat.succ_pos _)), seek_of (Nat.lt_of_succ_lt_succ h) h1 (fun j hj => h2 (j + 1) (Nat.succ_lt_succ hj))]
      rfl
theorem seek_app {c : UInt8} : ∀ (p q : List UInt8), (∀ b ∈ p, b ≠ c) → seek c (p ++ c :: q) = some p.length
  | [], q, _ => by
    show seek c (c :: q) = some 0
    rw [seek, if_pos rfl]
  | b :: p, q, h => by
    show seek c (b :: (p ++ c :: q)) = _
    rw [seek, if_neg (h b List.mem_cons_self), seek_app p q (fun x hx => h x (List.mem_cons_of_mem _ hx))]
    rfl
theorem seek_ext {c : UInt8} {p : List UInt8} {k : Nat} (q : List UInt8) (h : seek c p = some k) : seek c (p ++ q) = some k := by
  obtain ⟨h1, h2, h3⟩ := seek_some h
  refine seek_of (by rw [List.length_append]; omega) ?_ ?_
  · rw [List.getD_eq_getElem?_getD, List.getElem?_append_left h1, ← List.getD_eq_getElem?_getD]
    exact h2
  · intro j hj
    rw [List.getD_eq_getElem?_getD, List.getElem?_append_left (by omega), ← List.getD_eq_getElem?_getD]
    exact h3 j hj
theorem seek_take {c : UInt8} {l : List UInt8} {k n : Nat} (h : seek c l = some k) (hn : k < n) : seek c (l.take n) = some k := by
  obtain ⟨h1, h2, h3⟩ := seek_some h
  refine seek_of (by rw [List.length_take]; omega) ?_ ?_
  · rw [List.getD_eq_getElem?_getD, List.getElem?_take, if_pos hn, ← List.getD_eq_getElem?_getD]
    exact h2
  · intro j hj
    rw [List.getD_eq_getElem?_getD, List.getElem?_take, if_pos (by omega), ← List.getD_eq_getElem?_getD]
    exact h3 j hj
/-- The digits up to a sign: how many, and their number. -/
def numAt (c : UInt8) (r : List UInt8) : Option (Nat × Int) :=
  match seek c r with
  | none => none
  | some j => (numOf (r.take j)).map fun x => (j, x)
theorem numAt_some {c : UInt8} {r : List UInt8} {j : Nat} {x : Int} : numAt c r = some (j, x) ↔ seek c r = some j ∧ numOf (r.take j) = some x := by
  unfold numAt
  cases h : seek c r with
  | none => exact ⟨fun c => by (cases c), fun c => by (cases c.1)⟩
  | some k =>
    constructor
    · intro e
      cases h2 : numOf (r.take k) with
      | none => simp only [h2] at e; cases e
      | some y =>
        simp only [h2, Option.map_some, Option.some.injEq, Prod.mk.injEq] at e
        obtain ⟨rfl, rfl⟩ := e
        exact ⟨rfl, h2⟩
    · rintro ⟨e, h2⟩
      injection e with e
      subst e
      simp only [h2, Option.map_some]
theorem take_app_le (p q : List UInt8) (j : Nat) (h : j ≤ p.length) : (p ++ q).take j = p.take j := by
  rw [List.take_append_of_le_length h]
theorem numAt_ext {c : UInt8} {p : List UInt8} {y : Nat × Int} (q : List UInt8) (h : numAt c p = some y) : numAt c (p ++ q) = some y := by
  obtain ⟨j, x⟩ := y
  rw [numAt_some] at *
  refine ⟨seek_ext q h.1, ?_⟩
  rw [take_app_le _ _ _ (Nat.le_of_lt (seek_some h.1).1)]
  exact h.2
theorem numAt_take {c : UInt8} {l : List UInt8} {j n : Nat} {x : Int} (h : numAt c l = some (j, x)) (hn : j < n) : numAt c (l.take n) = some (j, x) := by
  rw [numAt_some] at *
  refine ⟨seek_take h.1 hn, ?_⟩
  rw [List.take_take, Nat.min_eq_left (by omega)]
  exact h.2
theorem numAt_lt {c : UInt8} {l : List UInt8} {j : Nat} {x : Int} (h : numAt c l = some (j, x)) : j < l.length ∧ 1 ≤ j ∧ j ≤ 20 := by
  rw [numAt_some] at h
  have h1 := (seek_some h.1).1
  have h2 := numOf_length h.2
  rw [List.length_take, Nat.min_eq_left (by omega)] at h2
  omega
theorem numAt_made (c : UInt8) (x : Int) (q : List UInt8) (hx : in64 x) (hc : c = 58 ∨ c = 59) : numAt c (intD x ++ c :: q) = some ((intD x).length, x) := by
  rw [numAt_some]
  constructor
  · refine seek_app _ _ fun b hb e => ?_
    subst e
    rcases intD_signs x b hb with h | h
    · rcases hc with rfl | rfl <;> cases h
    · rcases hc with rfl | rfl
      · exact absurd h.2 (by decide)
      · exact absurd h.2 (by decide)
  · rw [take_app_le _ _ _ (Nat.le_refl _), List.take_length]
    exact numOf_intD x hx
/-- Values up to a sign: where that ends. -/
def many (one : List UInt8 → Option Nat) (stop : UInt8) : Nat → List UInt8 → Option Nat
  | 0, _ => none
  | _ + 1, [] => none
  | f + 1, b :: l => if b = stop then some 1 else
      match one (b :: l) with
      | none => none
      | some k => (many one stop f ((b :: l).drop k)).map (· + k)
/-- These values. -/
def items (one : List UInt8 → Option Nat) (stop : UInt8) : Nat → List UInt8 → List (List UInt8)
  | 0, _ => []
  | _ + 1, [] => []
  | f + 1, b :: l => if b = stop then [] else
      match one (b :: l) with
      | none => []
      | some k => (b :: l).take k :: items one stop f ((b :: l).drop k)
/-- What ends where it says, whatever follows. -/
structure Fair (one : List UInt8 → Option Nat) : Prop where
  pos : ∀ l k, one l = some k → 1 ≤ k ∧ k ≤ l.length
  ext : ∀ p q k, one p = some k → one (p ++ q) = some k
  cut : ∀ l k, one l = some k → one (l.take k) = some k
theorem many_step (one : List UInt8 → Option Nat) (stop : UInt8) (f : Nat) (b : UInt8) (l : List UInt8) (h : b ≠ stop) : many one stop (f + 1) (b :: l) = (one (b :: l)).bind fun k => (many one stop f ((b :: l).drop k)).map (· + k) := by
  rw [many, if_neg h]
  cases one (b :: l) <;> rfl
theorem many_stop (one : List UInt8 → Option Nat) (stop : UInt8) (f : Nat) (l : List UInt8) : many one stop (f + 1) (stop :: l) = some 1 := by
  rw [many, if_pos rfl]
/-- How many ends: by a stop, or by a value and what follows. -/
theorem many_cases {one : List UInt8 → Option Nat} {stop : UInt8} {f : Nat} {l : List UInt8} {k : Nat} (h : many one stop f l = some k) :
    ∃ g, f = g + 1 ∧ ((∃ r, l = stop :: r ∧ k = 1) ∨ ∃ b r j m, l = b :: r ∧ b ≠ stop ∧ one l = some j ∧ many one stop g (l.drop j) = some m ∧ k = m + j) := by
  cases f with
  | zero => cases h
  | succ g =>
    refine ⟨g, rfl, ?_⟩
    cases l with
    | nil => cases h
    | cons b r =>
      by_cases e : b = stop
      · subst e
        rw [many_stop] at h
        injection h with h
        exact .inl ⟨r, rfl, h.symm⟩
      · rw [many_step _ _ _ _ _ e] at h
        cases h1 : one (b :: r) with
        | none => rw [h1] at h; cases h
        | some j =>
          rw [h1] at h
          cases h2 : many one stop g ((b :: r).drop j) with
          | none => simp only [Option.bind_some, h2] at h; cases h
          | some m =>
            simp only [Option.bind_some, h2, Option.map_some, Option.some.injEq] at h
            exact .inr ⟨b, r, j, m, rfl, e, rfl, h2, h.symm⟩
theorem many_pos {one : List UInt8 → Option Nat} (ho : Fair one) (stop : UInt8) : ∀ (f : Nat) (l : List UInt8) (k : Nat), many one stop f l = some k → 1 ≤ k ∧ k ≤ l.length := by
  intro f
  induction f with
  | zero => intro l k h; cases h
  | succ f ih =>
    intro l k h
    obtain ⟨g, hg, h | ⟨b, r, j, m, rfl, _, h1, h2, rfl⟩⟩ := many_cases h
    · obtain ⟨r, rfl, rfl⟩ := h
      simp
    · injection hg with hg
      subst hg
      have h3 := ho.pos _ _ h1
      have h4 := ih _ _ h2
      rw [List.length_drop] at h4
      omega
theorem many_fuel {one : List UInt8 → Option Nat} (ho : Fair one) (stop : UInt8) : ∀ (f : Nat) (l : List UInt8) (k f' : Nat), many one stop f l = some k → k ≤ f' → many one stop f' l = some k := by
  intro f
  induction f with
  | zero => intro l k f' h; cases h
  | succ f ih =>
    intro l k f' h hf
    obtain ⟨g, hg, h | ⟨b, r, j, m, rfl, e, h1, h2, rfl⟩⟩ := many_cases h
    · obtain ⟨r, rfl, rfl⟩ := h
      obtain ⟨x, rfl⟩ : ∃ x, f' = x + 1 := ⟨f' - 1, by omega⟩
      rw [many_stop]
    · injection hg with hg
      subst hg
      have h3 := ho.pos _ _ h1
      obtain ⟨x, rfl⟩ : ∃ x, f' = x + 1 := ⟨f' - 1, by omega⟩
      rw [many_step _ _ _ _ _ e, h1, Option.bind_some, ih _ _ x h2 (by omega)]
      rfl
theorem drop_app_le (p q : List UInt8) (j : Nat) (h : j ≤ p.length) : (p ++ q).drop j = p.drop j ++ q := by
  rw [List.drop_append_of_le_length h]
theorem many_ext {one : List UInt8 → Option Nat} (ho : Fair one) (stop : UInt8) : ∀ (f : Nat) (p q : List UInt8) (k : Nat), many one stop f p = some k → many one stop f (p ++ q) = some k := by
  intro f
  induction f with
  | zero => intro p q k h; cases h
  | succ f ih =>
    intro p q k h
    obtain ⟨g, hg, h | ⟨b, r, j, m, rfl, e, h1, h2, rfl⟩⟩ := many_cases h
    · obtain ⟨r, rfl, rfl⟩ := h
      exact many_stop _ _ _ _
    · injection hg with hg
      subst hg
      have h3 := ho.pos _ _ h1
      have h4 := ho.ext _ q _ h1
      have h5 := ih _ q _ h2
      rw [← drop_app_le _ q j h3.2] at h5
      show many one stop (f + 1) (b :: (r ++ q)) = _
      rw [many_step _ _ _ _ _ e]
      rw [show b :: (r ++ q) = (b :: r) ++ q from rfl, h4, Option.bind_some, h5]
      rfl
theorem many_cut {one : List UInt8 → Option Nat} (ho : Fair one) (stop : UInt8) : ∀ (f : Nat) (l : List UInt8) (k : Nat), many one stop f l = some k → many one stop f (l.take k) = some k := by
  intro f
  induction f with
  | zero => intro l k h; cases h
  | succ f ih =>
    intro l k h
    obtain ⟨g, hg, h | ⟨b, r, j, m, rfl, e, h1, h2, rfl⟩⟩ := many_cases h
    · obtain ⟨r, rfl, rfl⟩ := h
      exact many_stop _ _ _ _
    · injection hg with hg
      subst hg
      have h3 := ho.pos _ _ h1
      have h4 := ih _ _ h2
      have h5 : one ((b :: r).take (m + j)) = some j := by
        have h6 := ho.ext _ (((b :: r).drop j).take m) _ (ho.cut _ _ h1)
        rw [show (b :: r).take j ++ ((b :: r).drop j).take m = (b :: r).take (m + j) from by rw [Nat.add_comm m j, List.take_add]] at h6
        exact h6
      have h7 : ((b :: r).take (m + j)).drop j = ((b :: r).drop j).take m := by rw [List.drop_take, Nat.add_sub_cancel]
      have h8 : (b :: r).take (m + j) = b :: r.take (m + j - 1) := by
        obtain ⟨x, hx⟩ : ∃ x, m + j = x + 1 := ⟨m + j - 1, by omega⟩
        rw [hx]
        rfl
      rw [← h7] at h4
      rw [h8] at h4 h5 ⊢
      rw [many_step _ _ _ _ _ e, h5, Option.bind_some, h4]
      rfl
theorem many_mono {one two : List UInt8 → Option Nat} (h12 : ∀ l k, one l = some k → two l = some k) (stop : UInt8) : ∀ (f : Nat) (l : List UInt8) (k : Nat), many one stop f l = some k → many two stop f l = some k := by
  intro f
  induction f with
  | zero => intro l k h; cases h
  | succ f ih =>
    intro l k h
    obtain ⟨g, hg, h | ⟨b, r, j, m, rfl, e, h1, h2, rfl⟩⟩ := many_cases h
    · obtain ⟨r, rfl, rfl⟩ := h
      exact many_stop _ _ _ _
    · injection hg with hg
      subst hg
      rw [many_step _ _ _ _ _ e, h12 _ _ h1, Option.bind_some, ih _ _ h2]
      rfl
/-- One value, what stands within by another rule. -/
def valStep (one : List UInt8 → Option Nat) : List UInt8 → Option Nat
  | [] => none
  | b :: r =>
    if b = 110 ∨ b = 116 ∨ b = 102 then some 1
    else if b = 105 then (numAt 59 r).map (fun p => p.1 + 2)
    else if b = 115 then (numAt 58 r).bind (fun p => if 0 ≤ p.2 ∧ p.2 ≤ (r.length : Int) - p.1 - 1 then some (p.1 + 2 + p.2.toNat) else none)
    else if b = 91 ∨ b = 123 then (many one (b + 2) (r.length + 1) r).map (· + 1)
    else none
/-- Where the value at a text's head ends; so deep it may go. -/
def val : Nat → List UInt8 → Option Nat
  | 0 => valStep (fun _ => none)
  | d + 1 => valStep (val d)
theorem fair_none : Fair (fun _ => none) := ⟨fun _ _ h => by (cases h), fun _ _ _ h => by (cases h), fun _ _ h => by (cases h)⟩
/-- The ways in which there is a value. -/
def Is (one : List UInt8 → Option Nat) (l : List UInt8) (k : Nat) : Prop :=
  (∃ b r, l = b :: r ∧ (b = 110 ∨ b = 116 ∨ b = 102) ∧ k = 1) ∨
  (∃ r j x, l = 105 :: r ∧ numAt 59 r = some (j, x) ∧ k = j + 2) ∨
  (∃ r j n, l = 115 :: r ∧ numAt 58 r = some (j, ((n : Nat) : Int)) ∧ j + 1 + n ≤ r.length ∧ k = j + 2 + n) ∨
  (∃ b r m f, l = b :: r ∧ (b = 91 ∨ b = 123) ∧ many one (b + 2) f r = some m ∧ k = m + 1)
theorem Is.word {one : List UInt8 → Option Nat} (b : UInt8) (r : List UInt8) (h : b = 110 ∨ b = 116 ∨ b = 102) : Is one (b :: r) 1 := .inl ⟨b, r, rfl, h, rfl⟩
theorem Is.int {one : List UInt8 → Option Nat} (r : List UInt8) (j : Nat) (x : Int) (h : numAt 59 r = some (j, x)) : Is one (105 :: r) (j + 2) := .inr (.inl ⟨r, j, x, rfl, h, rfl⟩)
theorem Is.bytes {one : List UInt8 → Option Nat} (r : List UInt8) (j n : Nat) (h : numAt 58 r = some (j, (n : Int))) (hn : j + 1 + n ≤ r.length) : Is one (115 :: r) (j + 2 + n) := .inr (.inr (.inl ⟨r, j, n, rfl, h, hn, rfl⟩))
theorem Is.nest {one : List UInt8 → Option Nat} (b : UInt8) (r : List UInt8) (m f : Nat) (hb : b = 91 ∨ b = 123) (h : many one (b + 2) f r = some m) : Is one (b :: r) (m + 1) := .inr (.inr (.inr ⟨b, r, m, f, rfl, hb, h, rfl⟩))
theorem valStep_is {one : List UInt8 → Option Nat} {l : List UInt8} {k : Nat} (h : valStep one l = some k) : Is one l k := by
  cases l with
  | nil => cases h
  | cons b r =>
    rw [valStep] at h
    by_cases c1 : b = 110 ∨ b = 116 ∨ b = 102
    · rw [if_pos c1] at h
      injection h with h
      subst h
      exact .word b r c1
    · rw [if_neg c1] at h
      by_cases c2 : b = 105
      · subst c2
        rw [if_pos rfl] at h
        cases h1 : numAt 59 r with
        | none => rw [h1] at h; cases h
        | some p =>
          obtain ⟨j, x⟩ := p
          rw [h1] at h
          injection h with h
          subst h
          exact .int r j x h1
      · rw [if_neg c2] at h
        by_cases c3 : b = 115
        · subst c3
          rw [if_pos rfl] at h
          cases h1 : numAt 58 r with
          | none => rw [h1] at h; cases h
          | some p =>
            obtain ⟨j, x⟩ := p
            rw [h1, Option.bind_some] at h
            simp only at h
            by_cases c : 0 ≤ x ∧ x ≤ (r.length : Int) - j - 1
            · rw [if_pos c] at h
              injection h with h
              subst h
              obtain ⟨n, rfl⟩ : ∃ n : Nat, x = (n : Int) := ⟨x.toNat, by omega⟩
              exact .bytes r j n h1 (by omega)
            · rw [if_neg c] at h; cases h
        · rw [if_neg c3] at h
          by_cases c4 : b = 91 ∨ b = 123
          · rw [if_pos c4] at h
            cases h1 : many one (b + 2) (r.length + 1) r with
            | none => rw [h1] at h; cases h
            | some m =>
              rw [h1] at h
              injection h with h
              subst h
              exact .nest b r m _ c4 h1
          · rw [if_neg c4] at h; cases h
theorem is_valStep {one : List UInt8 → Option Nat} (ho : Fair one) {l : List UInt8} {k : Nat} (h : Is one l k) : valStep one l = some k := by
  rcases h with ⟨b, r, rfl, hh, rfl⟩ | ⟨r, j, x, rfl, hh, rfl⟩ | ⟨r, j, n, rfl, hh, hn, rfl⟩ | ⟨b, r, m, f, rfl, hb, hh, rfl⟩
  · rw [valStep, if_pos hh]
  · rw [valStep, if_neg (by decide), if_pos rfl, hh]
    rfl
  · rw [valStep, if_neg (by decide), if_neg (by decide), if_pos rfl, hh, Option.bind_some]
    show (if 0 ≤ (n : Int) ∧ (n : Int) ≤ (r.length : Int) - j - 1 then some (j + 2 + (n : Int).toNat) else none) = _
    rw [if_pos ⟨by omega, by omega⟩, Int.toNat_natCast]
  · have hk := many_pos ho _ _ _ _ hh
    have e : many one (b + 2) (r.length + 1) r = some m := many_fuel ho _ _ _ _ _ hh (by omega)
    have c1 : ¬ (b = 110 ∨ b = 116 ∨ b = 102) := by rcases hb with rfl | rfl <;> decide
    have c2 : b ≠ 105 := by rcases hb with rfl | rfl <;> decide
    have c3 : b ≠ 115 := by rcases hb with rfl | rfl <;> decide
    rw [valStep, if_neg c1, if_neg c2, if_neg c3, if_pos hb, e]
    rfl
theorem fair_valStep {one : List UInt8 → Option Nat} (ho : Fair one) : Fair (valStep one) := by
  refine ⟨fun l k h => ?_, fun p q k h => ?_, fun l k h => ?_⟩
  · rcases valStep_is h with ⟨b, r, rfl, hh, rfl⟩ | ⟨r, j, x, rfl, hh, rfl⟩ | ⟨r, j, n, rfl, hh, hn, rfl⟩ | ⟨b, r, m, f, rfl, hb, hh, rfl⟩
    · simp
    · have := numAt_lt hh; simp; omega
    · have := numAt_lt hh; simp; omega
    · have := many_pos ho _ _ _ _ hh; simp; omega
  · refine is_valStep ho ?_
    rcases valStep_is h with ⟨b, r, rfl, hh, rfl⟩ | ⟨r, j, x, rfl, hh, rfl⟩ | ⟨r, j, n, rfl, hh, hn, rfl⟩ | ⟨b, r, m, f, rfl, hb, hh, rfl⟩
    · exact .word b _ hh
    · exact .int _ j x (numAt_ext q hh)
    · exact .bytes _ j n (numAt_ext q hh) (by show _ ≤ (r ++ q).length; rw [List.length_append]; omega)
    · exact .nest b _ m f hb (many_ext ho _ _ _ q _ hh)
  · refine is_valStep ho ?_
    rcases valStep_is h with ⟨b, r, rfl, hh, rfl⟩ | ⟨r, j, x, rfl, hh, rfl⟩ | ⟨r, j, n, rfl, hh, hn, rfl⟩ | ⟨b, r, m, f, rfl, hb, hh, rfl⟩
    · exact .word b _ hh
    · exact .int _ j x (numAt_take hh (by omega))
    · have hj := numAt_lt hh
      have e : (115 :: r).take (j + 2 + n) = 115 :: r.take (j + 1 + n) := by
        rw [show j + 2 + n = (j + 1 + n) + 1 from by omega]
        rfl
      rw [e]
      exact .bytes _ j n (numAt_take hh (by omega)) (by rw [List.length_take]; omega)
    · exact .nest b _ m f hb (many_cut ho _ _ _ _ hh)
theorem fair_val : ∀ d, Fair (val d)
  | 0 => fair_valStep fair_none
  | d + 1 => fair_valStep (fair_val d)
theorem valStep_mono {one two : List UInt8 → Option Nat} (ho : Fair two) (h12 : ∀ l k, one l = some k → two l = some k) (l : List UInt8) (k : Nat) (h : valStep one l = some k) : valStep two l = some k := by
  refine is_valStep ho ?_
  rcases valStep_is h with ⟨b, r, rfl, hh, rfl⟩ | ⟨r, j, x, rfl, hh, rfl⟩ | ⟨r, j, n, rfl, hh, hn, rfl⟩ | ⟨b, r, m, f, rfl, hb, hh, rfl⟩
  · exact .word b _ hh
  · exact .int _ j x hh
  · exact .bytes _ j n hh hn
  · exact .nest b _ m f hb (many_mono h12 _ _ _ _ hh)
/-- Deeper is no less. -/
theorem val_mono : ∀ (d : Nat) (l : List UInt8) (k : Nat), val d l = some k → val (d + 1) l = some k
  | 0, l, k, h => valStep_mono (fair_val 0) (fun _ _ c => by (cases c)) l k h
  | d + 1, l, k, h => valStep_mono (fair_val (d + 1)) (val_mono d) l k h
theorem val_up (d e : Nat) (h : d ≤ e) (l : List UInt8) (k : Nat) (hv : val d l = some k) : val e l = some k := by
  induction e with
  | zero =>
    obtain rfl : d = 0 := by omega
    exact hv
  | succ e ih =>
    by_cases c : d = e + 1
    · subst c; exact hv
    · exact val_mono e l k (ih (by omega))
/-- No value begins with a sign that ends one. -/
theorem val_head {d : Nat} {b : UInt8} {r : List UInt8} {k : Nat} (h : val d (b :: r) = some k) : b ≠ 93 ∧ b ≠ 125 := by
  have h' : ∃ one, valStep one (b :: r) = some k := by
    cases d with
    | zero => exact ⟨_, h⟩
    | succ d => exact ⟨_, h⟩
  obtain ⟨one, h'⟩ := h'
  rcases valStep_is h' with ⟨c, q, e, hh, _⟩ | ⟨q, j, x, e, hh, _⟩ | ⟨q, j, n, e, hh, hn, _⟩ | ⟨c, q, m, f, e, hb, hh, _⟩
  · injection e with e _
    subst e
    rcases hh with rfl | rfl | rfl <;> decide
  · injection e with e _
    subst e
    decide
  · injection e with e _
    subst e
    decide
  · injection e with e _
    subst e
    rcases hb with rfl | rfl <;> decide
end Go.Proofs.YthbjeedmhgnnaaaGreat.Val
namespace Go.Proofs.YthbjeedmhgnnaaaGreat.Val

theorem items_stop (one : List UInt8 → Option Nat) (stop : UInt8) (f : Nat) (l : List UInt8) : items one stop (f + 1) (stop :: l) = [] := by
  rw [items, if_pos rfl]
theorem items_step {one : List UInt8 → Option Nat} {stop : UInt8} (f : Nat) {b : UInt8} {l : List UInt8} {k : Nat} (h : b ≠ stop) (hk : one (b :: l) = some k) : items one stop (f + 1) (b :: l) = (b :: l).take k :: items one stop f ((b :: l).drop k) := by
  rw [items, if_neg h, hk]
theorem items_flat {one : List UInt8 → Option Nat} (stop : UInt8) : ∀ (f : Nat) (l : List UInt8) (k : Nat), many one stop f l = some k → (items one stop f l).flatten ++ [stop] = l.take k := by
  intro f
  induction f with
  | zero => intro l k h; cases h
  | succ f ih =>
    intro l k h
    obtain ⟨g, hg, h | ⟨b, r, j, m, rfl, e, h1, h2, rfl⟩⟩ := many_cases h
    · obtain ⟨r, rfl, rfl⟩ := h
      rw [items_stop]
      rfl
    · injection hg with hg
      subst hg
      rw [items_step f e h1, List.flatten_cons, List.append_assoc, ih _ _ h2, Nat.add_comm m j, List.take_add]
theorem items_each {one : List UInt8 → Option Nat} (ho : Fair one) (stop : UInt8) : ∀ (f : Nat) (l : List UInt8) (k : Nat), many one stop f l = some k → ∀ p ∈ items one stop f l, one p = some p.length := by
  intro f
  induction f with
  | zero => intro l k h; cases h
  | succ f ih =>
    intro l k h p hp
    obtain ⟨g, hg, h | ⟨b, r, j, m, rfl, e, h1, h2, rfl⟩⟩ := many_cases h
    · obtain ⟨r, rfl, rfl⟩ := h
      rw [items_stop] at hp
      cases hp
    · injection hg with hg
      subst hg
      rw [items_step f e h1] at hp
      rcases List.mem_cons.1 hp with rfl | hp
      · rw [List.length_take, Nat.min_eq_left (ho.pos _ _ h1).2]
        exact ho.cut _ _ h1
      · exact ih _ _ h2 p hp
theorem items_fuel {one : List UInt8 → Option Nat} (ho : Fair one) (stop : UInt8) : ∀ (f : Nat) (l : List UInt8) (k f' : Nat), many one stop f l = some k → k ≤ f' → items one stop f' l = items one stop f l := by
  intro f
  induction f with
  | zero => intro l k f' h; cases h
  | succ f ih =>
    intro l k f' h hf
    obtain ⟨g, hg, h | ⟨b, r, j, m, rfl, e, h1, h2, rfl⟩⟩ := many_cases h
    · obtain ⟨r, rfl, rfl⟩ := h
      obtain ⟨x, rfl⟩ : ∃ x, f' = x + 1 := ⟨f' - 1, by omega⟩
      rw [items_stop, items_stop]
    · injection hg with hg
      subst hg
      have h3 := ho.pos _ _ h1
      obtain ⟨x, rfl⟩ : ∃ x, f' = x + 1 := ⟨f' - 1, by omega⟩
      rw [items_step x e h1, items_step f e h1, ih _ _ x h2 (by omega)]
/-- Values one behind the other, and a stop: these are the values. -/
theorem many_made {one : List UInt8 → Option Nat} (ho : Fair one) (stop : UInt8) (q : List UInt8) : ∀ (vs : List (List UInt8)), (∀ v ∈ vs, one v = some v.length ∧ v.head? ≠ some stop) →
    many one stop (vs.length + 1) (vs.flatten ++ stop :: q) = some (vs.flatten.length + 1) ∧ items one stop (vs.length + 1) (vs.flatten ++ stop :: q) = vs
  | [], _ => ⟨many_stop _ _ _ _, items_stop _ _ _ _⟩
  | v :: vs, hv => by
    obtain ⟨h1, h2⟩ := hv v List.mem_cons_self
    obtain ⟨ih1, ih2⟩ := many_made ho stop q vs (fun x hx => hv x (List.mem_cons_of_mem _ hx))
    have hp := ho.pos _ _ h1
    have h3 := ho.ext _ (vs.flatten ++ stop :: q) _ h1
    have e : (v :: vs).flatten ++ stop :: q = v ++ (vs.flatten ++ stop :: q) := by rw [List.flatten_cons, List.append_assoc]
    have hd : (v ++ (vs.flatten ++ stop :: q)).drop v.length = vs.flatten ++ stop :: q := by
      rw [drop_app_le _ _ _ (Nat.le_refl _), List.drop_length]
      rfl
    have ht : (v ++ (vs.flatten ++ stop :: q)).take v.length = v := by
      rw [take_app_le _ _ _ (Nat.le_refl _), List.take_length]
    cases v with
    | nil => simp at hp
    | cons b v =>
      have hb : b ≠ stop := fun c => h2 (by rw [c]; rfl)
      rw [e]
      constructor
      · show many one stop (vs.length + 1 + 1) (b :: (v ++ (vs.flatten ++ stop :: q))) = _
        rw [many_step _ _ _ _ _ hb]
        rw [show b :: (v ++ (vs.flatten ++ stop :: q)) = (b :: v) ++ (vs.flatten ++ stop :: q) from rfl, h3, Option.bind_some, hd, ih1]
        rw [List.flatten_cons, List.length_append, Option.map_some, show vs.flatten.length + 1 + (b :: v).length = (b :: v).length + vs.flatten.length + 1 from by omega]
      · show items one stop (vs.length + 1 + 1) (b :: (v ++ (vs.flatten ++ stop :: q))) = _
        rw [items_step (l := v ++ (vs.flatten ++ stop :: q)) (k := (b :: v).length) _ hb h3]
        rw [show b :: (v ++ (vs.flatten ++ stop :: q)) = (b :: v) ++ (vs.flatten ++ stop :: q) from rfl, hd, ht, ih2]
/-- The makers. -/
def nullM : List UInt8 := [110]
def intM (x : Int) : List UInt8 := 105 :: (intD x ++ [59])
def boolM (b : Bool) : List UInt8 := if b then [116] else [102]
def bytesM (s : List UInt8) : List UInt8 := 115 :: (dig s.length ++ 58 :: s)
def listM (vs : List (List UInt8)) : List UInt8 := 91 :: (vs.flatten ++ [93])
def structM (vs : List (List UInt8)) : List UInt8 := 123 :: (vs.flatten ++ [125])
theorem val_is {d : Nat} {l : List UInt8} {k : Nat} (h : Is (fun _ => none) l k) : val d l = some k := val_up 0 d (Nat.zero_le _) l k (is_valStep fair_none h)
theorem val_null (d : Nat) : val d nullM = some nullM.length := val_is (.word 110 [] (.inl rfl))
theorem val_int (d : Nat) (x : Int) (h : in64 x) : val d (intM x) = some (intM x).length := by
  have := numAt_made 59 x [] h (.inr rfl)
  have e : (intM x).length = (intD x).length + 2 := by simp [intM]
  rw [e]
  exact val_is (.int _ _ x this)
theorem val_bool (d : Nat) (b : Bool) : val d (boolM b) = some (boolM b).length := by
  cases b
  · exact val_is (.word 102 [] (.inr (.inr rfl)))
  · exact val_is (.word 116 [] (.inr (.inl rfl)))
theorem intD_nat (n : Nat) : intD (n : Int) = dig n := by
  unfold intD
  rw [if_pos (by omega), Int.toNat_natCast]
theorem val_bytes (d : Nat) (s : List UInt8) (h : s.length ≤ 9223372036854775807) : val d (bytesM s) = some (bytesM s).length := by
  have := numAt_made 58 (s.length : Int) s ⟨by omega, by omega⟩ (.inl rfl)
  rw [intD_nat] at this
  have e : (bytesM s).length = (dig s.length).length + 2 + s.length := by simp [bytesM]; omega
  rw [e]
  exact val_is (.bytes _ _ s.length this (by simp; omega))
theorem val_nest (d : Nat) (b : UInt8) (hb : b = 91 ∨ b = 123) (vs : List (List UInt8)) (h : ∀ v ∈ vs, val d v = some v.length) : val (d + 1) (b :: (vs.flatten ++ [b + 2])) = some (b :: (vs.flatten ++ [b + 2])).length ∧ items (val d) (b + 2) (vs.flatten.length + 2) (vs.flatten ++ [b + 2]) = vs := by
  have hh : ∀ v ∈ vs, val d v = some v.length ∧ v.head? ≠ some (b + 2) := by
    intro v hv
    refine ⟨h v hv, fun c => ?_⟩
    cases v with
    | nil => cases c
    | cons x v =>
      have := val_head (h _ hv)
      have hx : x = b + 2 := by simpa using c
      rcases hb with rfl | rfl
      · exact this.1 hx
      · exact this.2 hx
  obtain ⟨h1, h2⟩ := many_made (fair_val d) (b + 2) [] vs hh
  refine ⟨?_, ?_⟩
  · have e : (b :: (vs.flatten ++ [b + 2])).length = vs.flatten.length + 1 + 1 := by simp
    rw [e]
    exact is_valStep (fair_val d) (.nest b _ _ _ hb h1)
  · rw [items_fuel (fair_val d) _ _ _ _ _ h1 (by omega)]
    exact h2
theorem val_list (d : Nat) (vs : List (List UInt8)) (h : ∀ v ∈ vs, val d v = some v.length) : val (d + 1) (listM vs) = some (listM vs).length := (val_nest d 91 (.inl rfl) vs h).1
theorem val_struct (d : Nat) (vs : List (List UInt8)) (h : ∀ v ∈ vs, val d v = some v.length) : val (d + 1) (structM vs) = some (structM vs).length := (val_nest d 123 (.inr rfl) vs h).1
/-- Is a text a value's, no longer and no deeper than it may be? -/
def isVal (l : List UInt8) : Prop := l.length ≤ 65536 ∧ val 4 l = some l.length
/-- A value's kind and parts, by its first byte. -/
def tell : List UInt8 → Option (Int × List (List UInt8))
  | [] => none
  | b :: r =>
    if b = 110 then some (-1, [])
    else if b = 105 then some (0, [r.dropLast])
    else if b = 115 then (seek 58 r).map fun j => (2, [r.drop (j + 1)])
    else if b = 91 then some (3, items (val 3) 93 (r.length + 1) r)
    else if b = 123 then some (4, items (val 3) 125 (r.length + 1) r)
    else some (1, [b :: r])
theorem tell_n (r : List UInt8) : tell (110 :: r) = some (-1, []) := by rw [tell, if_pos rfl]
theorem tell_i (r : List UInt8) : tell (105 :: r) = some (0, [r.dropLast]) := by rw [tell, if_neg (by decide), if_pos rfl]
theorem tell_s (r : List UInt8) : tell (115 :: r) = (seek 58 r).map fun j => (2, [r.drop (j + 1)]) := by rw [tell, if_neg (by decide), if_neg (by decide), if_pos rfl]
theorem tell_l (r : List UInt8) : tell (91 :: r) = some (3, items (val 3) 93 (r.length + 1) r) := by rw [tell, if_neg (by decide), if_neg (by decide), if_neg (by decide), if_pos rfl]
theorem tell_o (r : List UInt8) : tell (123 :: r) = some (4, items (val 3) 125 (r.length + 1) r) := by rw [tell, if_neg (by decide), if_neg (by decide), if_neg (by decide), if_neg (by decide), if_pos rfl]
theorem tell_t (r : List UInt8) : tell (116 :: r) = some (1, [116 :: r]) := by rw [tell, if_neg (by decide), if_neg (by decide), if_neg (by decide), if_neg (by decide), if_neg (by decide)]
theorem tell_f (r : List UInt8) : tell (102 :: r) = some (1, [102 :: r]) := by rw [tell, if_neg (by decide), if_neg (by decide), if_neg (by decide), if_neg (by decide), if_neg (by decide)]
/-- A value's kind and parts. -/
def partsM (l : List UInt8) : Option (Int × List (List UInt8)) := if l.length ≤ 65536 ∧ val 4 l = some l.length then tell l else none
theorem partsM_none {l : List UInt8} (h : ¬ isVal l) : partsM l = none := by
  unfold partsM
  unfold isVal at h
  rw [if_neg h]
theorem partsM_tell {l : List UInt8} (h : isVal l) : partsM l = tell l := by
  unfold partsM
  unfold isVal at h
  rw [if_pos h]
/-- A value is what its parts make. -/
def Made (k : Int) (ps : List (List UInt8)) (l : List UInt8) : Prop :=
  (k = -1 ∧ ps = [] ∧ l = nullM) ∨ (∃ x, in64 x ∧ k = 0 ∧ ps = [intD x] ∧ l = intM x) ∨ (∃ b, k = 1 ∧ ps = [boolM b] ∧ l = boolM b) ∨ (∃ s, k = 2 ∧ ps = [s] ∧ l = bytesM s) ∨ (k = 3 ∧ l = listM ps ∧ ∀ p ∈ ps, val 3 p = some p.length) ∨ (k = 4 ∧ l = structM ps ∧ ∀ p ∈ ps, val 3 p = some p.length)
theorem take_of_nest {b : UInt8} {r : List UInt8} {m f : Nat} (h : many (val 3) (b + 2) f r = some m) (hm : m + 1 = (b :: r).length) : (items (val 3) (b + 2) (r.length + 1) r).flatten ++ [b + 2] = r ∧ ∀ p ∈ items (val 3) (b + 2) (r.length + 1) r, val 3 p = some p.length := by
  have hl : m = r.length := by simpa using hm
  have h1 := many_fuel (fair_val 3) _ _ _ _ (r.length + 1) h (by omega)
  have h2 := items_flat _ _ _ _ h1
  rw [hl, List.take_length] at h2
  exact ⟨h2, items_each (fair_val 3) _ _ _ _ h1⟩
theorem parts_made {l : List UInt8} (h : isVal l) : ∃ k ps, partsM l = some (k, ps) ∧ Made k ps l := by
  have hv : valStep (val 3) l = some l.length := h.2
  rw [partsM_tell h]
  rcases valStep_is hv with ⟨b, r, rfl, hh, hk⟩ | ⟨r, j, x, rfl, hh, hk⟩ | ⟨r, j, n, rfl, hh, hn, hk⟩ | ⟨b, r, m, f, rfl, hb, hh, hk⟩
  · have hr : r = [] := List.eq_nil_of_length_eq_zero (by simpa using hk)
    subst hr
    rcases hh with rfl | rfl | rfl
    · exact ⟨-1, [], tell_n _, .inl ⟨rfl, rfl, rfl⟩⟩
    · exact ⟨1, [[116]], tell_t _, .inr (.inr (.inl ⟨true, rfl, rfl, rfl⟩))⟩
    · exact ⟨1, [[102]], tell_f _, .inr (.inr (.inl ⟨false, rfl, rfl, rfl⟩))⟩
  · rw [numAt_some] at hh
    obtain ⟨h1, h2⟩ := hh
    obtain ⟨h3, h4⟩ := numOf_some.1 h2
    obtain ⟨h5, h6, _⟩ := seek_some h1
    have hl : r.length = j + 1 := by
      rw [List.length_cons] at hk
      omega
    have hr : r = intD x ++ [59] := by
      have : r = r.take j ++ r.drop j := (List.take_append_drop j r).symm
      rw [this, h4, List.drop_eq_getElem_cons h5, List.drop_eq_nil_of_le (by omega)]
      rw [List.getD_eq_getElem?_getD, List.getElem?_eq_getElem h5] at h6
      have h7 : r[j] = 59 := h6
      rw [h7]
    refine ⟨0, [intD x], ?_, .inr (.inl ⟨x, h3, rfl, rfl, by rw [hr]; rfl⟩)⟩
    rw [tell_i, hr, List.dropLast_concat]
  · rw [numAt_some] at hh
    obtain ⟨h1, h2⟩ := hh
    obtain ⟨h3, h4⟩ := numOf_some.1 h2
    obtain ⟨h5, h6, _⟩ := seek_some h1
    have hl : (r.drop (j + 1)).length = n := by
      rw [List.length_drop]
      rw [List.length_cons] at hk
      omega
    refine ⟨2, [r.drop (j + 1)], ?_, .inr (.inr (.inr (.inl ⟨r.drop (j + 1), rfl, rfl, ?_⟩)))⟩
    · rw [tell_s, h1]
      rfl
    · unfold bytesM
      rw [hl, ← intD_nat, h4]
      rw [List.getD_eq_getElem?_getD, List.getElem?_eq_getElem h5] at h6
      have h7 : r[j] = 58 := h6
      rw [← h7, ← List.drop_eq_getElem_cons h5, List.take_append_drop]
  · obtain ⟨h1, h2⟩ := take_of_nest hh hk.symm
    rcases hb with rfl | rfl
    · refine ⟨3, _, tell_l _, .inr (.inr (.inr (.inr (.inl ⟨rfl, ?_, h2⟩))))⟩
      unfold listM
      rw [show (93 : UInt8) = 91 + 2 from rfl, h1]
    · refine ⟨4, _, tell_o _, .inr (.inr (.inr (.inr (.inr ⟨rfl, ?_, h2⟩))))⟩
      unfold structM
      rw [show (125 : UInt8) = 123 + 2 from rfl, h1]
/-- Of what is made the parts are told. -/
theorem parts_int (x : Int) (h : in64 x) : partsM (intM x) = some (0, [intD x]) := by
  have hl := length_intD x h
  rw [partsM_tell ⟨by simp [intM]; omega, val_int 4 x h⟩]
  unfold intM
  rw [tell_i, List.dropLast_concat]
theorem parts_bytes (s : List UInt8) (hl : (bytesM s).length ≤ 65536) : partsM (bytesM s) = some (2, [s]) := by
  have h : s.length ≤ (bytesM s).length := by simp [bytesM]; omega
  rw [partsM_tell ⟨hl, val_bytes 4 s (by omega)⟩]
  unfold bytesM
  have hs : seek 58 (dig s.length ++ 58 :: s) = some (dig s.length).length := by
    refine seek_app _ _ fun b hb e => ?_
    have := dig_digit _ b hb
    rw [e] at this
    exact absurd this.2 (by decide)
  rw [tell_s, hs, Option.map_some, show (dig s.length ++ 58 :: s).drop ((dig s.length).length + 1) = s from by
    rw [show dig s.length ++ 58 :: s = (dig s.length ++ [58]) ++ s from by simp, List.drop_append_of_le_length (by simp), List.drop_eq_nil_of_le (by simp)]
    rfl]
theorem parts_null : partsM nullM = some (-1, []) := by
  rw [partsM_tell ⟨by decide, val_null 4⟩]
  exact tell_n _
theorem parts_bool (b : Bool) : partsM (boolM b) = some (1, [boolM b]) := by
  rw [partsM_tell ⟨by cases b <;> decide, val_bool 4 b⟩]
  cases b
  · exact tell_f _
  · exact tell_t _
theorem parts_list (vs : List (List UInt8)) (h : ∀ v ∈ vs, val 3 v = some v.length) (hl : (listM vs).length ≤ 65536) : partsM (listM vs) = some (3, vs) := by
  rw [partsM_tell ⟨hl, val_list 3 vs h⟩]
  unfold listM
  rw [tell_l, show (vs.flatten ++ [(93 : UInt8)]).length + 1 = vs.flatten.length + 2 from by simp]
  have := (val_nest 3 91 (.inl rfl) vs h).2
  rw [show (93 : UInt8) = 91 + 2 from rfl, this]
theorem parts_struct (vs : List (List UInt8)) (h : ∀ v ∈ vs, val 3 v = some v.length) (hl : (structM vs).length ≤ 65536) : partsM (structM vs) = some (4, vs) := by
  rw [partsM_tell ⟨hl, val_struct 3 vs h⟩]
  unfold structM
  rw [tell_o, show (vs.flatten ++ [(125 : UInt8)]).length + 1 = vs.flatten.length + 2 from by simp]
  have := (val_nest 3 123 (.inr rfl) vs h).2
  rw [show (125 : UInt8) = 123 + 2 from rfl, this]
end Go.Proofs.YthbjeedmhgnnaaaGreat.Val
namespace Go.Proofs.YthbjeedmhgnnaaaGreat.Val

/-- A text's bytes. -/
def bl (s : ByteArray) : List UInt8 := s.data.toList
theorem bl_length (s : ByteArray) : (bl s).length = s.size := Array.length_toList
theorem bl_inj {s t : ByteArray} (h : bl s = bl t) : s = t := ByteArray.ext (Array.toList_inj.1 h)
theorem bl_append (s t : ByteArray) : bl (s ++ t) = bl s ++ bl t := by
  unfold bl
  rw [ByteArray.data_append, Array.toList_append]
theorem bl_extract (s : ByteArray) (a b : Nat) : bl (s.extract a b) = ((bl s).take b).drop a := by
  unfold bl
  rw [ByteArray.data_extract, Array.toList_extract, List.extract_eq_take_drop, List.drop_take]
theorem bl_mk (l : List UInt8) : bl ⟨l.toArray⟩ = l := by
  unfold bl
  exact List.toList_toArray
theorem bl_back (s : ByteArray) : (⟨(bl s).toArray⟩ : ByteArray) = s := bl_inj (bl_mk _)
theorem bl_at (s : ByteArray) (i : Nat) (h : i < s.size) : s[i] = (bl s).getD i 0 := by
  unfold bl
  show s.data[i] = _
  rw [List.getD_eq_getElem?_getD, Array.getElem?_toList, Array.getElem?_eq_getElem h]
  rfl
theorem bl_drop (s : ByteArray) (p : Nat) (h : p < s.size) : (bl s).drop p = s[p] :: (bl s).drop (p + 1) := by
  have h' : p < (bl s).length := by rw [bl_length]; exact h
  rw [List.drop_eq_getElem_cons h', bl_at s p h, List.getD_eq_getElem?_getD, List.getElem?_eq_getElem h']
  rfl
theorem bl_drop_out (s : ByteArray) (p : Nat) (h : s.size ≤ p) : (bl s).drop p = [] := List.drop_eq_nil_of_le (by rw [bl_length]; exact h)
/-- Where the value at a place ends; -1: there is none. -/
def endO (one : List UInt8 → Option Nat) (s : ByteArray) (p : Nat) : Int :=
  match one ((bl s).drop p) with
  | none => -1
  | some k => ((p + k : Nat) : Int)
def endZ (d : Nat) (s : ByteArray) (p : Nat) : Int := endO (val d) s p
/-- Where the values at a place, and a stop, end; -1: they do not. -/
def manyZ (one : List UInt8 → Option Nat) (stop : UInt8) (s : ByteArray) (p : Nat) : Int :=
  match many one stop (s.size - p + 1) ((bl s).drop p) with
  | none => -1
  | some k => ((p + k : Nat) : Int)
theorem endO_none {one : List UInt8 → Option Nat} {s : ByteArray} {p : Nat} (h : one ((bl s).drop p) = none) : endO one s p = -1 := by
  unfold endO
  rw [h]
theorem endO_some {one : List UInt8 → Option Nat} {s : ByteArray} {p k : Nat} (h : one ((bl s).drop p) = some k) : endO one s p = ((p + k : Nat) : Int) := by
  unfold endO
  rw [h]
theorem endO_cases {one : List UInt8 → Option Nat} (ho : Fair one) (s : ByteArray) (p : Nat) (hp : p < s.size) : (endO one s p = -1 ∧ one ((bl s).drop p) = none) ∨ ∃ q : Nat, endO one s p = (q : Int) ∧ p < q ∧ q ≤ s.size ∧ one ((bl s).drop p) = some (q - p) := by
  cases h : one ((bl s).drop p) with
  | none => exact .inl ⟨endO_none h, rfl⟩
  | some k =>
    have := ho.pos _ _ h
    rw [List.length_drop, bl_length] at this
    exact .inr ⟨p + k, endO_some h, by omega, by omega, by rw [Nat.add_sub_cancel_left]⟩
theorem manyZ_out {one : List UInt8 → Option Nat} {stop : UInt8} {s : ByteArray} {p : Nat} (h : s.size ≤ p) : manyZ one stop s p = -1 := by
  unfold manyZ
  rw [bl_drop_out s p h]
  rfl
theorem manyZ_stop {one : List UInt8 → Option Nat} {stop : UInt8} {s : ByteArray} {p : Nat} (h : p < s.size) (hs : s[p] = stop) : manyZ one stop s p = ((p + 1 : Nat) : Int) := by
  unfold manyZ
  rw [bl_drop s p h, hs, many_stop]
theorem manyZ_bad {one : List UInt8 → Option Nat} {stop : UInt8} {s : ByteArray} {p : Nat} (h : p < s.size) (hs : s[p] ≠ stop) (ho : one ((bl s).drop p) = none) : manyZ one stop s p = -1 := by
  unfold manyZ
  rw [bl_drop s p h] at ho ⊢
  rw [many_step _ _ _ _ _ hs, ho]
  rfl
theorem manyZ_step {one : List UInt8 → Option Nat} (hf : Fair one) {stop : UInt8} {s : ByteArray} {p q : Nat} (h : p < s.size) (hs : s[p] ≠ stop) (hpq : p < q) (hq : q ≤ s.size) (ho : one ((bl s).drop p) = some (q - p)) : manyZ one stop s p = manyZ one stop s q := by
  have hd : ((bl s).drop p).drop (q - p) = (bl s).drop q := by rw [List.drop_drop, show p + (q - p) = q from by omega]
  unfold manyZ
  have e : many one stop (s.size - p + 1) ((bl s).drop p) = (many one stop (s.size - p) ((bl s).drop q)).map (· + (q - p)) := by
    rw [bl_drop s p h] at ho hd ⊢
    rw [many_step _ _ _ _ _ hs, ho, Option.bind_some, hd]
  rw [e]
  have hfu : many one stop (s.size - p) ((bl s).drop q) = many one stop (s.size - q + 1) ((bl s).drop q) := by
    cases h1 : many one stop (s.size - p) ((bl s).drop q) with
    | none =>
      cases h2 : many one stop (s.size - q + 1) ((bl s).drop q) with
      | none => rfl
      | some k =>
        have hk := many_pos hf _ _ _ _ h2
        rw [List.length_drop, bl_length] at hk
        have := many_fuel hf _ _ _ _ (s.size - p) h2 (by omega)
        rw [this] at h1
        cases h1
    | some k =>
      have hk := many_pos hf _ _ _ _ h1
      rw [List.length_drop, bl_length] at hk
      exact (many_fuel hf _ _ _ _ (s.size - q + 1) h1 (by omega)).symm
  rw [hfu]
  cases many one stop (s.size - q + 1) ((bl s).drop q) with
  | none => rfl
  | some k =>
    show ((p + (k + (q - p)) : Nat) : Int) = ((q + k : Nat) : Int)
    omega
/-- What may stand within at a depth: one less. -/
def below : Nat → List UInt8 → Option Nat
  | 0 => fun _ => none
  | d + 1 => val d
theorem val_below (d : Nat) : val d = valStep (below d) := by cases d <;> rfl
theorem fair_below : ∀ d, Fair (below d)
  | 0 => fair_none
  | d + 1 => fair_val d
theorem endZ_out {d : Nat} {s : ByteArray} {p : Nat} (h : s.size ≤ p) : endZ d s p = -1 := by
  refine endO_none ?_
  rw [bl_drop_out s p h, val_below]
  rfl
theorem endZ_word {d : Nat} {s : ByteArray} {p : Nat} (h : p < s.size) (hb : s[p] = 110 ∨ s[p] = 116 ∨ s[p] = 102) : endZ d s p = ((p + 1 : Nat) : Int) := by
  refine endO_some ?_
  rw [bl_drop s p h]
  exact val_is (.word _ _ hb)
theorem endZ_other {d : Nat} {s : ByteArray} {p : Nat} (h : p < s.size) (hb : s[p] ≠ 110 ∧ s[p] ≠ 116 ∧ s[p] ≠ 102 ∧ s[p] ≠ 105 ∧ s[p] ≠ 115 ∧ s[p] ≠ 91 ∧ s[p] ≠ 123) : endZ d s p = -1 := by
  obtain ⟨h1, h2, h3, h4, h5, h6, h7⟩ := hb
  refine endO_none ?_
  rw [bl_drop s p h, val_below, valStep, if_neg (fun c => by rcases c with c | c | c <;> contradiction), if_neg h4, if_neg h5, if_neg (fun c => by rcases c with c | c <;> contradiction)]
theorem endZ_nest {d : Nat} {s : ByteArray} {p : Nat} (h : p < s.size) (hb : s[p] = 91 ∨ s[p] = 123) : endZ d s p = manyZ (below d) (s[p] + 2) s (p + 1) := by
  unfold endZ endO manyZ
  rw [bl_drop s p h, val_below, valStep]
  have c1 : ¬ (s[p] = 110 ∨ s[p] = 116 ∨ s[p] = 102) := by rcases hb with e | e <;> rw [e] <;> decide
  have c2 : s[p] ≠ 105 := by rcases hb with e | e <;> rw [e] <;> decide
  have c3 : s[p] ≠ 115 := by rcases hb with e | e <;> rw [e] <;> decide
  rw [if_neg c1, if_neg c2, if_neg c3, if_pos hb]
  rw [List.length_drop, bl_length]
  cases many (below d) (s[p] + 2) (s.size - (p + 1) + 1) ((bl s).drop (p + 1)) with
  | none => rfl
  | some k =>
    show ((p + (k + 1) : Nat) : Int) = ((p + 1 + k : Nat) : Int)
    omega
/-- A sign's first place from a place on. -/
def FirstAt (s : ByteArray) (p : Nat) (c : UInt8) (k : Nat) : Prop := p ≤ k ∧ k < s.size ∧ (bl s).getD k 0 = c ∧ ∀ j, p ≤ j → j < k → (bl s).getD j 0 ≠ c
theorem getD_drop (l : List UInt8) (p j : Nat) : (l.drop p).getD j 0 = l.getD (p + j) 0 := by
  rw [List.getD_eq_getElem?_getD, List.getElem?_drop, ← List.getD_eq_getElem?_getD]
theorem seek_first {s : ByteArray} {p k : Nat} {c : UInt8} (h : FirstAt s p c k) : seek c ((bl s).drop p) = some (k - p) := by
  obtain ⟨h1, h2, h3, h4⟩ := h
  refine seek_of (by rw [List.length_drop, bl_length]; omega) ?_ ?_
  · rw [getD_drop, show p + (k - p) = k from by omega]
    exact h3
  · intro j hj
    rw [getD_drop]
    exact h4 (p + j) (by omega) (by omega)
theorem first_seek {s : ByteArray} {p k : Nat} {c : UInt8} (h : seek c ((bl s).drop p) = some k) : FirstAt s p c (p + k) := by
  obtain ⟨h1, h2, h3⟩ := seek_some h
  rw [List.length_drop, bl_length] at h1
  rw [getD_drop] at h2
  refine ⟨by omega, by omega, h2, fun j hj hk => ?_⟩
  have := h3 (j - p) (by omega)
  rw [getD_drop, show p + (j - p) = j from by omega] at this
  exact this
theorem take_drop_extract (s : ByteArray) (p k : Nat) : ((bl s).drop p).take (k - p) = bl (s.extract p k) := by
  rw [bl_extract, List.drop_take]
theorem numAt_first {s : ByteArray} {p k : Nat} {c : UInt8} (h : FirstAt s p c k) : numAt c ((bl s).drop p) = (numOf (bl (s.extract p k))).map fun x => (k - p, x) := by
  unfold numAt
  rw [seek_first h]
  simp only
  rw [take_drop_extract s p k]
/-- No such sign, or only far off: no digits up to one. -/
theorem numAt_far {s : ByteArray} {p : Nat} {c : UInt8} (h : ∀ j, p ≤ j → j < s.size → j < p + 21 → (bl s).getD j 0 ≠ c) : numAt c ((bl s).drop p) = none := by
  cases e : numAt c ((bl s).drop p) with
  | none => rfl
  | some y =>
    obtain ⟨j, x⟩ := y
    exfalso
    have h1 := numAt_lt e
    rw [numAt_some] at e
    obtain ⟨f1, f2, f3, _⟩ := first_seek e.1
    exact h (p + j) f1 f2 (by omega) f3
theorem endZ_int_far {d : Nat} {s : ByteArray} {p : Nat} (h : p < s.size) (hb : s[p] = 105) (hf : ∀ j, p + 1 ≤ j → j < s.size → j < p + 22 → (bl s).getD j 0 ≠ 59) : endZ d s p = -1 := by
  refine endO_none ?_
  rw [bl_drop s p h, hb, val_below, valStep, if_neg (by decide), if_pos rfl, numAt_far (fun j h1 h2 h3 => hf j h1 h2 (by omega))]
  rfl
theorem endZ_int {d : Nat} {s : ByteArray} {p k : Nat} (h : p < s.size) (hb : s[p] = 105) (hk : FirstAt s (p + 1) 59 k) : endZ d s p = if (numOf (bl (s.extract (p + 1) k))).isSome then ((k + 1 : Nat) : Int) else -1 := by
  have hk1 := hk.1
  have e : val d ((bl s).drop p) = (numAt 59 ((bl s).drop (p + 1))).map (fun q => q.1 + 2) := by
    rw [bl_drop s p h, hb, val_below, valStep, if_neg (by decide), if_pos rfl]
  rw [numAt_first hk] at e
  cases c : numOf (bl (s.extract (p + 1) k)) with
  | none =>
    rw [c] at e
    exact endO_none e
  | some x =>
    rw [c] at e
    show _ = ((k + 1 : Nat) : Int)
    rw [endZ, endO_some e]
    show ((p + (k - (p + 1) + 2) : Nat) : Int) = _
    omega
theorem endZ_bytes_far {d : Nat} {s : ByteArray} {p : Nat} (h : p < s.size) (hb : s[p] = 115) (hf : ∀ j, p + 1 ≤ j → j < s.size → j < p + 22 → (bl s).getD j 0 ≠ 58) : endZ d s p = -1 := by
  refine endO_none ?_
  rw [bl_drop s p h, hb, val_below, valStep, if_neg (by decide), if_neg (by decide), if_pos rfl, numAt_far (fun j h1 h2 h3 => hf j h1 h2 (by omega))]
  rfl
theorem endZ_bytes {d : Nat} {s : ByteArray} {p k : Nat} (h : p < s.size) (hb : s[p] = 115) (hk : FirstAt s (p + 1) 58 k) : endZ d s p = match numOf (bl (s.extract (p + 1) k)) with
    | none => -1
    | some x => if 0 ≤ x ∧ x ≤ (s.size : Int) - k - 1 then (k : Int) + 1 + x else -1 := by
  have hk1 := hk.1
  have hk2 := hk.2.1
  have e : val d ((bl s).drop p) = (numAt 58 ((bl s).drop (p + 1))).bind (fun q => if 0 ≤ q.2 ∧ q.2 ≤ ((((bl s).drop (p + 1)).length : Nat) : Int) - q.1 - 1 then some (q.1 + 2 + q.2.toNat) else none) := by
    rw [bl_drop s p h, hb, val_below, valStep, if_neg (by decide), if_neg (by decide), if_pos rfl]
  rw [numAt_first hk, List.length_drop, bl_length] at e
  cases c : numOf (bl (s.extract (p + 1) k)) with
  | none =>
    rw [c] at e
    exact endO_none e
  | some x =>
    rw [c] at e
    have e' : val d ((bl s).drop p) = if 0 ≤ x ∧ x ≤ (((s.size - (p + 1)) : Nat) : Int) - ((k - (p + 1) : Nat) : Int) - 1 then some ((k - (p + 1)) + 2 + x.toNat) else none := e
    show _ = if 0 ≤ x ∧ x ≤ (s.size : Int) - k - 1 then (k : Int) + 1 + x else -1
    by_cases q : 0 ≤ x ∧ x ≤ (s.size : Int) - k - 1
    · rw [if_pos (by omega)] at e'
      rw [if_pos q, endZ, endO_some e']
      omega
    · rw [if_neg (by omega)] at e'
      rw [if_neg q]
      exact endO_none e'
end Go.Proofs.YthbjeedmhgnnaaaGreat.Val
namespace Go.Proofs.YthbjeedmhgnnaaaGreat.Val
open Tree

/-- From a place on a text is values and a stop, to its end. -/
def Whole (one : List UInt8 → Option Nat) (stop : UInt8) (s : ByteArray) (p : Nat) : Prop := many one stop (s.size - p + 1) ((bl s).drop p) = some (s.size - p) ∧ p < s.size
/-- These values. -/
def itemsZ (one : List UInt8 → Option Nat) (stop : UInt8) (s : ByteArray) (p : Nat) : List (List UInt8) := items one stop (s.size - p + 1) ((bl s).drop p)
theorem Whole.last {one : List UInt8 → Option Nat} (hf : Fair one) {stop : UInt8} {s : ByteArray} {p : Nat} (h : Whole one stop s p) (hp : ¬ p < s.size - 1) : p = s.size - 1 ∧ itemsZ one stop s p = [] := by
  obtain ⟨h, hl⟩ := h
  refine ⟨by omega, ?_⟩
  have hd := bl_drop s p hl
  rw [bl_drop_out s (p + 1) (by omega)] at hd
  unfold itemsZ
  rw [hd] at h ⊢
  obtain ⟨g, hg, c | ⟨b, r, j, m, e, hb, h1, h2, hk⟩⟩ := many_cases h
  · obtain ⟨r, e, _⟩ := c
    injection e with e1 e2
    rw [e1]
    exact items_stop _ _ _ _
  · exfalso
    have hj := hf.pos _ _ h1
    have hm := many_pos hf _ _ _ _ h2
    rw [List.length_drop] at hm
    simp only [List.length_singleton] at hj hm
    omega
theorem Whole.step {one : List UInt8 → Option Nat} (hf : Fair one) {stop : UInt8} {s : ByteArray} {p : Nat} (h : Whole one stop s p) (hp : p < s.size - 1) :
    ∃ q : Nat, p < q ∧ q ≤ s.size - 1 ∧ one ((bl s).drop p) = some (q - p) ∧ Whole one stop s q ∧ itemsZ one stop s p = bl (s.extract p q) :: itemsZ one stop s q := by
  obtain ⟨h, hl⟩ := h
  have hd := bl_drop s p hl
  obtain ⟨g, hg, c | ⟨b, r, j, m, e, hb, h1, h2, hk⟩⟩ := many_cases h
  · obtain ⟨r, e, hk⟩ := c
    exfalso
    omega
  · have hj := hf.pos _ _ h1
    rw [List.length_drop, bl_length] at hj
    have hm := many_pos hf _ _ _ _ h2
    have hdd : ((bl s).drop p).drop j = (bl s).drop (p + j) := by rw [List.drop_drop]
    rw [hdd] at h2 hm
    rw [List.length_drop, bl_length] at hm
    have hw : Whole one stop s (p + j) := by
      refine ⟨?_, by omega⟩
      have := many_fuel hf _ _ _ _ (s.size - (p + j) + 1) h2 (by omega)
      rw [this]
      congr 1
      omega
    refine ⟨p + j, by omega, by omega, by rw [Nat.add_sub_cancel_left]; exact h1, hw, ?_⟩
    unfold itemsZ
    have e1 : (bl s).drop p = b :: r := e
    have ht : ((bl s).drop p).take j = bl (s.extract p (p + j)) := by
      have := take_drop_extract s p (p + j)
      rw [Nat.add_sub_cancel_left] at this
      exact this
    have hst : items one stop (s.size - p + 1) ((bl s).drop p) = ((bl s).drop p).take j :: items one stop (s.size - p) (((bl s).drop p).drop j) := by
      rw [e1] at h1 ⊢
      exact items_step _ hb h1
    rw [hst, ht, hdd, items_fuel hf _ _ _ _ (s.size - p) hw.1 (by omega)]
/-- A nest is whole from behind its first byte on. -/
theorem whole_of {s : ByteArray} (hv : isVal (bl s)) (h0 : 0 < s.size) (hb : s[0] = 91 ∨ s[0] = 123) : Whole (val 3) (s[0] + 2) s 1 := by
  have h := hv.2
  rw [bl_length] at h
  have hd := bl_drop s 0 h0
  rw [List.drop_zero] at hd
  rw [hd] at h
  have h' : valStep (val 3) (s[0] :: (bl s).drop 1) = some s.size := h
  rcases valStep_is h' with ⟨c, r, e, hh, _⟩ | ⟨r, j, x, e, hh, _⟩ | ⟨r, j, n, e, hh, hn, _⟩ | ⟨c, r, m, f, e, hc, hh, hk⟩
  · injection e with e1 _
    rw [← e1] at hh
    rcases hb with c | c <;> rw [c] at hh <;> exact absurd hh (by decide)
  · injection e with e1 _
    rcases hb with c | c <;> rw [c] at e1 <;> exact absurd e1 (by decide)
  · injection e with e1 _
    rcases hb with c | c <;> rw [c] at e1 <;> exact absurd e1 (by decide)
  · injection e with e1 e2
    rw [← e1, ← e2] at hh
    have hm := many_pos (fair_val 3) _ _ _ _ hh
    refine ⟨?_, by omega⟩
    rw [many_fuel (fair_val 3) _ _ _ _ (s.size - 1 + 1) hh (by omega)]
    congr 1
    omega
/-- A value's kind and parts, as texts. -/
def partsS (s : ByteArray) : Option (Int × List ByteArray) := (partsM (bl s)).map fun p => (p.1, p.2.map fun l => ⟨l.toArray⟩)
theorem partsS_none {s : ByteArray} (h : ¬ isVal (bl s)) : partsS s = none := by
  unfold partsS
  rw [partsM_none h]
  rfl
theorem isVal_iff (s : ByteArray) : isVal (bl s) ↔ s.size ≤ 65536 ∧ endZ 4 s 0 = (s.size : Int) := by
  unfold isVal
  rw [bl_length]
  constructor
  · rintro ⟨h1, h2⟩
    refine ⟨h1, ?_⟩
    have : val 4 ((bl s).drop 0) = some s.size := by rw [List.drop_zero]; exact h2
    rw [endZ, endO_some this, Nat.zero_add]
  · rintro ⟨h1, h2⟩
    refine ⟨h1, ?_⟩
    cases c : val 4 ((bl s).drop 0) with
    | none => rw [endZ, endO_none c] at h2; omega
    | some k =>
      rw [endZ, endO_some c] at h2
      rw [List.drop_zero] at c
      rw [c]
      congr 1
      omega
theorem mk_bl (s : ByteArray) : (⟨(bl s).toArray⟩ : ByteArray) = s := bl_back s
theorem first_byte {s : ByteArray} (h : 0 < s.size) : bl s = s[0] :: (bl s).drop 1 := by
  have hd := bl_drop s 0 h
  rw [List.drop_zero] at hd
  exact hd
theorem isVal_pos {s : ByteArray} (h : isVal (bl s)) : 0 < s.size := by
  have := ((fair_val 4).pos _ _ h.2).1
  rw [bl_length] at this
  omega
theorem isVal_bytes {s : ByteArray} (h : isVal (bl s)) : s[0]'(isVal_pos h) = 110 ∨ s[0]'(isVal_pos h) = 105 ∨ s[0]'(isVal_pos h) = 116 ∨ s[0]'(isVal_pos h) = 102 ∨ s[0]'(isVal_pos h) = 115 ∨ s[0]'(isVal_pos h) = 91 ∨ s[0]'(isVal_pos h) = 123 := by
  have h0 := isVal_pos h
  have hv : valStep (val 3) (bl s) = some (bl s).length := h.2
  rw [first_byte h0] at hv
  rcases valStep_is hv with ⟨c, r, e, hh, _⟩ | ⟨r, j, x, e, hh, _⟩ | ⟨r, j, n, e, hh, hn, _⟩ | ⟨c, r, m, f, e, hc, hh, hk⟩
  · injection e with e1 _
    rw [← e1] at hh
    rcases hh with c | c | c
    · exact .inl c
    · exact .inr (.inr (.inl c))
    · exact .inr (.inr (.inr (.inl c)))
  · injection e with e1 _
    exact .inr (.inl e1)
  · injection e with e1 _
    exact .inr (.inr (.inr (.inr (.inl e1))))
  · injection e with e1 _
    rw [← e1] at hc
    rcases hc with c | c
    · exact .inr (.inr (.inr (.inr (.inr (.inl c)))))
    · exact .inr (.inr (.inr (.inr (.inr (.inr c)))))
theorem partsS_tell {s : ByteArray} (h : isVal (bl s)) {k : Int} {ps : List (List UInt8)} (ht : tell (bl s) = some (k, ps)) : partsS s = some (k, ps.map fun l => ⟨l.toArray⟩) := by
  unfold partsS
  rw [partsM_tell h, ht]
  rfl
theorem partsS_n {s : ByteArray} (h : isVal (bl s)) (hb : s[0]'(isVal_pos h) = 110) : partsS s = some (-1, []) := by
  refine partsS_tell h (ps := []) ?_
  rw [first_byte (isVal_pos h), hb]
  exact tell_n _
theorem partsS_w {s : ByteArray} (h : isVal (bl s)) (hb : s[0]'(isVal_pos h) = 116 ∨ s[0]'(isVal_pos h) = 102) : partsS s = some (1, [s]) := by
  have e := partsS_tell h (k := 1) (ps := [bl s]) (by
    have hd := first_byte (isVal_pos h)
    rcases hb with c | c
    · rw [c] at hd
      rw [hd]
      exact tell_t _
    · rw [c] at hd
      rw [hd]
      exact tell_f _)
  rw [e]
  show some (1, [(⟨(bl s).toArray⟩ : ByteArray)]) = _
  rw [mk_bl]
theorem partsS_i {s : ByteArray} (h : isVal (bl s)) (hb : s[0]'(isVal_pos h) = 105) : partsS s = some (0, [s.extract 1 (s.size - 1)]) := by
  have hd := first_byte (isVal_pos h)
  rw [hb] at hd
  have e := partsS_tell h (k := 0) (ps := [((bl s).drop 1).dropLast]) (by
    generalize (bl s).drop 1 = r at hd
    rw [hd]
    exact tell_i _)
  rw [e]
  have e2 : ((bl s).drop 1).dropLast = bl (s.extract 1 (s.size - 1)) := by
    rw [bl_extract, List.dropLast_eq_take, List.length_drop, bl_length, List.drop_take]
  rw [e2]
  show some (0, [(⟨(bl (s.extract 1 (s.size - 1))).toArray⟩ : ByteArray)]) = _
  rw [mk_bl]
theorem partsS_s {s : ByteArray} (h : isVal (bl s)) (hb : s[0]'(isVal_pos h) = 115) {k : Nat} (hk : FirstAt s 1 58 k) : partsS s = some (2, [s.extract (k + 1) s.size]) := by
  have hd := first_byte (isVal_pos h)
  rw [hb] at hd
  have h1 := hk.1
  have e := partsS_tell h (k := 2) (ps := [((bl s).drop 1).drop (k - 1 + 1)]) (by
    have hs := seek_first hk
    generalize (bl s).drop 1 = r at hd hs
    rw [hd, tell_s, hs]
    rfl)
  rw [e]
  have e2 : ((bl s).drop 1).drop (k - 1 + 1) = bl (s.extract (k + 1) s.size) := by
    rw [bl_extract, List.drop_drop, show 1 + (k - 1 + 1) = k + 1 from by omega, ← bl_length, List.take_length]
  rw [e2]
  show some (2, [(⟨(bl (s.extract (k + 1) s.size)).toArray⟩ : ByteArray)]) = _
  rw [mk_bl]
/-- There is such a place. -/
theorem first_colon {s : ByteArray} (h : isVal (bl s)) (hb : s[0]'(isVal_pos h) = 115) : ∃ k, FirstAt s 1 58 k ∧ k ≤ 21 := by
  have h0 := isVal_pos h
  have hv : valStep (val 3) (bl s) = some (bl s).length := h.2
  rw [first_byte h0, hb] at hv
  rcases valStep_is hv with ⟨c, r, e, hh, _⟩ | ⟨r, j, x, e, hh, _⟩ | ⟨r, j, n, e, hh, hn, _⟩ | ⟨c, r, m, f, e, hc, hh, hk⟩
  · injection e with e1 _
    rw [← e1] at hh
    exact absurd hh (by decide)
  · injection e with e1 _
    exact absurd e1 (by decide)
  · injection e with e1 e2
    rw [← e2] at hh
    have hj := numAt_lt hh
    rw [numAt_some] at hh
    exact ⟨1 + j, first_seek hh.1, by omega⟩
  · injection e with e1 _
    rw [← e1] at hc
    exact absurd hc (by decide)
theorem partsS_l {s : ByteArray} (h : isVal (bl s)) (hb : s[0]'(isVal_pos h) = 91) : partsS s = some (3, (itemsZ (val 3) 93 s 1).map fun l => ⟨l.toArray⟩) := by
  have hd := first_byte (isVal_pos h)
  rw [hb] at hd
  refine partsS_tell h ?_
  unfold itemsZ
  have hl : ((bl s).drop 1).length = s.size - 1 := by rw [List.length_drop, bl_length]
  rw [← hl]
  generalize (bl s).drop 1 = r at hd
  rw [hd]
  exact tell_l _
theorem partsS_o {s : ByteArray} (h : isVal (bl s)) (hb : s[0]'(isVal_pos h) = 123) : partsS s = some (4, (itemsZ (val 3) 125 s 1).map fun l => ⟨l.toArray⟩) := by
  have hd := first_byte (isVal_pos h)
  rw [hb] at hd
  refine partsS_tell h ?_
  unfold itemsZ
  have hl : ((bl s).drop 1).length = s.size - 1 := by rw [List.length_drop, bl_length]
  rw [← hl]
  generalize (bl s).drop 1 = r at hd
  rw [hd]
  exact tell_o _
/-- Which values fit a node; so far down it is looked. -/
def fitsF (ns : List Nd) : Nat → Nat → ByteArray → Bool
  | 0, _, _ => false
  | f + 1, a, v =>
    match partsS v with
    | none => false
    | some (k, ps) =>
      if k < 0 then (nd ns a).null
      else if k ≠ (nd ns a).kind then false
      else if k = 2 then decide ((ps.getD 0 ByteArray.empty).size ≤ 16)
      else if k = 3 then decide (ps.length ≤ 64) && ps.all (fitsF ns f ((kids ns a).getD 0 0))
      else if k = 4 then decide (ps.length = (kids ns a).length) && ((kids ns a).zip ps).all fun q => fitsF ns f q.1 q.2
      else true
def fitsZ (ns : List Nd) (a : Int) (v : ByteArray) : Bool := decide (0 ≤ a ∧ a < (ns.length : Int)) && (may ns && fitsF ns 8 a.toNat v)
end Go.Proofs.YthbjeedmhgnnaaaGreat.Val
namespace Go.Proofs.YthbjeedmhgnnaaaGreat.Val
open Go.RowKit

/-- What is read of digits up to a place, with the sign. -/
def evalW (l : List UInt8) (i : Nat) : Int := if l.getD 0 0 = 45 then - evalN ((l.drop 1).take (i - 1)) else evalN (l.take i)
theorem evalW_zero (l : List UInt8) : evalW l 0 = 0 := by
  unfold evalW
  split
  · simp [evalN_nil]
  · rw [List.take_zero, evalN_nil]
theorem evalW_one (l : List UInt8) (h : l.getD 0 0 = 45) : evalW l 1 = 0 := by
  unfold evalW
  rw [if_pos h]
  simp [evalN_nil]
theorem evalW_all (l : List UInt8) : evalW l l.length = evalZ l := by
  unfold evalW
  by_cases h : l.getD 0 0 = 45
  · rw [if_pos h]
    have hl : 0 < l.length := by
      cases l with
      | nil => exact absurd h (by decide)
      | cons b r => exact Nat.succ_pos _
    rw [evalZ_sign h hl, List.take_of_length_le (by rw [List.length_drop]; exact Nat.le_refl _)]
  · rw [if_neg h, evalZ_plain h, List.take_length]
theorem evalW_neg (l : List UInt8) (i : Nat) (h : l.getD 0 0 = 45) (h1 : 1 ≤ i) (hi : i < l.length) : evalW l (i + 1) = 10 * evalW l i - (((l.getD i 0).toNat : Int) - 48) := by
  unfold evalW
  rw [if_pos h, if_pos h]
  have hd : i - 1 < (l.drop 1).length := by rw [List.length_drop]; omega
  have := evalN_take_succ (l.drop 1) (i - 1) hd
  rw [show i + 1 - 1 = i - 1 + 1 from by omega, this]
  have e : (l.drop 1).getD (i - 1) 0 = l.getD i 0 := by
    rw [List.getD_eq_getElem?_getD, List.getElem?_drop, ← List.getD_eq_getElem?_getD, show 1 + (i - 1) = i from by omega]
  rw [e]
  omega
theorem evalW_pos (l : List UInt8) (i : Nat) (h : l.getD 0 0 ≠ 45) (hi : i < l.length) : evalW l (i + 1) = 10 * evalW l i + (((l.getD i 0).toNat : Int) - 48) := by
  unfold evalW
  rw [if_neg h, if_neg h]
  exact evalN_take_succ l i hi
/-- A number within 64 bits that is another round the corner. -/
def At64 (x e : Int) : Prop := in64 x ∧ (x - e) % 18446744073709551616 = 0
theorem At64.zero : At64 0 0 := ⟨⟨by omega, by omega⟩, rfl⟩
theorem At64.neg {x e d y f : Int} (h : At64 x e) (hy : y = wrap64 (wrap64 (10 * x) - d)) (hf : f = 10 * e - d) : At64 y f := by
  subst hy hf
  unfold At64 in64 wrap64 at *
  omega
theorem At64.pos {x e d y f : Int} (h : At64 x e) (hy : y = wrap64 (wrap64 (10 * x) + d)) (hf : f = 10 * e + d) : At64 y f := by
  subst hy hf
  unfold At64 in64 wrap64 at *
  omega
end Go.Proofs.YthbjeedmhgnnaaaGreat.Val
namespace Go.Proofs.YthbjeedmhgnnaaaGreat.Plain
open Go.RowKit

theorem byte_lt (b : UInt8) : b.toNat < 256 := b.toNat_lt

/-- The n lowest bytes of x, the lowest first. -/
def low (x n : Nat) : List UInt8 := (List.range n).map fun i => UInt8.ofNat (x / 256 ^ i)
/-- The same, the first k of them laid, zeros behind. -/
def lowTo (x n k : Nat) : List UInt8 := (List.range n).map fun i => if i < k then UInt8.ofNat (x / 256 ^ i) else 0
theorem length_low (x n : Nat) : (low x n).length = n := by simp [low]
theorem length_lowTo (x n k : Nat) : (lowTo x n k).length = n := by simp [lowTo]
theorem lowTo_zero (x n : Nat) : lowTo x n 0 = List.replicate n 0 := by
  apply List.ext_getElem <;> simp [lowTo]
theorem lowTo_succ (x n k : Nat) : lowTo x n (k + 1) = (lowTo x n k).set k (UInt8.ofNat (x / 256 ^ k)) := by
  apply List.ext_getElem
  · simp [lowTo]
  · intro i h1 h2
    simp only [lowTo, List.getElem_map, List.getElem_range, List.getElem_set]
    by_cases e : k = i
    · subst e; simp
    · by_cases h : i < k
      · rw [if_pos (by omega), if_neg e, if_pos h]
      · rw [if_neg (by omega), if_neg e, if_neg h]
theorem lowTo_all (x n : Nat) : lowTo x n n = low x n := by
  apply List.ext_getElem
  · simp [lowTo, low]
  · intro i h1 h2
    simp only [lowTo, low, List.getElem_map, List.getElem_range]
    rw [if_pos (by simpa [lowTo] using h1)]

/-- The number that k bytes from a on tell, the lowest first. -/
def val (l : List UInt8) (a : Nat) : Nat → Nat
  | 0 => 0
  | k + 1 => val l a k + (l.getD (a + k) 0).toNat * 256 ^ k
theorem val_lt (l : List UInt8) (a k : Nat) : val l a k < 256 ^ k := by
  induction k with
  | zero => simp [val]
  | succ k ih =>
    rw [val, Nat.pow_succ]
    have h := byte_lt (l.getD (a + k) 0)
    have h2 : (l.getD (a + k) 0).toNat * 256 ^ k ≤ 255 * 256 ^ k := Nat.mul_le_mul_right _ (by omega)
    omega
theorem val_cons (l : List UInt8) (a k : Nat) : val l a (k + 1) = (l.getD a 0).toNat + 256 * val l (a + 1) k := by
  induction k with
  | zero => simp [val]
  | succ k ih =>
    rw [val, ih, val, Nat.pow_succ]
    have e : a + 1 + k = a + (k + 1) := by omega
    rw [e, Nat.mul_add, Nat.add_assoc]
    congr 2
    rw [Nat.mul_comm (256 ^ k) 256, ← Nat.mul_assoc, ← Nat.mul_assoc, Nat.mul_comm _ 256]
theorem val_congr (l m : List UInt8) (a b k : Nat) (h : ∀ i, i < k → l.getD (a + i) 0 = m.getD (b + i) 0) : val l a k = val m b k := by
  induction k with
  | zero => rfl
  | succ k ih => rw [val, val, ih (fun i hi => h i (by omega)), h k (by omega)]
/-- What stands behind others. -/
theorem getD_behind (p m q : List UInt8) (i : Nat) (h : i < m.length) : (p ++ (m ++ q)).getD (p.length + i) 0 = m.getD i 0 := by
  rw [List.getD_eq_getElem?_getD, List.getD_eq_getElem?_getD, List.getElem?_append_right (by omega), List.getElem?_append_left (by omega)]
  congr 2
  omega
/-- What k bytes from a on tell at seven bits in a byte. -/
def v7 (l : List UInt8) (a : Nat) : Nat → Nat
  | 0 => 0
  | k + 1 => v7 l a k + (l.getD (a + k) 0).toNat % 128 * 128 ^ k
/-- A number at seven bits in a byte, the lowest first, 128 more in all but the last one; at most f + 1 of them. -/
def vbF : Nat → Nat → List UInt8
  | 0, x => [UInt8.ofNat x]
  | f + 1, x => if x < 128 then [UInt8.ofNat x] else UInt8.ofNat (x % 128 + 128) :: vbF f (x / 128)
/-- A number in as few bytes as can be. -/
def vb (x : Nat) : List UInt8 := vbF x x
/-- Most. -/
def most : Nat := 2147483647

/-- What the bytes from a on tell, from the one numbered k on, of at most f more: the number, where it ends, and whether it is one. -/
def gv (l : List UInt8) (a : Nat) : Nat → Nat → Nat × Nat × Nat
  | 0, _ => (0, 0, 300)
  | f + 1, k =>
    if a + k < l.length then
      if 128 ≤ (l.getD (a + k) 0).toNat then gv l a f (k + 1)
      else if (0 < k ∧ (l.getD (a + k) 0).toNat = 0) ∨ most < v7 l a (k + 1) then (0, 0, 300) else (v7 l a (k + 1), a + k + 1, 0)
    else (0, 0, 300)
theorem gv_no (l : List UInt8) (a f k : Nat) (h : a + k < l.length) (hb : (l.getD (a + k) 0).toNat < 128) (hn : (0 < k ∧ (l.getD (a + k) 0).toNat = 0) ∨ most < v7 l a (k + 1)) : gv l a (f + 1) k = (0, 0, 300) := by
  rw [gv, if_pos h, if_neg (by omega), if_pos hn]
theorem or_nat (x b i : Nat) (h : x < 2 ^ i) : x ||| b * 2 ^ i = x + b * 2 ^ i := by
  rw [Nat.or_comm, ← Nat.shiftLeft_eq, ← Nat.shiftLeft_add_eq_or_of_lt h, Nat.add_comm]
theorem or_u64 (x b i : Nat) (hx : x < 2 ^ i) (h : x + b * 2 ^ i < 2 ^ 64) : bits .or .u64 (x : Int) ((b * 2 ^ i : Nat) : Int) = ((x + b * 2 ^ i : Nat) : Int) := by
  rw [(bits_nat .u64 64 (by decide) (fun n h0 h1 => by rw [IntKind.wrap_u64]; omega) x (b * 2 ^ i) (by omega) (by omega)).2, or_nat x b i hx]
/-- The other way round: what was moved up, and a byte. -/
theorem or_up (x b i : Nat) (hb : b < 2 ^ i) (h : x * 2 ^ i + b < 2 ^ 64) : bits .or .u64 ((x * 2 ^ i : Nat) : Int) (b : Int) = ((x * 2 ^ i + b : Nat) : Int) := by
  rw [(bits_nat .u64 64 (by decide) (fun n h0 h1 => by rw [IntKind.wrap_u64]; omega) (x * 2 ^ i) b (by omega) (by omega)).2, Nat.or_comm, or_nat b x i hb, Nat.add_comm]
theorem pow8 (k : Nat) : 256 ^ k = 2 ^ (8 * k) := by rw [Nat.pow_mul]
theorem and_mask (x : Int) (j : Nat) (hj : j < 63) (m : Int) (hm : m = ((2 ^ j - 1 : Nat) : Int)) : bits .and .i64 x m = x % ((2 ^ j : Nat) : Int) := by
  subst hm
  have hp : 2 ^ j ≤ 4611686018427387904 := Nat.pow_le_pow_right (n := 2) (j := 62) (by decide) (by omega)
  have hp0 : 0 < 2 ^ j := Nat.pos_of_ne_zero (by simp)
  unfold bits
  have e : (BitVec.ofInt IntKind.i64.bits x &&& BitVec.ofInt IntKind.i64.bits ((2 ^ j - 1 : Nat) : Int)).toNat = (x % ((2 ^ j : Nat) : Int)).toNat := by
    rw [BitVec.toNat_and, BitVec.toNat_ofInt, BitVec.toNat_ofInt]
    have e1 : (((2 ^ j - 1 : Nat) : Int) % ((2 ^ IntKind.i64.bits : Nat) : Int)).toNat = 2 ^ j - 1 := by
      rw [← Int.natCast_emod, Int.toNat_natCast]
      exact Nat.mod_eq_of_lt (by show _ < 2 ^ 64; omega)
    rw [e1, Nat.and_two_pow_sub_one_eq_mod]
    have hd : ((2 ^ j : Nat) : Int) ∣ ((2 ^ IntKind.i64.bits : Nat) : Int) := by
      refine Int.natCast_dvd_natCast.2 (Nat.pow_dvd_pow 2 ?_)
      show j ≤ 64
      omega
    have hn : 0 ≤ x % ((2 ^ IntKind.i64.bits : Nat) : Int) := Int.emod_nonneg _ (by decide)
    have h2 := Int.emod_emod_of_dvd x hd
    rw [← h2]
    generalize x % ((2 ^ IntKind.i64.bits : Nat) : Int) = y at *
    obtain ⟨n, rfl⟩ := Int.eq_ofNat_of_zero_le hn
    rw [← Int.natCast_emod]
    simp only [Int.toNat_natCast]
  simp only [e]
  have hr0 : 0 ≤ x % ((2 ^ j : Nat) : Int) := Int.emod_nonneg _ (by omega)
  have hr1 : x % ((2 ^ j : Nat) : Int) < ((2 ^ j : Nat) : Int) := Int.emod_lt_of_pos _ (by omega)
  rw [Int.toNat_of_nonneg hr0, IntKind.wrap_i64]
  generalize 2 ^ j = q at *
  omega
theorem and10 (x : Int) : bits .and .i64 x 1023 = x % 1024 := and_mask x 10 (by decide) _ (by decide)
theorem and7 (x : Int) : bits .and .i64 x 127 = x % 128 := and_mask x 7 (by decide) _ (by decide)
theorem and1 (x : Int) : bits .and .i64 x 1 = x % 2 := and_mask x 1 (by decide) _ (by decide)

theorem step8 (z b k : Nat) (hk : k < 8) (hz : z < 256 ^ k) (hb : b < 256) : bits .or .u64 (z : Int) (IntKind.u64.wrap ((b : Int) * 2 ^ (8 * k))) = ((z + b * 256 ^ k : Nat) : Int) := by
  have h1 : b * 256 ^ k ≤ 255 * 256 ^ k := Nat.mul_le_mul_right _ (by omega)
  have h2 : 256 ^ (k + 1) ≤ 256 ^ 8 := Nat.pow_le_pow_right (by decide) (by omega)
  rw [Nat.pow_succ] at h2
  rw [pow8 k] at *
  have e : IntKind.u64.wrap ((b : Int) * 2 ^ (8 * k)) = ((b * 2 ^ (8 * k) : Nat) : Int) := by
    rw [IntKind.wrap_u64, show ((b : Int) * 2 ^ (8 * k)) = ((b * 2 ^ (8 * k) : Nat) : Int) from by simp]
    omega
  rw [e, or_u64 z b (8 * k) hz (by omega)]
/-- A byte of an int, moved down: its two's complement's. -/
theorem shr_byte (x : Int) (X k : Nat) (hX : IntKind.u64.wrap x = (X : Int)) (hk : k < 8) : x / 2 ^ (8 * k) % 256 = ((X / 256 ^ k : Nat) : Int) % 256 := by
  rw [IntKind.wrap_u64] at hX
  match k, hk with
  | 0, _ => simp; omega
  | 1, _ => simp; omega
  | 2, _ => simp; omega
  | 3, _ => simp; omega
  | 4, _ => simp; omega
  | 5, _ => simp; omega
  | 6, _ => simp; omega
  | 7, _ => simp; omega
end Go.Proofs.YthbjeedmhgnnaaaGreat.Plain
namespace Go.Proofs.YthbjeedmhgnnaaaGreat.BitP
open Go.RowKit

theorem and_mask (x : Int) (j : Nat) (hj : j < 63) (m : Int) (hm : m = ((2 ^ j - 1 : Nat) : Int)) : bits .and .i64 x m = x % ((2 ^ j : Nat) : Int) := by
  subst hm
  have hp : 2 ^ j ≤ 4611686018427387904 := Nat.pow_le_pow_right (n := 2) (j := 62) (by decide) (by omega)
  have hp0 : 0 < 2 ^ j := Nat.pos_of_ne_zero (by simp)
  unfold bits
  have e : (BitVec.ofInt IntKind.i64.bits x &&& BitVec.ofInt IntKind.i64.bits ((2 ^ j - 1 : Nat) : Int)).toNat = (x % ((2 ^ j : Nat) : Int)).toNat := by
    rw [BitVec.toNat_and, BitVec.toNat_ofInt, BitVec.toNat_ofInt]
    have e1 : (((2 ^ j - 1 : Nat) : Int) % ((2 ^ IntKind.i64.bits : Nat) : Int)).toNat = 2 ^ j - 1 := by
      rw [← Int.natCast_emod, Int.toNat_natCast]
      exact Nat.mod_eq_of_lt (by show _ < 2 ^ 64; omega)
    rw [e1, Nat.and_two_pow_sub_one_eq_mod]
    have hd : ((2 ^ j : Nat) : Int) ∣ ((2 ^ IntKind.i64.bits : Nat) : Int) := by
      refine Int.natCast_dvd_natCast.2 (Nat.pow_dvd_pow 2 ?_)
      show j ≤ 64
      omega
    have hn : 0 ≤ x % ((2 ^ IntKind.i64.bits : Nat) : Int) := Int.emod_nonneg _ (by decide)
    have h2 := Int.emod_emod_of_dvd x hd
    rw [← h2]
    generalize x % ((2 ^ IntKind.i64.bits : Nat) : Int) = y at *
    obtain ⟨n, rfl⟩ := Int.eq_ofNat_of_zero_le hn
    rw [← Int.natCast_emod]
    simp only [Int.toNat_natCast]
  simp only [e]
  have hr0 : 0 ≤ x % ((2 ^ j : Nat) : Int) := Int.emod_nonneg _ (by omega)
  have hr1 : x % ((2 ^ j : Nat) : Int) < ((2 ^ j : Nat) : Int) := Int.emod_lt_of_pos _ (by omega)
  rw [Int.toNat_of_nonneg hr0, IntKind.wrap_i64]
  generalize 2 ^ j = q at *
  omega
theorem and10 (x : Int) : bits .and .i64 x 1023 = x % 1024 := and_mask x 10 (by decide) _ (by decide)

/-- What a place that is told by any int, held against a bound, comes to. -/
theorem rest (x m : Int) (h : 0 < m) : ∃ k, (IntKind.u64.wrap x).tmod m = k ∧ 0 ≤ k ∧ k < m := by
  have h0 := wrap_u64_nonneg x
  rw [Int.tmod_eq_emod_of_nonneg h0]
  exact ⟨_, rfl, Int.emod_nonneg _ (by omega), Int.emod_lt_of_pos _ h⟩
theorem and7 (n : Nat) : bits .and .u64 (n : Int) 7 = ((n % 8 : Nat) : Int) := by
  unfold bits
  have e : (BitVec.ofInt IntKind.u64.bits (n : Int) &&& BitVec.ofInt IntKind.u64.bits 7).toNat = n % 8 := by
    rw [BitVec.toNat_and, BitVec.toNat_ofInt, BitVec.toNat_ofInt]
    have e1 : ((7 : Int) % ((2 ^ IntKind.u64.bits : Nat) : Int)).toNat = 2 ^ 3 - 1 := by decide
    have e2 : ((n : Int) % ((2 ^ IntKind.u64.bits : Nat) : Int)).toNat = n % 2 ^ 64 := by
      rw [← Int.natCast_emod, Int.toNat_natCast]; rfl
    rw [e1, e2, Nat.and_two_pow_sub_one_eq_mod]
    omega
  simp only [e]
  rw [IntKind.wrap_u64]
  omega

theorem and1_all : ∀ x : Fin 256, ∀ r : Fin 8, (bits .and .u8 ((x.val / 2 ^ r.val : Nat) : Int) 1 == 1) = x.val.testBit r.val := by decide +kernel
theorem and1 (x r : Nat) (hx : x < 256) (hr : r < 8) : (bits .and .u8 ((x : Int) / 2 ^ r) 1 == 1) = x.testBit r := by
  have := and1_all ⟨x, hx⟩ ⟨r, hr⟩
  simpa using this

/-- A byte with one bit turned on or off. -/
def turn (x r : Nat) (on : Bool) : Nat := if on then x ||| 2 ^ r else x &&& (255 ^^^ 2 ^ r)
theorem or_all : ∀ x : Fin 256, ∀ r : Fin 8, bits .or .u8 (x.val : Int) ((2 ^ r.val % 256 : Nat) : Int) = ((turn x.val r.val true : Nat) : Int) := by decide +kernel
theorem or_byte (x r : Nat) (hx : x < 256) (hr : r < 8) : bits .or .u8 (x : Int) (2 ^ r % 256) = ((turn x r true : Nat) : Int) := by
  have := or_all ⟨x, hx⟩ ⟨r, hr⟩
  simpa using this
theorem turn_lt (x r : Nat) (on : Bool) (hx : x < 256) (hr : r < 8) : turn x r on < 256 := by
  have hp : 2 ^ r < 2 ^ 8 := Nat.pow_lt_pow_right (by decide) hr
  unfold turn
  split
  · exact Nat.or_lt_two_pow (n := 8) hx hp
  · exact Nat.lt_of_le_of_lt Nat.and_le_left hx
/-- Bit number i of bytes, the lowest of each first. -/
def bit (l : List UInt8) (i : Nat) : Bool := (l.getD (i / 8) 0).toNat.testBit (i % 8)
/-- The bytes with one bit turned on or off. -/
def setB (l : List UInt8) (i : Nat) (on : Bool) : List UInt8 := l.set (i / 8) (UInt8.ofNat (turn (l.getD (i / 8) 0).toNat (i % 8) on))
/-- How many of n bits from a on are 1. -/
def cnt (l : List UInt8) (a : Nat) : Nat → Nat
  | 0 => 0
  | n + 1 => cnt l a n + if bit l (a + n) then 1 else 0
theorem byte_lt (b : UInt8) : b.toNat < 256 := b.toNat_lt
theorem length_setB (l : List UInt8) (i : Nat) (on : Bool) : (setB l i on).length = l.length := by simp [setB]
theorem setB_byte (l : List UInt8) (i : Nat) (on : Bool) : (UInt8.ofNat (turn (l.getD (i / 8) 0).toNat (i % 8) on)).toNat = turn (l.getD (i / 8) 0).toNat (i % 8) on := by
  have := turn_lt (l.getD (i / 8) 0).toNat (i % 8) on (byte_lt _) (Nat.mod_lt _ (by decide))
  simp only [UInt8.toNat_ofNat']
  exact Nat.mod_eq_of_lt this
theorem byte_ext (a b : UInt8) (h : ∀ r, r < 8 → a.toNat.testBit r = b.toNat.testBit r) : a = b := by
  apply UInt8.toNat_inj.1
  apply Nat.eq_of_testBit_eq
  intro r
  by_cases hr : r < 8
  · exact h r hr
  · have hp : 2 ^ 8 ≤ 2 ^ r := Nat.pow_le_pow_right (by decide) (by omega)
    rw [Nat.testBit_lt_two_pow (Nat.lt_of_lt_of_le (byte_lt a) hp), Nat.testBit_lt_two_pow (Nat.lt_of_lt_of_le (byte_lt b) hp)]
theorem ext (l m : List UInt8) (hl : l.length = m.length) (h : ∀ i, i < 8 * l.length → bit l i = bit m i) : l = m := by
  apply List.ext_getElem hl
  intro j h1 h2
  apply byte_ext
  intro r hr
  have := h (8 * j + r) (by omega)
  unfold bit at this
  rw [show (8 * j + r) / 8 = j from by omega, show (8 * j + r) % 8 = r from by omega] at this
  simpa [List.getD_eq_getElem?_getD, List.getElem?_eq_getElem h1, List.getElem?_eq_getElem h2] using this
theorem cnt_le (l : List UInt8) (a n : Nat) : cnt l a n ≤ n := by
  induction n with
  | zero => simp [cnt]
  | succ n ih => rw [cnt]; split <;> omega
end Go.Proofs.YthbjeedmhgnnaaaGreat.BitP
namespace Go.Proofs.YthbjeedmhgnnaaaGreat.Arr
open Go.ChangeShapes Go.WideShapes Go.ChangeAt Go.RowKit

/-- An array. -/
structure Arr where
  layout : Int
  offset : Int
  length : Int
  valid : ByteArray
  ends : ByteArray
  data : ByteArray
  kids : List Arr
/-- An empty one. -/
def nil : Arr := ⟨0, 0, 0, ByteArray.empty, ByteArray.empty, ByteArray.empty, []⟩
/-- Its numbers are ints, its texts no longer than that. -/
structure Arr.ok (B : Nat) (a : Arr) : Prop where
  layout : (Lit.int .i64 a.layout).wf = true
  offset : (Lit.int .i64 a.offset).wf = true
  length : (Lit.int .i64 a.length).wf = true
  valid : a.valid.size ≤ B
  ends : a.ends.size ≤ B
  data : a.data.size ≤ B
/-- An array's seven cells. -/
def Arr.cells (a : Arr) (o : Option Addr) (cap : Nat) : List Value := [.int .i64 a.layout, .int .i64 a.offset, .int .i64 a.length, .string a.valid, .string a.ends, .string a.data, .slice o a.kids.length cap]
/-- These cells are an array's, as it lies in a world; so deep it goes. -/
def HoldsF (B bytes : Nat) (w : World) : Nat → List Value → Arr → Prop
  | 0, _, _ => False
  | f + 1, cs, a => ∃ (o : Option Addr) (cap : Nat), cs = a.cells o cap ∧ a.ok B ∧ a.kids.length ≤ cap ∧ cap * bytes ≤ B ∧ cap ≤ maxLen ∧
      (o = none ∧ a.kids = [] ∧ cap = 0 ∨ ∃ x, o = some x ∧ ∀ i, i < a.kids.length → ∃ cs', cs'.length = 7 ∧ (∀ j, j < 7 → w.cell? (x.add (i * 7 + j)) = cs'[j]?) ∧ HoldsF B bytes w f cs' (a.kids.getD i nil))
theorem HoldsF.later {B bytes : Nat} {w w' : World} (hb : Below w.heap.size w w') : ∀ {f : Nat} {cs : List Value} {a : Arr}, HoldsF B bytes w f cs a → HoldsF B bytes w' f cs a := by
  intro f
  induction f with
  | zero => intro cs a h; cases h
  | succ f ih =>
    rintro cs a ⟨o, cap, h1, h2, h3, h4, h5, h6⟩
    refine ⟨o, cap, h1, h2, h3, h4, h5, h6.imp id ?_⟩
    rintro ⟨x, e, hx⟩
    refine ⟨x, e, fun i hi => ?_⟩
    obtain ⟨cs', hl, hc, hh⟩ := hx i hi
    refine ⟨cs', hl, fun j hj => ?_, ih hh⟩
    have hv : cs'[j]? = some (cs'[j]'(by omega)) := List.getElem?_eq_getElem (by omega)
    have := hc j hj
    rw [hv] at this ⊢
    exact (hb.cell (World.block_lt_of_cell? _ _ this)).trans this

theorem HoldsF.more {B bytes : Nat} {w : World} : ∀ {f : Nat} {cs : List Value} {a : Arr}, HoldsF B bytes w f cs a → HoldsF B bytes w (f + 1) cs a := by
  intro f
  induction f with
  | zero => intro cs a h; cases h
  | succ f ih =>
    rintro cs a ⟨o, cap, h1, h2, h3, h4, h5, h6⟩
    refine ⟨o, cap, h1, h2, h3, h4, h5, h6.imp id ?_⟩
    rintro ⟨x, e, hx⟩
    refine ⟨x, e, fun i hi => ?_⟩
    obtain ⟨cs', hl, hc, hh⟩ := hx i hi
    exact ⟨cs', hl, hc, ih hh⟩

section
variable {H : Type} {enc : TypeId × Value → H} {P : Program} {w : World} {base : Nat} {held : Bool}

/-- What the program's type of an array is. -/
structure IsArr (P : Program) (T S : TypeId) (f0 f1 f2 f3 f4 f5 f6 : Field) : Prop where
  hT : P.underlying T = some (.struct #[f0, f1, f2, f3, f4, f5, f6])
  hS : P.underlying S = some (.slice T)
  t6 : f6.type = S
  cT : P.cellsOf T = 7
  o0 : f0.offset = 0
  o1 : f1.offset = 1
  o2 : f2.offset = 2
  o3 : f3.offset = 3
  o4 : f4.offset = 4
  o5 : f5.offset = 5
  o6 : f6.offset = 6
  c0 : P.cellsOf f0.type = 1
  c1 : P.cellsOf f1.type = 1
  c2 : P.cellsOf f2.type = 1
  c3 : P.cellsOf f3.type = 1
  c4 : P.cellsOf f4.type = 1
  c5 : P.cellsOf f5.type = 1
  c6 : P.cellsOf f6.type = 1
  u0 : P.underlying f0.type = some (.int .i64)
  u1 : P.underlying f1.type = some (.int .i64)
  u2 : P.underlying f2.type = some (.int .i64)
  u3 : P.underlying f3.type = some .string
  u4 : P.underlying f4.type = some .string
  u5 : P.underlying f5.type = some .string
theorem mem_weightsAll {e : TypeId} {d : DataW H} {n : Nat} : ∀ {ds : List (DataW H)}, d ∈ ds → n ∈ d.weights P e → n ∈ DataW.weightsAll P e ds
  | [], h, _ => by cases h
  | c :: ds, h, hn => by
    rw [DataW.weightsAll, List.mem_append]
    rcases List.mem_cons.1 h with rfl | h
    · exact .inl hn
    · exact .inr (mem_weightsAll h hn)
theorem open_arr {T S : TypeId} {f0 f1 f2 f3 f4 f5 f6 : Field} (I : IsArr P T S f0 f1 f2 f3 f4 f5 f6) {B : Nat} : ∀ (fuel : Nat) (cs : List Value) (x : DataW H × List MemPlace),
    DataW.trod enc P w base (fun _ => true) held fuel T cs = some x → (∀ n ∈ x.1.weights P T, n ≤ B) → ∃ a, HoldsF B (P.bytesOf T) w fuel cs a := by
  intro fuel
  induction fuel using Nat.strongRecOn with
  | _ fuel ih =>
    intro cs x h hw
    obtain ⟨xs, n, rfl, rfl, hl, hlen, hf⟩ := DataW.trod_struct I.hT h
    rw [I.cT] at hl
    match cs, hl, xs, hlen with
    | [v0, v1, v2, v3, v4, v5, v6], _, [y0, y1, y2, y3, y4, y5, y6], _ =>
      have g0 := hf 0 f0 rfl
      have g1 := hf 1 f1 rfl
      have g2 := hf 2 f2 rfl
      have g3 := hf 3 f3 rfl
      have g4 := hf 4 f4 rfl
      have g5 := hf 5 f5 rfl
      have g6 := hf 6 f6 rfl
      rw [I.o0, I.c0] at g0
      rw [I.o1, I.c1] at g1
      rw [I.o2, I.c2] at g2
      rw [I.o3, I.c3] at g3
      rw [I.o4, I.c4] at g4
      rw [I.o5, I.c5] at g5
      rw [I.o6, I.c6, I.t6] at g6
      obtain ⟨n0, e0, x0, w0⟩ := DataW.trod_int I.u0 g0
      obtain ⟨n1, e1, x1, w1⟩ := DataW.trod_int I.u1 g1
      obtain ⟨n2, e2, x2, w2⟩ := DataW.trod_int I.u2 g2
      obtain ⟨s3, e3, x3, _⟩ := DataW.trod_string I.u3 g3
      obtain ⟨s4, e4, x4, _⟩ := DataW.trod_string I.u4 g4
      obtain ⟨s5, e5, x5, _⟩ := DataW.trod_string I.u5 g5
      have p0 : v0 = .int .i64 n0 := by simpa using e0
      have p1 : v1 = .int .i64 n1 := by simpa using e1
      have p2 : v2 = .int .i64 n2 := by simpa using e2
      have p3 : v3 = .string s3 := by simpa using e3
      have p4 : v4 = .string s4 := by simpa using e4
      have p5 : v5 = .string s5 := by simpa using e5
      clear e0 e1 e2 e3 e4 e5
      subst p0 p1 p2 p3 p4 p5
      have hW : ∀ m, m ∈ DataW.weightsEach P [f0.type, f1.type, f2.type, f3.type, f4.type, f5.type, f6.type] [y0.1, y1.1, y2.1, y3.1, y4.1, y5.1, y6.1] → m ≤ B := by
        intro m hm
        refine hw m ?_
        simp only [DataW.weights, I.hT]
        exact hm
      rw [I.t6] at hW
      have b3 : s3.size ≤ B := hW _ (by rw [x3]; simp [DataW.weightsEach, DataW.weights])
      have b4 : s4.size ≤ B := hW _ (by rw [x4]; simp [DataW.weightsEach, DataW.weights])
      have b5 : s5.size ≤ B := hW _ (by rw [x5]; simp [DataW.weightsEach, DataW.weights])
      have b6 : ∀ m, m ∈ y6.1.weights P S → m ≤ B := fun m hm => hW m (by simp [DataW.weightsEach, hm])
      rcases DataW.trod_slice I.hS g6 with ⟨h0, _⟩ | ⟨a, len, cap, elems, rest, n', rfl, h0, hx, hb, hlc, hm, hle, hel, hsp, _⟩
      · have p6 : v6 = .slice none 0 0 := by simpa using h0
        subst p6
        exact ⟨⟨n0, n1, n2, s3, s4, s5, []⟩, none, 0, rfl, ⟨w0, w1, w2, b3, b4, b5⟩, Nat.le_refl _, by simp, Nat.zero_le _, .inl ⟨rfl, rfl, rfl⟩⟩
      · have p6 : v6 = .slice (some a) len cap := by simpa using h0
        subst p6
        rw [hx] at b6
        have hc : cap * P.bytesOf T ≤ B := b6 _ (by
          simp only [DataW.weights, I.hS, List.mem_cons]
          left
          rw [List.length_map, List.length_map, hle, (hsp rfl).1, show len + (cap - len) = cap from by omega])
        have each : ∀ i, i < len → ∃ (q : Arr), ∃ cs', cs'.length = 7 ∧ (∀ j, j < 7 → w.cell? (a.add (i * 7 + j)) = cs'[j]?) ∧ HoldsF B (P.bytesOf T) w (n' + 1) cs' q := by
          intro i hi
          have hi' : i < elems.length := by omega
          have he := hel i hi
          rw [I.cT, List.getElem?_eq_getElem hi', Option.bind_eq_some_iff] at he
          obtain ⟨cs', hcs, ht⟩ := he
          obtain ⟨_, hlen', hcell⟩ := World.cells?_some hcs
          obtain ⟨q, hq⟩ := ih n' (by omega) cs' _ ht (fun m hm => b6 m (by
            simp only [DataW.weights, I.hS, List.mem_cons, List.mem_append]
            right
            left
            exact mem_weightsAll (List.mem_map_of_mem (List.getElem_mem hi')) hm))
          refine ⟨q, cs', hlen', fun j hj => ?_, ?_⟩
          · have := hcell j hj
            rw [Deep.add_add] at this
            exact this
          · exact hq.more
        have inh : Inhabited Arr := ⟨nil⟩
        obtain ⟨q, hq⟩ := Deep.choose_lt each
        refine ⟨⟨n0, n1, n2, s3, s4, s5, (List.range len).map q⟩, some a, cap, by simp [Arr.cells], ⟨w0, w1, w2, b3, b4, b5⟩, by simpa using hlc, hc, hm, .inr ⟨a, rfl, fun i hi => ?_⟩⟩
        have hi : i < len := by simpa using hi
        have e : ((List.range len).map q).getD i nil = q i := by simp [List.getD, hi]
        rw [e]
        exact hq i hi
/-- The argument itself. -/
theorem open_array {r : Reach} {b0 : Nat} {T S : TypeId} {f0 f1 f2 f3 f4 f5 f6 : Field} (I : IsArr P T S f0 f1 f2 f3 f4 f5 f6) {v : Value} {d : DataW H} {ps : List MemPlace} {B : Nat}
    (hval : Value.okWide P w r b0 T v) (hd : DataW.Trod enc P w base (fun _ => true) held T v d ps) (hw : ∀ n ∈ d.weights P T, n ≤ B) : ∃ f a o cap, v = .agg (Arr.cells a o cap).toArray ∧ HoldsF B (P.bytesOf T) w (f + 1) (a.cells o cap) a := by
  obtain ⟨cs, rfl, _⟩ := okWide_struct I.hT hval
  obtain ⟨fuel, hf⟩ := hd
  obtain ⟨a, ha⟩ := open_arr I fuel _ _ hf hw
  cases fuel with
  | zero => cases ha
  | succ f =>
    have hh := ha
    obtain ⟨o, cap, e, _⟩ := hh
    rw [e] at ha
    refine ⟨f, a, o, cap, ?_, ha⟩
    have e' : cs.toList = a.cells o cap := e
    rw [← e']
theorem sized_array {ts : List TypeId} {ds : List (DataW H)} (h : (DataW.weightsEach P ts ds).all (· ≤ reachBytes) = true) {j T : Nat} {d : DataW H} (hj : ts[j]? = some T) (hd : ds[j]? = some d) : ∀ n ∈ d.weights P T, n ≤ reachBytes := by
  intro n hn
  have := List.all_eq_true.1 h _ (DataW.weights_mem_each hj hd n hn)
  simpa using this
end
end Go.Proofs.YthbjeedmhgnnaaaGreat.Arr
namespace Go.Proofs.YthbjeedmhgnnaaaGreat.Arr
open Tree Val

/-- The number of four bytes. -/
def endAt (s : ByteArray) (i : Nat) : Nat := Plain.val (bl s) (4 * i) 4
/-- It is there, and may be one. -/
def has4 (s : ByteArray) (i : Nat) : Bool := decide (4 * i + 4 ≤ s.size) && decide (endAt s i ≤ 2147483647)
def prev (s : ByteArray) (i : Nat) : Nat := if i = 0 then 0 else endAt s (i - 1)
/-- One of a row of ends. -/
def endsP (s : ByteArray) (first last apart : Int) (i : Nat) : Bool := has4 s i && decide (prev s i ≤ endAt s i) && decide ((endAt s i : Int) ≤ last) && (decide ((i : Int) ≤ first) || decide ((endAt s i : Int) - (prev s i : Int) ≤ apart))
def endsB (s : ByteArray) (rows : Nat) (first last apart : Int) : Bool := (List.range (rows + 1)).all (endsP s first last apart)
/-- Is a row there? -/
def there (a : Arr) (r : Nat) : Bool := decide (a.valid.size = 0) || BitP.bit (bl a.valid) r
def bare (a : Arr) : Bool := decide (a.ends.size = 0) && a.kids.isEmpty
def kidAt (a : Arr) (i : Nat) : Arr := a.kids.getD i nil
def kAt (ns : List Nd) (n i : Nat) : Nat := (kids ns n).getD i 0
def rowsOf (a : Arr) : Nat := (a.offset + a.length).toNat
/-- May a plain one be? -/
def plainB (rec : Nat → Arr → Bool) (ns : List Nd) (n : Nat) (a : Arr) : Bool :=
  if (nd ns n).kind = 0 then bare a && decide (8 * rowsOf a ≤ a.data.size)
  else if (nd ns n).kind = 1 then bare a && decide ((rowsOf a + 7) / 8 ≤ a.data.size)
  else if (nd ns n).kind = 2 then a.kids.isEmpty && endsB a.ends (rowsOf a) a.offset (a.data.size : Int) 16
  else if (nd ns n).kind = 3 then decide (a.data.size = 0) && decide (a.kids.length = 1) && rec (kAt ns n 0) (kidAt a 0) && endsB a.ends (rowsOf a) a.offset (kidAt a 0).length 2147483647
  else decide (a.data.size = 0) && decide (a.ends.size = 0) && decide (a.kids.length = (kids ns n).length) && (List.range (kids ns n).length).all fun i => rec (kAt ns n i) (kidAt a i) && decide ((rowsOf a : Int) ≤ (kidAt a i).length)
def dictB (a : Arr) : Bool := decide (4 * rowsOf a ≤ a.data.size) && decide ((kidAt a 0).valid.size = 0) && (List.range (rowsOf a)).all fun i => decide ((i : Int) < a.offset) || !there a i || has4 a.data i && decide ((endAt a.data i : Int) < (kidAt a 0).length)
def runB (a : Arr) : Bool := decide (a.valid.size = 0) && decide ((a.data.size : Int) = 4 * (kidAt a 0).length) && ((List.range (kidAt a 0).length.toNat).all fun i => has4 a.data i && decide (prev a.data i < endAt a.data i)) && decide (rowsOf a ≤ prev a.data (kidAt a 0).length.toNat)
def headB (ns : List Nd) (n : Nat) (a : Arr) : Bool :=
  decide (0 ≤ a.offset) && decide (0 ≤ a.length) && decide (a.offset + a.length ≤ 64) && decide (a.valid.size ≤ 4096) && decide (a.ends.size ≤ 4096) && decide (a.data.size ≤ 4096) && (decide (a.valid.size = 0) || (nd ns n).null && decide ((rowsOf a + 7) / 8 ≤ a.valid.size))
/-- May an array be, of a node of a type that may? -/
def mayF (ns : List Nd) : Nat → Nat → Arr → Bool
  | 0, _, _ => false
  | f + 1, n, a => headB ns n a && if a.layout = 0 then plainB (mayF ns f) ns n a else
      isLeaf (nd ns n).kind && decide (a.kids.length = 1) && decide (a.ends.size = 0) && decide ((kidAt a 0).layout = 0) && mayF ns f n (kidAt a 0) && if a.layout = 1 then dictB a else if a.layout = 2 then runB a else false
/-- The first run whose end is above a row. -/
def runAt (s : ByteArray) (r : Nat) : Nat → Nat → Nat
  | 0, i => i
  | f + 1, i => if endAt s i ≤ r then runAt s r f (i + 1) else i
/-- A whole number of eight bytes, with its sign. -/
def signed (x : Nat) : Int := if x < 9223372036854775808 then (x : Int) else (x : Int) - 18446744073709551616
def part (s : ByteArray) (a b : Nat) : List UInt8 := ((bl s).take b).drop a
/-- A row's value, as it is laid down plainly. -/
def plainRow (rec : Nat → Arr → Nat → List UInt8) (ns : List Nd) (n : Nat) (a : Arr) (r : Nat) : List UInt8 :=
  if (nd ns n).kind = 0 then intM (signed (Plain.val (bl a.data) (8 * r) 8))
  else if (nd ns n).kind = 1 then boolM (BitP.bit (bl a.data) r)
  else if (nd ns n).kind = 2 then bytesM (part a.data (endAt a.ends r) (endAt a.ends (r + 1)))
  else if (nd ns n).kind = 3 then listM ((List.range (endAt a.ends (r + 1) - endAt a.ends r)).map fun j => rec (kAt ns n 0) (kidAt a 0) (endAt a.ends r + j))
  else structM ((List.range (kids ns n).length).map fun i => rec (kAt ns n i) (kidAt a i) r)
/-- A row's value, counted from the offset. -/
def rowF (ns : List Nd) : Nat → Nat → Arr → Nat → List UInt8
  | 0, _, _, _ => []
  | f + 1, n, a, row =>
    if there a (row + a.offset.toNat) = false then nullM
    else if a.layout = 0 then plainRow (rowF ns f) ns n a (row + a.offset.toNat)
    else if a.layout = 1 then rowF ns f n (kidAt a 0) (endAt a.data (row + a.offset.toNat))
    else rowF ns f n (kidAt a 0) (runAt a.data (row + a.offset.toNat) (kidAt a 0).length.toNat 0)
/-- What holds of ends that may be. -/
structure Ends (s : ByteArray) (rows : Nat) (first last apart : Int) : Prop where
  size : ∀ i, i ≤ rows → 4 * i + 4 ≤ s.size
  most : ∀ i, i ≤ rows → endAt s i ≤ 2147483647
  up : ∀ i, i < rows → endAt s i ≤ endAt s (i + 1)
  last : ∀ i, i ≤ rows → (endAt s i : Int) ≤ last
  apart : ∀ i, i < rows → first ≤ (i : Int) → (endAt s (i + 1) : Int) - (endAt s i : Int) ≤ apart
theorem endsP_iff (s : ByteArray) (first last apart : Int) (i : Nat) : endsP s first last apart i = true ↔ (4 * i + 4 ≤ s.size ∧ endAt s i ≤ 2147483647) ∧ prev s i ≤ endAt s i ∧ (endAt s i : Int) ≤ last ∧ ((i : Int) ≤ first ∨ (endAt s i : Int) - (prev s i : Int) ≤ apart) := by
  unfold endsP has4
  simp only [Bool.and_eq_true, Bool.or_eq_true, decide_eq_true_eq]
  constructor
  · rintro ⟨⟨⟨h1, h2⟩, h3⟩, h4⟩
    exact ⟨h1, h2, h3, h4⟩
  · rintro ⟨h1, h2, h3, h4⟩
    exact ⟨⟨⟨h1, h2⟩, h3⟩, h4⟩
theorem endsB_ends {s : ByteArray} {rows : Nat} {first last apart : Int} (h : endsB s rows first last apart = true) : Ends s rows first last apart := by
  unfold endsB at h
  rw [List.all_eq_true] at h
  have hp : ∀ i, i ≤ rows → _ := fun i hi => (endsP_iff s first last apart i).1 (h i (List.mem_range.2 (by omega)))
  refine ⟨fun i hi => (hp i hi).1.1, fun i hi => (hp i hi).1.2, fun i hi => ?_, fun i hi => (hp i hi).2.2.1, fun i hi hf => ?_⟩
  · have := (hp (i + 1) (by omega)).2.1
    unfold prev at this
    rw [if_neg (by omega), Nat.add_sub_cancel] at this
    exact this
  · have := (hp (i + 1) (by omega)).2.2.2
    unfold prev at this
    rw [if_neg (by omega), Nat.add_sub_cancel] at this
    rcases this with c | c
    · omega
    · exact c
theorem Ends.mono {s : ByteArray} {rows : Nat} {first last apart : Int} (h : Ends s rows first last apart) {i : Nat} : ∀ {j : Nat}, i ≤ j → j ≤ rows → endAt s i ≤ endAt s j := by
  intro j
  induction j with
  | zero =>
    intro hi _
    obtain rfl : i = 0 := by omega
    exact Nat.le_refl _
  | succ j ih =>
    intro hi hj
    by_cases c : i = j + 1
    · subst c; exact Nat.le_refl _
    · exact Nat.le_trans (ih (by omega) (by omega)) (h.up j (by omega))
/-- What holds of any array that may be. -/
structure Head (ns : List Nd) (n : Nat) (a : Arr) : Prop where
  off : 0 ≤ a.offset
  len : 0 ≤ a.length
  rows : a.offset + a.length ≤ 64
  valid : a.valid.size ≤ 4096
  ends : a.ends.size ≤ 4096
  data : a.data.size ≤ 4096
  null : a.valid.size = 0 ∨ (nd ns n).null = true ∧ (rowsOf a + 7) / 8 ≤ a.valid.size
theorem head_of {ns : List Nd} {n : Nat} {a : Arr} (h : headB ns n a = true) : Head ns n a := by
  unfold headB at h
  simp only [Bool.and_eq_true, Bool.or_eq_true, decide_eq_true_eq] at h
  obtain ⟨⟨⟨⟨⟨⟨h1, h2⟩, h3⟩, h4⟩, h5⟩, h6⟩, h7⟩ := h
  exact ⟨h1, h2, h3, h4, h5, h6, h7⟩
theorem mayF_cases {ns : List Nd} {f n : Nat} {a : Arr} (h : mayF ns (f + 1) n a = true) : Head ns n a ∧
    ((a.layout = 0 ∧ plainB (mayF ns f) ns n a = true) ∨ (a.layout ≠ 0 ∧ isLeaf (nd ns n).kind = true ∧ a.kids.length = 1 ∧ (kidAt a 0).layout = 0 ∧ mayF ns f n (kidAt a 0) = true ∧ ((a.layout = 1 ∧ dictB a = true) ∨ (a.layout = 2 ∧ runB a = true)))) := by
  unfold mayF at h
  rw [Bool.and_eq_true] at h
  obtain ⟨h1, h2⟩ := h
  refine ⟨head_of h1, ?_⟩
  by_cases c : a.layout = 0
  · rw [if_pos c] at h2
    exact .inl ⟨c, h2⟩
  · rw [if_neg c] at h2
    simp only [Bool.and_eq_true, decide_eq_true_eq] at h2
    obtain ⟨⟨⟨⟨⟨h3, h4⟩, _⟩, h6⟩, h7⟩, h8⟩ := h2
    refine .inr ⟨c, h3, h4, h6, h7, ?_⟩
    by_cases d : a.layout = 1
    · rw [if_pos d] at h8
      exact .inl ⟨d, h8⟩
    · rw [if_neg d] at h8
      by_cases e : a.layout = 2
      · rw [if_pos e] at h8
        exact .inr ⟨e, h8⟩
      · rw [if_neg e] at h8
        cases h8
/-- Where the first run above a row is. -/
theorem runAt_found (s : ByteArray) (r k : Nat) (hk : r < endAt s k) : ∀ f i, k - i ≤ f → i ≤ k → (∀ j, j < i → endAt s j ≤ r) → runAt s r f i ≤ k ∧ r < endAt s (runAt s r f i) ∧ ∀ j, j < runAt s r f i → endAt s j ≤ r := by
  intro f
  induction f with
  | zero =>
    intro i hf hi hj
    obtain rfl : i = k := by omega
    exact ⟨Nat.le_refl _, hk, hj⟩
  | succ f ih =>
    intro i hf hi hj
    rw [runAt]
    by_cases c : endAt s i ≤ r
    · rw [if_pos c]
      have hne : i ≠ k := fun e => by rw [e] at c; omega
      refine ih (i + 1) (by omega) (by omega) (fun j hj' => ?_)
      by_cases e : j = i
      · rw [e]; exact c
      · exact hj j (by omega)
    · rw [if_neg c]
      exact ⟨hi, by omega, hj⟩
/-- A row of an array by a dictionary, by runs, is a row of its kid. -/
theorem dict_row {a : Arr} {ns : List Nd} {n : Nat} (hh : Head ns n a) (h : dictB a = true) {row : Nat} (hr : (row : Int) < a.length) (ht : there a (row + a.offset.toNat) = true) : (endAt a.data (row + a.offset.toNat) : Int) < (kidAt a 0).length := by
  unfold dictB at h
  simp only [Bool.and_eq_true, decide_eq_true_eq, List.all_eq_true, Bool.or_eq_true, Bool.not_eq_true'] at h
  have h1 := hh.off
  have := h.2 (row + a.offset.toNat) (List.mem_range.2 (by unfold rowsOf; omega))
  rcases this with c | c
  · rcases c with c | c
    · omega
    · rw [c] at ht; cases ht
  · exact c.2
theorem run_row {a : Arr} {ns : List Nd} {n : Nat} (hh : Head ns n a) (h : runB a = true) {row : Nat} (hr : (row : Int) < a.length) : (runAt a.data (row + a.offset.toNat) (kidAt a 0).length.toNat 0 : Int) < (kidAt a 0).length := by
  unfold runB at h
  simp only [Bool.and_eq_true, decide_eq_true_eq] at h
  have h1 := hh.off
  have h2 := h.2
  unfold rowsOf prev at h2
  have hk : (kidAt a 0).length.toNat ≠ 0 := fun e => by rw [if_pos e] at h2; omega
  rw [if_neg hk] at h2
  have := runAt_found a.data (row + a.offset.toNat) ((kidAt a 0).length.toNat - 1) (by omega) (kidAt a 0).length.toNat 0 (by omega) (Nat.zero_le _) (fun j hj => absurd hj (Nat.not_lt_zero j))
  omega
end Go.Proofs.YthbjeedmhgnnaaaGreat.Arr
namespace Go.Proofs.YthbjeedmhgnnaaaGreat.Arr
open Tree Val

def all4 (s : ByteArray) (n : Nat) : Bool := (List.range n).all (has4 s)
def sortedE (s : ByteArray) (n : Nat) : Bool := (List.range n).all fun i => decide (endAt s i ≤ endAt s (i + 1))
def nearE (s : ByteArray) (off n : Nat) : Bool := (List.range n).all fun j => decide ((endAt s (off + j + 1) : Int) - (endAt s (off + j) : Int) ≤ 16)
def riseE (s : ByteArray) (n : Nat) : Bool := (List.range n).all fun i => decide (prev s i < endAt s i)
theorem has4_iff (s : ByteArray) (i : Nat) : has4 s i = true ↔ 4 * i + 4 ≤ s.size ∧ endAt s i ≤ 2147483647 := by
  unfold has4
  simp only [Bool.and_eq_true, decide_eq_true_eq]
theorem all4_iff (s : ByteArray) (n : Nat) : all4 s n = true ↔ ∀ i, i < n → has4 s i = true := by
  unfold all4
  rw [List.all_eq_true]
  exact ⟨fun h i hi => h i (List.mem_range.2 hi), fun h i hi => h i (List.mem_range.1 hi)⟩
theorem sorted_iff (s : ByteArray) (n : Nat) : sortedE s n = true ↔ ∀ i, i < n → endAt s i ≤ endAt s (i + 1) := by
  unfold sortedE
  rw [List.all_eq_true]
  exact ⟨fun h i hi => of_decide_eq_true (h i (List.mem_range.2 hi)), fun h i hi => decide_eq_true (h i (List.mem_range.1 hi))⟩
theorem near_iff (s : ByteArray) (off n : Nat) : nearE s off n = true ↔ ∀ j, j < n → (endAt s (off + j + 1) : Int) - (endAt s (off + j) : Int) ≤ 16 := by
  unfold nearE
  rw [List.all_eq_true]
  exact ⟨fun h i hi => of_decide_eq_true (h i (List.mem_range.2 hi)), fun h i hi => decide_eq_true (h i (List.mem_range.1 hi))⟩
theorem rise_iff (s : ByteArray) (n : Nat) : riseE s n = true ↔ ∀ i, i < n → prev s i < endAt s i := by
  unfold riseE
  rw [List.all_eq_true]
  exact ⟨fun h i hi => of_decide_eq_true (h i (List.mem_range.2 hi)), fun h i hi => decide_eq_true (h i (List.mem_range.1 hi))⟩
theorem sorted_last {s : ByteArray} {n : Nat} (h : ∀ i, i < n → endAt s i ≤ endAt s (i + 1)) : ∀ d i, i + d = n → endAt s i ≤ endAt s n := by
  intro d
  induction d with
  | zero => intro i hi; obtain rfl : i = n := by omega
            exact Nat.le_refl _
  | succ d ih =>
    intro i hi
    exact Nat.le_trans (h i (by omega)) (ih (i + 1) (by omega))
theorem prev_succ (s : ByteArray) (i : Nat) : prev s (i + 1) = endAt s i := by
  unfold prev
  rw [if_neg (by omega), Nat.add_sub_cancel]
theorem prev_zero (s : ByteArray) : prev s 0 = 0 := by
  unfold prev
  rw [if_pos rfl]
/-- All ends, as told one by one. -/
theorem endsB_iff (s : ByteArray) (rows : Nat) (first last apart : Int) : endsB s rows first last apart = true ↔ ∀ i, i ≤ rows → endsP s first last apart i = true := by
  unfold endsB
  rw [List.all_eq_true]
  exact ⟨fun h i hi => h i (List.mem_range.2 (by omega)), fun h i hi => h i (by have := List.mem_range.1 hi; omega)⟩
theorem ends_list (s : ByteArray) (rows : Nat) (first last : Int) : endsB s rows first last 2147483647 = (all4 s (rows + 1) && (sortedE s rows && decide ((endAt s rows : Int) ≤ last))) := by
  rw [Bool.eq_iff_iff, endsB_iff]
  simp only [Bool.and_eq_true, decide_eq_true_eq, all4_iff, sorted_iff]
  constructor
  · intro h
    refine ⟨fun i hi => ?_, fun i hi => ?_, ?_⟩
    · have := (endsP_iff _ _ _ _ _).1 (h i (by omega))
      exact (has4_iff _ _).2 this.1
    · have := ((endsP_iff _ _ _ _ _).1 (h (i + 1) (by omega))).2.1
      rw [prev_succ] at this
      exact this
    · exact ((endsP_iff _ _ _ _ _).1 (h rows (Nat.le_refl _))).2.2.1
  · rintro ⟨h1, h2, h3⟩ i hi
    have a1 := (has4_iff _ _).1 (h1 i (by omega))
    have a2 := sorted_last h2 (rows - i) i (by omega)
    refine (endsP_iff _ _ _ _ _).2 ⟨a1, ?_, by omega, .inr (by omega)⟩
    cases i with
    | zero => rw [prev_zero]; exact Nat.zero_le _
    | succ i => rw [prev_succ]; exact h2 i (by omega)
theorem ends_bytes (s : ByteArray) (rows off : Nat) (ho : off ≤ rows) (last : Int) : endsB s rows (off : Int) last 16 = (all4 s (rows + 1) && (sortedE s rows && decide ((endAt s rows : Int) ≤ last)) && nearE s off (rows - off)) := by
  rw [Bool.eq_iff_iff, endsB_iff]
  simp only [Bool.and_eq_true, decide_eq_true_eq, all4_iff, sorted_iff, near_iff]
  constructor
  · intro h
    refine ⟨⟨fun i hi => ?_, fun i hi => ?_, ?_⟩, fun j hj => ?_⟩
    · have := (endsP_iff _ _ _ _ _).1 (h i (by omega))
      exact (has4_iff _ _).2 this.1
    · have := ((endsP_iff _ _ _ _ _).1 (h (i + 1) (by omega))).2.1
      rw [prev_succ] at this
      exact this
    · exact ((endsP_iff _ _ _ _ _).1 (h rows (Nat.le_refl _))).2.2.1
    · have := ((endsP_iff _ _ _ _ _).1 (h (off + j + 1) (by omega))).2.2.2
      rw [prev_succ] at this
      rcases this with c | c
      · omega
      · exact c
  · rintro ⟨⟨h1, h2, h3⟩, h4⟩ i hi
    have a1 := (has4_iff _ _).1 (h1 i (by omega))
    have a2 := sorted_last h2 (rows - i) i (by omega)
    refine (endsP_iff _ _ _ _ _).2 ⟨a1, ?_, by omega, ?_⟩
    · cases i with
      | zero => rw [prev_zero]; exact Nat.zero_le _
      | succ i => rw [prev_succ]; exact h2 i (by omega)
    · by_cases c : (i : Int) ≤ off
      · exact .inl c
      · right
        obtain ⟨j, rfl⟩ : ∃ j, i = off + j + 1 := ⟨i - off - 1, by omega⟩
        rw [prev_succ]
        exact h4 j (by omega)
theorem run_ends (s : ByteArray) (n : Nat) : ((List.range n).all fun i => has4 s i && decide (prev s i < endAt s i)) = (all4 s n && riseE s n) := by
  rw [Bool.eq_iff_iff, List.all_eq_true]
  simp only [Bool.and_eq_true, all4_iff, rise_iff]
  constructor
  · intro h
    exact ⟨fun i hi => (h i (List.mem_range.2 hi)).1, fun i hi => of_decide_eq_true (h i (List.mem_range.2 hi)).2⟩
  · rintro ⟨h1, h2⟩ i hi
    exact ⟨h1 i (List.mem_range.1 hi), decide_eq_true (h2 i (List.mem_range.1 hi))⟩
end Go.Proofs.YthbjeedmhgnnaaaGreat.Arr
