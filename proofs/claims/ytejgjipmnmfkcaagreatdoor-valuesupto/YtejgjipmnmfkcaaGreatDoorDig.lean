/-
  Whole numbers and their digits, as plain lists of bytes: which digits are a number's, and that number.
-/
import Derived.WalkKit
namespace Go.Proofs.YtejgjipmnmfkcaaGreatDoor.Val

def digF : Nat → Nat → List UInt8
  | 0, _ => []
  | f + 1, n => (if n < 10 then [] else digF f (n / 10)) ++ [UInt8.ofNat (48 + n % 10)]
/-- The digits of a number that is not below 0. -/
def dig (n : Nat) : List UInt8 := digF 20 n
theorem digF_succ (f n : Nat) : digF (f + 1) n = (if n < 10 then [] else digF f (n / 10)) ++ [UInt8.ofNat (48 + n % 10)] := rfl
theorem digF_more (f : Nat) : ∀ n, n < 10 ^ (f + 1) → digF (f + 1) n = digF (f + 2) n := by
  induction f with
  | zero =>
    intro n hn
    have h : n < 10 := by simpa using hn
    rw [digF_succ (0 + 1) n, digF_succ 0 n, if_pos h, if_pos h]
  | succ f ih =>
    intro n hn
    rw [digF_succ (f + 1 + 1) n, digF_succ (f + 1) n]
    by_cases h : n < 10
    · rw [if_pos h, if_pos h]
    · rw [if_neg h, if_neg h, ih (n / 10) (by rw [Nat.pow_succ] at hn; omega)]
/-- The last digit, and those ahead of it. -/
theorem dig_eq (n : Nat) (h : n < 10 ^ 20) : dig n = (if n < 10 then [] else dig (n / 10)) ++ [UInt8.ofNat (48 + n % 10)] := by
  unfold dig
  rw [digF]
  by_cases c : n < 10
  · rw [if_pos c, if_pos c]
  · rw [if_neg c, if_neg c, digF_more 18 (n / 10) (by omega)]
theorem dig_low (n : Nat) (h : n < 10) : dig n = [UInt8.ofNat (48 + n)] := by
  rw [dig_eq n (by omega), if_pos h, Nat.mod_eq_of_lt h]
  rfl
theorem dig_high (n : Nat) (h : 10 ≤ n) (h2 : n < 10 ^ 20) : dig n = dig (n / 10) ++ [UInt8.ofNat (48 + n % 10)] := by
  rw [dig_eq n h2, if_neg (by omega)]
theorem byte_nat (n : Nat) (h : n < 256) : (UInt8.ofNat n).toNat = n := by
  simp
  omega
theorem length_digF (f n : Nat) : (digF f n).length ≤ f := by
  induction f generalizing n with
  | zero => exact Nat.le_refl _
  | succ f ih =>
    rw [digF, List.length_append]
    split
    · simp
    · have := ih (n / 10)
      simp
      omega
theorem length_dig (n : Nat) : (dig n).length ≤ 20 := length_digF 20 n
theorem dig_ne (n : Nat) : dig n ≠ [] := by
  unfold dig
  rw [digF]
  simp
theorem digF_digit (f n : Nat) : ∀ b ∈ digF f n, 48 ≤ b.toNat ∧ b.toNat ≤ 57 := by
  induction f generalizing n with
  | zero => intro b hb; cases hb
  | succ f ih =>
    intro b hb
    rw [digF, List.mem_append] at hb
    rcases hb with hb | hb
    · split at hb
      · cases hb
      · exact ih _ b hb
    · rw [List.mem_singleton] at hb
      subst hb
      rw [byte_nat _ (by omega)]
      omega
theorem dig_digit (n : Nat) : ∀ b ∈ dig n, 48 ≤ b.toNat ∧ b.toNat ≤ 57 := digF_digit 20 n
/-- So many digits: a number below that. -/
theorem length_dig_le (k : Nat) : ∀ n, n < 10 ^ (k + 1) → k < 20 → (dig n).length ≤ k + 1 := by
  induction k with
  | zero =>
    intro n hn _
    rw [dig_low n (by simpa using hn)]
    exact Nat.le_refl _
  | succ k ih =>
    intro n hn hk
    have hp : 10 ^ (k + 1 + 1) ≤ 10 ^ 20 := Nat.pow_le_pow_right (by decide) (by omega)
    by_cases c : n < 10
    · rw [dig_low n c]
      simp
    · rw [dig_high n (by omega) (by omega), List.length_append]
      have := ih (n / 10) (by rw [Nat.pow_succ] at hn; omega) (by omega)
      simp
      omega
/-- What digits count to. -/
def evalN (l : List UInt8) : Int := l.foldl (fun a b => 10 * a + ((b.toNat : Int) - 48)) 0
theorem evalN_snoc (l : List UInt8) (b : UInt8) : evalN (l ++ [b]) = 10 * evalN l + ((b.toNat : Int) - 48) := by
  unfold evalN
  rw [List.foldl_append]
  rfl
theorem evalN_nil : evalN [] = 0 := rfl
theorem evalN_digF (f : Nat) : ∀ n, n < 10 ^ f → evalN (digF f n) = (n : Int) := by
  induction f with
  | zero => intro n hn; simp at hn; subst hn; rfl
  | succ f ih =>
    intro n hn
    rw [digF, evalN_snoc, byte_nat _ (by omega)]
    split
    · rw [evalN_nil]
      omega
    · rw [ih (n / 10) (by rw [Nat.pow_succ] at hn; omega)]
      omega
theorem evalN_dig (n : Nat) (h : n < 10 ^ 20) : evalN (dig n) = (n : Int) := evalN_digF 20 n h
theorem dig_inj (m n : Nat) (hm : m < 10 ^ 20) (hn : n < 10 ^ 20) (h : dig m = dig n) : m = n := by
  have h1 := evalN_dig m hm
  have h2 := evalN_dig n hn
  rw [h] at h1
  omega
/-- Digits with no zero ahead are their number's. -/
def plainD (l : List UInt8) : Prop := l ≠ [] ∧ (∀ b ∈ l, 48 ≤ b.toNat ∧ b.toNat ≤ 57) ∧ (l.head? = some 48 → l.length = 1)
theorem evalN_pos : ∀ (n : Nat) (l : List UInt8), l.length = n → (∀ b ∈ l, 48 ≤ b.toNat ∧ b.toNat ≤ 57) → 0 ≤ evalN l ∧ (l ≠ [] → l.head? ≠ some 48 → 1 ≤ evalN l) ∧ evalN l < 10 ^ l.length := by
  intro n
  induction n with
  | zero =>
    intro l hl _
    obtain rfl : l = [] := List.eq_nil_of_length_eq_zero hl
    exact ⟨by decide, fun c => absurd rfl c, by decide⟩
  | succ n ih =>
    intro l hl hd
    obtain ⟨m, b, rfl⟩ : ∃ m b, l = m ++ [b] := ⟨l.dropLast, l.getLast (by intro c; rw [c] at hl; cases hl), (List.dropLast_concat_getLast _).symm⟩
    have hm : m.length = n := by simpa using hl
    obtain ⟨h0, h1, h2⟩ := ih m hm (fun x hx => hd x (List.mem_append_left _ hx))
    have hb := hd b (by simp)
    rw [evalN_snoc]
    refine ⟨by omega, fun _ hh => ?_, ?_⟩
    · by_cases e : m = []
      · subst e
        rw [evalN_nil]
        have : b ≠ 48 := fun c => hh (by rw [c]; rfl)
        have : b.toNat ≠ 48 := fun c => this (UInt8.toNat_inj.1 c)
        omega
      · have := h1 e (by
          intro c
          apply hh
          cases m with
          | nil => exact absurd rfl e
          | cons x m => simpa using c)
        omega
    · rw [List.length_append, List.length_singleton]
      have e : (10 : Int) ^ (m.length + 1) = 10 ^ m.length * 10 := by rw [Int.pow_succ]
      rw [e]
      omega
theorem dig_plain : ∀ (n : Nat) (l : List UInt8), l.length = n → n ≤ 20 → plainD l → dig (evalN l).toNat = l := by
  intro n
  induction n with
  | zero =>
    intro l hl _ hp
    exact absurd (List.eq_nil_of_length_eq_zero hl) hp.1
  | succ n ih =>
    intro l hl hn hp
    obtain ⟨m, b, rfl⟩ : ∃ m b, l = m ++ [b] := ⟨l.dropLast, l.getLast hp.1, (List.dropLast_concat_getLast _).symm⟩
    have hm : m.length = n := by simpa using hl
    obtain ⟨_, hd, hz⟩ := hp
    have hb := hd b (by simp)
    have hdm : ∀ x ∈ m, 48 ≤ x.toNat ∧ x.toNat ≤ 57 := fun x hx => hd x (List.mem_append_left _ hx)
    obtain ⟨h0, h1, h2⟩ := evalN_pos m.length m rfl hdm
    rw [evalN_snoc]
    have hbb : UInt8.ofNat b.toNat = b := by simp
    by_cases e : m = []
    · subst e
      rw [evalN_nil]
      rw [dig_low _ (by omega)]
      rw [show 48 + (10 * 0 + ((b.toNat : Int) - 48)).toNat = b.toNat from by omega, hbb]
      rfl
    · have hh : m.head? ≠ some 48 := by
        intro c
        have := hz (by
          cases m with
          | nil => exact absurd rfl e
          | cons x m => simpa using c)
        rw [List.length_append, List.length_singleton] at this
        exact e (List.eq_nil_of_length_eq_zero (by omega))
      have h3 := h1 e hh
      have h5 : evalN m < 10 ^ 19 := Int.lt_of_lt_of_le h2 (by
        have : (10 : Nat) ^ m.length ≤ 10 ^ 19 := Nat.pow_le_pow_right (by decide) (by omega)
        exact_mod_cast this)
      have h6 : ((10 : Int) ^ 19) = 10000000000000000000 := by decide
      rw [h6] at h5
      rw [dig_high _ (by omega) (by omega)]
      rw [show (10 * evalN m + ((b.toNat : Int) - 48)).toNat / 10 = (evalN m).toNat from by omega]
      rw [show 48 + (10 * evalN m + ((b.toNat : Int) - 48)).toNat % 10 = b.toNat from by omega, hbb]
      rw [ih m hm (by omega) ⟨e, hdm, fun c => absurd c hh⟩]
/-- A number's digits have no zero ahead. -/
theorem plain_dig : ∀ n, n < 10 ^ 20 → plainD (dig n) := by
  intro n
  induction n using Nat.strongRecOn with
  | _ n ih =>
    intro hn
    refine ⟨dig_ne n, dig_digit n, fun c => ?_⟩
    by_cases h : n < 10
    · rw [dig_low n h]
      rfl
    · exfalso
      rw [dig_high n (by omega) hn] at c
      have hp := ih (n / 10) (by omega) (by omega)
      have c' : (dig (n / 10)).head? = some 48 := by
        cases e : dig (n / 10) with
        | nil => exact absurd e (dig_ne _)
        | cons x m => rw [e] at c; simpa using c
      have h1 := hp.2.2 c'
      have h2 : dig (n / 10) = [48] := by
        cases e : dig (n / 10) with
        | nil => exact absurd e (dig_ne _)
        | cons x m =>
          rw [e] at c' h1
          have hx : x = 48 := by simpa using c'
          have hm : m = [] := List.eq_nil_of_length_eq_zero (by simpa using h1)
          rw [hx, hm]
      have h3 := evalN_dig (n / 10) (by omega)
      rw [h2] at h3
      have h4 : evalN [48] = 0 := by decide
      omega
/-- A whole number's digits, a sign ahead if it is below 0. -/
def intD (x : Int) : List UInt8 := if 0 ≤ x then dig x.toNat else 45 :: dig (-x).toNat
/-- What they count to. -/
def evalZ (l : List UInt8) : Int := if l.head? = some 45 then - evalN l.tail else evalN l
/-- A number of 64 bits. -/
def in64 (x : Int) : Prop := -9223372036854775808 ≤ x ∧ x ≤ 9223372036854775807
theorem dig_head (n : Nat) : (dig n).head? ≠ some 45 := by
  cases e : dig n with
  | nil => exact absurd e (dig_ne n)
  | cons x m =>
    have := dig_digit n x (by rw [e]; exact List.mem_cons_self)
    intro c
    have hx : x = 45 := by simpa using c
    rw [hx] at this
    exact absurd this.1 (by decide)
theorem evalZ_intD (x : Int) (h : in64 x) : evalZ (intD x) = x := by
  unfold intD in64 at *
  split
  · unfold evalZ
    rw [if_neg (dig_head _), evalN_dig _ (by omega)]
    omega
  · unfold evalZ
    rw [if_pos (show (45 :: dig (-x).toNat).head? = some 45 from rfl)]
    show - evalN (dig (-x).toNat) = x
    rw [evalN_dig _ (by omega)]
    omega
theorem intD_inj (x y : Int) (hx : in64 x) (hy : in64 y) (h : intD x = intD y) : x = y := by
  rw [← evalZ_intD x hx, ← evalZ_intD y hy, h]
theorem length_intD (x : Int) (h : in64 x) : 1 ≤ (intD x).length ∧ (intD x).length ≤ 20 := by
  unfold intD in64 at *
  have h1 : ∀ n, 1 ≤ (dig n).length := fun n => List.length_pos_iff.2 (dig_ne n)
  split
  · exact ⟨h1 _, length_dig _⟩
  · have := length_dig_le 18 (-x).toNat (by omega) (by omega)
    have := h1 (-x).toNat
    simp
    omega
theorem intD_signs (x : Int) : ∀ b ∈ intD x, b = 45 ∨ 48 ≤ b.toNat ∧ b.toNat ≤ 57 := by
  intro b hb
  unfold intD at hb
  split at hb
  · exact .inr (dig_digit _ b hb)
  · rcases List.mem_cons.1 hb with e | e
    · exact .inl e
    · exact .inr (dig_digit _ b e)
/-- The whole number whose digits these are. -/
def numOf (l : List UInt8) : Option Int := if -9223372036854775808 ≤ evalZ l ∧ evalZ l ≤ 9223372036854775807 ∧ intD (evalZ l) = l then some (evalZ l) else none
theorem numOf_some {l : List UInt8} {x : Int} : numOf l = some x ↔ in64 x ∧ intD x = l := by
  unfold numOf
  constructor
  · intro h
    split at h
    · rename_i c
      injection h with h
      subst h
      exact ⟨⟨c.1, c.2.1⟩, c.2.2⟩
    · cases h
  · rintro ⟨hx, rfl⟩
    have := evalZ_intD x hx
    rw [if_pos (by rw [this]; exact ⟨hx.1, hx.2, rfl⟩), this]
theorem numOf_intD (x : Int) (h : in64 x) : numOf (intD x) = some x := numOf_some.2 ⟨h, rfl⟩
theorem numOf_none {l : List UInt8} : numOf l = none ↔ ∀ x, in64 x → intD x ≠ l := by
  constructor
  · intro h x hx c
    rw [← c, numOf_intD x hx] at h
    cases h
  · intro h
    cases c : numOf l with
    | none => rfl
    | some x => exact absurd (numOf_some.1 c).2 (h x (numOf_some.1 c).1)
theorem numOf_length {l : List UInt8} {x : Int} (h : numOf l = some x) : 1 ≤ l.length ∧ l.length ≤ 20 := by
  obtain ⟨h1, rfl⟩ := numOf_some.1 h
  exact length_intD x h1
end Go.Proofs.YtejgjipmnmfkcaaGreatDoor.Val
