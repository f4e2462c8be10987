/-
  Digits as loops make and read them: plain facts for the walks.
-/
import Derived.WalkKit
import Derived.Test.YtejgjipmnmfkcaaGreatDoorDig
namespace Go.Proofs.YtejgjipmnmfkcaaGreatDoor.Val

/-- A loop that lays digits ahead of others: what is still to come, and what stands there. -/
def DigAt (n size : Nat) (out : List UInt8) : Prop := (out = [] ∧ size = n) ∨ (out ≠ [] ∧ size = 0 ∧ out = dig n) ∨ (out ≠ [] ∧ 0 < size ∧ size ≤ n ∧ dig size ++ out = dig n)
theorem DigAt.start (n : Nat) : DigAt n n [] := .inl ⟨rfl, rfl⟩
theorem DigAt.step {n size : Nat} {out : List UInt8} (hn : n < 10 ^ 20) (h : DigAt n size out) (hs : 0 < size ∨ out = []) : DigAt n (size / 10) (UInt8.ofNat (48 + size % 10) :: out) := by
  have key : dig size ++ out = dig n ∧ size ≤ n := by
    rcases h with ⟨rfl, rfl⟩ | ⟨h1, h2, _⟩ | ⟨_, _, h3, h4⟩
    · exact ⟨List.append_nil _, Nat.le_refl _⟩
    · rcases hs with c | c
      · omega
      · exact absurd c h1
    · exact ⟨h4, h3⟩
  obtain ⟨k1, k2⟩ := key
  by_cases c : size < 10
  · refine .inr (.inl ⟨List.cons_ne_nil _ _, by omega, ?_⟩)
    rw [← k1, dig_low size c, Nat.mod_eq_of_lt c]
    rfl
  · refine .inr (.inr ⟨List.cons_ne_nil _ _, by omega, by omega, ?_⟩)
    rw [← k1, dig_high size (by omega) (by omega), List.append_assoc]
    rfl
theorem DigAt.stop {n size : Nat} {out : List UInt8} (h : DigAt n size out) (hs : ¬ (0 < size ∨ out = [])) : out = dig n := by
  rcases h with ⟨h1, _⟩ | ⟨_, _, h⟩ | ⟨_, h2, _⟩
  · exact absurd (.inr h1) hs
  · exact h
  · exact absurd (.inl h2) hs
theorem DigAt.length {n size : Nat} {out : List UInt8} (h : DigAt n size out) : out.length ≤ 20 := by
  have hl := length_dig n
  rcases h with ⟨rfl, _⟩ | ⟨_, _, rfl⟩ | ⟨_, _, _, h4⟩
  · exact Nat.zero_le _
  · exact hl
  · rw [← h4, List.length_append] at hl
    omega
/-- A loop over what is below 0: the same with the number's size. -/
theorem neg_digit (m : Nat) : 48 - (-(m : Int)).tmod 10 = ((48 + m % 10 : Nat) : Int) := by
  rw [Int.neg_tmod]
  have : (m : Int).tmod 10 = ((m % 10 : Nat) : Int) := by
    rw [Int.tmod_eq_emod_of_nonneg (by omega)]
    omega
  rw [this]
  omega
theorem neg_tdiv (m : Nat) : (-(m : Int)).tdiv 10 = -((m / 10 : Nat) : Int) := by
  rw [Int.neg_tdiv]
  congr 1
/-- What is read of digits, up to a place, with its sign. -/
theorem evalN_take_succ (l : List UInt8) (k : Nat) (h : k < l.length) : evalN (l.take (k + 1)) = 10 * evalN (l.take k) + (((l.getD k 0).toNat : Int) - 48) := by
  rw [List.take_succ_eq_append_getElem h, evalN_snoc, List.getD_eq_getElem?_getD, List.getElem?_eq_getElem h]
  rfl
/-- Numbers that differ by a multiple of two to the sixty-fourth, within 64 bits, are one. -/
theorem same64 {x y : Int} (hx : in64 x) (hy : in64 y) (h : (x - y) % 18446744073709551616 = 0) : x = y := by
  unfold in64 at *
  omega
/-- A number read round the corner is the text's just if its digits are the text. -/
theorem read_iff {l : List UInt8} {x : Int} (hx : in64 x) (h : (x - evalZ l) % 18446744073709551616 = 0) : (numOf l = some x ∧ intD x = l) ∨ (numOf l = none ∧ intD x ≠ l) := by
  by_cases c : intD x = l
  · exact .inl ⟨numOf_some.2 ⟨hx, c⟩, c⟩
  · refine .inr ⟨?_, c⟩
    cases e : numOf l with
    | none => rfl
    | some y =>
      exfalso
      obtain ⟨hy, e2⟩ := numOf_some.1 e
      have e3 := evalZ_intD y hy
      rw [e2] at e3
      rw [e3] at h
      have := same64 hx hy h
      rw [this] at c
      exact c e2
/-- A sign that is none: no number. -/
theorem bad_sign {l : List UInt8} {i : Nat} (hi : i < l.length) (hb : (l.getD i 0).toNat < 48 ∨ 57 < (l.getD i 0).toNat) (h0 : ¬ (i = 0 ∧ l.getD 0 0 = 45)) : numOf l = none := by
  rw [numOf_none]
  intro x hx e
  have hm : l.getD i 0 ∈ l := by
    rw [List.getD_eq_getElem?_getD, List.getElem?_eq_getElem hi]
    exact List.getElem_mem hi
  unfold intD at e
  split at e
  · have := dig_digit x.toNat (l.getD i 0) (by rw [e]; exact hm)
    omega
  · subst e
    cases i with
    | zero => exact h0 ⟨rfl, rfl⟩
    | succ i =>
      have hi' : i < (dig (-x).toNat).length := by simpa using hi
      have := dig_digit (-x).toNat ((dig (-x).toNat).getD i 0) (by
        rw [List.getD_eq_getElem?_getD, List.getElem?_eq_getElem hi']
        exact List.getElem_mem hi')
      rw [List.getD_cons_succ] at hb
      omega
theorem too_long {l : List UInt8} (h : 21 ≤ l.length) : numOf l = none := by
  cases e : numOf l with
  | none => rfl
  | some x =>
    have := numOf_length e
    omega
/-- Digits with a sign ahead, and without. -/
theorem evalZ_sign {l : List UInt8} (h : l.getD 0 0 = 45) (hl : 0 < l.length) : evalZ l = - evalN (l.drop 1) := by
  unfold evalZ
  cases l with
  | nil => cases hl
  | cons b r =>
    have e : b = 45 := h
    rw [e, if_pos (show ((45 : UInt8) :: r).head? = some 45 from rfl)]
    rfl
theorem evalZ_plain {l : List UInt8} (h : l.getD 0 0 ≠ 45) : evalZ l = evalN l := by
  unfold evalZ
  cases l with
  | nil => rfl
  | cons b r => rw [if_neg (fun c => h (by simpa using c))]
/-- Is a number below 0? Its first sign tells. -/
theorem intD_first (x : Int) : (intD x).getD 0 0 = 45 ↔ x < 0 := by
  unfold intD
  split
  · rename_i c
    constructor
    · intro h
      exfalso
      have := dig_head x.toNat
      apply this
      cases e : dig x.toNat with
      | nil => exact absurd e (dig_ne _)
      | cons b r =>
        rw [e] at h
        have hb : b = 45 := h
        rw [hb]
        rfl
    · intro h
      omega
  · exact ⟨fun _ => by omega, fun _ => rfl⟩
end Go.Proofs.YtejgjipmnmfkcaaGreatDoor.Val
