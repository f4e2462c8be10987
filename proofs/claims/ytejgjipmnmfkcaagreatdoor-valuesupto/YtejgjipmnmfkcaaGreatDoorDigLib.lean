/-
  The library's words for a number's digits and what digits are read as, and ours: plain facts.
-/
import Derived.WalkKit
import Derived.Test.YtejgjipmnmfkcaaGreatDoorDig
import Derived.Test.YtejgjipmnmfkcaaGreatDoorVal
import Derived.Lib.Bytealg
import Derived.Lib.ItoaNum
import Derived.Lib.ParseIntBTie
namespace Go.Proofs.YtejgjipmnmfkcaaGreatDoor.Val

theorem dec_dig : ∀ n, n < 10 ^ 20 → Lib.decDigits n = dig n := by
  intro n
  induction n using Nat.strongRecOn with
  | _ n ih =>
    intro hn
    rw [Lib.decDigits]
    by_cases h : n < 10
    · rw [dif_pos h, dig_low n h]
    · rw [dif_neg h, dig_high n (by omega) hn, ih (n / 10) (by omega) (by omega)]
theorem itoa_intD (x : Int) (h : in64 x) : Lib.itoa x = intD x := by
  unfold Lib.itoa intD in64 at *
  by_cases c : x < 0
  · rw [if_pos c, if_neg (by omega), dec_dig _ (by omega), show x.natAbs = (-x).toNat from by omega]
  · rw [if_neg c, if_pos (by omega), dec_dig _ (by omega)]
/-- What digits count to, from a number on. -/
def foldN (a : Nat) (l : List UInt8) : Nat := l.foldl (fun a b => a * 10 + (b.toNat - 48)) a
theorem foldN_snoc (a : Nat) (l : List UInt8) (b : UInt8) : foldN a (l ++ [b]) = foldN a l * 10 + (b.toNat - 48) := by
  unfold foldN
  rw [List.foldl_append]
  rfl
theorem foldN_le (l : List UInt8) : ∀ a, a ≤ foldN a l := by
  induction l with
  | nil => intro a; exact Nat.le_refl _
  | cons b l ih =>
    intro a
    have := ih (a * 10 + (b.toNat - 48))
    show a ≤ foldN (a * 10 + (b.toNat - 48)) l
    omega
theorem foldN_dig : ∀ n, n < 10 ^ 20 → foldN 0 (dig n) = n := by
  intro n
  induction n using Nat.strongRecOn with
  | _ n ih =>
    intro hn
    by_cases h : n < 10
    · rw [dig_low n h]
      show 0 * 10 + ((UInt8.ofNat (48 + n)).toNat - 48) = n
      rw [byte_nat _ (by omega)]
      omega
    · rw [dig_high n (by omega) hn, foldN_snoc, ih (n / 10) (by omega) (by omega), byte_nat _ (by omega)]
      omega
theorem parseM (l : List UInt8) : ∀ a, (∀ b ∈ l, 48 ≤ b.toNat ∧ b.toNat ≤ 57) → foldN a l ≤ 18446744073709551615 → Lib.parseUintM 18446744073709551615 a l = .ok (foldN a l) := by
  induction l with
  | nil => intro a _ _; rfl
  | cons b l ih =>
    intro a hd hf
    have hb := hd b List.mem_cons_self
    have h1 : foldN a (b :: l) = foldN (a * 10 + (b.toNat - 48)) l := rfl
    rw [h1] at hf ⊢
    have h2 := foldN_le l (a * 10 + (b.toNat - 48))
    rw [Lib.parseUintM, if_pos hb, if_neg (by omega), if_neg (by omega)]
    exact ih _ (fun x hx => hd x (List.mem_cons_of_mem _ hx)) hf
theorem parseU_dig (n : Nat) (h : n ≤ 18446744073709551615) : Lib.parseUintB 64 (dig n) = .ok n := by
  unfold Lib.parseUintB
  have e : (2 : Nat) ^ 64 - 1 = 18446744073709551615 := by decide
  rw [if_neg (dig_ne n), e, parseM _ _ (dig_digit n) (by rw [foldN_dig n (by omega)]; exact h), foldN_dig n (by omega)]
theorem parse_intD (x : Int) (h : in64 x) : Lib.parseIntB 64 (intD x) = .ok x := by
  unfold in64 at h
  have e : (2 : Nat) ^ (64 - 1) = 9223372036854775808 := by decide
  unfold intD
  by_cases c : 0 ≤ x
  · rw [if_pos c]
    have hp := parseU_dig x.toNat (by omega)
    cases hd : dig x.toNat with
    | nil => exact absurd hd (dig_ne _)
    | cons b r =>
      have hb := dig_digit x.toNat b (by rw [hd]; exact List.mem_cons_self)
      rw [Lib.parseIntB_plain 64 b r (by omega) (by omega), ← hd, hp, e]
      unfold Lib.signlessC
      simp only
      rw [if_neg (by omega)]
      congr 1
      omega
  · rw [if_neg c, Lib.parseIntB_minus, parseU_dig _ (by omega), e]
    unfold Lib.signedC
    simp only
    rw [if_neg (by omega)]
    congr 1
    omega
theorem parse_none {l : List UInt8} (h : numOf l = none) {v : Int} (hv : Lib.parseIntB 64 l = .ok v) : Lib.itoa v ≠ l ∧ in64 v := by
  have hb := Lib.parseIntB_bounds hv
  have e : (2 : Nat) ^ (64 - 1) = 9223372036854775808 := by decide
  rw [e] at hb
  have hi : in64 v := ⟨by omega, by omega⟩
  refine ⟨?_, hi⟩
  rw [itoa_intD v hi]
  exact numOf_none.1 h v hi
theorem parse_some {l : List UInt8} {x : Int} (h : numOf l = some x) : Lib.parseIntB 64 l = .ok x ∧ Lib.itoa x = l ∧ in64 x := by
  obtain ⟨h1, h2⟩ := numOf_some.1 h
  exact ⟨by rw [← h2]; exact parse_intD x h1, by rw [itoa_intD x h1]; exact h2, h1⟩
/-- The first place of a sign, in the library's words. -/
theorem index_seek (c : UInt8) : ∀ l : List UInt8, Lib.indexByte l c = match seek c l with | none => -1 | some k => (k : Int)
  | [] => rfl
  | b :: l => by
    rw [Lib.indexByte, seek, index_seek c l]
    by_cases e : b = c
    · rw [if_pos e, if_pos (by rw [e]; exact beq_self_eq_true c)]
      rfl
    · rw [if_neg e, if_neg (by rw [beq_iff_eq]; exact e)]
      cases seek c l with
      | none => rfl
      | some k =>
        show (if ((k : Int) == -1) = true then -1 else (k : Int) + 1) = ((k + 1 : Nat) : Int)
        rw [if_neg (by rw [beq_iff_eq]; omega)]
        omega
end Go.Proofs.YtejgjipmnmfkcaaGreatDoor.Val
