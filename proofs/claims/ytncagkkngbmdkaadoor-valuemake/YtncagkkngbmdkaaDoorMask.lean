/-
  Plain facts on numbers: a mask of low bits, a remainder.
-/
import Derived.WalkKit
import Derived.Laws.BitsLemmas
namespace Go.Proofs.YtncagkkngbmdkaaDoor.Tree
open Go.RowKit
theorem and_mask (x : Int) (j : Nat) (hj : j < 63) (m : Int) (hm : m = ((2 ^ j - 1 : Nat) : Int)) : bits .and .i64 x m = x % ((2 ^ j : Nat) : Int) := by
  subst hm
  have hp : 2 ^ j ≤ 4611686018427387904 := Nat.pow_le_pow_right (n := 2) (j := 62) (by decide) (by omega)
  have hp0 : 0 < 2 ^ j := Nat.pos_of_ne_zero (by simp)
  unfold bits
  have e : (BitVec.ofInt IntKind.i64.bits x &&& BitVec.ofInt IntKind.i64.bits ((2 ^ j - 1 : Nat) : Int)).toNat = (x % ((2 ^ j : Nat) : Int)).toNat := by
    rw [BitVec.toNat_and, BitVec.toNat_ofInt, BitVec.toNat_ofInt]
    have e1 : (((2 ^ j - 1 : Nat) : Int) % ((2 ^ IntKind.i64.bits : Nat) : Int)).toNat = 2 ^ j - 1 := by
      rw [← Int.natCast_emod, Int.toNat_natCast]
      exact Nat.mod_eq_of_lt (by show _ < 2 ^ 64; omega)
    rw [e1, Nat.and_two_pow_sub_one_eq_mod]
    have hd : ((2 ^ j : Nat) : Int) ∣ ((2 ^ IntKind.i64.bits : Nat) : Int) := by
      refine Int.natCast_dvd_natCast.2 (Nat.pow_dvd_pow 2 ?_)
      show j ≤ 64
      omega
    have hn : 0 ≤ x % ((2 ^ IntKind.i64.bits : Nat) : Int) := Int.emod_nonneg _ (by decide)
    have h2 := Int.emod_emod_of_dvd x hd
    rw [← h2]
    generalize x % ((2 ^ IntKind.i64.bits : Nat) : Int) = y at *
    obtain ⟨n, rfl⟩ := Int.eq_ofNat_of_zero_le hn
    rw [← Int.natCast_emod]
    simp only [Int.toNat_natCast]
  simp only [e]
  have hr0 : 0 ≤ x % ((2 ^ j : Nat) : Int) := Int.emod_nonneg _ (by omega)
  have hr1 : x % ((2 ^ j : Nat) : Int) < ((2 ^ j : Nat) : Int) := Int.emod_lt_of_pos _ (by omega)
  rw [Int.toNat_of_nonneg hr0, IntKind.wrap_i64]
  generalize 2 ^ j = q at *
  omega
theorem and3 (x : Int) : ∃ k : Nat, bits .and .i64 x 7 = (k : Int) ∧ k < 8 := ⟨(x % 8).toNat, by rw [and_mask x 3 (by decide) _ (by decide)]; omega, by omega⟩
theorem and10 (x : Int) : ∃ k : Nat, bits .and .i64 x 1023 = (k : Int) ∧ k < 1024 := ⟨(x % 1024).toNat, by rw [and_mask x 10 (by decide) _ (by decide)]; omega, by omega⟩
theorem rest (x m : Int) (h : 0 < m) : ∃ k, (IntKind.u64.wrap x).tmod m = k ∧ 0 ≤ k ∧ k < m := by
  have h0 : 0 ≤ IntKind.u64.wrap x := by rw [IntKind.wrap_u64]; omega
  rw [Int.tmod_eq_emod_of_nonneg h0]
  exact ⟨_, rfl, Int.emod_nonneg _ (by omega), Int.emod_lt_of_pos _ h⟩
end Go.Proofs.YtncagkkngbmdkaaDoor.Tree
