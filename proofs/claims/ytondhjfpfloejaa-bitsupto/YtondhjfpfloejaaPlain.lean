/-
  Plain facts on numbers, bytes and bits: masks, one bit of a byte, bits of a list of bytes, set, counted, copied.
-/
import Derived.WalkKit
import Derived.Laws.BitsLemmas
import Derived.Laws.Shifts
namespace Go.Proofs.Ytondhjfpfloejaa.Plain
open Go.RowKit

theorem and_mask (x : Int) (j : Nat) (hj : j < 63) (m : Int) (hm : m = ((2 ^ j - 1 : Nat) : Int)) : bits .and .i64 x m = x % ((2 ^ j : Nat) : Int) := by
  subst hm
  have hp : 2 ^ j ≤ 4611686018427387904 := Nat.pow_le_pow_right (n := 2) (j := 62) (by decide) (by omega)
  have hp0 : 0 < 2 ^ j := Nat.pos_of_ne_zero (by simp)
  unfold bits
  have e : (BitVec.ofInt IntKind.i64.bits x &&& BitVec.ofInt IntKind.i64.bits ((2 ^ j - 1 : Nat) : Int)).toNat = (x % ((2 ^ j : Nat) : Int)).toNat := by
    rw [BitVec.toNat_and, BitVec.toNat_ofInt, BitVec.toNat_ofInt]
    have e1 : (((2 ^ j - 1 : Nat) : Int) % ((2 ^ IntKind.i64.bits : Nat) : Int)).toNat = 2 ^ j - 1 := by
      rw [← Int.natCast_emod, Int.toNat_natCast]
      exact Nat.mod_eq_of_lt (by show _ < 2 ^ 64; omega)
    rw [e1, Nat.and_two_pow_sub_one_eq_mod]
    have hd : ((2 ^ j : Nat) : Int) ∣ ((2 ^ IntKind.i64.bits : Nat) : Int) := by
      refine Int.natCast_dvd_natCast.2 (Nat.pow_dvd_pow 2 ?_)
      show j ≤ 64
      omega
    have hn : 0 ≤ x % ((2 ^ IntKind.i64.bits : Nat) : Int) := Int.emod_nonneg _ (by decide)
    have h2 := Int.emod_emod_of_dvd x hd
    rw [← h2]
    generalize x % ((2 ^ IntKind.i64.bits : Nat) : Int) = y at *
    obtain ⟨n, rfl⟩ := Int.eq_ofNat_of_zero_le hn
    rw [← Int.natCast_emod]
    simp only [Int.toNat_natCast]
  simp only [e]
  have hr0 : 0 ≤ x % ((2 ^ j : Nat) : Int) := Int.emod_nonneg _ (by omega)
  have hr1 : x % ((2 ^ j : Nat) : Int) < ((2 ^ j : Nat) : Int) := Int.emod_lt_of_pos _ (by omega)
  rw [Int.toNat_of_nonneg hr0, IntKind.wrap_i64]
  generalize 2 ^ j = q at *
  omega
theorem and10 (x : Int) : bits .and .i64 x 1023 = x % 1024 := and_mask x 10 (by decide) _ (by decide)

/-- What a place that is told by any int, held against a bound, comes to. -/
theorem rest (x m : Int) (h : 0 < m) : ∃ k, (IntKind.u64.wrap x).tmod m = k ∧ 0 ≤ k ∧ k < m := by
  have h0 := wrap_u64_nonneg x
  rw [Int.tmod_eq_emod_of_nonneg h0]
  exact ⟨_, rfl, Int.emod_nonneg _ (by omega), Int.emod_lt_of_pos _ h⟩
theorem and7 (n : Nat) : bits .and .u64 (n : Int) 7 = ((n % 8 : Nat) : Int) := by
  unfold bits
  have e : (BitVec.ofInt IntKind.u64.bits (n : Int) &&& BitVec.ofInt IntKind.u64.bits 7).toNat = n % 8 := by
    rw [BitVec.toNat_and, BitVec.toNat_ofInt, BitVec.toNat_ofInt]
    have e1 : ((7 : Int) % ((2 ^ IntKind.u64.bits : Nat) : Int)).toNat = 2 ^ 3 - 1 := by decide
    have e2 : ((n : Int) % ((2 ^ IntKind.u64.bits : Nat) : Int)).toNat = n % 2 ^ 64 := by
      rw [← Int.natCast_emod, Int.toNat_natCast]; rfl
    rw [e1, e2, Nat.and_two_pow_sub_one_eq_mod]
    omega
  simp only [e]
  rw [IntKind.wrap_u64]
  omega

theorem and1_all : ∀ x : Fin 256, ∀ r : Fin 8, (bits .and .u8 ((x.val / 2 ^ r.val : Nat) : Int) 1 == 1) = x.val.testBit r.val := by decide +kernel
theorem and1 (x r : Nat) (hx : x < 256) (hr : r < 8) : (bits .and .u8 ((x : Int) / 2 ^ r) 1 == 1) = x.testBit r := by
  have := and1_all ⟨x, hx⟩ ⟨r, hr⟩
  simpa using this

/-- A byte with one bit turned on or off. -/
def turn (x r : Nat) (on : Bool) : Nat := if on then x ||| 2 ^ r else x &&& (255 ^^^ 2 ^ r)
theorem or_all : ∀ x : Fin 256, ∀ r : Fin 8, bits .or .u8 (x.val : Int) ((2 ^ r.val % 256 : Nat) : Int) = ((turn x.val r.val true : Nat) : Int) := by decide +kernel
theorem andNot_all : ∀ x : Fin 256, ∀ r : Fin 8, bits .andNot .u8 (x.val : Int) ((2 ^ r.val % 256 : Nat) : Int) = ((turn x.val r.val false : Nat) : Int) := by decide +kernel
theorem or_byte (x r : Nat) (hx : x < 256) (hr : r < 8) : bits .or .u8 (x : Int) (2 ^ r % 256) = ((turn x r true : Nat) : Int) := by
  have := or_all ⟨x, hx⟩ ⟨r, hr⟩
  simpa using this
theorem andNot_byte (x r : Nat) (hx : x < 256) (hr : r < 8) : bits .andNot .u8 (x : Int) (2 ^ r % 256) = ((turn x r false : Nat) : Int) := by
  have := andNot_all ⟨x, hx⟩ ⟨r, hr⟩
  simpa using this
theorem turn_lt (x r : Nat) (on : Bool) (hx : x < 256) (hr : r < 8) : turn x r on < 256 := by
  have hp : 2 ^ r < 2 ^ 8 := Nat.pow_lt_pow_right (by decide) hr
  unfold turn
  split
  · exact Nat.or_lt_two_pow (n := 8) hx hp
  · exact Nat.lt_of_le_of_lt Nat.and_le_left hx
theorem turn_bit (x r q : Nat) (on : Bool) (hq : q < 8) : (turn x r on).testBit q = if q = r then on else x.testBit q := by
  unfold turn
  cases on
  · have h255 : (255 : Nat).testBit q = true := by
      have := Nat.testBit_two_pow_sub_one 8 q
      simpa [hq] using this
    simp only [Bool.false_eq_true, if_false, Nat.testBit_and, Nat.testBit_xor, h255, Nat.testBit_two_pow]
    by_cases h : q = r
    · simp [h]
    · have h' : ¬ r = q := fun e => h e.symm
      simp [h, h']
  · simp only [if_true, Nat.testBit_or, Nat.testBit_two_pow]
    by_cases h : q = r
    · simp [h]
    · have h' : ¬ r = q := fun e => h e.symm
      simp [h, h']

/-- Bit number i of bytes, the lowest of each first. -/
def bit (l : List UInt8) (i : Nat) : Bool := (l.getD (i / 8) 0).toNat.testBit (i % 8)
/-- The bytes with one bit turned on or off. -/
def setB (l : List UInt8) (i : Nat) (on : Bool) : List UInt8 := l.set (i / 8) (UInt8.ofNat (turn (l.getD (i / 8) 0).toNat (i % 8) on))
/-- How many of n bits from a on are 1. -/
def cnt (l : List UInt8) (a : Nat) : Nat → Nat
  | 0 => 0
  | n + 1 => cnt l a n + if bit l (a + n) then 1 else 0
/-- So many zero bytes as hold n bits, and the first k bits set as those from a on are. -/
def cpyTo (l : List UInt8) (a n : Nat) : Nat → List UInt8
  | 0 => List.replicate ((n + 7) / 8) 0
  | k + 1 => setB (cpyTo l a n k) k (bit l (a + k))
def cpy (l : List UInt8) (a n : Nat) : List UInt8 := cpyTo l a n n

theorem byte_lt (b : UInt8) : b.toNat < 256 := b.toNat_lt
theorem length_setB (l : List UInt8) (i : Nat) (on : Bool) : (setB l i on).length = l.length := by simp [setB]
theorem setB_byte (l : List UInt8) (i : Nat) (on : Bool) : (UInt8.ofNat (turn (l.getD (i / 8) 0).toNat (i % 8) on)).toNat = turn (l.getD (i / 8) 0).toNat (i % 8) on := by
  have := turn_lt (l.getD (i / 8) 0).toNat (i % 8) on (byte_lt _) (Nat.mod_lt _ (by decide))
  simp only [UInt8.toNat_ofNat']
  exact Nat.mod_eq_of_lt this
theorem bit_setB (l : List UInt8) (i j : Nat) (on : Bool) (h : i / 8 < l.length) : bit (setB l i on) j = if j = i then on else bit l j := by
  unfold bit
  by_cases hb : j / 8 = i / 8
  · have e : (setB l i on).getD (j / 8) 0 = UInt8.ofNat (turn (l.getD (i / 8) 0).toNat (i % 8) on) := by
      unfold setB
      rw [hb, List.getD_eq_getElem?_getD, List.getElem?_set_self h]
      rfl
    rw [e, setB_byte, turn_bit _ _ _ _ (Nat.mod_lt _ (by decide)), hb]
    by_cases hj : j = i
    · simp [hj]
    · rw [if_neg (by omega), if_neg hj]
  · have e : (setB l i on).getD (j / 8) 0 = l.getD (j / 8) 0 := by
      unfold setB
      rw [List.getD_eq_getElem?_getD, List.getElem?_set_ne (fun e => hb e.symm), ← List.getD_eq_getElem?_getD]
    rw [e, if_neg (fun e => hb (by rw [e]))]
theorem bit_over (l : List UInt8) (i : Nat) (h : 8 * l.length ≤ i) : bit l i = false := by
  unfold bit
  rw [List.getD_eq_getElem?_getD, List.getElem?_eq_none (by omega)]
  simp
theorem byte_ext (a b : UInt8) (h : ∀ r, r < 8 → a.toNat.testBit r = b.toNat.testBit r) : a = b := by
  apply UInt8.toNat_inj.1
  apply Nat.eq_of_testBit_eq
  intro r
  by_cases hr : r < 8
  · exact h r hr
  · have hp : 2 ^ 8 ≤ 2 ^ r := Nat.pow_le_pow_right (by decide) (by omega)
    rw [Nat.testBit_lt_two_pow (Nat.lt_of_lt_of_le (byte_lt a) hp), Nat.testBit_lt_two_pow (Nat.lt_of_lt_of_le (byte_lt b) hp)]
theorem ext (l m : List UInt8) (hl : l.length = m.length) (h : ∀ i, i < 8 * l.length → bit l i = bit m i) : l = m := by
  apply List.ext_getElem hl
  intro j h1 h2
  apply byte_ext
  intro r hr
  have := h (8 * j + r) (by omega)
  unfold bit at this
  rw [show (8 * j + r) / 8 = j from by omega, show (8 * j + r) % 8 = r from by omega] at this
  simpa [List.getD_eq_getElem?_getD, List.getElem?_eq_getElem h1, List.getElem?_eq_getElem h2] using this
theorem length_cpyTo (l : List UInt8) (a n k : Nat) : (cpyTo l a n k).length = (n + 7) / 8 := by
  induction k with
  | zero => simp [cpyTo]
  | succ k ih => rw [cpyTo, length_setB, ih]
theorem length_cpy (l : List UInt8) (a n : Nat) : (cpy l a n).length = (n + 7) / 8 := length_cpyTo _ _ _ _
theorem bit_zeros (n i : Nat) : bit (List.replicate n 0) i = false := by
  unfold bit
  rw [List.getD_eq_getElem?_getD, List.getElem?_replicate]
  split <;> simp
theorem bit_cpyTo (l : List UInt8) (a n k : Nat) (h : k ≤ n) (i : Nat) : bit (cpyTo l a n k) i = if i < k then bit l (a + i) else false := by
  induction k with
  | zero => rw [cpyTo, bit_zeros]; rfl
  | succ k ih =>
    rw [cpyTo, bit_setB _ _ _ _ (by rw [length_cpyTo]; omega), ih (by omega)]
    by_cases h1 : i = k
    · subst h1; simp
    · by_cases h2 : i < k
      · rw [if_neg h1, if_pos h2, if_pos (by omega)]
      · rw [if_neg h1, if_neg h2, if_neg (by omega)]
theorem bit_cpy (l : List UInt8) (a n i : Nat) : bit (cpy l a n) i = if i < n then bit l (a + i) else false := bit_cpyTo _ _ _ _ (Nat.le_refl _) _
theorem cpy_cpy (l : List UInt8) (i k j : Nat) (hj : j ≤ k) : cpy (cpy l i k) j (k - j) = cpy l (i + j) (k - j) := by
  apply ext
  · rw [length_cpy, length_cpy]
  · intro q _
    rw [bit_cpy, bit_cpy, bit_cpy]
    by_cases h : q < k - j
    · rw [if_pos h, if_pos h, if_pos (by omega), Nat.add_assoc]
    · rw [if_neg h, if_neg h]
theorem cnt_le (l : List UInt8) (a n : Nat) : cnt l a n ≤ n := by
  induction n with
  | zero => simp [cnt]
  | succ n ih => rw [cnt]; split <;> omega
theorem cnt_add (l : List UInt8) (a m n : Nat) : cnt l a (m + n) = cnt l a m + cnt l (a + m) n := by
  induction n with
  | zero => simp [cnt]
  | succ n ih => rw [← Nat.add_assoc, cnt, ih, cnt, Nat.add_assoc a m n, Nat.add_assoc]
theorem cnt_congr (l m : List UInt8) (a b n : Nat) (h : ∀ i, i < n → bit l (a + i) = bit m (b + i)) : cnt l a n = cnt m b n := by
  induction n with
  | zero => rfl
  | succ n ih => rw [cnt, cnt, ih (fun i hi => h i (by omega)), h n (by omega)]
theorem cnt_none (l : List UInt8) (a n : Nat) (h : ∀ i, i < n → bit l (a + i) = false) : cnt l a n = 0 := by
  induction n with
  | zero => rfl
  | succ n ih => rw [cnt, ih (fun i hi => h i (by omega)), h n (by omega)]; rfl
theorem cnt_cpy (l : List UInt8) (a n : Nat) : cnt (cpy l a n) 0 (8 * (cpy l a n).length) = cnt l a n := by
  rw [length_cpy, show 8 * ((n + 7) / 8) = n + (8 * ((n + 7) / 8) - n) from by omega, cnt_add,
    cnt_congr (cpy l a n) l 0 a n (fun i hi => by rw [bit_cpy, if_pos (by omega)]; simp),
    cnt_none (cpy l a n) (0 + n) _ (fun i _ => by rw [bit_cpy, if_neg (by omega)])]
  rfl
end Go.Proofs.Ytondhjfpfloejaa.Plain
