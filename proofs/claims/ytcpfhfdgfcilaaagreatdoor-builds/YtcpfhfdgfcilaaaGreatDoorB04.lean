/-
  Several texts in one: Plain facts on numbers in bytes: so many bytes, the lowest first, and back; seven bits in a byte, and back. · Plain facts on numbers, bytes and bits: masks, one bit of a byte, bits of a list of bytes, set, counted, copied. · What an array may be, and what it is read as: plain functions of a type's nodes and a tree. · Ends as the program asks them: all there, sorted, the last one; near each other; rising: plain facts. · Bits: contracts (carried).
-/
import Derived.WalkKit
import Derived.Laws.BitsLemmas
import Derived.Laws.Shifts
import Derived.Test.YtcpfhfdgfcilaaaGreatDoorB01
import Derived.Test.YtcpfhfdgfcilaaaGreatDoorB02
import Derived.Test.YtcpfhfdgfcilaaaGreatDoorB03
import Derived.Test.YtcpfhfdgfcilaaaGreatDoorProg
import Derived.ProofKit
import Derived.OpenShut
import Derived.Below
import Derived.Laws.IdiomStrings
import Derived.RegionTactic
import Derived.ChangeAlike
import Derived.OwnWalk
namespace Go.Proofs.YtcpfhfdgfcilaaaGreatDoor.Plain
open Go.RowKit

theorem byte_lt (b : UInt8) : b.toNat < 256 := b.toNat_lt

/-- The n lowest bytes of x, the lowest first. -/
def low (x n : Nat) : List UInt8 := (List.range n).map fun i => UInt8.ofNat (x / 256 ^ i)
/-- The same, the first k of them laid, zeros behind. -/
def lowTo (x n k : Nat) : List UInt8 := (List.range n).map fun i => if i < k then UInt8.ofNat (x / 256 ^ i) else 0
theorem length_low (x n : Nat) : (low x n).length = n := by simp [low]
theorem length_lowTo (x n k : Nat) : (lowTo x n k).length = n := by simp [lowTo]
theorem lowTo_zero (x n : Nat) : lowTo x n 0 = List.replicate n 0 := by
  apply List.ext_getElem <;> simp [lowTo]
theorem lowTo_succ (x n k : Nat) : lowTo x n (k + 1) = (lowTo x n k).set k (UInt8.ofNat (x / 256 ^ k)) := by
  apply List.ext_getElem
  · simp [lowTo]
  · intro i h1 h2
    simp only [lowTo, List.getElem_map, List.getElem_range, List.getElem_set]
    by_cases e : k = i
    · subst e; simp
    · by_cases h : i < k
      · rw [if_pos (by omega), if_neg e, if_pos h]
      · rw [if_neg (by omega), if_neg e, if_neg h]
theorem lowTo_all (x n : Nat) : lowTo x n n = low x n := by
  apply List.ext_getElem
  · simp [lowTo, low]
  · intro i h1 h2
    simp only [lowTo, low, List.getElem_map, List.getElem_range]
    rw [if_pos (by simpa [lowTo] using h1)]

/-- The number that k bytes from a on tell, the lowest first. -/
def val (l : List UInt8) (a : Nat) : Nat → Nat
  | 0 => 0
  | k + 1 => val l a k + (l.getD (a + k) 0).toNat * 256 ^ k
/-- A number at seven bits in a byte, the lowest first, 128 more in all but the last one; at most f + 1 of them. -/
def vbF : Nat → Nat → List UInt8
  | 0, x => [UInt8.ofNat x]
  | f + 1, x => if x < 128 then [UInt8.ofNat x] else UInt8.ofNat (x % 128 + 128) :: vbF f (x / 128)
/-- A number in as few bytes as can be. -/
def vb (x : Nat) : List UInt8 := vbF x x
/-- Most. -/
def most : Nat := 2147483647

theorem and_mask (x : Int) (j : Nat) (hj : j < 63) (m : Int) (hm : m = ((2 ^ j - 1 : Nat) : Int)) : bits .and .i64 x m = x % ((2 ^ j : Nat) : Int) := by
  subst hm
  have hp : 2 ^ j ≤ 4611686018427387904 := Nat.pow_le_pow_right (n := 2) (j := 62) (by decide) (by omega)
  have hp0 : 0 < 2 ^ j := Nat.pos_of_ne_zero (by simp)
  unfold bits
  have e : (BitVec.ofInt IntKind.i64.bits x &&& BitVec.ofInt IntKind.i64.bits ((2 ^ j - 1 : Nat) : Int)).toNat = (x % ((2 ^ j : Nat) : Int)).toNat := by
    rw [BitVec.toNat_and, BitVec.toNat_ofInt, BitVec.toNat_ofInt]
    have e1 : (((2 ^ j - 1 : Nat) : Int) % ((2 ^ IntKind.i64.bits : Nat) : Int)).toNat = 2 ^ j - 1 := by
      rw [← Int.natCast_emod, Int.toNat_natCast]
      exact Nat.mod_eq_of_lt (by show _ < 2 ^ 64; omega)
    rw [e1, Nat.and_two_pow_sub_one_eq_mod]
    have hd : ((2 ^ j : Nat) : Int) ∣ ((2 ^ IntKind.i64.bits : Nat) : Int) := by
      refine Int.natCast_dvd_natCast.2 (Nat.pow_dvd_pow 2 ?_)
      show j ≤ 64
      omega
    have hn : 0 ≤ x % ((2 ^ IntKind.i64.bits : Nat) : Int) := Int.emod_nonneg _ (by decide)
    have h2 := Int.emod_emod_of_dvd x hd
    rw [← h2]
    generalize x % ((2 ^ IntKind.i64.bits : Nat) : Int) = y at *
    obtain ⟨n, rfl⟩ := Int.eq_ofNat_of_zero_le hn
    rw [← Int.natCast_emod]
    simp only [Int.toNat_natCast]
  simp only [e]
  have hr0 : 0 ≤ x % ((2 ^ j : Nat) : Int) := Int.emod_nonneg _ (by omega)
  have hr1 : x % ((2 ^ j : Nat) : Int) < ((2 ^ j : Nat) : Int) := Int.emod_lt_of_pos _ (by omega)
  rw [Int.toNat_of_nonneg hr0, IntKind.wrap_i64]
  generalize 2 ^ j = q at *
  omega
theorem and7 (x : Int) : bits .and .i64 x 127 = x % 128 := and_mask x 7 (by decide) _ (by decide)
theorem and1 (x : Int) : bits .and .i64 x 1 = x % 2 := and_mask x 1 (by decide) _ (by decide)

/-- A byte of an int, moved down: its two's complement's. -/
theorem shr_byte (x : Int) (X k : Nat) (hX : IntKind.u64.wrap x = (X : Int)) (hk : k < 8) : x / 2 ^ (8 * k) % 256 = ((X / 256 ^ k : Nat) : Int) % 256 := by
  rw [IntKind.wrap_u64] at hX
  match k, hk with
  | 0, _ => simp; omega
  | 1, _ => simp; omega
  | 2, _ => simp; omega
  | 3, _ => simp; omega
  | 4, _ => simp; omega
  | 5, _ => simp; omega
  | 6, _ => simp; omega
  | 7, _ => simp; omega
end Go.Proofs.YtcpfhfdgfcilaaaGreatDoor.Plain
namespace Go.Proofs.YtcpfhfdgfcilaaaGreatDoor.BitP
open Go.RowKit

theorem and_mask (x : Int) (j : Nat) (hj : j < 63) (m : Int) (hm : m = ((2 ^ j - 1 : Nat) : Int)) : bits .and .i64 x m = x % ((2 ^ j : Nat) : Int) := by
  subst hm
  have hp : 2 ^ j ≤ 4611686018427387904 := Nat.pow_le_pow_right (n := 2) (j := 62) (by decide) (by omega)
  have hp0 : 0 < 2 ^ j := Nat.pos_of_ne_zero (by simp)
  unfold bits
  have e : (BitVec.ofInt IntKind.i64.bits x &&& BitVec.ofInt IntKind.i64.bits ((2 ^ j - 1 : Nat) : Int)).toNat = (x % ((2 ^ j : Nat) : Int)).toNat := by
    rw [BitVec.toNat_and, BitVec.toNat_ofInt, BitVec.toNat_ofInt]
    have e1 : (((2 ^ j - 1 : Nat) : Int) % ((2 ^ IntKind.i64.bits : Nat) : Int)).toNat = 2 ^ j - 1 := by
      rw [← Int.natCast_emod, Int.toNat_natCast]
      exact Nat.mod_eq_of_lt (by show _ < 2 ^ 64; omega)
    rw [e1, Nat.and_two_pow_sub_one_eq_mod]
    have hd : ((2 ^ j : Nat) : Int) ∣ ((2 ^ IntKind.i64.bits : Nat) : Int) := by
      refine Int.natCast_dvd_natCast.2 (Nat.pow_dvd_pow 2 ?_)
      show j ≤ 64
      omega
    have hn : 0 ≤ x % ((2 ^ IntKind.i64.bits : Nat) : Int) := Int.emod_nonneg _ (by decide)
    have h2 := Int.emod_emod_of_dvd x hd
    rw [← h2]
    generalize x % ((2 ^ IntKind.i64.bits : Nat) : Int) = y at *
    obtain ⟨n, rfl⟩ := Int.eq_ofNat_of_zero_le hn
    rw [← Int.natCast_emod]
    simp only [Int.toNat_natCast]
  simp only [e]
  have hr0 : 0 ≤ x % ((2 ^ j : Nat) : Int) := Int.emod_nonneg _ (by omega)
  have hr1 : x % ((2 ^ j : Nat) : Int) < ((2 ^ j : Nat) : Int) := Int.emod_lt_of_pos _ (by omega)
  rw [Int.toNat_of_nonneg hr0, IntKind.wrap_i64]
  generalize 2 ^ j = q at *
  omega
/-- What a place that is told by any int, held against a bound, comes to. -/
theorem rest (x m : Int) (h : 0 < m) : ∃ k, (IntKind.u64.wrap x).tmod m = k ∧ 0 ≤ k ∧ k < m := by
  have h0 := wrap_u64_nonneg x
  rw [Int.tmod_eq_emod_of_nonneg h0]
  exact ⟨_, rfl, Int.emod_nonneg _ (by omega), Int.emod_lt_of_pos _ h⟩
theorem and7 (n : Nat) : bits .and .u64 (n : Int) 7 = ((n % 8 : Nat) : Int) := by
  unfold bits
  have e : (BitVec.ofInt IntKind.u64.bits (n : Int) &&& BitVec.ofInt IntKind.u64.bits 7).toNat = n % 8 := by
    rw [BitVec.toNat_and, BitVec.toNat_ofInt, BitVec.toNat_ofInt]
    have e1 : ((7 : Int) % ((2 ^ IntKind.u64.bits : Nat) : Int)).toNat = 2 ^ 3 - 1 := by decide
    have e2 : ((n : Int) % ((2 ^ IntKind.u64.bits : Nat) : Int)).toNat = n % 2 ^ 64 := by
      rw [← Int.natCast_emod, Int.toNat_natCast]; rfl
    rw [e1, e2, Nat.and_two_pow_sub_one_eq_mod]
    omega
  simp only [e]
  rw [IntKind.wrap_u64]
  omega

theorem and1_all : ∀ x : Fin 256, ∀ r : Fin 8, (bits .and .u8 ((x.val / 2 ^ r.val : Nat) : Int) 1 == 1) = x.val.testBit r.val := by decide +kernel
theorem and1 (x r : Nat) (hx : x < 256) (hr : r < 8) : (bits .and .u8 ((x : Int) / 2 ^ r) 1 == 1) = x.testBit r := by
  have := and1_all ⟨x, hx⟩ ⟨r, hr⟩
  simpa using this

/-- A byte with one bit turned on or off. -/
def turn (x r : Nat) (on : Bool) : Nat := if on then x ||| 2 ^ r else x &&& (255 ^^^ 2 ^ r)
theorem or_all : ∀ x : Fin 256, ∀ r : Fin 8, bits .or .u8 (x.val : Int) ((2 ^ r.val % 256 : Nat) : Int) = ((turn x.val r.val true : Nat) : Int) := by decide +kernel
theorem andNot_all : ∀ x : Fin 256, ∀ r : Fin 8, bits .andNot .u8 (x.val : Int) ((2 ^ r.val % 256 : Nat) : Int) = ((turn x.val r.val false : Nat) : Int) := by decide +kernel
theorem or_byte (x r : Nat) (hx : x < 256) (hr : r < 8) : bits .or .u8 (x : Int) (2 ^ r % 256) = ((turn x r true : Nat) : Int) := by
  have := or_all ⟨x, hx⟩ ⟨r, hr⟩
  simpa using this
theorem andNot_byte (x r : Nat) (hx : x < 256) (hr : r < 8) : bits .andNot .u8 (x : Int) (2 ^ r % 256) = ((turn x r false : Nat) : Int) := by
  have := andNot_all ⟨x, hx⟩ ⟨r, hr⟩
  simpa using this
theorem turn_lt (x r : Nat) (on : Bool) (hx : x < 256) (hr : r < 8) : turn x r on < 256 := by
  have hp : 2 ^ r < 2 ^ 8 := Nat.pow_lt_pow_right (by decide) hr
  unfold turn
  split
  · exact Nat.or_lt_two_pow (n := 8) hx hp
  · exact Nat.lt_of_le_of_lt Nat.and_le_left hx
theorem turn_bit (x r q : Nat) (on : Bool) (hq : q < 8) : (turn x r on).testBit q = if q = r then on else x.testBit q := by
  unfold turn
  cases on
  · have h255 : (255 : Nat).testBit q = true := by
      have := Nat.testBit_two_pow_sub_one 8 q
      simpa [hq] using this
    simp only [Bool.false_eq_true, if_false, Nat.testBit_and, Nat.testBit_xor, h255, Nat.testBit_two_pow]
    by_cases h : q = r
    · simp [h]
    · have h' : ¬ r = q := fun e => h e.symm
      simp [h, h']
  · simp only [if_true, Nat.testBit_or, Nat.testBit_two_pow]
    by_cases h : q = r
    · simp [h]
    · have h' : ¬ r = q := fun e => h e.symm
      simp [h, h']

/-- Bit number i of bytes, the lowest of each first. -/
def bit (l : List UInt8) (i : Nat) : Bool := (l.getD (i / 8) 0).toNat.testBit (i % 8)
/-- The bytes with one bit turned on or off. -/
def setB (l : List UInt8) (i : Nat) (on : Bool) : List UInt8 := l.set (i / 8) (UInt8.ofNat (turn (l.getD (i / 8) 0).toNat (i % 8) on))
theorem byte_lt (b : UInt8) : b.toNat < 256 := b.toNat_lt
theorem length_setB (l : List UInt8) (i : Nat) (on : Bool) : (setB l i on).length = l.length := by simp [setB]
theorem setB_byte (l : List UInt8) (i : Nat) (on : Bool) : (UInt8.ofNat (turn (l.getD (i / 8) 0).toNat (i % 8) on)).toNat = turn (l.getD (i / 8) 0).toNat (i % 8) on := by
  have := turn_lt (l.getD (i / 8) 0).toNat (i % 8) on (byte_lt _) (Nat.mod_lt _ (by decide))
  simp only [UInt8.toNat_ofNat']
  exact Nat.mod_eq_of_lt this
theorem bit_setB (l : List UInt8) (i j : Nat) (on : Bool) (h : i / 8 < l.length) : bit (setB l i on) j = if j = i then on else bit l j := by
  unfold bit
  by_cases hb : j / 8 = i / 8
  · have e : (setB l i on).getD (j / 8) 0 = UInt8.ofNat (turn (l.getD (i / 8) 0).toNat (i % 8) on) := by
      unfold setB
      rw [hb, List.getD_eq_getElem?_getD, List.getElem?_set_self h]
      rfl
    rw [e, setB_byte, turn_bit _ _ _ _ (Nat.mod_lt _ (by decide)), hb]
    by_cases hj : j = i
    · simp [hj]
    · rw [if_neg (by omega), if_neg hj]
  · have e : (setB l i on).getD (j / 8) 0 = l.getD (j / 8) 0 := by
      unfold setB
      rw [List.getD_eq_getElem?_getD, List.getElem?_set_ne (fun e => hb e.symm), ← List.getD_eq_getElem?_getD]
    rw [e, if_neg (fun e => hb (by rw [e]))]
theorem byte_ext (a b : UInt8) (h : ∀ r, r < 8 → a.toNat.testBit r = b.toNat.testBit r) : a = b := by
  apply UInt8.toNat_inj.1
  apply Nat.eq_of_testBit_eq
  intro r
  by_cases hr : r < 8
  · exact h r hr
  · have hp : 2 ^ 8 ≤ 2 ^ r := Nat.pow_le_pow_right (by decide) (by omega)
    rw [Nat.testBit_lt_two_pow (Nat.lt_of_lt_of_le (byte_lt a) hp), Nat.testBit_lt_two_pow (Nat.lt_of_lt_of_le (byte_lt b) hp)]
theorem ext (l m : List UInt8) (hl : l.length = m.length) (h : ∀ i, i < 8 * l.length → bit l i = bit m i) : l = m := by
  apply List.ext_getElem hl
  intro j h1 h2
  apply byte_ext
  intro r hr
  have := h (8 * j + r) (by omega)
  unfold bit at this
  rw [show (8 * j + r) / 8 = j from by omega, show (8 * j + r) % 8 = r from by omega] at this
  simpa [List.getD_eq_getElem?_getD, List.getElem?_eq_getElem h1, List.getElem?_eq_getElem h2] using this
theorem bit_zeros (n i : Nat) : bit (List.replicate n 0) i = false := by
  unfold bit
  rw [List.getD_eq_getElem?_getD, List.getElem?_replicate]
  split <;> simp
end Go.Proofs.YtcpfhfdgfcilaaaGreatDoor.BitP
namespace Go.Proofs.YtcpfhfdgfcilaaaGreatDoor.Arr
open Tree Val

/-- The number of four bytes. -/
def endAt (s : ByteArray) (i : Nat) : Nat := Plain.val (bl s) (4 * i) 4
/-- It is there, and may be one. -/
def has4 (s : ByteArray) (i : Nat) : Bool := decide (4 * i + 4 ≤ s.size) && decide (endAt s i ≤ 2147483647)
def prev (s : ByteArray) (i : Nat) : Nat := if i = 0 then 0 else endAt s (i - 1)
/-- One of a row of ends. -/
def endsP (s : ByteArray) (first last apart : Int) (i : Nat) : Bool := has4 s i && decide (prev s i ≤ endAt s i) && decide ((endAt s i : Int) ≤ last) && (decide ((i : Int) ≤ first) || decide ((endAt s i : Int) - (prev s i : Int) ≤ apart))
def endsB (s : ByteArray) (rows : Nat) (first last apart : Int) : Bool := (List.range (rows + 1)).all (endsP s first last apart)
/-- Is a row there? -/
def there (a : Arr) (r : Nat) : Bool := decide (a.valid.size = 0) || BitP.bit (bl a.valid) r
def bare (a : Arr) : Bool := decide (a.ends.size = 0) && a.kids.isEmpty
def kidAt (a : Arr) (i : Nat) : Arr := a.kids.getD i nil
def kAt (ns : List Nd) (n i : Nat) : Nat := (kids ns n).getD i 0
def rowsOf (a : Arr) : Nat := (a.offset + a.length).toNat
/-- May a plain one be? -/
def plainB (rec : Nat → Arr → Bool) (ns : List Nd) (n : Nat) (a : Arr) : Bool :=
  if (nd ns n).kind = 0 then bare a && decide (8 * rowsOf a ≤ a.data.size)
  else if (nd ns n).kind = 1 then bare a && decide ((rowsOf a + 7) / 8 ≤ a.data.size)
  else if (nd ns n).kind = 2 then a.kids.isEmpty && endsB a.ends (rowsOf a) a.offset (a.data.size : Int) 16
  else if (nd ns n).kind = 3 then decide (a.data.size = 0) && decide (a.kids.length = 1) && rec (kAt ns n 0) (kidAt a 0) && endsB a.ends (rowsOf a) a.offset (kidAt a 0).length 2147483647
  else decide (a.data.size = 0) && decide (a.ends.size = 0) && decide (a.kids.length = (kids ns n).length) && (List.range (kids ns n).length).all fun i => rec (kAt ns n i) (kidAt a i) && decide ((rowsOf a : Int) ≤ (kidAt a i).length)
def dictB (a : Arr) : Bool := decide (4 * rowsOf a ≤ a.data.size) && decide ((kidAt a 0).valid.size = 0) && (List.range (rowsOf a)).all fun i => decide ((i : Int) < a.offset) || !there a i || has4 a.data i && decide ((endAt a.data i : Int) < (kidAt a 0).length)
def runB (a : Arr) : Bool := decide (a.valid.size = 0) && decide ((a.data.size : Int) = 4 * (kidAt a 0).length) && ((List.range (kidAt a 0).length.toNat).all fun i => has4 a.data i && decide (prev a.data i < endAt a.data i)) && decide (rowsOf a ≤ prev a.data (kidAt a 0).length.toNat)
def headB (ns : List Nd) (n : Nat) (a : Arr) : Bool :=
  decide (0 ≤ a.offset) && decide (0 ≤ a.length) && decide (a.offset + a.length ≤ 64) && decide (a.valid.size ≤ 4096) && decide (a.ends.size ≤ 4096) && decide (a.data.size ≤ 4096) && (decide (a.valid.size = 0) || (nd ns n).null && decide ((rowsOf a + 7) / 8 ≤ a.valid.size))
/-- May an array be, of a node of a type that may? -/
def mayF (ns : List Nd) : Nat → Nat → Arr → Bool
  | 0, _, _ => false
  | f + 1, n, a => headB ns n a && if a.layout = 0 then plainB (mayF ns f) ns n a else
      isLeaf (nd ns n).kind && decide (a.kids.length = 1) && decide (a.ends.size = 0) && decide ((kidAt a 0).layout = 0) && mayF ns f n (kidAt a 0) && if a.layout = 1 then dictB a else if a.layout = 2 then runB a else false
/-- A whole number of eight bytes, with its sign. -/
def signed (x : Nat) : Int := if x < 9223372036854775808 then (x : Int) else (x : Int) - 18446744073709551616
/-- What holds of ends that may be. -/
structure Ends (s : ByteArray) (rows : Nat) (first last apart : Int) : Prop where
  size : ∀ i, i ≤ rows → 4 * i + 4 ≤ s.size
  most : ∀ i, i ≤ rows → endAt s i ≤ 2147483647
  up : ∀ i, i < rows → endAt s i ≤ endAt s (i + 1)
  last : ∀ i, i ≤ rows → (endAt s i : Int) ≤ last
  apart : ∀ i, i < rows → first ≤ (i : Int) → (endAt s (i + 1) : Int) - (endAt s i : Int) ≤ apart
theorem Ends.mono {s : ByteArray} {rows : Nat} {first last apart : Int} (h : Ends s rows first last apart) {i : Nat} : ∀ {j : Nat}, i ≤ j → j ≤ rows → endAt s i ≤ endAt s j := by
  intro j
  induction j with
  | zero =>
    intro hi _
    obtain rfl : i = 0 := by omega
    exact Nat.le_refl _
  | succ j ih =>
    intro hi hj
    by_cases c : i = j + 1
    · subst c; exact Nat.le_refl _
    · exact Nat.le_trans (ih (by omega) (by omega)) (h.up j (by omega))
/-- What holds of any array that may be. -/
structure Head (ns : List Nd) (n : Nat) (a : Arr) : Prop where
  off : 0 ≤ a.offset
  len : 0 ≤ a.length
  rows : a.offset + a.length ≤ 64
  valid : a.valid.size ≤ 4096
  ends : a.ends.size ≤ 4096
  data : a.data.size ≤ 4096
  null : a.valid.size = 0 ∨ (nd ns n).null = true ∧ (rowsOf a + 7) / 8 ≤ a.valid.size
theorem head_of {ns : List Nd} {n : Nat} {a : Arr} (h : headB ns n a = true) : Head ns n a := by
  unfold headB at h
  simp only [Bool.and_eq_true, Bool.or_eq_true, decide_eq_true_eq] at h
  obtain ⟨⟨⟨⟨⟨⟨h1, h2⟩, h3⟩, h4⟩, h5⟩, h6⟩, h7⟩ := h
  exact ⟨h1, h2, h3, h4, h5, h6, h7⟩
theorem mayF_cases {ns : List Nd} {f n : Nat} {a : Arr} (h : mayF ns (f + 1) n a = true) : Head ns n a ∧
    ((a.layout = 0 ∧ plainB (mayF ns f) ns n a = true) ∨ (a.layout ≠ 0 ∧ isLeaf (nd ns n).kind = true ∧ a.kids.length = 1 ∧ (kidAt a 0).layout = 0 ∧ mayF ns f n (kidAt a 0) = true ∧ ((a.layout = 1 ∧ dictB a = true) ∨ (a.layout = 2 ∧ runB a = true)))) := by
  unfold mayF at h
  rw [Bool.and_eq_true] at h
  obtain ⟨h1, h2⟩ := h
  refine ⟨head_of h1, ?_⟩
  by_cases c : a.layout = 0
  · rw [if_pos c] at h2
    exact .inl ⟨c, h2⟩
  · rw [if_neg c] at h2
    simp only [Bool.and_eq_true, decide_eq_true_eq] at h2
    obtain ⟨⟨⟨⟨⟨h3, h4⟩, _⟩, h6⟩, h7⟩, h8⟩ := h2
    refine .inr ⟨c, h3, h4, h6, h7, ?_⟩
    by_cases d : a.layout = 1
    · rw [if_pos d] at h8
      exact .inl ⟨d, h8⟩
    · rw [if_neg d] at h8
      by_cases e : a.layout = 2
      · rw [if_pos e] at h8
        exact .inr ⟨e, h8⟩
      · rw [if_neg e] at h8
        cases h8
end Go.Proofs.YtcpfhfdgfcilaaaGreatDoor.Arr
namespace Go.Proofs.YtcpfhfdgfcilaaaGreatDoor.Arr
open Tree Val

end Go.Proofs.YtcpfhfdgfcilaaaGreatDoor.Arr
namespace Go.Proofs.YtcpfhfdgfcilaaaGreatDoor.Bit
open Go.ChangeShapes Go.WideShapes Go.ChangeAt Go.RowKit

theorem bel {a b c : World} (h : Below a.heap.size a b) (k : Below b.heap.size b c) : Below a.heap.size a c := h.trans (k.mono h.size)

theorem ret_bool {a b : Bool} (h : a = b) : Ending.returned (.bool a) = .returned (.bool b) := by rw [h]
theorem ret_u64 {a b : Int} (h : a = b) : Ending.returned (.int .u64 a) = .returned (.int .u64 b) := by rw [h]

theorem num (e : Int) (w : World) :
    Calls Tryz.prog 18 #[.int .i64 e] w fun r w' => r = .returned (.int .i64 e) ∧ w' = w := by
  go_enter Tryz.func18, Tryz.ntmps18
  go_wp2
  go_ret
  exact ⟨rfl, rfl⟩

theorem getD_at (s : ByteArray) (j : Nat) (h : j < s.size) : s.data.toList.getD j 0 = s[j] := by
  have h' : j < s.data.toList.length := by simpa using h
  rw [List.getD_eq_getElem?_getD, List.getElem?_eq_getElem h']
  rfl

set_option maxHeartbeats 400000 in
theorem isOn (s : ByteArray) (x : Int) (h0 : 0 ≤ x) (h : x < 8 * (s.size : Int)) (w : World) :
    Calls Tryz.prog 178 #[.string s, .int .u64 x] w fun r w' => r = .returned (.bool (BitP.bit s.data.toList x.toNat)) ∧ w' = w := by
  obtain ⟨n, rfl⟩ := Int.eq_ofNat_of_zero_le h0
  rw [Int.toNat_natCast]
  have h : n / 8 < s.size := by omega
  have hm : bits BinOp.and IntKind.u64 (↑n) 7 = ((n % 8 : Nat) : Int) := BitP.and7 n
  have hr : n % 8 < 8 := Nat.mod_lt _ (by decide)
  have hb : s[n / 8].toNat < 256 := BitP.byte_lt _
  have HE : Hid (BitP.bit s.data.toList n = s[n / 8].toNat.testBit (n % 8)) := by unfold BitP.bit; rw [getD_at s _ h]; rfl
  generalize n % 8 = r at *
  go_enter Tryz.func178, Tryz.ntmps178
  go_wp2
  go_ret
  exact ⟨ret_bool (by rw [HE.out]; exact BitP.and1 _ _ hb hr), rfl⟩

set_option maxHeartbeats 400000 in
theorem size (x : Int) (w : World) (h0 : 0 ≤ x) (h : x ≤ 18446744073709551614) :
    Calls Tryz.prog 212 #[.int .u64 x] w fun r w' => r = .returned (.int .u64 ((x + 7) / 8)) ∧ w' = w := by
  obtain ⟨n, rfl⟩ := Int.eq_ofNat_of_zero_le h0
  have hm : bits BinOp.and IntKind.u64 (↑n) 7 = ((n % 8 : Nat) : Int) := BitP.and7 n
  by_cases hz : n % 8 = 0
  · have hz' : bits BinOp.and IntKind.u64 (↑n) 7 = 0 := by rw [hm, hz]; rfl
    have HZ : Hid (n % 8 = 0) := hz
    clear hm hz
    go_enter Tryz.func212, Tryz.ntmps212
    go_wp2
    go_ret
    exact ⟨ret_u64 (by have := HZ.out; omega), rfl⟩
  · have hz' : (bits BinOp.and IntKind.u64 (↑n) 7 == 0) = false := by rw [hm]; simp; omega
    have hw : IntKind.u64.wrap (((n : Int) / 8) + 1) = (n : Int) / 8 + 1 := by rw [IntKind.wrap_u64]; omega
    have HZ : Hid (¬ n % 8 = 0) := hz
    clear hm hz
    go_enter Tryz.func212, Tryz.ntmps212
    go_wp2
    go_ret
    exact ⟨ret_u64 (by have := HZ.out; omega), rfl⟩

/-- Has a text of so many bytes c bits from a on? -/
def hasB (len : Nat) (a c : Int) : Bool := decide (0 ≤ a ∧ 0 ≤ c ∧ a + c ≤ 8 * (len : Int))
theorem hasB_yes {len : Nat} {a c : Int} (h0 : 0 ≤ a) (h1 : 0 ≤ c) (h2 : a + c ≤ 8 * (len : Int)) : hasB len a c = true := decide_eq_true ⟨h0, h1, h2⟩
theorem hasB_no {len : Nat} {a c : Int} (h : ¬ (0 ≤ a ∧ 0 ≤ c ∧ a + c ≤ 8 * (len : Int))) : hasB len a c = false := decide_eq_false h

set_option maxHeartbeats 400000 in
theorem has (s : ByteArray) (a c : Int) (w : World) (hs : s.size ≤ 140737488351232) (ha : a ≤ 9223372036854775807) (hc : c ≤ 9223372036854775807) :
    Calls Tryz.prog 177 #[.string s, .int .i64 a, .int .i64 c] w fun r w' => r = .returned (.bool (hasB s.size a c)) ∧ w' = w := by
  by_cases h0 : 0 ≤ a
  · by_cases h1 : 0 ≤ c
    · by_cases h2 : a + c ≤ 8 * (s.size : Int)
      · rw [hasB_yes h0 h1 h2]
        have h3 : (a + c + 7) / 8 ≤ (s.size : Int) := by omega
        go_enter Tryz.func177, Tryz.ntmps177
        go_wp2_with fail
        refine (size _ _ (by omega) (by omega)).mono ?_
        rintro e w' ⟨rfl, rfl⟩
        go_wp2
        go_ret
        exact ⟨rfl, rfl⟩
      · rw [hasB_no (by omega)]
        have h3 : ¬ (a + c + 7) / 8 ≤ (s.size : Int) := by omega
        go_enter Tryz.func177, Tryz.ntmps177
        go_wp2_with fail
        refine (size _ _ (by omega) (by omega)).mono ?_
        rintro e w' ⟨rfl, rfl⟩
        go_wp2
        go_ret
        exact ⟨ret_bool (decide_eq_false (by omega)), rfl⟩
    · rw [hasB_no (by omega)]
      go_enter Tryz.func177, Tryz.ntmps177
      go_wp2
      go_ret
      exact ⟨rfl, rfl⟩
  · rw [hasB_no (by omega)]
    go_enter Tryz.func177, Tryz.ntmps177
    go_wp2
    go_ret
    exact ⟨rfl, rfl⟩

end Go.Proofs.YtcpfhfdgfcilaaaGreatDoor.Bit
namespace Go.Proofs.YtcpfhfdgfcilaaaGreatDoor.Bit
open Go.ChangeShapes Go.WideShapes Go.ChangeAt Go.RowKit

/-- So many bytes lie at the head of block g, and may be written. -/
structure Bytes (w : World) (g : Nat) (l : List UInt8) : Prop where
  cell : ∀ i, i < l.length → w.cell? ⟨g, i, none⟩ = some (.int .u8 (((l.getD i 0).toNat : Nat) : Int))
  free : ∀ i, i < l.length → w.frozen? ⟨g, i, none⟩ = false
theorem Bytes.set {w : World} {g : Nat} {l : List UInt8} (h : Bytes w g l) (j : Nat) (hj : j < l.length) (v : UInt8) : Bytes (w.setCell ⟨g, j, none⟩ (.int .u8 ((v.toNat : Nat) : Int))) g (l.set j v) := by
  constructor
  · intro i hi
    rw [List.length_set] at hi
    by_cases e : i = j
    · subst e
      rw [World.cell?_setCell_same _ _ _ (h.cell i hi), List.getD_eq_getElem?_getD, List.getElem?_set_self hi]
      rfl
    · rw [World.cell?_setCell_other _ _ _ _ (by intro c; exact e (by injection c with _ c2; exact c2.symm)), h.cell i hi, List.getD_eq_getElem?_getD, List.getD_eq_getElem?_getD, List.getElem?_set_ne (fun c => e c.symm)]
  · intro i hi
    rw [List.length_set] at hi
    rw [World.frozen?_setCell]
    exact h.free i hi
theorem Bytes.below {w w' : World} {g B : Nat} {l : List UInt8} (h : Bytes w g l) (b : Below B w w') (hg : g < B) : Bytes w' g l :=
  ⟨fun i hi => by rw [b.cell (p := ⟨g, i, none⟩) hg]; exact h.cell i hi, fun i hi => by rw [b.frozen (p := ⟨g, i, none⟩) hg]; exact h.free i hi⟩

set_option maxHeartbeats 800000 in
theorem each (F : Nat) (hF : F = 209) (b : Nat) (I : Nat → World → Prop) (s : ByteArray) (a c : Int) (w : World) (hs : s.size ≤ 140737488351232) (h0 : 0 ≤ a) (h1 : 0 ≤ c) (h2 : a + c ≤ 8 * (s.size : Int))
    (hI : I 0 w) (hstep : Hid (∀ (k : Nat) (w : World), (k : Int) < c → I k w → Calls Tryz.prog F #[.int .u64 (k : Int), .bool (BitP.bit s.data.toList (a.toNat + k)), .pointer (some ⟨b, 0, none⟩)] w fun r w' => r = .returned (.tuple #[]) ∧ I (k + 1) w')) :
    Calls Tryz.prog 208 #[.string s, .int .u64 a, .int .u64 c, .func (.func F) #[] #[.pointer (some ⟨b, 0, none⟩)]] w fun r w' => r = .returned (.tuple #[]) ∧ I c.toNat w' := by
  subst hF
  all_goals
    go_enter Tryz.func208, Tryz.ntmps208
    go_wp2_with fail
    go_loopw [10] (fun i wr => ∃ k : Nat, (k : Int) ≤ c ∧ i = .int .u64 k ∧ I k wr) (fun i _ => c.toNat - (intOf i).toNat)
    case atStart => exact ⟨0, h1, rfl, hI⟩
    case round =>
      obtain ⟨k, hk, rfl, hik⟩ := hrel
      by_cases hlt : (k : Int) < c
      · go_wp2_with fail
        refine (isOn _ _ (by omega) (by omega) _).mono ?_
        rintro e w' ⟨rfl, rfl⟩
        rw [show (a + (k : Int)).toNat = a.toNat + k from by omega]
        go_wp2_with fail
        refine (hstep.out k _ hlt hik).mono ?_
        rintro e w' ⟨rfl, hik'⟩
        go_wp2
        go_roundw
        case rel => exact ⟨k + 1, by omega, by go_num, hik'⟩
        case measure => simp [intOf]; omega
      · have hck : c.toNat = k := by omega
        have HC : Hid (c.toNat = k) := hck
        clear hck
        go_wp2
        go_end0
        exact ⟨rfl, by rw [HC.out]; exact hik⟩


theorem Bytes.back {w : World} {g L c : Nat} {l : List UInt8} (h : Bytes w g l) (hl : L = l.length) : (convert 42 9 (.slice (some ⟨g, 0, none⟩) L c)).run Tryz.prog w = .ok (.string ⟨l.toArray⟩) w := by
  rw [hl]
  refine run_convert_bytes_back w 42 9 5 ⟨g, 0, none⟩ c l Tryz.underlying42 Tryz.underlying5 Tryz.underlying9 ?_
  intro j hj
  rw [Addr.add_lit, Nat.zero_add, h.cell j hj, List.getD_eq_getElem?_getD, List.getElem?_eq_getElem hj]
  rfl
theorem Bytes.fresh (w : World) (s : ByteArray) (cp : Nat) : Bytes (w.alloc (Obj.cells (bytesRow s cp) 5 ((bytesRow s cp).size, (bytesRow s cp).size + 1))).drew w.heap.size s.data.toList := by
  constructor
  · intro i hi
    have hi' : i < s.data.size := by simpa using hi
    show (w.alloc _).cell? _ = _
    rw [World.cell?_alloc_mark, bytesRow_at s cp i hi', List.getD_eq_getElem?_getD, List.getElem?_eq_getElem hi]
    rfl
  · intro i hi
    have hi' : i < s.data.size := by simpa using hi
    show (w.alloc _).frozen? _ = _
    rw [World.frozen?_alloc_mark]
    have : s.data.size ≤ (bytesRow s cp).size := by simp [bytesRow]
    simp
    omega

end Go.Proofs.YtcpfhfdgfcilaaaGreatDoor.Bit
namespace Go.Proofs.YtcpfhfdgfcilaaaGreatDoor.Bit
open Go.ChangeShapes Go.WideShapes Go.ChangeAt Go.RowKit

theorem info5 : (Tryz.prog.info? 5).map (fun i => (i.zero, i.size, i.bytes)) = some (some (.int .u8 0), 1, 1) := by kernel_rfl

/-- So many zero bytes, as cells. -/
def zeros (n : Nat) : Array Value := madeCells (Value.cells (.int .u8 0)) n
theorem zeros_at (n i : Nat) (h : i < n) : (zeros n)[i]? = some (.int .u8 0) := by
  unfold zeros
  rw [← Array.getElem?_toList, show (Value.cells (.int .u8 0)) = #[.int .u8 0] from rfl, toList_madeCells_one, List.getElem?_replicate, if_pos h]
theorem make_bytes (n : Nat) (h : n ≤ 140737488351232) (w : World) :
    (Instr.makeSlice 42 (.int .u64 (n : Int)) (.int .u64 (n : Int))).run Tryz.prog w = .ok (.slice (some ⟨w.heap.size, 0, none⟩) n n) (w.alloc (.cells (zeros n) 5)) := by
  obtain ⟨i, hi, hz0, hz1, hz2⟩ := info_parts info5
  have := run_make (P := Tryz.prog) w 42 5 i (.int .u8 0) Tryz.underlying42 hi hz0 .u64 .u64 n n (by omega) (Int.le_refl _) (by rw [hz2]; omega) (by omega)
  rw [this, hz1, Nat.mul_one, Int.toNat_natCast]
  rfl
theorem Bytes.zeros (w : World) (n : Nat) : Bytes (w.alloc (.cells (zeros n) 5)) w.heap.size (List.replicate n 0) := by
  constructor
  · intro i hi
    rw [List.length_replicate] at hi
    rw [World.cell?_alloc_mark, zeros_at n i hi, List.getD_eq_getElem?_getD, List.getElem?_replicate, if_pos hi]
    rfl
  · intro i _
    rw [World.frozen?_alloc_mark]
    simp

end Go.Proofs.YtcpfhfdgfcilaaaGreatDoor.Bit
namespace Go.Proofs.YtcpfhfdgfcilaaaGreatDoor.Bit
open Go.ChangeShapes Go.WideShapes Go.ChangeAt Go.RowKit

end Go.Proofs.YtcpfhfdgfcilaaaGreatDoor.Bit
namespace Go.Proofs.YtcpfhfdgfcilaaaGreatDoor.Bit
open Go.ChangeShapes Go.WideShapes Go.ChangeAt Go.RowKit

/-- The first k of some truths, as bits of so many bytes as hold them all. -/
def ofTo (bs : List Bool) : Nat → List UInt8
  | 0 => List.replicate ((bs.length + 7) / 8) 0
  | k + 1 => if bs.getD k false then BitP.setB (ofTo bs k) k true else ofTo bs k
theorem length_ofTo (bs : List Bool) (k : Nat) : (ofTo bs k).length = (bs.length + 7) / 8 := by
  induction k with
  | zero => simp [ofTo]
  | succ k ih => rw [ofTo]; split <;> simp [BitP.length_setB, ih]
theorem bit_ofTo (bs : List Bool) (k : Nat) (h : k ≤ bs.length) (i : Nat) : BitP.bit (ofTo bs k) i = if i < k then bs.getD i false else false := by
  induction k with
  | zero => rw [ofTo, BitP.bit_zeros]; rfl
  | succ k ih =>
    rw [ofTo]
    cases hb : bs.getD k false
    · simp only [Bool.false_eq_true, if_false]
      rw [ih (by omega)]
      by_cases h1 : i = k
      · subst h1; rw [if_neg (by omega), if_pos (by omega), hb]
      · by_cases h2 : i < k
        · rw [if_pos h2, if_pos (by omega)]
        · rw [if_neg h2, if_neg (by omega)]
    · simp only [if_true]
      rw [BitP.bit_setB _ _ _ _ (by rw [length_ofTo]; omega), ih (by omega)]
      by_cases h1 : i = k
      · subst h1; rw [if_pos rfl, if_pos (by omega), hb]
      · by_cases h2 : i < k
        · rw [if_neg h1, if_pos h2, if_pos (by omega)]
        · rw [if_neg h1, if_neg h2, if_neg (by omega)]
theorem make_bytes' (n : Nat) (h : n ≤ 140737488351232) (w : World) :
    (Instr.makeSlice 42 (.int .i64 (n : Int)) (.int .i64 (n : Int))).run Tryz.prog w = .ok (.slice (some ⟨w.heap.size, 0, none⟩) n n) (w.alloc (.cells (zeros n) 5)) := by
  obtain ⟨i, hi, hz0, hz1, hz2⟩ := info_parts info5
  have := run_make (P := Tryz.prog) w 42 5 i (.int .u8 0) Tryz.underlying42 hi hz0 .i64 .i64 n n (by omega) (Int.le_refl _) (by rw [hz2]; omega) (by omega)
  rw [this, hz1, Nat.mul_one, Int.toNat_natCast]
  rfl

set_option maxHeartbeats 400000 in
theorem bitBytes (x : Int) (w : World) (h0 : 0 ≤ x) (h : x ≤ 140737488351232) :
    Calls Tryz.prog 52 #[.int .i64 x] w fun r w' => r = .returned (.int .i64 ((x + 7) / 8)) ∧ w' = w := by
  go_enter Tryz.func52, Tryz.ntmps52
  go_wp2
  go_ret
  exact ⟨rfl, rfl⟩

set_option maxHeartbeats 400000 in
theorem bitsOf (gx cap : Nat) (bs : List Bool) (w : World) (hn : bs.length ≤ 8796093021952) (hg : gx < w.heap.size)
    (hx : ∀ i, i < bs.length → w.cell? ⟨gx, i, none⟩ = some (.bool (bs.getD i false))) :
    Calls Tryz.prog 115 #[.slice (some ⟨gx, 0, none⟩) bs.length cap] w fun r w' => r = .returned (.string ⟨(ofTo bs bs.length).toArray⟩) ∧ Below w.heap.size w w' := by
  have HX : Hid (∀ i, i < bs.length → w.cell? ⟨gx, i, none⟩ = some (.bool (bs.getD i false))) := hx
  clear hx
  obtain ⟨q, hq⟩ : ∃ q : Nat, q = (bs.length + 7) / 8 := ⟨_, rfl⟩
  have HQ : Hid (q = (bs.length + 7) / 8) := hq
  have hmk := make_bytes' q (by omega)
  clear hq
  go_enter Tryz.func115, Tryz.ntmps115
  go_wp2_with fail
  refine (bitBytes _ _ (by omega) (by omega)).mono ?_
  rintro e w' ⟨rfl, rfl⟩
  rw [show ((bs.length : Int) + 7) / 8 = (q : Int) from by have := HQ.out; omega]
  go_wp2_with fail
  go_loopw [4] (fun i wr => ∃ k : Nat, k ≤ bs.length ∧ i = .int .i64 k ∧ Bytes wr w'.heap.size (ofTo bs k) ∧ Below w'.heap.size w' wr) (fun i _ => bs.length - (intOf i).toNat)
  case atStart =>
    refine ⟨0, by omega, rfl, ?_, (Below.refl _ _).alloc (Nat.le_refl _) _⟩
    have hz := Bytes.zeros w' q
    rw [HQ.out] at hz ⊢
    exact hz
  case round =>
    obtain ⟨k, hk, rfl, hb, hbl⟩ := hrel
    have HB : Hid (Bytes wr w'.heap.size (ofTo bs k)) := hb
    clear hb
    have hlen := length_ofTo bs k
    have HL : Hid ((ofTo bs k).length = (bs.length + 7) / 8) := hlen
    clear hlen
    by_cases hlt : k < bs.length
    · have hck : wr.cell? ⟨gx, k, none⟩ = some (.bool (bs.getD k false)) := (hbl.cell (p := ⟨gx, k, none⟩) hg).trans (HX.out k hlt)
      have HS : Hid (ofTo bs (k + 1) = if bs.getD k false then BitP.setB (ofTo bs k) k true else ofTo bs k) := rfl
      cases hbit : bs.getD k false
      · rw [hbit] at hck HS
        clear hbit
        go_wp2
        go_roundw
        case rel => exact ⟨k + 1, by omega, by go_num, by rw [HS.out]; exact HB.out, hbl⟩
        case measure => simp [intOf]; omega
      · rw [hbit] at hck HS
        clear hbit
        have hql : k / 8 < q := by have := HQ.out; omega
        have hc := HB.out.cell (k / 8) (by rw [HL.out, ← HQ.out]; exact hql)
        have hf := HB.out.free (k / 8) (by rw [HL.out, ← HQ.out]; exact hql)
        have hm : (k : Int) % 8 = ((k % 8 : Nat) : Int) := by omega
        have hr : k % 8 < 8 := Nat.mod_lt _ (by decide)
        have hx : ((ofTo bs k).getD (k / 8) 0).toNat < 256 := BitP.byte_lt _
        have hb2 : Bytes (wr.setCell ⟨w'.heap.size, k / 8, none⟩ (.int .u8 ((BitP.turn ((ofTo bs k).getD (k / 8) 0).toNat (k % 8) true : Nat) : Int))) w'.heap.size (ofTo bs (k + 1)) := by
          have := HB.out.set (k / 8) (by rw [HL.out, ← HQ.out]; exact hql) (UInt8.ofNat (BitP.turn ((ofTo bs k).getD (k / 8) 0).toNat (k % 8) true))
          rw [BitP.setB_byte] at this
          rw [HS.out]
          exact this
        have HB2 : Hid (Bytes (wr.setCell ⟨w'.heap.size, k / 8, none⟩ (.int .u8 ((BitP.turn ((ofTo bs k).getD (k / 8) 0).toNat (k % 8) true : Nat) : Int))) w'.heap.size (ofTo bs (k + 1))) := hb2
        clear hb2 HS
        generalize ((ofTo bs k).getD (k / 8) 0).toNat = x at *
        generalize k % 8 = r at *
        have ht : bits BinOp.or IntKind.u8 (↑x) (2 ^ r % 256) = _ := BitP.or_byte x r hx hr
        have i0 : (0 : Int) ≤ (k : Int) / 8 := by omega
        have i1 : (k : Int) / 8 < (q : Int) := by omega
        go_wp2
        go_region
        go_wp2
        go_roundw
        case rel => exact ⟨k + 1, by omega, by go_num, ⟨HB2.out.cell, HB2.out.free⟩, (hbl.setCell (p := ⟨w'.heap.size, k / 8, none⟩) (Nat.le_refl _) _).drew⟩
        case measure => simp [intOf]; omega
    · have HK : Hid (k = bs.length) := by unfold Hid; omega
      have hbk := HB.out.back (L := q) (c := q) (by rw [HL.out]; exact HQ.out)
      rw [show ofTo bs k = ofTo bs bs.length from by rw [HK.out]] at hbk
      go_wp2
      go_ret
      exact ⟨rfl, hbl⟩

set_option maxHeartbeats 400000 in
theorem bitsOf_nil (w : World) :
    Calls Tryz.prog 115 #[.slice none 0 0] w fun r w' => r = .returned (.string ⟨#[]⟩) ∧ Below w.heap.size w w' := by
  have hmk : ∀ w : World, (Instr.makeSlice 42 (.int .i64 0) (.int .i64 0)).run Tryz.prog w = .ok (.slice (some ⟨w.heap.size, 0, none⟩) 0 0) (w.alloc (.cells (zeros 0) 5)) := make_bytes' 0 (by decide)
  have hbk : (convert 42 9 (.slice (some ⟨w.heap.size, 0, none⟩) 0 0)).run Tryz.prog (w.alloc (.cells (zeros 0) 5)) = .ok (.string ⟨#[]⟩) (w.alloc (.cells (zeros 0) 5)) := (Bytes.zeros w 0).back rfl
  go_enter Tryz.func115, Tryz.ntmps115
  go_wp2_with fail
  refine (bitBytes _ _ (by decide) (by decide)).mono ?_
  rintro e w' ⟨rfl, rfl⟩
  rw [show ((0 : Int) + 7) / 8 = 0 from by decide]
  go_wp2_with fail
  refine wp_loop_rounds 1 ?_
  rw [rounds_succ]
  go_wp2
  go_ret
  exact ⟨rfl, (Below.refl _ _).alloc (Nat.le_refl _) _⟩

theorem info4 : (Tryz.prog.info? 4).map (fun i => (i.zero, i.size, i.bytes)) = some (some (.bool false), 1, 1) := by kernel_rfl
theorem ret_str {a b : List UInt8} {y : Value} (h : a = b) : Ending.returned (.tuple #[.string ⟨a.toArray⟩, y]) = .returned (.tuple #[.string ⟨b.toArray⟩, y]) := by rw [h]
end Go.Proofs.YtcpfhfdgfcilaaaGreatDoor.Bit
