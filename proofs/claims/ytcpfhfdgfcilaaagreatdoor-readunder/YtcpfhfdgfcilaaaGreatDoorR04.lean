/-
  Several texts in one: Plain facts on numbers in bytes: so many bytes, the lowest first, and back; seven bits in a byte, and back. · Plain facts on numbers, bytes and bits: masks, one bit of a byte, bits of a list of bytes, set, counted, copied. · What an array may be, and what it is read as: plain functions of a type's nodes and a tree. · Ends as the program asks them: all there, sorted, the last one; near each other; rising: plain facts. · Bits: contracts (carried).
-/
import Derived.WalkKit
import Derived.Laws.BitsLemmas
import Derived.Laws.Shifts
import Derived.Test.YtcpfhfdgfcilaaaGreatDoorR01
import Derived.Test.YtcpfhfdgfcilaaaGreatDoorR02
import Derived.Test.YtcpfhfdgfcilaaaGreatDoorR03
import Derived.Test.YtcpfhfdgfcilaaaGreatDoorProg
import Derived.ProofKit
import Derived.OpenShut
import Derived.Below
import Derived.Laws.IdiomStrings
import Derived.RegionTactic
import Derived.ChangeAlike
import Derived.OwnWalk
namespace Go.Proofs.YtcpfhfdgfcilaaaGreatDoor.Plain
open Go.RowKit

theorem byte_lt (b : UInt8) : b.toNat < 256 := b.toNat_lt

/-- The n lowest bytes of x, the lowest first. -/
def low (x n : Nat) : List UInt8 := (List.range n).map fun i => UInt8.ofNat (x / 256 ^ i)
/-- The number that k bytes from a on tell, the lowest first. -/
def val (l : List UInt8) (a : Nat) : Nat → Nat
  | 0 => 0
  | k + 1 => val l a k + (l.getD (a + k) 0).toNat * 256 ^ k
theorem val_lt (l : List UInt8) (a k : Nat) : val l a k < 256 ^ k := by
  induction k with
  | zero => simp [val]
  | succ k ih =>
    rw [val, Nat.pow_succ]
    have h := byte_lt (l.getD (a + k) 0)
    have h2 : (l.getD (a + k) 0).toNat * 256 ^ k ≤ 255 * 256 ^ k := Nat.mul_le_mul_right _ (by omega)
    omega
theorem val_congr (l m : List UInt8) (a b k : Nat) (h : ∀ i, i < k → l.getD (a + i) 0 = m.getD (b + i) 0) : val l a k = val m b k := by
  induction k with
  | zero => rfl
  | succ k ih => rw [val, val, ih (fun i hi => h i (by omega)), h k (by omega)]
/-- What stands behind others. -/
theorem getD_behind (p m q : List UInt8) (i : Nat) (h : i < m.length) : (p ++ (m ++ q)).getD (p.length + i) 0 = m.getD i 0 := by
  rw [List.getD_eq_getElem?_getD, List.getD_eq_getElem?_getD, List.getElem?_append_right (by omega), List.getElem?_append_left (by omega)]
  congr 2
  omega
/-- What k bytes from a on tell at seven bits in a byte. -/
def v7 (l : List UInt8) (a : Nat) : Nat → Nat
  | 0 => 0
  | k + 1 => v7 l a k + (l.getD (a + k) 0).toNat % 128 * 128 ^ k
/-- Most. -/
def most : Nat := 2147483647

theorem or_nat (x b i : Nat) (h : x < 2 ^ i) : x ||| b * 2 ^ i = x + b * 2 ^ i := by
  rw [Nat.or_comm, ← Nat.shiftLeft_eq, ← Nat.shiftLeft_add_eq_or_of_lt h, Nat.add_comm]
theorem or_u64 (x b i : Nat) (hx : x < 2 ^ i) (h : x + b * 2 ^ i < 2 ^ 64) : bits .or .u64 (x : Int) ((b * 2 ^ i : Nat) : Int) = ((x + b * 2 ^ i : Nat) : Int) := by
  rw [(bits_nat .u64 64 (by decide) (fun n h0 h1 => by rw [IntKind.wrap_u64]; omega) x (b * 2 ^ i) (by omega) (by omega)).2, or_nat x b i hx]
theorem pow8 (k : Nat) : 256 ^ k = 2 ^ (8 * k) := by rw [Nat.pow_mul]
theorem and_mask (x : Int) (j : Nat) (hj : j < 63) (m : Int) (hm : m = ((2 ^ j - 1 : Nat) : Int)) : bits .and .i64 x m = x % ((2 ^ j : Nat) : Int) := by
  subst hm
  have hp : 2 ^ j ≤ 4611686018427387904 := Nat.pow_le_pow_right (n := 2) (j := 62) (by decide) (by omega)
  have hp0 : 0 < 2 ^ j := Nat.pos_of_ne_zero (by simp)
  unfold bits
  have e : (BitVec.ofInt IntKind.i64.bits x &&& BitVec.ofInt IntKind.i64.bits ((2 ^ j - 1 : Nat) : Int)).toNat = (x % ((2 ^ j : Nat) : Int)).toNat := by
    rw [BitVec.toNat_and, BitVec.toNat_ofInt, BitVec.toNat_ofInt]
    have e1 : (((2 ^ j - 1 : Nat) : Int) % ((2 ^ IntKind.i64.bits : Nat) : Int)).toNat = 2 ^ j - 1 := by
      rw [← Int.natCast_emod, Int.toNat_natCast]
      exact Nat.mod_eq_of_lt (by show _ < 2 ^ 64; omega)
    rw [e1, Nat.and_two_pow_sub_one_eq_mod]
    have hd : ((2 ^ j : Nat) : Int) ∣ ((2 ^ IntKind.i64.bits : Nat) : Int) := by
      refine Int.natCast_dvd_natCast.2 (Nat.pow_dvd_pow 2 ?_)
      show j ≤ 64
      omega
    have hn : 0 ≤ x % ((2 ^ IntKind.i64.bits : Nat) : Int) := Int.emod_nonneg _ (by decide)
    have h2 := Int.emod_emod_of_dvd x hd
    rw [← h2]
    generalize x % ((2 ^ IntKind.i64.bits : Nat) : Int) = y at *
    obtain ⟨n, rfl⟩ := Int.eq_ofNat_of_zero_le hn
    rw [← Int.natCast_emod]
    simp only [Int.toNat_natCast]
  simp only [e]
  have hr0 : 0 ≤ x % ((2 ^ j : Nat) : Int) := Int.emod_nonneg _ (by omega)
  have hr1 : x % ((2 ^ j : Nat) : Int) < ((2 ^ j : Nat) : Int) := Int.emod_lt_of_pos _ (by omega)
  rw [Int.toNat_of_nonneg hr0, IntKind.wrap_i64]
  generalize 2 ^ j = q at *
  omega
theorem and7 (x : Int) : bits .and .i64 x 127 = x % 128 := and_mask x 7 (by decide) _ (by decide)
theorem and1 (x : Int) : bits .and .i64 x 1 = x % 2 := and_mask x 1 (by decide) _ (by decide)

theorem step8 (z b k : Nat) (hk : k < 8) (hz : z < 256 ^ k) (hb : b < 256) : bits .or .u64 (z : Int) (IntKind.u64.wrap ((b : Int) * 2 ^ (8 * k))) = ((z + b * 256 ^ k : Nat) : Int) := by
  have h1 : b * 256 ^ k ≤ 255 * 256 ^ k := Nat.mul_le_mul_right _ (by omega)
  have h2 : 256 ^ (k + 1) ≤ 256 ^ 8 := Nat.pow_le_pow_right (by decide) (by omega)
  rw [Nat.pow_succ] at h2
  rw [pow8 k] at *
  have e : IntKind.u64.wrap ((b : Int) * 2 ^ (8 * k)) = ((b * 2 ^ (8 * k) : Nat) : Int) := by
    rw [IntKind.wrap_u64, show ((b : Int) * 2 ^ (8 * k)) = ((b * 2 ^ (8 * k) : Nat) : Int) from by simp]
    omega
  rw [e, or_u64 z b (8 * k) hz (by omega)]
end Go.Proofs.YtcpfhfdgfcilaaaGreatDoor.Plain
namespace Go.Proofs.YtcpfhfdgfcilaaaGreatDoor.BitP
open Go.RowKit

theorem and_mask (x : Int) (j : Nat) (hj : j < 63) (m : Int) (hm : m = ((2 ^ j - 1 : Nat) : Int)) : bits .and .i64 x m = x % ((2 ^ j : Nat) : Int) := by
  subst hm
  have hp : 2 ^ j ≤ 4611686018427387904 := Nat.pow_le_pow_right (n := 2) (j := 62) (by decide) (by omega)
  have hp0 : 0 < 2 ^ j := Nat.pos_of_ne_zero (by simp)
  unfold bits
  have e : (BitVec.ofInt IntKind.i64.bits x &&& BitVec.ofInt IntKind.i64.bits ((2 ^ j - 1 : Nat) : Int)).toNat = (x % ((2 ^ j : Nat) : Int)).toNat := by
    rw [BitVec.toNat_and, BitVec.toNat_ofInt, BitVec.toNat_ofInt]
    have e1 : (((2 ^ j - 1 : Nat) : Int) % ((2 ^ IntKind.i64.bits : Nat) : Int)).toNat = 2 ^ j - 1 := by
      rw [← Int.natCast_emod, Int.toNat_natCast]
      exact Nat.mod_eq_of_lt (by show _ < 2 ^ 64; omega)
    rw [e1, Nat.and_two_pow_sub_one_eq_mod]
    have hd : ((2 ^ j : Nat) : Int) ∣ ((2 ^ IntKind.i64.bits : Nat) : Int) := by
      refine Int.natCast_dvd_natCast.2 (Nat.pow_dvd_pow 2 ?_)
      show j ≤ 64
      omega
    have hn : 0 ≤ x % ((2 ^ IntKind.i64.bits : Nat) : Int) := Int.emod_nonneg _ (by decide)
    have h2 := Int.emod_emod_of_dvd x hd
    rw [← h2]
    generalize x % ((2 ^ IntKind.i64.bits : Nat) : Int) = y at *
    obtain ⟨n, rfl⟩ := Int.eq_ofNat_of_zero_le hn
    rw [← Int.natCast_emod]
    simp only [Int.toNat_natCast]
  simp only [e]
  have hr0 : 0 ≤ x % ((2 ^ j : Nat) : Int) := Int.emod_nonneg _ (by omega)
  have hr1 : x % ((2 ^ j : Nat) : Int) < ((2 ^ j : Nat) : Int) := Int.emod_lt_of_pos _ (by omega)
  rw [Int.toNat_of_nonneg hr0, IntKind.wrap_i64]
  generalize 2 ^ j = q at *
  omega
/-- What a place that is told by any int, held against a bound, comes to. -/
theorem rest (x m : Int) (h : 0 < m) : ∃ k, (IntKind.u64.wrap x).tmod m = k ∧ 0 ≤ k ∧ k < m := by
  have h0 := wrap_u64_nonneg x
  rw [Int.tmod_eq_emod_of_nonneg h0]
  exact ⟨_, rfl, Int.emod_nonneg _ (by omega), Int.emod_lt_of_pos _ h⟩
theorem and7 (n : Nat) : bits .and .u64 (n : Int) 7 = ((n % 8 : Nat) : Int) := by
  unfold bits
  have e : (BitVec.ofInt IntKind.u64.bits (n : Int) &&& BitVec.ofInt IntKind.u64.bits 7).toNat = n % 8 := by
    rw [BitVec.toNat_and, BitVec.toNat_ofInt, BitVec.toNat_ofInt]
    have e1 : ((7 : Int) % ((2 ^ IntKind.u64.bits : Nat) : Int)).toNat = 2 ^ 3 - 1 := by decide
    have e2 : ((n : Int) % ((2 ^ IntKind.u64.bits : Nat) : Int)).toNat = n % 2 ^ 64 := by
      rw [← Int.natCast_emod, Int.toNat_natCast]; rfl
    rw [e1, e2, Nat.and_two_pow_sub_one_eq_mod]
    omega
  simp only [e]
  rw [IntKind.wrap_u64]
  omega

theorem and1_all : ∀ x : Fin 256, ∀ r : Fin 8, (bits .and .u8 ((x.val / 2 ^ r.val : Nat) : Int) 1 == 1) = x.val.testBit r.val := by decide +kernel
theorem and1 (x r : Nat) (hx : x < 256) (hr : r < 8) : (bits .and .u8 ((x : Int) / 2 ^ r) 1 == 1) = x.testBit r := by
  have := and1_all ⟨x, hx⟩ ⟨r, hr⟩
  simpa using this

/-- Bit number i of bytes, the lowest of each first. -/
def bit (l : List UInt8) (i : Nat) : Bool := (l.getD (i / 8) 0).toNat.testBit (i % 8)
/-- How many of n bits from a on are 1. -/
def cnt (l : List UInt8) (a : Nat) : Nat → Nat
  | 0 => 0
  | n + 1 => cnt l a n + if bit l (a + n) then 1 else 0
theorem byte_lt (b : UInt8) : b.toNat < 256 := b.toNat_lt
theorem byte_ext (a b : UInt8) (h : ∀ r, r < 8 → a.toNat.testBit r = b.toNat.testBit r) : a = b := by
  apply UInt8.toNat_inj.1
  apply Nat.eq_of_testBit_eq
  intro r
  by_cases hr : r < 8
  · exact h r hr
  · have hp : 2 ^ 8 ≤ 2 ^ r := Nat.pow_le_pow_right (by decide) (by omega)
    rw [Nat.testBit_lt_two_pow (Nat.lt_of_lt_of_le (byte_lt a) hp), Nat.testBit_lt_two_pow (Nat.lt_of_lt_of_le (byte_lt b) hp)]
theorem ext (l m : List UInt8) (hl : l.length = m.length) (h : ∀ i, i < 8 * l.length → bit l i = bit m i) : l = m := by
  apply List.ext_getElem hl
  intro j h1 h2
  apply byte_ext
  intro r hr
  have := h (8 * j + r) (by omega)
  unfold bit at this
  rw [show (8 * j + r) / 8 = j from by omega, show (8 * j + r) % 8 = r from by omega] at this
  simpa [List.getD_eq_getElem?_getD, List.getElem?_eq_getElem h1, List.getElem?_eq_getElem h2] using this
theorem cnt_le (l : List UInt8) (a n : Nat) : cnt l a n ≤ n := by
  induction n with
  | zero => simp [cnt]
  | succ n ih => rw [cnt]; split <;> omega
end Go.Proofs.YtcpfhfdgfcilaaaGreatDoor.BitP
namespace Go.Proofs.YtcpfhfdgfcilaaaGreatDoor.Arr
open Tree Val

/-- The number of four bytes. -/
def endAt (s : ByteArray) (i : Nat) : Nat := Plain.val (bl s) (4 * i) 4
/-- It is there, and may be one. -/
def has4 (s : ByteArray) (i : Nat) : Bool := decide (4 * i + 4 ≤ s.size) && decide (endAt s i ≤ 2147483647)
def prev (s : ByteArray) (i : Nat) : Nat := if i = 0 then 0 else endAt s (i - 1)
/-- One of a row of ends. -/
def endsP (s : ByteArray) (first last apart : Int) (i : Nat) : Bool := has4 s i && decide (prev s i ≤ endAt s i) && decide ((endAt s i : Int) ≤ last) && (decide ((i : Int) ≤ first) || decide ((endAt s i : Int) - (prev s i : Int) ≤ apart))
def endsB (s : ByteArray) (rows : Nat) (first last apart : Int) : Bool := (List.range (rows + 1)).all (endsP s first last apart)
/-- Is a row there? -/
def there (a : Arr) (r : Nat) : Bool := decide (a.valid.size = 0) || BitP.bit (bl a.valid) r
def bare (a : Arr) : Bool := decide (a.ends.size = 0) && a.kids.isEmpty
def kidAt (a : Arr) (i : Nat) : Arr := a.kids.getD i nil
def kAt (ns : List Nd) (n i : Nat) : Nat := (kids ns n).getD i 0
def rowsOf (a : Arr) : Nat := (a.offset + a.length).toNat
/-- May a plain one be? -/
def plainB (rec : Nat → Arr → Bool) (ns : List Nd) (n : Nat) (a : Arr) : Bool :=
  if (nd ns n).kind = 0 then bare a && decide (8 * rowsOf a ≤ a.data.size)
  else if (nd ns n).kind = 1 then bare a && decide ((rowsOf a + 7) / 8 ≤ a.data.size)
  else if (nd ns n).kind = 2 then a.kids.isEmpty && endsB a.ends (rowsOf a) a.offset (a.data.size : Int) 16
  else if (nd ns n).kind = 3 then decide (a.data.size = 0) && decide (a.kids.length = 1) && rec (kAt ns n 0) (kidAt a 0) && endsB a.ends (rowsOf a) a.offset (kidAt a 0).length 2147483647
  else decide (a.data.size = 0) && decide (a.ends.size = 0) && decide (a.kids.length = (kids ns n).length) && (List.range (kids ns n).length).all fun i => rec (kAt ns n i) (kidAt a i) && decide ((rowsOf a : Int) ≤ (kidAt a i).length)
def dictB (a : Arr) : Bool := decide (4 * rowsOf a ≤ a.data.size) && decide ((kidAt a 0).valid.size = 0) && (List.range (rowsOf a)).all fun i => decide ((i : Int) < a.offset) || !there a i || has4 a.data i && decide ((endAt a.data i : Int) < (kidAt a 0).length)
def runB (a : Arr) : Bool := decide (a.valid.size = 0) && decide ((a.data.size : Int) = 4 * (kidAt a 0).length) && ((List.range (kidAt a 0).length.toNat).all fun i => has4 a.data i && decide (prev a.data i < endAt a.data i)) && decide (rowsOf a ≤ prev a.data (kidAt a 0).length.toNat)
def headB (ns : List Nd) (n : Nat) (a : Arr) : Bool :=
  decide (0 ≤ a.offset) && decide (0 ≤ a.length) && decide (a.offset + a.length ≤ 64) && decide (a.valid.size ≤ 4096) && decide (a.ends.size ≤ 4096) && decide (a.data.size ≤ 4096) && (decide (a.valid.size = 0) || (nd ns n).null && decide ((rowsOf a + 7) / 8 ≤ a.valid.size))
/-- May an array be, of a node of a type that may? -/
def mayF (ns : List Nd) : Nat → Nat → Arr → Bool
  | 0, _, _ => false
  | f + 1, n, a => headB ns n a && if a.layout = 0 then plainB (mayF ns f) ns n a else
      isLeaf (nd ns n).kind && decide (a.kids.length = 1) && decide (a.ends.size = 0) && decide ((kidAt a 0).layout = 0) && mayF ns f n (kidAt a 0) && if a.layout = 1 then dictB a else if a.layout = 2 then runB a else false
/-- The first run whose end is above a row. -/
def runAt (s : ByteArray) (r : Nat) : Nat → Nat → Nat
  | 0, i => i
  | f + 1, i => if endAt s i ≤ r then runAt s r f (i + 1) else i
/-- A whole number of eight bytes, with its sign. -/
def signed (x : Nat) : Int := if x < 9223372036854775808 then (x : Int) else (x : Int) - 18446744073709551616
def part (s : ByteArray) (a b : Nat) : List UInt8 := ((bl s).take b).drop a
/-- A row's value, as it is laid down plainly. -/
def plainRow (rec : Nat → Arr → Nat → List UInt8) (ns : List Nd) (n : Nat) (a : Arr) (r : Nat) : List UInt8 :=
  if (nd ns n).kind = 0 then intM (signed (Plain.val (bl a.data) (8 * r) 8))
  else if (nd ns n).kind = 1 then boolM (BitP.bit (bl a.data) r)
  else if (nd ns n).kind = 2 then bytesM (part a.data (endAt a.ends r) (endAt a.ends (r + 1)))
  else if (nd ns n).kind = 3 then listM ((List.range (endAt a.ends (r + 1) - endAt a.ends r)).map fun j => rec (kAt ns n 0) (kidAt a 0) (endAt a.ends r + j))
  else structM ((List.range (kids ns n).length).map fun i => rec (kAt ns n i) (kidAt a i) r)
/-- A row's value, counted from the offset. -/
def rowF (ns : List Nd) : Nat → Nat → Arr → Nat → List UInt8
  | 0, _, _, _ => []
  | f + 1, n, a, row =>
    if there a (row + a.offset.toNat) = false then nullM
    else if a.layout = 0 then plainRow (rowF ns f) ns n a (row + a.offset.toNat)
    else if a.layout = 1 then rowF ns f n (kidAt a 0) (endAt a.data (row + a.offset.toNat))
    else rowF ns f n (kidAt a 0) (runAt a.data (row + a.offset.toNat) (kidAt a 0).length.toNat 0)
/-- What holds of ends that may be. -/
structure Ends (s : ByteArray) (rows : Nat) (first last apart : Int) : Prop where
  size : ∀ i, i ≤ rows → 4 * i + 4 ≤ s.size
  most : ∀ i, i ≤ rows → endAt s i ≤ 2147483647
  up : ∀ i, i < rows → endAt s i ≤ endAt s (i + 1)
  last : ∀ i, i ≤ rows → (endAt s i : Int) ≤ last
  apart : ∀ i, i < rows → first ≤ (i : Int) → (endAt s (i + 1) : Int) - (endAt s i : Int) ≤ apart
theorem endsP_iff (s : ByteArray) (first last apart : Int) (i : Nat) : endsP s first last apart i = true ↔ (4 * i + 4 ≤ s.size ∧ endAt s i ≤ 2147483647) ∧ prev s i ≤ endAt s i ∧ (endAt s i : Int) ≤ last ∧ ((i : Int) ≤ first ∨ (endAt s i : Int) - (prev s i : Int) ≤ apart) := by
  unfold endsP has4
  simp only [Bool.and_eq_true, Bool.or_eq_true, decide_eq_true_eq]
  constructor
  · rintro ⟨⟨⟨h1, h2⟩, h3⟩, h4⟩
    exact ⟨h1, h2, h3, h4⟩
  · rintro ⟨h1, h2, h3, h4⟩
    exact ⟨⟨⟨h1, h2⟩, h3⟩, h4⟩
theorem endsB_ends {s : ByteArray} {rows : Nat} {first last apart : Int} (h : endsB s rows first last apart = true) : Ends s rows first last apart := by
  unfold endsB at h
  rw [List.all_eq_true] at h
  have hp : ∀ i, i ≤ rows → _ := fun i hi => (endsP_iff s first last apart i).1 (h i (List.mem_range.2 (by omega)))
  refine ⟨fun i hi => (hp i hi).1.1, fun i hi => (hp i hi).1.2, fun i hi => ?_, fun i hi => (hp i hi).2.2.1, fun i hi hf => ?_⟩
  · have := (hp (i + 1) (by omega)).2.1
    unfold prev at this
    rw [if_neg (by omega), Nat.add_sub_cancel] at this
    exact this
  · have := (hp (i + 1) (by omega)).2.2.2
    unfold prev at this
    rw [if_neg (by omega), Nat.add_sub_cancel] at this
    rcases this with c | c
    · omega
    · exact c
theorem Ends.mono {s : ByteArray} {rows : Nat} {first last apart : Int} (h : Ends s rows first last apart) {i : Nat} : ∀ {j : Nat}, i ≤ j → j ≤ rows → endAt s i ≤ endAt s j := by
  intro j
  induction j with
  | zero =>
    intro hi _
    obtain rfl : i = 0 := by omega
    exact Nat.le_refl _
  | succ j ih =>
    intro hi hj
    by_cases c : i = j + 1
    · subst c; exact Nat.le_refl _
    · exact Nat.le_trans (ih (by omega) (by omega)) (h.up j (by omega))
/-- What holds of any array that may be. -/
structure Head (ns : List Nd) (n : Nat) (a : Arr) : Prop where
  off : 0 ≤ a.offset
  len : 0 ≤ a.length
  rows : a.offset + a.length ≤ 64
  valid : a.valid.size ≤ 4096
  ends : a.ends.size ≤ 4096
  data : a.data.size ≤ 4096
  null : a.valid.size = 0 ∨ (nd ns n).null = true ∧ (rowsOf a + 7) / 8 ≤ a.valid.size
theorem head_of {ns : List Nd} {n : Nat} {a : Arr} (h : headB ns n a = true) : Head ns n a := by
  unfold headB at h
  simp only [Bool.and_eq_true, Bool.or_eq_true, decide_eq_true_eq] at h
  obtain ⟨⟨⟨⟨⟨⟨h1, h2⟩, h3⟩, h4⟩, h5⟩, h6⟩, h7⟩ := h
  exact ⟨h1, h2, h3, h4, h5, h6, h7⟩
theorem mayF_cases {ns : List Nd} {f n : Nat} {a : Arr} (h : mayF ns (f + 1) n a = true) : Head ns n a ∧
    ((a.layout = 0 ∧ plainB (mayF ns f) ns n a = true) ∨ (a.layout ≠ 0 ∧ isLeaf (nd ns n).kind = true ∧ a.kids.length = 1 ∧ (kidAt a 0).layout = 0 ∧ mayF ns f n (kidAt a 0) = true ∧ ((a.layout = 1 ∧ dictB a = true) ∨ (a.layout = 2 ∧ runB a = true)))) := by
  unfold mayF at h
  rw [Bool.and_eq_true] at h
  obtain ⟨h1, h2⟩ := h
  refine ⟨head_of h1, ?_⟩
  by_cases c : a.layout = 0
  · rw [if_pos c] at h2
    exact .inl ⟨c, h2⟩
  · rw [if_neg c] at h2
    simp only [Bool.and_eq_true, decide_eq_true_eq] at h2
    obtain ⟨⟨⟨⟨⟨h3, h4⟩, _⟩, h6⟩, h7⟩, h8⟩ := h2
    refine .inr ⟨c, h3, h4, h6, h7, ?_⟩
    by_cases d : a.layout = 1
    · rw [if_pos d] at h8
      exact .inl ⟨d, h8⟩
    · rw [if_neg d] at h8
      by_cases e : a.layout = 2
      · rw [if_pos e] at h8
        exact .inr ⟨e, h8⟩
      · rw [if_neg e] at h8
        cases h8
/-- Where the first run above a row is. -/
theorem runAt_found (s : ByteArray) (r k : Nat) (hk : r < endAt s k) : ∀ f i, k - i ≤ f → i ≤ k → (∀ j, j < i → endAt s j ≤ r) → runAt s r f i ≤ k ∧ r < endAt s (runAt s r f i) ∧ ∀ j, j < runAt s r f i → endAt s j ≤ r := by
  intro f
  induction f with
  | zero =>
    intro i hf hi hj
    obtain rfl : i = k := by omega
    exact ⟨Nat.le_refl _, hk, hj⟩
  | succ f ih =>
    intro i hf hi hj
    rw [runAt]
    by_cases c : endAt s i ≤ r
    · rw [if_pos c]
      have hne : i ≠ k := fun e => by rw [e] at c; omega
      refine ih (i + 1) (by omega) (by omega) (fun j hj' => ?_)
      by_cases e : j = i
      · rw [e]; exact c
      · exact hj j (by omega)
    · rw [if_neg c]
      exact ⟨hi, by omega, hj⟩
/-- A row of an array by a dictionary, by runs, is a row of its kid. -/
theorem dict_row {a : Arr} {ns : List Nd} {n : Nat} (hh : Head ns n a) (h : dictB a = true) {row : Nat} (hr : (row : Int) < a.length) (ht : there a (row + a.offset.toNat) = true) : (endAt a.data (row + a.offset.toNat) : Int) < (kidAt a 0).length := by
  unfold dictB at h
  simp only [Bool.and_eq_true, decide_eq_true_eq, List.all_eq_true, Bool.or_eq_true, Bool.not_eq_true'] at h
  have h1 := hh.off
  have := h.2 (row + a.offset.toNat) (List.mem_range.2 (by unfold rowsOf; omega))
  rcases this with c | c
  · rcases c with c | c
    · omega
    · rw [c] at ht; cases ht
  · exact c.2
theorem run_row {a : Arr} {ns : List Nd} {n : Nat} (hh : Head ns n a) (h : runB a = true) {row : Nat} (hr : (row : Int) < a.length) : (runAt a.data (row + a.offset.toNat) (kidAt a 0).length.toNat 0 : Int) < (kidAt a 0).length := by
  unfold runB at h
  simp only [Bool.and_eq_true, decide_eq_true_eq] at h
  have h1 := hh.off
  have h2 := h.2
  unfold rowsOf prev at h2
  have hk : (kidAt a 0).length.toNat ≠ 0 := fun e => by rw [if_pos e] at h2; omega
  rw [if_neg hk] at h2
  have := runAt_found a.data (row + a.offset.toNat) ((kidAt a 0).length.toNat - 1) (by omega) (kidAt a 0).length.toNat 0 (by omega) (Nat.zero_le _) (fun j hj => absurd hj (Nat.not_lt_zero j))
  omega
end Go.Proofs.YtcpfhfdgfcilaaaGreatDoor.Arr
namespace Go.Proofs.YtcpfhfdgfcilaaaGreatDoor.Arr
open Tree Val

def all4 (s : ByteArray) (n : Nat) : Bool := (List.range n).all (has4 s)
def sortedE (s : ByteArray) (n : Nat) : Bool := (List.range n).all fun i => decide (endAt s i ≤ endAt s (i + 1))
def nearE (s : ByteArray) (off n : Nat) : Bool := (List.range n).all fun j => decide ((endAt s (off + j + 1) : Int) - (endAt s (off + j) : Int) ≤ 16)
def riseE (s : ByteArray) (n : Nat) : Bool := (List.range n).all fun i => decide (prev s i < endAt s i)
theorem has4_iff (s : ByteArray) (i : Nat) : has4 s i = true ↔ 4 * i + 4 ≤ s.size ∧ endAt s i ≤ 2147483647 := by
  unfold has4
  simp only [Bool.and_eq_true, decide_eq_true_eq]
theorem all4_iff (s : ByteArray) (n : Nat) : all4 s n = true ↔ ∀ i, i < n → has4 s i = true := by
  unfold all4
  rw [List.all_eq_true]
  exact ⟨fun h i hi => h i (List.mem_range.2 hi), fun h i hi => h i (List.mem_range.1 hi)⟩
theorem sorted_iff (s : ByteArray) (n : Nat) : sortedE s n = true ↔ ∀ i, i < n → endAt s i ≤ endAt s (i + 1) := by
  unfold sortedE
  rw [List.all_eq_true]
  exact ⟨fun h i hi => of_decide_eq_true (h i (List.mem_range.2 hi)), fun h i hi => decide_eq_true (h i (List.mem_range.1 hi))⟩
theorem near_iff (s : ByteArray) (off n : Nat) : nearE s off n = true ↔ ∀ j, j < n → (endAt s (off + j + 1) : Int) - (endAt s (off + j) : Int) ≤ 16 := by
  unfold nearE
  rw [List.all_eq_true]
  exact ⟨fun h i hi => of_decide_eq_true (h i (List.mem_range.2 hi)), fun h i hi => decide_eq_true (h i (List.mem_range.1 hi))⟩
theorem rise_iff (s : ByteArray) (n : Nat) : riseE s n = true ↔ ∀ i, i < n → prev s i < endAt s i := by
  unfold riseE
  rw [List.all_eq_true]
  exact ⟨fun h i hi => of_decide_eq_true (h i (List.mem_range.2 hi)), fun h i hi => decide_eq_true (h i (List.mem_range.1 hi))⟩
theorem sorted_last {s : ByteArray} {n : Nat} (h : ∀ i, i < n → endAt s i ≤ endAt s (i + 1)) : ∀ d i, i + d = n → endAt s i ≤ endAt s n := by
  intro d
  induction d with
  | zero => intro i hi; obtain rfl : i = n := by omega
            exact Nat.le_refl _
  | succ d ih =>
    intro i hi
    exact Nat.le_trans (h i (by omega)) (ih (i + 1) (by omega))
theorem prev_succ (s : ByteArray) (i : Nat) : prev s (i + 1) = endAt s i := by
  unfold prev
  rw [if_neg (by omega), Nat.add_sub_cancel]
theorem prev_zero (s : ByteArray) : prev s 0 = 0 := by
  unfold prev
  rw [if_pos rfl]
/-- All ends, as told one by one. -/
theorem endsB_iff (s : ByteArray) (rows : Nat) (first last apart : Int) : endsB s rows first last apart = true ↔ ∀ i, i ≤ rows → endsP s first last apart i = true := by
  unfold endsB
  rw [List.all_eq_true]
  exact ⟨fun h i hi => h i (List.mem_range.2 (by omega)), fun h i hi => h i (by have := List.mem_range.1 hi; omega)⟩
theorem ends_list (s : ByteArray) (rows : Nat) (first last : Int) : endsB s rows first last 2147483647 = (all4 s (rows + 1) && (sortedE s rows && decide ((endAt s rows : Int) ≤ last))) := by
  rw [Bool.eq_iff_iff, endsB_iff]
  simp only [Bool.and_eq_true, decide_eq_true_eq, all4_iff, sorted_iff]
  constructor
  · intro h
    refine ⟨fun i hi => ?_, fun i hi => ?_, ?_⟩
    · have := (endsP_iff _ _ _ _ _).1 (h i (by omega))
      exact (has4_iff _ _).2 this.1
    · have := ((endsP_iff _ _ _ _ _).1 (h (i + 1) (by omega))).2.1
      rw [prev_succ] at this
      exact this
    · exact ((endsP_iff _ _ _ _ _).1 (h rows (Nat.le_refl _))).2.2.1
  · rintro ⟨h1, h2, h3⟩ i hi
    have a1 := (has4_iff _ _).1 (h1 i (by omega))
    have a2 := sorted_last h2 (rows - i) i (by omega)
    refine (endsP_iff _ _ _ _ _).2 ⟨a1, ?_, by omega, .inr (by omega)⟩
    cases i with
    | zero => rw [prev_zero]; exact Nat.zero_le _
    | succ i => rw [prev_succ]; exact h2 i (by omega)
theorem ends_bytes (s : ByteArray) (rows off : Nat) (ho : off ≤ rows) (last : Int) : endsB s rows (off : Int) last 16 = (all4 s (rows + 1) && (sortedE s rows && decide ((endAt s rows : Int) ≤ last)) && nearE s off (rows - off)) := by
  rw [Bool.eq_iff_iff, endsB_iff]
  simp only [Bool.and_eq_true, decide_eq_true_eq, all4_iff, sorted_iff, near_iff]
  constructor
  · intro h
    refine ⟨⟨fun i hi => ?_, fun i hi => ?_, ?_⟩, fun j hj => ?_⟩
    · have := (endsP_iff _ _ _ _ _).1 (h i (by omega))
      exact (has4_iff _ _).2 this.1
    · have := ((endsP_iff _ _ _ _ _).1 (h (i + 1) (by omega))).2.1
      rw [prev_succ] at this
      exact this
    · exact ((endsP_iff _ _ _ _ _).1 (h rows (Nat.le_refl _))).2.2.1
    · have := ((endsP_iff _ _ _ _ _).1 (h (off + j + 1) (by omega))).2.2.2
      rw [prev_succ] at this
      rcases this with c | c
      · omega
      · exact c
  · rintro ⟨⟨h1, h2, h3⟩, h4⟩ i hi
    have a1 := (has4_iff _ _).1 (h1 i (by omega))
    have a2 := sorted_last h2 (rows - i) i (by omega)
    refine (endsP_iff _ _ _ _ _).2 ⟨a1, ?_, by omega, ?_⟩
    · cases i with
      | zero => rw [prev_zero]; exact Nat.zero_le _
      | succ i => rw [prev_succ]; exact h2 i (by omega)
    · by_cases c : (i : Int) ≤ off
      · exact .inl c
      · right
        obtain ⟨j, rfl⟩ : ∃ j, i = off + j + 1 := ⟨i - off - 1, by omega⟩
        rw [prev_succ]
        exact h4 j (by omega)
theorem run_ends (s : ByteArray) (n : Nat) : ((List.range n).all fun i => has4 s i && decide (prev s i < endAt s i)) = (all4 s n && riseE s n) := by
  rw [Bool.eq_iff_iff, List.all_eq_true]
  simp only [Bool.and_eq_true, all4_iff, rise_iff]
  constructor
  · intro h
    exact ⟨fun i hi => (h i (List.mem_range.2 hi)).1, fun i hi => of_decide_eq_true (h i (List.mem_range.2 hi)).2⟩
  · rintro ⟨h1, h2⟩ i hi
    exact ⟨h1 i (List.mem_range.1 hi), decide_eq_true (h2 i (List.mem_range.1 hi))⟩
end Go.Proofs.YtcpfhfdgfcilaaaGreatDoor.Arr
namespace Go.Proofs.YtcpfhfdgfcilaaaGreatDoor.Bit
open Go.ChangeShapes Go.WideShapes Go.ChangeAt Go.RowKit

theorem bel {a b c : World} (h : Below a.heap.size a b) (k : Below b.heap.size b c) : Below a.heap.size a c := h.trans (k.mono h.size)

theorem ret_bool {a b : Bool} (h : a = b) : Ending.returned (.bool a) = .returned (.bool b) := by rw [h]
theorem ret_u64 {a b : Int} (h : a = b) : Ending.returned (.int .u64 a) = .returned (.int .u64 b) := by rw [h]

theorem num (e : Int) (w : World) :
    Calls Tryz.prog 18 #[.int .i64 e] w fun r w' => r = .returned (.int .i64 e) ∧ w' = w := by
  go_enter Tryz.func18, Tryz.ntmps18
  go_wp2
  go_ret
  exact ⟨rfl, rfl⟩

theorem getD_at (s : ByteArray) (j : Nat) (h : j < s.size) : s.data.toList.getD j 0 = s[j] := by
  have h' : j < s.data.toList.length := by simpa using h
  rw [List.getD_eq_getElem?_getD, List.getElem?_eq_getElem h']
  rfl

set_option maxHeartbeats 400000 in
theorem isOn (s : ByteArray) (x : Int) (h0 : 0 ≤ x) (h : x < 8 * (s.size : Int)) (w : World) :
    Calls Tryz.prog 178 #[.string s, .int .u64 x] w fun r w' => r = .returned (.bool (BitP.bit s.data.toList x.toNat)) ∧ w' = w := by
  obtain ⟨n, rfl⟩ := Int.eq_ofNat_of_zero_le h0
  rw [Int.toNat_natCast]
  have h : n / 8 < s.size := by omega
  have hm : bits BinOp.and IntKind.u64 (↑n) 7 = ((n % 8 : Nat) : Int) := BitP.and7 n
  have hr : n % 8 < 8 := Nat.mod_lt _ (by decide)
  have hb : s[n / 8].toNat < 256 := BitP.byte_lt _
  have HE : Hid (BitP.bit s.data.toList n = s[n / 8].toNat.testBit (n % 8)) := by unfold BitP.bit; rw [getD_at s _ h]; rfl
  generalize n % 8 = r at *
  go_enter Tryz.func178, Tryz.ntmps178
  go_wp2
  go_ret
  exact ⟨ret_bool (by rw [HE.out]; exact BitP.and1 _ _ hb hr), rfl⟩

set_option maxHeartbeats 400000 in
theorem size (x : Int) (w : World) (h0 : 0 ≤ x) (h : x ≤ 18446744073709551614) :
    Calls Tryz.prog 212 #[.int .u64 x] w fun r w' => r = .returned (.int .u64 ((x + 7) / 8)) ∧ w' = w := by
  obtain ⟨n, rfl⟩ := Int.eq_ofNat_of_zero_le h0
  have hm : bits BinOp.and IntKind.u64 (↑n) 7 = ((n % 8 : Nat) : Int) := BitP.and7 n
  by_cases hz : n % 8 = 0
  · have hz' : bits BinOp.and IntKind.u64 (↑n) 7 = 0 := by rw [hm, hz]; rfl
    have HZ : Hid (n % 8 = 0) := hz
    clear hm hz
    go_enter Tryz.func212, Tryz.ntmps212
    go_wp2
    go_ret
    exact ⟨ret_u64 (by have := HZ.out; omega), rfl⟩
  · have hz' : (bits BinOp.and IntKind.u64 (↑n) 7 == 0) = false := by rw [hm]; simp; omega
    have hw : IntKind.u64.wrap (((n : Int) / 8) + 1) = (n : Int) / 8 + 1 := by rw [IntKind.wrap_u64]; omega
    have HZ : Hid (¬ n % 8 = 0) := hz
    clear hm hz
    go_enter Tryz.func212, Tryz.ntmps212
    go_wp2
    go_ret
    exact ⟨ret_u64 (by have := HZ.out; omega), rfl⟩

/-- Has a text of so many bytes c bits from a on? -/
def hasB (len : Nat) (a c : Int) : Bool := decide (0 ≤ a ∧ 0 ≤ c ∧ a + c ≤ 8 * (len : Int))
theorem hasB_yes {len : Nat} {a c : Int} (h0 : 0 ≤ a) (h1 : 0 ≤ c) (h2 : a + c ≤ 8 * (len : Int)) : hasB len a c = true := decide_eq_true ⟨h0, h1, h2⟩
theorem hasB_no {len : Nat} {a c : Int} (h : ¬ (0 ≤ a ∧ 0 ≤ c ∧ a + c ≤ 8 * (len : Int))) : hasB len a c = false := decide_eq_false h

set_option maxHeartbeats 400000 in
theorem has (s : ByteArray) (a c : Int) (w : World) (hs : s.size ≤ 140737488351232) (ha : a ≤ 9223372036854775807) (hc : c ≤ 9223372036854775807) :
    Calls Tryz.prog 177 #[.string s, .int .i64 a, .int .i64 c] w fun r w' => r = .returned (.bool (hasB s.size a c)) ∧ w' = w := by
  by_cases h0 : 0 ≤ a
  · by_cases h1 : 0 ≤ c
    · by_cases h2 : a + c ≤ 8 * (s.size : Int)
      · rw [hasB_yes h0 h1 h2]
        have h3 : (a + c + 7) / 8 ≤ (s.size : Int) := by omega
        go_enter Tryz.func177, Tryz.ntmps177
        go_wp2_with fail
        refine (size _ _ (by omega) (by omega)).mono ?_
        rintro e w' ⟨rfl, rfl⟩
        go_wp2
        go_ret
        exact ⟨rfl, rfl⟩
      · rw [hasB_no (by omega)]
        have h3 : ¬ (a + c + 7) / 8 ≤ (s.size : Int) := by omega
        go_enter Tryz.func177, Tryz.ntmps177
        go_wp2_with fail
        refine (size _ _ (by omega) (by omega)).mono ?_
        rintro e w' ⟨rfl, rfl⟩
        go_wp2
        go_ret
        exact ⟨ret_bool (decide_eq_false (by omega)), rfl⟩
    · rw [hasB_no (by omega)]
      go_enter Tryz.func177, Tryz.ntmps177
      go_wp2
      go_ret
      exact ⟨rfl, rfl⟩
  · rw [hasB_no (by omega)]
    go_enter Tryz.func177, Tryz.ntmps177
    go_wp2
    go_ret
    exact ⟨rfl, rfl⟩

set_option maxHeartbeats 400000 in
theorem get_yes (s : ByteArray) (a : Int) (w : World) (hs : s.size ≤ 140737488351232) (h0 : 0 ≤ a) (h1 : a < 8 * (s.size : Int)) :
    Calls Tryz.prog 137 #[.string s, .int .i64 a] w fun r w' => r = .returned (.tuple #[.bool (BitP.bit s.data.toList a.toNat), .int .i64 0]) ∧ w' = w := by
  have hh : hasB s.size a 1 = true := hasB_yes h0 (by decide) (by omega)
  go_enter Tryz.func137, Tryz.ntmps137
  go_wp2_with fail
  refine (has _ _ _ _ hs (by omega) (by decide)).mono ?_
  rintro e w' ⟨rfl, rfl⟩
  rw [hh]
  go_wp2_with fail
  refine (isOn _ _ h0 h1 _).mono ?_
  rintro e w' ⟨rfl, rfl⟩
  go_wp2
  go_ret2
  exact ⟨rfl, rfl⟩
set_option maxHeartbeats 400000 in
theorem get_no (s : ByteArray) (a : Int) (w : World) (hs : s.size ≤ 140737488351232) (ha : a ≤ 9223372036854775807) (h : a < 0 ∨ 8 * (s.size : Int) ≤ a) :
    Calls Tryz.prog 137 #[.string s, .int .i64 a] w fun r w' => r = .returned (.tuple #[.bool false, .int .i64 200]) ∧ w' = w := by
  have hh : hasB s.size a 1 = false := hasB_no (by omega)
  go_enter Tryz.func137, Tryz.ntmps137
  go_wp2_with fail
  refine (has _ _ _ _ hs ha (by decide)).mono ?_
  rintro e w' ⟨rfl, rfl⟩
  rw [hh]
  go_wp2
  go_ret2
  exact ⟨rfl, rfl⟩

end Go.Proofs.YtcpfhfdgfcilaaaGreatDoor.Bit
namespace Go.Proofs.YtcpfhfdgfcilaaaGreatDoor.Bit
open Go.ChangeShapes Go.WideShapes Go.ChangeAt Go.RowKit

/-- So many bytes lie at the head of block g, and may be written. -/
structure Bytes (w : World) (g : Nat) (l : List UInt8) : Prop where
  cell : ∀ i, i < l.length → w.cell? ⟨g, i, none⟩ = some (.int .u8 (((l.getD i 0).toNat : Nat) : Int))
  free : ∀ i, i < l.length → w.frozen? ⟨g, i, none⟩ = false
theorem Bytes.set {w : World} {g : Nat} {l : List UInt8} (h : Bytes w g l) (j : Nat) (hj : j < l.length) (v : UInt8) : Bytes (w.setCell ⟨g, j, none⟩ (.int .u8 ((v.toNat : Nat) : Int))) g (l.set j v) := by
  constructor
  · intro i hi
    rw [List.length_set] at hi
    by_cases e : i = j
    · subst e
      rw [World.cell?_setCell_same _ _ _ (h.cell i hi), List.getD_eq_getElem?_getD, List.getElem?_set_self hi]
      rfl
    · rw [World.cell?_setCell_other _ _ _ _ (by intro c; exact e (by injection c with _ c2; exact c2.symm)), h.cell i hi, List.getD_eq_getElem?_getD, List.getD_eq_getElem?_getD, List.getElem?_set_ne (fun c => e c.symm)]
  · intro i hi
    rw [List.length_set] at hi
    rw [World.frozen?_setCell]
    exact h.free i hi
theorem Bytes.below {w w' : World} {g B : Nat} {l : List UInt8} (h : Bytes w g l) (b : Below B w w') (hg : g < B) : Bytes w' g l :=
  ⟨fun i hi => by rw [b.cell (p := ⟨g, i, none⟩) hg]; exact h.cell i hi, fun i hi => by rw [b.frozen (p := ⟨g, i, none⟩) hg]; exact h.free i hi⟩

set_option maxHeartbeats 800000 in
theorem each (F : Nat) (hF : F = 209) (b : Nat) (I : Nat → World → Prop) (s : ByteArray) (a c : Int) (w : World) (hs : s.size ≤ 140737488351232) (h0 : 0 ≤ a) (h1 : 0 ≤ c) (h2 : a + c ≤ 8 * (s.size : Int))
    (hI : I 0 w) (hstep : Hid (∀ (k : Nat) (w : World), (k : Int) < c → I k w → Calls Tryz.prog F #[.int .u64 (k : Int), .bool (BitP.bit s.data.toList (a.toNat + k)), .pointer (some ⟨b, 0, none⟩)] w fun r w' => r = .returned (.tuple #[]) ∧ I (k + 1) w')) :
    Calls Tryz.prog 208 #[.string s, .int .u64 a, .int .u64 c, .func (.func F) #[] #[.pointer (some ⟨b, 0, none⟩)]] w fun r w' => r = .returned (.tuple #[]) ∧ I c.toNat w' := by
  subst hF
  all_goals
    go_enter Tryz.func208, Tryz.ntmps208
    go_wp2_with fail
    go_loopw [10] (fun i wr => ∃ k : Nat, (k : Int) ≤ c ∧ i = .int .u64 k ∧ I k wr) (fun i _ => c.toNat - (intOf i).toNat)
    case atStart => exact ⟨0, h1, rfl, hI⟩
    case round =>
      obtain ⟨k, hk, rfl, hik⟩ := hrel
      by_cases hlt : (k : Int) < c
      · go_wp2_with fail
        refine (isOn _ _ (by omega) (by omega) _).mono ?_
        rintro e w' ⟨rfl, rfl⟩
        rw [show (a + (k : Int)).toNat = a.toNat + k from by omega]
        go_wp2_with fail
        refine (hstep.out k _ hlt hik).mono ?_
        rintro e w' ⟨rfl, hik'⟩
        go_wp2
        go_roundw
        case rel => exact ⟨k + 1, by omega, by go_num, hik'⟩
        case measure => simp [intOf]; omega
      · have hck : c.toNat = k := by omega
        have HC : Hid (c.toNat = k) := hck
        clear hck
        go_wp2
        go_end0
        exact ⟨rfl, by rw [HC.out]; exact hik⟩


set_option maxHeartbeats 400000 in
theorem count1 (b : Nat) (x : Int) (on : Bool) (z : Int) (w : World) (hz0 : 0 ≤ z) (hz : z < 9223372036854775807) (hc : w.cell? ⟨b, 0, none⟩ = some (.int .i64 z)) (hf : w.frozen? ⟨b, 0, none⟩ = false) :
    Calls Tryz.prog 209 #[.int .u64 x, .bool on, .pointer (some ⟨b, 0, none⟩)] w fun r w' => r = .returned (.tuple #[]) ∧
      w' = if on then w.setCell ⟨b, 0, none⟩ (.int .i64 (z + 1)) else w := by
  cases on
  · go_enter Tryz.func209, Tryz.ntmps209
    go_wp2
    go_end0
    exact ⟨rfl, rfl⟩
  · go_enter Tryz.func209, Tryz.ntmps209
    go_wp2
    go_end0
    exact ⟨rfl, rfl⟩

set_option maxHeartbeats 400000 in
theorem count_yes (s : ByteArray) (a c : Int) (w : World) (hs : s.size ≤ 140737488351232) (h0 : 0 ≤ a) (h1 : 0 ≤ c) (h2 : a + c ≤ 8 * (s.size : Int)) :
    Calls Tryz.prog 171 #[.string s, .int .i64 a, .int .i64 c] w fun r w' => r = .returned (.tuple #[.int .i64 ((BitP.cnt s.data.toList a.toNat c.toNat : Nat) : Int), .int .i64 0]) ∧ Below w.heap.size w w' := by
  have hh : hasB s.size a c = true := hasB_yes h0 h1 h2
  go_enter Tryz.func171, Tryz.ntmps171
  go_wp2_with fail
  refine (has _ _ _ _ hs (by omega) (by omega)).mono ?_
  rintro e w' ⟨rfl, rfl⟩
  rw [hh]
  go_wp2_with fail
  refine (each 209 rfl w'.heap.size (fun k v => v.cell? ⟨w'.heap.size, 0, none⟩ = some (.int .i64 ((BitP.cnt s.data.toList a.toNat k : Nat) : Int)) ∧ v.frozen? ⟨w'.heap.size, 0, none⟩ = false ∧ Below w'.heap.size w' v) s a c _ hs h0 h1 h2 ?_ ?_).mono ?_
  · refine ⟨by simp [BitP.cnt], by simp, (Below.refl _ _).alloc (Nat.le_refl _) _⟩
  · intro k v hk ⟨hc, hf, hb⟩
    have hle := BitP.cnt_le s.data.toList a.toNat k
    refine (count1 _ _ _ _ _ (by omega) (by omega) hc hf).mono ?_
    rintro e v' ⟨rfl, hv⟩
    refine ⟨rfl, ?_⟩
    rw [BitP.cnt]
    cases hbit : BitP.bit s.data.toList (a.toNat + k)
    · rw [hbit] at hv
      simp only [Bool.false_eq_true, if_false] at hv
      subst hv
      exact ⟨by simpa using hc, hf, hb⟩
    · rw [hbit] at hv
      simp only [if_true] at hv
      subst hv
      refine ⟨?_, ?_, hb.setCell (Nat.le_refl _) _⟩
      · rw [World.cell?_setCell_same _ _ _ hc]; simp
      · rw [World.frozen?_setCell]; exact hf
  · rintro e v ⟨rfl, hc, hf, hb⟩
    go_wp2
    go_ret2
    exact ⟨rfl, hb⟩
set_option maxHeartbeats 400000 in
theorem count_no (s : ByteArray) (a c : Int) (w : World) (hs : s.size ≤ 140737488351232) (ha : a ≤ 9223372036854775807) (hc : c ≤ 9223372036854775807) (h : ¬ (0 ≤ a ∧ 0 ≤ c ∧ a + c ≤ 8 * (s.size : Int))) :
    Calls Tryz.prog 171 #[.string s, .int .i64 a, .int .i64 c] w fun r w' => r = .returned (.tuple #[.int .i64 0, .int .i64 200]) ∧ w' = w := by
  have hh : hasB s.size a c = false := hasB_no h
  clear h
  go_enter Tryz.func171, Tryz.ntmps171
  go_wp2_with fail
  refine (has _ _ _ _ hs ha hc).mono ?_
  rintro e w' ⟨rfl, rfl⟩
  rw [hh]
  go_wp2
  go_ret2
  exact ⟨rfl, rfl⟩
end Go.Proofs.YtcpfhfdgfcilaaaGreatDoor.Bit
namespace Go.Proofs.YtcpfhfdgfcilaaaGreatDoor.Bit
open Go.ChangeShapes Go.WideShapes Go.ChangeAt Go.RowKit

theorem info5 : (Tryz.prog.info? 5).map (fun i => (i.zero, i.size, i.bytes)) = some (some (.int .u8 0), 1, 1) := by kernel_rfl

/-- So many zero bytes, as cells. -/
def zeros (n : Nat) : Array Value := madeCells (Value.cells (.int .u8 0)) n
theorem zeros_at (n i : Nat) (h : i < n) : (zeros n)[i]? = some (.int .u8 0) := by
  unfold zeros
  rw [← Array.getElem?_toList, show (Value.cells (.int .u8 0)) = #[.int .u8 0] from rfl, toList_madeCells_one, List.getElem?_replicate, if_pos h]
theorem Bytes.zeros (w : World) (n : Nat) : Bytes (w.alloc (.cells (zeros n) 5)) w.heap.size (List.replicate n 0) := by
  constructor
  · intro i hi
    rw [List.length_replicate] at hi
    rw [World.cell?_alloc_mark, zeros_at n i hi, List.getD_eq_getElem?_getD, List.getElem?_replicate, if_pos hi]
    rfl
  · intro i _
    rw [World.frozen?_alloc_mark]
    simp

end Go.Proofs.YtcpfhfdgfcilaaaGreatDoor.Bit
namespace Go.Proofs.YtcpfhfdgfcilaaaGreatDoor.Bit
open Go.ChangeShapes Go.WideShapes Go.ChangeAt Go.RowKit

end Go.Proofs.YtcpfhfdgfcilaaaGreatDoor.Bit
namespace Go.Proofs.YtcpfhfdgfcilaaaGreatDoor.Bit
open Go.ChangeShapes Go.WideShapes Go.ChangeAt Go.RowKit

theorem ret_str {a b : List UInt8} {y : Value} (h : a = b) : Ending.returned (.tuple #[.string ⟨a.toArray⟩, y]) = .returned (.tuple #[.string ⟨b.toArray⟩, y]) := by rw [h]
end Go.Proofs.YtcpfhfdgfcilaaaGreatDoor.Bit
