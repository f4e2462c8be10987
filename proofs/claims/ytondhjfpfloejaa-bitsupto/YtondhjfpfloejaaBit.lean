/-
  What the functions of package bits that read compute: Num, isOn, size, has, Get: contracts.
-/
import Derived.Test.YtondhjfpfloejaaRows
import Derived.Test.YtondhjfpfloejaaPlain
import Derived.WalkKit
import Derived.ProofKit
import Derived.OpenShut
import Derived.Below
import Derived.Laws.IdiomStrings
namespace Go.Proofs.Ytondhjfpfloejaa.Bit
open Go.ChangeShapes Go.WideShapes Go.ChangeAt Go.RowKit

theorem bel {a b c : World} (h : Below a.heap.size a b) (k : Below b.heap.size b c) : Below a.heap.size a c := h.trans (k.mono h.size)

theorem ret_bool {a b : Bool} (h : a = b) : Ending.returned (.bool a) = .returned (.bool b) := by rw [h]
theorem ret_u64 {a b : Int} (h : a = b) : Ending.returned (.int .u64 a) = .returned (.int .u64 b) := by rw [h]

theorem num (e : Int) (w : World) :
    Calls Try.prog 17 #[.int .i64 e] w fun r w' => r = .returned (.int .i64 e) ∧ w' = w := by
  go_enter Try.func17, Try.ntmps17
  go_wp2
  go_ret
  exact ⟨rfl, rfl⟩

theorem getD_at (s : ByteArray) (j : Nat) (h : j < s.size) : s.data.toList.getD j 0 = s[j] := by
  have h' : j < s.data.toList.length := by simpa using h
  rw [List.getD_eq_getElem?_getD, List.getElem?_eq_getElem h']
  rfl

set_option maxHeartbeats 400000 in
theorem isOn (s : ByteArray) (x : Int) (h0 : 0 ≤ x) (h : x < 8 * (s.size : Int)) (w : World) :
    Calls Try.prog 20 #[.string s, .int .u64 x] w fun r w' => r = .returned (.bool (Plain.bit s.data.toList x.toNat)) ∧ w' = w := by
  obtain ⟨n, rfl⟩ := Int.eq_ofNat_of_zero_le h0
  rw [Int.toNat_natCast]
  have h : n / 8 < s.size := by omega
  have hm : bits BinOp.and IntKind.u64 (↑n) 7 = ((n % 8 : Nat) : Int) := Plain.and7 n
  have hr : n % 8 < 8 := Nat.mod_lt _ (by decide)
  have hb : s[n / 8].toNat < 256 := Plain.byte_lt _
  have HE : Hid (Plain.bit s.data.toList n = s[n / 8].toNat.testBit (n % 8)) := by unfold Plain.bit; rw [getD_at s _ h]; rfl
  generalize n % 8 = r at *
  go_enter Try.func20, Try.ntmps20
  go_wp2
  go_ret
  exact ⟨ret_bool (by rw [HE.out]; exact Plain.and1 _ _ hb hr), rfl⟩

set_option maxHeartbeats 400000 in
theorem size (x : Int) (w : World) (h0 : 0 ≤ x) (h : x ≤ 18446744073709551614) :
    Calls Try.prog 26 #[.int .u64 x] w fun r w' => r = .returned (.int .u64 ((x + 7) / 8)) ∧ w' = w := by
  obtain ⟨n, rfl⟩ := Int.eq_ofNat_of_zero_le h0
  have hm : bits BinOp.and IntKind.u64 (↑n) 7 = ((n % 8 : Nat) : Int) := Plain.and7 n
  by_cases hz : n % 8 = 0
  · have hz' : bits BinOp.and IntKind.u64 (↑n) 7 = 0 := by rw [hm, hz]; rfl
    have HZ : Hid (n % 8 = 0) := hz
    clear hm hz
    go_enter Try.func26, Try.ntmps26
    go_wp2
    go_ret
    exact ⟨ret_u64 (by have := HZ.out; omega), rfl⟩
  · have hz' : (bits BinOp.and IntKind.u64 (↑n) 7 == 0) = false := by rw [hm]; simp; omega
    have hw : IntKind.u64.wrap (((n : Int) / 8) + 1) = (n : Int) / 8 + 1 := by rw [IntKind.wrap_u64]; omega
    have HZ : Hid (¬ n % 8 = 0) := hz
    clear hm hz
    go_enter Try.func26, Try.ntmps26
    go_wp2
    go_ret
    exact ⟨ret_u64 (by have := HZ.out; omega), rfl⟩

/-- Has a text of so many bytes c bits from a on? -/
def hasB (len : Nat) (a c : Int) : Bool := decide (0 ≤ a ∧ 0 ≤ c ∧ a + c ≤ 8 * (len : Int))
theorem hasB_yes {len : Nat} {a c : Int} (h0 : 0 ≤ a) (h1 : 0 ≤ c) (h2 : a + c ≤ 8 * (len : Int)) : hasB len a c = true := decide_eq_true ⟨h0, h1, h2⟩
theorem hasB_no {len : Nat} {a c : Int} (h : ¬ (0 ≤ a ∧ 0 ≤ c ∧ a + c ≤ 8 * (len : Int))) : hasB len a c = false := decide_eq_false h

set_option maxHeartbeats 400000 in
theorem has (s : ByteArray) (a c : Int) (w : World) (hs : s.size ≤ 140737488351232) (ha : a ≤ 9223372036854775807) (hc : c ≤ 9223372036854775807) :
    Calls Try.prog 19 #[.string s, .int .i64 a, .int .i64 c] w fun r w' => r = .returned (.bool (hasB s.size a c)) ∧ w' = w := by
  by_cases h0 : 0 ≤ a
  · by_cases h1 : 0 ≤ c
    · by_cases h2 : a + c ≤ 8 * (s.size : Int)
      · rw [hasB_yes h0 h1 h2]
        have h3 : (a + c + 7) / 8 ≤ (s.size : Int) := by omega
        go_enter Try.func19, Try.ntmps19
        go_wp2_with fail
        refine (size _ _ (by omega) (by omega)).mono ?_
        rintro e w' ⟨rfl, rfl⟩
        go_wp2
        go_ret
        exact ⟨rfl, rfl⟩
      · rw [hasB_no (by omega)]
        have h3 : ¬ (a + c + 7) / 8 ≤ (s.size : Int) := by omega
        go_enter Try.func19, Try.ntmps19
        go_wp2_with fail
        refine (size _ _ (by omega) (by omega)).mono ?_
        rintro e w' ⟨rfl, rfl⟩
        go_wp2
        go_ret
        exact ⟨ret_bool (decide_eq_false (by omega)), rfl⟩
    · rw [hasB_no (by omega)]
      go_enter Try.func19, Try.ntmps19
      go_wp2
      go_ret
      exact ⟨rfl, rfl⟩
  · rw [hasB_no (by omega)]
    go_enter Try.func19, Try.ntmps19
    go_wp2
    go_ret
    exact ⟨rfl, rfl⟩

set_option maxHeartbeats 400000 in
theorem get_yes (s : ByteArray) (a : Int) (w : World) (hs : s.size ≤ 140737488351232) (h0 : 0 ≤ a) (h1 : a < 8 * (s.size : Int)) :
    Calls Try.prog 9 #[.string s, .int .i64 a] w fun r w' => r = .returned (.tuple #[.bool (Plain.bit s.data.toList a.toNat), .int .i64 0]) ∧ w' = w := by
  have hh : hasB s.size a 1 = true := hasB_yes h0 (by decide) (by omega)
  go_enter Try.func9, Try.ntmps9
  go_wp2_with fail
  refine (has _ _ _ _ hs (by omega) (by decide)).mono ?_
  rintro e w' ⟨rfl, rfl⟩
  rw [hh]
  go_wp2_with fail
  refine (isOn _ _ h0 h1 _).mono ?_
  rintro e w' ⟨rfl, rfl⟩
  go_wp2
  go_ret2
  exact ⟨rfl, rfl⟩
set_option maxHeartbeats 400000 in
theorem get_no (s : ByteArray) (a : Int) (w : World) (hs : s.size ≤ 140737488351232) (ha : a ≤ 9223372036854775807) (h : a < 0 ∨ 8 * (s.size : Int) ≤ a) :
    Calls Try.prog 9 #[.string s, .int .i64 a] w fun r w' => r = .returned (.tuple #[.bool false, .int .i64 200]) ∧ w' = w := by
  have hh : hasB s.size a 1 = false := hasB_no (by omega)
  go_enter Try.func9, Try.ntmps9
  go_wp2_with fail
  refine (has _ _ _ _ hs ha (by decide)).mono ?_
  rintro e w' ⟨rfl, rfl⟩
  rw [hh]
  go_wp2
  go_ret2
  exact ⟨rfl, rfl⟩

end Go.Proofs.Ytondhjfpfloejaa.Bit
