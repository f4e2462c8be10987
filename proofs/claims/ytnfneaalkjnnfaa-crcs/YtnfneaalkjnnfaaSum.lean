/-
  What crc.Sum and the document's Crc compute: contracts.
-/
import Derived.Test.YtnfneaalkjnnfaaRows
import Derived.Test.YtnfneaalkjnnfaaPlain
import Derived.WalkKit
import Derived.ProofKit
import Derived.OpenShut
import Derived.Below
import Derived.RegionTactic
import Derived.ChangeAlike
import Derived.Laws.IdiomStrings
namespace Go.Proofs.Ytnfneaalkjnnfaa.Sums
open Go.ChangeShapes Go.WideShapes Go.ChangeAt Go.RowKit

theorem ret_int {a b : Int} (h : a = b) : Ending.returned (.int .i64 a) = .returned (.int .i64 b) := by rw [h]
theorem ret_bool {a b : Bool} (h : a = b) : Ending.returned (.bool a) = .returned (.bool b) := by rw [h]
theorem num (e : Int) (w : World) :
    Calls Try.prog 10 #[.int .i64 e] w fun r w' => r = .returned (.int .i64 e) ∧ w' = w := by
  go_enter Try.func10, Try.ntmps10
  go_wp2
  go_ret
  exact ⟨rfl, rfl⟩

/-- One bit's step, as the program works it out. -/
theorem bit_go (z : Nat) (hz : z < 4294967296) : bits .xor .u32 ((z : Int) / 2) (bits .and .u32 3988292384 (-bits .and .u32 (z : Int) 1 % 4294967296)) = ((Plain.bit z : Nat) : Int) := by
  have e1 : bits .and .u32 (z : Int) 1 = ((z % 2 : Nat) : Int) := by
    have := u32_and_nat z 1 hz (by decide)
    rw [Nat.and_one_is_mod] at this
    exact this
  rw [e1]
  unfold Plain.bit
  have e2 : ((z : Int) / 2) = ((z / 2 : Nat) : Int) := by omega
  rcases Nat.mod_two_eq_zero_or_one z with h | h
  · rw [h, e2]
    have e3 : bits .and .u32 3988292384 (-((0 : Nat) : Int) % 4294967296) = ((0 : Nat) : Int) := by decide +kernel
    rw [e3, u32_xor_nat _ _ (by omega) (by decide), Nat.xor_zero]
    rfl
  · rw [h, e2]
    have e3 : bits .and .u32 3988292384 (-((1 : Nat) : Int) % 4294967296) = ((3988292384 : Nat) : Int) := by decide +kernel
    rw [e3, u32_xor_nat _ _ (by omega) (by decide)]
    rfl

set_option maxHeartbeats 400000 in
theorem step (x : Nat) (hx : x < 4294967296) (w : World) :
    Calls Try.prog 11 #[.int .u32 (x : Int)] w fun r w' => r = .returned (.int .u32 ((Plain.bs 8 x : Nat) : Int)) ∧ w' = w := by
  go_enter Try.func11, Try.ntmps11
  go_wp2_with fail
  go_loop [0, 4] (fun t i => ∃ k : Nat, k ≤ 8 ∧ i = .int .i64 k ∧ t = .int .u32 ((Plain.bs k x : Nat) : Int)) (fun _ i => 8 - (intOf i).toNat)
  case atStart => exact ⟨0, by omega, rfl, rfl⟩
  case round =>
    obtain ⟨k, hk, rfl, rfl⟩ := hrel
    by_cases hlt : k < 8
    · have hz := Plain.bs_lt k hx
      have HV : Hid (Plain.bs (k + 1) x = Plain.bit (Plain.bs k x)) := rfl
      generalize Plain.bs k x = z at *
      go_wp2
      go_round
      case rel => exact ⟨k + 1, by omega, by go_num, by rw [HV.out, bit_go z hz]⟩
      case measure => simp [intOf]; omega
    · have hk8 : k = 8 := by omega
      subst hk8
      go_wp2
      go_ret
      exact ⟨rfl, rfl⟩
theorem at_s (s : ByteArray) (j : Nat) (h : j < s.size) : Plain.at8 s.data.toList j = s[j].toNat := by
  have h' : j < s.data.toList.length := by simpa using h
  unfold Plain.at8
  rw [List.getD_eq_getElem?_getD, List.getElem?_eq_getElem h']
  rfl

/-- All bits turned, as the program works it out. -/
theorem not_go (z : Nat) (hz : z < 4294967296) : wrap64 (bits .xor .u32 IntKind.u32.max (z : Int)) = ((4294967295 - z : Nat) : Int) := by
  have e : bits .xor .u32 IntKind.u32.max (z : Int) = ((4294967295 ^^^ z : Nat) : Int) := u32_xor_nat 4294967295 z (by decide) hz
  rw [e, ← Plain.not_eq hz]
  unfold wrap64
  omega

set_option maxHeartbeats 400000 in
theorem sum (s : ByteArray) (w : World) (hs : s.size ≤ 140737488355327) :
    Calls Try.prog 7 #[.string s] w fun r w' => r = .returned (.int .i64 ((Plain.crc s.data.toList : Nat) : Int)) ∧ w' = w := by
  have HL : Hid (s.data.toList.length = s.size) := by unfold Hid; simp
  go_enter Try.func7, Try.ntmps7
  go_wp2_with fail
  go_loop [3, 7] (fun t i => ∃ k : Nat, k ≤ s.size ∧ i = .int .i64 k ∧ t = .int .u32 ((Plain.st (Plain.at8 s.data.toList) 4294967295 k : Nat) : Int)) (fun _ i => s.size - (intOf i).toNat)
  case atStart => exact ⟨0, by omega, rfl, rfl⟩
  case round =>
    obtain ⟨k, hk, rfl, rfl⟩ := hrel
    have hz := Plain.st_lt (Plain.at8 s.data.toList) (Plain.at8_lt _) (x := 4294967295) (by decide) k
    by_cases hlt : k < s.size
    · have HV : Hid (Plain.st (Plain.at8 s.data.toList) 4294967295 (k + 1) = Plain.bs 8 (Plain.st (Plain.at8 s.data.toList) 4294967295 k ^^^ s[k].toNat)) := by
        unfold Hid; rw [← at_s s k hlt]; rfl
      have hb : s[k].toNat < 256 := s[k].toNat_lt
      generalize Plain.st (Plain.at8 s.data.toList) 4294967295 k = z at *
      have hxor : bits .xor .u32 (z : Int) (s[k].toNat : Int) = ((z ^^^ s[k].toNat : Nat) : Int) := u32_xor_nat z _ hz (by omega)
      go_wp2_with fail
      refine (step _ (Plain.xor_lt hz (by omega)) _).mono ?_
      rintro e w' ⟨rfl, rfl⟩
      go_wp2
      go_round
      case rel => exact ⟨k + 1, by omega, by go_num, by rw [HV.out]⟩
      case measure => simp [intOf]; omega
    · have HK : Hid (k = s.size) := by unfold Hid; omega
      have HC : Hid (Plain.crc s.data.toList = 4294967295 - Plain.st (Plain.at8 s.data.toList) 4294967295 k) := by
        unfold Hid Plain.crc; rw [HL.out, HK.out]
      generalize Plain.st (Plain.at8 s.data.toList) 4294967295 k = z at *
      go_wp2
      go_ret
      exact ⟨ret_int (by rw [HC.out, not_go z hz]), rfl⟩

/-- One bit's step, as the document has it. -/
theorem odd_go (z : Nat) (hz : z < 4294967296) (h : z % 2 = 1) : bits .and .u32 (z : Int) 1 = 1 ∧ bits .xor .u32 ((z : Int) / 2) 3988292384 = ((Plain.bit z : Nat) : Int) := by
  have e1 : bits .and .u32 (z : Int) 1 = ((z % 2 : Nat) : Int) := by
    have := u32_and_nat z 1 hz (by decide)
    rw [Nat.and_one_is_mod] at this
    exact this
  refine ⟨by rw [e1, h]; rfl, ?_⟩
  rw [show ((z : Int) / 2) = ((z / 2 : Nat) : Int) from by omega, show (3988292384 : Int) = ((3988292384 : Nat) : Int) from rfl, u32_xor_nat _ _ (by omega) (by decide)]
  unfold Plain.bit
  rw [if_pos h]
theorem even_go (z : Nat) (hz : z < 4294967296) (h : ¬ z % 2 = 1) : bits .and .u32 (z : Int) 1 = 0 ∧ (z : Int) / 2 = ((Plain.bit z : Nat) : Int) := by
  have e1 : bits .and .u32 (z : Int) 1 = ((z % 2 : Nat) : Int) := by
    have := u32_and_nat z 1 hz (by decide)
    rw [Nat.and_one_is_mod] at this
    exact this
  refine ⟨by rw [e1]; omega, ?_⟩
  unfold Plain.bit
  rw [if_neg h]
  omega

set_option maxHeartbeats 400000 in
theorem refCrc (s : ByteArray) (w : World) (hs : s.size ≤ 140737488355327) :
    Calls Try.prog 8 #[.string s] w fun r w' => r = .returned (.int .i64 ((Plain.crc s.data.toList : Nat) : Int)) ∧ w' = w := by
  have HL : Hid (s.data.toList.length = s.size) := by unfold Hid; simp
  go_enter Try.func8, Try.ntmps8
  go_wp2_with fail
  go_loop [3, 4] (fun t i => ∃ k : Nat, k ≤ s.size ∧ i = .int .i64 k ∧ t = .int .u32 ((Plain.st (Plain.at8 s.data.toList) 4294967295 k : Nat) : Int)) (fun _ i => s.size - (intOf i).toNat)
  case atStart => exact ⟨0, by omega, rfl, rfl⟩
  case round =>
    obtain ⟨k, hk, rfl, rfl⟩ := hrel
    have hz := Plain.st_lt (Plain.at8 s.data.toList) (Plain.at8_lt _) (x := 4294967295) (by decide) k
    by_cases hlt : k < s.size
    · have HV : Hid (Plain.st (Plain.at8 s.data.toList) 4294967295 (k + 1) = Plain.bs 8 (Plain.st (Plain.at8 s.data.toList) 4294967295 k ^^^ s[k].toNat)) := by
        unfold Hid; rw [← at_s s k hlt]; rfl
      have hb : s[k].toNat < 256 := s[k].toNat_lt
      generalize Plain.st (Plain.at8 s.data.toList) 4294967295 k = z at *
      have hxor : bits .xor .u32 (z : Int) (s[k].toNat : Int) = ((z ^^^ s[k].toNat : Nat) : Int) := u32_xor_nat z _ hz (by omega)
      have hx := Plain.xor_lt hz (show s[k].toNat < 4294967296 by omega)
      go_wp2_with fail
      go_loop [3, 5] (fun t i => ∃ j : Nat, j ≤ 8 ∧ i = .int .i64 j ∧ t = .int .u32 ((Plain.bs j (z ^^^ s[k].toNat) : Nat) : Int)) (fun _ i => 8 - (intOf i).toNat)
      case atStart => exact ⟨0, by omega, rfl, rfl⟩
      case round =>
        obtain ⟨j, hj, rfl, rfl⟩ := hrel
        by_cases hj8 : j < 8
        · have hy := Plain.bs_lt j hx
          have HB : Hid (Plain.bs (j + 1) (z ^^^ s[k].toNat) = Plain.bit (Plain.bs j (z ^^^ s[k].toNat))) := rfl
          generalize Plain.bs j (z ^^^ s[k].toNat) = y at *
          by_cases hodd : y % 2 = 1
          · have ⟨ho, HO⟩ := odd_go y hy hodd
            have HO' : Hid (bits .xor .u32 ((y : Int) / 2) 3988292384 = ((Plain.bit y : Nat) : Int)) := HO
            clear HO hodd
            go_wp2
            go_round
            case rel => exact ⟨j + 1, by omega, by go_num, by rw [HB.out, HO'.out]⟩
            case measure => simp [intOf]; omega
          · have ⟨ho, HO⟩ := even_go y hy hodd
            have HO' : Hid ((y : Int) / 2 = ((Plain.bit y : Nat) : Int)) := HO
            clear HO hodd
            go_wp2
            go_round
            case rel => exact ⟨j + 1, by omega, by go_num, by rw [HB.out, HO'.out]⟩
            case measure => simp [intOf]; omega
        · have hj8 : j = 8 := by omega
          subst hj8
          go_wp2
          go_round
          case rel => exact ⟨k + 1, by omega, by go_num, by rw [HV.out]⟩
          case measure => simp [intOf]; omega
    · have HK : Hid (k = s.size) := by unfold Hid; omega
      have HC : Hid (Plain.crc s.data.toList = 4294967295 - Plain.st (Plain.at8 s.data.toList) 4294967295 k) := by
        unfold Hid Plain.crc; rw [HL.out, HK.out]
      generalize Plain.st (Plain.at8 s.data.toList) 4294967295 k = z at *
      go_wp2
      go_ret
      exact ⟨ret_int (by rw [HC.out, not_go z hz]), rfl⟩

set_option maxHeartbeats 400000 in
theorem awake (w : World) : Calls Try.prog 9 #[] w fun r w' => r = .returned (.bool true) ∧ w' = w := by
  have h1 : Plain.crc (ByteArray.mk #[49, 50, 51, 52, 53, 54, 55, 56, 57]).data.toList = 3421780262 := by decide +kernel
  have h2 : Plain.crc (ByteArray.mk #[]).data.toList = 0 := by decide +kernel
  have H1 : Hid (Plain.crc (ByteArray.mk #[49, 50, 51, 52, 53, 54, 55, 56, 57]).data.toList = 3421780262) := h1
  have H2 : Hid (Plain.crc (ByteArray.mk #[]).data.toList = 0) := h2
  clear h1 h2
  go_enter Try.func9, Try.ntmps9
  go_wp2_with fail
  refine (num _ _).mono ?_
  rintro e v1 ⟨rfl, rfl⟩
  go_wp2_with fail
  refine (sum _ _ (by decide)).mono ?_
  rintro e v1 ⟨rfl, rfl⟩
  rw [H1.out]
  go_wp2_with fail
  refine (sum _ _ (by decide)).mono ?_
  rintro e v1 ⟨rfl, rfl⟩
  rw [H2.out]
  go_wp2
  go_ret
  exact ⟨rfl, rfl⟩
theorem known0 (w : World) : Calls Try.prog 7 #[.string ⟨#[97]⟩] w fun r w' => r = .returned (.int .i64 3904355907) ∧ w' = w := by
  have h : Plain.crc (ByteArray.mk #[97]).data.toList = 3904355907 := by decide +kernel
  have := sum ⟨#[97]⟩ w (by decide)
  rw [h] at this
  exact this
theorem known1 (w : World) : Calls Try.prog 7 #[.string ⟨#[97, 98, 99]⟩] w fun r w' => r = .returned (.int .i64 891568578) ∧ w' = w := by
  have h : Plain.crc (ByteArray.mk #[97, 98, 99]).data.toList = 891568578 := by decide +kernel
  have := sum ⟨#[97, 98, 99]⟩ w (by decide)
  rw [h] at this
  exact this
theorem known2 (w : World) : Calls Try.prog 7 #[.string ⟨#[0, 0, 0, 0]⟩] w fun r w' => r = .returned (.int .i64 558161692) ∧ w' = w := by
  have h : Plain.crc (ByteArray.mk #[0, 0, 0, 0]).data.toList = 558161692 := by decide +kernel
  have := sum ⟨#[0, 0, 0, 0]⟩ w (by decide)
  rw [h] at this
  exact this
theorem known3 (w : World) : Calls Try.prog 7 #[.string ⟨#[255, 255, 255, 255]⟩] w fun r w' => r = .returned (.int .i64 4294967295) ∧ w' = w := by
  have h : Plain.crc (ByteArray.mk #[255, 255, 255, 255]).data.toList = 4294967295 := by decide +kernel
  have := sum ⟨#[255, 255, 255, 255]⟩ w (by decide)
  rw [h] at this
  exact this
theorem known4 (w : World) : Calls Try.prog 7 #[.string ⟨#[84, 104, 101, 32, 113, 117, 105, 99, 107, 32, 98, 114, 111, 119, 110, 32, 102, 111, 120, 32, 106, 117, 109, 112, 115, 32, 111, 118, 101, 114, 32, 116, 104, 101, 32, 108, 97, 122, 121, 32, 100, 111, 103]⟩] w fun r w' => r = .returned (.int .i64 1095738169) ∧ w' = w := by
  have h : Plain.crc (ByteArray.mk #[84, 104, 101, 32, 113, 117, 105, 99, 107, 32, 98, 114, 111, 119, 110, 32, 102, 111, 120, 32, 106, 117, 109, 112, 115, 32, 111, 118, 101, 114, 32, 116, 104, 101, 32, 108, 97, 122, 121, 32, 100, 111, 103]).data.toList = 1095738169 := by decide +kernel
  have := sum ⟨#[84, 104, 101, 32, 113, 117, 105, 99, 107, 32, 98, 114, 111, 119, 110, 32, 102, 111, 120, 32, 106, 117, 109, 112, 115, 32, 111, 118, 101, 114, 32, 116, 104, 101, 32, 108, 97, 122, 121, 32, 100, 111, 103]⟩ w (by decide)
  rw [h] at this
  exact this
end Go.Proofs.Ytnfneaalkjnnfaa.Sums
