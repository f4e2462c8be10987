/-
  What the documents own answers for bits compute, but for the copy: contracts.
-/
import Derived.Test.YtondhjfpfloejaaRows
import Derived.Test.YtondhjfpfloejaaPlain
import Derived.Test.YtondhjfpfloejaaBit
import Derived.Test.YtondhjfpfloejaaTurn
import Derived.Test.YtondhjfpfloejaaCopy
import Derived.WalkKit
import Derived.ProofKit
import Derived.OpenShut
import Derived.Below
import Derived.RegionTactic
import Derived.ChangeAlike
import Derived.Laws.IdiomStrings
namespace Go.Proofs.Ytondhjfpfloejaa.Bit
open Go.ChangeShapes Go.WideShapes Go.ChangeAt Go.RowKit

set_option maxHeartbeats 400000 in
theorem refBit (s : ByteArray) (x : Int) (hs : s.size ≤ 140737488351232) (h0 : 0 ≤ x) (h : x < 8 * (s.size : Int)) (w : World) :
    Calls Try.prog 21 #[.string s, .int .i64 x] w fun r w' => r = .returned (.bool (Plain.bit s.data.toList x.toNat)) ∧ w' = w := by
  obtain ⟨n, rfl⟩ := Int.eq_ofNat_of_zero_le h0
  rw [Int.toNat_natCast]
  have h : n / 8 < s.size := by omega
  have hm : (n : Int) % 8 = ((n % 8 : Nat) : Int) := by omega
  have hr : n % 8 < 8 := Nat.mod_lt _ (by decide)
  have hb : s[n / 8].toNat < 256 := Plain.byte_lt _
  have HE : Hid (Plain.bit s.data.toList n = s[n / 8].toNat.testBit (n % 8)) := by unfold Plain.bit; rw [getD_at s _ h]; rfl
  generalize n % 8 = r at *
  go_enter Try.func21, Try.ntmps21
  go_wp2
  go_ret
  exact ⟨ret_bool (by rw [HE.out]; exact Plain.and1 _ _ hb hr), rfl⟩

set_option maxHeartbeats 400000 in
theorem rangeMay (s : ByteArray) (a c : Int) (w : World) (hs : s.size ≤ 140737488351232) :
    Calls Try.prog 25 #[.string s, .int .i64 a, .int .i64 c] w fun r w' => r = .returned (.bool (hasB s.size a c)) ∧ w' = w := by
  by_cases h0 : 0 ≤ a
  · by_cases h1 : 0 ≤ c
    · by_cases h2 : a ≤ 8 * (s.size : Int)
      · by_cases h3 : c ≤ 8 * (s.size : Int) - a
        · rw [hasB_yes h0 h1 (by omega)]
          go_enter Try.func25, Try.ntmps25
          go_wp2
          go_ret
          exact ⟨rfl, rfl⟩
        · rw [hasB_no (by omega)]
          go_enter Try.func25, Try.ntmps25
          go_wp2
          go_ret
          exact ⟨ret_bool (by simp), rfl⟩
      · rw [hasB_no (by omega)]
        go_enter Try.func25, Try.ntmps25
        go_wp2
        go_ret
        exact ⟨rfl, rfl⟩
    · rw [hasB_no (by omega)]
      go_enter Try.func25, Try.ntmps25
      go_wp2
      go_ret
      exact ⟨rfl, rfl⟩
  · rw [hasB_no (by omega)]
    go_enter Try.func25, Try.ntmps25
    go_wp2
    go_ret
    exact ⟨rfl, rfl⟩
set_option maxHeartbeats 400000 in
theorem refGet_yes (s : ByteArray) (a : Int) (w : World) (hs : s.size ≤ 140737488351232) (h0 : 0 ≤ a) (h1 : a < 8 * (s.size : Int)) :
    Calls Try.prog 10 #[.string s, .int .i64 a] w fun r w' => r = .returned (.tuple #[.bool (Plain.bit s.data.toList a.toNat), .int .i64 0]) ∧ w' = w := by
  go_enter Try.func10, Try.ntmps10
  go_wp2_with fail
  refine (refBit _ _ hs h0 h1 _).mono ?_
  rintro e w' ⟨rfl, rfl⟩
  go_wp2
  go_ret2
  exact ⟨rfl, rfl⟩
set_option maxHeartbeats 400000 in
theorem refGet_no (s : ByteArray) (a : Int) (w : World) (hs : s.size ≤ 140737488351232) (h : a < 0 ∨ 8 * (s.size : Int) ≤ a) :
    Calls Try.prog 10 #[.string s, .int .i64 a] w fun r w' => r = .returned (.tuple #[.bool false, .int .i64 200]) ∧ w' = w := by
  by_cases h0 : a < 0
  · go_enter Try.func10, Try.ntmps10
    go_wp2
    go_ret2
    exact ⟨rfl, rfl⟩
  · have h1 : 8 * (s.size : Int) ≤ a := by omega
    clear h
    go_enter Try.func10, Try.ntmps10
    go_wp2
    go_ret2
    exact ⟨rfl, rfl⟩
set_option maxHeartbeats 400000 in
theorem refSet_no (s : ByteArray) (a : Int) (on : Bool) (w : World) (hs : s.size ≤ 140737488351232) (h : a < 0 ∨ 8 * (s.size : Int) ≤ a) :
    Calls Try.prog 12 #[.string s, .int .i64 a, .bool on] w fun r w' => r = .returned (.tuple #[.string ⟨#[]⟩, .int .i64 200]) ∧ w' = w := by
  by_cases h0 : a < 0
  · go_enter Try.func12, Try.ntmps12
    go_wp2
    go_ret2
    exact ⟨rfl, rfl⟩
  · have h1 : 8 * (s.size : Int) ≤ a := by omega
    clear h
    go_enter Try.func12, Try.ntmps12
    go_wp2
    go_ret2
    exact ⟨rfl, rfl⟩
set_option maxHeartbeats 400000 in
theorem refCount_no (s : ByteArray) (a c : Int) (w : World) (hs : s.size ≤ 140737488351232) (h : ¬ (0 ≤ a ∧ 0 ≤ c ∧ a + c ≤ 8 * (s.size : Int))) :
    Calls Try.prog 14 #[.string s, .int .i64 a, .int .i64 c] w fun r w' => r = .returned (.tuple #[.int .i64 0, .int .i64 200]) ∧ w' = w := by
  have hh : hasB s.size a c = false := hasB_no h
  clear h
  go_enter Try.func14, Try.ntmps14
  go_wp2_with fail
  refine (rangeMay _ _ _ _ hs).mono ?_
  rintro e w' ⟨rfl, rfl⟩
  rw [hh]
  go_wp2
  go_ret2
  exact ⟨rfl, rfl⟩
set_option maxHeartbeats 400000 in
theorem refCopy_no (s : ByteArray) (a c : Int) (w : World) (hs : s.size ≤ 140737488351232) (h : ¬ (0 ≤ a ∧ 0 ≤ c ∧ a + c ≤ 8 * (s.size : Int))) :
    Calls Try.prog 16 #[.string s, .int .i64 a, .int .i64 c] w fun r w' => r = .returned (.tuple #[.string ⟨#[]⟩, .int .i64 200]) ∧ w' = w := by
  have hh : hasB s.size a c = false := hasB_no h
  clear h
  go_enter Try.func16, Try.ntmps16
  go_wp2_with fail
  refine (rangeMay _ _ _ _ hs).mono ?_
  rintro e w' ⟨rfl, rfl⟩
  rw [hh]
  go_wp2
  go_ret2
  exact ⟨rfl, rfl⟩
theorem ret2_int {a b : Int} {y : Value} (h : a = b) : Ending.returned (.tuple #[.int .i64 a, y]) = .returned (.tuple #[.int .i64 b, y]) := by rw [h]
set_option maxHeartbeats 400000 in
theorem refCount_yes (s : ByteArray) (a c : Int) (w : World) (hs : s.size ≤ 140737488351232) (h0 : 0 ≤ a) (h1 : 0 ≤ c) (h2 : a + c ≤ 8 * (s.size : Int)) :
    Calls Try.prog 14 #[.string s, .int .i64 a, .int .i64 c] w fun r w' => r = .returned (.tuple #[.int .i64 ((Plain.cnt s.data.toList a.toNat c.toNat : Nat) : Int), .int .i64 0]) ∧ w' = w := by
  have hh : hasB s.size a c = true := hasB_yes h0 h1 h2
  go_enter Try.func14, Try.ntmps14
  go_wp2_with fail
  refine (rangeMay _ _ _ _ hs).mono ?_
  rintro e w' ⟨rfl, rfl⟩
  rw [hh]
  go_wp2_with fail
  go_loop [8, 9] (fun t i => ∃ k : Nat, (k : Int) ≤ c ∧ i = .int .i64 (a + k) ∧ t = .int .i64 ((Plain.cnt s.data.toList a.toNat k : Nat) : Int)) (fun _ i => (a + c).toNat - (intOf i).toNat)
  case atStart => exact ⟨0, h1, by go_num, rfl⟩
  case round =>
    obtain ⟨k, hk, rfl, rfl⟩ := hrel
    have hle := Plain.cnt_le s.data.toList a.toNat k
    by_cases hlt : a + (k : Int) < a + c
    · have HS : Hid (Plain.cnt s.data.toList a.toNat (k + 1) = Plain.cnt s.data.toList a.toNat k + if Plain.bit s.data.toList (a.toNat + k) then 1 else 0) := rfl
      generalize Plain.cnt s.data.toList a.toNat k = z at *
      go_wp2_with fail
      refine (refBit _ _ hs (by omega) (by omega) _).mono ?_
      rintro e w' ⟨rfl, rfl⟩
      rw [show (a + (k : Int)).toNat = a.toNat + k from by omega]
      cases hb : Plain.bit s.data.toList (a.toNat + k)
      · rw [hb] at HS
        clear hb
        go_wp2
        go_round
        case rel => exact ⟨k + 1, by omega, by go_num, by rw [HS.out]; rfl⟩
        case measure => simp [intOf]; omega
      · rw [hb] at HS
        clear hb
        go_wp2
        go_round
        case rel => exact ⟨k + 1, by omega, by go_num, by rw [HS.out]; rfl⟩
        case measure => simp [intOf]; omega
    · have HC : Hid (c.toNat = k) := by unfold Hid; omega
      go_wp2
      go_ret2
      exact ⟨ret2_int (by rw [HC.out]), rfl⟩

theorem setB_twice (l : List UInt8) (i : Nat) (h : i / 8 < l.length) : Plain.setB (Plain.setB l i false) i true = Plain.setB l i true := by
  apply Plain.ext
  · simp [Plain.length_setB]
  · intro j _
    rw [Plain.bit_setB _ _ _ _ (by rw [Plain.length_setB]; exact h), Plain.bit_setB _ _ _ _ h, Plain.bit_setB _ _ _ _ h]
    split <;> rfl

theorem conv (w : World) (s : ByteArray) : ∃ w1 cp, (convert 9 46 (.string s)).run Try.prog w = .ok (.slice (some ⟨w.heap.size, 0, none⟩) s.size cp) w1 ∧ Bytes w1 w.heap.size s.data.toList ∧ Below w.heap.size w w1 :=
  ⟨_, _, run_bytes_of_string (P := Try.prog) w 9 46 5 s Try.underlying9 Try.underlying46 Try.underlying5, Bytes.fresh w s (grownCap w s.size 0 5), ((Below.refl _ _).alloc (Nat.le_refl _) _).drew⟩

set_option maxHeartbeats 400000 in
theorem refSet_yes (s : ByteArray) (a : Int) (on : Bool) (w : World) (hs : s.size ≤ 140737488351232) (h0 : 0 ≤ a) (h1 : a < 8 * (s.size : Int)) :
    Calls Try.prog 12 #[.string s, .int .i64 a, .bool on] w fun r w' => r = .returned (.tuple #[.string ⟨(Plain.setB s.data.toList a.toNat on).toArray⟩, .int .i64 0]) ∧ Below w.heap.size w w' := by
  obtain ⟨w1, cp, hcv, hby, hbl⟩ := conv w s
  obtain ⟨n, rfl⟩ := Int.eq_ofNat_of_zero_le h0
  rw [Int.toNat_natCast]
  have hlt : n / 8 < s.size := by omega
  have hm : (n : Int) % 8 = ((n % 8 : Nat) : Int) := by omega
  have hr : n % 8 < 8 := Nat.mod_lt _ (by decide)
  have HSL : Hid (s.size = s.data.toList.length) := by unfold Hid; simp
  have hlt' : n / 8 < s.data.toList.length := by rw [← HSL.out]; exact hlt
  have hc := hby.cell (n / 8) hlt'
  have hf := hby.free (n / 8) hlt'
  have hb1 : Bytes (w1.setCell ⟨w.heap.size, n / 8, none⟩ (.int .u8 ((Plain.turn (s.data.toList.getD (n / 8) 0).toNat (n % 8) false : Nat) : Int))) w.heap.size (Plain.setB s.data.toList n false) := by
    have := hby.set (n / 8) hlt' (UInt8.ofNat (Plain.turn (s.data.toList.getD (n / 8) 0).toNat (n % 8) false))
    rw [Plain.setB_byte] at this
    exact this
  have hc1 := hb1.cell (n / 8) (by rw [Plain.length_setB]; exact hlt')
  have hf1 := hb1.free (n / 8) (by rw [Plain.length_setB]; exact hlt')
  have hb2 : Bytes ((w1.setCell ⟨w.heap.size, n / 8, none⟩ (.int .u8 ((Plain.turn (s.data.toList.getD (n / 8) 0).toNat (n % 8) false : Nat) : Int))).setCell ⟨w.heap.size, n / 8, none⟩ (.int .u8 ((Plain.turn ((Plain.setB s.data.toList n false).getD (n / 8) 0).toNat (n % 8) true : Nat) : Int))) w.heap.size (Plain.setB s.data.toList n true) := by
    have := hb1.set (n / 8) (by rw [Plain.length_setB]; exact hlt') (UInt8.ofNat (Plain.turn ((Plain.setB s.data.toList n false).getD (n / 8) 0).toNat (n % 8) true))
    rw [Plain.setB_byte] at this
    have e := setB_twice s.data.toList n hlt'
    rw [← e]
    exact this
  have hx : (s.data.toList.getD (n / 8) 0).toNat < 256 := Plain.byte_lt _
  have hy : ((Plain.setB s.data.toList n false).getD (n / 8) 0).toNat < 256 := Plain.byte_lt _
  generalize ((Plain.setB s.data.toList n false).getD (n / 8) 0).toNat = y at *
  generalize (s.data.toList.getD (n / 8) 0).toNat = x at *
  generalize n % 8 = r at *
  have ht1 : bits BinOp.andNot IntKind.u8 (↑x) (2 ^ r % 256) = _ := Plain.andNot_byte x r hx hr
  have ht2 : bits BinOp.or IntKind.u8 (↑y) (2 ^ r % 256) = _ := Plain.or_byte y r hy hr
  cases on
  · have hbk := hb1.back (L := s.size) (c := cp) (by rw [Plain.length_setB]; exact HSL.out)
    clear hb2 hc1 hf1 ht2 hy hby hb1 hlt'
    go_enter Try.func12, Try.ntmps12
    go_wp2
    go_ret2
    exact ⟨rfl, hbl.setCell (Nat.le_refl _) _⟩
  · have hbk := hb2.back (L := s.size) (c := cp) (by rw [Plain.length_setB]; exact HSL.out)
    clear hb2 hby hb1 hlt'
    go_enter Try.func12, Try.ntmps12
    go_wp2
    go_ret2
    exact ⟨rfl, (hbl.setCell (Nat.le_refl _) _).setCell (Nat.le_refl _) _⟩
end Go.Proofs.Ytondhjfpfloejaa.Bit
