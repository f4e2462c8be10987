/-
  What the document's own answers for numbers in four or eight bytes compute: contracts.
-/
import Derived.Test.YtlbchabmjegobaaRows
import Derived.Test.YtlbchabmjegobaaPlain
import Derived.Test.YtlbchabmjegobaaFixed
import Derived.Test.YtlbchabmjegobaaVar
import Derived.WalkKit
import Derived.ProofKit
import Derived.OpenShut
import Derived.Below
import Derived.RegionTactic
import Derived.ChangeAlike
import Derived.OwnWalk
import Derived.Laws.IdiomStrings
namespace Go.Proofs.Ytlbchabmjegobaa.Fix
open Go.ChangeShapes Go.WideShapes Go.ChangeAt Go.RowKit

theorem ret_str {a b : List UInt8} (h : a = b) : Ending.returned (.string ⟨a.toArray⟩) = .returned (.string ⟨b.toArray⟩) := by rw [h]
set_option maxHeartbeats 400000 in
theorem refLow4 (x : Int) (X : Nat) (hX : IntKind.u64.wrap x = (X : Int)) (w : World) :
    Calls Try.prog 21 #[.int .i64 x, .int .i64 4] w fun r w' => r = .returned (.string ⟨(Plain.low X 4).toArray⟩) ∧ Below w.heap.size w w' := by
  have HX : Hid (IntKind.u64.wrap x = (X : Int)) := hX
  clear hX
  obtain ⟨w1, hmk, hb1, hbl1⟩ := make_bytes 4 (by decide) w
  rw [← Plain.lowTo_zero X] at hb1
  have hmk' : (Instr.makeSlice 47 (.int .i64 4) (.int .i64 4)).run Try.prog w = .ok (.slice (some ⟨w.heap.size, 0, none⟩) 4 4) w1 := hmk
  clear hmk
  go_enter Try.func21, Try.ntmps21
  go_wp2_with fail
  go_loopw [6] (fun i wr => ∃ k : Nat, k ≤ 4 ∧ i = .int .i64 k ∧ Bytes wr w.heap.size (Plain.lowTo X 4 k) ∧ Below w.heap.size w wr) (fun i _ => 4 - (intOf i).toNat)
  case atStart => exact ⟨0, by omega, rfl, hb1, hbl1⟩
  case round =>
    obtain ⟨k, hk, rfl, hb, hbl⟩ := hrel
    have HB : Hid (Bytes wr w.heap.size (Plain.lowTo X 4 k)) := hb
    clear hb hb1 hbl1 hmk'
    by_cases hlt : k < 4
    · have hc := HB.out.cell k (by rw [Plain.length_lowTo]; exact hlt)
      have hf := HB.out.free k (by rw [Plain.length_lowTo]; exact hlt)
      have HB2 : Hid (Bytes (wr.setCell ⟨w.heap.size, k, none⟩ (.int .u8 (x / 2 ^ (8 * k) % 256 : Int))) w.heap.size (Plain.lowTo X 4 (k + 1))) := by
        have := HB.out.set k (by rw [Plain.length_lowTo]; exact hlt) (UInt8.ofNat (X / 256 ^ k))
        rw [← Plain.lowTo_succ] at this
        have e : (((UInt8.ofNat (X / 256 ^ k)).toNat : Nat) : Int) = ((X / 256 ^ k : Nat) % 256 : Int) := by simp
        rw [e, ← Plain.shr_byte x X k HX.out (by omega)] at this
        exact this
      generalize ((Plain.lowTo X 4 k).getD k 0).toNat = y at *
      go_wp2
      go_roundw
      case rel => exact ⟨k + 1, by omega, by go_num, HB2.out, hbl.setCell (Nat.le_refl _) _⟩
      case measure => simp [intOf]; omega
    · have hk4 : k = 4 := by omega
      subst hk4
      have hbk := HB.out.back (L := 4) (c := 4) (Plain.length_lowTo _ _ _).symm
      go_wp2
      go_ret
      exact ⟨ret_str (Plain.lowTo_all _ _), hbl⟩
set_option maxHeartbeats 400000 in
theorem refLow8 (x : Int) (X : Nat) (hX : IntKind.u64.wrap x = (X : Int)) (w : World) :
    Calls Try.prog 21 #[.int .i64 x, .int .i64 8] w fun r w' => r = .returned (.string ⟨(Plain.low X 8).toArray⟩) ∧ Below w.heap.size w w' := by
  have HX : Hid (IntKind.u64.wrap x = (X : Int)) := hX
  clear hX
  obtain ⟨w1, hmk, hb1, hbl1⟩ := make_bytes 8 (by decide) w
  rw [← Plain.lowTo_zero X] at hb1
  have hmk' : (Instr.makeSlice 47 (.int .i64 8) (.int .i64 8)).run Try.prog w = .ok (.slice (some ⟨w.heap.size, 0, none⟩) 8 8) w1 := hmk
  clear hmk
  go_enter Try.func21, Try.ntmps21
  go_wp2_with fail
  go_loopw [6] (fun i wr => ∃ k : Nat, k ≤ 8 ∧ i = .int .i64 k ∧ Bytes wr w.heap.size (Plain.lowTo X 8 k) ∧ Below w.heap.size w wr) (fun i _ => 8 - (intOf i).toNat)
  case atStart => exact ⟨0, by omega, rfl, hb1, hbl1⟩
  case round =>
    obtain ⟨k, hk, rfl, hb, hbl⟩ := hrel
    have HB : Hid (Bytes wr w.heap.size (Plain.lowTo X 8 k)) := hb
    clear hb hb1 hbl1 hmk'
    by_cases hlt : k < 8
    · have hc := HB.out.cell k (by rw [Plain.length_lowTo]; exact hlt)
      have hf := HB.out.free k (by rw [Plain.length_lowTo]; exact hlt)
      have HB2 : Hid (Bytes (wr.setCell ⟨w.heap.size, k, none⟩ (.int .u8 (x / 2 ^ (8 * k) % 256 : Int))) w.heap.size (Plain.lowTo X 8 (k + 1))) := by
        have := HB.out.set k (by rw [Plain.length_lowTo]; exact hlt) (UInt8.ofNat (X / 256 ^ k))
        rw [← Plain.lowTo_succ] at this
        have e : (((UInt8.ofNat (X / 256 ^ k)).toNat : Nat) : Int) = ((X / 256 ^ k : Nat) % 256 : Int) := by simp
        rw [e, ← Plain.shr_byte x X k HX.out (by omega)] at this
        exact this
      generalize ((Plain.lowTo X 8 k).getD k 0).toNat = y at *
      go_wp2
      go_roundw
      case rel => exact ⟨k + 1, by omega, by go_num, HB2.out, hbl.setCell (Nat.le_refl _) _⟩
      case measure => simp [intOf]; omega
    · have hk8 : k = 8 := by omega
      subst hk8
      have hbk := HB.out.back (L := 8) (c := 8) (Plain.length_lowTo _ _ _).symm
      go_wp2
      go_ret
      exact ⟨ret_str (Plain.lowTo_all _ _), hbl⟩

set_option maxHeartbeats 400000 in
theorem refNum (s : ByteArray) (w : World) (hs : s.size ≤ 8) :
    Calls Try.prog 23 #[.string s] w fun r w' => r = .returned (.int .i64 (wrap64 ((Plain.val s.data.toList 0 s.size : Nat) : Int))) ∧ w' = w := by
  go_enter Try.func23, Try.ntmps23
  go_wp2_with fail
  go_loop [3, 4] (fun t i => ∃ k : Nat, k ≤ s.size ∧ i = .int .i64 ((k : Int) - 1) ∧ t = .int .u64 ((Plain.val s.data.toList k (s.size - k) : Nat) : Int)) (fun _ i => (intOf i + 1).toNat)
  case atStart => exact ⟨s.size, by omega, rfl, by simp [Plain.val]⟩
  case round =>
    obtain ⟨k, hk, rfl, rfl⟩ := hrel
    by_cases hlt : 0 < k
    · obtain ⟨j, rfl⟩ : ∃ j, k = j + 1 := ⟨k - 1, by omega⟩
      have hx := Plain.val_lt s.data.toList (j + 1) (s.size - (j + 1))
      have HV : Hid (Plain.val s.data.toList j (s.size - j) = s[j].toNat + 256 * Plain.val s.data.toList (j + 1) (s.size - (j + 1))) := by
        unfold Hid
        rw [show s.size - j = (s.size - (j + 1)) + 1 from by omega, Plain.val_cons, getD_at s j (by omega)]
      have hb := Plain.byte_lt s[j]
      have h7 : Plain.val s.data.toList (j + 1) (s.size - (j + 1)) < 72057594037927936 := Nat.lt_of_lt_of_le hx (Nat.le_trans (Nat.pow_le_pow_right (by decide) (show s.size - (j + 1) ≤ 7 by omega)) (by decide))
      clear hx
      generalize Plain.val s.data.toList (j + 1) (s.size - (j + 1)) = z at *
      have e1 : ((j + 1 : Nat) : Int) - 1 = (j : Int) := by omega
      rw [e1]
      clear e1
      have HO : Hid (bits .or .u64 ((z : Int) * 256) (s[j].toNat : Int) = ((s[j].toNat + 256 * z : Nat) : Int)) := by
        have := Plain.or_up z s[j].toNat 8 hb (by omega)
        rw [show ((z * 2 ^ 8 : Nat) : Int) = (z : Int) * 256 from by simp] at this
        unfold Hid
        rw [this]
        omega
      go_wp2
      go_round
      case rel => exact ⟨j, by omega, rfl, by rw [HV.out, HO.out]⟩
      case measure => simp [intOf]
    · have hk0 : k = 0 := by omega
      subst hk0
      go_wp2
      go_ret
      exact ⟨rfl, rfl⟩

theorem refPut8 (x : Int) (X : Nat) (hX : IntKind.u64.wrap x = (X : Int)) (w : World) :
    Calls Try.prog 9 #[.int .i64 x, .int .i64 8] w fun r w' => r = .returned (.tuple #[.string ⟨(Plain.low X 8).toArray⟩, .int .i64 0]) ∧ Below w.heap.size w w' := by
  have HX : Hid (IntKind.u64.wrap x = (X : Int)) := hX
  clear hX
  go_enter Try.func9, Try.ntmps9
  go_wp2_with fail
  refine (refLow8 _ _ HX.out _).mono ?_
  rintro e w' ⟨rfl, b1⟩
  go_wp2
  go_ret2
  exact ⟨rfl, b1⟩
theorem refPut4 (x : Int) (X : Nat) (hX : IntKind.u64.wrap x = (X : Int)) (w : World) (h0 : 0 ≤ x) (h3 : x ≤ 2147483647) :
    Calls Try.prog 9 #[.int .i64 x, .int .i64 4] w fun r w' => r = .returned (.tuple #[.string ⟨(Plain.low X 4).toArray⟩, .int .i64 0]) ∧ Below w.heap.size w w' := by
  have HX : Hid (IntKind.u64.wrap x = (X : Int)) := hX
  have h2 : shortB x = true := decide_eq_true ⟨h0, h3⟩
  clear hX
  go_enter Try.func9, Try.ntmps9
  go_wp2_with fail
  refine (refIn _ _).mono ?_
  rintro e w' ⟨rfl, rfl⟩
  rw [h2]
  go_wp2_with fail
  refine (refLow4 _ _ HX.out _).mono ?_
  rintro e w' ⟨rfl, b1⟩
  go_wp2
  go_ret2
  exact ⟨rfl, b1⟩
set_option maxHeartbeats 400000 in
theorem refPut_no (x n : Int) (w : World) (h : ¬ (n = 4 ∧ 0 ≤ x ∧ x ≤ 2147483647 ∨ n = 8)) :
    Calls Try.prog 9 #[.int .i64 x, .int .i64 n] w fun r w' => r = .returned (.tuple #[.string ⟨#[]⟩, .int .i64 300]) ∧ w' = w := by
  by_cases h4 : n = 4
  · subst h4
    have h2 : shortB x = false := decide_eq_false (by omega)
    clear h
    go_enter Try.func9, Try.ntmps9
    go_wp2_with fail
    refine (refIn _ _).mono ?_
    rintro e w' ⟨rfl, rfl⟩
    rw [h2]
    go_wp2
    go_ret2
    exact ⟨rfl, rfl⟩
  · have h8 : ¬ n = 8 := by omega
    clear h
    go_enter Try.func9, Try.ntmps9
    go_wp2
    go_ret2
    exact ⟨rfl, rfl⟩

theorem getD_part (s : ByteArray) (a b i : Nat) (hi : i < b - a) : (s.extract a b).data.toList.getD i 0 = s.data.toList.getD (a + i) 0 := by
  have e : (s.extract a b).data.toList = (s.data.toList.drop a).take (b - a) := by simp [List.take_drop]
  rw [e, List.getD_eq_getElem?_getD, List.getD_eq_getElem?_getD, List.getElem?_take, if_pos hi, List.getElem?_drop]
theorem part (s : ByteArray) (a n : Nat) (h : a + n ≤ s.size) : ∃ p : ByteArray, p.size = n ∧ Hid (Plain.val p.data.toList 0 p.size = Plain.val s.data.toList a n) ∧
    ∀ w, (Instr.slice 9 (.string s) (some (.int .i64 (a : Int))) (some (.int .i64 ((a : Int) + (n : Int)))) none).run Try.prog w = .ok (.string p) w := by
  refine ⟨s.extract a (a + n), by simp; omega, ?_, fun w => ?_⟩
  · unfold Hid
    rw [show (s.extract a (a + n)).size = n from by simp; omega]
    refine Plain.val_congr _ _ _ _ _ fun i hi => ?_
    rw [Nat.zero_add, getD_part s a (a + n) i (by omega)]
  · have := run_slice_string (P := Try.prog) w 9 s .i64 .i64 (a : Int) ((a : Int) + (n : Int)) Try.underlying9 (by omega) (by omega) (by omega)
    rw [this, show ((a : Int) + (n : Int)).toNat = a + n from by omega, Int.toNat_natCast]
set_option maxHeartbeats 400000 in
theorem refGet8 (s : ByteArray) (a : Nat) (w : World) (hs : s.size ≤ 140737488355327) (h : a + 8 ≤ s.size) :
    Calls Try.prog 11 #[.string s, .int .i64 (a : Int), .int .i64 8] w fun r w' => r = .returned (.tuple #[.int .i64 (wrap64 ((Plain.val s.data.toList a 8 : Nat) : Int)), .int .i64 0]) ∧ w' = w := by
  obtain ⟨p, hp8, HP, hsl⟩ := part s a 8 h
  have HP8 : Hid (p.size = 8) := hp8
  clear hp8
  have hsl' : ∀ w, (Instr.slice 9 (.string s) (some (.int .i64 (a : Int))) (some (.int .i64 ((a : Int) + 8))) none).run Try.prog w = .ok (.string p) w := hsl
  clear hsl
  go_enter Try.func11, Try.ntmps11
  go_wp2_with fail
  refine (refNum p _ (by rw [HP8.out]; decide)).mono ?_
  rintro e w' ⟨rfl, rfl⟩
  rw [HP.out]
  go_wp2
  go_ret2
  exact ⟨rfl, rfl⟩
set_option maxHeartbeats 400000 in
theorem refGet4 (s : ByteArray) (a : Nat) (w : World) (hs : s.size ≤ 140737488355327) (h : a + 4 ≤ s.size) (hm : Plain.val s.data.toList a 4 ≤ 2147483647) :
    Calls Try.prog 11 #[.string s, .int .i64 (a : Int), .int .i64 4] w fun r w' => r = .returned (.tuple #[.int .i64 ((Plain.val s.data.toList a 4 : Nat) : Int), .int .i64 0]) ∧ w' = w := by
  obtain ⟨p, hp8, HP, hsl⟩ := part s a 4 h
  have HP8 : Hid (p.size = 4) := hp8
  clear hp8
  have hsl' : ∀ w, (Instr.slice 9 (.string s) (some (.int .i64 (a : Int))) (some (.int .i64 ((a : Int) + 4))) none).run Try.prog w = .ok (.string p) w := hsl
  clear hsl
  have HW : Hid (wrap64 ((Plain.val s.data.toList a 4 : Nat) : Int) = ((Plain.val s.data.toList a 4 : Nat) : Int)) := by unfold Hid wrap64; omega
  have h2 : shortB ((Plain.val s.data.toList a 4 : Nat) : Int) = true := decide_eq_true (by omega)
  go_enter Try.func11, Try.ntmps11
  go_wp2_with fail
  refine (refNum p _ (by rw [HP8.out]; decide)).mono ?_
  rintro e w' ⟨rfl, rfl⟩
  rw [HP.out, HW.out]
  go_wp2_with fail
  refine (refIn _ _).mono ?_
  rintro e w' ⟨rfl, rfl⟩
  rw [h2]
  go_wp2
  go_ret2
  exact ⟨rfl, rfl⟩
set_option maxHeartbeats 400000 in
theorem refGet4_no (s : ByteArray) (a : Nat) (w : World) (hs : s.size ≤ 140737488355327) (h : a + 4 ≤ s.size) (hm : 2147483647 < Plain.val s.data.toList a 4) :
    Calls Try.prog 11 #[.string s, .int .i64 (a : Int), .int .i64 4] w fun r w' => r = .returned (.tuple #[.int .i64 0, .int .i64 300]) ∧ w' = w := by
  obtain ⟨p, hp8, HP, hsl⟩ := part s a 4 h
  have HP8 : Hid (p.size = 4) := hp8
  clear hp8
  have hsl' : ∀ w, (Instr.slice 9 (.string s) (some (.int .i64 (a : Int))) (some (.int .i64 ((a : Int) + 4))) none).run Try.prog w = .ok (.string p) w := hsl
  clear hsl
  have hlt := Plain.val_lt s.data.toList a 4
  have HW : Hid (wrap64 ((Plain.val s.data.toList a 4 : Nat) : Int) = ((Plain.val s.data.toList a 4 : Nat) : Int)) := by unfold Hid wrap64; omega
  have h2 : shortB ((Plain.val s.data.toList a 4 : Nat) : Int) = false := decide_eq_false (by omega)
  go_enter Try.func11, Try.ntmps11
  go_wp2_with fail
  refine (refNum p _ (by rw [HP8.out]; decide)).mono ?_
  rintro e w' ⟨rfl, rfl⟩
  rw [HP.out, HW.out]
  go_wp2_with fail
  refine (refIn _ _).mono ?_
  rintro e w' ⟨rfl, rfl⟩
  rw [h2]
  go_wp2
  go_ret2
  exact ⟨rfl, rfl⟩
set_option maxHeartbeats 400000 in
theorem refGet_no (s : ByteArray) (a n : Int) (w : World) (hs : s.size ≤ 140737488355327) (h : ¬ ((n = 4 ∨ n = 8) ∧ 0 ≤ a ∧ a + n ≤ (s.size : Int))) :
    Calls Try.prog 11 #[.string s, .int .i64 a, .int .i64 n] w fun r w' => r = .returned (.tuple #[.int .i64 0, .int .i64 300]) ∧ w' = w := by
  by_cases h4 : n = 4
  · subst h4
    by_cases h0 : a < 0
    · clear h
      go_enter Try.func11, Try.ntmps11
      go_wp2
      go_ret2
      exact ⟨rfl, rfl⟩
    · have h5 : (s.size : Int) - 4 < a := by omega
      clear h
      go_enter Try.func11, Try.ntmps11
      go_wp2
      go_ret2
      exact ⟨rfl, rfl⟩
  · by_cases h8 : n = 8
    · subst h8
      by_cases h0 : a < 0
      · clear h
        go_enter Try.func11, Try.ntmps11
        go_wp2
        go_ret2
        exact ⟨rfl, rfl⟩
      · have h5 : (s.size : Int) - 8 < a := by omega
        clear h
        go_enter Try.func11, Try.ntmps11
        go_wp2
        go_ret2
        exact ⟨rfl, rfl⟩
    · clear h
      go_enter Try.func11, Try.ntmps11
      go_wp2
      go_ret2
      exact ⟨rfl, rfl⟩
end Go.Proofs.Ytlbchabmjegobaa.Fix
