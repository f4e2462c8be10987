/-
  What the document's own GetVar computes: contracts.
-/
import Derived.Test.YtlbchabmjegobaaRows
import Derived.Test.YtlbchabmjegobaaPlain
import Derived.Test.YtlbchabmjegobaaFixed
import Derived.Test.YtlbchabmjegobaaVar
import Derived.Test.YtlbchabmjegobaaRef
import Derived.Test.YtlbchabmjegobaaGetVar
import Derived.WalkKit
import Derived.ProofKit
import Derived.OpenShut
import Derived.Below
import Derived.RegionTactic
import Derived.ChangeAlike
import Derived.OwnWalk
import Derived.Laws.IdiomStrings
namespace Go.Proofs.Ytlbchabmjegobaa.Fix
open Go.ChangeShapes Go.WideShapes Go.ChangeAt Go.RowKit

theorem wrap_eq (x : Int) : IntKind.i64.wrap x = wrap64 x := by unfold wrap64; exact IntKind.wrap_i64 x
theorem cast128 (b : Nat) : ((b % 128 : Nat) : Int) = (b : Int) % 128 := by omega
theorem part_var (s : ByteArray) (a n : Nat) (h : a + n ≤ s.size) : ∃ q : List UInt8, Hid (q = (s.data.toList.drop a).take n) ∧
    ∀ w, (Instr.slice 9 (.string s) (some (.int .i64 (a : Int))) (some (.int .i64 ((a : Int) + (n : Int)))) none).run Try.prog w = .ok (.string ⟨q.toArray⟩) w := by
  refine ⟨_, rfl, fun w => ?_⟩
  have := run_slice_string (P := Try.prog) w 9 s .i64 .i64 (a : Int) ((a : Int) + (n : Int)) Try.underlying9 (by omega) (by omega) (by omega)
  rw [this, show ((a : Int) + (n : Int)).toNat = a + n from by omega, Int.toNat_natCast]
  have e : (s.extract a (a + n)).data.toList = (s.data.toList.drop a).take n := by simp [List.take_drop]
  have e2 : s.extract a (a + n) = ⟨((s.data.toList.drop a).take n).toArray⟩ := by
    rw [← e]
  rw [e2]
set_option maxHeartbeats 800000 in
theorem refGetVar_out (s : ByteArray) (a : Int) (w : World) (hs : s.size ≤ 140737488355327) (h : a < 0 ∨ (s.size : Int) ≤ a) :
    Calls Try.prog 15 #[.string s, .int .i64 a] w fun r w' => r = .returned (.tuple #[.int .i64 0, .int .i64 0, .int .i64 300]) ∧ w' = w := by
  rcases h with h | h
  · go_enter Try.func15, Try.ntmps15
    go_wp2_with fail
    refine wp_loop_rounds 1 ?_
    rw [rounds_succ]
    go_wp2
    go_ret3
    exact ⟨rfl, rfl⟩
  · go_enter Try.func15, Try.ntmps15
    go_wp2_with fail
    refine wp_loop_rounds 1 ?_
    rw [rounds_succ]
    go_wp2
    go_ret3
    exact ⟨rfl, rfl⟩
set_option maxRecDepth 20000 in
set_option maxHeartbeats 1600000 in
theorem refGetVar_in (s : ByteArray) (a : Nat) (X T E : Nat) (w : World) (hs : s.size ≤ 140737488355327) (h : a < s.size) (HG : Hid (Plain.gv s.data.toList a 5 0 = (X, T, E))) :
    Calls Try.prog 15 #[.string s, .int .i64 (a : Int)] w fun r w' => r = .returned (.tuple #[.int .i64 (X : Int), .int .i64 (T : Int), .int .i64 (E : Int)]) ∧ Below w.heap.size w w' := by
  have HL : Hid (s.data.toList.length = s.size) := by unfold Hid; simp
  go_enter Try.func15, Try.ntmps15
  go_wp2_with fail
  go_loop [7, 8] (fun t i => ∃ k : Nat, k ≤ 5 ∧ a + k ≤ s.size ∧ i = .int .i64 ((a : Int) + k) ∧ t = .int .i64 ((Plain.v7 s.data.toList a k : Nat) : Int) ∧ Plain.gv s.data.toList a (5 - k) k = (X, T, E) ∧ Hid (∀ j, j < k → 128 ≤ (s.data.toList.getD (a + j) 0).toNat)) (fun _ i => a + 5 - (intOf i).toNat)
  case atStart => exact ⟨0, by omega, by omega, by simp, rfl, HG.out, fun j hj => by omega⟩
  case round =>
    obtain ⟨k, hk, hka, rfl, rfl, hg, HC⟩ := hrel
    have HK : Hid (Plain.gv s.data.toList a (5 - k) k = (X, T, E)) := hg
    clear hg
    by_cases hlt : k < 5 ∧ a + k < s.size
    · obtain ⟨hlt, hla⟩ := hlt
      have hx := Plain.v7_lt s.data.toList a k
      have HB : Hid ((s.data.toList.getD (a + k) 0) = s[a + k]) := getD_at s (a + k) (by omega)
      have HV : Hid (Plain.v7 s.data.toList a (k + 1) = Plain.v7 s.data.toList a k + s[a + k].toNat % 128 * 128 ^ k) := by
        unfold Hid; rw [Plain.v7, HB.out]
      have hb := Plain.byte_lt s[a + k]
      have hand : bits .and .u8 (s[a + k].toNat : Int) 127 = (s[a + k].toNat : Int) % 128 := by rw [Plain.and127 _ hb, Int.natCast_emod]; rfl
      have hlow : bits .or .i64 ((Plain.v7 s.data.toList a k : Nat) : Int) (wrap64 ((s[a + k].toNat : Int) % 128 * 2 ^ (7 * k))) = ((Plain.v7 s.data.toList a (k + 1) : Nat) : Int) := by
        have := Plain.step7i (Plain.v7 s.data.toList a k) (s[a + k].toNat % 128) k hlt hx (by omega)
        rw [cast128, wrap_eq] at this
        rw [HV.out]
        exact this
      have hsub : (a : Int) + k - a = k := by omega
      clear HV hx
      have HA : Hid (a + k < s.data.toList.length) := by unfold Hid; rw [HL.out]; exact hla
      by_cases h128 : 128 ≤ s[a + k].toNat
      · have HF := fin_on HK.out hlt HA.out (by rw [HB.out]; exact h128)
        have HF' : Hid (Plain.gv s.data.toList a (5 - (k + 1)) (k + 1) = (X, T, E)) := HF
        clear HF
        go_wp2
        go_round
        case rel =>
          refine ⟨k + 1, by omega, by omega, by go_num, rfl, HF'.out, fun j hj => ?_⟩
          by_cases e : j = k
          · subst e; rw [HB.out]; exact h128
          · exact HC.out j (by omega)
        case measure => simp [intOf]; omega
      · have hbb : (s.data.toList.getD (a + k) 0).toNat < 128 := by rw [HB.out]; omega
        have HW : Hid _ := Plain.vb_v7 s.data.toList k a HA.out HC.out hbb
        obtain ⟨q, HQ, hsl⟩ := part_var s a (k + 1) (by omega)
        have hsl' : ∀ w, (Instr.slice 9 (.string s) (some (.int .i64 (a : Int))) (some (.int .i64 ((a : Int) + k + 1))) none).run Try.prog w = .ok (.string ⟨q.toArray⟩) w := by
          intro w
          have := hsl w
          rw [show (a : Int) + ((k + 1 : Nat) : Int) = (a : Int) + k + 1 from by omega] at this
          exact this
        clear hsl hbb
        by_cases hm : Plain.v7 s.data.toList a (k + 1) ≤ 2147483647
        · by_cases hn : 0 < k ∧ (s.data.toList.getD (a + k) 0).toNat = 0
          · have HF : Hid (X = 0 ∧ T = 0 ∧ E = 300) := fin_no HK.out hlt HA.out (by rw [HB.out]; omega) (.inl hn)
            have hcmp : (Plain.vb (Plain.v7 s.data.toList a (k + 1)) == q) = false := by
              rw [HQ.out]
              exact beq_eq_false_iff_ne.2 fun e => HW.out.1 e hn
            clear hn
            go_wp2_with fail
            refine (refPutVar_yes _ _ hm).mono ?_
            rintro e w2 ⟨rfl, b2⟩
            go_wp2
            go_ret3
            exact ⟨ret3_int (by have := HF.out; omega) (by have := HF.out; omega) (by have := HF.out; omega), b2⟩
          · have HF : Hid (X = Plain.v7 s.data.toList a (k + 1) ∧ T = a + k + 1 ∧ E = 0) := fin_yes HK.out hlt HA.out (by rw [HB.out]; omega) (by omega)
            have hcmp : (Plain.vb (Plain.v7 s.data.toList a (k + 1)) == q) = true := by
              rw [HQ.out]
              exact beq_iff_eq.2 (HW.out.2 hn)
            clear hn
            go_wp2_with fail
            refine (refPutVar_yes _ _ hm).mono ?_
            rintro e w2 ⟨rfl, b2⟩
            go_wp2
            go_ret3
            exact ⟨ret3_int (by have := HF.out; omega) (by have := HF.out; omega) (by have := HF.out; omega), b2⟩
        · have HF : Hid (X = 0 ∧ T = 0 ∧ E = 300) := fin_no HK.out hlt HA.out (by rw [HB.out]; omega) (.inr (by omega))
          go_wp2_with fail
          refine (refPutVar_no _ _ (by omega)).mono ?_
          rintro e w2 ⟨rfl, rfl⟩
          go_wp2
          go_ret3
          exact ⟨ret3_int (by have := HF.out; omega) (by have := HF.out; omega) (by have := HF.out; omega), Below.refl _ _⟩
    · have HF : Hid (X = 0 ∧ T = 0 ∧ E = 300) := fin_over HK.out (by rw [HL.out]; exact hlt)
      by_cases hz : (a : Int) + k < s.size
      · have hk5 : ¬ (k : Int) < 5 := by omega
        clear hlt
        go_wp2
        go_ret3
        exact ⟨ret3_int (by have := HF.out; omega) (by have := HF.out; omega) (by have := HF.out; omega), Below.refl _ _⟩
      · clear hlt
        go_wp2
        go_ret3
        exact ⟨ret3_int (by have := HF.out; omega) (by have := HF.out; omega) (by have := HF.out; omega), Below.refl _ _⟩
end Go.Proofs.Ytlbchabmjegobaa.Fix
