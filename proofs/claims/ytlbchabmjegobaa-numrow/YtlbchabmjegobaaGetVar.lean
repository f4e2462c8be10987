/-
  What num.GetVar computes: contracts.
-/
import Derived.Test.YtlbchabmjegobaaRows
import Derived.Test.YtlbchabmjegobaaPlain
import Derived.Test.YtlbchabmjegobaaFixed
import Derived.Test.YtlbchabmjegobaaVar
import Derived.Test.YtlbchabmjegobaaRef
import Derived.WalkKit
import Derived.ProofKit
import Derived.OpenShut
import Derived.Below
import Derived.RegionTactic
import Derived.ChangeAlike
import Derived.OwnWalk
import Derived.Laws.IdiomStrings
namespace Go.Proofs.Ytlbchabmjegobaa.Fix
open Go.ChangeShapes Go.WideShapes Go.ChangeAt Go.RowKit

theorem fin_on {l : List UInt8} {a k X T E : Nat} (h : Plain.gv l a (5 - k) k = (X, T, E)) (hk : k < 5) (ha : a + k < l.length) (hb : 128 ≤ (l.getD (a + k) 0).toNat) : Plain.gv l a (5 - (k + 1)) (k + 1) = (X, T, E) := by
  rw [show 5 - k = (5 - (k + 1)) + 1 from by omega, Plain.gv_on l a _ k ha hb] at h
  exact h
theorem fin_no {l : List UInt8} {a k X T E : Nat} (h : Plain.gv l a (5 - k) k = (X, T, E)) (hk : k < 5) (ha : a + k < l.length) (hb : (l.getD (a + k) 0).toNat < 128) (hn : (0 < k ∧ (l.getD (a + k) 0).toNat = 0) ∨ 2147483647 < Plain.v7 l a (k + 1)) : X = 0 ∧ T = 0 ∧ E = 300 := by
  rw [show 5 - k = (5 - (k + 1)) + 1 from by omega, Plain.gv_no l a _ k ha hb hn] at h
  simp only [Prod.mk.injEq] at h
  omega
theorem fin_yes {l : List UInt8} {a k X T E : Nat} (h : Plain.gv l a (5 - k) k = (X, T, E)) (hk : k < 5) (ha : a + k < l.length) (hb : (l.getD (a + k) 0).toNat < 128) (hn : ¬ ((0 < k ∧ (l.getD (a + k) 0).toNat = 0) ∨ 2147483647 < Plain.v7 l a (k + 1))) : X = Plain.v7 l a (k + 1) ∧ T = a + k + 1 ∧ E = 0 := by
  rw [show 5 - k = (5 - (k + 1)) + 1 from by omega, Plain.gv_yes l a _ k ha hb hn] at h
  simp only [Prod.mk.injEq] at h
  omega
theorem fin_over {l : List UInt8} {a k X T E : Nat} (h : Plain.gv l a (5 - k) k = (X, T, E)) (ha : ¬ (k < 5 ∧ a + k < l.length)) : X = 0 ∧ T = 0 ∧ E = 300 := by
  by_cases hk : k < 5
  · rw [Plain.gv_over l a _ k (by omega)] at h
    simp only [Prod.mk.injEq] at h
    omega
  · rw [show 5 - k = 0 from by omega, Plain.gv] at h
    simp only [Prod.mk.injEq] at h
    omega
theorem ret3_int {a b c d e f : Int} (h : a = b) (h2 : c = d) (h3 : e = f) : Ending.returned (.tuple #[.int .i64 a, .int .i64 c, .int .i64 e]) = .returned (.tuple #[.int .i64 b, .int .i64 d, .int .i64 f]) := by rw [h, h2, h3]

set_option maxRecDepth 20000 in
set_option maxHeartbeats 1600000 in
theorem getVar_out (s : ByteArray) (a : Int) (w : World) (hs : s.size ≤ 140737488355327) (h : a < 0 ∨ (s.size : Int) ≤ a) :
    Calls Try.prog 14 #[.string s, .int .i64 a] w fun r w' => r = .returned (.tuple #[.int .i64 0, .int .i64 0, .int .i64 300]) ∧ w' = w := by
  have h2 : roomI s.size a = 0 := by unfold roomI; split <;> omega
  clear h
  go_enter Try.func14, Try.ntmps14
  go_wp2_with fail
  refine (room _ _ _ hs).mono ?_
  rintro e w' ⟨rfl, rfl⟩
  rw [h2]
  go_wp2_with fail
  refine wp_loop_rounds 1 ?_
  rw [rounds_succ]
  go_wp2
  go_ret3
  exact ⟨rfl, rfl⟩
set_option maxRecDepth 20000 in
set_option maxHeartbeats 1600000 in
theorem getVar_in (s : ByteArray) (a : Nat) (X T E : Nat) (w : World) (hs : s.size ≤ 140737488355327) (h : a < s.size) (HG : Hid (Plain.gv s.data.toList a 5 0 = (X, T, E))) :
    Calls Try.prog 14 #[.string s, .int .i64 (a : Int)] w fun r w' => r = .returned (.tuple #[.int .i64 (X : Int), .int .i64 (T : Int), .int .i64 (E : Int)]) ∧ w' = w := by
  have h2 : roomI s.size (a : Int) = (s.size : Int) - a := if_pos (by omega)
  have HL : Hid (s.data.toList.length = s.size) := by unfold Hid; simp
  by_cases h5 : 5 ≤ (s.size : Int) - a
  all_goals
    go_enter Try.func14, Try.ntmps14
    go_wp2_with fail
    refine (room _ _ _ hs).mono ?_
    rintro e w' ⟨rfl, rfl⟩
    rw [h2]
    go_wp2_with fail
    go_loop [7, 14] (fun t i => ∃ k : Nat, k ≤ 5 ∧ a + k ≤ s.size ∧ i = .int .i64 k ∧ t = .int .u64 ((Plain.v7 s.data.toList a k : Nat) : Int) ∧ Plain.gv s.data.toList a (5 - k) k = (X, T, E)) (fun _ i => 5 - (intOf i).toNat)
    case atStart => exact ⟨0, by omega, by omega, rfl, rfl, HG.out⟩
    case round =>
      obtain ⟨k, hk, hka, rfl, rfl, hg⟩ := hrel
      have HK : Hid (Plain.gv s.data.toList a (5 - k) k = (X, T, E)) := hg
      clear hg
      by_cases hlt : k < 5 ∧ a + k < s.size
      · obtain ⟨hlt, hla⟩ := hlt
        have hx := Plain.v7_lt s.data.toList a k
        have hx2 := Plain.v7_lt s.data.toList a (k + 1)
        have HB : Hid ((s.data.toList.getD (a + k) 0) = s[a + k]) := getD_at s (a + k) (by omega)
        have HV : Hid (Plain.v7 s.data.toList a (k + 1) = Plain.v7 s.data.toList a k + s[a + k].toNat % 128 * 128 ^ k) := by
          unfold Hid; rw [Plain.v7, HB.out]
        have hb := Plain.byte_lt s[a + k]
        have hand : bits .and .u8 (s[a + k].toNat : Int) 127 = (s[a + k].toNat : Int) % 128 := by rw [Plain.and127 _ hb, Int.natCast_emod]; rfl
        have hlow : bits .or .u64 ((Plain.v7 s.data.toList a k : Nat) : Int) (IntKind.u64.wrap ((s[a + k].toNat : Int) % 128 * 2 ^ (7 * k))) = ((Plain.v7 s.data.toList a (k + 1) : Nat) : Int) := by
          have := Plain.step7 (Plain.v7 s.data.toList a k) (s[a + k].toNat % 128) k hlt hx (by omega)
          rw [HV.out, ← this, Int.natCast_emod]; rfl
        clear HV hx hx2
        have HA : Hid (a + k < s.data.toList.length) := by unfold Hid; rw [HL.out]; exact hla
        by_cases h128 : 128 ≤ s[a + k].toNat
        · have HF := fin_on HK.out hlt HA.out (by rw [HB.out]; exact h128)
          have HF' : Hid (Plain.gv s.data.toList a (5 - (k + 1)) (k + 1) = (X, T, E)) := HF
          clear HF
          go_wp2
          go_round
          case rel => exact ⟨k + 1, by omega, by omega, by go_num, rfl, HF'.out⟩
          case measure => simp [intOf]; omega
        · by_cases hn : (0 < k ∧ s[a + k].toNat = 0) ∨ 2147483647 < Plain.v7 s.data.toList a (k + 1)
          · have HF : Hid (X = 0 ∧ T = 0 ∧ E = 300) := fin_no HK.out hlt HA.out (by rw [HB.out]; omega) (by rw [HB.out]; exact hn)
            by_cases hz : 0 < k ∧ s[a + k].toNat = 0
            · obtain ⟨hk0, hz⟩ := hz
              clear hn
              go_wp2
              go_ret3
              exact ⟨ret3_int (by have := HF.out; omega) (by have := HF.out; omega) (by have := HF.out; omega), rfl⟩
            · have hm : 2147483647 < Plain.v7 s.data.toList a (k + 1) := by omega
              clear hn
              by_cases hk0 : 0 < k
              · have hz2 : ¬ s[a + k].toNat = 0 := fun e => hz ⟨hk0, e⟩
                have hz3 : ((s[a + k].toNat : Int) == 0) = false := by simp; omega
                clear hz
                go_wp2
                go_ret3
                exact ⟨ret3_int (by have := HF.out; omega) (by have := HF.out; omega) (by have := HF.out; omega), rfl⟩
              · clear hz
                go_wp2
                go_ret3
                exact ⟨ret3_int (by have := HF.out; omega) (by have := HF.out; omega) (by have := HF.out; omega), rfl⟩
          · have HF : Hid (X = Plain.v7 s.data.toList a (k + 1) ∧ T = a + k + 1 ∧ E = 0) := fin_yes HK.out hlt HA.out (by rw [HB.out]; omega) (by rw [HB.out]; exact hn)
            have hm : Plain.v7 s.data.toList a (k + 1) ≤ 2147483647 := by omega
            by_cases hk0 : 0 < k
            · have hz2 : ¬ s[a + k].toNat = 0 := fun e => hn (.inl ⟨hk0, e⟩)
              have hz3 : ((s[a + k].toNat : Int) == 0) = false := by simp; omega
              clear hn
              go_wp2
              · rename_i hh
                rcases hh with hh | hh
                · exact absurd (eq_of_beq hh) (by omega)
                · omega
              go_ret3
              exact ⟨ret3_int (by have := HF.out; omega) (by have := HF.out; omega) (by have := HF.out; omega), rfl⟩
            · clear hn
              go_wp2
              go_ret3
              exact ⟨ret3_int (by have := HF.out; omega) (by have := HF.out; omega) (by have := HF.out; omega), rfl⟩
      · have HF : Hid (X = 0 ∧ T = 0 ∧ E = 300) := fin_over HK.out (by rw [HL.out]; exact hlt)
        first
          | have hlt5 : ¬ (k : Int) < 5 := by omega
          | have hlt5 : ¬ (k : Int) < (s.size : Int) - a := by omega
        clear hlt
        go_wp2
        go_ret3
        exact ⟨ret3_int (by have := HF.out; omega) (by have := HF.out; omega) (by have := HF.out; omega), rfl⟩
end Go.Proofs.Ytlbchabmjegobaa.Fix
