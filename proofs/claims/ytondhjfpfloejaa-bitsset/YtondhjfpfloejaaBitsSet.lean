/-
  For every text, int and truth, a bit that is set so is so, and all others are as they were: quiverlaw2.BitsSet returns true. No condition.
-/
import Derived.Test.YtondhjfpfloejaaRows
import Derived.WalkKit
import Derived.ProofKit
import Derived.OpenShut
import Derived.ShutString
import Derived.ChangeOld
import Derived.Below
import Derived.SizedLaws
import Derived.Test.YtondhjfpfloejaaPlain
import Derived.Test.YtondhjfpfloejaaCopy
namespace Go.Proofs.Ytondhjfpfloejaa.bitsSet
open Go.ChangeShapes Go.WideShapes Go.ChangeAt Go.RowKit
open Go.ChangeMaps (open_string shut_string)
set_option linter.unusedVariables false

theorem own : ownKnob Try.prog.godebug = none := by kernel_rfl

set_option maxHeartbeats 1000000 in
theorem walk (a0 : ByteArray) (a1 : Int) (a2 : Bool) (w : World) (w0 : a0.size ≤ maxLen) (w1 : (Lit.int .i64 a1).wf = true) (s0 : a0.size ≤ 140737488351232) :
    Calls Try.prog 6 #[.string a0, .int .i64 a1, .bool a2] w fun e w' => e = .returned (.bool true) ∧ Below w.heap.size w w' := by
  by_cases hz : a0.size = 0
  · have hz' : ((a0.size : Int) == 0) = true := beq_iff_eq.2 (by omega)
    clear hz
    go_enter Try.func6, Try.ntmps6
    go_wp2_with fail
    refine (Bit.awake _).mono ?_
    rintro e v1 ⟨rfl, b1⟩
    go_wp2
    go_ret
    exact ⟨rfl, b1⟩
  have hz' : ((a0.size : Int) == 0) = false := beq_eq_false_iff_ne.2 (by omega)
  have hz0 : 0 < (a0.size : Int) := by omega
  obtain ⟨k, hk, k0, k1⟩ := Plain.rest a1 (8 * (a0.size : Int)) (by omega)
  clear hz
  go_enter Try.func6, Try.ntmps6
  go_wp2_with fail
  refine (Bit.awake _).mono ?_
  rintro e v1 ⟨rfl, b1⟩
  go_wp2_with fail
  refine (Bit.set_yes _ _ _ _ s0 (by omega) (by omega)).mono ?_
  rintro e v2 ⟨rfl, b2⟩
  have hl : (ByteArray.mk (Plain.setB a0.data.toList k.toNat a2).toArray).size = a0.size := by
    show (Plain.setB a0.data.toList k.toNat a2).toArray.size = _
    rw [List.size_toArray, Plain.length_setB]; simp
  have HB : Hid (∀ i, Plain.bit (ByteArray.mk (Plain.setB a0.data.toList k.toNat a2).toArray).data.toList i = if i = k.toNat then a2 else Plain.bit a0.data.toList i) := by
    intro i
    exact Plain.bit_setB _ _ _ _ (by simp; omega)
  generalize ByteArray.mk (Plain.setB a0.data.toList k.toNat a2).toArray = t at *
  have hne : ((t.size : Int) != (a0.size : Int)) = false := by rw [hl]; simp
  have hl2 : (t.size : Int) ≤ (a0.size : Int) := by omega
  have hl3 : (a0.size : Int) ≤ (t.size : Int) := by omega
  clear hl
  go_wp2_with fail
  refine (Bit.num _ _).mono ?_
  rintro e v3 ⟨rfl, rfl⟩
  go_wp2_with fail
  go_loop [10] (fun i => ∃ n : Nat, (n : Int) ≤ 8 * (a0.size : Int) ∧ i = .int .i64 n) (fun i => 8 * a0.size - (intOf i).toNat)
  case atStart => exact ⟨0, by omega, rfl⟩
  case round =>
    obtain ⟨n, hn, rfl⟩ := hrel
    by_cases hlt : (n : Int) < 8 * (a0.size : Int)
    · by_cases hnk : n = k.toNat
      · have e1 : ((n : Int) == k) = true := beq_iff_eq.2 (by omega)
        have e2 : ((n : Int) != k) = false := by rw [bne, e1]; rfl
        have HN : Hid (n = k.toNat) := hnk
        clear hnk
        go_wp2_with fail
        refine (Bit.get_yes _ _ _ s0 (by omega) (by omega)).mono ?_
        rintro e v4 ⟨rfl, rfl⟩
        rw [Int.toNat_natCast]
        go_wp2_with fail
        refine (Bit.get_yes _ _ _ (by omega) (by omega) (by omega)).mono ?_
        rintro e v5 ⟨rfl, rfl⟩
        rw [Int.toNat_natCast, HB.out n, if_pos HN.out]
        go_wp2_with (go_at_call 17; refine (Bit.num _ _).mono ?_; rintro e w' ⟨rfl, rfl⟩)
        go_round
        case rel => exact ⟨n + 1, by omega, by go_num⟩
        case measure => simp [intOf]; omega
      · have e1 : ((n : Int) == k) = false := beq_eq_false_iff_ne.2 (by omega)
        have e2 : ((n : Int) != k) = true := by rw [bne, e1]; rfl
        have HN : Hid (¬ n = k.toNat) := hnk
        clear hnk
        go_wp2_with fail
        refine (Bit.get_yes _ _ _ s0 (by omega) (by omega)).mono ?_
        rintro e v4 ⟨rfl, rfl⟩
        rw [Int.toNat_natCast]
        generalize hb : Plain.bit a0.data.toList n = bt
        have HBT : Hid (Plain.bit a0.data.toList n = bt) := hb
        clear hb
        go_wp2_with fail
        refine (Bit.get_yes _ _ _ (by omega) (by omega) (by omega)).mono ?_
        rintro e v5 ⟨rfl, rfl⟩
        rw [Int.toNat_natCast, HB.out n, if_neg HN.out, HBT.out]
        go_wp2_with (go_at_call 17; refine (Bit.num _ _).mono ?_; rintro e w' ⟨rfl, rfl⟩)
        go_round
        case rel => exact ⟨n + 1, by omega, by go_num⟩
        case measure => simp [intOf]; omega
    · go_wp2
      go_ret
      exact ⟨rfl, Bit.bel b1 b2⟩

set_option maxRecDepth 100000 in
theorem lifted (os : Os) (started : os.Started) (H : Type) (enc : TypeId × Value → H) :
    ReturnsInHanded {} Try.checked os 6 .any (Rows.bitsSetSpec.pre6 enc Try.prog Try.f6 Rows.bitsSetRow.domain false) (Rows.bitsSetSpec.post enc Try.prog Try.f6 false true false false) := by
  refine returnsInHanded_of_change_sized (C := Try.checked) own started (by kernel_rfl) Try.func6
    (ChangeSpec.witness6 (enc := enc) (C := Try.checked) false ⟨#[], #[.string ByteArray.empty, .int .i64 0, .bool false], []⟩ 8 (by kernel_rfl) (by kernel_rfl) (by kernel_rfl) (by kernel_rfl)) ?_
  intro W base args ds gs before hval0 hW hcnd hsz0 _
  have hsz : (DataW.weightsEach Try.prog (Try.f6.params.toList ++ Rows.bitsSetSpec.plain.varTypes Try.prog) (ds ++ gs)).all (· ≤ reachBytes) = true := hsz0
  clear hsz0
  have hval : ∀ (j : Nat) t v, Try.f6.params[j]? = some t → args[j]? = some v → Value.okWide Try.prog W .any base t v := hval0
  have hW' := hW
  obtain ⟨p, q, hA0, hV, rfl, hfz, hnd⟩ := hW
  have hA : DataW.TrodAll enc Try.prog W 0 (fun _ => true) true Try.f6.params.toList args.toList ds p := hA0
  rw [Try.params6] at hA hval hsz
  obtain ⟨v0, vs0, d0, ds0, p0, q0, hargs, rfl, rfl, h0, r0⟩ := trodAll_cons hA
  obtain ⟨v1, vs1, d1, ds1, p1, q1, rfl, rfl, rfl, h1, r1⟩ := trodAll_cons r0
  obtain ⟨v2, vs2, d2, ds2, p2, q2, rfl, rfl, rfl, h2, r2⟩ := trodAll_cons r1
  obtain ⟨rfl, rfl, rfl⟩ := trodAll_nil r2
  obtain rfl : args = #[v0, v1, v2] := by cases args; simp_all
  obtain ⟨rfl, rfl⟩ := trodVars_none hV
  obtain ⟨a0, rfl, rfl, rfl, w0⟩ := open_string Try.underlying9 (hval 0 9 v0 rfl rfl) h0
  obtain ⟨a1, rfl, rfl, rfl, w1⟩ := open_int Try.underlying3 (hval 1 3 v1 rfl rfl) h1
  obtain ⟨a2, rfl, rfl, rfl⟩ := open_bool Try.underlying4 (hval 2 4 v2 rfl rfl) h2
  have s0 : a0.size ≤ 140737488351232 := by have := sized_string hsz (j := 0) (t := 9) rfl rfl; simpa [reachBytes] using this
  clear hA0 hval0
  refine (walk a0 a1 a2 W w0 w1 s0).mono fun e W' ⟨he, bel⟩ => ?_
  subst he
  exact ⟨_, rfl, _, _, _, [], _, [], hW', trodAll_mk1 (shut_bool Try.underlying4 _), (trodAll_cons_mk (shut_string Try.underlying9 w0) (trodAll_cons_mk (shut_int Try.underlying3 w1) (trodAll_cons_mk (shut_bool Try.underlying4 _) trodAll_mk0))), rfl, bel.frame _, fun h => by cases h⟩

theorem over : Rows.bitsSetRow.holds Try.pinned (OpenSpec.ofChange Rows.bitsSetSpec) :=
  OpenClaim.holds_of_wide 6 Try.f6 rfl rfl rfl rfl rfl rfl rfl ⟨rfl, rfl, rfl, rfl, rfl⟩ rfl rfl rfl rfl rfl (by kernel_rfl) Try.func6 (by kernel_rfl)
    (of_decide_eq_true (by kernel_rfl)) (by unfold Func.isWrapper; first | (rw [if_pos (by decide +kernel)]; kernel_rfl) | (rw [if_neg (by decide +kernel)]; exact ⟨rfl, rfl⟩))
    (fun os started H enc _ => lifted os started H enc)

end Go.Proofs.Ytondhjfpfloejaa.bitsSet
namespace Go.Proofs.Ytondhjfpfloejaa
theorem bitsSet_holds : Rows.BitsSetSaid := bitsSet.over
#print axioms bitsSet_holds
end Go.Proofs.Ytondhjfpfloejaa
