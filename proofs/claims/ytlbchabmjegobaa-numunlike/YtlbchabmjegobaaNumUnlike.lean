/-
  For every two ints, the numbers that their lowest 31 bits tell have unlike bytes, in four and in few, just if they are unlike: quiverlaw3.NumUnlike returns true.
-/
import Derived.Test.YtlbchabmjegobaaRows
import Derived.WalkKit
import Derived.ProofKit
import Derived.OpenShut
import Derived.ShutString
import Derived.ChangeOld
import Derived.Below
import Derived.SizedLaws
import Derived.Test.YtlbchabmjegobaaPlain
import Derived.Test.YtlbchabmjegobaaAwake
namespace Go.Proofs.Ytlbchabmjegobaa.numUnlike
open Go.ChangeShapes Go.WideShapes Go.ChangeAt Go.RowKit
open Go.ChangeMaps (open_string shut_string)
set_option linter.unusedVariables false

theorem own : ownKnob Try.prog.godebug = none := by kernel_rfl

set_option maxHeartbeats 1000000 in
theorem walk (a0 : Int) (a1 : Int) (w : World) (w0 : (Lit.int .i64 a0).wf = true) (w1 : (Lit.int .i64 a1).wf = true) :
    Calls Try.prog 7 #[.int .i64 a0, .int .i64 a1] w fun e w' => e = .returned (.bool true) ∧ Below w.heap.size w w' := by
  obtain ⟨m, ha, hm⟩ := Fix.mask a0
  obtain ⟨n, hb, hn⟩ := Fix.mask a1
  clear w0 w1
  have hw1 : IntKind.u64.wrap (m : Int) = (m : Int) := by rw [IntKind.wrap_u64]; omega
  have hw2 : IntKind.u64.wrap (n : Int) = (n : Int) := by rw [IntKind.wrap_u64]; omega
  have HW1 : Hid (IntKind.u64.wrap (m : Int) = (m : Int)) := hw1
  have HW2 : Hid (IntKind.u64.wrap (n : Int) = (n : Int)) := hw2
  clear hw1 hw2
  have hlen := Plain.length_low m 4
  have hc1 : (Plain.low m 4 == Plain.low n 4) = decide (m = n) := by
    rw [Bool.eq_iff_iff, beq_iff_eq, decide_eq_true_iff]
    exact ⟨fun e => Plain.low_inj m n 4 (by omega) (by omega) e, fun e => by rw [e]⟩
  have hc2 : (Plain.vb m == Plain.vb n) = decide (m = n) := by
    rw [Bool.eq_iff_iff, beq_iff_eq, decide_eq_true_iff]
    exact ⟨fun e => Plain.vb_inj m n hm hn e, fun e => by rw [e]⟩
  go_enter Try.func7, Try.ntmps7
  go_wp2_with fail
  refine (Fix.awake _).mono ?_
  rintro e v1 ⟨rfl, b1⟩
  go_wp2_with fail
  refine (Fix.put4 _ m HW1.out _ (by omega) (by omega)).mono ?_
  rintro e v2 ⟨rfl, b2⟩
  go_wp2_with fail
  refine (Fix.put4 _ n HW2.out _ (by omega) (by omega)).mono ?_
  rintro e v3 ⟨rfl, b3⟩
  go_wp2_with fail
  refine (Fix.putVar_yes m _ hm).mono ?_
  rintro e v4 ⟨rfl, b4⟩
  go_wp2_with fail
  refine (Fix.putVar_yes n _ hn).mono ?_
  rintro e v5 ⟨rfl, b5⟩
  go_wp2_with (go_at_call 16; refine (Fix.num _ _).mono ?_; rintro e w' ⟨rfl, rfl⟩)
  · go_ret
    exact ⟨rfl, Fix.bel b1 (Fix.bel b2 (Fix.bel b3 (Fix.bel b4 b5)))⟩
  · rename_i hh
    exact absurd (by rw [Bool.eq_iff_iff, decide_eq_true_iff, beq_iff_eq]; omega) hh

set_option maxRecDepth 100000 in
theorem lifted (os : Os) (started : os.Started) (H : Type) (enc : TypeId × Value → H) :
    ReturnsInHanded {} Try.checked os 7 .any (Rows.numUnlikeSpec.pre6 enc Try.prog Try.f7 Rows.numUnlikeRow.domain false) (Rows.numUnlikeSpec.post enc Try.prog Try.f7 false true false false) := by
  refine returnsInHanded_of_change (C := Try.checked) own started (by kernel_rfl) Try.func7
    (ChangeSpec.witness6 (enc := enc) (C := Try.checked) false ⟨#[], #[.int .i64 0, .int .i64 0], []⟩ 8 (by kernel_rfl) (by kernel_rfl) (by kernel_rfl) (by kernel_rfl)) ?_
  intro W base args ds gs before hval0 hW hcnd _
  have hval : ∀ (j : Nat) t v, Try.f7.params[j]? = some t → args[j]? = some v → Value.okWide Try.prog W .any base t v := hval0
  have hW' := hW
  obtain ⟨p, q, hA0, hV, rfl, hfz, hnd⟩ := hW
  have hA : DataW.TrodAll enc Try.prog W 0 (fun _ => true) true Try.f7.params.toList args.toList ds p := hA0
  rw [Try.params7] at hA hval
  obtain ⟨v0, vs0, d0, ds0, p0, q0, hargs, rfl, rfl, h0, r0⟩ := trodAll_cons hA
  obtain ⟨v1, vs1, d1, ds1, p1, q1, rfl, rfl, rfl, h1, r1⟩ := trodAll_cons r0
  obtain ⟨rfl, rfl, rfl⟩ := trodAll_nil r1
  obtain rfl : args = #[v0, v1] := by cases args; simp_all
  obtain ⟨rfl, rfl⟩ := trodVars_none hV
  obtain ⟨a0, rfl, rfl, rfl, w0⟩ := open_int Try.underlying3 (hval 0 3 v0 rfl rfl) h0
  obtain ⟨a1, rfl, rfl, rfl, w1⟩ := open_int Try.underlying3 (hval 1 3 v1 rfl rfl) h1
  clear hA0 hval0
  refine (walk a0 a1 W w0 w1).mono fun e W' ⟨he, bel⟩ => ?_
  subst he
  exact ⟨_, rfl, _, _, _, [], _, [], hW', trodAll_mk1 (shut_bool Try.underlying4 _), (trodAll_cons_mk (shut_int Try.underlying3 w0) (trodAll_cons_mk (shut_int Try.underlying3 w1) trodAll_mk0)), rfl, bel.frame _, fun h => by cases h⟩

theorem over : Rows.numUnlikeRow.holds Try.pinned (OpenSpec.ofChange Rows.numUnlikeSpec) :=
  OpenClaim.holds_of_wide 7 Try.f7 rfl rfl rfl rfl rfl rfl rfl ⟨rfl, rfl, rfl, rfl, rfl⟩ rfl rfl rfl rfl rfl (by kernel_rfl) Try.func7 (by kernel_rfl)
    (of_decide_eq_true (by kernel_rfl)) (by unfold Func.isWrapper; first | (rw [if_pos (by decide +kernel)]; kernel_rfl) | (rw [if_neg (by decide +kernel)]; exact ⟨rfl, rfl⟩))
    (fun os started H enc _ => lifted os started H enc)

end Go.Proofs.Ytlbchabmjegobaa.numUnlike
namespace Go.Proofs.Ytlbchabmjegobaa
theorem numUnlike_holds : Rows.NumUnlikeSaid := numUnlike.over
#print axioms numUnlike_holds
end Go.Proofs.Ytlbchabmjegobaa
