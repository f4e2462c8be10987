/-
  For every two ints, pad.Add and pad.Mul of their low fifteen bits go both ways round and are the sum and the product: quiverlaw1.PadSums returns true. No condition.
-/
import Derived.Test.YtjgkhpkligodkaaRows
import Derived.Test.YtjgkhpkligodkaaPad
import Derived.WalkKit
import Derived.ProofKit
import Derived.OpenShut
import Derived.ShutString
import Derived.ChangeOld
import Derived.Below
namespace Go.Proofs.Ytjgkhpkligodkaa.padSums
open Go.ChangeShapes Go.WideShapes Go.ChangeAt Go.RowKit
open Go.ChangeMaps (open_string shut_string)
set_option linter.unusedVariables false

theorem own : ownKnob Try.prog.godebug = none := by kernel_rfl

theorem walk (a0 : Int) (a1 : Int) (w : World) (w0 : (Lit.int .i64 a0).wf = true) (w1 : (Lit.int .i64 a1).wf = true) :
    Calls Try.prog 6 #[.int .i64 a0, .int .i64 a1] w fun e w' => e = .returned (.bool true) ∧ Below w.heap.size w w' := by
  have h0 : 0 ≤ a0 % 32768 := by omega
  have h1 : a0 % 32768 < 32768 := by omega
  have h2 : 0 ≤ a1 % 32768 := by omega
  have h3 : a1 % 32768 < 32768 := by omega
  go_enter Try.func6, Try.ntmps6
  go_wp2_with fail
  refine (Pad.awake _).mono ?_
  rintro e v1 ⟨rfl, b1⟩
  go_wp2_with fail
  simp only [Plain.and15]
  generalize a0 % 32768 = x at *
  generalize a1 % 32768 = y at *
  have h4 := Int.mul_nonneg h0 h2
  have h5 : x * y ≤ 1073741824 := by
    have := Int.mul_le_mul (Int.le_of_lt h1) (Int.le_of_lt h3) h2 (by decide : (0 : Int) ≤ 32768)
    omega
  have h6 : Hid (y * x = x * y) := Int.mul_comm _ _
  have h7 : Hid (y + x = x + y) := Int.add_comm _ _
  refine (Pad.add_yes _ h0 h2 (by omega)).mono ?_
  rintro e v2 ⟨rfl, b2⟩
  go_wp2_with fail
  refine (Pad.add_yes _ h2 h0 (by omega)).mono ?_
  rintro e v3 ⟨rfl, b3⟩
  rw [h7.out]
  go_wp2_with fail
  refine (Pad.mul_yes _ h0 (by omega) h2 (by omega) (by omega)).mono ?_
  rintro e v4 ⟨rfl, b4⟩
  go_wp2_with fail
  refine (Pad.mul_yes _ h2 (by omega) h0 (by omega) (by rw [h6.out]; omega)).mono ?_
  rintro e v5 ⟨rfl, b5⟩
  rw [h6.out]
  go_wp2_with (go_at_call 14; refine (Pad.num _ _).mono ?_; rintro e w' ⟨rfl, rfl⟩)
  go_ret
  exact ⟨rfl, Pad.bel b1 (Pad.bel b2 (Pad.bel b3 (Pad.bel b4 b5)))⟩

set_option maxRecDepth 100000 in
theorem lifted (os : Os) (started : os.Started) (H : Type) (enc : TypeId × Value → H) :
    ReturnsInHanded {} Try.checked os 6 .any (Rows.padSumsSpec.pre6 enc Try.prog Try.f6 Rows.padSumsRow.domain false) (Rows.padSumsSpec.post enc Try.prog Try.f6 false true false false) := by
  refine returnsInHanded_of_change (C := Try.checked) own started (by kernel_rfl) Try.func6
    (ChangeSpec.witness6 (enc := enc) (C := Try.checked) false ⟨#[], #[.int .i64 0, .int .i64 0], []⟩ 8 (by kernel_rfl) (by kernel_rfl) (by kernel_rfl) (by kernel_rfl)) ?_
  intro W base args ds gs before hval0 hW hcnd _
  have hval : ∀ (j : Nat) t v, Try.f6.params[j]? = some t → args[j]? = some v → Value.okWide Try.prog W .any base t v := hval0
  have hW' := hW
  obtain ⟨p, q, hA0, hV, rfl, hfz, hnd⟩ := hW
  have hA : DataW.TrodAll enc Try.prog W 0 (fun _ => true) true Try.f6.params.toList args.toList ds p := hA0
  rw [Try.params6] at hA hval
  obtain ⟨v0, vs0, d0, ds0, p0, q0, hargs, rfl, rfl, h0, r0⟩ := trodAll_cons hA
  obtain ⟨v1, vs1, d1, ds1, p1, q1, rfl, rfl, rfl, h1, r1⟩ := trodAll_cons r0
  obtain ⟨rfl, rfl, rfl⟩ := trodAll_nil r1
  obtain rfl : args = #[v0, v1] := by cases args; simp_all
  obtain ⟨rfl, rfl⟩ := trodVars_none hV
  obtain ⟨a0, rfl, rfl, rfl, w0⟩ := open_int Try.underlying3 (hval 0 3 v0 rfl rfl) h0
  obtain ⟨a1, rfl, rfl, rfl, w1⟩ := open_int Try.underlying3 (hval 1 3 v1 rfl rfl) h1
  clear hA0 hval0
  refine (walk a0 a1 W w0 w1).mono fun e W' ⟨he, bel⟩ => ?_
  subst he
  exact ⟨_, rfl, _, _, _, [], _, [], hW', trodAll_mk1 (shut_bool Try.underlying4 _), (trodAll_cons_mk (shut_int Try.underlying3 w0) (trodAll_cons_mk (shut_int Try.underlying3 w1) trodAll_mk0)), rfl, bel.frame _, fun h => by cases h⟩

theorem over : Rows.padSumsRow.holds Try.pinned (OpenSpec.ofChange Rows.padSumsSpec) :=
  OpenClaim.holds_of_wide 6 Try.f6 rfl rfl rfl rfl rfl rfl rfl ⟨rfl, rfl, rfl, rfl, rfl⟩ rfl rfl rfl rfl rfl (by kernel_rfl) Try.func6 (by kernel_rfl)
    (of_decide_eq_true (by kernel_rfl)) (by unfold Func.isWrapper; first | (rw [if_pos (by decide +kernel)]; kernel_rfl) | (rw [if_neg (by decide +kernel)]; exact ⟨rfl, rfl⟩))
    (fun os started H enc _ => lifted os started H enc)

end Go.Proofs.Ytjgkhpkligodkaa.padSums
namespace Go.Proofs.Ytjgkhpkligodkaa
theorem padSums_holds : Rows.PadSumsSaid := padSums.over
#print axioms padSums_holds
end Go.Proofs.Ytjgkhpkligodkaa
