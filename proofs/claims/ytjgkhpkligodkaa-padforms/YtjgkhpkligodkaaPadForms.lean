/-
  For every two ints, numbers below 0 or above Most are refused by pad.Up, pad.Add and pad.Mul: quiverlaw1.PadForms returns true. No condition.
-/
import Derived.Test.YtjgkhpkligodkaaRows
import Derived.Test.YtjgkhpkligodkaaPad
import Derived.WalkKit
import Derived.ProofKit
import Derived.OpenShut
import Derived.ShutString
import Derived.ChangeOld
import Derived.Below
namespace Go.Proofs.Ytjgkhpkligodkaa.padForms
open Go.ChangeShapes Go.WideShapes Go.ChangeAt Go.RowKit
open Go.ChangeMaps (open_string shut_string)
set_option linter.unusedVariables false

theorem own : ownKnob Try.prog.godebug = none := by kernel_rfl

theorem walk (a0 : Int) (a1 : Int) (w : World) (w0 : (Lit.int .i64 a0).wf = true) (w1 : (Lit.int .i64 a1).wf = true) :
    Calls Try.prog 5 #[.int .i64 a0, .int .i64 a1] w fun e w' => e = .returned (.bool true) ∧ Below w.heap.size w w' := by
  have h0 : 0 ≤ a1 % 1024 := by omega
  have h1 : a1 % 1024 < 1024 := by omega
  have hd : bits .and .i64 a1 1023 = a1 % 1024 := Plain.and10 a1
  generalize a1 % 1024 = d at *
  have hb : bits .and .i64 a0 1 = 0 ∨ bits .and .i64 a0 1 = 1 := by rw [Plain.and1]; omega
  rcases hb with hb | hb
  · go_enter Try.func5, Try.ntmps5
    go_wp2_with fail
    refine (Pad.awake _).mono ?_
    rintro e v1 ⟨rfl, b1⟩
    go_wp2_with fail
    have hbad : Hid (-(1 + d) < 0 ∨ 2147483647 < -(1 + d)) := by unfold Hid; omega
    have b2 : Below v1.heap.size v1 (v1.alloc (Obj.cells #[Value.int IntKind.i64 (-(1 + d)), Value.int IntKind.i64 (2147483647 + (1 + d))] 3)) := (Below.refl _ _).alloc (Nat.le_refl _) _
    generalize v1.alloc (Obj.cells #[Value.int IntKind.i64 (-(1 + d)), Value.int IntKind.i64 (2147483647 + (1 + d))] 3) = v2 at *
    generalize -(1 + d) = b at *
    have hbad' := hbad.out
    refine (Pad.up_no _ (by omega)).mono ?_
    clear hbad'
    rintro e v3 ⟨rfl, b3⟩
    go_wp2_with fail
    refine (Pad.add_no _ (by have := hbad.out; omega)).mono ?_
    rintro e v4 ⟨rfl, b4⟩
    go_wp2_with fail
    refine (Pad.add_no _ (by have := hbad.out; omega)).mono ?_
    rintro e v5 ⟨rfl, b5⟩
    go_wp2_with fail
    refine (Pad.mul_no _ (by have := hbad.out; omega)).mono ?_
    rintro e v6 ⟨rfl, b6⟩
    go_wp2_with fail
    refine (Pad.mul_no _ (by have := hbad.out; omega)).mono ?_
    rintro e v7 ⟨rfl, b7⟩
    go_wp2_with fail
    refine (Pad.up_no _ (by decide)).mono ?_
    rintro e v8 ⟨rfl, b8⟩
    go_wp2_with fail
    refine (Pad.up_no _ (by decide)).mono ?_
    rintro e v9 ⟨rfl, b9⟩
    go_wp2_with fail
    refine (Pad.mul_yes _ (by decide) (by decide) (by decide) (by decide) (by decide)).mono ?_
    rintro e v10 ⟨rfl, b10⟩
    rw [show (0 : Int) * 2147483647 = 0 from by decide]
    go_wp2_with (go_at_call 14; refine (Pad.num _ _).mono ?_; rintro e w' ⟨rfl, rfl⟩)
    go_ret
    exact ⟨rfl, Pad.bel b1 (Pad.bel b2 (Pad.bel b3 (Pad.bel b4 (Pad.bel b5 (Pad.bel b6 (Pad.bel b7 (Pad.bel b8 (Pad.bel b9 b10))))))))⟩
  · go_enter Try.func5, Try.ntmps5
    go_wp2_with fail
    refine (Pad.awake _).mono ?_
    rintro e v1 ⟨rfl, b1⟩
    go_wp2_with fail
    have hbad : Hid (2147483647 + (1 + d) < 0 ∨ 2147483647 < 2147483647 + (1 + d)) := by unfold Hid; omega
    have b2 : Below v1.heap.size v1 (v1.alloc (Obj.cells #[Value.int IntKind.i64 (-(1 + d)), Value.int IntKind.i64 (2147483647 + (1 + d))] 3)) := (Below.refl _ _).alloc (Nat.le_refl _) _
    generalize v1.alloc (Obj.cells #[Value.int IntKind.i64 (-(1 + d)), Value.int IntKind.i64 (2147483647 + (1 + d))] 3) = v2 at *
    generalize 2147483647 + (1 + d) = b at *
    have hbad' := hbad.out
    refine (Pad.up_no _ (by omega)).mono ?_
    clear hbad'
    rintro e v3 ⟨rfl, b3⟩
    go_wp2_with fail
    refine (Pad.add_no _ (by have := hbad.out; omega)).mono ?_
    rintro e v4 ⟨rfl, b4⟩
    go_wp2_with fail
    refine (Pad.add_no _ (by have := hbad.out; omega)).mono ?_
    rintro e v5 ⟨rfl, b5⟩
    go_wp2_with fail
    refine (Pad.mul_no _ (by have := hbad.out; omega)).mono ?_
    rintro e v6 ⟨rfl, b6⟩
    go_wp2_with fail
    refine (Pad.mul_no _ (by have := hbad.out; omega)).mono ?_
    rintro e v7 ⟨rfl, b7⟩
    go_wp2_with fail
    refine (Pad.up_no _ (by decide)).mono ?_
    rintro e v8 ⟨rfl, b8⟩
    go_wp2_with fail
    refine (Pad.up_no _ (by decide)).mono ?_
    rintro e v9 ⟨rfl, b9⟩
    go_wp2_with fail
    refine (Pad.mul_yes _ (by decide) (by decide) (by decide) (by decide) (by decide)).mono ?_
    rintro e v10 ⟨rfl, b10⟩
    rw [show (0 : Int) * 2147483647 = 0 from by decide]
    go_wp2_with (go_at_call 14; refine (Pad.num _ _).mono ?_; rintro e w' ⟨rfl, rfl⟩)
    go_ret
    exact ⟨rfl, Pad.bel b1 (Pad.bel b2 (Pad.bel b3 (Pad.bel b4 (Pad.bel b5 (Pad.bel b6 (Pad.bel b7 (Pad.bel b8 (Pad.bel b9 b10))))))))⟩

set_option maxRecDepth 100000 in
theorem lifted (os : Os) (started : os.Started) (H : Type) (enc : TypeId × Value → H) :
    ReturnsInHanded {} Try.checked os 5 .any (Rows.padFormsSpec.pre6 enc Try.prog Try.f5 Rows.padFormsRow.domain false) (Rows.padFormsSpec.post enc Try.prog Try.f5 false true false false) := by
  refine returnsInHanded_of_change (C := Try.checked) own started (by kernel_rfl) Try.func5
    (ChangeSpec.witness6 (enc := enc) (C := Try.checked) false ⟨#[], #[.int .i64 0, .int .i64 0], []⟩ 8 (by kernel_rfl) (by kernel_rfl) (by kernel_rfl) (by kernel_rfl)) ?_
  intro W base args ds gs before hval0 hW hcnd _
  have hval : ∀ (j : Nat) t v, Try.f5.params[j]? = some t → args[j]? = some v → Value.okWide Try.prog W .any base t v := hval0
  have hW' := hW
  obtain ⟨p, q, hA0, hV, rfl, hfz, hnd⟩ := hW
  have hA : DataW.TrodAll enc Try.prog W 0 (fun _ => true) true Try.f5.params.toList args.toList ds p := hA0
  rw [Try.params5] at hA hval
  obtain ⟨v0, vs0, d0, ds0, p0, q0, hargs, rfl, rfl, h0, r0⟩ := trodAll_cons hA
  obtain ⟨v1, vs1, d1, ds1, p1, q1, rfl, rfl, rfl, h1, r1⟩ := trodAll_cons r0
  obtain ⟨rfl, rfl, rfl⟩ := trodAll_nil r1
  obtain rfl : args = #[v0, v1] := by cases args; simp_all
  obtain ⟨rfl, rfl⟩ := trodVars_none hV
  obtain ⟨a0, rfl, rfl, rfl, w0⟩ := open_int Try.underlying3 (hval 0 3 v0 rfl rfl) h0
  obtain ⟨a1, rfl, rfl, rfl, w1⟩ := open_int Try.underlying3 (hval 1 3 v1 rfl rfl) h1
  clear hA0 hval0
  refine (walk a0 a1 W w0 w1).mono fun e W' ⟨he, bel⟩ => ?_
  subst he
  exact ⟨_, rfl, _, _, _, [], _, [], hW', trodAll_mk1 (shut_bool Try.underlying4 _), (trodAll_cons_mk (shut_int Try.underlying3 w0) (trodAll_cons_mk (shut_int Try.underlying3 w1) trodAll_mk0)), rfl, bel.frame _, fun h => by cases h⟩

theorem over : Rows.padFormsRow.holds Try.pinned (OpenSpec.ofChange Rows.padFormsSpec) :=
  OpenClaim.holds_of_wide 5 Try.f5 rfl rfl rfl rfl rfl rfl rfl ⟨rfl, rfl, rfl, rfl, rfl⟩ rfl rfl rfl rfl rfl (by kernel_rfl) Try.func5 (by kernel_rfl)
    (of_decide_eq_true (by kernel_rfl)) (by unfold Func.isWrapper; first | (rw [if_pos (by decide +kernel)]; kernel_rfl) | (rw [if_neg (by decide +kernel)]; exact ⟨rfl, rfl⟩))
    (fun os started H enc _ => lifted os started H enc)

end Go.Proofs.Ytjgkhpkligodkaa.padForms
namespace Go.Proofs.Ytjgkhpkligodkaa
theorem padForms_holds : Rows.PadFormsSaid := padForms.over
#print axioms padForms_holds
end Go.Proofs.Ytjgkhpkligodkaa
