/-
  For every two ints, numbers, sizes, places and bytes that are none are refused as ErrNumForm: quiverlaw3.NumForms returns true.
-/
import Derived.Test.YtlbchabmjegobaaRows
import Derived.WalkKit
import Derived.ProofKit
import Derived.OpenShut
import Derived.ShutString
import Derived.ChangeOld
import Derived.Below
import Derived.SizedLaws
import Derived.Test.YtlbchabmjegobaaPlain
import Derived.Test.YtlbchabmjegobaaAwake
namespace Go.Proofs.Ytlbchabmjegobaa.numForms
open Go.ChangeShapes Go.WideShapes Go.ChangeAt Go.RowKit
open Go.ChangeMaps (open_string shut_string)
set_option linter.unusedVariables false

theorem own : ownKnob Try.prog.godebug = none := by kernel_rfl

/-- One of two numbers that are none. -/
theorem two (d : Int) (h0 : 0 ≤ d) (j : Nat) (hj : j < 2) : ∃ z : Int, (∀ h : j < [Value.int IntKind.i64 (-(1 + d)), Value.int IntKind.i64 (2147483647 + (1 + d))].length, ([Value.int IntKind.i64 (-(1 + d)), Value.int IntKind.i64 (2147483647 + (1 + d))])[j]'h = .int .i64 z) ∧ Hid (¬ (0 ≤ z ∧ z ≤ 2147483647)) := by
  match j, hj with
  | 0, _ => exact ⟨_, fun _ => rfl, by unfold Hid; omega⟩
  | 1, _ => exact ⟨_, fun _ => rfl, by unfold Hid; omega⟩
/-- One of eight sizes that are none. -/
theorem eight (d : Int) (h0 : 0 ≤ d) (j : Nat) (hj : j < 8) : ∃ z : Int, (∀ h : j < [Value.int IntKind.i64 0, Value.int IntKind.i64 1, Value.int IntKind.i64 3, Value.int IntKind.i64 5, Value.int IntKind.i64 7, Value.int IntKind.i64 9, Value.int IntKind.i64 (-4), Value.int IntKind.i64 (8 + (1 + d))].length, ([Value.int IntKind.i64 0, Value.int IntKind.i64 1, Value.int IntKind.i64 3, Value.int IntKind.i64 5, Value.int IntKind.i64 7, Value.int IntKind.i64 9, Value.int IntKind.i64 (-4), Value.int IntKind.i64 (8 + (1 + d))])[j]'h = .int .i64 z) ∧ Hid (¬ (z = 4 ∨ z = 8)) := by
  match j, hj with
  | 0, _ => exact ⟨_, fun _ => rfl, by unfold Hid; omega⟩
  | 1, _ => exact ⟨_, fun _ => rfl, by unfold Hid; omega⟩
  | 2, _ => exact ⟨_, fun _ => rfl, by unfold Hid; omega⟩
  | 3, _ => exact ⟨_, fun _ => rfl, by unfold Hid; omega⟩
  | 4, _ => exact ⟨_, fun _ => rfl, by unfold Hid; omega⟩
  | 5, _ => exact ⟨_, fun _ => rfl, by unfold Hid; omega⟩
  | 6, _ => exact ⟨_, fun _ => rfl, by unfold Hid; omega⟩
  | 7, _ => exact ⟨_, fun _ => rfl, by unfold Hid; omega⟩
/-- One of eight texts that are none. -/
theorem texts (j : Nat) (hj : j < 8) : ∃ s : ByteArray, (∀ h : j < [Value.string { data := #[] }, Value.string { data := #[128] }, Value.string { data := #[255, 255] }, Value.string { data := #[128, 0] }, Value.string { data := #[255, 255, 255, 255, 8] }, Value.string { data := #[255, 255, 255, 255, 255, 1] }, Value.string { data := #[129, 128, 0] }, Value.string { data := #[128, 128, 128, 128, 128, 0] }].length, ([Value.string { data := #[] }, Value.string { data := #[128] }, Value.string { data := #[255, 255] }, Value.string { data := #[128, 0] }, Value.string { data := #[255, 255, 255, 255, 8] }, Value.string { data := #[255, 255, 255, 255, 255, 1] }, Value.string { data := #[129, 128, 0] }, Value.string { data := #[128, 128, 128, 128, 128, 0] }])[j]'h = .string s) ∧ Hid (∀ w, Calls Try.prog 14 #[.string s, .int .i64 0] w fun r w' => r = .returned (.tuple #[.int .i64 0, .int .i64 0, .int .i64 300]) ∧ w' = w) := by
  match j, hj with
  | 0, _ => exact ⟨_, fun _ => rfl, fun w => Fix.getVar_out _ _ w (by decide) (by decide)⟩
  | 1, _ => exact ⟨_, fun _ => rfl, fun w => Fix.getVar_in _ 0 0 0 300 w (by decide) (by decide) (by unfold Hid; decide +kernel)⟩
  | 2, _ => exact ⟨_, fun _ => rfl, fun w => Fix.getVar_in _ 0 0 0 300 w (by decide) (by decide) (by unfold Hid; decide +kernel)⟩
  | 3, _ => exact ⟨_, fun _ => rfl, fun w => Fix.getVar_in _ 0 0 0 300 w (by decide) (by decide) (by unfold Hid; decide +kernel)⟩
  | 4, _ => exact ⟨_, fun _ => rfl, fun w => Fix.getVar_in _ 0 0 0 300 w (by decide) (by decide) (by unfold Hid; decide +kernel)⟩
  | 5, _ => exact ⟨_, fun _ => rfl, fun w => Fix.getVar_in _ 0 0 0 300 w (by decide) (by decide) (by unfold Hid; decide +kernel)⟩
  | 6, _ => exact ⟨_, fun _ => rfl, fun w => Fix.getVar_in _ 0 0 0 300 w (by decide) (by decide) (by unfold Hid; decide +kernel)⟩
  | 7, _ => exact ⟨_, fun _ => rfl, fun w => Fix.getVar_in _ 0 0 0 300 w (by decide) (by decide) (by unfold Hid; decide +kernel)⟩

set_option maxRecDepth 20000 in
set_option maxHeartbeats 4000000 in
theorem walk (a0 : Int) (a1 : Int) (w : World) (w0 : (Lit.int .i64 a0).wf = true) (w1 : (Lit.int .i64 a1).wf = true) :
    Calls Try.prog 5 #[.int .i64 a0, .int .i64 a1] w fun e w' => e = .returned (.bool true) ∧ Below w.heap.size w w' := by
  have h0 : 0 ≤ a1 % 1024 := by omega
  have h1 : a1 % 1024 < 1024 := by omega
  have hd : bits .and .i64 a1 1023 = a1 % 1024 := Plain.and10 a1
  generalize a1 % 1024 = d at *
  clear w0 w1
  obtain ⟨j, hj, hjl⟩ : ∃ j : Nat, bits .and .i64 a0 1 = (j : Int) ∧ j < 2 := ⟨(a0 % 2).toNat, by rw [Plain.and1]; omega, by omega⟩
  obtain ⟨k, hk, hkl⟩ : ∃ k : Nat, bits .and .i64 a0 7 = (k : Int) ∧ k < 8 := ⟨(a0 % 8).toNat, by rw [Plain.and3]; omega, by omega⟩
  obtain ⟨m, hm, hml⟩ : ∃ m : Nat, bits .and .i64 (a0 / 8) 7 = (m : Int) ∧ m < 8 := ⟨(a0 / 8 % 8).toNat, by rw [Plain.and3]; omega, by omega⟩
  obtain ⟨z, hz, HZ⟩ := two d h0 j hjl
  obtain ⟨y, hy, HY⟩ := eight d h0 k hkl
  obtain ⟨s, hs, HS⟩ := texts m hml
  go_enter Try.func5, Try.ntmps5
  go_wp2_with fail
  refine (Fix.awake _).mono ?_
  rintro e v1 ⟨rfl, b1⟩
  go_wp2_with fail
  have b2 : Below v1.heap.size v1 (v1.alloc (Obj.cells #[Value.int IntKind.i64 (-(1 + d)), Value.int IntKind.i64 (2147483647 + (1 + d))] 3)) := (Below.refl _ _).alloc (Nat.le_refl _) _
  generalize v1.alloc (Obj.cells #[Value.int IntKind.i64 (-(1 + d)), Value.int IntKind.i64 (2147483647 + (1 + d))] 3) = v2 at *
  refine (Fix.put_no _ _ _ (by have := HZ.out; omega)).mono ?_
  rintro e v3 ⟨rfl, rfl⟩
  go_wp2_with fail
  have b4 : Below v3.heap.size v3 (v3.alloc (Obj.cells #[Value.int IntKind.i64 0, Value.int IntKind.i64 1, Value.int IntKind.i64 3, Value.int IntKind.i64 5, Value.int IntKind.i64 7, Value.int IntKind.i64 9, Value.int IntKind.i64 (-4), Value.int IntKind.i64 (8 + (1 + d))] 3)) := (Below.refl _ _).alloc (Nat.le_refl _) _
  generalize v3.alloc (Obj.cells #[Value.int IntKind.i64 0, Value.int IntKind.i64 1, Value.int IntKind.i64 3, Value.int IntKind.i64 5, Value.int IntKind.i64 7, Value.int IntKind.i64 9, Value.int IntKind.i64 (-4), Value.int IntKind.i64 (8 + (1 + d))] 3) = v4 at *
  refine (Fix.put_no _ _ _ (by have := HY.out; omega)).mono ?_
  rintro e v5 ⟨rfl, rfl⟩
  go_wp2_with fail
  have b6 : Below v5.heap.size v5 (v5.alloc (Obj.cells #[Value.int IntKind.i64 (-(1 + d)), Value.int IntKind.i64 (2147483647 + (1 + d))] 3)) := (Below.refl _ _).alloc (Nat.le_refl _) _
  generalize v5.alloc (Obj.cells #[Value.int IntKind.i64 (-(1 + d)), Value.int IntKind.i64 (2147483647 + (1 + d))] 3) = v6 at *
  refine (Fix.putVar_no _ _ HZ.out).mono ?_
  rintro e v7 ⟨rfl, rfl⟩
  go_wp2_with fail
  refine (Fix.get_no _ _ _ _ (by decide) (by omega)).mono ?_
  rintro e v8 ⟨rfl, rfl⟩
  go_wp2_with fail
  refine (Fix.get_no _ _ _ _ (by decide) (by rw [show (ByteArray.mk #[1, 2, 3, 4, 5, 6, 7, 8]).size = 8 from rfl]; omega)).mono ?_
  rintro e v9 ⟨rfl, rfl⟩
  go_wp2_with fail
  refine (Fix.get_no _ _ _ _ (by decide) (by rw [show (ByteArray.mk #[1, 2, 3, 4, 5, 6, 7, 8]).size = 8 from rfl]; omega)).mono ?_
  rintro e v10 ⟨rfl, rfl⟩
  go_wp2_with fail
  have b11 : Below v10.heap.size v10 (v10.alloc (Obj.cells #[Value.int IntKind.i64 0, Value.int IntKind.i64 1, Value.int IntKind.i64 3, Value.int IntKind.i64 5, Value.int IntKind.i64 7, Value.int IntKind.i64 9, Value.int IntKind.i64 (-4), Value.int IntKind.i64 (8 + (1 + d))] 3)) := (Below.refl _ _).alloc (Nat.le_refl _) _
  generalize v10.alloc (Obj.cells #[Value.int IntKind.i64 0, Value.int IntKind.i64 1, Value.int IntKind.i64 3, Value.int IntKind.i64 5, Value.int IntKind.i64 7, Value.int IntKind.i64 9, Value.int IntKind.i64 (-4), Value.int IntKind.i64 (8 + (1 + d))] 3) = v11 at *
  refine (Fix.get_no _ _ _ _ (by decide) (by have := HY.out; omega)).mono ?_
  rintro e v12 ⟨rfl, rfl⟩
  go_wp2_with fail
  refine (Fix.get4_no _ 0 _ (by decide) (by decide) (by decide +kernel)).mono ?_
  rintro e v13 ⟨rfl, rfl⟩
  go_wp2_with fail
  have b14 : Below v13.heap.size v13 (v13.alloc (Obj.cells #[Value.string { data := #[] }, Value.string { data := #[128] }, Value.string { data := #[255, 255] }, Value.string { data := #[128, 0] }, Value.string { data := #[255, 255, 255, 255, 8] }, Value.string { data := #[255, 255, 255, 255, 255, 1] }, Value.string { data := #[129, 128, 0] }, Value.string { data := #[128, 128, 128, 128, 128, 0] }] 9)) := (Below.refl _ _).alloc (Nat.le_refl _) _
  generalize v13.alloc (Obj.cells #[Value.string { data := #[] }, Value.string { data := #[128] }, Value.string { data := #[255, 255] }, Value.string { data := #[128, 0] }, Value.string { data := #[255, 255, 255, 255, 8] }, Value.string { data := #[255, 255, 255, 255, 255, 1] }, Value.string { data := #[129, 128, 0] }, Value.string { data := #[128, 128, 128, 128, 128, 0] }] 9) = v14 at *
  refine (HS.out _).mono ?_
  rintro e v15 ⟨rfl, rfl⟩
  go_wp2_with fail
  refine (Fix.getVar_out _ _ _ (by decide) (by decide)).mono ?_
  rintro e v16 ⟨rfl, rfl⟩
  go_wp2_with fail
  refine (Fix.getVar_out _ _ _ (by decide) (.inl (by omega))).mono ?_
  rintro e v17 ⟨rfl, rfl⟩
  go_wp2_with (go_at_call 16; refine (Fix.num _ _).mono ?_; rintro e w' ⟨rfl, rfl⟩)
  go_ret
  exact ⟨rfl, Fix.bel b1 (Fix.bel b2 (Fix.bel b4 (Fix.bel b6 (Fix.bel b11 b14))))⟩

set_option maxRecDepth 100000 in
theorem lifted (os : Os) (started : os.Started) (H : Type) (enc : TypeId × Value → H) :
    ReturnsInHanded {} Try.checked os 5 .any (Rows.numFormsSpec.pre6 enc Try.prog Try.f5 Rows.numFormsRow.domain false) (Rows.numFormsSpec.post enc Try.prog Try.f5 false true false false) := by
  refine returnsInHanded_of_change (C := Try.checked) own started (by kernel_rfl) Try.func5
    (ChangeSpec.witness6 (enc := enc) (C := Try.checked) false ⟨#[], #[.int .i64 0, .int .i64 0], []⟩ 8 (by kernel_rfl) (by kernel_rfl) (by kernel_rfl) (by kernel_rfl)) ?_
  intro W base args ds gs before hval0 hW hcnd _
  have hval : ∀ (j : Nat) t v, Try.f5.params[j]? = some t → args[j]? = some v → Value.okWide Try.prog W .any base t v := hval0
  have hW' := hW
  obtain ⟨p, q, hA0, hV, rfl, hfz, hnd⟩ := hW
  have hA : DataW.TrodAll enc Try.prog W 0 (fun _ => true) true Try.f5.params.toList args.toList ds p := hA0
  rw [Try.params5] at hA hval
  obtain ⟨v0, vs0, d0, ds0, p0, q0, hargs, rfl, rfl, h0, r0⟩ := trodAll_cons hA
  obtain ⟨v1, vs1, d1, ds1, p1, q1, rfl, rfl, rfl, h1, r1⟩ := trodAll_cons r0
  obtain ⟨rfl, rfl, rfl⟩ := trodAll_nil r1
  obtain rfl : args = #[v0, v1] := by cases args; simp_all
  obtain ⟨rfl, rfl⟩ := trodVars_none hV
  obtain ⟨a0, rfl, rfl, rfl, w0⟩ := open_int Try.underlying3 (hval 0 3 v0 rfl rfl) h0
  obtain ⟨a1, rfl, rfl, rfl, w1⟩ := open_int Try.underlying3 (hval 1 3 v1 rfl rfl) h1
  clear hA0 hval0
  refine (walk a0 a1 W w0 w1).mono fun e W' ⟨he, bel⟩ => ?_
  subst he
  exact ⟨_, rfl, _, _, _, [], _, [], hW', trodAll_mk1 (shut_bool Try.underlying4 _), (trodAll_cons_mk (shut_int Try.underlying3 w0) (trodAll_cons_mk (shut_int Try.underlying3 w1) trodAll_mk0)), rfl, bel.frame _, fun h => by cases h⟩

theorem over : Rows.numFormsRow.holds Try.pinned (OpenSpec.ofChange Rows.numFormsSpec) :=
  OpenClaim.holds_of_wide 5 Try.f5 rfl rfl rfl rfl rfl rfl rfl ⟨rfl, rfl, rfl, rfl, rfl⟩ rfl rfl rfl rfl rfl (by kernel_rfl) Try.func5 (by kernel_rfl)
    (of_decide_eq_true (by kernel_rfl)) (by unfold Func.isWrapper; first | (rw [if_pos (by decide +kernel)]; kernel_rfl) | (rw [if_neg (by decide +kernel)]; exact ⟨rfl, rfl⟩))
    (fun os started H enc _ => lifted os started H enc)

end Go.Proofs.Ytlbchabmjegobaa.numForms
namespace Go.Proofs.Ytlbchabmjegobaa
theorem numForms_holds : Rows.NumFormsSaid := numForms.over
#print axioms numForms_holds
end Go.Proofs.Ytlbchabmjegobaa
