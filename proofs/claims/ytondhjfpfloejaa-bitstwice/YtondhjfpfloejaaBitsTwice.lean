/-
  For every text and three ints, a copy of a part of a copy of bits is the copy of that part itself: quiverlaw2.BitsTwice returns true. No condition.
-/
import Derived.Test.YtondhjfpfloejaaRows
import Derived.WalkKit
import Derived.ProofKit
import Derived.OpenShut
import Derived.ShutString
import Derived.ChangeOld
import Derived.Below
import Derived.SizedLaws
import Derived.Test.YtondhjfpfloejaaPlain
import Derived.Test.YtondhjfpfloejaaCopy
namespace Go.Proofs.Ytondhjfpfloejaa.bitsTwice
open Go.ChangeShapes Go.WideShapes Go.ChangeAt Go.RowKit
open Go.ChangeMaps (open_string shut_string)
set_option linter.unusedVariables false

theorem own : ownKnob Try.prog.godebug = none := by kernel_rfl

set_option maxHeartbeats 1000000 in
theorem walk (a0 : ByteArray) (a1 : Int) (a2 : Int) (a3 : Int) (w : World) (w0 : a0.size ≤ maxLen) (w1 : (Lit.int .i64 a1).wf = true) (w2 : (Lit.int .i64 a2).wf = true) (w3 : (Lit.int .i64 a3).wf = true) (s0 : a0.size ≤ 140737488351232) :
    Calls Try.prog 8 #[.string a0, .int .i64 a1, .int .i64 a2, .int .i64 a3] w fun e w' => e = .returned (.bool true) ∧ Below w.heap.size w w' := by
  obtain ⟨i, hi, i0, i1⟩ := Plain.rest a1 (8 * (a0.size : Int) + 1) (by omega)
  obtain ⟨k, hk, k0, k1⟩ := Plain.rest a2 (8 * (a0.size : Int) - i + 1) (by omega)
  obtain ⟨j, hj, j0, j1⟩ := Plain.rest a3 (k + 1) (by omega)
  go_enter Try.func8, Try.ntmps8
  go_wp2_with fail
  refine (Bit.awake _).mono ?_
  rintro e v1 ⟨rfl, b1⟩
  go_wp2_with fail
  refine (Bit.copy_yes _ _ _ _ s0 (by omega) (by omega) (by omega)).mono ?_
  rintro e v2 ⟨rfl, b2⟩
  have hl : (ByteArray.mk (Plain.cpy a0.data.toList i.toNat k.toNat).toArray).size = (k.toNat + 7) / 8 := by
    rw [← Plain.length_cpy a0.data.toList i.toNat k.toNat]; rfl
  have HE : Hid (Plain.cpy (ByteArray.mk (Plain.cpy a0.data.toList i.toNat k.toNat).toArray).data.toList j.toNat (k - j).toNat = Plain.cpy a0.data.toList (i + j).toNat (k - j).toNat) := by
    show Plain.cpy (Plain.cpy a0.data.toList i.toNat k.toNat) j.toNat (k - j).toNat = _
    rw [show (k - j).toNat = k.toNat - j.toNat from by omega, Plain.cpy_cpy _ _ _ _ (by omega), show i.toNat + j.toNat = (i + j).toNat from by omega]
  generalize ByteArray.mk (Plain.cpy a0.data.toList i.toNat k.toNat).toArray = t at *
  have hl2 : 8 * (t.size : Int) ≥ k := by omega
  have hl3 : t.size ≤ 140737488351232 := by omega
  clear hl
  go_wp2_with fail
  refine (Bit.copy_yes _ _ _ _ hl3 (by omega) (by omega) (by omega)).mono ?_
  rintro e v3 ⟨rfl, b3⟩
  rw [HE.out]
  go_wp2_with fail
  refine (Bit.copy_yes _ _ _ _ s0 (by omega) (by omega) (by omega)).mono ?_
  rintro e v4 ⟨rfl, b4⟩
  generalize (Plain.cpy a0.data.toList (i + j).toNat (k - j).toNat).toArray = u at *
  go_wp2_with (go_at_call 17; refine (Bit.num _ _).mono ?_; rintro e w' ⟨rfl, rfl⟩)
  go_ret
  exact ⟨rfl, Bit.bel b1 (Bit.bel b2 (Bit.bel b3 b4))⟩

set_option maxRecDepth 100000 in
theorem lifted (os : Os) (started : os.Started) (H : Type) (enc : TypeId × Value → H) :
    ReturnsInHanded {} Try.checked os 8 .any (Rows.bitsTwiceSpec.pre6 enc Try.prog Try.f8 Rows.bitsTwiceRow.domain false) (Rows.bitsTwiceSpec.post enc Try.prog Try.f8 false true false false) := by
  refine returnsInHanded_of_change_sized (C := Try.checked) own started (by kernel_rfl) Try.func8
    (ChangeSpec.witness6 (enc := enc) (C := Try.checked) false ⟨#[], #[.string ByteArray.empty, .int .i64 0, .int .i64 0, .int .i64 0], []⟩ 8 (by kernel_rfl) (by kernel_rfl) (by kernel_rfl) (by kernel_rfl)) ?_
  intro W base args ds gs before hval0 hW hcnd hsz0 _
  have hsz : (DataW.weightsEach Try.prog (Try.f8.params.toList ++ Rows.bitsTwiceSpec.plain.varTypes Try.prog) (ds ++ gs)).all (· ≤ reachBytes) = true := hsz0
  clear hsz0
  have hval : ∀ (j : Nat) t v, Try.f8.params[j]? = some t → args[j]? = some v → Value.okWide Try.prog W .any base t v := hval0
  have hW' := hW
  obtain ⟨p, q, hA0, hV, rfl, hfz, hnd⟩ := hW
  have hA : DataW.TrodAll enc Try.prog W 0 (fun _ => true) true Try.f8.params.toList args.toList ds p := hA0
  rw [Try.params8] at hA hval hsz
  obtain ⟨v0, vs0, d0, ds0, p0, q0, hargs, rfl, rfl, h0, r0⟩ := trodAll_cons hA
  obtain ⟨v1, vs1, d1, ds1, p1, q1, rfl, rfl, rfl, h1, r1⟩ := trodAll_cons r0
  obtain ⟨v2, vs2, d2, ds2, p2, q2, rfl, rfl, rfl, h2, r2⟩ := trodAll_cons r1
  obtain ⟨v3, vs3, d3, ds3, p3, q3, rfl, rfl, rfl, h3, r3⟩ := trodAll_cons r2
  obtain ⟨rfl, rfl, rfl⟩ := trodAll_nil r3
  obtain rfl : args = #[v0, v1, v2, v3] := by cases args; simp_all
  obtain ⟨rfl, rfl⟩ := trodVars_none hV
  obtain ⟨a0, rfl, rfl, rfl, w0⟩ := open_string Try.underlying9 (hval 0 9 v0 rfl rfl) h0
  obtain ⟨a1, rfl, rfl, rfl, w1⟩ := open_int Try.underlying3 (hval 1 3 v1 rfl rfl) h1
  obtain ⟨a2, rfl, rfl, rfl, w2⟩ := open_int Try.underlying3 (hval 2 3 v2 rfl rfl) h2
  obtain ⟨a3, rfl, rfl, rfl, w3⟩ := open_int Try.underlying3 (hval 3 3 v3 rfl rfl) h3
  have s0 : a0.size ≤ 140737488351232 := by have := sized_string hsz (j := 0) (t := 9) rfl rfl; simpa [reachBytes] using this
  clear hA0 hval0
  refine (walk a0 a1 a2 a3 W w0 w1 w2 w3 s0).mono fun e W' ⟨he, bel⟩ => ?_
  subst he
  exact ⟨_, rfl, _, _, _, [], _, [], hW', trodAll_mk1 (shut_bool Try.underlying4 _), (trodAll_cons_mk (shut_string Try.underlying9 w0) (trodAll_cons_mk (shut_int Try.underlying3 w1) (trodAll_cons_mk (shut_int Try.underlying3 w2) (trodAll_cons_mk (shut_int Try.underlying3 w3) trodAll_mk0)))), rfl, bel.frame _, fun h => by cases h⟩

theorem over : Rows.bitsTwiceRow.holds Try.pinned (OpenSpec.ofChange Rows.bitsTwiceSpec) :=
  OpenClaim.holds_of_wide 8 Try.f8 rfl rfl rfl rfl rfl rfl rfl ⟨rfl, rfl, rfl, rfl, rfl⟩ rfl rfl rfl rfl rfl (by kernel_rfl) Try.func8 (by kernel_rfl)
    (of_decide_eq_true (by kernel_rfl)) (by unfold Func.isWrapper; first | (rw [if_pos (by decide +kernel)]; kernel_rfl) | (rw [if_neg (by decide +kernel)]; exact ⟨rfl, rfl⟩))
    (fun os started H enc _ => lifted os started H enc)

end Go.Proofs.Ytondhjfpfloejaa.bitsTwice
namespace Go.Proofs.Ytondhjfpfloejaa
theorem bitsTwice_holds : Rows.BitsTwiceSaid := bitsTwice.over
#print axioms bitsTwice_holds
end Go.Proofs.Ytondhjfpfloejaa
