/-
  For every text and two ints, the bits of a text's three parts that are 1 are together those of the whole: quiverlaw2.BitsParts returns true. No condition.
-/
import Derived.Test.YtondhjfpfloejaaRows
import Derived.WalkKit
import Derived.ProofKit
import Derived.OpenShut
import Derived.ShutString
import Derived.ChangeOld
import Derived.Below
import Derived.SizedLaws
import Derived.Test.YtondhjfpfloejaaPlain
import Derived.Test.YtondhjfpfloejaaCopy
namespace Go.Proofs.Ytondhjfpfloejaa.bitsParts
open Go.ChangeShapes Go.WideShapes Go.ChangeAt Go.RowKit
open Go.ChangeMaps (open_string shut_string)
set_option linter.unusedVariables false

theorem own : ownKnob Try.prog.godebug = none := by kernel_rfl

set_option maxHeartbeats 1000000 in
theorem walk (a0 : ByteArray) (a1 : Int) (a2 : Int) (w : World) (w0 : a0.size ≤ maxLen) (w1 : (Lit.int .i64 a1).wf = true) (w2 : (Lit.int .i64 a2).wf = true) (s0 : a0.size ≤ 140737488351232) :
    Calls Try.prog 7 #[.string a0, .int .i64 a1, .int .i64 a2] w fun e w' => e = .returned (.bool true) ∧ Below w.heap.size w w' := by
  obtain ⟨k, hk, k0, k1⟩ := Plain.rest a1 (8 * (a0.size : Int) + 1) (by omega)
  obtain ⟨m, hm, m0, m1⟩ := Plain.rest a2 (8 * (a0.size : Int) - k + 1) (by omega)
  go_enter Try.func7, Try.ntmps7
  go_wp2_with fail
  refine (Bit.awake _).mono ?_
  rintro e v1 ⟨rfl, b1⟩
  go_wp2_with fail
  refine (Bit.count_yes _ _ _ _ s0 (by omega) (by omega) (by omega)).mono ?_
  rintro e v2 ⟨rfl, b2⟩
  rw [show (0 : Int).toNat = 0 from rfl]
  go_wp2_with fail
  refine (Bit.count_yes _ _ _ _ s0 (by omega) (by omega) (by omega)).mono ?_
  rintro e v3 ⟨rfl, b3⟩
  go_wp2_with fail
  refine (Bit.count_yes _ _ _ _ s0 (by omega) (by omega) (by omega)).mono ?_
  rintro e v4 ⟨rfl, b4⟩
  go_wp2_with fail
  refine (Bit.count_yes _ _ _ _ s0 (by omega) (by omega) (by omega)).mono ?_
  rintro e v5 ⟨rfl, b5⟩
  rw [show (0 : Int).toNat = 0 from rfl]
  have l1 := Plain.cnt_le a0.data.toList 0 k.toNat
  have l2 := Plain.cnt_le a0.data.toList k.toNat m.toNat
  have l3 := Plain.cnt_le a0.data.toList (k + m).toNat (8 * (a0.size : Int) - k - m).toNat
  have hsum : Plain.cnt a0.data.toList 0 k.toNat + Plain.cnt a0.data.toList k.toNat m.toNat + Plain.cnt a0.data.toList (k + m).toNat (8 * (a0.size : Int) - k - m).toNat = Plain.cnt a0.data.toList 0 (8 * (a0.size : Int)).toNat := by
    rw [show (8 * (a0.size : Int)).toNat = k.toNat + (m.toNat + (8 * (a0.size : Int) - k - m).toNat) from by omega, Plain.cnt_add, Plain.cnt_add,
      Nat.zero_add, show k.toNat + m.toNat = (k + m).toNat from by omega, Nat.add_assoc]
  generalize Plain.cnt a0.data.toList 0 k.toNat = c1 at *
  generalize Plain.cnt a0.data.toList k.toNat m.toNat = c2 at *
  generalize Plain.cnt a0.data.toList (k + m).toNat (8 * (a0.size : Int) - k - m).toNat = c3 at *
  generalize Plain.cnt a0.data.toList 0 (8 * (a0.size : Int)).toNat = c4 at *
  have heq : (((c1 : Int) + (c2 : Int) + (c3 : Int)) == (c4 : Int)) = true := beq_iff_eq.2 (by omega)
  clear hsum
  go_wp2_with (go_at_call 17; refine (Bit.num _ _).mono ?_; rintro e w' ⟨rfl, rfl⟩)
  go_ret
  exact ⟨rfl, Bit.bel b1 (Bit.bel b2 (Bit.bel b3 (Bit.bel b4 b5)))⟩

set_option maxRecDepth 100000 in
theorem lifted (os : Os) (started : os.Started) (H : Type) (enc : TypeId × Value → H) :
    ReturnsInHanded {} Try.checked os 7 .any (Rows.bitsPartsSpec.pre6 enc Try.prog Try.f7 Rows.bitsPartsRow.domain false) (Rows.bitsPartsSpec.post enc Try.prog Try.f7 false true false false) := by
  refine returnsInHanded_of_change_sized (C := Try.checked) own started (by kernel_rfl) Try.func7
    (ChangeSpec.witness6 (enc := enc) (C := Try.checked) false ⟨#[], #[.string ByteArray.empty, .int .i64 0, .int .i64 0], []⟩ 8 (by kernel_rfl) (by kernel_rfl) (by kernel_rfl) (by kernel_rfl)) ?_
  intro W base args ds gs before hval0 hW hcnd hsz0 _
  have hsz : (DataW.weightsEach Try.prog (Try.f7.params.toList ++ Rows.bitsPartsSpec.plain.varTypes Try.prog) (ds ++ gs)).all (· ≤ reachBytes) = true := hsz0
  clear hsz0
  have hval : ∀ (j : Nat) t v, Try.f7.params[j]? = some t → args[j]? = some v → Value.okWide Try.prog W .any base t v := hval0
  have hW' := hW
  obtain ⟨p, q, hA0, hV, rfl, hfz, hnd⟩ := hW
  have hA : DataW.TrodAll enc Try.prog W 0 (fun _ => true) true Try.f7.params.toList args.toList ds p := hA0
  rw [Try.params7] at hA hval hsz
  obtain ⟨v0, vs0, d0, ds0, p0, q0, hargs, rfl, rfl, h0, r0⟩ := trodAll_cons hA
  obtain ⟨v1, vs1, d1, ds1, p1, q1, rfl, rfl, rfl, h1, r1⟩ := trodAll_cons r0
  obtain ⟨v2, vs2, d2, ds2, p2, q2, rfl, rfl, rfl, h2, r2⟩ := trodAll_cons r1
  obtain ⟨rfl, rfl, rfl⟩ := trodAll_nil r2
  obtain rfl : args = #[v0, v1, v2] := by cases args; simp_all
  obtain ⟨rfl, rfl⟩ := trodVars_none hV
  obtain ⟨a0, rfl, rfl, rfl, w0⟩ := open_string Try.underlying9 (hval 0 9 v0 rfl rfl) h0
  obtain ⟨a1, rfl, rfl, rfl, w1⟩ := open_int Try.underlying3 (hval 1 3 v1 rfl rfl) h1
  obtain ⟨a2, rfl, rfl, rfl, w2⟩ := open_int Try.underlying3 (hval 2 3 v2 rfl rfl) h2
  have s0 : a0.size ≤ 140737488351232 := by have := sized_string hsz (j := 0) (t := 9) rfl rfl; simpa [reachBytes] using this
  clear hA0 hval0
  refine (walk a0 a1 a2 W w0 w1 w2 s0).mono fun e W' ⟨he, bel⟩ => ?_
  subst he
  exact ⟨_, rfl, _, _, _, [], _, [], hW', trodAll_mk1 (shut_bool Try.underlying4 _), (trodAll_cons_mk (shut_string Try.underlying9 w0) (trodAll_cons_mk (shut_int Try.underlying3 w1) (trodAll_cons_mk (shut_int Try.underlying3 w2) trodAll_mk0))), rfl, bel.frame _, fun h => by cases h⟩

theorem over : Rows.bitsPartsRow.holds Try.pinned (OpenSpec.ofChange Rows.bitsPartsSpec) :=
  OpenClaim.holds_of_wide 7 Try.f7 rfl rfl rfl rfl rfl rfl rfl ⟨rfl, rfl, rfl, rfl, rfl⟩ rfl rfl rfl rfl rfl (by kernel_rfl) Try.func7 (by kernel_rfl)
    (of_decide_eq_true (by kernel_rfl)) (by unfold Func.isWrapper; first | (rw [if_pos (by decide +kernel)]; kernel_rfl) | (rw [if_neg (by decide +kernel)]; exact ⟨rfl, rfl⟩))
    (fun os started H enc _ => lifted os started H enc)

end Go.Proofs.Ytondhjfpfloejaa.bitsParts
namespace Go.Proofs.Ytondhjfpfloejaa
theorem bitsParts_holds : Rows.BitsPartsSaid := bitsParts.over
#print axioms bitsParts_holds
end Go.Proofs.Ytondhjfpfloejaa
