/-
  For every text and two ints, bits that are copied are those that stood there, as many are 1, and spare ones are 0: quiverlaw2.BitsCopied returns true. No condition.
-/
import Derived.Test.YtondhjfpfloejaaRows
import Derived.WalkKit
import Derived.ProofKit
import Derived.OpenShut
import Derived.ShutString
import Derived.ChangeOld
import Derived.Below
import Derived.SizedLaws
import Derived.Test.YtondhjfpfloejaaPlain
import Derived.Test.YtondhjfpfloejaaCopy
namespace Go.Proofs.Ytondhjfpfloejaa.bitsCopied
open Go.ChangeShapes Go.WideShapes Go.ChangeAt Go.RowKit
open Go.ChangeMaps (open_string shut_string)
set_option linter.unusedVariables false

theorem own : ownKnob Try.prog.godebug = none := by kernel_rfl

set_option maxHeartbeats 1000000 in
theorem walk (a0 : ByteArray) (a1 : Int) (a2 : Int) (w : World) (w0 : a0.size ≤ maxLen) (w1 : (Lit.int .i64 a1).wf = true) (w2 : (Lit.int .i64 a2).wf = true) (s0 : a0.size ≤ 140737488351232) :
    Calls Try.prog 4 #[.string a0, .int .i64 a1, .int .i64 a2] w fun e w' => e = .returned (.bool true) ∧ Below w.heap.size w w' := by
  obtain ⟨k, hk, k0, k1⟩ := Plain.rest a1 (8 * (a0.size : Int) + 1) (by omega)
  obtain ⟨m, hm, m0, m1⟩ := Plain.rest a2 (8 * (a0.size : Int) - k + 1) (by omega)
  go_enter Try.func4, Try.ntmps4
  go_wp2_with fail
  refine (Bit.awake _).mono ?_
  rintro e v1 ⟨rfl, b1⟩
  go_wp2_with fail
  refine (Bit.copy_yes _ _ _ _ s0 (by omega) (by omega) (by omega)).mono ?_
  rintro e v2 ⟨rfl, b2⟩
  have hl : (ByteArray.mk (Plain.cpy a0.data.toList k.toNat m.toNat).toArray).size = (m.toNat + 7) / 8 := by
    rw [← Plain.length_cpy a0.data.toList k.toNat m.toNat]; rfl
  have HC : Hid (Plain.cnt (ByteArray.mk (Plain.cpy a0.data.toList k.toNat m.toNat).toArray).data.toList 0 (8 * ((ByteArray.mk (Plain.cpy a0.data.toList k.toNat m.toNat).toArray).size : Int)).toNat = Plain.cnt a0.data.toList k.toNat m.toNat) := by
    rw [hl]
    have := Plain.cnt_cpy a0.data.toList k.toNat m.toNat
    rw [Plain.length_cpy] at this
    rw [show (8 * (((m.toNat + 7) / 8 : Nat) : Int)).toNat = 8 * ((m.toNat + 7) / 8) from by omega]
    exact this
  have HB : Hid (∀ i, i < m.toNat → Plain.bit (ByteArray.mk (Plain.cpy a0.data.toList k.toNat m.toNat).toArray).data.toList i = Plain.bit a0.data.toList (k.toNat + i)) := by
    intro i hi
    have := Plain.bit_cpy a0.data.toList k.toNat m.toNat i
    rw [if_pos hi] at this
    exact this
  generalize ByteArray.mk (Plain.cpy a0.data.toList k.toNat m.toNat).toArray = t at *
  have hne : ((t.size : Int) != (m + 7) / 8) = false := by rw [bne, beq_iff_eq.2 (by omega)]; rfl
  have hl2 : m ≤ 8 * (t.size : Int) := by omega
  have hl3 : t.size ≤ 140737488351232 := by omega
  clear hl
  go_wp2_with fail
  refine (Bit.count_yes _ _ _ _ s0 (by omega) (by omega) (by omega)).mono ?_
  rintro e v3 ⟨rfl, b3⟩
  generalize hcn : Plain.cnt a0.data.toList k.toNat m.toNat = cn at *
  clear hcn
  go_wp2_with fail
  refine (Bit.count_yes _ _ _ _ hl3 (by omega) (by omega) (by omega)).mono ?_
  rintro e v4 ⟨rfl, b4⟩
  rw [show (0 : Int).toNat = 0 from rfl, HC.out]
  clear HC
  go_wp2_with (go_at_call 17; refine (Bit.num _ _).mono ?_; rintro e w' ⟨rfl, rfl⟩)
  go_loop [15] (fun i => ∃ n : Nat, (n : Int) ≤ m ∧ i = .int .i64 n) (fun i => m.toNat - (intOf i).toNat)
  case atStart => exact ⟨0, by omega, rfl⟩
  case round =>
    obtain ⟨n, hn, rfl⟩ := hrel
    by_cases hlt : (n : Int) < m
    · go_wp2_with fail
      refine (Bit.get_yes _ _ _ s0 (by omega) (by omega)).mono ?_
      rintro e v5 ⟨rfl, rfl⟩
      rw [show (k + (n : Int)).toNat = k.toNat + n from by omega]
      generalize hb : Plain.bit a0.data.toList (k.toNat + n) = bt
      have HBT : Hid (Plain.bit a0.data.toList (k.toNat + n) = bt) := hb
      clear hb
      go_wp2_with fail
      refine (Bit.get_yes _ _ _ hl3 (by omega) (by omega)).mono ?_
      rintro e v6 ⟨rfl, rfl⟩
      rw [Int.toNat_natCast, HB.out n (by omega), HBT.out]
      go_wp2_with (go_at_call 17; refine (Bit.num _ _).mono ?_; rintro e w' ⟨rfl, rfl⟩)
      go_round
      case rel => exact ⟨n + 1, by omega, by go_num⟩
      case measure => simp [intOf]; omega
    · go_wp2
      go_ret
      exact ⟨rfl, Bit.bel b1 (Bit.bel b2 (Bit.bel b3 b4))⟩

set_option maxRecDepth 100000 in
theorem lifted (os : Os) (started : os.Started) (H : Type) (enc : TypeId × Value → H) :
    ReturnsInHanded {} Try.checked os 4 .any (Rows.bitsCopiedSpec.pre6 enc Try.prog Try.f4 Rows.bitsCopiedRow.domain false) (Rows.bitsCopiedSpec.post enc Try.prog Try.f4 false true false false) := by
  refine returnsInHanded_of_change_sized (C := Try.checked) own started (by kernel_rfl) Try.func4
    (ChangeSpec.witness6 (enc := enc) (C := Try.checked) false ⟨#[], #[.string ByteArray.empty, .int .i64 0, .int .i64 0], []⟩ 8 (by kernel_rfl) (by kernel_rfl) (by kernel_rfl) (by kernel_rfl)) ?_
  intro W base args ds gs before hval0 hW hcnd hsz0 _
  have hsz : (DataW.weightsEach Try.prog (Try.f4.params.toList ++ Rows.bitsCopiedSpec.plain.varTypes Try.prog) (ds ++ gs)).all (· ≤ reachBytes) = true := hsz0
  clear hsz0
  have hval : ∀ (j : Nat) t v, Try.f4.params[j]? = some t → args[j]? = some v → Value.okWide Try.prog W .any base t v := hval0
  have hW' := hW
  obtain ⟨p, q, hA0, hV, rfl, hfz, hnd⟩ := hW
  have hA : DataW.TrodAll enc Try.prog W 0 (fun _ => true) true Try.f4.params.toList args.toList ds p := hA0
  rw [Try.params4] at hA hval hsz
  obtain ⟨v0, vs0, d0, ds0, p0, q0, hargs, rfl, rfl, h0, r0⟩ := trodAll_cons hA
  obtain ⟨v1, vs1, d1, ds1, p1, q1, rfl, rfl, rfl, h1, r1⟩ := trodAll_cons r0
  obtain ⟨v2, vs2, d2, ds2, p2, q2, rfl, rfl, rfl, h2, r2⟩ := trodAll_cons r1
  obtain ⟨rfl, rfl, rfl⟩ := trodAll_nil r2
  obtain rfl : args = #[v0, v1, v2] := by cases args; simp_all
  obtain ⟨rfl, rfl⟩ := trodVars_none hV
  obtain ⟨a0, rfl, rfl, rfl, w0⟩ := open_string Try.underlying9 (hval 0 9 v0 rfl rfl) h0
  obtain ⟨a1, rfl, rfl, rfl, w1⟩ := open_int Try.underlying3 (hval 1 3 v1 rfl rfl) h1
  obtain ⟨a2, rfl, rfl, rfl, w2⟩ := open_int Try.underlying3 (hval 2 3 v2 rfl rfl) h2
  have s0 : a0.size ≤ 140737488351232 := by have := sized_string hsz (j := 0) (t := 9) rfl rfl; simpa [reachBytes] using this
  clear hA0 hval0
  refine (walk a0 a1 a2 W w0 w1 w2 s0).mono fun e W' ⟨he, bel⟩ => ?_
  subst he
  exact ⟨_, rfl, _, _, _, [], _, [], hW', trodAll_mk1 (shut_bool Try.underlying4 _), (trodAll_cons_mk (shut_string Try.underlying9 w0) (trodAll_cons_mk (shut_int Try.underlying3 w1) (trodAll_cons_mk (shut_int Try.underlying3 w2) trodAll_mk0))), rfl, bel.frame _, fun h => by cases h⟩

theorem over : Rows.bitsCopiedRow.holds Try.pinned (OpenSpec.ofChange Rows.bitsCopiedSpec) :=
  OpenClaim.holds_of_wide 4 Try.f4 rfl rfl rfl rfl rfl rfl rfl ⟨rfl, rfl, rfl, rfl, rfl⟩ rfl rfl rfl rfl rfl (by kernel_rfl) Try.func4 (by kernel_rfl)
    (of_decide_eq_true (by kernel_rfl)) (by unfold Func.isWrapper; first | (rw [if_pos (by decide +kernel)]; kernel_rfl) | (rw [if_neg (by decide +kernel)]; exact ⟨rfl, rfl⟩))
    (fun os started H enc _ => lifted os started H enc)

end Go.Proofs.Ytondhjfpfloejaa.bitsCopied
namespace Go.Proofs.Ytondhjfpfloejaa
theorem bitsCopied_holds : Rows.BitsCopiedSaid := bitsCopied.over
#print axioms bitsCopied_holds
end Go.Proofs.Ytondhjfpfloejaa
