/-
  For every int, the five known sums stand: quiverlaw4.CrcKnown returns true. No condition.
-/
import Derived.Test.YtnfneaalkjnnfaaRows
import Derived.WalkKit
import Derived.ProofKit
import Derived.OpenShut
import Derived.ShutString
import Derived.ChangeOld
import Derived.Below
import Derived.Deep.QuietTactic
import Derived.WalkSmall
import Derived.BigQuiet
import Derived.SizedLaws
import Derived.Test.YtnfneaalkjnnfaaPlain
import Derived.Test.YtnfneaalkjnnfaaSum
namespace Go.Proofs.Ytnfneaalkjnnfaa.crcKnown
open Go.ChangeShapes Go.WideShapes Go.ChangeAt Go.RowKit
open Go.ChangeMaps (open_string shut_string)
set_option linter.unusedVariables false

theorem own : ownKnob Try.prog.godebug = none := by kernel_rfl

/-- The world behind the two lists. -/
def lits (v : World) : World := (v.alloc (Obj.cells #[.string ⟨#[97]⟩, .string ⟨#[97, 98, 99]⟩, .string ⟨#[0, 0, 0, 0]⟩, .string ⟨#[255, 255, 255, 255]⟩, .string ⟨#[84, 104, 101, 32, 113, 117, 105, 99, 107, 32, 98, 114, 111, 119, 110, 32, 102, 111, 120, 32, 106, 117, 109, 112, 115, 32, 111, 118, 101, 114, 32, 116, 104, 101, 32, 108, 97, 122, 121, 32, 100, 111, 103]⟩] 9)).alloc (Obj.cells #[.int .i64 3904355907, .int .i64 891568578, .int .i64 558161692, .int .i64 4294967295, .int .i64 1095738169] 3)
theorem lits_below (v : World) : Below v.heap.size v (lits v) := ((Below.refl _ _).alloc (Nat.le_refl _) _).alloc (by simp) _
theorem lits_0 (v : World) : (lits v).cell? ⟨v.heap.size, 0, none⟩ = some (.string ⟨#[97]⟩) ∧ (lits v).cell? ⟨v.heap.size + 1, 0, none⟩ = some (.int .i64 3904355907) := by
  constructor <;> simp [lits]
theorem lits_1 (v : World) : (lits v).cell? ⟨v.heap.size, 1, none⟩ = some (.string ⟨#[97, 98, 99]⟩) ∧ (lits v).cell? ⟨v.heap.size + 1, 1, none⟩ = some (.int .i64 891568578) := by
  constructor <;> simp [lits]
theorem lits_2 (v : World) : (lits v).cell? ⟨v.heap.size, 2, none⟩ = some (.string ⟨#[0, 0, 0, 0]⟩) ∧ (lits v).cell? ⟨v.heap.size + 1, 2, none⟩ = some (.int .i64 558161692) := by
  constructor <;> simp [lits]
theorem lits_3 (v : World) : (lits v).cell? ⟨v.heap.size, 3, none⟩ = some (.string ⟨#[255, 255, 255, 255]⟩) ∧ (lits v).cell? ⟨v.heap.size + 1, 3, none⟩ = some (.int .i64 4294967295) := by
  constructor <;> simp [lits]
theorem lits_4 (v : World) : (lits v).cell? ⟨v.heap.size, 4, none⟩ = some (.string ⟨#[84, 104, 101, 32, 113, 117, 105, 99, 107, 32, 98, 114, 111, 119, 110, 32, 102, 111, 120, 32, 106, 117, 109, 112, 115, 32, 111, 118, 101, 114, 32, 116, 104, 101, 32, 108, 97, 122, 121, 32, 100, 111, 103]⟩) ∧ (lits v).cell? ⟨v.heap.size + 1, 4, none⟩ = some (.int .i64 1095738169) := by
  constructor <;> simp [lits]
set_option maxRecDepth 20000 in
set_option maxHeartbeats 4000000 in
theorem walk (a0 : Int) (w : World) (w0 : (Lit.int .i64 a0).wf = true) :
    Calls Try.prog 5 #[.int .i64 a0] w fun e w' => e = .returned (.bool true) ∧ Below w.heap.size w w' := by
  obtain ⟨k, hk, k0, k1⟩ := Plain.rest a0 5 (by decide)
  have hk5 : k = 0 ∨ k = 1 ∨ k = 2 ∨ k = 3 ∨ k = 4 := by omega
  clear k0 k1
  rcases hk5 with rfl | rfl | rfl | rfl | rfl
  · go_enter Try.func5, Try.ntmps5
    go_wp2_with fail
    refine (Sums.awake _).mono ?_
    rintro e v1 ⟨rfl, rfl⟩
    go_wp2_with fail
    show Code.wp Try.prog _ _ _ (lits v1)
    have hb := lits_below v1
    have ⟨c0, c1⟩ := lits_0 v1
    generalize lits v1 = W at *
    go_quiet (first
      | (go_at_call 10; exact Calls.quiet_of_same (Sums.num _ _))
      | (go_at_call 7; exact Calls.quiet_of_same (Sums.known0 _)))
    go_wp2
    go_ret
    exact ⟨rfl, below_drewN hb _⟩
  · go_enter Try.func5, Try.ntmps5
    go_wp2_with fail
    refine (Sums.awake _).mono ?_
    rintro e v1 ⟨rfl, rfl⟩
    go_wp2_with fail
    show Code.wp Try.prog _ _ _ (lits v1)
    have hb := lits_below v1
    have ⟨c0, c1⟩ := lits_1 v1
    generalize lits v1 = W at *
    go_quiet (first
      | (go_at_call 10; exact Calls.quiet_of_same (Sums.num _ _))
      | (go_at_call 7; exact Calls.quiet_of_same (Sums.known1 _)))
    go_wp2
    go_ret
    exact ⟨rfl, below_drewN hb _⟩
  · go_enter Try.func5, Try.ntmps5
    go_wp2_with fail
    refine (Sums.awake _).mono ?_
    rintro e v1 ⟨rfl, rfl⟩
    go_wp2_with fail
    show Code.wp Try.prog _ _ _ (lits v1)
    have hb := lits_below v1
    have ⟨c0, c1⟩ := lits_2 v1
    generalize lits v1 = W at *
    go_quiet (first
      | (go_at_call 10; exact Calls.quiet_of_same (Sums.num _ _))
      | (go_at_call 7; exact Calls.quiet_of_same (Sums.known2 _)))
    go_wp2
    go_ret
    exact ⟨rfl, below_drewN hb _⟩
  · go_enter Try.func5, Try.ntmps5
    go_wp2_with fail
    refine (Sums.awake _).mono ?_
    rintro e v1 ⟨rfl, rfl⟩
    go_wp2_with fail
    show Code.wp Try.prog _ _ _ (lits v1)
    have hb := lits_below v1
    have ⟨c0, c1⟩ := lits_3 v1
    generalize lits v1 = W at *
    go_quiet (first
      | (go_at_call 10; exact Calls.quiet_of_same (Sums.num _ _))
      | (go_at_call 7; exact Calls.quiet_of_same (Sums.known3 _)))
    go_wp2
    go_ret
    exact ⟨rfl, below_drewN hb _⟩
  · go_enter Try.func5, Try.ntmps5
    go_wp2_with fail
    refine (Sums.awake _).mono ?_
    rintro e v1 ⟨rfl, rfl⟩
    go_wp2_with fail
    show Code.wp Try.prog _ _ _ (lits v1)
    have hb := lits_below v1
    have ⟨c0, c1⟩ := lits_4 v1
    generalize lits v1 = W at *
    go_quiet (first
      | (go_at_call 10; exact Calls.quiet_of_same (Sums.num _ _))
      | (go_at_call 7; exact Calls.quiet_of_same (Sums.known4 _)))
    go_wp2
    go_ret
    exact ⟨rfl, below_drewN hb _⟩

set_option maxRecDepth 100000 in
theorem lifted (os : Os) (started : os.Started) (H : Type) (enc : TypeId × Value → H) :
    ReturnsInHanded {} Try.checked os 5 .any (Rows.crcKnownSpec.pre6 enc Try.prog Try.f5 Rows.crcKnownRow.domain false) (Rows.crcKnownSpec.post enc Try.prog Try.f5 false true false false) := by
  refine returnsInHanded_of_change (C := Try.checked) own started (by kernel_rfl) Try.func5
    (ChangeSpec.witness6 (enc := enc) (C := Try.checked) false ⟨#[], #[.int .i64 0], []⟩ 8 (by kernel_rfl) (by kernel_rfl) (by kernel_rfl) (by kernel_rfl)) ?_
  intro W base args ds gs before hval0 hW hcnd _
  have hval : ∀ (j : Nat) t v, Try.f5.params[j]? = some t → args[j]? = some v → Value.okWide Try.prog W .any base t v := hval0
  have hW' := hW
  obtain ⟨p, q, hA0, hV, rfl, hfz, hnd⟩ := hW
  have hA : DataW.TrodAll enc Try.prog W 0 (fun _ => true) true Try.f5.params.toList args.toList ds p := hA0
  rw [Try.params5] at hA hval
  obtain ⟨v0, vs0, d0, ds0, p0, q0, hargs, rfl, rfl, h0, r0⟩ := trodAll_cons hA
  obtain ⟨rfl, rfl, rfl⟩ := trodAll_nil r0
  obtain rfl : args = #[v0] := by cases args; simp_all
  obtain ⟨rfl, rfl⟩ := trodVars_none hV
  obtain ⟨a0, rfl, rfl, rfl, w0⟩ := open_int Try.underlying3 (hval 0 3 v0 rfl rfl) h0
  clear hA0 hval0
  refine (walk a0 W w0).mono fun e W' ⟨he, bel⟩ => ?_
  subst he
  exact ⟨_, rfl, _, _, _, [], _, [], hW', trodAll_mk1 (shut_bool Try.underlying4 _), (trodAll_cons_mk (shut_int Try.underlying3 w0) trodAll_mk0), rfl, bel.frame _, fun h => by cases h⟩

theorem over : Rows.crcKnownRow.holds Try.pinned (OpenSpec.ofChange Rows.crcKnownSpec) :=
  OpenClaim.holds_of_wide 5 Try.f5 rfl rfl rfl rfl rfl rfl rfl ⟨rfl, rfl, rfl, rfl, rfl⟩ rfl rfl rfl rfl rfl (by kernel_rfl) Try.func5 (by kernel_rfl)
    (of_decide_eq_true (by kernel_rfl)) (by unfold Func.isWrapper; first | (rw [if_pos (by decide +kernel)]; kernel_rfl) | (rw [if_neg (by decide +kernel)]; exact ⟨rfl, rfl⟩))
    (fun os started H enc _ => lifted os started H enc)

end Go.Proofs.Ytnfneaalkjnnfaa.crcKnown
namespace Go.Proofs.Ytnfneaalkjnnfaa
theorem crcKnown_holds : Rows.CrcKnownSaid := crcKnown.over
#print axioms crcKnown_holds
end Go.Proofs.Ytnfneaalkjnnfaa
