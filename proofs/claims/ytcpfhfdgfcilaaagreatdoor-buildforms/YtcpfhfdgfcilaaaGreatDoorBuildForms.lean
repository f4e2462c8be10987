/-
  BuildForms: types, nodes, values that may not be; too many rows; for every input within reach.
-/
import Derived.Test.YtcpfhfdgfcilaaaGreatDoorBuildFormsW
import Derived.Test.YtcpfhfdgfcilaaaGreatDoorBuildFormsF
namespace Go.Proofs.YtcpfhfdgfcilaaaGreatDoor.buildForms
open Go.ChangeShapes Go.WideShapes Go.ChangeAt Go.RowKit
open Go.ChangeMaps (open_string shut_string)
set_option linter.unusedVariables false

theorem over : Rows.buildFormsRow.holds Tryz.pinned (OpenSpec.ofChange Rows.buildFormsSpec) :=
  OpenClaim.holds_of_wide 7 Tryz.f7 rfl rfl rfl rfl rfl rfl rfl ⟨rfl, rfl, rfl, rfl, rfl⟩ rfl rfl rfl rfl rfl (by kernel_rfl) Tryz.func7 joined
    (of_decide_eq_true (by kernel_rfl)) (by unfold Func.isWrapper; first | (rw [if_pos (by decide +kernel)]; kernel_rfl) | (rw [if_neg (by decide +kernel)]; exact ⟨rfl, rfl⟩))
    (fun os started H enc _ => lifted os started H enc)

end Go.Proofs.YtcpfhfdgfcilaaaGreatDoor.buildForms
namespace Go.Proofs.YtcpfhfdgfcilaaaGreatDoor
theorem buildForms_holds : Rows.BuildFormsCardSaid :=
  Claim7.holds_tied_plain_at .later [] [.data, .data, .data, .sentinel, .sentinel] true (true, "b67116f1933fea86db5778f1c1b5db797340249bf9970392a833b4252406c7dd") true
    buildForms.over (fun _ h => by cases h) (by kernel_rfl) (fun _ h => by cases h) buildForms_row_tie rfl ⟨rfl, rfl⟩ (by kernel_rfl) rfl
    (fun f fn hf hfn => by
      obtain rfl : f = 7 := Option.some.inj ((show Tryz.prog.funcNamed Rows.buildFormsRow.func = some 7 by kernel_rfl).symm.trans hf) |>.symm
      obtain rfl : fn = Tryz.f7 := (Option.some.inj (Tryz.func7.symm.trans hfn)).symm
      exact ⟨by kernel_rfl, fun j t ht => by
        rw [Tryz.params7] at ht
        have hm : t ∈ [3, 3] := by simpa using Array.mem_of_getElem? ht
        have hall : ([3, 3].all fun u => !Tryz.prog.wantsStandIn u) = true := by kernel_rfl
        exact (show Tryz.prog.wantsStandIn t = false by simpa using List.all_eq_true.1 hall t hm)⟩)
    (by kernel_rfl)
#print axioms buildForms_holds
end Go.Proofs.YtcpfhfdgfcilaaaGreatDoor
