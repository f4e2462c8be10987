/-
  BuildBools: truths stand in bits, the lowest first, as many bytes as they need; for every input within reach.
-/
import Derived.Test.YtcpfhfdgfcilaaaGreatDoorBuildBoolsW
import Derived.Test.YtcpfhfdgfcilaaaGreatDoorBuildBoolsF
namespace Go.Proofs.YtcpfhfdgfcilaaaGreatDoor.buildBools
open Go.ChangeShapes Go.WideShapes Go.ChangeAt Go.RowKit
open Go.ChangeMaps (open_string shut_string)
set_option linter.unusedVariables false

theorem over : Rows.buildBoolsRow.holds Tryz.pinned (OpenSpec.ofChange Rows.buildBoolsSpec) :=
  OpenClaim.holds_of_wide 9 Tryz.f9 rfl rfl rfl rfl rfl rfl rfl ⟨rfl, rfl, rfl, rfl, rfl⟩ rfl rfl rfl rfl rfl (by kernel_rfl) Tryz.func9 joined
    (of_decide_eq_true (by kernel_rfl)) (by unfold Func.isWrapper; first | (rw [if_pos (by decide +kernel)]; kernel_rfl) | (rw [if_neg (by decide +kernel)]; exact ⟨rfl, rfl⟩))
    (fun os started H enc _ => lifted os started H enc)

end Go.Proofs.YtcpfhfdgfcilaaaGreatDoor.buildBools
namespace Go.Proofs.YtcpfhfdgfcilaaaGreatDoor
theorem buildBools_holds : Rows.BuildBoolsCardSaid :=
  Claim7.holds_tied_plain_at .later [] [.data, .data, .data, .sentinel, .sentinel] true (true, "b67116f1933fea86db5778f1c1b5db797340249bf9970392a833b4252406c7dd") true
    buildBools.over (fun _ h => by cases h) (by kernel_rfl) (fun _ h => by cases h) buildBools_row_tie rfl ⟨rfl, rfl⟩ (by kernel_rfl) rfl
    (fun f fn hf hfn => by
      obtain rfl : f = 9 := Option.some.inj ((show Tryz.prog.funcNamed Rows.buildBoolsRow.func = some 9 by kernel_rfl).symm.trans hf) |>.symm
      obtain rfl : fn = Tryz.f9 := (Option.some.inj (Tryz.func9.symm.trans hfn)).symm
      exact ⟨by kernel_rfl, fun j t ht => by
        rw [Tryz.params9] at ht
        have hm : t ∈ [3, 3] := by simpa using Array.mem_of_getElem? ht
        have hall : ([3, 3].all fun u => !Tryz.prog.wantsStandIn u) = true := by kernel_rfl
        exact (show Tryz.prog.wantsStandIn t = false by simpa using List.all_eq_true.1 hall t hm)⟩)
    (by kernel_rfl)
#print axioms buildBools_holds
end Go.Proofs.YtcpfhfdgfcilaaaGreatDoor
