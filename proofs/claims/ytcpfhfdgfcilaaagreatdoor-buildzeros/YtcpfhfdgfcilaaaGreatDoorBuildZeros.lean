/-
  BuildZeros: under a struct that is nothing kids have their zeros; for every input within reach.
-/
import Derived.Test.YtcpfhfdgfcilaaaGreatDoorBuildZerosW
import Derived.Test.YtcpfhfdgfcilaaaGreatDoorBuildZerosF
namespace Go.Proofs.YtcpfhfdgfcilaaaGreatDoor.buildZeros
open Go.ChangeShapes Go.WideShapes Go.ChangeAt Go.RowKit
open Go.ChangeMaps (open_string shut_string)
set_option linter.unusedVariables false

theorem over : Rows.buildZerosRow.holds Tryz.pinned (OpenSpec.ofChange Rows.buildZerosSpec) :=
  OpenClaim.holds_of_wide 8 Tryz.f8 rfl rfl rfl rfl rfl rfl rfl ⟨rfl, rfl, rfl, rfl, rfl⟩ rfl rfl rfl rfl rfl (by kernel_rfl) Tryz.func8 joined
    (of_decide_eq_true (by kernel_rfl)) (by unfold Func.isWrapper; first | (rw [if_pos (by decide +kernel)]; kernel_rfl) | (rw [if_neg (by decide +kernel)]; exact ⟨rfl, rfl⟩))
    (fun os started H enc _ => lifted os started H enc)

end Go.Proofs.YtcpfhfdgfcilaaaGreatDoor.buildZeros
namespace Go.Proofs.YtcpfhfdgfcilaaaGreatDoor
theorem buildZeros_holds : Rows.BuildZerosCardSaid :=
  Claim7.holds_tied_plain_at .later [] [.data, .data, .data, .sentinel, .sentinel] true (true, "b67116f1933fea86db5778f1c1b5db797340249bf9970392a833b4252406c7dd") true
    buildZeros.over (fun _ h => by cases h) (by kernel_rfl) (fun _ h => by cases h) buildZeros_row_tie rfl ⟨rfl, rfl⟩ (by kernel_rfl) rfl
    (fun f fn hf hfn => by
      obtain rfl : f = 8 := Option.some.inj ((show Tryz.prog.funcNamed Rows.buildZerosRow.func = some 8 by kernel_rfl).symm.trans hf) |>.symm
      obtain rfl : fn = Tryz.f8 := (Option.some.inj (Tryz.func8.symm.trans hfn)).symm
      exact ⟨by kernel_rfl, fun j t ht => by
        rw [Tryz.params8] at ht
        have hm : t ∈ [4, 3] := by simpa using Array.mem_of_getElem? ht
        have hall : ([4, 3].all fun u => !Tryz.prog.wantsStandIn u) = true := by kernel_rfl
        exact (show Tryz.prog.wantsStandIn t = false by simpa using List.all_eq_true.1 hall t hm)⟩)
    (by kernel_rfl)
#print axioms buildZeros_holds
end Go.Proofs.YtcpfhfdgfcilaaaGreatDoor
