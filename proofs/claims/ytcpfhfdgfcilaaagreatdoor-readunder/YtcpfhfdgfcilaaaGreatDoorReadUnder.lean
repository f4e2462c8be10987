/-
  ReadUnder: what lies beneath a row that is not there is nothing to what is read; for every input within reach.
-/
import Derived.Test.YtcpfhfdgfcilaaaGreatDoorReadUnderW
import Derived.Test.YtcpfhfdgfcilaaaGreatDoorReadUnderF
namespace Go.Proofs.YtcpfhfdgfcilaaaGreatDoor.readUnder
open Go.ChangeShapes Go.WideShapes Go.ChangeAt Go.RowKit
open Go.ChangeMaps (open_string shut_string)
set_option linter.unusedVariables false

theorem over : Rows.readUnderRow.holds Tryz.pinned (OpenSpec.ofChange Rows.readUnderSpec) :=
  OpenClaim.holds_of_wide 4 Tryz.f4 rfl rfl rfl rfl rfl rfl rfl ⟨rfl, rfl, rfl, rfl, rfl⟩ rfl rfl rfl rfl rfl (by kernel_rfl) Tryz.func4 joined
    (of_decide_eq_true (by kernel_rfl)) (by unfold Func.isWrapper; first | (rw [if_pos (by decide +kernel)]; kernel_rfl) | (rw [if_neg (by decide +kernel)]; exact ⟨rfl, rfl⟩))
    (fun os started H enc _ => lifted os started H enc)

end Go.Proofs.YtcpfhfdgfcilaaaGreatDoor.readUnder
namespace Go.Proofs.YtcpfhfdgfcilaaaGreatDoor
theorem readUnder_holds : Rows.ReadUnderCardSaid :=
  Claim7.holds_tied_plain_at .later [] [.data, .data, .data] true (true, "b67116f1933fea86db5778f1c1b5db797340249bf9970392a833b4252406c7dd") true
    readUnder.over (fun _ h => by cases h) (by kernel_rfl) (fun _ h => by cases h) readUnder_row_tie rfl ⟨rfl, rfl⟩ (by kernel_rfl) rfl
    (fun f fn hf hfn => by
      obtain rfl : f = 4 := Option.some.inj ((show Tryz.prog.funcNamed Rows.readUnderRow.func = some 4 by kernel_rfl).symm.trans hf) |>.symm
      obtain rfl : fn = Tryz.f4 := (Option.some.inj (Tryz.func4.symm.trans hfn)).symm
      exact ⟨by kernel_rfl, fun j t ht => by
        rw [Tryz.params4] at ht
        have hm : t ∈ [38, 3, 3] := by simpa using Array.mem_of_getElem? ht
        have hall : ([38, 3, 3].all fun u => !Tryz.prog.wantsStandIn u) = true := by kernel_rfl
        exact (show Tryz.prog.wantsStandIn t = false by simpa using List.all_eq_true.1 hall t hm)⟩)
    (by kernel_rfl)
#print axioms readUnder_holds
end Go.Proofs.YtcpfhfdgfcilaaaGreatDoor
