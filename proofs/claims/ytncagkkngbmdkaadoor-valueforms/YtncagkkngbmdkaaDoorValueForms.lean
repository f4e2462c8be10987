/-
  ValueForms: texts that are no values are refused.
-/
import Derived.Test.YtncagkkngbmdkaaDoorRows
import Derived.WalkKit
import Derived.ProofKit
import Derived.OpenShut
import Derived.ShutString
import Derived.ChangeOld
import Derived.Below
import Derived.LaidMore
import Derived.Stop.Joined
import Derived.Deep.QuietTactic
import Derived.WalkSmall
import Derived.BigQuiet
import Derived.Deep.RegionWith
import Derived.OwnWalk
import Derived.RegionTactic
import Derived.ChangeAlike
import Derived.Deep.CutBlock
import Derived.SevenTiedAt
import Derived.Test.YtncagkkngbmdkaaDoorCards
import Derived.Test.YtncagkkngbmdkaaDoorTie
import Derived.SizedLaws
import Derived.Test.YtncagkkngbmdkaaDoorTree
import Derived.Test.YtncagkkngbmdkaaDoorMask
import Derived.Test.YtncagkkngbmdkaaDoorWhole
import Derived.Test.YtncagkkngbmdkaaDoorValTab
import Derived.Test.YtncagkkngbmdkaaDoorOpenTexts
import Derived.Test.YtncagkkngbmdkaaDoorHome
import Derived.Test.YtncagkkngbmdkaaDoorDoor
import Derived.Test.YtncagkkngbmdkaaDoorPartsC
import Derived.Test.YtncagkkngbmdkaaDoorMake
import Derived.Test.YtncagkkngbmdkaaDoorAwake
namespace Go.Proofs.YtncagkkngbmdkaaDoor.valueForms
open Go.ChangeShapes Go.WideShapes Go.ChangeAt Go.RowKit
open Go.ChangeMaps (open_string shut_string)
set_option linter.unusedVariables false

theorem own : ownKnob Tryd.prog.godebug = none := by kernel_rfl

open Val
def formV : List Value := formTexts.map Value.string
theorem formV_at (k : Nat) (h : k < formV.length) : ∃ s, formV[k] = .string s ∧ partsS s = none ∧ s.size ≤ 64 := by
  have hk : k < formTexts.length := by rw [formV, List.length_map] at h; exact h
  exact ⟨formTexts[k], List.getElem_map Value.string, forms_none _ (List.getElem_mem hk)⟩
def litForm (w : World) : World := w.alloc (.cells formV.toArray 9)
theorem litForm_below (w : World) : Below w.heap.size w (litForm w) := (Below.refl _ _).alloc (Nat.le_refl _) _
theorem none_parts (s : ByteArray) (hs : s.size ≤ 64) (hn : partsS s = none) (w : World) (hw : Home w) :
    Calls Tryd.prog 10 #[.string s] w fun r w' => ∃ o cap, r = .returned (.tuple #[.int .i64 0, .slice o 0 cap, .int .i64 700]) ∧ Below w.heap.size w w' := by
  refine (partsC s 0 [] 700 (by omega) (.inr ⟨hn, rfl, rfl, rfl⟩) w hw).mono ?_
  rintro e w' ⟨o, cap, rfl, _, hb⟩
  exact ⟨o, cap, rfl, hb⟩
set_option maxRecDepth 20000 in
set_option maxHeartbeats 4000000 in
theorem walk (a0 : Int) (w : World) (hw : Hid (Val.Home w)) (w0 : (Lit.int .i64 a0).wf = true) :
    Calls Tryd.prog 4 #[.int .i64 a0] w fun e w' => e = .returned (.bool true) ∧ Below w.heap.size w w' := by
  obtain ⟨k, hk, hk0, hk30⟩ := Tree.rest a0 30 (by decide)
  go_enter Tryd.func4, Tryd.ntmps4
  go_wp2_with fail
  refine (awake w hw).mono ?_
  rintro e w1 ⟨rfl, hb1⟩
  go_wp2_with fail
  have hkt : k.toNat < formV.length := by show k.toNat < 30; omega
  obtain ⟨s, hs, hn, hz⟩ := formV_at k.toNat hkt
  have hb2 := litForm_below w1
  have hB2 := bel2 hb1 hb2
  have hc := none_parts s hz hn (litForm w1) (hw.out.later hB2)
  rw [← hs] at hc
  refine Calls.mono hc ?_
  clear hc
  generalize litForm w1 = w2 at *
  rintro e w3 ⟨o3, c3, rfl, hb3⟩
  have B3 : Hid (Below w.heap.size w w3) := bel2 hB2 hb3
  clear hb1 hb2 hB2 hb3 hs hn
  go_wp2_with fail
  refine (numC _ _).mono ?_
  rintro e wx ⟨rfl, rfl⟩
  go_wp2
  go_ret
  exact ⟨rfl, B3.out⟩

set_option maxRecDepth 100000 in
theorem lifted (os : Os) (started : os.Started) (H : Type) (enc : TypeId × Value → H) :
    ReturnsInHanded {} Tryd.checked os 4 .any (fun w args => (Rows.valueFormsSpec.pre enc Tryd.prog Tryd.f4 [] false w args ∧ laidMetH Tryd.prog Val.laidV w) ∧ sizedMet enc Tryd.prog Tryd.f4 (OpenSpec.ofChange Rows.valueFormsSpec) false w args) (Rows.valueFormsSpec.post enc Tryd.prog Tryd.f4 false true false false) := by
  refine returnsInHanded_of_change_and (C := Tryd.checked) (X := fun w _ => laidMetH Tryd.prog Val.laidV w) (fun _ _ _ hh h => h.of_heap hh) own started (by kernel_rfl) Tryd.func4
    (ChangeSpec.witness_shaped (enc := enc) (C := Tryd.checked) (os := os) (X := fun w _ => laidMetH Tryd.prog Val.laidV w) false (World.doorLaid Tryd.prog 400 os) #[.int .i64 0] 8 rfl (World.shaped_of_RefB (by kernel_rfl) (by kernel_rfl)) (by kernel_rfl) (by kernel_rfl) (by kernel_rfl) (Val.door_met os _)) ?_
  intro W base args ds gs before hval0 hW hcnd _ hL _
  have hval : ∀ (j : Nat) t v, Tryd.f4.params[j]? = some t → args[j]? = some v → Value.okWide Tryd.prog W .any base t v := hval0
  have hW' := hW
  obtain ⟨p, q, hA0, hV, rfl, hfz, hnd⟩ := hW
  have hA : DataW.TrodAll enc Tryd.prog W 0 (fun _ => true) true Tryd.f4.params.toList args.toList ds p := hA0
  rw [Tryd.params4] at hA hval
  obtain ⟨v0, vs0, d0, ds0, p0, q0, hargs, rfl, rfl, h0, r0⟩ := trodAll_cons hA
  obtain ⟨rfl, rfl, rfl⟩ := trodAll_nil r0
  obtain rfl : args = #[v0] := by cases args; simp_all
  obtain ⟨rfl, rfl⟩ := trodVars_none hV
  obtain ⟨a0, rfl, rfl, rfl, w0⟩ := open_int Tryd.underlying3 (hval 0 3 v0 rfl rfl) h0
  clear hA0 hval0
  refine (walk a0 W (Val.home_of hL) w0).mono fun e W' ⟨he, bel⟩ => ?_
  subst he
  exact ⟨_, rfl, _, _, _, [], _, [], hW', trodAll_mk1 (shut_bool Tryd.underlying4 _), (trodAll_cons_mk (shut_int Tryd.underlying3 w0) trodAll_mk0), rfl, bel.frame _, fun h => by cases h⟩

theorem over : Rows.valueFormsRow.holds Tryd.pinned (OpenSpec.ofChange Rows.valueFormsSpec) :=
  OpenClaim.holds_of_wide 4 Tryd.f4 rfl rfl rfl rfl rfl rfl rfl ⟨rfl, rfl, rfl, rfl, rfl⟩ rfl rfl rfl rfl rfl (by kernel_rfl) Tryd.func4 (by kernel_rfl)
    (of_decide_eq_true (by kernel_rfl)) (by unfold Func.isWrapper; first | (rw [if_pos (by decide +kernel)]; kernel_rfl) | (rw [if_neg (by decide +kernel)]; exact ⟨rfl, rfl⟩))
    (fun os started H enc _ => lifted os started H enc)

end Go.Proofs.YtncagkkngbmdkaaDoor.valueForms
namespace Go.Proofs.YtncagkkngbmdkaaDoor
theorem valueForms_holds : Rows.ValueFormsCardSaid :=
  Claim7.holds_tied_plain_at .later [] [.data, .data, .data, .sentinel, .sentinel] true (true, "144572b7fb924916b0d2afe7311542e541e51744ef72fae6c12f1363541a2b76") true
    valueForms.over (fun _ h => by cases h) (by kernel_rfl) (fun _ h => by cases h) valueForms_row_tie rfl ⟨rfl, rfl⟩ (by kernel_rfl) rfl
    (fun f fn hf hfn => by
      obtain rfl : f = 4 := Option.some.inj ((show Tryd.prog.funcNamed Rows.valueFormsRow.func = some 4 by kernel_rfl).symm.trans hf) |>.symm
      obtain rfl : fn = Tryd.f4 := (Option.some.inj (Tryd.func4.symm.trans hfn)).symm
      exact ⟨by kernel_rfl, fun j t ht => by
        rw [Tryd.params4] at ht
        have hm : t ∈ [3] := by simpa using Array.mem_of_getElem? ht
        have hall : ([3].all fun u => !Tryd.prog.wantsStandIn u) = true := by kernel_rfl
        exact (show Tryd.prog.wantsStandIn t = false by simpa using List.all_eq_true.1 hall t hm)⟩)
    (by kernel_rfl)
#print axioms valueForms_holds
end Go.Proofs.YtncagkkngbmdkaaDoor
