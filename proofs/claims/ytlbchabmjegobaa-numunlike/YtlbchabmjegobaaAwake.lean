/-
  What the law of all programs over package num, awake, computes: a contract.
-/
import Derived.Test.YtlbchabmjegobaaRows
import Derived.Test.YtlbchabmjegobaaPlain
import Derived.Test.YtlbchabmjegobaaFixed
import Derived.Test.YtlbchabmjegobaaVar
import Derived.Test.YtlbchabmjegobaaRef
import Derived.Test.YtlbchabmjegobaaGetVar
import Derived.WalkKit
import Derived.ProofKit
import Derived.OpenShut
import Derived.Below
import Derived.RegionTactic
import Derived.ChangeAlike
import Derived.OwnWalk
import Derived.Laws.IdiomStrings
namespace Go.Proofs.Ytlbchabmjegobaa.Fix
open Go.ChangeShapes Go.WideShapes Go.ChangeAt Go.RowKit

theorem app_eq (a b c : ByteArray) (h : (a ++ b).data.toList = c.data.toList) : a ++ b = c := by
  apply ByteArray.ext
  exact Array.toList_inj.1 h

set_option maxRecDepth 20000 in
set_option maxHeartbeats 1600000 in
theorem awake (w : World) :
    Calls Try.prog 17 #[] w fun r w' => r = .returned (.bool true) ∧ Below w.heap.size w w' := by
  go_enter Try.func17, Try.ntmps17
  go_wp2_with fail
  refine (put4 _ 258 (by decide) _ (by decide) (by decide)).mono ?_
  rintro e w1 ⟨rfl, b1⟩
  rw [show (Plain.low 258 4).toArray = #[2, 1, 0, 0] from by decide +kernel]
  go_wp2_with fail
  refine (put8 _ 18446744073709551614 (by decide) _).mono ?_
  rintro e w2 ⟨rfl, b2⟩
  rw [show (Plain.low 18446744073709551614 8).toArray = #[254, 255, 255, 255, 255, 255, 255, 255] from by decide +kernel]
  go_wp2_with fail
  rw [show (ByteArray.mk #[122] ++ ByteArray.mk #[254, 255, 255, 255, 255, 255, 255, 255]) = ByteArray.mk #[122, 254, 255, 255, 255, 255, 255, 255, 255] from app_eq _ _ _ (by decide +kernel)]
  refine (get8 (ByteArray.mk #[122, 254, 255, 255, 255, 255, 255, 255, 255]) 1 _ (by decide) (by decide)).mono ?_
  rintro e w3 ⟨rfl, rfl⟩
  rw [show wrap64 ((Plain.val (ByteArray.mk #[122, 254, 255, 255, 255, 255, 255, 255, 255]).data.toList 1 8 : Nat) : Int) = -2 from by rw [show Plain.val (ByteArray.mk #[122, 254, 255, 255, 255, 255, 255, 255, 255]).data.toList 1 8 = 18446744073709551614 from by decide +kernel]; unfold wrap64; decide]
  go_wp2_with fail
  refine (putVar_yes 300 _ (by decide)).mono ?_
  rintro e w4 ⟨rfl, b4⟩
  rw [show (Plain.vb 300).toArray = #[172, 2] from by rw [Plain.vb_more 300 (by decide), Plain.vb_few (300 / 128) (by decide)]; rfl]
  go_wp2_with fail
  rw [show (ByteArray.mk #[122] ++ ByteArray.mk #[172, 2]) = ByteArray.mk #[122, 172, 2] from app_eq _ _ _ (by decide +kernel)]
  refine (getVar_in (ByteArray.mk #[122, 172, 2]) 1 300 3 0 _ (by decide) (by decide) (by unfold Hid; decide +kernel)).mono ?_
  rintro e w5 ⟨rfl, rfl⟩
  go_wp2_with fail
  refine (put_no _ _ _ (by decide)).mono ?_
  rintro e w6 ⟨rfl, rfl⟩
  go_wp2_with fail
  refine (get_no _ _ _ _ (by decide) (by decide)).mono ?_
  rintro e w7 ⟨rfl, rfl⟩
  go_wp2_with fail
  refine (getVar_in _ 0 0 0 300 _ (by decide) (by decide) (by unfold Hid; decide +kernel)).mono ?_
  rintro e w8 ⟨rfl, rfl⟩
  go_wp2_with (go_at_call 16; refine (num _ _).mono ?_; rintro e w' ⟨rfl, rfl⟩)
  go_ret
  exact ⟨rfl, bel b1 (bel b2 b4)⟩

theorem mask (x : Int) : ∃ m : Nat, bits BinOp.and IntKind.i64 x 2147483647 = (m : Int) ∧ m ≤ 2147483647 :=
  ⟨(x % 2147483648).toNat, by rw [Plain.and31]; omega, by omega⟩
end Go.Proofs.Ytlbchabmjegobaa.Fix
