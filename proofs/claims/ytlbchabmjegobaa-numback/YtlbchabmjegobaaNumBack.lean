/-
  For every int and every text of at most 2^47 - 4096 bytes, each number comes back from its place behind the text, in four bytes, in eight and in few: quiverlaw3.NumBack returns true.
-/
import Derived.Test.YtlbchabmjegobaaRows
import Derived.WalkKit
import Derived.ProofKit
import Derived.OpenShut
import Derived.ShutString
import Derived.ChangeOld
import Derived.Below
import Derived.SizedLaws
import Derived.Test.YtlbchabmjegobaaPlain
import Derived.Test.YtlbchabmjegobaaAwake
namespace Go.Proofs.Ytlbchabmjegobaa.numBack
open Go.ChangeShapes Go.WideShapes Go.ChangeAt Go.RowKit
open Go.ChangeMaps (open_string shut_string)
set_option linter.unusedVariables false

theorem own : ownKnob Try.prog.godebug = none := by kernel_rfl

theorem toList_app (a b : ByteArray) : (a ++ b).data.toList = a.data.toList ++ b.data.toList := by simp
theorem len_list (p : ByteArray) : p.data.toList.length = p.size := by simp
theorem size_app (a b : ByteArray) : (a ++ b).size = a.size + b.size := by simp
theorem size_mk (l : List UInt8) : (ByteArray.mk l.toArray).size = l.length := by simp [ByteArray.size]
theorem back4 (p : ByteArray) (m : Nat) (hm : m ≤ 2147483647) (hp : p.size ≤ 140737488351232) (w : World) :
    Calls Try.prog 10 #[.string (p ++ ⟨(Plain.low m 4).toArray⟩), .int .i64 (p.size : Int), .int .i64 4] w fun r w' => r = .returned (.tuple #[.int .i64 (m : Int), .int .i64 0]) ∧ w' = w := by
  have hsz : (p ++ ⟨(Plain.low m 4).toArray⟩).size = p.size + 4 := by rw [size_app, size_mk (Plain.low m 4), Plain.length_low]
  have hv : Plain.val (p ++ ⟨(Plain.low m 4).toArray⟩).data.toList p.size 4 = m := by
    have := Plain.val_behind p.data.toList [] m 4
    rw [List.append_nil, len_list, Nat.mod_eq_of_lt (by omega)] at this
    rw [toList_app]
    exact this
  have := Fix.get4 (p ++ ⟨(Plain.low m 4).toArray⟩) p.size w (by omega) (by omega) (by omega)
  rw [hv] at this
  exact this
theorem back8 (p : ByteArray) (x : Int) (X : Nat) (hX : IntKind.u64.wrap x = (X : Int)) (h0 : -9223372036854775808 ≤ x) (h1 : x ≤ 9223372036854775807) (hp : p.size ≤ 140737488351232) (w : World) :
    Calls Try.prog 10 #[.string (p ++ ⟨(Plain.low X 8).toArray⟩ ++ ⟨#[120]⟩), .int .i64 (p.size : Int), .int .i64 8] w fun r w' => r = .returned (.tuple #[.int .i64 x, .int .i64 0]) ∧ w' = w := by
  rw [IntKind.wrap_u64] at hX
  have hsz : (p ++ ⟨(Plain.low X 8).toArray⟩ ++ ⟨#[120]⟩).size = p.size + 8 + 1 := by rw [size_app, size_app, size_mk (Plain.low X 8), Plain.length_low]; rfl
  have hv : Plain.val (p ++ ⟨(Plain.low X 8).toArray⟩ ++ ⟨#[120]⟩).data.toList p.size 8 = X := by
    have := Plain.val_behind p.data.toList [120] X 8
    rw [len_list, Nat.mod_eq_of_lt (by omega)] at this
    rw [toList_app, toList_app, List.append_assoc]
    exact this
  have := Fix.get8 (p ++ ⟨(Plain.low X 8).toArray⟩ ++ ⟨#[120]⟩) p.size w (by omega) (by omega)
  rw [hv, show wrap64 (X : Int) = x from by unfold wrap64; omega] at this
  exact this
theorem backV (p : ByteArray) (m : Nat) (hm : m ≤ 2147483647) (hp : p.size ≤ 140737488351232) (w : World) :
    Calls Try.prog 14 #[.string (p ++ ⟨(Plain.vb m).toArray⟩ ++ ⟨#[120]⟩), .int .i64 (p.size : Int)] w fun r w' => r = .returned (.tuple #[.int .i64 (m : Int), .int .i64 ((p.size : Int) + (Plain.vb m).length), .int .i64 0]) ∧ w' = w := by
  have h5 := Plain.vb_len 4 m (by omega)
  have hsz : (p ++ ⟨(Plain.vb m).toArray⟩ ++ ⟨#[120]⟩).size = p.size + (Plain.vb m).length + 1 := by rw [size_app, size_app, size_mk (Plain.vb m)]; rfl
  have hg : Plain.gv (p ++ ⟨(Plain.vb m).toArray⟩ ++ ⟨#[120]⟩).data.toList p.size 5 0 = (m, p.size + (Plain.vb m).length, 0) := by
    refine Plain.gv_vb _ [120] _ _ ?_ hm
    rw [toList_app, toList_app, List.append_assoc, List.drop_append_of_le_length (by simp), ← len_list, List.drop_length]
    rfl
  have := Fix.getVar_in _ p.size _ _ _ w (by omega) (by omega) hg
  rw [Int.natCast_add] at this
  exact this

set_option maxRecDepth 20000 in
set_option maxHeartbeats 4000000 in
theorem walk (a0 : Int) (a1 : ByteArray) (w : World) (w0 : (Lit.int .i64 a0).wf = true) (w1 : a1.size ≤ maxLen) (s1 : a1.size ≤ 140737488351232) :
    Calls Try.prog 4 #[.int .i64 a0, .string a1] w fun e w' => e = .returned (.bool true) ∧ Below w.heap.size w w' := by
  have h0 : -9223372036854775808 ≤ a0 := (bounds_i64 w0).1
  have h1 : a0 ≤ 9223372036854775807 := (bounds_i64 w0).2
  obtain ⟨m, ha, hm⟩ := Fix.mask a0
  obtain ⟨X, hX⟩ : ∃ X : Nat, IntKind.u64.wrap a0 = (X : Int) := ⟨(IntKind.u64.wrap a0).toNat, by have := wrap_u64_nonneg a0; omega⟩
  have HX : Hid (IntKind.u64.wrap a0 = (X : Int)) := hX
  have HM : Hid (IntKind.u64.wrap (m : Int) = (m : Int)) := by unfold Hid; rw [IntKind.wrap_u64]; omega
  have hone := Plain.vb_some m
  have h5 := Plain.vb_len 4 m (by omega)
  have l4 := Plain.length_low m 4
  have l8 := Plain.length_low X 8
  clear hX w0 w1
  go_enter Try.func4, Try.ntmps4
  go_wp2_with fail
  refine (Fix.awake _).mono ?_
  rintro e v1 ⟨rfl, b1⟩
  go_wp2_with fail
  refine (Fix.put4 _ m HM.out _ (by omega) (by omega)).mono ?_
  rintro e v2 ⟨rfl, b2⟩
  go_wp2_with fail
  refine (Fix.put8 _ X HX.out _).mono ?_
  rintro e v3 ⟨rfl, b3⟩
  go_wp2_with fail
  refine (Fix.putVar_yes m _ hm).mono ?_
  rintro e v4 ⟨rfl, b4⟩
  go_wp2_with fail
  refine (back4 _ _ hm s1 _).mono ?_
  rintro e v5 ⟨rfl, rfl⟩
  go_wp2_with fail
  refine (back8 _ _ _ HX.out h0 h1 s1 _).mono ?_
  rintro e v6 ⟨rfl, rfl⟩
  go_wp2_with fail
  refine (backV _ _ hm s1 _).mono ?_
  rintro e v7 ⟨rfl, rfl⟩
  go_wp2_with (go_at_call 16; refine (Fix.num _ _).mono ?_; rintro e w' ⟨rfl, rfl⟩)
  go_ret
  exact ⟨Fix.ret_bool (decide_eq_true (by omega)), Fix.bel b1 (Fix.bel b2 (Fix.bel b3 b4))⟩

set_option maxRecDepth 100000 in
theorem lifted (os : Os) (started : os.Started) (H : Type) (enc : TypeId × Value → H) :
    ReturnsInHanded {} Try.checked os 4 .any (Rows.numBackSpec.pre6 enc Try.prog Try.f4 Rows.numBackRow.domain false) (Rows.numBackSpec.post enc Try.prog Try.f4 false true false false) := by
  refine returnsInHanded_of_change_sized (C := Try.checked) own started (by kernel_rfl) Try.func4
    (ChangeSpec.witness6 (enc := enc) (C := Try.checked) false ⟨#[], #[.int .i64 0, .string ByteArray.empty], []⟩ 8 (by kernel_rfl) (by kernel_rfl) (by kernel_rfl) (by kernel_rfl)) ?_
  intro W base args ds gs before hval0 hW hcnd hsz0 _
  have hsz : (DataW.weightsEach Try.prog (Try.f4.params.toList ++ Rows.numBackSpec.plain.varTypes Try.prog) (ds ++ gs)).all (· ≤ reachBytes) = true := hsz0
  clear hsz0
  have hval : ∀ (j : Nat) t v, Try.f4.params[j]? = some t → args[j]? = some v → Value.okWide Try.prog W .any base t v := hval0
  have hW' := hW
  obtain ⟨p, q, hA0, hV, rfl, hfz, hnd⟩ := hW
  have hA : DataW.TrodAll enc Try.prog W 0 (fun _ => true) true Try.f4.params.toList args.toList ds p := hA0
  rw [Try.params4] at hA hval hsz
  obtain ⟨v0, vs0, d0, ds0, p0, q0, hargs, rfl, rfl, h0, r0⟩ := trodAll_cons hA
  obtain ⟨v1, vs1, d1, ds1, p1, q1, rfl, rfl, rfl, h1, r1⟩ := trodAll_cons r0
  obtain ⟨rfl, rfl, rfl⟩ := trodAll_nil r1
  obtain rfl : args = #[v0, v1] := by cases args; simp_all
  obtain ⟨rfl, rfl⟩ := trodVars_none hV
  obtain ⟨a0, rfl, rfl, rfl, w0⟩ := open_int Try.underlying3 (hval 0 3 v0 rfl rfl) h0
  obtain ⟨a1, rfl, rfl, rfl, w1⟩ := open_string Try.underlying9 (hval 1 9 v1 rfl rfl) h1
  have s1 : a1.size ≤ 140737488351232 := by have := sized_string hsz (j := 1) (t := 9) rfl rfl; simpa [reachBytes] using this
  clear hA0 hval0
  refine (walk a0 a1 W w0 w1 s1).mono fun e W' ⟨he, bel⟩ => ?_
  subst he
  exact ⟨_, rfl, _, _, _, [], _, [], hW', trodAll_mk1 (shut_bool Try.underlying4 _), (trodAll_cons_mk (shut_int Try.underlying3 w0) (trodAll_cons_mk (shut_string Try.underlying9 w1) trodAll_mk0)), rfl, bel.frame _, fun h => by cases h⟩

theorem over : Rows.numBackRow.holds Try.pinned (OpenSpec.ofChange Rows.numBackSpec) :=
  OpenClaim.holds_of_wide 4 Try.f4 rfl rfl rfl rfl rfl rfl rfl ⟨rfl, rfl, rfl, rfl, rfl⟩ rfl rfl rfl rfl rfl (by kernel_rfl) Try.func4 (by kernel_rfl)
    (of_decide_eq_true (by kernel_rfl)) (by unfold Func.isWrapper; first | (rw [if_pos (by decide +kernel)]; kernel_rfl) | (rw [if_neg (by decide +kernel)]; exact ⟨rfl, rfl⟩))
    (fun os started H enc _ => lifted os started H enc)

end Go.Proofs.Ytlbchabmjegobaa.numBack
namespace Go.Proofs.Ytlbchabmjegobaa
theorem numBack_holds : Rows.NumBackSaid := numBack.over
#print axioms numBack_holds
end Go.Proofs.Ytlbchabmjegobaa
