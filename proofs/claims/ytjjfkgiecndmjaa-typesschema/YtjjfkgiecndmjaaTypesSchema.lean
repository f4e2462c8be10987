/-
  TypesSchema: a type that may be is told of its own text, and has the same leaves.
-/
import Derived.Test.YtjjfkgiecndmjaaRows
import Derived.WalkKit
import Derived.ProofKit
import Derived.OpenShut
import Derived.ShutString
import Derived.ChangeOld
import Derived.Below
import Derived.Deep.QuietTactic
import Derived.WalkSmall
import Derived.BigQuiet
import Derived.Deep.RegionWith
import Derived.OwnWalk
import Derived.RegionTactic
import Derived.ChangeAlike
import Derived.Deep.CutBlock
import Derived.Maps.AppendAt
import Derived.OneCell
import Derived.SizedLaws
import Derived.Test.YtjjfkgiecndmjaaTree
import Derived.Test.YtjjfkgiecndmjaaText
import Derived.Test.YtjjfkgiecndmjaaOpen
import Derived.Test.YtjjfkgiecndmjaaMem
import Derived.Test.YtjjfkgiecndmjaaUp
import Derived.Test.YtjjfkgiecndmjaaMay
import Derived.Test.YtjjfkgiecndmjaaPro
import Derived.Test.YtjjfkgiecndmjaaLev
import Derived.Test.YtjjfkgiecndmjaaRefMay
import Derived.Test.YtjjfkgiecndmjaaHelp
import Derived.Test.YtjjfkgiecndmjaaCopy
import Derived.Test.YtjjfkgiecndmjaaAwake
import Derived.Test.YtjjfkgiecndmjaaEnv
import Derived.Test.YtjjfkgiecndmjaaPut
import Derived.Test.YtjjfkgiecndmjaaGet
namespace Go.Proofs.Ytjjfkgiecndmjaa.typesSchema
open Go.ChangeShapes Go.WideShapes Go.ChangeAt Go.RowKit
open Go.ChangeMaps (open_string shut_string)
set_option linter.unusedVariables false

theorem own : ownKnob Try.prog.godebug = none := by kernel_rfl
theorem laidOut : laidOutB Try.prog = true := by kernel_rfl

open Tree
theorem leavesY (a : Option Addr) (cap : Nat) (l : List Nd) (w : World) (h : IsT w a l) (hm : may l = true) :
    Calls Try.prog 12 #[.agg #[.slice a l.length cap]] w fun r w' => ∃ o c, r = .returned (.tuple #[.slice o (leaves l).length c, .int .i64 0]) ∧ IsI w' w.heap.size o (leaves l) ∧ Below w.heap.size w w' := by
  have := leavesP a cap l w h
  unfold leavesA at this
  rw [hm, if_pos rfl] at this
  refine this.mono ?_
  rintro r w' ⟨o, c, rfl, hown, hb⟩
  exact ⟨o, c, rfl, own_ints hown, hb⟩
set_option maxRecDepth 20000 in
set_option maxHeartbeats 4000000 in
theorem walk (a0 : Option Addr) (len0 cap0 : Nat) (z0 : List Tree.Nd) (w : World) (w0 : Tree.IsNodes w a0 len0 cap0 z0) (s0 : cap0 * 24 ≤ 140737488351232) :
    Calls Try.prog 8 #[.agg #[.slice a0 len0 cap0]] w fun e w' => e = .returned (.bool true) ∧ Below w.heap.size w w' := by
  obtain ⟨l, rfl, hT, hlc, _⟩ := isT_of w0
  have HT : Hid (IsT w a0 l) := hT
  clear w0 hT
  cases hm : may l
  · have HM : Hid (may l = false) := hm
    clear hm
    go_enter Try.func8, Try.ntmps8
    go_wp2_with fail
    obtain ⟨wb, eb, hsb, hcb, hbb⟩ := boxed w (.slice a0 l.length cap0) 24
    rw [eb]
    clear eb
    refine (awake wb).mono ?_
    rintro e w2 ⟨rfl, hb2⟩
    have hc2 := cell_later hb2 hcb
    have hB2 := bel hbb hb2
    clear hcb hbb hb2
    go_wp2_with fail
    refine (putN a0 cap0 l w2 (HT.out.later hB2) HM.out).mono ?_
    rintro e w3 ⟨rfl, hb3⟩
    have hc3 := cell_later hb3 hc2
    have hB3 := bel hB2 hb3
    clear hc2 hB2 hb3
    go_wp2_with fail
    refine (mayC a0 cap0 l w3 (HT.out.later hB3)).mono ?_
    rintro e w4 ⟨rfl, hb4⟩
    rw [HM.out]
    go_wp2
    go_ret
    exact ⟨rfl, bel hB3 hb4⟩
  · have HM : Hid (may l = true) := hm
    have h8 := (may_of hm).most
    have h1 := (may_of hm).one
    have hv1 := (may_of hm).some_leaf
    have hv8 : (leaves l).length ≤ 8 := Nat.le_trans (length_leavesTo l l.length) h8
    clear hm
    obtain ⟨x, rfl, hl⟩ := HT.out.some h1
    have HL : Hid (Lies w x l) := hl
    clear hl
    go_enter Try.func8, Try.ntmps8
    go_wp2_with fail
    obtain ⟨wb, eb, hsb, hcb, hbb⟩ := boxed w (.slice (some x) l.length cap0) 24
    rw [eb]
    clear eb
    refine (awake wb).mono ?_
    rintro e w2 ⟨rfl, hb2⟩
    have hc2 := cell_later hb2 hcb
    have hB2 := bel hbb hb2
    clear hcb hbb hb2
    go_wp2_with fail
    refine (putY x cap0 l w2 (HL.out.later hB2) HM.out).mono ?_
    rintro e w3 ⟨rfl, hb3⟩
    have hc3 := cell_later hb3 hc2
    have hB3 := bel hB2 hb3
    have HS : Hid (∃ s : ByteArray, s = ⟨(enc l).toArray⟩) := ⟨_, rfl⟩
    obtain ⟨s, hs⟩ := HS.out
    rw [← hs]
    have HSS : Hid (s = ⟨(enc l).toArray⟩) := hs
    clear hc2 hB2 hb3 hs HS
    go_wp2_with fail
    refine (getY l s HSS.out w3 HM.out).mono ?_
    rintro e w4 ⟨o, c, rfl, hU, hb4⟩
    have hc4 := cell_later hb4 hc3
    have hB4 := bel hB3 hb4
    clear hc3 hb4 hB3
    obtain ⟨w5, e5, hs5, hc5, hb5⟩ := boxed w4 (.slice o l.length c) 24
    have hcb5 := cell_later hb5 hc4
    have hU5 := hU.later hb5
    have hB5 := bel hB4 hb5
    have hT5 := HT.out.later hB5
    clear hc4 hb5 hB4 HT HL
    go_wp2_with fail
    clear e5 hU
    refine (leavesY (some x) cap0 l w5 hT5 HM.out).mono ?_
    rintro e w6 ⟨o1, c1, rfl, hi1, hb6⟩
    have hc6 := cell_later hb6 hc5
    have hU6 := hU5.later hb6
    have hB6 := bel hB5 hb6
    clear hc5 hU5 hB5 hT5 hb6 hcb5
    go_wp2_with fail
    refine (leavesY o c l w6 hU6 HM.out).mono ?_
    rintro e w7 ⟨o2, c2, rfl, hi2, hb7⟩
    have hc7 := cell_later hb7 hc6
    have hU7 := hU6.later hb7
    have hi17 := hi1.later hb7
    have hB7 := bel hB6 hb7
    clear hc6 hU6 hB6 hb7 hi1
    generalize leaves l = p at *
    go_wp2_with fail
    refine (mayC o c l w7 hU7).mono ?_
    rintro e w8 ⟨rfl, hb8⟩
    rw [HM.out]
    have hi18 := hi17.later hb8
    have hi28 := hi2.later hb8
    have hB8 := bel hB7 hb8
    clear hc7 hU7 hB7 hb8 hi17 hi2
    go_wp2_with fail
    refine (num _ _).mono ?_
    rintro e w9 ⟨rfl, rfl⟩
    go_wp2_with fail
    refine (num _ _).mono ?_
    rintro e w9 ⟨rfl, rfl⟩
    go_wp2_with fail
    refine (sameInts o1 o2 c1 c2 _ _ p _ hv8 hi18 hi28).mono ?_
    rintro e w9 ⟨rfl, hb9⟩
    go_wp2
    go_ret
    exact ⟨ret_bool (decide_eq_true (by omega)), bel hB8 hb9⟩

set_option maxRecDepth 100000 in
theorem lifted (os : Os) (started : os.Started) (H : Type) (enc : TypeId × Value → H) :
    ReturnsInHanded {} Try.checked os 8 .any (Rows.typesSchemaSpec.pre6 enc Try.prog Try.f8 Rows.typesSchemaRow.domain false) (Rows.typesSchemaSpec.post enc Try.prog Try.f8 false true false false) := by
  refine returnsInHanded_of_change_sized (C := Try.checked) own started (by kernel_rfl) Try.func8
    (ChangeSpec.witness6 (enc := enc) (C := Try.checked) false ⟨#[], #[.agg #[.slice none 0 0]], []⟩ 8 (by kernel_rfl) (by kernel_rfl) (by kernel_rfl) (by kernel_rfl)) ?_
  intro W base args ds gs before hval0 hW hcnd hsz0 _
  have hsz : (DataW.weightsEach Try.prog (Try.f8.params.toList ++ Rows.typesSchemaSpec.plain.varTypes Try.prog) (ds ++ gs)).all (· ≤ reachBytes) = true := hsz0
  clear hsz0
  have hval : ∀ (j : Nat) t v, Try.f8.params[j]? = some t → args[j]? = some v → Value.okWide Try.prog W .any base t v := hval0
  have hW' := hW
  obtain ⟨p, q, hA0, hV, rfl, hfz, hnd⟩ := hW
  have hA : DataW.TrodAll enc Try.prog W 0 (fun _ => true) true Try.f8.params.toList args.toList ds p := hA0
  rw [Try.params8] at hA hval hsz
  obtain ⟨v0, vs0, d0, ds0, p0, q0, hargs, rfl, rfl, h0, r0⟩ := trodAll_cons hA
  obtain ⟨rfl, rfl, rfl⟩ := trodAll_nil r0
  obtain rfl : args = #[v0] := by cases args; simp_all
  obtain ⟨rfl, rfl⟩ := trodVars_none hV
  have k0 := h0
  have lt0 : ∀ x ∈ p0, x.block < W.heap.size := by obtain ⟨m, hm⟩ := k0; exact DataW.trod_lt m _ _ _ hm
  obtain ⟨a0, len0, cap0, z0, rfl, w0, y0, dy0, hy0⟩ := Tree.open_type Try.underlying24 rfl rfl (by kernel_rfl) (by kernel_rfl) Try.underlying22 Try.underlying46 (by kernel_rfl) rfl rfl rfl (by kernel_rfl) (by kernel_rfl) (by kernel_rfl) Try.underlying3 Try.underlying3 Try.underlying4 (hval 0 24 v0 rfl rfl) h0
  have s0 : cap0 * 24 ≤ 140737488351232 := by
    have := Tree.sized_type hsz (j := 0) rfl (congrArg some dy0) Try.underlying24 Try.underlying22 hy0
    rw [show Try.prog.bytesOf 46 = 24 from by kernel_rfl] at this
    unfold reachBytes at this
    omega
  clear hA0 hval0
  refine (walk a0 len0 cap0 z0 W w0 s0).mono fun e W' ⟨he, bel⟩ => ?_
  subst he
  exact ⟨_, rfl, _, _, _, [], _, [], hW', trodAll_mk1 (shut_bool Try.underlying4 _), (trodAll_cons_mk (Below.trod laidOut (by kernel_rfl) (of_decide_eq_true (by kernel_rfl)) k0 bel lt0) trodAll_mk0), rfl, bel.frame _, fun h => by cases h⟩

theorem over : Rows.typesSchemaRow.holds Try.pinned (OpenSpec.ofChange Rows.typesSchemaSpec) :=
  OpenClaim.holds_of_wide 8 Try.f8 rfl rfl rfl rfl rfl rfl rfl ⟨rfl, rfl, rfl, rfl, rfl⟩ rfl rfl rfl rfl rfl (by kernel_rfl) Try.func8 (by kernel_rfl)
    (of_decide_eq_true (by kernel_rfl)) (by unfold Func.isWrapper; first | (rw [if_pos (by decide +kernel)]; kernel_rfl) | (rw [if_neg (by decide +kernel)]; exact ⟨rfl, rfl⟩))
    (fun os started H enc _ => lifted os started H enc)

end Go.Proofs.Ytjjfkgiecndmjaa.typesSchema
namespace Go.Proofs.Ytjjfkgiecndmjaa
theorem typesSchema_holds : Rows.TypesSchemaSaid := typesSchema.over
#print axioms typesSchema_holds
end Go.Proofs.Ytjjfkgiecndmjaa
