/-
  SchemaBack: a type comes back from its text, and a text that tells a type is told as it stood.
-/
import Derived.Test.YtnnbeicfbcgcbaaRows
import Derived.WalkKit
import Derived.ProofKit
import Derived.OpenShut
import Derived.ShutString
import Derived.ChangeOld
import Derived.Below
import Derived.Deep.QuietTactic
import Derived.WalkSmall
import Derived.BigQuiet
import Derived.Deep.RegionWith
import Derived.OwnWalk
import Derived.RegionTactic
import Derived.ChangeAlike
import Derived.Deep.CutBlock
import Derived.Maps.AppendAt
import Derived.OneCell
import Derived.SizedLaws
import Derived.Test.YtnnbeicfbcgcbaaTree
import Derived.Test.YtnnbeicfbcgcbaaText
import Derived.Test.YtnnbeicfbcgcbaaOpen
import Derived.Test.YtnnbeicfbcgcbaaMem
import Derived.Test.YtnnbeicfbcgcbaaUp
import Derived.Test.YtnnbeicfbcgcbaaMay
import Derived.Test.YtnnbeicfbcgcbaaPro
import Derived.Test.YtnnbeicfbcgcbaaLev
import Derived.Test.YtnnbeicfbcgcbaaRefMay
import Derived.Test.YtnnbeicfbcgcbaaHelp
import Derived.Test.YtnnbeicfbcgcbaaCopy
import Derived.Test.YtnnbeicfbcgcbaaEnv
import Derived.Test.YtnnbeicfbcgcbaaPut
import Derived.Test.YtnnbeicfbcgcbaaTold
import Derived.Test.YtnnbeicfbcgcbaaGet
import Derived.Test.YtnnbeicfbcgcbaaGetAny
import Derived.Test.YtnnbeicfbcgcbaaSPut
import Derived.Test.YtnnbeicfbcgcbaaSGet
import Derived.Test.YtnnbeicfbcgcbaaSpoil
import Derived.Test.YtnnbeicfbcgcbaaAwake
import Derived.Test.YtnnbeicfbcgcbaaBoth
namespace Go.Proofs.Ytnnbeicfbcgcbaa.schemaBack
open Go.ChangeShapes Go.WideShapes Go.ChangeAt Go.RowKit
open Go.ChangeMaps (open_string shut_string)
set_option linter.unusedVariables false

theorem own : ownKnob Try.prog.godebug = none := by kernel_rfl
theorem laidOut : laidOutB Try.prog = true := by kernel_rfl

open Tree
set_option maxRecDepth 20000 in
set_option maxHeartbeats 4000000 in
theorem walk (a0 : Option Addr) (len0 cap0 : Nat) (z0 : List Tree.Nd) (a1 : ByteArray) (w : World) (w0 : Tree.IsNodes w a0 len0 cap0 z0) (s0 : cap0 * 24 ≤ 140737488351232) (w1 : a1.size ≤ maxLen) (s1 : a1.size ≤ 140737488351232) :
    Calls Try.prog 4 #[.agg #[.slice a0 len0 cap0], .string a1] w fun e w' => e = .returned (.bool true) ∧ Below w.heap.size w w' := by
  obtain ⟨l, rfl, hT, hlc, hco⟩ := isT_of w0
  have hs1 : a1.size ≤ 140737488355327 := by omega
  obtain ⟨A, E, hA⟩ := putA_some l
  obtain ⟨L, F, hG⟩ := getA_some a1
  have HA : Hid (PutA l A E) := hA
  have HG : Hid (GetA a1 L F) := hG
  have hA25 := hA.few
  have h8 : L.length ≤ 8 := hG.few
  have HT : Hid (IsT w a0 l) := hT
  obtain ⟨wb, eb, hsb, hcb, hbb⟩ := boxed w (.slice a0 l.length cap0) 24
  clear w0 hco hT hA hG
  go_enter Try.func4, Try.ntmps4
  go_wp2_with fail
  clear eb
  refine (awake wb).mono ?_
  rintro e w2 ⟨rfl, hb2⟩
  have hc2 := cell_later hb2 hcb
  have hB2 := bel hbb hb2
  have hT2 := HT.out.later hB2
  clear hcb hbb hb2 HT
  go_wp2_with fail
  refine (sputR a0 cap0 l A E HA w2 hT2).mono ?_
  rintro e w3 ⟨rfl, hb3⟩
  have hc3 := cell_later hb3 hc2
  have hT3 := hT2.later hb3
  have hB3 := bel hB2 hb3
  clear hc2 hT2 hB2 hb3
  go_wp2_with fail
  refine (num _ _).mono ?_
  rintro e wx ⟨rfl, rfl⟩
  cases hm : may l
  · obtain rfl := (HA.out.2 hm).2
    have hB := hB3
    clear hm hB3 hT3 hc3
    go_wp2_with fail
    refine (sgetR L F a1 hs1 HG _).mono ?_
    rintro e v6 ⟨o1, c1, rfl, hown, hb6⟩
    obtain ⟨v7, e7, hs7, hc7, hb7⟩ := boxed v6 (.slice o1 L.length c1) 24
    have hU := (own_lies hown).later hb7
    have hB7 := bel (bel hB hb6) hb7
    clear hown hb6 hb7 hB
    go_wp2_with fail
    clear e7
    refine (num _ _).mono ?_
    rintro e wx ⟨rfl, rfl⟩
    by_cases ht : isText a1
    · have HP : Hid (PutA L a1 0) := HG.out.back ht
      obtain rfl := (HG.out.1 ht).2
      clear ht
      go_wp2_with fail
      refine (sputR o1 c1 L a1 0 HP _ hU).mono ?_
      rintro e v8 ⟨rfl, hb8⟩
      clear hU hc7
      go_wp2_with fail
      refine (num _ _).mono ?_
      rintro e wx ⟨rfl, rfl⟩
      go_wp2
      go_ret
      exact ⟨rfl, bel hB7 hb8⟩
    · obtain ⟨rfl, rfl⟩ := HG.out.2 ht
      clear ht
      go_wp2_with fail
      refine (sameType o1 none c1 0 [] _ hU (isT_nil _ _)).mono ?_
      rintro e v8 ⟨rfl, hb8⟩
      clear hU hc7
      go_wp2
      go_ret
      exact ⟨rfl, bel hB7 hb8⟩
  · have HGA : Hid (GetA A l 0) := HA.out.back hm
    obtain rfl := (HA.out.1 hm).2
    clear hm
    go_wp2_with fail
    refine (sgetR l 0 A (by omega) HGA _).mono ?_
    rintro e w4 ⟨o, c, rfl, hown, hb4⟩
    obtain ⟨w5, e5, hs5, hc5, hb5⟩ := boxed w4 (.slice o l.length c) 24
    have hU5 := (own_lies hown).later hb5
    have hb35 := bel hb4 hb5
    have hd5 := cell_later hb35 hc3
    have hT5 := hT3.later hb35
    have hB5 := bel hB3 hb35
    clear hown hb4 hb5 hb35 hc3 hT3 hB3
    go_wp2_with fail
    clear e5
    refine (num _ _).mono ?_
    rintro e wx ⟨rfl, rfl⟩
    go_wp2_with fail
    refine (sameType a0 o cap0 c l _ hT5 hU5).mono ?_
    rintro e w6 ⟨rfl, hb6⟩
    have hB := bel hB5 hb6
    clear hT5 hU5 hB5 hb6 hc5 hd5
    go_wp2_with fail
    refine (sgetR L F a1 hs1 HG _).mono ?_
    rintro e v6 ⟨o1, c1, rfl, hown, hb6⟩
    obtain ⟨v7, e7, hs7, hc7, hb7⟩ := boxed v6 (.slice o1 L.length c1) 24
    have hU := (own_lies hown).later hb7
    have hB7 := bel (bel hB hb6) hb7
    clear hown hb6 hb7 hB
    go_wp2_with fail
    clear e7
    refine (num _ _).mono ?_
    rintro e wx ⟨rfl, rfl⟩
    by_cases ht : isText a1
    · have HP : Hid (PutA L a1 0) := HG.out.back ht
      obtain rfl := (HG.out.1 ht).2
      clear ht
      go_wp2_with fail
      refine (sputR o1 c1 L a1 0 HP _ hU).mono ?_
      rintro e v8 ⟨rfl, hb8⟩
      clear hU hc7
      go_wp2_with fail
      refine (num _ _).mono ?_
      rintro e wx ⟨rfl, rfl⟩
      go_wp2
      go_ret
      exact ⟨rfl, bel hB7 hb8⟩
    · obtain ⟨rfl, rfl⟩ := HG.out.2 ht
      clear ht
      go_wp2_with fail
      refine (sameType o1 none c1 0 [] _ hU (isT_nil _ _)).mono ?_
      rintro e v8 ⟨rfl, hb8⟩
      clear hU hc7
      go_wp2
      go_ret
      exact ⟨rfl, bel hB7 hb8⟩

set_option maxRecDepth 100000 in
theorem lifted (os : Os) (started : os.Started) (H : Type) (enc : TypeId × Value → H) :
    ReturnsInHanded {} Try.checked os 4 .any (Rows.schemaBackSpec.pre6 enc Try.prog Try.f4 Rows.schemaBackRow.domain false) (Rows.schemaBackSpec.post enc Try.prog Try.f4 false true false false) := by
  refine returnsInHanded_of_change_sized (C := Try.checked) own started (by kernel_rfl) Try.func4
    (ChangeSpec.witness6 (enc := enc) (C := Try.checked) false ⟨#[], #[.agg #[.slice none 0 0], .string ByteArray.empty], []⟩ 8 (by kernel_rfl) (by kernel_rfl) (by kernel_rfl) (by kernel_rfl)) ?_
  intro W base args ds gs before hval0 hW hcnd hsz0 _
  have hsz : (DataW.weightsEach Try.prog (Try.f4.params.toList ++ Rows.schemaBackSpec.plain.varTypes Try.prog) (ds ++ gs)).all (· ≤ reachBytes) = true := hsz0
  clear hsz0
  have hval : ∀ (j : Nat) t v, Try.f4.params[j]? = some t → args[j]? = some v → Value.okWide Try.prog W .any base t v := hval0
  have hW' := hW
  obtain ⟨p, q, hA0, hV, rfl, hfz, hnd⟩ := hW
  have hA : DataW.TrodAll enc Try.prog W 0 (fun _ => true) true Try.f4.params.toList args.toList ds p := hA0
  rw [Try.params4] at hA hval hsz
  obtain ⟨v0, vs0, d0, ds0, p0, q0, hargs, rfl, rfl, h0, r0⟩ := trodAll_cons hA
  obtain ⟨v1, vs1, d1, ds1, p1, q1, rfl, rfl, rfl, h1, r1⟩ := trodAll_cons r0
  obtain ⟨rfl, rfl, rfl⟩ := trodAll_nil r1
  obtain rfl : args = #[v0, v1] := by cases args; simp_all
  obtain ⟨rfl, rfl⟩ := trodVars_none hV
  have k0 := h0
  have lt0 : ∀ x ∈ p0, x.block < W.heap.size := by obtain ⟨m, hm⟩ := k0; exact DataW.trod_lt m _ _ _ hm
  obtain ⟨a0, len0, cap0, z0, rfl, w0, y0, dy0, hy0⟩ := Tree.open_type Try.underlying24 rfl rfl (by kernel_rfl) (by kernel_rfl) Try.underlying22 Try.underlying41 (by kernel_rfl) rfl rfl rfl (by kernel_rfl) (by kernel_rfl) (by kernel_rfl) Try.underlying3 Try.underlying3 Try.underlying4 (hval 0 24 v0 rfl rfl) h0
  have s0 : cap0 * 24 ≤ 140737488351232 := by
    have := Tree.sized_type hsz (j := 0) rfl (congrArg some dy0) Try.underlying24 Try.underlying22 hy0
    rw [show Try.prog.bytesOf 41 = 24 from by kernel_rfl] at this
    unfold reachBytes at this
    omega
  obtain ⟨a1, rfl, rfl, rfl, w1⟩ := open_string Try.underlying9 (hval 1 9 v1 rfl rfl) h1
  have s1 : a1.size ≤ 140737488351232 := by have := sized_string hsz (j := 1) (t := 9) rfl rfl; simpa [reachBytes] using this
  clear hA0 hval0
  refine (walk a0 len0 cap0 z0 a1 W w0 s0 w1 s1).mono fun e W' ⟨he, bel⟩ => ?_
  subst he
  exact ⟨_, rfl, _, _, _, [], _, [], hW', trodAll_mk1 (shut_bool Try.underlying4 _), (trodAll_cons_mk (Below.trod laidOut (by kernel_rfl) (of_decide_eq_true (by kernel_rfl)) k0 bel lt0) (trodAll_cons_mk (shut_string Try.underlying9 w1) trodAll_mk0)), rfl, bel.frame _, fun h => by cases h⟩

theorem over : Rows.schemaBackRow.holds Try.pinned (OpenSpec.ofChange Rows.schemaBackSpec) :=
  OpenClaim.holds_of_wide 4 Try.f4 rfl rfl rfl rfl rfl rfl rfl ⟨rfl, rfl, rfl, rfl, rfl⟩ rfl rfl rfl rfl rfl (by kernel_rfl) Try.func4 (by kernel_rfl)
    (of_decide_eq_true (by kernel_rfl)) (by unfold Func.isWrapper; first | (rw [if_pos (by decide +kernel)]; kernel_rfl) | (rw [if_neg (by decide +kernel)]; exact ⟨rfl, rfl⟩))
    (fun os started H enc _ => lifted os started H enc)

end Go.Proofs.Ytnnbeicfbcgcbaa.schemaBack
namespace Go.Proofs.Ytnnbeicfbcgcbaa
theorem schemaBack_holds : Rows.SchemaBackSaid := schemaBack.over
#print axioms schemaBack_holds
end Go.Proofs.Ytnnbeicfbcgcbaa
