/-
  Schemas: Put and Get, the program's and the document's, answer alike for every type and every text; what was handed in stays.
-/
import Derived.Test.YtnnbeicfbcgcbaaRows
import Derived.WalkKit
import Derived.ProofKit
import Derived.OpenShut
import Derived.ShutString
import Derived.ChangeOld
import Derived.Below
import Derived.Deep.QuietTactic
import Derived.WalkSmall
import Derived.BigQuiet
import Derived.Deep.RegionWith
import Derived.OwnWalk
import Derived.RegionTactic
import Derived.ChangeAlike
import Derived.Deep.CutBlock
import Derived.Maps.AppendAt
import Derived.OneCell
import Derived.SizedLaws
import Derived.Test.YtnnbeicfbcgcbaaTree
import Derived.Test.YtnnbeicfbcgcbaaText
import Derived.Test.YtnnbeicfbcgcbaaOpen
import Derived.Test.YtnnbeicfbcgcbaaMem
import Derived.Test.YtnnbeicfbcgcbaaUp
import Derived.Test.YtnnbeicfbcgcbaaMay
import Derived.Test.YtnnbeicfbcgcbaaPro
import Derived.Test.YtnnbeicfbcgcbaaLev
import Derived.Test.YtnnbeicfbcgcbaaRefMay
import Derived.Test.YtnnbeicfbcgcbaaHelp
import Derived.Test.YtnnbeicfbcgcbaaCopy
import Derived.Test.YtnnbeicfbcgcbaaEnv
import Derived.Test.YtnnbeicfbcgcbaaPut
import Derived.Test.YtnnbeicfbcgcbaaTold
import Derived.Test.YtnnbeicfbcgcbaaGet
import Derived.Test.YtnnbeicfbcgcbaaGetAny
import Derived.Test.YtnnbeicfbcgcbaaSPut
import Derived.Test.YtnnbeicfbcgcbaaSGet
import Derived.Test.YtnnbeicfbcgcbaaSpoil
import Derived.Test.YtnnbeicfbcgcbaaAwake
import Derived.Test.YtnnbeicfbcgcbaaBoth
namespace Go.Proofs.Ytnnbeicfbcgcbaa.schemas
open Go.ChangeShapes Go.WideShapes Go.ChangeAt Go.RowKit
open Go.ChangeMaps (open_string shut_string)
set_option linter.unusedVariables false

theorem own : ownKnob Try.prog.godebug = none := by kernel_rfl
theorem laidOut : laidOutB Try.prog = true := by kernel_rfl

open Tree
set_option maxRecDepth 20000 in
set_option maxHeartbeats 4000000 in
theorem walk (a0 : Option Addr) (len0 cap0 : Nat) (z0 : List Tree.Nd) (a1 : ByteArray) (w : World) (w0 : Tree.IsNodes w a0 len0 cap0 z0) (s0 : cap0 * 24 ≤ 140737488351232) (w1 : a1.size ≤ maxLen) (s1 : a1.size ≤ 140737488351232) :
    Calls Try.prog 3 #[.agg #[.slice a0 len0 cap0], .string a1] w fun e w' => e = .returned (.bool true) ∧ Below w.heap.size w w' := by
  obtain ⟨l, rfl, hT, hlc, hco⟩ := isT_of w0
  have hlen : l.length * 24 ≤ 140737488355328 := by omega
  have hs1 : a1.size ≤ 140737488355327 := by omega
  obtain ⟨A, E, hA⟩ := putA_some l
  obtain ⟨L, F, hG⟩ := getA_some a1
  have HA : Hid (PutA l A E) := hA
  have HG : Hid (GetA a1 L F) := hG
  have h8 : L.length ≤ 8 := hG.few
  have HT : Hid (IsT w a0 l) := hT
  obtain ⟨wb, eb, hsb, hcb, hbb⟩ := boxed w (.slice a0 l.length cap0) 24
  have HCO : Hid (a0 = none ∧ l = [] ∧ cap0 = 0 ∨ ∃ x, a0 = some x ∧ Lies wb x l) := co_later hco hbb
  clear w0 hco hT hA hG
  go_enter Try.func3, Try.ntmps3
  go_wp2_with fail
  clear eb
  refine (copyA HCO.out hlen).mono ?_
  rintro e w2 ⟨o, c, rfl, hU, hb2⟩
  obtain ⟨w3, e3, hs3, hc3, hb3⟩ := boxed w2 (.slice o l.length c) 24
  have hd3 := cell_later (bel hb2 hb3) hcb
  have hU3 := hU.later hb3
  have hB3 : Below w.heap.size w w3 := bel (bel hbb hb2) hb3
  have hT3 := HT.out.later hB3
  clear hcb hU hbb hb2 hb3 HT HCO
  go_wp2_with fail
  clear e3
  generalize w2.heap.size = u2 at *
  refine (sputR o c l A E HA w3 hU3).mono ?_
  rintro e w4 ⟨rfl, hb4⟩
  have hc4 := cell_later hb4 hc3
  have hd4 := cell_later hb4 hd3
  have hU4 := hU3.later hb4
  have hT4 := hT3.later hb4
  have hB4 := bel hB3 hb4
  clear hc3 hd3 hU3 hT3 hB3 hb4
  go_wp2_with fail
  refine (putR a0 cap0 l A E HA w4 hT4).mono ?_
  rintro e w5 ⟨rfl, hb5⟩
  have hc5 := cell_later hb5 hc4
  have hd5 := cell_later hb5 hd4
  have hU5 := hU4.later hb5
  have hT5 := hT4.later hb5
  have hB5 := bel hB4 hb5
  clear hc4 hd4 hU4 hT4 hB4 hb5
  go_wp2_with fail
  refine (sgetR L F a1 hs1 HG w5).mono ?_
  rintro e w6 ⟨o1, c1, rfl, hown, hb6⟩
  obtain ⟨w7, e7, hs7, hc7, hb7⟩ := boxed w6 (.slice o1 L.length c1) 24
  have hown7 := own_later hown hb7
  have hb57 := bel hb6 hb7
  clear hown hb6 hb7
  go_wp2_with fail
  clear e7
  generalize w6.heap.size = u6 at *
  refine (getR L F a1 hs1 HG w7).mono ?_
  rintro e w8 ⟨o2, c2, rfl, hD, hb8⟩
  obtain ⟨w9, e9, hs9, hc9, hb9⟩ := boxed w8 (.slice o2 L.length c2) 24
  have hb79 := bel hb8 hb9
  have hown9 := own_later hown7 hb79
  have hD9 := hD.later hb9
  have hf9 := cell_later hb79 hc7
  have hb59 := bel hb57 hb79
  clear hown7 hD hc7 hb57 hb8 hb9 hb79
  go_wp2_with fail
  clear e9
  generalize w8.heap.size = u8 at *
  refine (num _ _).mono ?_
  rintro e wx ⟨rfl, rfl⟩
  go_wp2_with fail
  refine (sameType o1 o2 c1 c2 L _ (own_lies hown9) hD9).mono ?_
  rintro e w10 ⟨rfl, hb10⟩
  have hownA := own_later hown9 hb10
  have hfA := cell_later hb10 hf9
  have hb5A := bel hb59 hb10
  clear hown9 hD9 hf9 hc9 hb59 hb10
  go_wp2_with fail
  refine (num _ _).mono ?_
  rintro e wx ⟨rfl, rfl⟩
  go_wp2_with fail
  refine (spoilType o1 c1 _ L _ h8 hb5A.size hownA).mono ?_
  rintro e w11 ⟨rfl, hb11⟩
  have hb5B := hb5A.trans hb11
  have hcB := cell_later hb5B hc5
  have hdB := cell_later hb5B hd5
  have hUB := hU5.later hb5B
  have hTB := hT5.later hb5B
  have hBB := bel hB5 hb5B
  clear hownA hfA hb5A hb11 hc5 hd5 hU5 hT5 hB5 hb5B
  go_wp2_with fail
  refine (sameType o a0 c cap0 l _ hUB hTB).mono ?_
  rintro e w12 ⟨rfl, hb12⟩
  have hBC := bel hBB hb12
  clear hcB hdB hUB hTB hBB hb12
  go_wp2_with fail
  refine (awake _).mono ?_
  rintro e w13 ⟨rfl, hb13⟩
  go_wp2
  go_ret
  exact ⟨rfl, bel hBC hb13⟩

set_option maxRecDepth 100000 in
theorem lifted (os : Os) (started : os.Started) (H : Type) (enc : TypeId × Value → H) :
    ReturnsInHanded {} Try.checked os 3 .any (Rows.schemasSpec.pre6 enc Try.prog Try.f3 Rows.schemasRow.domain false) (Rows.schemasSpec.post enc Try.prog Try.f3 false true false false) := by
  refine returnsInHanded_of_change_sized (C := Try.checked) own started (by kernel_rfl) Try.func3
    (ChangeSpec.witness6 (enc := enc) (C := Try.checked) false ⟨#[], #[.agg #[.slice none 0 0], .string ByteArray.empty], []⟩ 8 (by kernel_rfl) (by kernel_rfl) (by kernel_rfl) (by kernel_rfl)) ?_
  intro W base args ds gs before hval0 hW hcnd hsz0 _
  have hsz : (DataW.weightsEach Try.prog (Try.f3.params.toList ++ Rows.schemasSpec.plain.varTypes Try.prog) (ds ++ gs)).all (· ≤ reachBytes) = true := hsz0
  clear hsz0
  have hval : ∀ (j : Nat) t v, Try.f3.params[j]? = some t → args[j]? = some v → Value.okWide Try.prog W .any base t v := hval0
  have hW' := hW
  obtain ⟨p, q, hA0, hV, rfl, hfz, hnd⟩ := hW
  have hA : DataW.TrodAll enc Try.prog W 0 (fun _ => true) true Try.f3.params.toList args.toList ds p := hA0
  rw [Try.params3] at hA hval hsz
  obtain ⟨v0, vs0, d0, ds0, p0, q0, hargs, rfl, rfl, h0, r0⟩ := trodAll_cons hA
  obtain ⟨v1, vs1, d1, ds1, p1, q1, rfl, rfl, rfl, h1, r1⟩ := trodAll_cons r0
  obtain ⟨rfl, rfl, rfl⟩ := trodAll_nil r1
  obtain rfl : args = #[v0, v1] := by cases args; simp_all
  obtain ⟨rfl, rfl⟩ := trodVars_none hV
  have k0 := h0
  have lt0 : ∀ x ∈ p0, x.block < W.heap.size := by obtain ⟨m, hm⟩ := k0; exact DataW.trod_lt m _ _ _ hm
  obtain ⟨a0, len0, cap0, z0, rfl, w0, y0, dy0, hy0⟩ := Tree.open_type Try.underlying24 rfl rfl (by kernel_rfl) (by kernel_rfl) Try.underlying22 Try.underlying41 (by kernel_rfl) rfl rfl rfl (by kernel_rfl) (by kernel_rfl) (by kernel_rfl) Try.underlying3 Try.underlying3 Try.underlying4 (hval 0 24 v0 rfl rfl) h0
  have s0 : cap0 * 24 ≤ 140737488351232 := by
    have := Tree.sized_type hsz (j := 0) rfl (congrArg some dy0) Try.underlying24 Try.underlying22 hy0
    rw [show Try.prog.bytesOf 41 = 24 from by kernel_rfl] at this
    unfold reachBytes at this
    omega
  obtain ⟨a1, rfl, rfl, rfl, w1⟩ := open_string Try.underlying9 (hval 1 9 v1 rfl rfl) h1
  have s1 : a1.size ≤ 140737488351232 := by have := sized_string hsz (j := 1) (t := 9) rfl rfl; simpa [reachBytes] using this
  clear hA0 hval0
  refine (walk a0 len0 cap0 z0 a1 W w0 s0 w1 s1).mono fun e W' ⟨he, bel⟩ => ?_
  subst he
  exact ⟨_, rfl, _, _, _, [], _, [], hW', trodAll_mk1 (shut_bool Try.underlying4 _), (trodAll_cons_mk (Below.trod laidOut (by kernel_rfl) (of_decide_eq_true (by kernel_rfl)) k0 bel lt0) (trodAll_cons_mk (shut_string Try.underlying9 w1) trodAll_mk0)), rfl, bel.frame _, fun h => by cases h⟩

theorem over : Rows.schemasRow.holds Try.pinned (OpenSpec.ofChange Rows.schemasSpec) :=
  OpenClaim.holds_of_wide 3 Try.f3 rfl rfl rfl rfl rfl rfl rfl ⟨rfl, rfl, rfl, rfl, rfl⟩ rfl rfl rfl rfl rfl (by kernel_rfl) Try.func3 (by kernel_rfl)
    (of_decide_eq_true (by kernel_rfl)) (by unfold Func.isWrapper; first | (rw [if_pos (by decide +kernel)]; kernel_rfl) | (rw [if_neg (by decide +kernel)]; exact ⟨rfl, rfl⟩))
    (fun os started H enc _ => lifted os started H enc)

end Go.Proofs.Ytnnbeicfbcgcbaa.schemas
namespace Go.Proofs.Ytnnbeicfbcgcbaa
theorem schemas_holds : Rows.SchemasSaid := schemas.over
#print axioms schemas_holds
end Go.Proofs.Ytnnbeicfbcgcbaa
