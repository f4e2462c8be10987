/-
  SchemaCut: a text of a type that is cut, or goes on, is none.
-/
import Derived.Test.YtnnbeicfbcgcbaaRows
import Derived.WalkKit
import Derived.ProofKit
import Derived.OpenShut
import Derived.ShutString
import Derived.ChangeOld
import Derived.Below
import Derived.Deep.QuietTactic
import Derived.WalkSmall
import Derived.BigQuiet
import Derived.Deep.RegionWith
import Derived.OwnWalk
import Derived.RegionTactic
import Derived.ChangeAlike
import Derived.Deep.CutBlock
import Derived.Maps.AppendAt
import Derived.OneCell
import Derived.SizedLaws
import Derived.Test.YtnnbeicfbcgcbaaTree
import Derived.Test.YtnnbeicfbcgcbaaText
import Derived.Test.YtnnbeicfbcgcbaaOpen
import Derived.Test.YtnnbeicfbcgcbaaMem
import Derived.Test.YtnnbeicfbcgcbaaUp
import Derived.Test.YtnnbeicfbcgcbaaMay
import Derived.Test.YtnnbeicfbcgcbaaPro
import Derived.Test.YtnnbeicfbcgcbaaLev
import Derived.Test.YtnnbeicfbcgcbaaRefMay
import Derived.Test.YtnnbeicfbcgcbaaHelp
import Derived.Test.YtnnbeicfbcgcbaaCopy
import Derived.Test.YtnnbeicfbcgcbaaEnv
import Derived.Test.YtnnbeicfbcgcbaaPut
import Derived.Test.YtnnbeicfbcgcbaaTold
import Derived.Test.YtnnbeicfbcgcbaaGet
import Derived.Test.YtnnbeicfbcgcbaaGetAny
import Derived.Test.YtnnbeicfbcgcbaaSPut
import Derived.Test.YtnnbeicfbcgcbaaSGet
import Derived.Test.YtnnbeicfbcgcbaaSpoil
import Derived.Test.YtnnbeicfbcgcbaaAwake
import Derived.Test.YtnnbeicfbcgcbaaBoth
import Derived.Test.YtnnbeicfbcgcbaaMask
namespace Go.Proofs.Ytnnbeicfbcgcbaa.schemaCut
open Go.ChangeShapes Go.WideShapes Go.ChangeAt Go.RowKit
open Go.ChangeMaps (open_string shut_string)
set_option linter.unusedVariables false

theorem own : ownKnob Try.prog.godebug = none := by kernel_rfl
theorem laidOut : laidOutB Try.prog = true := by kernel_rfl

open Tree
theorem noGet (s : ByteArray) (hs : s.size ≤ 140737488355327) (hn : Hid (¬ isText s)) (w : World) :
    Calls Try.prog 11 #[.string s] w fun r w' => ∃ o c, r = .returned (.tuple #[.agg #[.slice o 0 c], .int .i64 600]) ∧ Below w.heap.size w w' := by
  refine (sgetR [] 600 s hs ⟨fun c => absurd c hn.out, fun _ => ⟨rfl, rfl⟩⟩ w).mono ?_
  rintro r w' ⟨o, c, rfl, _, hb⟩
  exact ⟨o, c, rfl, hb⟩
theorem cut_no {l : List Nd} {A : ByteArray} {E : Int} (hA : PutA l A E) (hm : may l = true) (k : Nat) (hk : k < A.size) : ¬ isText (A.extract 0 k) := by
  intro c
  have hA := (hA.1 hm).1
  subst hA
  rw [text_size] at hk
  refine (may_of hm).cut k hk ?_
  have e : (⟨(enc l).toArray⟩ : ByteArray).extract 0 k = ⟨((enc l).take k).toArray⟩ := by
    apply ByteArray.ext
    simp
  rw [← e]
  exact c.1
theorem more_no {l : List Nd} {A : ByteArray} {E : Int} (hA : PutA l A E) (hm : may l = true) (q : ByteArray) : ¬ isText (A ++ ⟨#[0]⟩ ++ q) := by
  intro c
  have hA := (hA.1 hm).1
  subst hA
  refine (may_of hm).more (0 :: q.data.toList) (by simp) ?_
  have e : (⟨(enc l).toArray⟩ : ByteArray) ++ ⟨#[0]⟩ ++ q = ⟨(enc l ++ 0 :: q.data.toList).toArray⟩ := by
    apply ByteArray.ext
    simp
  rw [← e]
  exact c.1
set_option maxRecDepth 20000 in
set_option maxHeartbeats 4000000 in
theorem walk (a0 : Option Addr) (len0 cap0 : Nat) (z0 : List Tree.Nd) (a1 : Int) (a2 : ByteArray) (w : World) (w0 : Tree.IsNodes w a0 len0 cap0 z0) (s0 : cap0 * 24 ≤ 140737488351232) (w1 : (Lit.int .i64 a1).wf = true) (w2 : a2.size ≤ maxLen) (s2 : a2.size ≤ 140737488351232) :
    Calls Try.prog 7 #[.agg #[.slice a0 len0 cap0], .int .i64 a1, .string a2] w fun e w' => e = .returned (.bool true) ∧ Below w.heap.size w w' := by
  obtain ⟨l, rfl, hT, hlc, hco⟩ := isT_of w0
  obtain ⟨A, E, hA⟩ := putA_some l
  have HA : Hid (PutA l A E) := hA
  have hA25 := hA.few
  have HT : Hid (IsT w a0 l) := hT
  obtain ⟨wb, eb, hsb, hcb, hbb⟩ := boxed w (.slice a0 l.length cap0) 24
  clear w0 hco hT hA
  go_enter Try.func7, Try.ntmps7
  go_wp2_with fail
  clear eb
  refine (awake wb).mono ?_
  rintro e w2 ⟨rfl, hb2⟩
  have hc2 := cell_later hb2 hcb
  have hB2 := bel hbb hb2
  have hT2 := HT.out.later hB2
  clear hcb hbb hb2 HT
  go_wp2_with fail
  refine (sputR a0 cap0 l A E HA w2 hT2).mono ?_
  rintro e w3 ⟨rfl, hb3⟩
  have hB3 := bel hB2 hb3
  clear hc2 hT2 hB2 hb3
  go_wp2_with fail
  refine (num _ _).mono ?_
  rintro e wx ⟨rfl, rfl⟩
  cases hm : may l
  · obtain ⟨rfl, rfl⟩ := HA.out.2 hm
    clear hm
    go_wp2
    go_ret
    exact ⟨rfl, hB3⟩
  · obtain rfl := (HA.out.1 hm).2
    have HM : Hid (may l = true) := hm
    have h1 : 4 ≤ A.size := by
      rw [(HA.out.1 hm).1, text_size, length_enc]
      have := (may_of hm).one
      omega
    obtain ⟨k, hk, hk0, hk1⟩ := rest a1 (A.size : Int) (by omega)
    have HC : Hid (¬ isText (A.extract 0 k.toNat)) := cut_no HA.out hm k.toNat (by omega)
    have HD : Hid (¬ isText (A ++ ⟨#[0]⟩ ++ a2)) := more_no HA.out hm a2
    have hsC : (A.extract 0 k.toNat).size ≤ 140737488355327 := by rw [ByteArray.size_extract]; omega
    have hsD : (A ++ ⟨#[0]⟩ ++ a2).size ≤ 140737488355327 := by rw [ByteArray.size_append, ByteArray.size_append]; have : (⟨#[0]⟩ : ByteArray).size = 1 := rfl; omega
    clear hm
    go_wp2_with fail
    refine (noGet _ hsC HC wx).mono ?_
    rintro e v6 ⟨o1, c1, rfl, hb6⟩
    obtain ⟨v7, e7, hs7, hc7, hb7⟩ := boxed v6 (.slice o1 0 c1) 24
    have hB7 := bel (bel hB3 hb6) hb7
    clear hb6 hb7 hB3 hc7
    go_wp2_with fail
    clear e7
    refine (noGet _ hsD HD _).mono ?_
    rintro e v8 ⟨o2, c2, rfl, hb8⟩
    obtain ⟨v9, e9, hs9, hc9, hb9⟩ := boxed v8 (.slice o2 0 c2) 24
    have hB9 := bel (bel hB7 hb8) hb9
    clear hb8 hb9 hB7 hc9
    go_wp2_with fail
    clear e9
    refine (num _ _).mono ?_
    rintro e wx ⟨rfl, rfl⟩
    go_wp2_with fail
    refine (num _ _).mono ?_
    rintro e wx ⟨rfl, rfl⟩
    go_wp2
    go_ret
    exact ⟨rfl, hB9⟩

set_option maxRecDepth 100000 in
theorem lifted (os : Os) (started : os.Started) (H : Type) (enc : TypeId × Value → H) :
    ReturnsInHanded {} Try.checked os 7 .any (Rows.schemaCutSpec.pre6 enc Try.prog Try.f7 Rows.schemaCutRow.domain false) (Rows.schemaCutSpec.post enc Try.prog Try.f7 false true false false) := by
  refine returnsInHanded_of_change_sized (C := Try.checked) own started (by kernel_rfl) Try.func7
    (ChangeSpec.witness6 (enc := enc) (C := Try.checked) false ⟨#[], #[.agg #[.slice none 0 0], .int .i64 0, .string ByteArray.empty], []⟩ 8 (by kernel_rfl) (by kernel_rfl) (by kernel_rfl) (by kernel_rfl)) ?_
  intro W base args ds gs before hval0 hW hcnd hsz0 _
  have hsz : (DataW.weightsEach Try.prog (Try.f7.params.toList ++ Rows.schemaCutSpec.plain.varTypes Try.prog) (ds ++ gs)).all (· ≤ reachBytes) = true := hsz0
  clear hsz0
  have hval : ∀ (j : Nat) t v, Try.f7.params[j]? = some t → args[j]? = some v → Value.okWide Try.prog W .any base t v := hval0
  have hW' := hW
  obtain ⟨p, q, hA0, hV, rfl, hfz, hnd⟩ := hW
  have hA : DataW.TrodAll enc Try.prog W 0 (fun _ => true) true Try.f7.params.toList args.toList ds p := hA0
  rw [Try.params7] at hA hval hsz
  obtain ⟨v0, vs0, d0, ds0, p0, q0, hargs, rfl, rfl, h0, r0⟩ := trodAll_cons hA
  obtain ⟨v1, vs1, d1, ds1, p1, q1, rfl, rfl, rfl, h1, r1⟩ := trodAll_cons r0
  obtain ⟨v2, vs2, d2, ds2, p2, q2, rfl, rfl, rfl, h2, r2⟩ := trodAll_cons r1
  obtain ⟨rfl, rfl, rfl⟩ := trodAll_nil r2
  obtain rfl : args = #[v0, v1, v2] := by cases args; simp_all
  obtain ⟨rfl, rfl⟩ := trodVars_none hV
  have k0 := h0
  have lt0 : ∀ x ∈ p0, x.block < W.heap.size := by obtain ⟨m, hm⟩ := k0; exact DataW.trod_lt m _ _ _ hm
  obtain ⟨a0, len0, cap0, z0, rfl, w0, y0, dy0, hy0⟩ := Tree.open_type Try.underlying24 rfl rfl (by kernel_rfl) (by kernel_rfl) Try.underlying22 Try.underlying41 (by kernel_rfl) rfl rfl rfl (by kernel_rfl) (by kernel_rfl) (by kernel_rfl) Try.underlying3 Try.underlying3 Try.underlying4 (hval 0 24 v0 rfl rfl) h0
  have s0 : cap0 * 24 ≤ 140737488351232 := by
    have := Tree.sized_type hsz (j := 0) rfl (congrArg some dy0) Try.underlying24 Try.underlying22 hy0
    rw [show Try.prog.bytesOf 41 = 24 from by kernel_rfl] at this
    unfold reachBytes at this
    omega
  obtain ⟨a1, rfl, rfl, rfl, w1⟩ := open_int Try.underlying3 (hval 1 3 v1 rfl rfl) h1
  obtain ⟨a2, rfl, rfl, rfl, w2⟩ := open_string Try.underlying9 (hval 2 9 v2 rfl rfl) h2
  have s2 : a2.size ≤ 140737488351232 := by have := sized_string hsz (j := 2) (t := 9) rfl rfl; simpa [reachBytes] using this
  clear hA0 hval0
  refine (walk a0 len0 cap0 z0 a1 a2 W w0 s0 w1 w2 s2).mono fun e W' ⟨he, bel⟩ => ?_
  subst he
  exact ⟨_, rfl, _, _, _, [], _, [], hW', trodAll_mk1 (shut_bool Try.underlying4 _), (trodAll_cons_mk (Below.trod laidOut (by kernel_rfl) (of_decide_eq_true (by kernel_rfl)) k0 bel lt0) (trodAll_cons_mk (shut_int Try.underlying3 w1) (trodAll_cons_mk (shut_string Try.underlying9 w2) trodAll_mk0))), rfl, bel.frame _, fun h => by cases h⟩

theorem over : Rows.schemaCutRow.holds Try.pinned (OpenSpec.ofChange Rows.schemaCutSpec) :=
  OpenClaim.holds_of_wide 7 Try.f7 rfl rfl rfl rfl rfl rfl rfl ⟨rfl, rfl, rfl, rfl, rfl⟩ rfl rfl rfl rfl rfl (by kernel_rfl) Try.func7 (by kernel_rfl)
    (of_decide_eq_true (by kernel_rfl)) (by unfold Func.isWrapper; first | (rw [if_pos (by decide +kernel)]; kernel_rfl) | (rw [if_neg (by decide +kernel)]; exact ⟨rfl, rfl⟩))
    (fun os started H enc _ => lifted os started H enc)

end Go.Proofs.Ytnnbeicfbcgcbaa.schemaCut
namespace Go.Proofs.Ytnnbeicfbcgcbaa
theorem schemaCut_holds : Rows.SchemaCutSaid := schemaCut.over
#print axioms schemaCut_holds
end Go.Proofs.Ytnnbeicfbcgcbaa
