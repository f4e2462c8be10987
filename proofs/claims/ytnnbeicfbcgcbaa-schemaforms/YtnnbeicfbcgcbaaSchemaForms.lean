/-
  SchemaForms: a kind that is none; eleven texts that tell no type.
-/
import Derived.Test.YtnnbeicfbcgcbaaRows
import Derived.WalkKit
import Derived.ProofKit
import Derived.OpenShut
import Derived.ShutString
import Derived.ChangeOld
import Derived.Below
import Derived.Deep.QuietTactic
import Derived.WalkSmall
import Derived.BigQuiet
import Derived.Deep.RegionWith
import Derived.OwnWalk
import Derived.RegionTactic
import Derived.ChangeAlike
import Derived.Deep.CutBlock
import Derived.Maps.AppendAt
import Derived.OneCell
import Derived.SizedLaws
import Derived.Test.YtnnbeicfbcgcbaaTree
import Derived.Test.YtnnbeicfbcgcbaaText
import Derived.Test.YtnnbeicfbcgcbaaOpen
import Derived.Test.YtnnbeicfbcgcbaaMem
import Derived.Test.YtnnbeicfbcgcbaaUp
import Derived.Test.YtnnbeicfbcgcbaaMay
import Derived.Test.YtnnbeicfbcgcbaaPro
import Derived.Test.YtnnbeicfbcgcbaaLev
import Derived.Test.YtnnbeicfbcgcbaaRefMay
import Derived.Test.YtnnbeicfbcgcbaaHelp
import Derived.Test.YtnnbeicfbcgcbaaCopy
import Derived.Test.YtnnbeicfbcgcbaaEnv
import Derived.Test.YtnnbeicfbcgcbaaPut
import Derived.Test.YtnnbeicfbcgcbaaTold
import Derived.Test.YtnnbeicfbcgcbaaGet
import Derived.Test.YtnnbeicfbcgcbaaGetAny
import Derived.Test.YtnnbeicfbcgcbaaSPut
import Derived.Test.YtnnbeicfbcgcbaaSGet
import Derived.Test.YtnnbeicfbcgcbaaSpoil
import Derived.Test.YtnnbeicfbcgcbaaAwake
import Derived.Test.YtnnbeicfbcgcbaaBoth
import Derived.Test.YtnnbeicfbcgcbaaMask
namespace Go.Proofs.Ytnnbeicfbcgcbaa.schemaForms
open Go.ChangeShapes Go.WideShapes Go.ChangeAt Go.RowKit
open Go.ChangeMaps (open_string shut_string)
set_option linter.unusedVariables false

theorem own : ownKnob Try.prog.godebug = none := by kernel_rfl

open Tree
theorem may_kind1 (z : Int) (h : 4 < z) : may [⟨z, -1, false⟩] = false := by
  cases c : may [⟨z, -1, false⟩]
  · rfl
  · exfalso
    have := (may_of c).kind 0 Nat.one_pos
    have e : (nd [⟨z, -1, false⟩] 0).kind = z := rfl
    omega
def lit1F (w : World) (z : Int) : World := w.alloc (Obj.cells #[.int .i64 z, .int .i64 (-1), .bool false] 41)
theorem litF_is (w : World) (z : Int) : IsT (lit1F w z) (some ⟨w.heap.size, 0, none⟩) [⟨z, -1, false⟩] ∧ Below w.heap.size w (lit1F w z) := by
  refine ⟨⟨(by show 1 ≤ maxLen; decide), .inr ⟨_, rfl, ?_⟩⟩, (Below.refl _ _).alloc (Nat.le_refl _) _⟩
  constructor
  all_goals
    intro i hi
    match i, hi with
    | 0, _ => simp [lit1F, Addr.add] <;> rfl
theorem putF (z : Int) (h : 4 < z) (w : World) (x : Addr) (hT : IsT w (some x) [⟨z, -1, false⟩]) :
    Calls Try.prog 9 #[.agg #[.slice (some x) 1 1]] w fun r w' => r = .returned (.tuple #[.string ⟨#[]⟩, .int .i64 600]) ∧ Below w.heap.size w w' := sputN (some x) 1 [⟨z, -1, false⟩] w hT (may_kind1 z h)
theorem getC (s : ByteArray) (hs : s.size ≤ 25) (hn : Hid (¬ isText s)) (w : World) :
    Calls Try.prog 11 #[.string s] w fun r w' => ∃ o c, r = .returned (.tuple #[.agg #[.slice o 0 c], .int .i64 600]) ∧ Below w.heap.size w w' := by
  refine (sgetR [] 600 s (by omega) ⟨fun c => absurd c hn.out, fun _ => ⟨rfl, rfl⟩⟩ w).mono ?_
  rintro r w' ⟨o, c, rfl, _, hb⟩
  exact ⟨o, c, rfl, hb⟩
theorem no_text {s : ByteArray} (h : (decide (s.size = 1 + 3 * (s.data.toList.getD 0 0).toNat) && may (decL s.data.toList) && decide (enc (decL s.data.toList) = s.data.toList)) = false) : ¬ isText s := by
  rintro ⟨h1, h2, h3⟩
  have h4 : enc (decL s.data.toList) = s.data.toList := by
    have := congrArg (fun s : ByteArray => s.data.toList) h3
    simpa using this
  have h5 : s.size = 1 + 3 * (s.data.toList.getD 0 0).toNat := h1
  rw [h2, h4, decide_eq_true h5, decide_eq_true rfl] at h
  cases h
def txts : List Value := [.string (⟨#[]⟩), .string (⟨#[0]⟩), .string ((⟨#[2, 3, 0, 0, 1, 1, 1]⟩ : ByteArray).extract 0 6), .string ((⟨#[2, 3, 0, 0, 1, 1, 1]⟩ : ByteArray) ++ ⟨#[120]⟩), .string (⟨#[1]⟩ ++ (⟨#[2, 3, 0, 0, 1, 1, 1]⟩ : ByteArray).extract 1 7), .string (⟨#[2, 5]⟩ ++ (⟨#[2, 3, 0, 0, 1, 1, 1]⟩ : ByteArray).extract 2 7), .string ((⟨#[2, 3, 0, 0, 1, 1, 1]⟩ : ByteArray).extract 0 2 ++ ⟨#[1]⟩ ++ (⟨#[2, 3, 0, 0, 1, 1, 1]⟩ : ByteArray).extract 3 7), .string ((⟨#[2, 3, 0, 0, 1, 1, 1]⟩ : ByteArray).extract 0 3 ++ ⟨#[2]⟩ ++ (⟨#[2, 3, 0, 0, 1, 1, 1]⟩ : ByteArray).extract 4 7), .string ((⟨#[2, 3, 0, 0, 1, 1, 1]⟩ : ByteArray).extract 0 5 ++ ⟨#[2]⟩ ++ (⟨#[2, 3, 0, 0, 1, 1, 1]⟩ : ByteArray).extract 6 7), .string ((⟨#[2, 3, 0, 0, 1, 1, 1]⟩ : ByteArray).extract 0 5 ++ ⟨#[0]⟩ ++ (⟨#[2, 3, 0, 0, 1, 1, 1]⟩ : ByteArray).extract 6 7), .string (⟨#[9]⟩ ++ (⟨#[2, 3, 0, 0, 1, 1, 1]⟩ : ByteArray).extract 1 7)]
theorem txts_at : ∀ (k : Nat) (h : k < txts.length), ∃ s, txts[k] = .string s ∧ s.size ≤ 25 ∧ ¬ isText s
  | 0, _ => ⟨⟨#[]⟩, rfl, by decide, no_text (by decide)⟩
  | 1, _ => ⟨⟨#[0]⟩, rfl, by decide, no_text (by decide)⟩
  | 2, _ => ⟨⟨#[2, 3, 0, 0, 1, 1]⟩, rfl, by decide, no_text (by decide)⟩
  | 3, _ => ⟨⟨#[2, 3, 0, 0, 1, 1, 1, 120]⟩, rfl, by decide, no_text (by decide)⟩
  | 4, _ => ⟨⟨#[1, 3, 0, 0, 1, 1, 1]⟩, rfl, by decide, no_text (by decide)⟩
  | 5, _ => ⟨⟨#[2, 5, 0, 0, 1, 1, 1]⟩, rfl, by decide, no_text (by decide)⟩
  | 6, _ => ⟨⟨#[2, 3, 1, 0, 1, 1, 1]⟩, rfl, by decide, no_text (by decide)⟩
  | 7, _ => ⟨⟨#[2, 3, 0, 2, 1, 1, 1]⟩, rfl, by decide, no_text (by decide)⟩
  | 8, _ => ⟨⟨#[2, 3, 0, 0, 1, 2, 1]⟩, rfl, by decide, no_text (by decide)⟩
  | 9, _ => ⟨⟨#[2, 3, 0, 0, 1, 0, 1]⟩, rfl, by decide, no_text (by decide)⟩
  | 10, _ => ⟨⟨#[9, 3, 0, 0, 1, 1, 1]⟩, rfl, by decide, no_text (by decide)⟩
  | n + 11, h => absurd h (by show ¬ n + 11 < 11; omega)
def litT (w : World) : World := (w.alloc (Obj.cells txts.toArray 9)).drew
theorem litT_below (w : World) : Below w.heap.size w (litT w) := ((Below.refl _ _).alloc (Nat.le_refl _) _).drew
set_option maxRecDepth 20000 in
set_option maxHeartbeats 4000000 in
theorem walk (a0 : Int) (a1 : Int) (w : World) (w0 : (Lit.int .i64 a0).wf = true) (w1 : (Lit.int .i64 a1).wf = true) :
    Calls Try.prog 5 #[.int .i64 a0, .int .i64 a1] w fun e w' => e = .returned (.bool true) ∧ Below w.heap.size w w' := by
  obtain ⟨d, hd, hd8⟩ := and10 a1
  obtain ⟨k, hk, hk0, hk11⟩ := rest a0 11 (by decide)
  go_enter Try.func5, Try.ntmps5
  go_wp2_with fail
  refine (awake w).mono ?_
  rintro e w1 ⟨rfl, hb1⟩
  have x1 : IntKind.i64.wrap (1 + (d : Int)) = 1 + (d : Int) := by rw [IntKind.wrap_i64]; omega
  have x2 : IntKind.i64.wrap (4 + (1 + (d : Int))) = 4 + (1 + (d : Int)) := by rw [IntKind.wrap_i64]; omega
  obtain ⟨hT, hb2⟩ := litF_is w1 (4 + (1 + (d : Int)))
  have hB2 := bel hb1 hb2
  go_wp2_with fail
  refine (putF (4 + (1 + (d : Int))) (by omega) _ _ hT).mono ?_
  rintro e w3 ⟨rfl, hb3⟩
  have hB3 := bel hB2 hb3
  clear hT hb1 hb2 hb3 hB2 x1 x2
  go_wp2_with fail
  go_region
  go_wp2_with fail
  have hkt : k.toNat < txts.length := by show k.toNat < 11; omega
  obtain ⟨s, hs, hs25, hn⟩ := txts_at k.toNat hkt
  have HN : Hid (¬ isText s) := hn
  have hb4 := litT_below w3
  have hc := getC s hs25 HN (litT w3)
  rw [← hs] at hc
  refine Calls.mono hc ?_
  clear hc
  generalize litT w3 = w4 at *
  rintro e w5 ⟨o1, c1, rfl, hb5⟩
  obtain ⟨w6, e6, hs6, hc6, hb6⟩ := boxed w5 (.slice o1 0 c1) 24
  have hB6 := bel (bel (bel hB3 hb4) hb5) hb6
  clear hb4 hb5 hb6 hc6 hB3 hs hn
  go_wp2_with fail
  clear e6
  refine (num _ _).mono ?_
  rintro e wx ⟨rfl, rfl⟩
  go_wp2_with fail
  refine (num _ _).mono ?_
  rintro e wx ⟨rfl, rfl⟩
  go_wp2
  go_ret
  exact ⟨rfl, hB6⟩

set_option maxRecDepth 100000 in
theorem lifted (os : Os) (started : os.Started) (H : Type) (enc : TypeId × Value → H) :
    ReturnsInHanded {} Try.checked os 5 .any (Rows.schemaFormsSpec.pre6 enc Try.prog Try.f5 Rows.schemaFormsRow.domain false) (Rows.schemaFormsSpec.post enc Try.prog Try.f5 false true false false) := by
  refine returnsInHanded_of_change (C := Try.checked) own started (by kernel_rfl) Try.func5
    (ChangeSpec.witness6 (enc := enc) (C := Try.checked) false ⟨#[], #[.int .i64 0, .int .i64 0], []⟩ 8 (by kernel_rfl) (by kernel_rfl) (by kernel_rfl) (by kernel_rfl)) ?_
  intro W base args ds gs before hval0 hW hcnd _
  have hval : ∀ (j : Nat) t v, Try.f5.params[j]? = some t → args[j]? = some v → Value.okWide Try.prog W .any base t v := hval0
  have hW' := hW
  obtain ⟨p, q, hA0, hV, rfl, hfz, hnd⟩ := hW
  have hA : DataW.TrodAll enc Try.prog W 0 (fun _ => true) true Try.f5.params.toList args.toList ds p := hA0
  rw [Try.params5] at hA hval
  obtain ⟨v0, vs0, d0, ds0, p0, q0, hargs, rfl, rfl, h0, r0⟩ := trodAll_cons hA
  obtain ⟨v1, vs1, d1, ds1, p1, q1, rfl, rfl, rfl, h1, r1⟩ := trodAll_cons r0
  obtain ⟨rfl, rfl, rfl⟩ := trodAll_nil r1
  obtain rfl : args = #[v0, v1] := by cases args; simp_all
  obtain ⟨rfl, rfl⟩ := trodVars_none hV
  obtain ⟨a0, rfl, rfl, rfl, w0⟩ := open_int Try.underlying3 (hval 0 3 v0 rfl rfl) h0
  obtain ⟨a1, rfl, rfl, rfl, w1⟩ := open_int Try.underlying3 (hval 1 3 v1 rfl rfl) h1
  clear hA0 hval0
  refine (walk a0 a1 W w0 w1).mono fun e W' ⟨he, bel⟩ => ?_
  subst he
  exact ⟨_, rfl, _, _, _, [], _, [], hW', trodAll_mk1 (shut_bool Try.underlying4 _), (trodAll_cons_mk (shut_int Try.underlying3 w0) (trodAll_cons_mk (shut_int Try.underlying3 w1) trodAll_mk0)), rfl, bel.frame _, fun h => by cases h⟩

theorem over : Rows.schemaFormsRow.holds Try.pinned (OpenSpec.ofChange Rows.schemaFormsSpec) :=
  OpenClaim.holds_of_wide 5 Try.f5 rfl rfl rfl rfl rfl rfl rfl ⟨rfl, rfl, rfl, rfl, rfl⟩ rfl rfl rfl rfl rfl (by kernel_rfl) Try.func5 (by kernel_rfl)
    (of_decide_eq_true (by kernel_rfl)) (by unfold Func.isWrapper; first | (rw [if_pos (by decide +kernel)]; kernel_rfl) | (rw [if_neg (by decide +kernel)]; exact ⟨rfl, rfl⟩))
    (fun os started H enc _ => lifted os started H enc)

end Go.Proofs.Ytnnbeicfbcgcbaa.schemaForms
namespace Go.Proofs.Ytnnbeicfbcgcbaa
theorem schemaForms_holds : Rows.SchemaFormsSaid := schemaForms.over
#print axioms schemaForms_holds
end Go.Proofs.Ytnnbeicfbcgcbaa
