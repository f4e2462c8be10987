/-
  For every two ints, text of at most 2^47 - 4096 bytes and place, num.Put, Get, PutVar and GetVar answer as the document does: quiverlaw3.Nums returns true.
-/
import Derived.Test.YtlbchabmjegobaaRows
import Derived.WalkKit
import Derived.ProofKit
import Derived.OpenShut
import Derived.ShutString
import Derived.ChangeOld
import Derived.Below
import Derived.SizedLaws
import Derived.Test.YtlbchabmjegobaaPlain
import Derived.Test.YtlbchabmjegobaaAwake
import Derived.Test.YtlbchabmjegobaaRefGet
namespace Go.Proofs.Ytlbchabmjegobaa.nums
open Go.ChangeShapes Go.WideShapes Go.ChangeAt Go.RowKit
open Go.ChangeMaps (open_string shut_string)
set_option linter.unusedVariables false

theorem own : ownKnob Try.prog.godebug = none := by kernel_rfl

theorem same {f : Nat} {args : Array Value} {w : World} {R : Ending} (h : Calls Try.prog f args w fun r w' => r = R ∧ w' = w) : Calls Try.prog f args w fun r w' => r = R ∧ Below w.heap.size w w' := by
  refine h.mono ?_
  rintro r w' ⟨rfl, rfl⟩
  exact ⟨rfl, Below.refl _ _⟩
theorem put_any (x n : Int) :
    ∃ (b : ByteArray) (e : Int), Hid (∀ w, Calls Try.prog 8 #[.int .i64 x, .int .i64 n] w fun r w' => r = .returned (.tuple #[.string b, .int .i64 e]) ∧ Below w.heap.size w w') ∧ Hid (∀ w, Calls Try.prog 9 #[.int .i64 x, .int .i64 n] w fun r w' => r = .returned (.tuple #[.string b, .int .i64 e]) ∧ Below w.heap.size w w') := by
  obtain ⟨X, hX⟩ : ∃ X : Nat, IntKind.u64.wrap x = (X : Int) := ⟨(IntKind.u64.wrap x).toNat, by have := wrap_u64_nonneg x; omega⟩
  by_cases h : n = 4 ∧ 0 ≤ x ∧ x ≤ 2147483647 ∨ n = 8
  · rcases h with ⟨rfl, h0, h1⟩ | rfl
    · exact ⟨_, _, fun w => Fix.put4 x X hX w h0 h1, fun w => Fix.refPut4 x X hX w h0 h1⟩
    · exact ⟨_, _, fun w => Fix.put8 x X hX w, fun w => Fix.refPut8 x X hX w⟩
  · exact ⟨_, _, fun w => same (Fix.put_no x n w h), fun w => same (Fix.refPut_no x n w h)⟩
theorem get_any (s : ByteArray) (a n : Int) (hs : s.size ≤ 140737488355327) :
    ∃ (b : Int) (e : Int), Hid (∀ w, Calls Try.prog 10 #[.string s, .int .i64 a, .int .i64 n] w fun r w' => r = .returned (.tuple #[.int .i64 b, .int .i64 e]) ∧ Below w.heap.size w w') ∧ Hid (∀ w, Calls Try.prog 11 #[.string s, .int .i64 a, .int .i64 n] w fun r w' => r = .returned (.tuple #[.int .i64 b, .int .i64 e]) ∧ Below w.heap.size w w') := by
  by_cases h : (n = 4 ∨ n = 8) ∧ 0 ≤ a ∧ a + n ≤ (s.size : Int)
  · obtain ⟨hn, h0, h1⟩ := h
    obtain ⟨c, rfl⟩ := Int.eq_ofNat_of_zero_le h0
    rcases hn with rfl | rfl
    · by_cases hm : Plain.val s.data.toList c 4 ≤ 2147483647
      · exact ⟨_, _, fun w => same (Fix.get4 s c w hs (by omega) hm), fun w => same (Fix.refGet4 s c w hs (by omega) hm)⟩
      · exact ⟨_, _, fun w => same (Fix.get4_no s c w hs (by omega) (by omega)), fun w => same (Fix.refGet4_no s c w hs (by omega) (by omega))⟩
    · exact ⟨_, _, fun w => same (Fix.get8 s c w hs (by omega)), fun w => same (Fix.refGet8 s c w hs (by omega))⟩
  · exact ⟨_, _, fun w => same (Fix.get_no s a n w hs h), fun w => same (Fix.refGet_no s a n w hs h)⟩
theorem putVar_any (x : Int) :
    ∃ (b : ByteArray) (e : Int), Hid (∀ w, Calls Try.prog 12 #[.int .i64 x] w fun r w' => r = .returned (.tuple #[.string b, .int .i64 e]) ∧ Below w.heap.size w w') ∧ Hid (∀ w, Calls Try.prog 13 #[.int .i64 x] w fun r w' => r = .returned (.tuple #[.string b, .int .i64 e]) ∧ Below w.heap.size w w') := by
  by_cases h : 0 ≤ x ∧ x ≤ 2147483647
  · obtain ⟨h0, h1⟩ := h
    obtain ⟨c, rfl⟩ := Int.eq_ofNat_of_zero_le h0
    exact ⟨_, _, fun w => Fix.putVar_yes c w (by omega), fun w => Fix.refPutVar_yes c w (by omega)⟩
  · exact ⟨_, _, fun w => same (Fix.putVar_no x w h), fun w => same (Fix.refPutVar_no x w h)⟩
theorem getVar_any (s : ByteArray) (a : Int) (hs : s.size ≤ 140737488355327) :
    ∃ (x t e : Int), Hid (∀ w, Calls Try.prog 14 #[.string s, .int .i64 a] w fun r w' => r = .returned (.tuple #[.int .i64 x, .int .i64 t, .int .i64 e]) ∧ Below w.heap.size w w') ∧ Hid (∀ w, Calls Try.prog 15 #[.string s, .int .i64 a] w fun r w' => r = .returned (.tuple #[.int .i64 x, .int .i64 t, .int .i64 e]) ∧ Below w.heap.size w w') := by
  by_cases h : a < 0 ∨ (s.size : Int) ≤ a
  · exact ⟨_, _, _, fun w => same (Fix.getVar_out s a w hs h), fun w => same (Fix.refGetVar_out s a w hs h)⟩
  · obtain ⟨c, rfl⟩ := Int.eq_ofNat_of_zero_le (show 0 ≤ a by omega)
    obtain ⟨X, T, E, hg⟩ : ∃ X T E, Plain.gv s.data.toList c 5 0 = (X, T, E) := ⟨_, _, _, rfl⟩
    exact ⟨_, _, _, fun w => same (Fix.getVar_in s c X T E w hs (by omega) hg), fun w => Fix.refGetVar_in s c X T E w hs (by omega) hg⟩

set_option maxRecDepth 20000 in
set_option maxHeartbeats 4000000 in
theorem walk (a0 : Int) (a1 : Int) (a2 : ByteArray) (a3 : Int) (w : World) (w0 : (Lit.int .i64 a0).wf = true) (w1 : (Lit.int .i64 a1).wf = true) (w2 : a2.size ≤ maxLen) (w3 : (Lit.int .i64 a3).wf = true) (s2 : a2.size ≤ 140737488351232) :
    Calls Try.prog 3 #[.int .i64 a0, .int .i64 a1, .string a2, .int .i64 a3] w fun e w' => e = .returned (.bool true) ∧ Below w.heap.size w w' := by
  obtain ⟨b, e, g1, g2⟩ := put_any a0 a1
  obtain ⟨c, f, g3, g4⟩ := get_any a2 a3 a1 (by omega)
  obtain ⟨p, i, g5, g6⟩ := putVar_any a0
  obtain ⟨y, t, k, g7, g8⟩ := getVar_any a2 a3 (by omega)
  clear w0 w1 w2 w3
  go_enter Try.func3, Try.ntmps3
  go_wp2_with fail
  refine (g1.out _).mono ?_
  rintro x v1 ⟨rfl, b1⟩
  go_wp2_with fail
  refine (g2.out _).mono ?_
  rintro x v2 ⟨rfl, b2⟩
  go_wp2_with fail
  refine (g3.out _).mono ?_
  rintro x v3 ⟨rfl, b3⟩
  go_wp2_with fail
  refine (g4.out _).mono ?_
  rintro x v4 ⟨rfl, b4⟩
  go_wp2_with fail
  refine (g5.out _).mono ?_
  rintro x v5 ⟨rfl, b5⟩
  go_wp2_with fail
  refine (g6.out _).mono ?_
  rintro x v6 ⟨rfl, b6⟩
  go_wp2_with fail
  refine (g7.out _).mono ?_
  rintro x v7 ⟨rfl, b7⟩
  go_wp2_with fail
  refine (g8.out _).mono ?_
  rintro x v8 ⟨rfl, b8⟩
  go_wp2_with (first | (go_at_call 16; refine (Fix.num _ _).mono ?_; rintro e w' ⟨rfl, rfl⟩) | (go_at_call 17; refine (Fix.awake _).mono ?_; rintro e v9 ⟨rfl, b9⟩))
  go_ret
  exact ⟨rfl, Fix.bel b1 (Fix.bel b2 (Fix.bel b3 (Fix.bel b4 (Fix.bel b5 (Fix.bel b6 (Fix.bel b7 (Fix.bel b8 b9)))))))⟩

set_option maxRecDepth 100000 in
theorem lifted (os : Os) (started : os.Started) (H : Type) (enc : TypeId × Value → H) :
    ReturnsInHanded {} Try.checked os 3 .any (Rows.numsSpec.pre6 enc Try.prog Try.f3 Rows.numsRow.domain false) (Rows.numsSpec.post enc Try.prog Try.f3 false true false false) := by
  refine returnsInHanded_of_change_sized (C := Try.checked) own started (by kernel_rfl) Try.func3
    (ChangeSpec.witness6 (enc := enc) (C := Try.checked) false ⟨#[], #[.int .i64 0, .int .i64 0, .string ByteArray.empty, .int .i64 0], []⟩ 8 (by kernel_rfl) (by kernel_rfl) (by kernel_rfl) (by kernel_rfl)) ?_
  intro W base args ds gs before hval0 hW hcnd hsz0 _
  have hsz : (DataW.weightsEach Try.prog (Try.f3.params.toList ++ Rows.numsSpec.plain.varTypes Try.prog) (ds ++ gs)).all (· ≤ reachBytes) = true := hsz0
  clear hsz0
  have hval : ∀ (j : Nat) t v, Try.f3.params[j]? = some t → args[j]? = some v → Value.okWide Try.prog W .any base t v := hval0
  have hW' := hW
  obtain ⟨p, q, hA0, hV, rfl, hfz, hnd⟩ := hW
  have hA : DataW.TrodAll enc Try.prog W 0 (fun _ => true) true Try.f3.params.toList args.toList ds p := hA0
  rw [Try.params3] at hA hval hsz
  obtain ⟨v0, vs0, d0, ds0, p0, q0, hargs, rfl, rfl, h0, r0⟩ := trodAll_cons hA
  obtain ⟨v1, vs1, d1, ds1, p1, q1, rfl, rfl, rfl, h1, r1⟩ := trodAll_cons r0
  obtain ⟨v2, vs2, d2, ds2, p2, q2, rfl, rfl, rfl, h2, r2⟩ := trodAll_cons r1
  obtain ⟨v3, vs3, d3, ds3, p3, q3, rfl, rfl, rfl, h3, r3⟩ := trodAll_cons r2
  obtain ⟨rfl, rfl, rfl⟩ := trodAll_nil r3
  obtain rfl : args = #[v0, v1, v2, v3] := by cases args; simp_all
  obtain ⟨rfl, rfl⟩ := trodVars_none hV
  obtain ⟨a0, rfl, rfl, rfl, w0⟩ := open_int Try.underlying3 (hval 0 3 v0 rfl rfl) h0
  obtain ⟨a1, rfl, rfl, rfl, w1⟩ := open_int Try.underlying3 (hval 1 3 v1 rfl rfl) h1
  obtain ⟨a2, rfl, rfl, rfl, w2⟩ := open_string Try.underlying9 (hval 2 9 v2 rfl rfl) h2
  obtain ⟨a3, rfl, rfl, rfl, w3⟩ := open_int Try.underlying3 (hval 3 3 v3 rfl rfl) h3
  have s2 : a2.size ≤ 140737488351232 := by have := sized_string hsz (j := 2) (t := 9) rfl rfl; simpa [reachBytes] using this
  clear hA0 hval0
  refine (walk a0 a1 a2 a3 W w0 w1 w2 w3 s2).mono fun e W' ⟨he, bel⟩ => ?_
  subst he
  exact ⟨_, rfl, _, _, _, [], _, [], hW', trodAll_mk1 (shut_bool Try.underlying4 _), (trodAll_cons_mk (shut_int Try.underlying3 w0) (trodAll_cons_mk (shut_int Try.underlying3 w1) (trodAll_cons_mk (shut_string Try.underlying9 w2) (trodAll_cons_mk (shut_int Try.underlying3 w3) trodAll_mk0)))), rfl, bel.frame _, fun h => by cases h⟩

theorem over : Rows.numsRow.holds Try.pinned (OpenSpec.ofChange Rows.numsSpec) :=
  OpenClaim.holds_of_wide 3 Try.f3 rfl rfl rfl rfl rfl rfl rfl ⟨rfl, rfl, rfl, rfl, rfl⟩ rfl rfl rfl rfl rfl (by kernel_rfl) Try.func3 (by kernel_rfl)
    (of_decide_eq_true (by kernel_rfl)) (by unfold Func.isWrapper; first | (rw [if_pos (by decide +kernel)]; kernel_rfl) | (rw [if_neg (by decide +kernel)]; exact ⟨rfl, rfl⟩))
    (fun os started H enc _ => lifted os started H enc)

end Go.Proofs.Ytlbchabmjegobaa.nums
namespace Go.Proofs.Ytlbchabmjegobaa
theorem nums_holds : Rows.NumsSaid := nums.over
#print axioms nums_holds
end Go.Proofs.Ytlbchabmjegobaa
