/-
  For every text, two ints and a truth, that are together of bulk at most 1048576, bits.Get, Set, Count and Copy answer as the document does: quiverlaw2.Bits returns true.
-/
import Derived.Test.YtondhjfpfloejaaRows
import Derived.WalkKit
import Derived.ProofKit
import Derived.OpenShut
import Derived.ShutString
import Derived.ChangeOld
import Derived.Below
import Derived.JoinedCond
import Derived.Test.YtondhjfpfloejaaPlain
import Derived.Test.YtondhjfpfloejaaCopy
import Derived.Test.YtondhjfpfloejaaRef
import Derived.Test.YtondhjfpfloejaaRefCopy
namespace Go.Proofs.Ytondhjfpfloejaa.bits
open Go.ChangeShapes Go.WideShapes Go.ChangeAt Go.RowKit
open Go.ChangeMaps (open_string shut_string)
set_option linter.unusedVariables false

theorem own : ownKnob Try.prog.godebug = none := by kernel_rfl

theorem same {f : Nat} {args : Array Value} {w : World} {R : Ending} (h : Calls Try.prog f args w fun r w' => r = R ∧ w' = w) : Calls Try.prog f args w fun r w' => r = R ∧ Below w.heap.size w w' := by
  refine h.mono ?_
  rintro r w' ⟨rfl, rfl⟩
  exact ⟨rfl, Below.refl _ _⟩
theorem get_any (s : ByteArray) (a : Int) (hs : s.size ≤ 140737488351232) (ha : a ≤ 9223372036854775807) :
    ∃ (b : Bool) (e : Int), Hid (∀ w, Calls Try.prog 9 #[.string s, .int .i64 a] w fun r w' => r = .returned (.tuple #[.bool b, .int .i64 e]) ∧ Below w.heap.size w w') ∧ Hid (∀ w, Calls Try.prog 10 #[.string s, .int .i64 a] w fun r w' => r = .returned (.tuple #[.bool b, .int .i64 e]) ∧ Below w.heap.size w w') := by
  by_cases h : 0 ≤ a ∧ a < 8 * (s.size : Int)
  · exact ⟨_, _, fun w => same (Bit.get_yes s a w hs h.1 h.2), fun w => same (Bit.refGet_yes s a w hs h.1 h.2)⟩
  · exact ⟨_, _, fun w => same (Bit.get_no s a w hs ha (by omega)), fun w => same (Bit.refGet_no s a w hs (by omega))⟩
theorem set_any (s : ByteArray) (a : Int) (on : Bool) (hs : s.size ≤ 140737488351232) (ha : a ≤ 9223372036854775807) :
    ∃ (b : ByteArray) (e : Int), Hid (∀ w, Calls Try.prog 11 #[.string s, .int .i64 a, .bool on] w fun r w' => r = .returned (.tuple #[.string b, .int .i64 e]) ∧ Below w.heap.size w w') ∧ Hid (∀ w, Calls Try.prog 12 #[.string s, .int .i64 a, .bool on] w fun r w' => r = .returned (.tuple #[.string b, .int .i64 e]) ∧ Below w.heap.size w w') := by
  by_cases h : 0 ≤ a ∧ a < 8 * (s.size : Int)
  · exact ⟨_, _, fun w => Bit.set_yes s a on w hs h.1 h.2, fun w => Bit.refSet_yes s a on w hs h.1 h.2⟩
  · exact ⟨_, _, fun w => same (Bit.set_no s a on w hs ha (by omega)), fun w => same (Bit.refSet_no s a on w hs (by omega))⟩
theorem count_any (s : ByteArray) (a c : Int) (hs : s.size ≤ 140737488351232) (ha : a ≤ 9223372036854775807) (hc : c ≤ 9223372036854775807) :
    ∃ (b : Int) (e : Int), Hid (∀ w, Calls Try.prog 13 #[.string s, .int .i64 a, .int .i64 c] w fun r w' => r = .returned (.tuple #[.int .i64 b, .int .i64 e]) ∧ Below w.heap.size w w') ∧ Hid (∀ w, Calls Try.prog 14 #[.string s, .int .i64 a, .int .i64 c] w fun r w' => r = .returned (.tuple #[.int .i64 b, .int .i64 e]) ∧ Below w.heap.size w w') := by
  by_cases h : 0 ≤ a ∧ 0 ≤ c ∧ a + c ≤ 8 * (s.size : Int)
  · exact ⟨_, _, fun w => Bit.count_yes s a c w hs h.1 h.2.1 h.2.2, fun w => same (Bit.refCount_yes s a c w hs h.1 h.2.1 h.2.2)⟩
  · exact ⟨_, _, fun w => same (Bit.count_no s a c w hs ha hc h), fun w => same (Bit.refCount_no s a c w hs h)⟩
theorem copy_any (s : ByteArray) (a c : Int) (hs : s.size ≤ 1048576) (ha : a ≤ 9223372036854775807) (hc : c ≤ 9223372036854775807) :
    ∃ (b : ByteArray) (e : Int), Hid (∀ w, Calls Try.prog 15 #[.string s, .int .i64 a, .int .i64 c] w fun r w' => r = .returned (.tuple #[.string b, .int .i64 e]) ∧ Below w.heap.size w w') ∧ Hid (∀ w, Calls Try.prog 16 #[.string s, .int .i64 a, .int .i64 c] w fun r w' => r = .returned (.tuple #[.string b, .int .i64 e]) ∧ Below w.heap.size w w') := by
  by_cases h : 0 ≤ a ∧ 0 ≤ c ∧ a + c ≤ 8 * (s.size : Int)
  · exact ⟨_, _, fun w => Bit.copy_yes s a c w (by omega) h.1 h.2.1 h.2.2, fun w => Bit.refCopy_yes s a c w hs h.1 h.2.1 h.2.2⟩
  · exact ⟨_, _, fun w => same (Bit.copy_no s a c w (by omega) ha hc h), fun w => same (Bit.refCopy_no s a c w (by omega) h)⟩

set_option maxHeartbeats 1000000 in
theorem walk (a0 : ByteArray) (a1 : Int) (a2 : Int) (a3 : Bool) (w : World) (w0 : a0.size ≤ maxLen) (w1 : (Lit.int .i64 a1).wf = true) (w2 : (Lit.int .i64 a2).wf = true) (s0 : a0.size ≤ 1048576) :
    Calls Try.prog 3 #[.string a0, .int .i64 a1, .int .i64 a2, .bool a3] w fun e w' => e = .returned (.bool true) ∧ Below w.heap.size w w' := by
  have s1 : a0.size ≤ 140737488351232 := by omega
  have r1 : a1 ≤ 9223372036854775807 := (bounds_i64 w1).2
  have r2 : a2 ≤ 9223372036854775807 := (bounds_i64 w2).2
  obtain ⟨b, e, g1, g2⟩ := get_any a0 a1 s1 r1
  obtain ⟨t, f, g3, g4⟩ := set_any a0 a1 a3 s1 r1
  obtain ⟨z, g, g5, g6⟩ := count_any a0 a1 a2 s1 r1 r2
  obtain ⟨u, h, g7, g8⟩ := copy_any a0 a1 a2 s0 r1 r2
  go_enter Try.func3, Try.ntmps3
  go_wp2_with fail
  refine (g1.out _).mono ?_
  rintro x v1 ⟨rfl, b1⟩
  go_wp2_with fail
  refine (g2.out _).mono ?_
  rintro x v2 ⟨rfl, b2⟩
  go_wp2_with fail
  refine (g3.out _).mono ?_
  rintro x v3 ⟨rfl, b3⟩
  go_wp2_with fail
  refine (g4.out _).mono ?_
  rintro x v4 ⟨rfl, b4⟩
  go_wp2_with fail
  refine (g5.out _).mono ?_
  rintro x v5 ⟨rfl, b5⟩
  go_wp2_with fail
  refine (g6.out _).mono ?_
  rintro x v6 ⟨rfl, b6⟩
  go_wp2_with fail
  refine (g7.out _).mono ?_
  rintro x v7 ⟨rfl, b7⟩
  go_wp2_with fail
  refine (g8.out _).mono ?_
  rintro x v8 ⟨rfl, b8⟩
  go_wp2_with (first | (go_at_call 17; refine (Bit.num _ _).mono ?_; rintro e w' ⟨rfl, rfl⟩) | (go_at_call 18; refine (Bit.awake _).mono ?_; rintro e v9 ⟨rfl, b9⟩))
  go_ret
  exact ⟨rfl, Bit.bel b1 (Bit.bel b2 (Bit.bel b3 (Bit.bel b4 (Bit.bel b5 (Bit.bel b6 (Bit.bel b7 (Bit.bel b8 b9)))))))⟩

theorem contract (H : Type) (enc : TypeId × Value → H) (W : World) (base : Nat) (args : Array Value) (ds gs : List (DataW H)) (before : List MemPlace)
    (hval : ∀ (j : Nat) t v, Try.f3.params[j]? = some t → args[j]? = some v → Value.okWide Try.prog W .any base t v)
    (hW : DataW.Whole enc Try.prog Try.f3.params.toList Rows.bitsSpec.vars false W args.toList ds gs before) (hk : Rows.uptoSmall H (ds ++ gs) = true) :
    Calls Try.prog 3 args W fun e W' => ∃ v, e = .returned v ∧ Rows.bitsSpec.post enc Try.prog Try.f3 false true false false W args v W' := by
  have hW' := hW
  obtain ⟨p, q, hA0, hV, rfl, hfz, hnd⟩ := hW
  have hA : DataW.TrodAll enc Try.prog W 0 (fun _ => true) true Try.f3.params.toList args.toList ds p := hA0
  rw [Try.params3] at hA hval
  obtain ⟨v0, vs0, d0, ds0, p0, q0, hargs, rfl, rfl, h0, r0⟩ := trodAll_cons hA
  obtain ⟨v1, vs1, d1, ds1, p1, q1, rfl, rfl, rfl, h1, r1⟩ := trodAll_cons r0
  obtain ⟨v2, vs2, d2, ds2, p2, q2, rfl, rfl, rfl, h2, r2⟩ := trodAll_cons r1
  obtain ⟨v3, vs3, d3, ds3, p3, q3, rfl, rfl, rfl, h3, r3⟩ := trodAll_cons r2
  obtain ⟨rfl, rfl, rfl⟩ := trodAll_nil r3
  obtain rfl : args = #[v0, v1, v2, v3] := by cases args; simp_all
  obtain ⟨rfl, rfl⟩ := trodVars_none hV
  obtain ⟨a0, rfl, rfl, rfl, w0⟩ := open_string Try.underlying9 (hval 0 9 v0 rfl rfl) h0
  obtain ⟨a1, rfl, rfl, rfl, w1⟩ := open_int Try.underlying3 (hval 1 3 v1 rfl rfl) h1
  obtain ⟨a2, rfl, rfl, rfl, w2⟩ := open_int Try.underlying3 (hval 2 3 v2 rfl rfl) h2
  obtain ⟨a3, rfl, rfl, rfl⟩ := open_bool Try.underlying4 (hval 3 4 v3 rfl rfl) h3
  have s0 : a0.size ≤ 1048576 := by
    have h : Rows.uptoBulkAll _ ≤ 1048576 := of_decide_eq_true hk
    simp only [List.append_nil, Rows.uptoBulkAll, Rows.uptoBulk, Array.length_toList] at h
    have e : a0.data.size = a0.size := rfl
    omega
  clear hA0
  refine (walk a0 a1 a2 a3 W w0 w1 w2 s0).mono fun e W' ⟨he, bel⟩ => ?_
  subst he
  exact ⟨_, rfl, _, _, _, [], _, [], hW', trodAll_mk1 (shut_bool Try.underlying4 _), (trodAll_cons_mk (shut_string Try.underlying9 w0) (trodAll_cons_mk (shut_int Try.underlying3 w1) (trodAll_cons_mk (shut_int Try.underlying3 w2) (trodAll_cons_mk (shut_bool Try.underlying4 _) trodAll_mk0)))), rfl, bel.frame _, fun h => by cases h⟩

set_option maxRecDepth 100000 in
theorem lifted (os : Os) (started : os.Started) (H : Type) (enc : TypeId × Value → H) (F : Stop.Interp) :
    ReturnsInHanded {} Try.checked os 3 .any ((Rows.OpenSpec.upto Rows.bitsSpec).pre6 enc Try.prog Try.f3 Rows.bitsUptoRow.domain false) (((Rows.OpenSpec.upto Rows.bitsSpec).at F).post enc Try.prog Try.f3 false true false false) := by
  refine returnsInHanded_of_cond (C := Try.checked) (s := Rows.OpenSpec.upto Rows.bitsSpec) (k := Rows.uptoSmall) rfl own started (by kernel_rfl) Try.func3
    (OpenSpec.witness (enc := enc) (C := Try.checked) (s := Rows.OpenSpec.upto Rows.bitsSpec) (k := Rows.uptoSmall) rfl false ⟨#[], #[.string ByteArray.empty, .int .i64 0, .int .i64 0, .bool false], []⟩ 8 (by kernel_rfl) (by kernel_rfl) (by kernel_rfl)
      (x := ([.lit (.string []), .lit (.int .i64 0), .lit (.int .i64 0), .lit (.bool false)], [], [])) (by kernel_rfl) rfl (by kernel_rfl)) ?_
  intro W base args ds gs before hval hW _ hk _
  exact contract H enc W base args ds gs before hval hW hk

theorem over : Rows.bitsUptoRow.holds Try.pinned (Rows.OpenSpec.upto Rows.bitsSpec) :=
  OpenClaim.holds_of_cond 3 Try.f3 rfl rfl rfl rfl rfl rfl rfl ⟨rfl, rfl, rfl, rfl, rfl⟩ rfl rfl rfl rfl rfl (by kernel_rfl) Try.func3 (by kernel_rfl)
    (of_decide_eq_true (by kernel_rfl)) (by unfold Func.isWrapper; first | (rw [if_pos (by decide +kernel)]; kernel_rfl) | (rw [if_neg (by decide +kernel)]; exact ⟨rfl, rfl⟩))
    (fun os started H enc _ F => lifted os started H enc F)

end Go.Proofs.Ytondhjfpfloejaa.bits
namespace Go.Proofs.Ytondhjfpfloejaa
theorem bitsUpto_holds : Rows.BitsUptoSaid := bits.over
#print axioms bitsUpto_holds
end Go.Proofs.Ytondhjfpfloejaa
