/-
  Values: every call of package value answers as the document's own, for arguments of bulk at most 1048576, and what is handed in stays as it was.
-/
import Derived.Test.YtejgjipmnmfkcaaGreatDoorRows
import Derived.WalkKit
import Derived.ProofKit
import Derived.OpenShut
import Derived.ShutString
import Derived.ChangeOld
import Derived.Below
import Derived.SizedLaws
import Derived.JoinedCond
import Derived.LaidMore
import Derived.Stop.Joined
import Derived.SevenTiedAt
import Derived.Test.YtejgjipmnmfkcaaGreatDoorCards
import Derived.Test.YtejgjipmnmfkcaaGreatDoorTie
import Derived.Test.YtejgjipmnmfkcaaGreatDoorOpen
import Derived.Test.YtejgjipmnmfkcaaGreatDoorEnv
import Derived.Test.YtejgjipmnmfkcaaGreatDoorOpenTexts
import Derived.Test.YtejgjipmnmfkcaaGreatDoorHome
import Derived.Test.YtejgjipmnmfkcaaGreatDoorDoor
import Derived.Test.YtejgjipmnmfkcaaGreatDoorLend
import Derived.Test.YtejgjipmnmfkcaaGreatDoorLaw
namespace Go.Proofs.YtejgjipmnmfkcaaGreatDoor.values
open Go.ChangeShapes Go.WideShapes Go.ChangeAt Go.RowKit
open Go.ChangeMaps (open_string shut_string)
set_option linter.unusedVariables false

theorem own : ownKnob Tryz.prog.godebug = none := by kernel_rfl
theorem laidOut : laidOutB Tryz.prog = true := by kernel_rfl
open Val Texts
theorem bulk_strs {H : Type} (l : List ByteArray) : Rows.uptoBulkAll (strs (H := H) l) = (flat l).length + l.length := by
  induction l with
  | nil => rfl
  | cons s r ih =>
    have e : Rows.uptoBulkAll (strs (H := H) (s :: r)) = (s.data.toList.length + 1) + Rows.uptoBulkAll (strs (H := H) r) := rfl
    have f : (flat (s :: r)).length = s.data.toList.length + (flat r).length := by
      show ((bl s) ++ flat r).length = _
      rw [List.length_append]
      rfl
    rw [e, ih, f, List.length_cons]
    omega
theorem bulk_texts {H : Type} {d : DataW H} {len cap : Nat} {ss : List ByteArray} (hd : d = .nil ∧ cap = 0 ∨ d = .slice (strs (ss.take len)) (strs (ss.drop len)) ∧ ss.length = cap) (h0 : cap = 0 → ss = []) : (flat (ss.take len)).length ≤ Rows.uptoBulk d ∧ (ss.take len).length ≤ Rows.uptoBulk d := by
  rcases hd with ⟨rfl, h⟩ | ⟨rfl, _⟩
  · rw [h0 h]
    exact ⟨by simp [flat], by simp⟩
  · have e : Rows.uptoBulk (DataW.slice (strs (H := H) (ss.take len)) (strs (ss.drop len))) = Rows.uptoBulkAll (strs (H := H) (ss.take len)) + Rows.uptoBulkAll (strs (H := H) (ss.drop len)) + 1 := rfl
    rw [e, bulk_strs]
    omega
theorem wf64 {x : Int} (h : (Lit.int .i64 x).wf = true) : in64 x := by
  simp only [Lit.wf, IntKind.min, IntKind.max, IntKind.signed, IntKind.bits, Bool.and_eq_true, decide_eq_true_eq, if_true] at h
  unfold in64
  omega
set_option maxRecDepth 100000 in
theorem contract (H : Type) (enc : TypeId × Value → H) (W : World) (base : Nat) (args : Array Value) (ds gs : List (DataW H)) (before : List MemPlace)
    (hval0 : ∀ (j : Nat) t v, Tryz.f3.params[j]? = some t → args[j]? = some v → Value.okWide Tryz.prog W .any base t v)
    (hW : DataW.Whole enc Tryz.prog Tryz.f3.params.toList Rows.valuesSpec.vars false W args.toList ds gs before) (hk : Rows.uptoSmall H (ds ++ gs) = true)
    (hsz0 : (DataW.weightsEach Tryz.prog (Tryz.f3.params.toList ++ Rows.valuesSpec.plain.varTypes Tryz.prog) (ds ++ gs)).all (· ≤ reachBytes) = true) (hL : laidMetH Tryz.prog Val.laidV W) :
    Calls Tryz.prog 3 args W fun e W' => ∃ v, e = .returned v ∧ Rows.valuesSpec.post enc Tryz.prog Tryz.f3 false true false false W args v W' := by
  have hsz := hsz0
  clear hsz0
  have hval := hval0
  have hW' := hW
  obtain ⟨p, q, hA0, hV, rfl, hfz, hnd⟩ := hW
  have hA : DataW.TrodAll enc Tryz.prog W 0 (fun _ => true) true Tryz.f3.params.toList args.toList ds p := hA0
  rw [Tryz.params3] at hA hval hsz
  obtain ⟨v0, vs0, d0, ds0, p0, q0, hargs, rfl, rfl, h0, r0⟩ := trodAll_cons hA
  obtain ⟨v1, vs1, d1, ds1, p1, q1, rfl, rfl, rfl, h1, r1⟩ := trodAll_cons r0
  obtain ⟨v2, vs2, d2, ds2, p2, q2, rfl, rfl, rfl, h2, r2⟩ := trodAll_cons r1
  obtain ⟨v3, vs3, d3, ds3, p3, q3, rfl, rfl, rfl, h3, r3⟩ := trodAll_cons r2
  obtain ⟨v4, vs4, d4, ds4, p4, q4, rfl, rfl, rfl, h4, r4⟩ := trodAll_cons r3
  obtain ⟨v5, vs5, d5, ds5, p5, q5, rfl, rfl, rfl, h5, r5⟩ := trodAll_cons r4
  obtain ⟨v6, vs6, d6, ds6, p6, q6, rfl, rfl, rfl, h6, r6⟩ := trodAll_cons r5
  obtain ⟨rfl, rfl, rfl⟩ := trodAll_nil r6
  obtain rfl : args = #[v0, v1, v2, v3, v4, v5, v6] := by cases args; simp_all
  obtain ⟨rfl, rfl⟩ := trodVars_none hV
  obtain ⟨a0, rfl, rfl, rfl, w0⟩ := open_int Tryz.underlying3 (hval 0 3 v0 rfl rfl) h0
  obtain ⟨a1, rfl, rfl, rfl⟩ := open_bool Tryz.underlying4 (hval 1 4 v1 rfl rfl) h1
  obtain ⟨a2, rfl, rfl, rfl, w2⟩ := open_string Tryz.underlying9 (hval 2 9 v2 rfl rfl) h2
  have k3 := h3
  have lt3 : ∀ x ∈ p3, x.block < W.heap.size := by obtain ⟨m, hm⟩ := k3; exact DataW.trod_lt m _ _ _ hm
  obtain ⟨o3, len3, cap3, z3, rfl, w3, y3⟩ := Texts.open_texts Tryz.underlying22 Tryz.underlying9 (by kernel_rfl) (hval 3 22 v3 rfl rfl) h3
  have k4 := h4
  have lt4 : ∀ x ∈ p4, x.block < W.heap.size := by obtain ⟨m, hm⟩ := k4; exact DataW.trod_lt m _ _ _ hm
  obtain ⟨o4, len4, cap4, z4, rfl, w4, y4, dy4, hy4⟩ := Tree.open_type Tryz.underlying25 rfl rfl (by kernel_rfl) (by kernel_rfl) Tryz.underlying23 Tryz.underlying59 (by kernel_rfl) rfl rfl rfl (by kernel_rfl) (by kernel_rfl) (by kernel_rfl) Tryz.underlying3 Tryz.underlying3 Tryz.underlying4 (hval 4 25 v4 rfl rfl) h4
  have s4 : cap4 * 24 ≤ 140737488351232 := by
    have := Tree.sized_type hsz (j := 4) rfl (congrArg some dy4) Tryz.underlying25 Tryz.underlying23 hy4
    rw [show Tryz.prog.bytesOf 59 = 24 from by kernel_rfl] at this
    unfold reachBytes at this
    omega
  obtain ⟨a5, rfl, rfl, rfl, w5⟩ := open_int Tryz.underlying3 (hval 5 3 v5 rfl rfl) h5
  obtain ⟨a6, rfl, rfl, rfl, w6⟩ := open_string Tryz.underlying9 (hval 6 9 v6 rfl rfl) h6
  have hbulk : Rows.uptoBulkAll _ ≤ 1048576 := of_decide_eq_true hk
  have b3 := bulk_texts y3 (fun h => by
    rcases w3 with ⟨_, _, _, e⟩ | ⟨_, _, _, _, e, _⟩
    · exact e
    · exact List.eq_nil_of_length_eq_zero (e.trans h))
  simp only [List.append_nil, Rows.uptoBulkAll] at hbulk
  have s2 : a2.size ≤ 1048576 := by
    have e : Rows.uptoBulk (DataW.lit (.string a2.data.toList) : DataW H) = a2.data.toList.length + 1 := rfl
    rw [e, Array.length_toList] at hbulk
    have e2 : a2.data.size = a2.size := rfl
    omega
  have s6 : a6.size ≤ 1048576 := by
    have e : Rows.uptoBulk (DataW.lit (.string a6.data.toList) : DataW H) = a6.data.toList.length + 1 := rfl
    rw [e, Array.length_toList] at hbulk
    have e2 : a6.data.size = a6.size := rfl
    omega
  have s3 : (flat (z3.take len3)).length ≤ 1048576 ∧ (z3.take len3).length ≤ 1048576 := by omega
  obtain ⟨ss, hlen3, hss, htx, _, _⟩ := isTx_of w3
  have hco := coT_of w3
  rw [← hss] at s3 hco
  obtain ⟨ns, hlen4, hT, hlc, hco4⟩ := Tree.isT_of w4
  subst hlen3 hlen4
  clear hA0 hval0 hbulk hk b3
  refine (valuesC a0 (wf64 w0) a1 a2 s2 o3 cap3 ss s3.2 s3.1 o4 cap4 ns (by omega) a5 a6 s6 W (Val.home_of hL) hco htx hT hco4).mono fun e W' ⟨he, bel⟩ => ?_
  subst he
  exact ⟨_, rfl, _, _, _, [], _, [], hW', trodAll_mk1 (shut_bool Tryz.underlying4 _), (trodAll_cons_mk (shut_int Tryz.underlying3 w0) (trodAll_cons_mk (shut_bool Tryz.underlying4 _) (trodAll_cons_mk (shut_string Tryz.underlying9 w2) (trodAll_cons_mk (Below.trod laidOut (by kernel_rfl) (of_decide_eq_true (by kernel_rfl)) k3 bel lt3) (trodAll_cons_mk (Below.trod laidOut (by kernel_rfl) (of_decide_eq_true (by kernel_rfl)) k4 bel lt4) (trodAll_cons_mk (shut_int Tryz.underlying3 w5) (trodAll_cons_mk (shut_string Tryz.underlying9 w6) trodAll_mk0))))))), rfl, bel.frame _, fun h => by cases h⟩
set_option maxRecDepth 100000 in
theorem witness (os : Os) (H : Type) (enc : TypeId × Value → H) : ∃ (w : World) (tape : Tape) (i : Input), w.os = os ∧ (w.forCall tape i).Shaped Tryz.prog ∧ i.vars = [] ∧ Input.okWide Tryz.prog (w.forCall tape i) .any w.heap.size 3 i ∧
      (((Rows.OpenSpec.upto Rows.valuesSpec).pre enc Tryz.prog Tryz.f3 [] false (w.forCall tape i).memory i.args ∧ laidMetH Tryz.prog Val.laidV (w.forCall tape i).memory) ∧ sizedMet enc Tryz.prog Tryz.f3 (Rows.OpenSpec.upto Rows.valuesSpec) false (w.forCall tape i).memory i.args) ∧ ({} : Assume).holds Tryz.prog (lone (Frame.enter Tryz.prog 3 i.args .normal) [] (w.forCall tape i)) := by
  have hok : Input.okWideB Tryz.prog ((World.doorLaid Tryz.prog 400 os).forCall (fun _ _ => 0) ⟨#[], #[.int .i64 0, .bool false, .string ByteArray.empty, .slice none 0 0, .agg #[.slice none 0 0], .int .i64 0, .string ByteArray.empty], []⟩) 3 ⟨#[], #[.int .i64 0, .bool false, .string ByteArray.empty, .slice none 0 0, .agg #[.slice none 0 0], .int .i64 0, .string ByteArray.empty], []⟩ = true := by kernel_rfl
  have hx : DataW.whole enc Tryz.prog ((World.doorLaid Tryz.prog 400 os).forCall (fun _ _ => 0) ⟨#[], #[.int .i64 0, .bool false, .string ByteArray.empty, .slice none 0 0, .agg #[.slice none 0 0], .int .i64 0, .string ByteArray.empty], []⟩).memory Tryz.f3.params.toList (Rows.OpenSpec.upto Rows.valuesSpec).vars false [.int .i64 0, .bool false, .string ByteArray.empty, .slice none 0 0, .agg #[.slice none 0 0], .int .i64 0, .string ByteArray.empty] 8 = some ([.lit (.int .i64 0), .lit (.bool false), .lit (.string []), .nil, .agg [.nil], .lit (.int .i64 0), .lit (.string [])], [], []) := by kernel_rfl
  have hsz : Rows.valuesSpec.sizedB enc Tryz.prog Tryz.f3 false ((World.doorLaid Tryz.prog 400 os).forCall (fun _ _ => 0) ⟨#[], #[.int .i64 0, .bool false, .string ByteArray.empty, .slice none 0 0, .agg #[.slice none 0 0], .int .i64 0, .string ByteArray.empty], []⟩).memory #[.int .i64 0, .bool false, .string ByteArray.empty, .slice none 0 0, .agg #[.slice none 0 0], .int .i64 0, .string ByteArray.empty] 8 = true := by kernel_rfl
  refine ⟨World.doorLaid Tryz.prog 400 os, fun _ _ => 0, ⟨#[], #[.int .i64 0, .bool false, .string ByteArray.empty, .slice none 0 0, .agg #[.slice none 0 0], .int .i64 0, .string ByteArray.empty], []⟩, rfl, World.shaped_of_RefB (by kernel_rfl) (by kernel_rfl), (Input.okWide_of_okWideB (base := 0) hok).1, (Input.okWide_of_okWideB hok).2,
    ⟨⟨(OpenSpec.pre_some (k := Rows.uptoSmall) rfl [] false _ _).2 ⟨_, _, _, DataW.Whole_of_whole hx, rfl, by kernel_rfl⟩, Val.door_met os _⟩, sizedMet_of_sizedB hsz⟩, ?_⟩
  simp only [Assume.holds]
  exact ⟨by simp, by simp, fun _ => Modest.zero, by simp, by simp⟩
set_option maxRecDepth 100000 in
theorem lifted (os : Os) (started : os.Started) (H : Type) (enc : TypeId × Value → H) (F : Stop.Interp) :
    ReturnsInHanded {} Tryz.checked os 3 .any (fun w args => ((Rows.OpenSpec.upto Rows.valuesSpec).pre enc Tryz.prog Tryz.f3 [] false w args ∧ laidMetH Tryz.prog Val.laidV w) ∧ sizedMet enc Tryz.prog Tryz.f3 (Rows.OpenSpec.upto Rows.valuesSpec) false w args) (((Rows.OpenSpec.upto Rows.valuesSpec).at F).post enc Tryz.prog Tryz.f3 false true false false) := by
  refine returnsInHanded_of_calls (C := Tryz.checked) own started (by kernel_rfl) (witness os H enc) ?_
  intro w tape i _ _ _ hok hpre hholds
  obtain ⟨_, _, _, fn', hfn', _, _, _, _, hval⟩ := hok
  have e : fn' = Tryz.f3 := Option.some.inj (hfn'.symm.trans Tryz.func3)
  subst e
  obtain ⟨⟨hp, hx⟩, hz⟩ := hpre
  obtain ⟨ds, gs, before, hw, hc, hkk⟩ := (OpenSpec.pre_some (k := Rows.uptoSmall) rfl [] false _ _).1 hp
  have hw' := DataW.Whole.of_heap (w' := w.forCall tape i) (by rfl) hw
  refine (contract H enc (w.forCall tape i) w.heap.size i.args ds gs before hval hw' hkk (hz.weights hw) (hx.of_heap (by rfl))).mono fun e W' ⟨v, he, hp⟩ => ?_
  subst he
  exact ChangeSpec.post_blind hp
theorem over : Rows.valuesUptoRow.holds Tryz.pinned (Rows.OpenSpec.upto Rows.valuesSpec) :=
  OpenClaim.holds_of_cond 3 Tryz.f3 rfl rfl rfl rfl rfl rfl rfl ⟨rfl, rfl, rfl, rfl, rfl⟩ rfl rfl rfl rfl rfl (by kernel_rfl) Tryz.func3 (by kernel_rfl)
    (of_decide_eq_true (by kernel_rfl)) (by unfold Func.isWrapper; first | (rw [if_pos (by decide +kernel)]; kernel_rfl) | (rw [if_neg (by decide +kernel)]; exact ⟨rfl, rfl⟩))
    (fun os started H enc _ F => lifted os started H enc F)
end Go.Proofs.YtejgjipmnmfkcaaGreatDoor.values
namespace Go.Proofs.YtejgjipmnmfkcaaGreatDoor
theorem valuesUpto_holds : Rows.ValuesUptoCardSaid :=
  Claim7.holds_tied_plain_at .later [] [.data, .data, .data, .sentinel, .sentinel] true (true, "6dca6cf594c93ba647b6e834e35c1e768da85075ce37d9ad36b04dc8ada120db") true
    values.over (fun _ h => by cases h) (by kernel_rfl) (fun _ h => by cases h) valuesUpto_row_tie rfl ⟨rfl, rfl⟩ (by kernel_rfl) rfl
    (fun f fn hf hfn => by
      obtain rfl : f = 3 := Option.some.inj ((show Tryz.prog.funcNamed Rows.valuesUptoRow.func = some 3 by kernel_rfl).symm.trans hf) |>.symm
      obtain rfl : fn = Tryz.f3 := (Option.some.inj (Tryz.func3.symm.trans hfn)).symm
      exact ⟨by kernel_rfl, fun j t ht => by
        rw [Tryz.params3] at ht
        have hm : t ∈ [3, 4, 9, 22, 25, 3, 9] := by simpa using Array.mem_of_getElem? ht
        have hall : ([3, 4, 9, 22, 25, 3, 9].all fun u => !Tryz.prog.wantsStandIn u) = true := by kernel_rfl
        exact (show Tryz.prog.wantsStandIn t = false by simpa using List.all_eq_true.1 hall t hm)⟩)
    (by kernel_rfl)
#print axioms valuesUpto_holds
end Go.Proofs.YtejgjipmnmfkcaaGreatDoor
