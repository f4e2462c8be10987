/-
  ReadForms: rows that are none, a node that is none.
-/
import Derived.Test.YthbjeedmhgnnaaaGreatDoorRows
import Derived.WalkKit
import Derived.ProofKit
import Derived.OpenShut
import Derived.ShutString
import Derived.ChangeOld
import Derived.Below
import Derived.SizedLaws
import Derived.Deep.QuietTactic
import Derived.WalkSmall
import Derived.BigQuiet
import Derived.Deep.RegionWith
import Derived.OwnWalk
import Derived.RegionTactic
import Derived.ChangeAlike
import Derived.Deep.CutBlock
import Derived.Maps.AppendAt
import Derived.OneCell
import Derived.LaidMore
import Derived.Stop.Joined
import Derived.SevenTiedAt
import Derived.Test.YthbjeedmhgnnaaaGreatDoorCards
import Derived.Test.YthbjeedmhgnnaaaGreatDoorTie
import Derived.Test.YthbjeedmhgnnaaaGreatDoorB01
import Derived.Test.YthbjeedmhgnnaaaGreatDoorB02
import Derived.Test.YthbjeedmhgnnaaaGreatDoorB09
import Derived.Test.YthbjeedmhgnnaaaGreatDoorB11
import Derived.Test.YthbjeedmhgnnaaaGreatDoorB12
import Derived.Test.YthbjeedmhgnnaaaGreatDoorB15
import Derived.Test.YthbjeedmhgnnaaaGreatDoorB13
import Derived.Test.YthbjeedmhgnnaaaGreatDoorB14
import Derived.Test.YthbjeedmhgnnaaaGreatDoorB17
import Derived.Test.YthbjeedmhgnnaaaGreatDoorB21
namespace Go.Proofs.YthbjeedmhgnnaaaGreatDoor.readForms
open Go.ChangeShapes Go.WideShapes Go.ChangeAt Go.RowKit
open Go.ChangeMaps (open_string shut_string)
set_option linter.unusedVariables false

theorem own : ownKnob Tryz.prog.godebug = none := by kernel_rfl
theorem laidOut : laidOutB Tryz.prog = true := by kernel_rfl

open Tree Arr
theorem and10 (x : Int) : ∃ d : Nat, bits .and .i64 x 1023 = (d : Int) ∧ d < 1024 := ⟨(x % 1024).toNat, by rw [BitP.and10]; omega, by omega⟩
theorem up_le (B : Nat) : B ≤ upB B := by unfold upB; omega
set_option maxRecDepth 20000 in
set_option maxHeartbeats 4000000 in
theorem walk (a0 : Option Addr) (len0 cap0 : Nat) (z0 : List Tree.Nd) (a1 : Int) (fq2 : Nat) (a2 : Arr.Arr) (oq2 : Option Addr) (cq2 : Nat) (a3 : Int) (w : World) (hw : Hid (Val.Home w)) (hp0 : Tree.IsNodes w a0 len0 cap0 z0) (hs0 : cap0 * 24 ≤ 140737488351232) (hp1 : (Lit.int .i64 a1).wf = true) (hp2 : Hid (Arr.HoldsF 140737488351232 96 w (fq2 + 1) (a2.cells oq2 cq2) a2)) (hp3 : (Lit.int .i64 a3).wf = true) :
    Calls Tryz.prog 5 #[.agg #[.slice a0 len0 cap0], .int .i64 a1, a2.val oq2 cq2, .int .i64 a3] w fun e w' => e = .returned (.bool true) ∧ Below w.heap.size w w' := by
  obtain ⟨ns, rfl, hT, hlc, hco⟩ := isT_of hp0
  have HT : Hid (IsT w a0 ns) := hT
  obtain ⟨w1, e1, s1, c1, b1⟩ := boxed w (.slice a0 ns.length cap0) 24
  obtain ⟨w2, e2, x2, b2, z2⟩ := box7 w1 a2 oq2 cq2
  have HC2 : Hid (w2.cell? ⟨w.heap.size, 0, none⟩ = some (.slice a0 ns.length cap0)) := cell_later b2 c1
  have X2 : Hid (Bx w2 w1.heap.size a2 oq2 cq2) := x2
  have B2 : Hid (Below w.heap.size w w2) := bel2 b1 b2
  have HH : Hid (HoldsF 140737488351232 96 w (fq2 + 1) (a2.cells oq2 cq2) a2) := hp2
  clear hp0 hlc hco hT c1 b1 b2 x2 s1 z2 hp2
  have HNO : Hid (∀ v x r, Below w.heap.size w v → (Lit.int .i64 r).wf = true → ¬ (mayZ ns x (fq2 + 1) a2 = true ∧ rowIn a2 r) → Calls Tryz.prog 15 #[.agg #[.slice a0 ns.length cap0], .int .i64 x, a2.val oq2 cq2, .int .i64 r] v fun e w' => e = .returned (.tuple #[.string ⟨#[]⟩, .int .i64 900]) ∧ Below v.heap.size v w') := fun v x r hv hr hn => by
    have := valueP _ fq2 ns a0 cap0 x a2 oq2 cq2 r hr v (hw.out.later hv) (HT.out.later hv) (HH.out.later hv)
    rw [show val1 ns x (fq2 + 1) a2 r = ⟨#[]⟩ from if_neg hn, show val1E ns x (fq2 + 1) a2 r = 900 from if_neg hn] at this
    exact this
  obtain ⟨D, hD, hD4⟩ := and10 a3
  have N1 : Hid (¬ (mayZ ns a1 (fq2 + 1) a2 = true ∧ rowIn a2 (-(1 + (D : Int))))) := fun h => by have := h.2.1; omega
  have N2 : Hid (¬ (mayZ ns a1 (fq2 + 1) a2 = true ∧ rowIn a2 (64 + (1 + (D : Int))))) := fun h => by
    obtain ⟨n, _, _, _, _, hHd⟩ := may_head h.1
    have h1 := hHd.rows
    have h2 := hHd.off
    have h3 := h.2.2
    omega
  have N3 : Hid (¬ (mayZ ns ((ns.length : Nat) : Int) (fq2 + 1) a2 = true ∧ rowIn a2 0)) := fun h => by
    obtain ⟨n, e, hn, _⟩ := may_head h.1
    omega
  have hln : ((ns.length : Nat) : Int) ≤ 9223372036854775807 := by
    have := HT.out.1
    unfold maxLen at this
    omega
  have hln0 : (0 : Int) ≤ ((ns.length : Nat) : Int) := Int.natCast_nonneg _
  unfold Arr.val at HNO ⊢
  go_enter Tryz.func5, Tryz.ntmps5
  go_wp2_with fail
  refine (awakeR w2 (hw.out.later B2.out)).mono ?_
  rintro e w3 ⟨rfl, bb⟩
  have B3 : Hid (Below w.heap.size w w3) := bel2 B2.out bb
  have B23 : Hid (Below w2.heap.size w2 w3) := bb
  clear bb e1 e2
  have c5 := cell_later B23.out HC2.out
  have d0 := (X2.out.later B23.out).c0
  have d1 := (X2.out.later B23.out).c1
  have d2 := (X2.out.later B23.out).c2
  have d3 := (X2.out.later B23.out).c3
  have d4 := (X2.out.later B23.out).c4
  have d5 := (X2.out.later B23.out).c5
  have d6 := (X2.out.later B23.out).c6
  go_wp2_with fail
  refine (HNO.out w3 a1 (-(1 + (D : Int))) B3.out (WalkArith.wf_i64 (by omega)) N1.out).mono ?_
  rintro e w4 ⟨rfl, b4⟩
  have B4 : Hid (Below w.heap.size w w4) := bel2 B3.out b4
  have B24 : Hid (Below w2.heap.size w2 w4) := bel2 B23.out b4
  clear b4 c5 d0 d1 d2 d3 d4 d5 d6
  have c5 := cell_later B24.out HC2.out
  have d0 := (X2.out.later B24.out).c0
  have d1 := (X2.out.later B24.out).c1
  have d2 := (X2.out.later B24.out).c2
  have d3 := (X2.out.later B24.out).c3
  have d4 := (X2.out.later B24.out).c4
  have d5 := (X2.out.later B24.out).c5
  have d6 := (X2.out.later B24.out).c6
  go_wp2_with fail
  refine (HNO.out w4 a1 (64 + (1 + (D : Int))) B4.out (WalkArith.wf_i64 (by omega)) N2.out).mono ?_
  rintro e w5 ⟨rfl, b5⟩
  have B5 : Hid (Below w.heap.size w w5) := bel2 B4.out b5
  have B25 : Hid (Below w2.heap.size w2 w5) := bel2 B24.out b5
  clear b5 c5 d0 d1 d2 d3 d4 d5 d6
  have c5 := cell_later B25.out HC2.out
  have d0 := (X2.out.later B25.out).c0
  have d1 := (X2.out.later B25.out).c1
  have d2 := (X2.out.later B25.out).c2
  have d3 := (X2.out.later B25.out).c3
  have d4 := (X2.out.later B25.out).c4
  have d5 := (X2.out.later B25.out).c5
  have d6 := (X2.out.later B25.out).c6
  go_wp2_with fail
  refine (HNO.out w5 ((ns.length : Nat) : Int) 0 B5.out (by decide) N3.out).mono ?_
  rintro e w6 ⟨rfl, b6⟩
  have B6 : Hid (Below w.heap.size w w6) := bel2 B5.out b6
  clear b6 c5 d0 d1 d2 d3 d4 d5 d6
  go_wp2_with fail
  refine (Tree.num _ _).mono ?_
  rintro e wx ⟨rfl, hv⟩
  subst wx
  go_wp2_with fail
  refine (Tree.num _ _).mono ?_
  rintro e wx ⟨rfl, hv⟩
  subst wx
  go_wp2_with fail
  refine (Tree.num _ _).mono ?_
  rintro e wx ⟨rfl, hv⟩
  subst wx
  go_wp2
  go_ret
  exact ⟨rfl, B6.out⟩

set_option maxRecDepth 100000 in
theorem lifted (os : Os) (started : os.Started) (H : Type) (enc : TypeId × Value → H) :
    ReturnsInHanded {} Tryz.checked os 5 .any (fun w args => (Rows.readFormsSpec.pre enc Tryz.prog Tryz.f5 [] false w args ∧ laidMetH Tryz.prog Val.laidR w) ∧ sizedMet enc Tryz.prog Tryz.f5 (OpenSpec.ofChange Rows.readFormsSpec) false w args) (Rows.readFormsSpec.post enc Tryz.prog Tryz.f5 false true false false) := by
  refine returnsInHanded_of_change_and (C := Tryz.checked) (X := fun w _ => laidMetH Tryz.prog Val.laidR w) (fun _ _ _ hh h => h.of_heap hh) own started (by kernel_rfl) Tryz.func5
    (ChangeSpec.witness_shaped (enc := enc) (C := Tryz.checked) (os := os) (X := fun w _ => laidMetH Tryz.prog Val.laidR w) false (World.doorLaid Tryz.prog 400 os) #[.agg #[.slice none 0 0], .int .i64 0, .agg #[.int .i64 0, .int .i64 0, .int .i64 0, .string ByteArray.empty, .string ByteArray.empty, .string ByteArray.empty, .slice none 0 0], .int .i64 0] 8 rfl (World.shaped_of_RefB (by kernel_rfl) (by kernel_rfl)) (by kernel_rfl) (by kernel_rfl) (by kernel_rfl) (Val.doorR_met os _)) ?_
  intro W base args ds gs before hval0 hW hcnd hsz0 hL _
  have hsz : (DataW.weightsEach Tryz.prog (Tryz.f5.params.toList ++ Rows.readFormsSpec.plain.varTypes Tryz.prog) (ds ++ gs)).all (· ≤ reachBytes) = true := hsz0
  clear hsz0
  have hval : ∀ (j : Nat) t v, Tryz.f5.params[j]? = some t → args[j]? = some v → Value.okWide Tryz.prog W .any base t v := hval0
  have hW' := hW
  obtain ⟨p, q, hA0, hV, rfl, hfz, hnd⟩ := hW
  have hA : DataW.TrodAll enc Tryz.prog W 0 (fun _ => true) true Tryz.f5.params.toList args.toList ds p := hA0
  rw [Tryz.params5] at hA hval hsz
  obtain ⟨v0, vs0, d0, ds0, p0, q0, hargs, rfl, rfl, h0, r0⟩ := trodAll_cons hA
  obtain ⟨v1, vs1, d1, ds1, p1, q1, rfl, rfl, rfl, h1, r1⟩ := trodAll_cons r0
  obtain ⟨v2, vs2, d2, ds2, p2, q2, rfl, rfl, rfl, h2, r2⟩ := trodAll_cons r1
  obtain ⟨v3, vs3, d3, ds3, p3, q3, rfl, rfl, rfl, h3, r3⟩ := trodAll_cons r2
  obtain ⟨rfl, rfl, rfl⟩ := trodAll_nil r3
  obtain rfl : args = #[v0, v1, v2, v3] := by cases args; simp_all
  obtain ⟨rfl, rfl⟩ := trodVars_none hV
  have k0 := h0
  have lt0 : ∀ x ∈ p0, x.block < W.heap.size := by obtain ⟨m, hm⟩ := k0; exact DataW.trod_lt m _ _ _ hm
  obtain ⟨a0, len0, cap0, z0, rfl, hp0, y0, dy0, hy0⟩ := Tree.open_type Tryz.underlying24 rfl rfl (by kernel_rfl) (by kernel_rfl) Tryz.underlying22 Tryz.underlying50 (by kernel_rfl) rfl rfl rfl (by kernel_rfl) (by kernel_rfl) (by kernel_rfl) Tryz.underlying3 Tryz.underlying3 Tryz.underlying4 (hval 0 24 v0 rfl rfl) h0
  have hs0 : cap0 * 24 ≤ 140737488351232 := by
    have := Tree.sized_type hsz (j := 0) rfl (congrArg some dy0) Tryz.underlying24 Tryz.underlying22 hy0
    rw [show Tryz.prog.bytesOf 50 = 24 from by kernel_rfl] at this
    unfold reachBytes at this
    omega
  obtain ⟨a1, rfl, rfl, rfl, hp1⟩ := open_int Tryz.underlying3 (hval 1 3 v1 rfl rfl) h1
  have k2 := h2
  have lt2 : ∀ x ∈ p2, x.block < W.heap.size := by obtain ⟨m, hm⟩ := k2; exact DataW.trod_lt m _ _ _ hm
  obtain ⟨fq2, a2, oq2, cq2, rfl, hp2⟩ := Arr.open_array (P := Tryz.prog) (T := 27) (S := 25) ⟨Tryz.underlying27, Tryz.underlying25, rfl, (by kernel_rfl), rfl, rfl, rfl, rfl, rfl, rfl, rfl, (by kernel_rfl), (by kernel_rfl), (by kernel_rfl), (by kernel_rfl), (by kernel_rfl), (by kernel_rfl), (by kernel_rfl), Tryz.underlying3, Tryz.underlying3, Tryz.underlying3, Tryz.underlying9, Tryz.underlying9, Tryz.underlying9⟩ (hval 2 27 v2 rfl rfl) h2 (Arr.sized_array hsz (j := 2) rfl rfl)
  rw [show Tryz.prog.bytesOf 27 = 96 from by kernel_rfl] at hp2
  obtain ⟨a3, rfl, rfl, rfl, hp3⟩ := open_int Tryz.underlying3 (hval 3 3 v3 rfl rfl) h3
  clear hA0 hval0
  refine (walk a0 len0 cap0 z0 a1 fq2 a2 oq2 cq2 a3 W (Val.homeR_of hL) hp0 hs0 hp1 hp2 hp3).mono fun e W' ⟨he, bel⟩ => ?_
  subst he
  exact ⟨_, rfl, _, _, _, [], _, [], hW', trodAll_mk1 (shut_bool Tryz.underlying4 _), (trodAll_cons_mk (Below.trod laidOut (by kernel_rfl) (of_decide_eq_true (by kernel_rfl)) k0 bel lt0) (trodAll_cons_mk (shut_int Tryz.underlying3 hp1) (trodAll_cons_mk (Below.trod laidOut (by kernel_rfl) (of_decide_eq_true (by kernel_rfl)) k2 bel lt2) (trodAll_cons_mk (shut_int Tryz.underlying3 hp3) trodAll_mk0)))), rfl, bel.frame _, fun h => by cases h⟩

theorem over : Rows.readFormsRow.holds Tryz.pinned (OpenSpec.ofChange Rows.readFormsSpec) :=
  OpenClaim.holds_of_wide 5 Tryz.f5 rfl rfl rfl rfl rfl rfl rfl ⟨rfl, rfl, rfl, rfl, rfl⟩ rfl rfl rfl rfl rfl (by kernel_rfl) Tryz.func5 (by kernel_rfl)
    (of_decide_eq_true (by kernel_rfl)) (by unfold Func.isWrapper; first | (rw [if_pos (by decide +kernel)]; kernel_rfl) | (rw [if_neg (by decide +kernel)]; exact ⟨rfl, rfl⟩))
    (fun os started H enc _ => lifted os started H enc)

end Go.Proofs.YthbjeedmhgnnaaaGreatDoor.readForms
namespace Go.Proofs.YthbjeedmhgnnaaaGreatDoor
theorem readForms_holds : Rows.ReadFormsCardSaid :=
  Claim7.holds_tied_plain_at .later [] [.data, .data, .data] true (true, "ede7692ed42ede84ee1f6f7d68d929b174eb1c55be7630c6b81b25a3e86c5bfe") true
    readForms.over (fun _ h => by cases h) (by kernel_rfl) (fun _ h => by cases h) readForms_row_tie rfl ⟨rfl, rfl⟩ (by kernel_rfl) rfl
    (fun f fn hf hfn => by
      obtain rfl : f = 5 := Option.some.inj ((show Tryz.prog.funcNamed Rows.readFormsRow.func = some 5 by kernel_rfl).symm.trans hf) |>.symm
      obtain rfl : fn = Tryz.f5 := (Option.some.inj (Tryz.func5.symm.trans hfn)).symm
      exact ⟨by kernel_rfl, fun j t ht => by
        rw [Tryz.params5] at ht
        have hm : t ∈ [24, 3, 27, 3] := by simpa using Array.mem_of_getElem? ht
        have hall : ([24, 3, 27, 3].all fun u => !Tryz.prog.wantsStandIn u) = true := by kernel_rfl
        exact (show Tryz.prog.wantsStandIn t = false by simpa using List.all_eq_true.1 hall t hm)⟩)
    (by kernel_rfl)
#print axioms readForms_holds
end Go.Proofs.YthbjeedmhgnnaaaGreatDoor
