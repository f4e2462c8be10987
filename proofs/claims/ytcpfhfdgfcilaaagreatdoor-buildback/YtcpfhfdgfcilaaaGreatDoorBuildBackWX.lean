/-
  BuildBack: what is built may be, and is read as what it was built of; for every input within reach.
-/
import Derived.Test.YtcpfhfdgfcilaaaGreatDoorRows
import Derived.WalkKit
import Derived.ProofKit
import Derived.OpenShut
import Derived.ShutString
import Derived.ChangeOld
import Derived.Below
import Derived.SizedLaws
import Derived.Deep.QuietTactic
import Derived.WalkSmall
import Derived.BigQuiet
import Derived.Deep.RegionWith
import Derived.OwnWalk
import Derived.RegionTactic
import Derived.ChangeAlike
import Derived.Deep.CutBlock
import Derived.Maps.AppendAt
import Derived.OneCell
import Derived.LaidMore
import Derived.Stop.Joined
import Derived.SevenTiedAt
import Derived.Test.YtcpfhfdgfcilaaaGreatDoorCards
import Derived.Test.YtcpfhfdgfcilaaaGreatDoorTie
import Derived.Test.YtcpfhfdgfcilaaaGreatDoorB01
import Derived.Test.YtcpfhfdgfcilaaaGreatDoorB02
import Derived.Test.YtcpfhfdgfcilaaaGreatDoorB09
import Derived.Test.YtcpfhfdgfcilaaaGreatDoorB11
import Derived.Test.YtcpfhfdgfcilaaaGreatDoorB12
import Derived.Test.YtcpfhfdgfcilaaaGreatDoorB15
import Derived.Test.YtcpfhfdgfcilaaaGreatDoorB13
import Derived.Test.YtcpfhfdgfcilaaaGreatDoorB14
import Derived.Test.YtcpfhfdgfcilaaaGreatDoorB17
import Derived.Test.YtcpfhfdgfcilaaaGreatDoorB30
import Derived.Test.YtcpfhfdgfcilaaaGreatDoorB31
import Derived.Test.YtcpfhfdgfcilaaaGreatDoorB24
namespace Go.Proofs.YtcpfhfdgfcilaaaGreatDoor.buildBack
open Go.ChangeShapes Go.WideShapes Go.ChangeAt Go.RowKit
open Go.ChangeMaps (open_string shut_string)
set_option linter.unusedVariables false

theorem own : ownKnob Tryz.prog.godebug = none := by kernel_rfl
theorem laidOut : laidOutB Tryz.prog = true := by kernel_rfl

open Tree Arr
set_option maxRecDepth 20000 in
set_option maxHeartbeats 4000000 in
theorem walk (a0 : Option Addr) (len0 cap0 : Nat) (z0 : List Tree.Nd) (a1 : Int) (a2 : Option Addr) (len2 cap2 : Nat) (z2 : List ByteArray) (w : World) (hw : Hid (Val.HomeE w)) (hp0 : Tree.IsNodes w a0 len0 cap0 z0) (hs0 : cap0 * 24 ≤ 140737488351232) (hp1 : (Lit.int .i64 a1).wf = true) (hp2 : Texts.IsTexts w a2 len2 cap2 z2) (hs2 : cap2 * 16 ≤ 140737488351232) :
    Calls Tryz.prog 6 #[.agg #[.slice a0 len0 cap0], .int .i64 a1, .slice a2 len2 cap2] w fun e w' => e = .returned (.bool true) ∧ Below w.heap.size w w' := by
  obtain ⟨ns, rfl, hT, hlc, hco⟩ := isT_of hp0
  obtain ⟨ss, rfl, hzt, hX, hcp, hsl⟩ := Texts.isTx_of hp2
  have HT : Hid (IsT w a0 ns) := hT
  have HX : Hid (Texts.IsTx w a2 ss) := hX
  have HSZ : Hid (SizesOk ss) := sizes_in hsl
  obtain ⟨w1, e1, s1, c1, b1⟩ := boxed w (.slice a0 ns.length cap0) 24
  have B1 : Hid (Below w.heap.size w w1) := b1
  have HC1 : Hid (w1.cell? ⟨w.heap.size, 0, none⟩ = some (.slice a0 ns.length cap0)) := c1
  have HBU : Hid (∀ v, Below w.heap.size w v → Calls Tryz.prog 26 #[.agg #[.slice a0 ns.length cap0], .int .i64 a1, .slice a2 ss.length cap2] v (BdQ 4096 ns a1 ss v)) := fun v hv => buildP 4096 (Nat.le_refl _) ns a0 cap0 a1 ss a2 cap2 v HSZ (hw.out.later hv) (HX.out.later hv) (HT.out.later hv)
  clear hp0 hp2 hlc hco hT hX hsl b1 c1 hzt hcp
  have HBK : Hid (bdE ns a1 ss = 0 → mayZ ns a1 8 (bdA ns a1 ss) = true ∧ valsA ns a1 8 (bdA ns a1 ss) = ss ∧ valsE ns a1 8 (bdA ns a1 ss) = 0 ∧ (bdA ns a1 ss).length = (ss.length : Int) ∧ ss.length ≤ 64) := bd_back
  have HNL : Hid (bdE ns a1 ss ≠ 0 → bdA ns a1 ss = nil) := bd_nil
  have HVS : Hid (∀ v o c, Below w.heap.size w v → HoldsF (upB 4096) 96 v 8 ((bdA ns a1 ss).cells o c) (bdA ns a1 ss) → Calls Tryz.prog 32 #[.agg #[.slice a0 ns.length cap0], .int .i64 a1, (bdA ns a1 ss).val o c] v fun r w' => ∃ ov cv, r = .returned (.tuple #[.slice ov (valsA ns a1 8 (bdA ns a1 ss)).length cv, .int .i64 (valsE ns a1 8 (bdA ns a1 ss))]) ∧ w'.ownsRow v.heap.size 9 1 (.slice ov (valsA ns a1 8 (bdA ns a1 ss)).length cv) (valsA ns a1 8 (bdA ns a1 ss)).length (Texts.cellsT (valsA ns a1 8 (bdA ns a1 ss))) ∧ Below v.heap.size v w') := fun v o c hv h => valuesA _ 7 ns a0 cap0 a1 _ o c v (HT.out.later hv) h
  have HBU2 : Hid (∀ v, Below w.heap.size w v → Calls Tryz.prog 26 #[.agg #[.slice a0 ns.length cap0], .int .i64 a1, .slice a2 ss.length cap2] v fun r w' => ∃ (o' : Option Addr) (c' : Nat), r = .returned (.tuple #[(bdA ns a1 ss).val o' c', .int .i64 (bdE ns a1 ss)]) ∧ HoldsF (upB 4096) 96 w' 8 ((bdA ns a1 ss).cells o' c') (bdA ns a1 ss) ∧ Below v.heap.size v w') := fun v hv => by
    refine (HBU.out v hv).mono ?_
    rintro e w' ⟨o', c', h1, h2, h3⟩
    exact ⟨o', c', h1, h2.holds, h3⟩
  clear HBU
  generalize bdA ns a1 ss = A at *
  generalize bdE ns a1 ss = E at *
  go_enter Tryz.func6, Tryz.ntmps6
  go_wp2_with fail
  refine (awakeB w1 (hw.out.later B1.out)).mono ?_
  rintro e w2 ⟨rfl, b2⟩
  have B2 : Hid (Below w.heap.size w w2) := bel2 B1.out b2
  have HC2 : Hid (w2.cell? ⟨w.heap.size, 0, none⟩ = some (.slice a0 ns.length cap0)) := cell_later b2 HC1.out
  have cT := HC2.out
  clear b2 e1
  go_wp2_with fail
  refine (HBU2.out w2 B2.out).mono ?_
  rintro e w3 ⟨oA, cA, rfl, hA, b3⟩
  have B3 : Hid (Below w.heap.size w w3) := bel2 B2.out b3
  have HA3 : Hid (HoldsF (upB 4096) 96 w3 8 (A.cells oA cA) A) := hA
  have HC3 : Hid (w3.cell? ⟨w.heap.size, 0, none⟩ = some (.slice a0 ns.length cap0)) := cell_later b3 HC2.out
  unfold Arr.val at HVS ⊢
  clear hA b3 cT HBU2
  obtain ⟨wal, eal', xal, bal, zal⟩ := box7 w3 nil none 0
  have eal : w3.alloc (.cells #[.int .i64 0, .int .i64 0, .int .i64 0, .string ⟨#[]⟩, .string ⟨#[]⟩, .string ⟨#[]⟩, .slice none 0 0] 27) = wal := eal'
  have m0 := xal.c0
  have m1 := xal.c1
  have m2 := xal.c2
  have m3 := xal.c3
  have m4 := xal.c4
  have m5 := xal.c5
  have m6 := xal.c6
  have f0 := xal.fz 0
  have f1 := xal.fz 1
  have f2 := xal.fz 2
  have f3 := xal.fz 3
  have f4 := xal.fz 4
  have f5 := xal.fz 5
  have f6 := xal.fz 6
  unfold nil at m0 m1 m2 m3 m4 m5 m6
  obtain ⟨w4, efl, xfl, hfl, bfl⟩ := set7 xal A oA cA
  have X4 : Hid (Bx w4 w3.heap.size A oA cA) := xfl
  have B34 : Hid (Below w3.heap.size w3 w4) := bal.trans (bfl _ (Nat.le_refl _))
  clear eal' xal bal zal xfl hfl bfl
  go_upto_region 4 with fail
  try rw [efl]
  clear efl eal m0 m1 m2 m3 m4 m5 m6 f0 f1 f2 f3 f4 f5 f6
  have B4 : Hid (Below w.heap.size w w4) := bel2 B3.out B34.out
  have HA4 : Hid (HoldsF (upB 4096) 96 w4 8 (A.cells oA cA) A) := HA3.out.later B34.out
  have cT := cell_later B34.out HC3.out
  have d0 := X4.out.c0
  have d1 := X4.out.c1
  have d2 := X4.out.c2
  have d3 := X4.out.c3
  have d4 := X4.out.c4
  have d5 := X4.out.c5
  have d6 := X4.out.c6
  go_wp2_with fail
  refine (Tree.num _ _).mono ?_
  rintro e wx ⟨rfl, hv⟩
  subst wx
  by_cases hE : E = 0
  · subst hE
    obtain ⟨_, hV, hVE, hL, h64⟩ := HBK.out rfl
    have HVS2 : Hid (Calls Tryz.prog 32 #[.agg #[.slice a0 ns.length cap0], .int .i64 a1, .agg #[.int .i64 A.layout, .int .i64 A.offset, .int .i64 A.length, .string A.valid, .string A.ends, .string A.data, .slice oA A.kids.length cA]] w4 fun r w' => ∃ ov cv, r = .returned (.tuple #[.slice ov ss.length cv, .int .i64 0]) ∧ w'.ownsRow w4.heap.size 9 1 (.slice ov ss.length cv) ss.length (Texts.cellsT ss) ∧ Below w4.heap.size w4 w') := by
      have := HVS.out w4 oA cA B4.out HA4.out
      rw [hV, hVE] at this
      exact this
    have HL : Hid (A.length = (ss.length : Int)) := hL
    have H64 : Hid (ss.length ≤ 64) := h64
    clear hV hVE HBK HVS hL h64
    go_wp2_with fail
    refine HVS2.out.mono ?_
    rintro e w5 ⟨ov, cv, rfl, hown, b5⟩
    have HTX : Hid (Texts.IsTx w5 ov ss) := Texts.own_texts hown
    have B45 : Hid (Below w4.heap.size w4 w5) := b5
    have HST : Hid (Calls Tryz.prog 22 #[.slice a2 ss.length cap2, .slice ov ss.length cv] w5 fun r w' => r = .returned (.bool true) ∧ Below w5.heap.size w5 w') := Val.sameTexts a2 ov cap2 cv ss (by have := H64.out; omega) w5 (HX.out.later (bel2 B4.out b5)) HTX.out
    clear hown b5 cT d0 d1 d2 d3 d4 d5 d6
    go_wp2_with fail
    refine HST.out.mono ?_
    rintro e w6 ⟨rfl, b6⟩
    have B46 : Hid (Below w4.heap.size w4 w6) := bel2 B45.out b6
    have X6 : Hid (Bx w6 w3.heap.size A oA cA) := X4.out.later B46.out
    have d2 := X6.out.c2
    rw [HL.out] at d2
    clear b6
    go_wp2_with fail
    go_ret
    exact ⟨rfl, bel2 B4.out B46.out⟩
  · have q : (E != 0) = true := bne_iff_ne.2 hE
    obtain rfl : A = nil := HNL.out hE
    have HSA : Hid (Calls Tryz.prog 28 #[nil.val oA cA, nil.val none 0] w4 fun r w' => r = .returned (.bool true) ∧ Below w4.heap.size w4 w') := sameA (upB 4096) 96 8 nil oA cA none 0 w4 HA4.out ⟨none, 0, rfl, nil_ok' _, Nat.le_refl _, Nat.zero_le _, Nat.zero_le _, .inl ⟨rfl, rfl, rfl⟩⟩
    unfold Arr.val at HSA
    unfold nil at HSA d0 d1 d2 d3 d4 d5 d6
    go_wp2_with fail
    refine HSA.out.mono ?_
    rintro e w5 ⟨rfl, b5⟩
    have B5 : Hid (Below w.heap.size w w5) := bel2 B4.out b5
    clear b5 d0 d1 d2 d3 d4 d5 d6
    go_wp2
    go_ret
    exact ⟨rfl, B5.out⟩

set_option maxRecDepth 100000 in
theorem lifted (os : Os) (started : os.Started) (H : Type) (enc : TypeId × Value → H) :
    ReturnsInHanded {} Tryz.checked os 6 .any (fun w args => (Rows.buildBackSpec.pre enc Tryz.prog Tryz.f6 [] false w args ∧ laidMetH Tryz.prog Val.laidB w) ∧ sizedMet enc Tryz.prog Tryz.f6 (OpenSpec.ofChange Rows.buildBackSpec) false w args) (Rows.buildBackSpec.post enc Tryz.prog Tryz.f6 false true false false) := by
  refine returnsInHanded_of_change_and (C := Tryz.checked) (X := fun w _ => laidMetH Tryz.prog Val.laidB w) (fun _ _ _ hh h => h.of_heap hh) own started (by kernel_rfl) Tryz.func6
    (ChangeSpec.witness_shaped (enc := enc) (C := Tryz.checked) (os := os) (X := fun w _ => laidMetH Tryz.prog Val.laidB w) false (World.doorLaid Tryz.prog 400 os) #[.agg #[.slice none 0 0], .int .i64 0, .slice none 0 0] 8 rfl (World.shaped_of_RefB (by kernel_rfl) (by kernel_rfl)) (by kernel_rfl) (by kernel_rfl) (by kernel_rfl) (Val.doorB_met os _)) ?_
  intro W base args ds gs before hval0 hW hcnd hsz0 hL _
  have hsz : (DataW.weightsEach Tryz.prog (Tryz.f6.params.toList ++ Rows.buildBackSpec.plain.varTypes Tryz.prog) (ds ++ gs)).all (· ≤ reachBytes) = true := hsz0
  clear hsz0
  have hval : ∀ (j : Nat) t v, Tryz.f6.params[j]? = some t → args[j]? = some v → Value.okWide Tryz.prog W .any base t v := hval0
  have hW' := hW
  obtain ⟨p, q, hA0, hV, rfl, hfz, hnd⟩ := hW
  have hA : DataW.TrodAll enc Tryz.prog W 0 (fun _ => true) true Tryz.f6.params.toList args.toList ds p := hA0
  rw [Tryz.params6] at hA hval hsz
  obtain ⟨v0, vs0, d0, ds0, p0, q0, hargs, rfl, rfl, h0, r0⟩ := trodAll_cons hA
  obtain ⟨v1, vs1, d1, ds1, p1, q1, rfl, rfl, rfl, h1, r1⟩ := trodAll_cons r0
  obtain ⟨v2, vs2, d2, ds2, p2, q2, rfl, rfl, rfl, h2, r2⟩ := trodAll_cons r1
  obtain ⟨rfl, rfl, rfl⟩ := trodAll_nil r2
  obtain rfl : args = #[v0, v1, v2] := by cases args; simp_all
  obtain ⟨rfl, rfl⟩ := trodVars_none hV
  have k0 := h0
  have lt0 : ∀ x ∈ p0, x.block < W.heap.size := by obtain ⟨m, hm⟩ := k0; exact DataW.trod_lt m _ _ _ hm
  obtain ⟨a0, len0, cap0, z0, rfl, hp0, y0, dy0, hy0⟩ := Tree.open_type Tryz.underlying24 rfl rfl (by kernel_rfl) (by kernel_rfl) Tryz.underlying22 Tryz.underlying40 (by kernel_rfl) rfl rfl rfl (by kernel_rfl) (by kernel_rfl) (by kernel_rfl) Tryz.underlying3 Tryz.underlying3 Tryz.underlying4 (hval 0 24 v0 rfl rfl) h0
  have hs0 : cap0 * 24 ≤ 140737488351232 := by
    have := Tree.sized_type hsz (j := 0) rfl (congrArg some dy0) Tryz.underlying24 Tryz.underlying22 hy0
    rw [show Tryz.prog.bytesOf 40 = 24 from by kernel_rfl] at this
    unfold reachBytes at this
    omega
  obtain ⟨a1, rfl, rfl, rfl, hp1⟩ := open_int Tryz.underlying3 (hval 1 3 v1 rfl rfl) h1
  have k2 := h2
  have lt2 : ∀ x ∈ p2, x.block < W.heap.size := by obtain ⟨m, hm⟩ := k2; exact DataW.trod_lt m _ _ _ hm
  obtain ⟨a2, len2, cap2, z2, rfl, hp2, hy2⟩ := Texts.open_texts (P := Tryz.prog) Tryz.underlying29 Tryz.underlying9 (by kernel_rfl) (hval 2 29 v2 rfl rfl) h2
  have hs2 : cap2 * 16 ≤ 140737488351232 := by
    have := Texts.sized_texts hsz (j := 2) (t := 29) (e := 9) rfl rfl Tryz.underlying29 hy2
    rw [show Tryz.prog.bytesOf 9 = 16 from by kernel_rfl] at this
    unfold reachBytes at this
    exact this
  clear hA0 hval0
  refine (walk a0 len0 cap0 z0 a1 a2 len2 cap2 z2 W (Val.homeB_of hL) hp0 hs0 hp1 hp2 hs2).mono fun e W' ⟨he, bel⟩ => ?_
  subst he
  exact ⟨_, rfl, _, _, _, [], _, [], hW', trodAll_mk1 (shut_bool Tryz.underlying4 _), (trodAll_cons_mk (Below.trod laidOut (by kernel_rfl) (of_decide_eq_true (by kernel_rfl)) k0 bel lt0) (trodAll_cons_mk (shut_int Tryz.underlying3 hp1) (trodAll_cons_mk (Below.trod laidOut (by kernel_rfl) (of_decide_eq_true (by kernel_rfl)) k2 bel lt2) trodAll_mk0))), rfl, bel.frame _, fun h => by cases h⟩

end Go.Proofs.YtcpfhfdgfcilaaaGreatDoor.buildBack
