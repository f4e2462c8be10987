/-
  Builds: any type, node, values: what Build answers, by the document's; they stay; for every input within reach.
-/
import Derived.Test.YtcpfhfdgfcilaaaGreatDoorRows
import Derived.WalkKit
import Derived.ProofKit
import Derived.OpenShut
import Derived.ShutString
import Derived.ChangeOld
import Derived.Below
import Derived.SizedLaws
import Derived.Deep.QuietTactic
import Derived.WalkSmall
import Derived.BigQuiet
import Derived.Deep.RegionWith
import Derived.OwnWalk
import Derived.RegionTactic
import Derived.ChangeAlike
import Derived.Deep.CutBlock
import Derived.Maps.AppendAt
import Derived.OneCell
import Derived.LaidMore
import Derived.Stop.Joined
import Derived.SevenTiedAt
import Derived.Test.YtcpfhfdgfcilaaaGreatDoorCards
import Derived.Test.YtcpfhfdgfcilaaaGreatDoorTie
import Derived.Test.YtcpfhfdgfcilaaaGreatDoorB01
import Derived.Test.YtcpfhfdgfcilaaaGreatDoorB02
import Derived.Test.YtcpfhfdgfcilaaaGreatDoorB09
import Derived.Test.YtcpfhfdgfcilaaaGreatDoorB11
import Derived.Test.YtcpfhfdgfcilaaaGreatDoorB12
import Derived.Test.YtcpfhfdgfcilaaaGreatDoorB15
import Derived.Test.YtcpfhfdgfcilaaaGreatDoorB13
import Derived.Test.YtcpfhfdgfcilaaaGreatDoorB14
import Derived.Test.YtcpfhfdgfcilaaaGreatDoorB17
import Derived.Test.YtcpfhfdgfcilaaaGreatDoorB30
import Derived.Test.YtcpfhfdgfcilaaaGreatDoorB31
import Derived.Test.YtcpfhfdgfcilaaaGreatDoorB24
import Derived.Test.YtcpfhfdgfcilaaaGreatDoorB35
import Derived.Test.YtcpfhfdgfcilaaaGreatDoorB36
namespace Go.Proofs.YtcpfhfdgfcilaaaGreatDoor.builds
open Go.ChangeShapes Go.WideShapes Go.ChangeAt Go.RowKit
open Go.ChangeMaps (open_string shut_string)
set_option linter.unusedVariables false

theorem own : ownKnob Tryz.prog.godebug = none := by kernel_rfl
theorem laidOut : laidOutB Tryz.prog = true := by kernel_rfl

open Tree Arr
theorem spd_below {n0 : Nat} {w5 w w' : World} (h : Spd (fun b => n0 ≤ b) w w') (hn : n0 = w5.heap.size) (hb : Below w5.heap.size w5 w) : Below w5.heap.size w5 w' := h.kept.down hb (fun k hk => by omega)
set_option maxRecDepth 20000 in
set_option maxHeartbeats 4000000 in
theorem walk (a0 : Option Addr) (len0 cap0 : Nat) (z0 : List Tree.Nd) (a1 : Int) (a2 : Option Addr) (len2 cap2 : Nat) (z2 : List ByteArray) (w : World) (hw : Hid (Val.HomeE w)) (hp0 : Tree.IsNodes w a0 len0 cap0 z0) (hs0 : cap0 * 24 ≤ 140737488351232) (hp1 : (Lit.int .i64 a1).wf = true) (hp2 : Texts.IsTexts w a2 len2 cap2 z2) (hs2 : cap2 * 16 ≤ 140737488351232) :
    Calls Tryz.prog 5 #[.agg #[.slice a0 len0 cap0], .int .i64 a1, .slice a2 len2 cap2] w fun e w' => e = .returned (.bool true) ∧ Below w.heap.size w w' := by
  have HCO0 := Val.coT_of hp2
  obtain ⟨ns, rfl, hT, hlc, hco⟩ := isT_of hp0
  obtain ⟨ss, rfl, hzt, hX, hcp, hsl⟩ := Texts.isTx_of hp2
  rw [← hzt] at HCO0
  have HCO : Hid (Val.CoT w a2 cap2 ss) := HCO0
  have HT : Hid (IsT w a0 ns) := hT
  have HX : Hid (Texts.IsTx w a2 ss) := hX
  have HSZ : Hid (SizesOk ss) := sizes_in hsl
  have HLN : Hid (ss.length ≤ 8796093021952) := by unfold Hid; omega
  obtain ⟨w1, e1, s1, c1, b1⟩ := boxed w (.slice a0 ns.length cap0) 24
  have B1 : Hid (Below w.heap.size w w1) := b1
  have HC1 : Hid (w1.cell? ⟨w.heap.size, 0, none⟩ = some (.slice a0 ns.length cap0)) := c1
  have HBU : Hid (∀ v o c, Below w.heap.size w v → Texts.IsTx v o ss → Calls Tryz.prog 26 #[.agg #[.slice a0 ns.length cap0], .int .i64 a1, .slice o ss.length c] v fun r w' => ∃ (o' : Option Addr) (c' : Nat), r = .returned (.tuple #[(bdA ns a1 ss).val o' c', .int .i64 (bdE ns a1 ss)]) ∧ HoldsO 4096 w' 8 (fun b => v.heap.size ≤ b) ((bdA ns a1 ss).cells o' c') (bdA ns a1 ss) ∧ Below v.heap.size v w') := fun v o c hv hx => buildP 4096 (Nat.le_refl _) ns a0 cap0 a1 ss o c v HSZ (hw.out.later hv) hx (HT.out.later hv)
  have HBD : Hid (∀ v, Below w.heap.size w v → Calls Tryz.prog 27 #[.agg #[.slice a0 ns.length cap0], .int .i64 a1, .slice a2 ss.length cap2] v fun r w' => ∃ (o' : Option Addr) (c' : Nat), r = .returned (.tuple #[(bdA ns a1 ss).val o' c', .int .i64 (bdE ns a1 ss)]) ∧ HoldsO 4096 w' 8 (fun b => v.heap.size ≤ b) ((bdA ns a1 ss).cells o' c') (bdA ns a1 ss) ∧ Below v.heap.size v w') := fun v hv => buildA 4096 (Nat.le_refl _) ns a0 cap0 a1 ss a2 cap2 v HLN.out (HX.out.later hv) (HT.out.later hv)
  clear hp0 hp2 hlc hco hT hX hsl b1 c1 hzt hcp HCO0
  generalize bdA ns a1 ss = A at *
  generalize bdE ns a1 ss = E at *
  go_enter Tryz.func5, Tryz.ntmps5
  go_wp2_with fail
  refine (Val.lendTexts a2 cap2 ss HLN.out w1 (HCO.out.later B1.out)).mono ?_
  rintro e w2 ⟨g, c, rfl, hc, hown, b2⟩
  have HLE : Hid (Val.Lent w2 g c ss) := Val.lent_of hc HLN.out hown
  have B2 : Hid (Below w.heap.size w w2) := bel2 B1.out b2
  have HC2 : Hid (w2.cell? ⟨w.heap.size, 0, none⟩ = some (.slice a0 ns.length cap0)) := cell_later b2 HC1.out
  have cT := HC2.out
  have HBU2 : Hid (Calls Tryz.prog 26 #[.agg #[.slice a0 ns.length cap0], .int .i64 a1, .slice (some ⟨g, 0, none⟩) ss.length c] w2 fun r w' => ∃ (o' : Option Addr) (c' : Nat), r = .returned (.tuple #[A.val o' c', .int .i64 E]) ∧ HoldsO 4096 w' 8 (fun b => w2.heap.size ≤ b) (A.cells o' c') A ∧ Below w2.heap.size w2 w') := HBU.out w2 _ c B2.out HLE.out.tx
  clear hown b2 e1 HBU
  unfold Arr.val at HBU2 HBD
  go_wp2_with fail
  refine HBU2.out.mono ?_
  rintro e w3 ⟨oA, cA, rfl, hA, b3⟩
  have HA3 : Hid (HoldsO 4096 w3 8 (fun b => w2.heap.size ≤ b) (A.cells oA cA) A) := hA
  have B23 : Hid (Below w2.heap.size w2 w3) := b3
  clear hA b3 cT HBU2
  obtain ⟨wal, eal', xal, bal, zal⟩ := box7 w3 nil none 0
  have eal : w3.alloc (.cells #[.int .i64 0, .int .i64 0, .int .i64 0, .string ⟨#[]⟩, .string ⟨#[]⟩, .string ⟨#[]⟩, .slice none 0 0] 27) = wal := eal'
  have m0 := xal.c0
  have m1 := xal.c1
  have m2 := xal.c2
  have m3 := xal.c3
  have m4 := xal.c4
  have m5 := xal.c5
  have m6 := xal.c6
  have f0 := xal.fz 0
  have f1 := xal.fz 1
  have f2 := xal.fz 2
  have f3 := xal.fz 3
  have f4 := xal.fz 4
  have f5 := xal.fz 5
  have f6 := xal.fz 6
  unfold nil at m0 m1 m2 m3 m4 m5 m6
  obtain ⟨w4, efl, xfl, hfl, bfl⟩ := set7 xal A oA cA
  have X4 : Hid (Bx w4 w3.heap.size A oA cA) := xfl
  have B34 : Hid (Below w3.heap.size w3 w4) := bal.trans (bfl _ (Nat.le_refl _))
  clear eal' xal bal zal xfl hfl bfl
  go_upto_region 3 with fail
  try rw [efl]
  clear efl eal m0 m1 m2 m3 m4 m5 m6 f0 f1 f2 f3 f4 f5 f6
  have B24 : Hid (Below w2.heap.size w2 w4) := bel2 B23.out B34.out
  have B4 : Hid (Below w.heap.size w w4) := bel2 B2.out B24.out
  have cT := cell_later B24.out HC2.out
  have HBD4 := HBD.out w4 B4.out
  go_wp2_with fail
  refine HBD4.mono ?_
  rintro e w5 ⟨oB, cB, rfl, hB, b5⟩
  have HB5 : Hid (HoldsF (upB 4096) 96 w5 8 (A.cells oB cB) A) := hB.holds
  have B45 : Hid (Below w4.heap.size w4 w5) := b5
  clear hB b5 cT HBD4 HBD
  obtain ⟨wal, eal', xal, bal, zal⟩ := box7 w5 nil none 0
  have eal : w5.alloc (.cells #[.int .i64 0, .int .i64 0, .int .i64 0, .string ⟨#[]⟩, .string ⟨#[]⟩, .string ⟨#[]⟩, .slice none 0 0] 27) = wal := eal'
  have m0 := xal.c0
  have m1 := xal.c1
  have m2 := xal.c2
  have m3 := xal.c3
  have m4 := xal.c4
  have m5 := xal.c5
  have m6 := xal.c6
  have f0 := xal.fz 0
  have f1 := xal.fz 1
  have f2 := xal.fz 2
  have f3 := xal.fz 3
  have f4 := xal.fz 4
  have f5 := xal.fz 5
  have f6 := xal.fz 6
  unfold nil at m0 m1 m2 m3 m4 m5 m6
  obtain ⟨w6, efl, xfl, hfl, bfl⟩ := set7 xal A oB cB
  have X6 : Hid (Bx w6 w5.heap.size A oB cB) := xfl
  have B56 : Hid (Below w5.heap.size w5 w6) := bal.trans (bfl _ (Nat.le_refl _))
  clear eal' xal bal zal xfl hfl bfl
  go_upto_region 4 with fail
  try rw [efl]
  clear efl eal m0 m1 m2 m3 m4 m5 m6 f0 f1 f2 f3 f4 f5 f6
  have B46 : Hid (Below w4.heap.size w4 w6) := bel2 B45.out B56.out
  have B36 : Hid (Below w3.heap.size w3 w6) := bel2 B34.out B46.out
  have B26 : Hid (Below w2.heap.size w2 w6) := bel2 B23.out B36.out
  have HA6 : Hid (HoldsO 4096 w6 8 (fun b => w2.heap.size ≤ b) (A.cells oA cA) A) := HA3.out.lt.stays (fun b hb => B36.out.block b hb.2) (fun b hb => hb.1)
  have X46 : Hid (Bx w6 w3.heap.size A oA cA) := X4.out.later B46.out
  have HSA : Hid (Calls Tryz.prog 28 #[A.val oA cA, A.val oB cB] w6 fun r w' => r = .returned (.bool true) ∧ Below w6.heap.size w6 w') := sameA (upB 4096) 96 8 A oA cA oB cB w6 HA6.out.holds (HB5.out.later B56.out)
  have hEE : (E != E) = false := by simp
  unfold Arr.val at HSA
  have d0 := X46.out.c0
  have d1 := X46.out.c1
  have d2 := X46.out.c2
  have d3 := X46.out.c3
  have d4 := X46.out.c4
  have d5 := X46.out.c5
  have d6 := X46.out.c6
  have g0 := X6.out.c0
  have g1 := X6.out.c1
  have g2 := X6.out.c2
  have g3 := X6.out.c3
  have g4 := X6.out.c4
  have g5 := X6.out.c5
  have g6 := X6.out.c6
  go_wp2_with fail
  refine HSA.out.mono ?_
  rintro e w7 ⟨rfl, b7⟩
  have B67 : Hid (Below w6.heap.size w6 w7) := b7
  clear b7 d0 d1 d2 d3 d4 d5 d6 g0 g1 g2 g3 g4 g5 g6 HSA
  go_wp2_with fail
  refine (Tree.num _ _).mono ?_
  rintro e wx ⟨rfl, hv⟩
  subst wx
  have X47 : Hid (Bx w7 w3.heap.size A oA cA) := X46.out.later B67.out
  have HA7 : Hid (HoldsO 4096 w7 8 (fun b => w2.heap.size ≤ b) (A.cells oA cA) A) := HA6.out.lt.stays (fun b hb => B67.out.block b hb.2) (fun b hb => hb.1)
  have HSP : Hid (Calls Tryz.prog 29 #[A.val oA cA] w7 fun r w' => r = .returned (.tuple #[]) ∧ Spd (fun b => w2.heap.size ≤ b) w7 w') := spoilA 4096 8 A oA cA _ w7 HA7.out
  have B27 : Hid (Below w2.heap.size w2 w7) := bel2 B26.out B67.out
  unfold Arr.val at HSP
  have d0 := X47.out.c0
  have d1 := X47.out.c1
  have d2 := X47.out.c2
  have d3 := X47.out.c3
  have d4 := X47.out.c4
  have d5 := X47.out.c5
  have d6 := X47.out.c6
  go_wp2_with fail
  refine HSP.out.mono ?_
  rintro e w8 ⟨rfl, hsp⟩
  have B28 : Hid (Below w2.heap.size w2 w8) := spd_below hsp rfl B27.out
  have B8 : Hid (Below w.heap.size w w8) := bel2 B2.out B28.out
  have HKE : Hid (Calls Tryz.prog 30 #[.slice (some ⟨g, 0, none⟩) ss.length c, .slice a2 ss.length cap2] w8 fun r w' => r = .returned (.bool true) ∧ Below w8.heap.size w8 w') := Val.keptTexts g c a2 cap2 ss w8 (HLE.out.later B28.out) (HX.out.later B8.out)
  clear hsp d0 d1 d2 d3 d4 d5 d6 HSP hEE
  go_wp2_with fail
  refine HKE.out.mono ?_
  rintro e w9 ⟨rfl, b9⟩
  have B9 : Hid (Below w.heap.size w w9) := bel2 B8.out b9
  clear b9
  go_wp2_with fail
  refine (awakeB w9 (hw.out.later B9.out)).mono ?_
  rintro e w10 ⟨rfl, b10⟩
  have B10 : Hid (Below w.heap.size w w10) := bel2 B9.out b10
  clear b10
  go_wp2
  go_ret
  exact ⟨rfl, B10.out⟩

set_option maxRecDepth 100000 in
theorem lifted (os : Os) (started : os.Started) (H : Type) (enc : TypeId × Value → H) :
    ReturnsInHanded {} Tryz.checked os 5 .any (fun w args => (Rows.buildsSpec.pre enc Tryz.prog Tryz.f5 [] false w args ∧ laidMetH Tryz.prog Val.laidB w) ∧ sizedMet enc Tryz.prog Tryz.f5 (OpenSpec.ofChange Rows.buildsSpec) false w args) (Rows.buildsSpec.post enc Tryz.prog Tryz.f5 false true false false) := by
  refine returnsInHanded_of_change_and (C := Tryz.checked) (X := fun w _ => laidMetH Tryz.prog Val.laidB w) (fun _ _ _ hh h => h.of_heap hh) own started (by kernel_rfl) Tryz.func5
    (ChangeSpec.witness_shaped (enc := enc) (C := Tryz.checked) (os := os) (X := fun w _ => laidMetH Tryz.prog Val.laidB w) false (World.doorLaid Tryz.prog 400 os) #[.agg #[.slice none 0 0], .int .i64 0, .slice none 0 0] 8 rfl (World.shaped_of_RefB (by kernel_rfl) (by kernel_rfl)) (by kernel_rfl) (by kernel_rfl) (by kernel_rfl) (Val.doorB_met os _)) ?_
  intro W base args ds gs before hval0 hW hcnd hsz0 hL _
  have hsz : (DataW.weightsEach Tryz.prog (Tryz.f5.params.toList ++ Rows.buildsSpec.plain.varTypes Tryz.prog) (ds ++ gs)).all (· ≤ reachBytes) = true := hsz0
  clear hsz0
  have hval : ∀ (j : Nat) t v, Tryz.f5.params[j]? = some t → args[j]? = some v → Value.okWide Tryz.prog W .any base t v := hval0
  have hW' := hW
  obtain ⟨p, q, hA0, hV, rfl, hfz, hnd⟩ := hW
  have hA : DataW.TrodAll enc Tryz.prog W 0 (fun _ => true) true Tryz.f5.params.toList args.toList ds p := hA0
  rw [Tryz.params5] at hA hval hsz
  obtain ⟨v0, vs0, d0, ds0, p0, q0, hargs, rfl, rfl, h0, r0⟩ := trodAll_cons hA
  obtain ⟨v1, vs1, d1, ds1, p1, q1, rfl, rfl, rfl, h1, r1⟩ := trodAll_cons r0
  obtain ⟨v2, vs2, d2, ds2, p2, q2, rfl, rfl, rfl, h2, r2⟩ := trodAll_cons r1
  obtain ⟨rfl, rfl, rfl⟩ := trodAll_nil r2
  obtain rfl : args = #[v0, v1, v2] := by cases args; simp_all
  obtain ⟨rfl, rfl⟩ := trodVars_none hV
  have k0 := h0
  have lt0 : ∀ x ∈ p0, x.block < W.heap.size := by obtain ⟨m, hm⟩ := k0; exact DataW.trod_lt m _ _ _ hm
  obtain ⟨a0, len0, cap0, z0, rfl, hp0, y0, dy0, hy0⟩ := Tree.open_type Tryz.underlying24 rfl rfl (by kernel_rfl) (by kernel_rfl) Tryz.underlying22 Tryz.underlying40 (by kernel_rfl) rfl rfl rfl (by kernel_rfl) (by kernel_rfl) (by kernel_rfl) Tryz.underlying3 Tryz.underlying3 Tryz.underlying4 (hval 0 24 v0 rfl rfl) h0
  have hs0 : cap0 * 24 ≤ 140737488351232 := by
    have := Tree.sized_type hsz (j := 0) rfl (congrArg some dy0) Tryz.underlying24 Tryz.underlying22 hy0
    rw [show Tryz.prog.bytesOf 40 = 24 from by kernel_rfl] at this
    unfold reachBytes at this
    omega
  obtain ⟨a1, rfl, rfl, rfl, hp1⟩ := open_int Tryz.underlying3 (hval 1 3 v1 rfl rfl) h1
  have k2 := h2
  have lt2 : ∀ x ∈ p2, x.block < W.heap.size := by obtain ⟨m, hm⟩ := k2; exact DataW.trod_lt m _ _ _ hm
  obtain ⟨a2, len2, cap2, z2, rfl, hp2, hy2⟩ := Texts.open_texts (P := Tryz.prog) Tryz.underlying29 Tryz.underlying9 (by kernel_rfl) (hval 2 29 v2 rfl rfl) h2
  have hs2 : cap2 * 16 ≤ 140737488351232 := by
    have := Texts.sized_texts hsz (j := 2) (t := 29) (e := 9) rfl rfl Tryz.underlying29 hy2
    rw [show Tryz.prog.bytesOf 9 = 16 from by kernel_rfl] at this
    unfold reachBytes at this
    exact this
  clear hA0 hval0
  refine (walk a0 len0 cap0 z0 a1 a2 len2 cap2 z2 W (Val.homeB_of hL) hp0 hs0 hp1 hp2 hs2).mono fun e W' ⟨he, bel⟩ => ?_
  subst he
  exact ⟨_, rfl, _, _, _, [], _, [], hW', trodAll_mk1 (shut_bool Tryz.underlying4 _), (trodAll_cons_mk (Below.trod laidOut (by kernel_rfl) (of_decide_eq_true (by kernel_rfl)) k0 bel lt0) (trodAll_cons_mk (shut_int Tryz.underlying3 hp1) (trodAll_cons_mk (Below.trod laidOut (by kernel_rfl) (of_decide_eq_true (by kernel_rfl)) k2 bel lt2) trodAll_mk0))), rfl, bel.frame _, fun h => by cases h⟩

end Go.Proofs.YtcpfhfdgfcilaaaGreatDoor.builds
