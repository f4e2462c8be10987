/-
  Reads: every Value, every Values is the document's, for any type, node, array and row; what was handed in stays.
-/
import Derived.Test.YthbjeedmhgnnaaaGreatDoorRows
import Derived.WalkKit
import Derived.ProofKit
import Derived.OpenShut
import Derived.ShutString
import Derived.ChangeOld
import Derived.Below
import Derived.SizedLaws
import Derived.Deep.QuietTactic
import Derived.WalkSmall
import Derived.BigQuiet
import Derived.Deep.RegionWith
import Derived.OwnWalk
import Derived.RegionTactic
import Derived.ChangeAlike
import Derived.Deep.CutBlock
import Derived.Maps.AppendAt
import Derived.OneCell
import Derived.LaidMore
import Derived.Stop.Joined
import Derived.SevenTiedAt
import Derived.Test.YthbjeedmhgnnaaaGreatDoorCards
import Derived.Test.YthbjeedmhgnnaaaGreatDoorTie
import Derived.Test.YthbjeedmhgnnaaaGreatDoorB01
import Derived.Test.YthbjeedmhgnnaaaGreatDoorB02
import Derived.Test.YthbjeedmhgnnaaaGreatDoorB09
import Derived.Test.YthbjeedmhgnnaaaGreatDoorB11
import Derived.Test.YthbjeedmhgnnaaaGreatDoorB12
import Derived.Test.YthbjeedmhgnnaaaGreatDoorB15
import Derived.Test.YthbjeedmhgnnaaaGreatDoorB13
import Derived.Test.YthbjeedmhgnnaaaGreatDoorB14
import Derived.Test.YthbjeedmhgnnaaaGreatDoorB17
import Derived.Test.YthbjeedmhgnnaaaGreatDoorB21
namespace Go.Proofs.YthbjeedmhgnnaaaGreatDoor.reads
open Go.ChangeShapes Go.WideShapes Go.ChangeAt Go.RowKit
open Go.ChangeMaps (open_string shut_string)
set_option linter.unusedVariables false

theorem own : ownKnob Tryz.prog.godebug = none := by kernel_rfl
theorem laidOut : laidOutB Tryz.prog = true := by kernel_rfl

open Tree Arr
theorem and10 (x : Int) : ∃ d : Nat, bits .and .i64 x 1023 = (d : Int) ∧ d < 1024 := ⟨(x % 1024).toNat, by rw [BitP.and10]; omega, by omega⟩
theorem up_le (B : Nat) : B ≤ upB B := by unfold upB; omega
set_option maxRecDepth 20000 in
set_option maxHeartbeats 4000000 in
theorem walk (a0 : Option Addr) (len0 cap0 : Nat) (z0 : List Tree.Nd) (a1 : Int) (fq2 : Nat) (a2 : Arr.Arr) (oq2 : Option Addr) (cq2 : Nat) (a3 : Int) (w : World) (hw : Hid (Val.Home w)) (hp0 : Tree.IsNodes w a0 len0 cap0 z0) (hs0 : cap0 * 24 ≤ 140737488351232) (hp1 : (Lit.int .i64 a1).wf = true) (hp2 : Hid (Arr.HoldsF 140737488351232 96 w (fq2 + 1) (a2.cells oq2 cq2) a2)) (hp3 : (Lit.int .i64 a3).wf = true) :
    Calls Tryz.prog 3 #[.agg #[.slice a0 len0 cap0], .int .i64 a1, a2.val oq2 cq2, .int .i64 a3] w fun e w' => e = .returned (.bool true) ∧ Below w.heap.size w w' := by
  obtain ⟨ns, rfl, hT, hlc, hco⟩ := isT_of hp0
  have HT : Hid (IsT w a0 ns) := hT
  obtain ⟨w1, e1, s1, c1, b1⟩ := boxed w (.slice a0 ns.length cap0) 24
  obtain ⟨w2, e2, x2, b2, z2⟩ := box7 w1 a2 oq2 cq2
  have HC2 : Hid (w2.cell? ⟨w.heap.size, 0, none⟩ = some (.slice a0 ns.length cap0)) := cell_later b2 c1
  have X2 : Hid (Bx w2 w1.heap.size a2 oq2 cq2) := x2
  have B2 : Hid (Below w.heap.size w w2) := bel2 b1 b2
  have HH : Hid (HoldsF 140737488351232 96 w (fq2 + 1) (a2.cells oq2 cq2) a2) := hp2
  clear hp0 hlc hco hT c1 b1 b2 x2 s1 z2 hp2
  have HCP : Hid (∀ v, Below w.heap.size w v → Calls Tryz.prog 14 #[a2.val oq2 cq2] v fun r w' => ∃ o' cap', r = .returned (a2.val o' cap') ∧ HoldsO 140737488351232 w' (fq2 + 1) (fun b => v.heap.size ≤ b) (a2.cells o' cap') a2 ∧ Below v.heap.size v w') := fun v hv => Arr.copyA 140737488351232 (by decide) (fq2 + 1) a2 oq2 cq2 v (HH.out.later hv)
  have HV1 : Hid (∀ v o c, Below w.heap.size w v → HoldsF (upB 140737488351232) 96 v (fq2 + 1) (a2.cells o c) a2 → Calls Tryz.prog 15 #[.agg #[.slice a0 ns.length cap0], .int .i64 a1, a2.val o c, .int .i64 a3] v fun r w' => r = .returned (.tuple #[.string (val1 ns a1 (fq2 + 1) a2 a3), .int .i64 (val1E ns a1 (fq2 + 1) a2 a3)]) ∧ Below v.heap.size v w') := fun v o c hv h => valueP _ fq2 ns a0 cap0 a1 a2 o c a3 hp3 v (hw.out.later hv) (HT.out.later hv) h
  have HR1 : Hid (∀ v, Below w.heap.size w v → Calls Tryz.prog 16 #[.agg #[.slice a0 ns.length cap0], .int .i64 a1, a2.val oq2 cq2, .int .i64 a3] v fun r w' => r = .returned (.tuple #[.string (val1 ns a1 (fq2 + 1) a2 a3), .int .i64 (val1E ns a1 (fq2 + 1) a2 a3)]) ∧ Below v.heap.size v w') := fun v hv => valueR _ fq2 ns a0 cap0 a1 a2 oq2 cq2 a3 hp3 v (HT.out.later hv) (HH.out.later hv)
  have HVS : Hid (∀ v o c, Below w.heap.size w v → HoldsF (upB 140737488351232) 96 v (fq2 + 1) (a2.cells o c) a2 → Calls Tryz.prog 17 #[.agg #[.slice a0 ns.length cap0], .int .i64 a1, a2.val o c] v fun r w' => ∃ ov cv, r = .returned (.tuple #[.slice ov (valsA ns a1 (fq2 + 1) a2).length cv, .int .i64 (valsE ns a1 (fq2 + 1) a2)]) ∧ w'.ownsRow v.heap.size 9 1 (.slice ov (valsA ns a1 (fq2 + 1) a2).length cv) (valsA ns a1 (fq2 + 1) a2).length (Texts.cellsT (valsA ns a1 (fq2 + 1) a2)) ∧ Below v.heap.size v w') := fun v o c hv h => valuesP _ fq2 ns a0 cap0 a1 a2 o c v (hw.out.later hv) (HT.out.later hv) h
  have HRS : Hid (∀ v, Below w.heap.size w v → Calls Tryz.prog 18 #[.agg #[.slice a0 ns.length cap0], .int .i64 a1, a2.val oq2 cq2] v fun r w' => ∃ ov cv, r = .returned (.tuple #[.slice ov (valsA ns a1 (fq2 + 1) a2).length cv, .int .i64 (valsE ns a1 (fq2 + 1) a2)]) ∧ w'.ownsRow v.heap.size 9 1 (.slice ov (valsA ns a1 (fq2 + 1) a2).length cv) (valsA ns a1 (fq2 + 1) a2).length (Texts.cellsT (valsA ns a1 (fq2 + 1) a2)) ∧ Below v.heap.size v w') := fun v hv => valuesA _ fq2 ns a0 cap0 a1 a2 oq2 cq2 v (HT.out.later hv) (HH.out.later hv)
  have HLN : Hid ((valsA ns a1 (fq2 + 1) a2).length ≤ 140737488355328) := by
    unfold Hid valsA
    split
    · rename_i h
      obtain ⟨n, rfl, hn, hm, hF, hHd⟩ := may_head h
      rw [length_told]
      have h1 := hHd.rows
      have h2 := hHd.off
      omega
    · exact Nat.zero_le _
  generalize val1 ns a1 (fq2 + 1) a2 a3 = V at *
  generalize val1E ns a1 (fq2 + 1) a2 a3 = E at *
  generalize valsA ns a1 (fq2 + 1) a2 = VS at *
  generalize valsE ns a1 (fq2 + 1) a2 = ES at *
  unfold Arr.val at HCP HV1 HR1 HVS HRS ⊢
  have d0 := X2.out.c0
  have d1 := X2.out.c1
  have d2 := X2.out.c2
  have d3 := X2.out.c3
  have d4 := X2.out.c4
  have d5 := X2.out.c5
  have d6 := X2.out.c6
  go_enter Tryz.func3, Tryz.ntmps3
  go_wp2_with fail
  refine (HCP.out w2 B2.out).mono ?_
  rintro e w3 ⟨o3, c3, rfl, hh3, b3⟩
  have HO3 : Hid (HoldsO 140737488351232 w3 (fq2 + 1) (fun b => w2.heap.size ≤ b) (a2.cells o3 c3) a2) := hh3
  have B3 : Hid (Below w2.heap.size w2 w3) := b3
  clear hh3 b3 e1 e2 d0 d1 d2 d3 d4 d5 d6
  obtain ⟨wal, eal', xal, bal, zal⟩ := box7 w3 nil none 0
  have eal : w3.alloc (.cells #[.int .i64 0, .int .i64 0, .int .i64 0, .string ⟨#[]⟩, .string ⟨#[]⟩, .string ⟨#[]⟩, .slice none 0 0] 27) = wal := eal'
  have m0 := xal.c0
  have m1 := xal.c1
  have m2 := xal.c2
  have m3 := xal.c3
  have m4 := xal.c4
  have m5 := xal.c5
  have m6 := xal.c6
  have f0 := xal.fz 0
  have f1 := xal.fz 1
  have f2 := xal.fz 2
  have f3 := xal.fz 3
  have f4 := xal.fz 4
  have f5 := xal.fz 5
  have f6 := xal.fz 6
  obtain ⟨w5, efl, xfl, hfl, bfl⟩ := set7 xal a2 o3 c3
  have XB : Hid (Bx w5 w3.heap.size a2 o3 c3) := xfl
  have B35 : Hid (Below w3.heap.size w3 w5) := bal.trans (bfl _ (Nat.le_refl _))
  unfold nil at m0 m1 m2 m3 m4 m5 m6
  clear eal' xal bal zal xfl hfl bfl
  go_upto_region 2 with fail
  try rw [efl]
  clear efl eal m0 m1 m2 m3 m4 m5 m6 f0 f1 f2 f3 f4 f5 f6
  have B25 : Hid (Below w2.heap.size w2 w5) := bel2 B3.out B35.out
  have B5 : Hid (Below w.heap.size w w5) := bel2 B2.out B25.out
  have HB5 : Hid (HoldsF (upB 140737488351232) 96 w5 (fq2 + 1) (a2.cells o3 c3) a2) := HO3.out.holds.later B35.out
  have c5 := cell_later B25.out HC2.out
  have d0 := XB.out.c0
  have d1 := XB.out.c1
  have d2 := XB.out.c2
  have d3 := XB.out.c3
  have d4 := XB.out.c4
  have d5 := XB.out.c5
  have d6 := XB.out.c6
  go_wp2_with fail
  refine (HV1.out w5 o3 c3 B5.out HB5.out).mono ?_
  rintro e w6 ⟨rfl, b6⟩
  have B56 : Hid (Below w5.heap.size w5 w6) := b6
  have B26 : Hid (Below w2.heap.size w2 w6) := bel2 B25.out b6
  clear b6 c5 d0 d1 d2 d3 d4 d5 d6
  have c5 := cell_later B26.out HC2.out
  have d0 := (X2.out.later B26.out).c0
  have d1 := (X2.out.later B26.out).c1
  have d2 := (X2.out.later B26.out).c2
  have d3 := (X2.out.later B26.out).c3
  have d4 := (X2.out.later B26.out).c4
  have d5 := (X2.out.later B26.out).c5
  have d6 := (X2.out.later B26.out).c6
  go_wp2_with fail
  refine (HR1.out w6 (bel2 B2.out B26.out)).mono ?_
  rintro e w7 ⟨rfl, b7⟩
  have B57 : Hid (Below w5.heap.size w5 w7) := bel2 B56.out b7
  have B27 : Hid (Below w2.heap.size w2 w7) := bel2 B26.out b7
  clear b7 c5 d0 d1 d2 d3 d4 d5 d6
  have c5 := cell_later B27.out HC2.out
  have d0 := (XB.out.later B57.out).c0
  have d1 := (XB.out.later B57.out).c1
  have d2 := (XB.out.later B57.out).c2
  have d3 := (XB.out.later B57.out).c3
  have d4 := (XB.out.later B57.out).c4
  have d5 := (XB.out.later B57.out).c5
  have d6 := (XB.out.later B57.out).c6
  go_wp2_with fail
  refine (HVS.out w7 o3 c3 (bel2 B2.out B27.out) (HB5.out.later B57.out)).mono ?_
  rintro e w8 ⟨ov, cv, rfl, hown, b8⟩
  have HT8 : Hid (Texts.IsTx w8 ov VS) := Texts.own_texts hown
  have B58 : Hid (Below w5.heap.size w5 w8) := bel2 B57.out b8
  have B28 : Hid (Below w2.heap.size w2 w8) := bel2 B27.out b8
  clear b8 c5 d0 d1 d2 d3 d4 d5 d6 hown
  have c5 := cell_later B28.out HC2.out
  have d0 := (X2.out.later B28.out).c0
  have d1 := (X2.out.later B28.out).c1
  have d2 := (X2.out.later B28.out).c2
  have d3 := (X2.out.later B28.out).c3
  have d4 := (X2.out.later B28.out).c4
  have d5 := (X2.out.later B28.out).c5
  have d6 := (X2.out.later B28.out).c6
  go_wp2_with fail
  refine (HRS.out w8 (bel2 B2.out B28.out)).mono ?_
  rintro e w9 ⟨or, cr, rfl, hown, b9⟩
  have HT9 : Hid (Texts.IsTx w9 or VS) := Texts.own_texts hown
  have HT8' : Hid (Texts.IsTx w9 ov VS) := HT8.out.later b9
  have B59 : Hid (Below w5.heap.size w5 w9) := bel2 B58.out b9
  have B29 : Hid (Below w2.heap.size w2 w9) := bel2 B28.out b9
  clear b9 c5 d0 d1 d2 d3 d4 d5 d6 hown
  have hee : (E == E) = true := by rw [beq_self_eq_true]
  have hes : (ES == ES) = true := by rw [beq_self_eq_true]
  have HST : Hid (Calls Tryz.prog 20 #[.slice ov VS.length cv, .slice or VS.length cr] w9 fun r w' => r = .returned (.bool true) ∧ Below w9.heap.size w9 w') := Val.sameTexts ov or cv cr VS HLN.out w9 HT8'.out HT9.out
  go_wp2_with fail
  refine (Tree.num _ _).mono ?_
  rintro e wx ⟨rfl, hv⟩
  subst wx
  go_wp2_with fail
  refine HST.out.mono ?_
  rintro e w10 ⟨rfl, b10⟩
  have B5t : Hid (Below w5.heap.size w5 w10) := bel2 B59.out b10
  have B2t : Hid (Below w2.heap.size w2 w10) := bel2 B29.out b10
  have BWt : Hid (Below w.heap.size w w10) := bel2 B2.out B2t.out
  have HSB : Hid (Calls Tryz.prog 21 #[a2.val o3 c3, a2.val oq2 cq2] w10 fun r w' => r = .returned (.bool true) ∧ Below w10.heap.size w10 w') := sameA _ 96 (fq2 + 1) a2 o3 c3 oq2 cq2 w10 (HB5.out.later B5t.out) (HoldsF.up (up_le _) (HH.out.later BWt.out))
  unfold Arr.val at HSB
  clear b10
  have d0 := (XB.out.later B5t.out).c0
  have d1 := (XB.out.later B5t.out).c1
  have d2 := (XB.out.later B5t.out).c2
  have d3 := (XB.out.later B5t.out).c3
  have d4 := (XB.out.later B5t.out).c4
  have d5 := (XB.out.later B5t.out).c5
  have d6 := (XB.out.later B5t.out).c6
  have g0 := (X2.out.later B2t.out).c0
  have g1 := (X2.out.later B2t.out).c1
  have g2 := (X2.out.later B2t.out).c2
  have g3 := (X2.out.later B2t.out).c3
  have g4 := (X2.out.later B2t.out).c4
  have g5 := (X2.out.later B2t.out).c5
  have g6 := (X2.out.later B2t.out).c6
  go_wp2_with fail
  refine (Tree.num _ _).mono ?_
  rintro e wx ⟨rfl, hv⟩
  subst wx
  go_wp2_with fail
  refine HSB.out.mono ?_
  rintro e w11 ⟨rfl, b11⟩
  have BW11 : Hid (Below w.heap.size w w11) := bel2 BWt.out b11
  clear b11 d0 d1 d2 d3 d4 d5 d6 g0 g1 g2 g3 g4 g5 g6
  go_wp2_with fail
  refine (awakeR w11 (hw.out.later BW11.out)).mono ?_
  rintro e w12 ⟨rfl, bb⟩
  go_wp2
  go_ret
  exact ⟨rfl, bel2 BW11.out bb⟩

set_option maxRecDepth 100000 in
theorem lifted (os : Os) (started : os.Started) (H : Type) (enc : TypeId × Value → H) :
    ReturnsInHanded {} Tryz.checked os 3 .any (fun w args => (Rows.readsSpec.pre enc Tryz.prog Tryz.f3 [] false w args ∧ laidMetH Tryz.prog Val.laidR w) ∧ sizedMet enc Tryz.prog Tryz.f3 (OpenSpec.ofChange Rows.readsSpec) false w args) (Rows.readsSpec.post enc Tryz.prog Tryz.f3 false true false false) := by
  refine returnsInHanded_of_change_and (C := Tryz.checked) (X := fun w _ => laidMetH Tryz.prog Val.laidR w) (fun _ _ _ hh h => h.of_heap hh) own started (by kernel_rfl) Tryz.func3
    (ChangeSpec.witness_shaped (enc := enc) (C := Tryz.checked) (os := os) (X := fun w _ => laidMetH Tryz.prog Val.laidR w) false (World.doorLaid Tryz.prog 400 os) #[.agg #[.slice none 0 0], .int .i64 0, .agg #[.int .i64 0, .int .i64 0, .int .i64 0, .string ByteArray.empty, .string ByteArray.empty, .string ByteArray.empty, .slice none 0 0], .int .i64 0] 8 rfl (World.shaped_of_RefB (by kernel_rfl) (by kernel_rfl)) (by kernel_rfl) (by kernel_rfl) (by kernel_rfl) (Val.doorR_met os _)) ?_
  intro W base args ds gs before hval0 hW hcnd hsz0 hL _
  have hsz : (DataW.weightsEach Tryz.prog (Tryz.f3.params.toList ++ Rows.readsSpec.plain.varTypes Tryz.prog) (ds ++ gs)).all (· ≤ reachBytes) = true := hsz0
  clear hsz0
  have hval : ∀ (j : Nat) t v, Tryz.f3.params[j]? = some t → args[j]? = some v → Value.okWide Tryz.prog W .any base t v := hval0
  have hW' := hW
  obtain ⟨p, q, hA0, hV, rfl, hfz, hnd⟩ := hW
  have hA : DataW.TrodAll enc Tryz.prog W 0 (fun _ => true) true Tryz.f3.params.toList args.toList ds p := hA0
  rw [Tryz.params3] at hA hval hsz
  obtain ⟨v0, vs0, d0, ds0, p0, q0, hargs, rfl, rfl, h0, r0⟩ := trodAll_cons hA
  obtain ⟨v1, vs1, d1, ds1, p1, q1, rfl, rfl, rfl, h1, r1⟩ := trodAll_cons r0
  obtain ⟨v2, vs2, d2, ds2, p2, q2, rfl, rfl, rfl, h2, r2⟩ := trodAll_cons r1
  obtain ⟨v3, vs3, d3, ds3, p3, q3, rfl, rfl, rfl, h3, r3⟩ := trodAll_cons r2
  obtain ⟨rfl, rfl, rfl⟩ := trodAll_nil r3
  obtain rfl : args = #[v0, v1, v2, v3] := by cases args; simp_all
  obtain ⟨rfl, rfl⟩ := trodVars_none hV
  have k0 := h0
  have lt0 : ∀ x ∈ p0, x.block < W.heap.size := by obtain ⟨m, hm⟩ := k0; exact DataW.trod_lt m _ _ _ hm
  obtain ⟨a0, len0, cap0, z0, rfl, hp0, y0, dy0, hy0⟩ := Tree.open_type Tryz.underlying24 rfl rfl (by kernel_rfl) (by kernel_rfl) Tryz.underlying22 Tryz.underlying50 (by kernel_rfl) rfl rfl rfl (by kernel_rfl) (by kernel_rfl) (by kernel_rfl) Tryz.underlying3 Tryz.underlying3 Tryz.underlying4 (hval 0 24 v0 rfl rfl) h0
  have hs0 : cap0 * 24 ≤ 140737488351232 := by
    have := Tree.sized_type hsz (j := 0) rfl (congrArg some dy0) Tryz.underlying24 Tryz.underlying22 hy0
    rw [show Tryz.prog.bytesOf 50 = 24 from by kernel_rfl] at this
    unfold reachBytes at this
    omega
  obtain ⟨a1, rfl, rfl, rfl, hp1⟩ := open_int Tryz.underlying3 (hval 1 3 v1 rfl rfl) h1
  have k2 := h2
  have lt2 : ∀ x ∈ p2, x.block < W.heap.size := by obtain ⟨m, hm⟩ := k2; exact DataW.trod_lt m _ _ _ hm
  obtain ⟨fq2, a2, oq2, cq2, rfl, hp2⟩ := Arr.open_array (P := Tryz.prog) (T := 27) (S := 25) ⟨Tryz.underlying27, Tryz.underlying25, rfl, (by kernel_rfl), rfl, rfl, rfl, rfl, rfl, rfl, rfl, (by kernel_rfl), (by kernel_rfl), (by kernel_rfl), (by kernel_rfl), (by kernel_rfl), (by kernel_rfl), (by kernel_rfl), Tryz.underlying3, Tryz.underlying3, Tryz.underlying3, Tryz.underlying9, Tryz.underlying9, Tryz.underlying9⟩ (hval 2 27 v2 rfl rfl) h2 (Arr.sized_array hsz (j := 2) rfl rfl)
  rw [show Tryz.prog.bytesOf 27 = 96 from by kernel_rfl] at hp2
  obtain ⟨a3, rfl, rfl, rfl, hp3⟩ := open_int Tryz.underlying3 (hval 3 3 v3 rfl rfl) h3
  clear hA0 hval0
  refine (walk a0 len0 cap0 z0 a1 fq2 a2 oq2 cq2 a3 W (Val.homeR_of hL) hp0 hs0 hp1 hp2 hp3).mono fun e W' ⟨he, bel⟩ => ?_
  subst he
  exact ⟨_, rfl, _, _, _, [], _, [], hW', trodAll_mk1 (shut_bool Tryz.underlying4 _), (trodAll_cons_mk (Below.trod laidOut (by kernel_rfl) (of_decide_eq_true (by kernel_rfl)) k0 bel lt0) (trodAll_cons_mk (shut_int Tryz.underlying3 hp1) (trodAll_cons_mk (Below.trod laidOut (by kernel_rfl) (of_decide_eq_true (by kernel_rfl)) k2 bel lt2) (trodAll_cons_mk (shut_int Tryz.underlying3 hp3) trodAll_mk0)))), rfl, bel.frame _, fun h => by cases h⟩

theorem over : Rows.readsRow.holds Tryz.pinned (OpenSpec.ofChange Rows.readsSpec) :=
  OpenClaim.holds_of_wide 3 Tryz.f3 rfl rfl rfl rfl rfl rfl rfl ⟨rfl, rfl, rfl, rfl, rfl⟩ rfl rfl rfl rfl rfl (by kernel_rfl) Tryz.func3 (by kernel_rfl)
    (of_decide_eq_true (by kernel_rfl)) (by unfold Func.isWrapper; first | (rw [if_pos (by decide +kernel)]; kernel_rfl) | (rw [if_neg (by decide +kernel)]; exact ⟨rfl, rfl⟩))
    (fun os started H enc _ => lifted os started H enc)

end Go.Proofs.YthbjeedmhgnnaaaGreatDoor.reads
namespace Go.Proofs.YthbjeedmhgnnaaaGreatDoor
theorem reads_holds : Rows.ReadsCardSaid :=
  Claim7.holds_tied_plain_at .later [] [.data, .data, .data] true (true, "ede7692ed42ede84ee1f6f7d68d929b174eb1c55be7630c6b81b25a3e86c5bfe") true
    reads.over (fun _ h => by cases h) (by kernel_rfl) (fun _ h => by cases h) reads_row_tie rfl ⟨rfl, rfl⟩ (by kernel_rfl) rfl
    (fun f fn hf hfn => by
      obtain rfl : f = 3 := Option.some.inj ((show Tryz.prog.funcNamed Rows.readsRow.func = some 3 by kernel_rfl).symm.trans hf) |>.symm
      obtain rfl : fn = Tryz.f3 := (Option.some.inj (Tryz.func3.symm.trans hfn)).symm
      exact ⟨by kernel_rfl, fun j t ht => by
        rw [Tryz.params3] at ht
        have hm : t ∈ [24, 3, 27, 3] := by simpa using Array.mem_of_getElem? ht
        have hall : ([24, 3, 27, 3].all fun u => !Tryz.prog.wantsStandIn u) = true := by kernel_rfl
        exact (show Tryz.prog.wantsStandIn t = false by simpa using List.all_eq_true.1 hall t hm)⟩)
    (by kernel_rfl)
#print axioms reads_holds
end Go.Proofs.YthbjeedmhgnnaaaGreatDoor
