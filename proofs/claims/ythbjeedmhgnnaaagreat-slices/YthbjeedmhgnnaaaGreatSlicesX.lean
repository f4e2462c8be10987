/-
  Slices: the program's slice is the document's, for every type, node, array and range; what was handed in stays.
-/
import Derived.Test.YthbjeedmhgnnaaaGreatRows
import Derived.WalkKit
import Derived.ProofKit
import Derived.OpenShut
import Derived.ShutString
import Derived.ChangeOld
import Derived.Below
import Derived.SizedLaws
import Derived.Deep.QuietTactic
import Derived.WalkSmall
import Derived.BigQuiet
import Derived.Deep.RegionWith
import Derived.OwnWalk
import Derived.RegionTactic
import Derived.ChangeAlike
import Derived.Deep.CutBlock
import Derived.Maps.AppendAt
import Derived.OneCell
import Derived.Test.YthbjeedmhgnnaaaGreatB01
import Derived.Test.YthbjeedmhgnnaaaGreatB02
import Derived.Test.YthbjeedmhgnnaaaGreatB09
import Derived.Test.YthbjeedmhgnnaaaGreatB13
import Derived.Test.YthbjeedmhgnnaaaGreatB22
import Derived.Test.YthbjeedmhgnnaaaGreatB23
import Derived.Test.YthbjeedmhgnnaaaGreatB19
import Derived.Test.YthbjeedmhgnnaaaGreatB15
import Derived.Test.YthbjeedmhgnnaaaGreatB14
namespace Go.Proofs.YthbjeedmhgnnaaaGreat.slices
open Go.ChangeShapes Go.WideShapes Go.ChangeAt Go.RowKit
open Go.ChangeMaps (open_string shut_string)
set_option linter.unusedVariables false

theorem own : ownKnob Tryz.prog.godebug = none := by kernel_rfl
theorem laidOut : laidOutB Tryz.prog = true := by kernel_rfl

open Tree Arr
theorem and10 (x : Int) : ∃ d : Nat, bits .and .i64 x 1023 = (d : Int) ∧ d < 1024 := ⟨(x % 1024).toNat, by rw [BitP.and10]; omega, by omega⟩
/-- A part's box, written over by the whole's numbers. -/
theorem back_box {w : World} {g : Nat} {a : Arr.Arr} {i j : Nat} {o : Option Addr} {c : Nat} (h : Bx w g (cutA a i j) o c) :
    ∃ w', (w.setCell ⟨g, 1, none⟩ (.int .i64 a.offset)).setCell ⟨g, 2, none⟩ (.int .i64 a.length) = w' ∧ Bx w' g a o c ∧ (∀ b, b ≠ g → w'.heap[b]? = w.heap[b]?) ∧ (∀ B, B ≤ g → Below B w w') := by
  refine ⟨_, rfl, ⟨?_⟩, fun b hb => ?_, fun B hB => ?_⟩
  · rw [blk_set (blk_set h.blk 1 _) 2 _]
    rfl
  · have q := fun (w : World) (j : Nat) (u : Value) => Below.heap_setCell w ⟨g, j, none⟩ u b hb
    rw [q, q]
  · exact ((Below.refl _ _).setCell hB _).setCell hB _
theorem uncut {B : Nat} {w : World} {f : Nat} {a : Arr.Arr} {o : Option Addr} {c : Nat} {i l : Nat} {ok : Nat → Prop} (h : HoldsO B w (f + 1) ok ((cutA a i l).cells o c) (cutA a i l)) (hk : a.ok B) : HoldsO B w (f + 1) ok (a.cells o c) a := by
  obtain ⟨o2, c2, e, _, h3, h4, h5⟩ := h
  have eo : o = o2 ∧ c = c2 := by
    unfold Arr.cells at e
    simp only [List.cons.injEq, Value.slice.injEq, and_true, true_and] at e
    exact e
  obtain ⟨rfl, rfl⟩ := eo
  exact ⟨o, c, rfl, hk, h3, h4, h5⟩
theorem cut_all {a : Arr.Arr} (h : 0 ≤ a.length) : cutA a 0 a.length.toNat = a := by
  cases a with
  | mk l o n v e d k =>
    have h' : 0 ≤ n := h
    unfold cutA
    simp only [Int.toNat_of_nonneg h', Int.natCast_zero, Int.add_zero]
theorem cut_cut (a : Arr.Arr) (i k j l : Nat) : cutA (cutA a i k) j l = cutA a (i + j) l := by
  unfold cutA
  simp only [Int.natCast_add, Int.add_assoc]
/-- Spoiling what lies behind a world turns nothing of it. -/
theorem spd_below {n0 : Nat} {w5 w w' : World} (h : Spd (fun b => n0 ≤ b) w w') (hn : n0 = w5.heap.size) (hb : Below w5.heap.size w5 w) : Below w5.heap.size w5 w' := h.kept.down hb (fun k hk => by omega)
set_option maxRecDepth 20000 in
set_option maxHeartbeats 4000000 in
theorem walk (a0 : Option Addr) (len0 cap0 : Nat) (z0 : List Tree.Nd) (a1 : Int) (fq2 : Nat) (a2 : Arr.Arr) (oq2 : Option Addr) (cq2 : Nat) (a3 : Int) (a4 : Int) (w : World) (hp0 : Tree.IsNodes w a0 len0 cap0 z0) (hs0 : cap0 * 24 ≤ 140737488351232) (hp1 : (Lit.int .i64 a1).wf = true) (hp2 : Hid (Arr.HoldsF 140737488351232 96 w (fq2 + 1) (a2.cells oq2 cq2) a2)) (hp3 : (Lit.int .i64 a3).wf = true) (hp4 : (Lit.int .i64 a4).wf = true) :
    Calls Tryz.prog 4 #[.agg #[.slice a0 len0 cap0], .int .i64 a1, a2.val oq2 cq2, .int .i64 a3, .int .i64 a4] w fun e w' => e = .returned (.bool true) ∧ Below w.heap.size w w' := by
  obtain ⟨ns, rfl, hT, hlc, hco⟩ := isT_of hp0
  have HT : Hid (IsT w a0 ns) := hT
  obtain ⟨w1, e1, s1, c1, b1⟩ := boxed w (.slice a0 ns.length cap0) 27
  obtain ⟨w2, e2, x2, b2, z2⟩ := box7 w1 a2 oq2 cq2
  have HC2 : Hid (w2.cell? ⟨w.heap.size, 0, none⟩ = some (.slice a0 ns.length cap0)) := cell_later b2 c1
  have X2 : Hid (Bx w2 w1.heap.size a2 oq2 cq2) := x2
  have B2 : Hid (Below w.heap.size w w2) := bel2 b1 b2
  have HH : Hid (HoldsF 140737488351232 96 w (fq2 + 1) (a2.cells oq2 cq2) a2) := hp2
  have HZ : Hid (w.heap.size < w1.heap.size ∧ w1.heap.size < w2.heap.size) := ⟨s1, z2⟩
  clear hp0 hlc hco hT c1 b1 b2 x2 s1 z2 hp2
  have HCP : Hid (∀ v, Below w.heap.size w v → Calls Tryz.prog 12 #[a2.val oq2 cq2] v fun r w' => ∃ o' cap', r = .returned (a2.val o' cap') ∧ HoldsO 140737488351232 w' (fq2 + 1) (fun b => v.heap.size ≤ b) (a2.cells o' cap') a2 ∧ Below v.heap.size v w') := fun v hv => Arr.copyA 140737488351232 (by decide) (fq2 + 1) a2 oq2 cq2 v (HH.out.later hv)
  have HSP : Hid (∀ v o c, Below w.heap.size w v → HoldsF (upB 140737488351232) 96 v (fq2 + 1) (a2.cells o c) a2 → Calls Tryz.prog 15 #[.agg #[.slice a0 ns.length cap0], .int .i64 a1, a2.val o c, .int .i64 a3, .int .i64 a4] v (SlQ (upB 140737488351232) fq2 ns a1 a2 a3 a4 v)) := fun v o c hv h => sliceP _ fq2 ns a0 cap0 a1 a2 o c a3 a4 hp3 hp4 v (HT.out.later hv) h
  have HSR : Hid (∀ v, Below w.heap.size w v → Calls Tryz.prog 16 #[.agg #[.slice a0 ns.length cap0], .int .i64 a1, a2.val oq2 cq2, .int .i64 a3, .int .i64 a4] v (SlQ (upB 140737488351232) fq2 ns a1 a2 a3 a4 v)) := fun v hv => sliceR _ fq2 ns a0 cap0 a1 a2 oq2 cq2 a3 a4 hp3 hp4 v (HT.out.later hv) (HoldsF.up (by unfold upB; omega) (HH.out.later hv))
  unfold SlQ at HSP HSR
  generalize slA ns a1 (fq2 + 1) a2 a3 a4 = SA at *
  generalize slE ns a1 (fq2 + 1) a2 a3 a4 = SE at *
  unfold Arr.val at HCP HSP HSR ⊢
  have d0 := X2.out.c0
  have d1 := X2.out.c1
  have d2 := X2.out.c2
  have d3 := X2.out.c3
  have d4 := X2.out.c4
  have d5 := X2.out.c5
  have d6 := X2.out.c6
  go_enter Tryz.func4, Tryz.ntmps4
  go_wp2_with fail
  refine (HCP.out w2 B2.out).mono ?_
  rintro e w3 ⟨o3, c3, rfl, hh3, b3⟩
  have HO3 : Hid (HoldsO 140737488351232 w3 (fq2 + 1) (fun b => w2.heap.size ≤ b) (a2.cells o3 c3) a2) := hh3
  have B3 : Hid (Below w2.heap.size w2 w3) := b3
  clear hh3 b3 e1 e2 d0 d1 d2 d3 d4 d5 d6
  obtain ⟨wal, eal', xal, bal, zal⟩ := box7 w3 nil none 0
  have eal : w3.alloc (.cells #[.int .i64 0, .int .i64 0, .int .i64 0, .string ⟨#[]⟩, .string ⟨#[]⟩, .string ⟨#[]⟩, .slice none 0 0] 30) = wal := eal'
  have m0 := xal.c0
  have m1 := xal.c1
  have m2 := xal.c2
  have m3 := xal.c3
  have m4 := xal.c4
  have m5 := xal.c5
  have m6 := xal.c6
  have f0 := xal.fz 0
  have f1 := xal.fz 1
  have f2 := xal.fz 2
  have f3 := xal.fz 3
  have f4 := xal.fz 4
  have f5 := xal.fz 5
  have f6 := xal.fz 6
  obtain ⟨w5, efl, xfl, hfl, bfl⟩ := set7 xal a2 o3 c3
  have XB : Hid (Bx w5 w3.heap.size a2 o3 c3) := xfl
  have B35 : Hid (Below w3.heap.size w3 w5) := bal.trans (bfl _ (Nat.le_refl _))
  unfold nil at m0 m1 m2 m3 m4 m5 m6
  clear eal' xal bal zal xfl hfl bfl
  go_upto_region 2 with fail
  try rw [efl]
  clear efl eal m0 m1 m2 m3 m4 m5 m6 f0 f1 f2 f3 f4 f5 f6
  have B25 : Hid (Below w2.heap.size w2 w5) := bel2 B3.out B35.out
  have B5 : Hid (Below w.heap.size w w5) := bel2 B2.out B25.out
  have HO5 : Hid (HoldsO 140737488351232 w5 (fq2 + 1) (fun b => b < w3.heap.size) (a2.cells o3 c3) a2) := HO3.out.lt.stays (fun b hb => B35.out.block b hb.2) (fun b hb => hb.2)
  have c5 := cell_later B25.out HC2.out
  have d0 := XB.out.c0
  have d1 := XB.out.c1
  have d2 := XB.out.c2
  have d3 := XB.out.c3
  have d4 := XB.out.c4
  have d5 := XB.out.c5
  have d6 := XB.out.c6
  go_wp2_with fail
  refine (HSP.out w5 o3 c3 B5.out HO5.out.holds).mono ?_
  rintro e w6 ⟨o6, c6, rfl, hh6, b6⟩
  have HO6 : Hid (HoldsO (upB 140737488351232) w6 (fq2 + 1) (fun b => w5.heap.size ≤ b) (SA.cells o6 c6) SA) := hh6
  have B56 : Hid (Below w5.heap.size w5 w6) := b6
  clear hh6 b6 c5 d0 d1 d2 d3 d4 d5 d6
  obtain ⟨wal, eal', xal, bal, zal⟩ := box7 w6 nil none 0
  have eal : w6.alloc (.cells #[.int .i64 0, .int .i64 0, .int .i64 0, .string ⟨#[]⟩, .string ⟨#[]⟩, .string ⟨#[]⟩, .slice none 0 0] 30) = wal := eal'
  have m0 := xal.c0
  have m1 := xal.c1
  have m2 := xal.c2
  have m3 := xal.c3
  have m4 := xal.c4
  have m5 := xal.c5
  have m6 := xal.c6
  have f0 := xal.fz 0
  have f1 := xal.fz 1
  have f2 := xal.fz 2
  have f3 := xal.fz 3
  have f4 := xal.fz 4
  have f5 := xal.fz 5
  have f6 := xal.fz 6
  obtain ⟨w7, efl, xfl, hfl, bfl⟩ := set7 xal SA o6 c6
  have XX : Hid (Bx w7 w6.heap.size SA o6 c6) := xfl
  have B67 : Hid (Below w6.heap.size w6 w7) := bal.trans (bfl _ (Nat.le_refl _))
  unfold nil at m0 m1 m2 m3 m4 m5 m6
  clear eal' xal bal zal xfl hfl bfl
  go_upto_region 3 with fail
  try rw [efl]
  clear efl eal m0 m1 m2 m3 m4 m5 m6 f0 f1 f2 f3 f4 f5 f6
  have B57 : Hid (Below w5.heap.size w5 w7) := bel2 B56.out B67.out
  have B27 : Hid (Below w2.heap.size w2 w7) := bel2 B25.out B57.out
  have c7 := cell_later B27.out HC2.out
  have XA7 : Hid (Bx w7 w1.heap.size a2 oq2 cq2) := X2.out.later B27.out
  have d0 := XA7.out.c0
  have d1 := XA7.out.c1
  have d2 := XA7.out.c2
  have d3 := XA7.out.c3
  have d4 := XA7.out.c4
  have d5 := XA7.out.c5
  have d6 := XA7.out.c6
  go_wp2_with fail
  refine (HSR.out w7 (bel2 B2.out B27.out)).mono ?_
  rintro e w8 ⟨o8, c8, rfl, hh8, b8⟩
  have HO8 : Hid (HoldsO (upB 140737488351232) w8 (fq2 + 1) (fun b => w7.heap.size ≤ b) (SA.cells o8 c8) SA) := hh8
  have B78 : Hid (Below w7.heap.size w7 w8) := b8
  clear hh8 b8 c7 d0 d1 d2 d3 d4 d5 d6
  obtain ⟨wal, eal', xal, bal, zal⟩ := box7 w8 nil none 0
  have eal : w8.alloc (.cells #[.int .i64 0, .int .i64 0, .int .i64 0, .string ⟨#[]⟩, .string ⟨#[]⟩, .string ⟨#[]⟩, .slice none 0 0] 30) = wal := eal'
  have m0 := xal.c0
  have m1 := xal.c1
  have m2 := xal.c2
  have m3 := xal.c3
  have m4 := xal.c4
  have m5 := xal.c5
  have m6 := xal.c6
  have f0 := xal.fz 0
  have f1 := xal.fz 1
  have f2 := xal.fz 2
  have f3 := xal.fz 3
  have f4 := xal.fz 4
  have f5 := xal.fz 5
  have f6 := xal.fz 6
  obtain ⟨w9, efl, xfl, hfl, bfl⟩ := set7 xal SA o8 c8
  have XY : Hid (Bx w9 w8.heap.size SA o8 c8) := xfl
  have B89 : Hid (Below w8.heap.size w8 w9) := bal.trans (bfl _ (Nat.le_refl _))
  unfold nil at m0 m1 m2 m3 m4 m5 m6
  clear eal' xal bal zal xfl hfl bfl
  go_upto_region 4 with fail
  try rw [efl]
  clear efl eal m0 m1 m2 m3 m4 m5 m6 f0 f1 f2 f3 f4 f5 f6
  have B79 : Hid (Below w7.heap.size w7 w9) := bel2 B78.out B89.out
  have B59 : Hid (Below w5.heap.size w5 w9) := bel2 B57.out B79.out
  have B69 : Hid (Below w6.heap.size w6 w9) := bel2 B67.out B79.out
  have XX9 : Hid (Bx w9 w6.heap.size SA o6 c6) := XX.out.later B79.out
  have HX9 : Hid (HoldsO (upB 140737488351232) w9 (fq2 + 1) (fun b => w5.heap.size ≤ b) (SA.cells o6 c6) SA) := HO6.out.lt.stays (fun b hb => B69.out.block b hb.2) (fun b hb => hb.1)
  have HY9 : Hid (HoldsO (upB 140737488351232) w9 (fq2 + 1) (fun b => w7.heap.size ≤ b) (SA.cells o8 c8) SA) := HO8.out.lt.stays (fun b hb => B89.out.block b hb.2) (fun b hb => hb.1)
  have HSS : Hid (Calls Tryz.prog 17 #[SA.val o6 c6, SA.val o8 c8] w9 fun r w' => r = .returned (.bool true) ∧ Below w9.heap.size w9 w') := sameA _ 96 (fq2 + 1) SA o6 c6 o8 c8 w9 HX9.out.holds HY9.out.holds
  unfold Arr.val at HSS
  have d0 := XX9.out.c0
  have d1 := XX9.out.c1
  have d2 := XX9.out.c2
  have d3 := XX9.out.c3
  have d4 := XX9.out.c4
  have d5 := XX9.out.c5
  have d6 := XX9.out.c6
  have g0 := XY.out.c0
  have g1 := XY.out.c1
  have g2 := XY.out.c2
  have g3 := XY.out.c3
  have g4 := XY.out.c4
  have g5 := XY.out.c5
  have g6 := XY.out.c6
  have hse : (SE != SE) = false := by rw [bne_eq_false_iff_eq]
  go_wp2_with fail
  refine HSS.out.mono ?_
  rintro e w10 ⟨rfl, b10⟩
  have B9t : Hid (Below w9.heap.size w9 w10) := b10
  have B5t : Hid (Below w5.heap.size w5 w10) := bel2 B59.out b10
  have HXt : Hid (HoldsO (upB 140737488351232) w10 (fq2 + 1) (fun b => w5.heap.size ≤ b) (SA.cells o6 c6) SA) := HX9.out.lt.stays (fun b hb => B9t.out.block b hb.2) (fun b hb => hb.1)
  have XXt : Hid (Bx w10 w6.heap.size SA o6 c6) := XX9.out.later b10
  clear b10 d0 d1 d2 d3 d4 d5 d6 g0 g1 g2 g3 g4 g5 g6
  go_wp2_with fail
  refine (Tree.num _ _).mono ?_
  rintro e wx ⟨rfl, hv⟩
  subst wx
  have HSPO : Hid (Calls Tryz.prog 18 #[SA.val o6 c6] w10 fun r w' => r = .returned (.tuple #[]) ∧ Spd (fun b => w5.heap.size ≤ b) w10 w') := spoilA _ (fq2 + 1) SA o6 c6 _ w10 HXt.out
  unfold Arr.val at HSPO
  have d0 := XXt.out.c0
  have d1 := XXt.out.c1
  have d2 := XXt.out.c2
  have d3 := XXt.out.c3
  have d4 := XXt.out.c4
  have d5 := XXt.out.c5
  have d6 := XXt.out.c6
  go_wp2_with fail
  refine HSPO.out.mono ?_
  rintro e w11 ⟨rfl, hspd⟩
  have B11 : Hid (Below w5.heap.size w5 w11) := spd_below hspd rfl B5t.out
  have BW11 : Hid (Below w.heap.size w w11) := bel2 B5.out B11.out
  have XB11 : Hid (Bx w11 w3.heap.size a2 o3 c3) := XB.out.later B11.out
  have XA11 : Hid (Bx w11 w1.heap.size a2 oq2 cq2) := X2.out.later (bel2 B25.out B11.out)
  have HSB : Hid (Calls Tryz.prog 17 #[a2.val o3 c3, a2.val oq2 cq2] w11 fun r w' => r = .returned (.bool true) ∧ Below w11.heap.size w11 w') := sameA _ 96 (fq2 + 1) a2 o3 c3 oq2 cq2 w11 (HO5.out.holds.later B11.out) (HoldsF.up (by unfold upB; omega) (HH.out.later BW11.out))
  unfold Arr.val at HSB
  clear hspd d0 d1 d2 d3 d4 d5 d6 hse
  have d0 := XB11.out.c0
  have d1 := XB11.out.c1
  have d2 := XB11.out.c2
  have d3 := XB11.out.c3
  have d4 := XB11.out.c4
  have d5 := XB11.out.c5
  have d6 := XB11.out.c6
  have g0 := XA11.out.c0
  have g1 := XA11.out.c1
  have g2 := XA11.out.c2
  have g3 := XA11.out.c3
  have g4 := XA11.out.c4
  have g5 := XA11.out.c5
  have g6 := XA11.out.c6
  go_wp2_with fail
  refine HSB.out.mono ?_
  rintro e w12 ⟨rfl, b12⟩
  have BW12 : Hid (Below w.heap.size w w12) := bel2 BW11.out b12
  clear b12 d0 d1 d2 d3 d4 d5 d6 g0 g1 g2 g3 g4 g5 g6
  go_wp2_with fail
  refine (awakeS w12).mono ?_
  rintro e w13 ⟨rfl, b13⟩
  go_wp2
  go_ret
  exact ⟨rfl, bel2 BW12.out b13⟩

set_option maxRecDepth 100000 in
theorem lifted (os : Os) (started : os.Started) (H : Type) (enc : TypeId × Value → H) :
    ReturnsInHanded {} Tryz.checked os 4 .any (Rows.slicesSpec.pre6 enc Tryz.prog Tryz.f4 Rows.slicesRow.domain false) (Rows.slicesSpec.post enc Tryz.prog Tryz.f4 false true false false) := by
  refine returnsInHanded_of_change_sized (C := Tryz.checked) own started (by kernel_rfl) Tryz.func4
    (ChangeSpec.witness6 (enc := enc) (C := Tryz.checked) false ⟨#[], #[.agg #[.slice none 0 0], .int .i64 0, .agg #[.int .i64 0, .int .i64 0, .int .i64 0, .string ByteArray.empty, .string ByteArray.empty, .string ByteArray.empty, .slice none 0 0], .int .i64 0, .int .i64 0], []⟩ 8 (by kernel_rfl) (by kernel_rfl) (by kernel_rfl) (by kernel_rfl)) ?_
  intro W base args ds gs before hval0 hW hcnd hsz0 _
  have hsz : (DataW.weightsEach Tryz.prog (Tryz.f4.params.toList ++ Rows.slicesSpec.plain.varTypes Tryz.prog) (ds ++ gs)).all (· ≤ reachBytes) = true := hsz0
  clear hsz0
  have hval : ∀ (j : Nat) t v, Tryz.f4.params[j]? = some t → args[j]? = some v → Value.okWide Tryz.prog W .any base t v := hval0
  have hW' := hW
  obtain ⟨p, q, hA0, hV, rfl, hfz, hnd⟩ := hW
  have hA : DataW.TrodAll enc Tryz.prog W 0 (fun _ => true) true Tryz.f4.params.toList args.toList ds p := hA0
  rw [Tryz.params4] at hA hval hsz
  obtain ⟨v0, vs0, d0, ds0, p0, q0, hargs, rfl, rfl, h0, r0⟩ := trodAll_cons hA
  obtain ⟨v1, vs1, d1, ds1, p1, q1, rfl, rfl, rfl, h1, r1⟩ := trodAll_cons r0
  obtain ⟨v2, vs2, d2, ds2, p2, q2, rfl, rfl, rfl, h2, r2⟩ := trodAll_cons r1
  obtain ⟨v3, vs3, d3, ds3, p3, q3, rfl, rfl, rfl, h3, r3⟩ := trodAll_cons r2
  obtain ⟨v4, vs4, d4, ds4, p4, q4, rfl, rfl, rfl, h4, r4⟩ := trodAll_cons r3
  obtain ⟨rfl, rfl, rfl⟩ := trodAll_nil r4
  obtain rfl : args = #[v0, v1, v2, v3, v4] := by cases args; simp_all
  obtain ⟨rfl, rfl⟩ := trodVars_none hV
  have k0 := h0
  have lt0 : ∀ x ∈ p0, x.block < W.heap.size := by obtain ⟨m, hm⟩ := k0; exact DataW.trod_lt m _ _ _ hm
  obtain ⟨a0, len0, cap0, z0, rfl, hp0, y0, dy0, hy0⟩ := Tree.open_type Tryz.underlying27 rfl rfl (by kernel_rfl) (by kernel_rfl) Tryz.underlying25 Tryz.underlying24 (by kernel_rfl) rfl rfl rfl (by kernel_rfl) (by kernel_rfl) (by kernel_rfl) Tryz.underlying3 Tryz.underlying3 Tryz.underlying4 (hval 0 27 v0 rfl rfl) h0
  have hs0 : cap0 * 24 ≤ 140737488351232 := by
    have := Tree.sized_type hsz (j := 0) rfl (congrArg some dy0) Tryz.underlying27 Tryz.underlying25 hy0
    rw [show Tryz.prog.bytesOf 24 = 24 from by kernel_rfl] at this
    unfold reachBytes at this
    omega
  obtain ⟨a1, rfl, rfl, rfl, hp1⟩ := open_int Tryz.underlying3 (hval 1 3 v1 rfl rfl) h1
  have k2 := h2
  have lt2 : ∀ x ∈ p2, x.block < W.heap.size := by obtain ⟨m, hm⟩ := k2; exact DataW.trod_lt m _ _ _ hm
  obtain ⟨fq2, a2, oq2, cq2, rfl, hp2⟩ := Arr.open_array (P := Tryz.prog) (T := 30) (S := 28) ⟨Tryz.underlying30, Tryz.underlying28, rfl, (by kernel_rfl), rfl, rfl, rfl, rfl, rfl, rfl, rfl, (by kernel_rfl), (by kernel_rfl), (by kernel_rfl), (by kernel_rfl), (by kernel_rfl), (by kernel_rfl), (by kernel_rfl), Tryz.underlying3, Tryz.underlying3, Tryz.underlying3, Tryz.underlying9, Tryz.underlying9, Tryz.underlying9⟩ (hval 2 30 v2 rfl rfl) h2 (Arr.sized_array hsz (j := 2) rfl rfl)
  rw [show Tryz.prog.bytesOf 30 = 96 from by kernel_rfl] at hp2
  obtain ⟨a3, rfl, rfl, rfl, hp3⟩ := open_int Tryz.underlying3 (hval 3 3 v3 rfl rfl) h3
  obtain ⟨a4, rfl, rfl, rfl, hp4⟩ := open_int Tryz.underlying3 (hval 4 3 v4 rfl rfl) h4
  clear hA0 hval0
  refine (walk a0 len0 cap0 z0 a1 fq2 a2 oq2 cq2 a3 a4 W hp0 hs0 hp1 hp2 hp3 hp4).mono fun e W' ⟨he, bel⟩ => ?_
  subst he
  exact ⟨_, rfl, _, _, _, [], _, [], hW', trodAll_mk1 (shut_bool Tryz.underlying4 _), (trodAll_cons_mk (Below.trod laidOut (by kernel_rfl) (of_decide_eq_true (by kernel_rfl)) k0 bel lt0) (trodAll_cons_mk (shut_int Tryz.underlying3 hp1) (trodAll_cons_mk (Below.trod laidOut (by kernel_rfl) (of_decide_eq_true (by kernel_rfl)) k2 bel lt2) (trodAll_cons_mk (shut_int Tryz.underlying3 hp3) (trodAll_cons_mk (shut_int Tryz.underlying3 hp4) trodAll_mk0))))), rfl, bel.frame _, fun h => by cases h⟩

theorem over : Rows.slicesRow.holds Tryz.pinned (OpenSpec.ofChange Rows.slicesSpec) :=
  OpenClaim.holds_of_wide 4 Tryz.f4 rfl rfl rfl rfl rfl rfl rfl ⟨rfl, rfl, rfl, rfl, rfl⟩ rfl rfl rfl rfl rfl (by kernel_rfl) Tryz.func4 (by kernel_rfl)
    (of_decide_eq_true (by kernel_rfl)) (by unfold Func.isWrapper; first | (rw [if_pos (by decide +kernel)]; kernel_rfl) | (rw [if_neg (by decide +kernel)]; exact ⟨rfl, rfl⟩))
    (fun os started H enc _ => lifted os started H enc)

end Go.Proofs.YthbjeedmhgnnaaaGreat.slices
namespace Go.Proofs.YthbjeedmhgnnaaaGreat
theorem slices_holds : Rows.SlicesSaid := slices.over
#print axioms slices_holds
end Go.Proofs.YthbjeedmhgnnaaaGreat
