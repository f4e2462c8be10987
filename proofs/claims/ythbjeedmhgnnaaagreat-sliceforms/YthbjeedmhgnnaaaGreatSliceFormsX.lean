/-
  SliceForms: ranges that are none, of any array; the empty one at its end, the whole.
-/
import Derived.Test.YthbjeedmhgnnaaaGreatRows
import Derived.WalkKit
import Derived.ProofKit
import Derived.OpenShut
import Derived.ShutString
import Derived.ChangeOld
import Derived.Below
import Derived.SizedLaws
import Derived.Deep.QuietTactic
import Derived.WalkSmall
import Derived.BigQuiet
import Derived.Deep.RegionWith
import Derived.OwnWalk
import Derived.RegionTactic
import Derived.ChangeAlike
import Derived.Deep.CutBlock
import Derived.Maps.AppendAt
import Derived.OneCell
import Derived.Test.YthbjeedmhgnnaaaGreatB01
import Derived.Test.YthbjeedmhgnnaaaGreatB02
import Derived.Test.YthbjeedmhgnnaaaGreatB09
import Derived.Test.YthbjeedmhgnnaaaGreatB13
import Derived.Test.YthbjeedmhgnnaaaGreatB22
import Derived.Test.YthbjeedmhgnnaaaGreatB23
import Derived.Test.YthbjeedmhgnnaaaGreatB19
import Derived.Test.YthbjeedmhgnnaaaGreatB15
import Derived.Test.YthbjeedmhgnnaaaGreatB14
namespace Go.Proofs.YthbjeedmhgnnaaaGreat.sliceForms
open Go.ChangeShapes Go.WideShapes Go.ChangeAt Go.RowKit
open Go.ChangeMaps (open_string shut_string)
set_option linter.unusedVariables false

theorem own : ownKnob Tryz.prog.godebug = none := by kernel_rfl
theorem laidOut : laidOutB Tryz.prog = true := by kernel_rfl

open Tree Arr
theorem and10 (x : Int) : ∃ d : Nat, bits .and .i64 x 1023 = (d : Int) ∧ d < 1024 := ⟨(x % 1024).toNat, by rw [BitP.and10]; omega, by omega⟩
/-- A part's box, written over by the whole's numbers. -/
theorem back_box {w : World} {g : Nat} {a : Arr.Arr} {i j : Nat} {o : Option Addr} {c : Nat} (h : Bx w g (cutA a i j) o c) :
    ∃ w', (w.setCell ⟨g, 1, none⟩ (.int .i64 a.offset)).setCell ⟨g, 2, none⟩ (.int .i64 a.length) = w' ∧ Bx w' g a o c ∧ (∀ b, b ≠ g → w'.heap[b]? = w.heap[b]?) ∧ (∀ B, B ≤ g → Below B w w') := by
  refine ⟨_, rfl, ⟨?_⟩, fun b hb => ?_, fun B hB => ?_⟩
  · rw [blk_set (blk_set h.blk 1 _) 2 _]
    rfl
  · have q := fun (w : World) (j : Nat) (u : Value) => Below.heap_setCell w ⟨g, j, none⟩ u b hb
    rw [q, q]
  · exact ((Below.refl _ _).setCell hB _).setCell hB _
theorem uncut {B : Nat} {w : World} {f : Nat} {a : Arr.Arr} {o : Option Addr} {c : Nat} {i l : Nat} {ok : Nat → Prop} (h : HoldsO B w (f + 1) ok ((cutA a i l).cells o c) (cutA a i l)) (hk : a.ok B) : HoldsO B w (f + 1) ok (a.cells o c) a := by
  obtain ⟨o2, c2, e, _, h3, h4, h5⟩ := h
  have eo : o = o2 ∧ c = c2 := by
    unfold Arr.cells at e
    simp only [List.cons.injEq, Value.slice.injEq, and_true, true_and] at e
    exact e
  obtain ⟨rfl, rfl⟩ := eo
  exact ⟨o, c, rfl, hk, h3, h4, h5⟩
theorem cut_all {a : Arr.Arr} (h : 0 ≤ a.length) : cutA a 0 a.length.toNat = a := by
  cases a with
  | mk l o n v e d k =>
    have h' : 0 ≤ n := h
    unfold cutA
    simp only [Int.toNat_of_nonneg h', Int.natCast_zero, Int.add_zero]
theorem cut_cut (a : Arr.Arr) (i k j l : Nat) : cutA (cutA a i k) j l = cutA a (i + j) l := by
  unfold cutA
  simp only [Int.natCast_add, Int.add_assoc]
/-- Spoiling what lies behind a world turns nothing of it. -/
theorem spd_below {n0 : Nat} {w5 w w' : World} (h : Spd (fun b => n0 ≤ b) w w') (hn : n0 = w5.heap.size) (hb : Below w5.heap.size w5 w) : Below w5.heap.size w5 w' := h.kept.down hb (fun k hk => by omega)
set_option maxRecDepth 20000 in
set_option maxHeartbeats 4000000 in
theorem walk (a0 : Option Addr) (len0 cap0 : Nat) (z0 : List Tree.Nd) (a1 : Int) (fq2 : Nat) (a2 : Arr.Arr) (oq2 : Option Addr) (cq2 : Nat) (a3 : Int) (w : World) (hp0 : Tree.IsNodes w a0 len0 cap0 z0) (hs0 : cap0 * 24 ≤ 140737488351232) (hp1 : (Lit.int .i64 a1).wf = true) (hp2 : Hid (Arr.HoldsF 140737488351232 96 w (fq2 + 1) (a2.cells oq2 cq2) a2)) (hp3 : (Lit.int .i64 a3).wf = true) :
    Calls Tryz.prog 6 #[.agg #[.slice a0 len0 cap0], .int .i64 a1, a2.val oq2 cq2, .int .i64 a3] w fun e w' => e = .returned (.bool true) ∧ Below w.heap.size w w' := by
  obtain ⟨ns, rfl, hT, hlc, hco⟩ := isT_of hp0
  have HT : Hid (IsT w a0 ns) := hT
  obtain ⟨w1, e1, s1, c1, b1⟩ := boxed w (.slice a0 ns.length cap0) 27
  obtain ⟨w2, e2, x2, b2, z2⟩ := box7 w1 a2 oq2 cq2
  have HC2 : Hid (w2.cell? ⟨w.heap.size, 0, none⟩ = some (.slice a0 ns.length cap0)) := cell_later b2 c1
  have X2 : Hid (Bx w2 w1.heap.size a2 oq2 cq2) := x2
  have B2 : Hid (Below w.heap.size w w2) := bel2 b1 b2
  have HH : Hid (HoldsF 140737488351232 96 w (fq2 + 1) (a2.cells oq2 cq2) a2) := hp2
  have HZ : Hid (w.heap.size < w1.heap.size ∧ w1.heap.size < w2.heap.size) := ⟨s1, z2⟩
  clear hp0 hlc hco hT c1 b1 b2 x2 s1 z2 hp2
  have HR : Hid (∀ v, Below w.heap.size w v → Calls Tryz.prog 22 #[.agg #[.slice a0 ns.length cap0], .int .i64 a1, a2.val oq2 cq2] v fun r w' => r = .returned (.bool (mayZ ns a1 (fq2 + 1) a2)) ∧ Below v.heap.size v w') := fun v hv => refA 140737488351232 96 (fq2 + 1) ns a0 cap0 a1 a2 oq2 cq2 v (HT.out.later hv) (HH.out.later hv)
  have HZM : Hid (mayZ ns a1 (fq2 + 1) a2 = true → ∃ n : Nat, a1 = (n : Int) ∧ n < ns.length ∧ may ns = true ∧ mayF ns (fq2 + 1) n a2 = true ∧ Head ns n a2) := may_head
  have HSLE : Hid (∀ i c, slE ns a1 (fq2 + 1) a2 i c = if mayZ ns a1 (fq2 + 1) a2 = false then 1100 else if inRange a2 i c then 0 else 1101) := fun i c => rfl
  have HSP : Hid (∀ v i c, (Lit.int .i64 i).wf = true → (Lit.int .i64 c).wf = true → Below w.heap.size w v → Calls Tryz.prog 15 #[.agg #[.slice a0 ns.length cap0], .int .i64 a1, a2.val oq2 cq2, .int .i64 i, .int .i64 c] v (SlQ 140737488351232 fq2 ns a1 a2 i c v)) := fun v i c hi hc hv => sliceP _ fq2 ns a0 cap0 a1 a2 oq2 cq2 i c hi hc v (HT.out.later hv) (HH.out.later hv)
  have HNO : Hid (∀ v i c E, (Lit.int .i64 i).wf = true → (Lit.int .i64 c).wf = true → Below w.heap.size w v → slE ns a1 (fq2 + 1) a2 i c = E → E ≠ 0 → Calls Tryz.prog 15 #[.agg #[.slice a0 ns.length cap0], .int .i64 a1, a2.val oq2 cq2, .int .i64 i, .int .i64 c] v fun r w' => ∃ o' c', r = .returned (.tuple #[Arr.nil.val o' c', .int .i64 E]) ∧ Below v.heap.size v w') := fun v i c E hi hc hv hE h0 => by
    have := HSP.out v i c hi hc hv
    unfold SlQ at this
    rw [show slA ns a1 (fq2 + 1) a2 i c = Arr.nil from by unfold slA; rw [hE, if_neg h0], hE] at this
    refine this.mono ?_
    rintro e w' ⟨o', c', h1, _, h2⟩
    exact ⟨o', c', h1, h2⟩
  have hal := bounds_i64 HH.out.ok'.1.length
  obtain ⟨D, hD, hD4⟩ := and10 a3
  generalize mayZ ns a1 (fq2 + 1) a2 = M at *
  generalize hNA : Arr.nil = NA at HNO
  unfold Arr.val at HR HNO HSP ⊢
  go_enter Tryz.func6, Tryz.ntmps6
  go_wp2_with fail
  refine (awakeS w2).mono ?_
  rintro e w3 ⟨rfl, b3⟩
  have B3 : Hid (Below w.heap.size w w3) := bel2 B2.out b3
  have X3 : Hid (Bx w3 w1.heap.size a2 oq2 cq2) := X2.out.later b3
  have HC3 : Hid (w3.cell? ⟨w.heap.size, 0, none⟩ = some (.slice a0 ns.length cap0)) := cell_later b3 HC2.out
  clear b3 e1 e2 hNA
  have c3 := HC3.out
  have d0 := X3.out.c0
  have d1 := X3.out.c1
  have d2 := X3.out.c2
  have d3 := X3.out.c3
  have d4 := X3.out.c4
  have d5 := X3.out.c5
  have d6 := X3.out.c6
  go_wp2_with fail
  refine (HR.out w3 B3.out).mono ?_
  rintro e w4 ⟨rfl, b4⟩
  have B4 : Hid (Below w.heap.size w w4) := bel2 B3.out b4
  have X4 : Hid (Bx w4 w1.heap.size a2 oq2 cq2) := X3.out.later b4
  have HC4 : Hid (w4.cell? ⟨w.heap.size, 0, none⟩ = some (.slice a0 ns.length cap0)) := cell_later b4 HC3.out
  clear b4 c3 d0 d1 d2 d3 d4 d5 d6 HR hD
  cases M
  · have HE0 : Hid (∀ i c, slE ns a1 (fq2 + 1) a2 i c = 1100) := fun i c => (HSLE.out i c).trans (if_pos rfl)
    clear HZM HSLE HSP
    have cT := HC4.out
    have d0 := X4.out.c0
    have d1 := X4.out.c1
    have d2 := X4.out.c2
    have d3 := X4.out.c3
    have d4 := X4.out.c4
    have d5 := X4.out.c5
    have d6 := X4.out.c6
    go_wp2_with fail
    refine (HNO.out w4 (-(1 + (D : Int))) 0 1100 (WalkArith.wf_i64 (by omega)) (WalkArith.wf_i64 (by omega)) B4.out (HE0.out _ _) (by decide)).mono ?_
    rintro e u0 ⟨o0, c0, rfl, bb⟩
    have BU0 : Hid (Below w4.heap.size w4 u0) := bb
    clear bb cT d0 d1 d2 d3 d4 d5 d6
    obtain ⟨wal, eal', xal, bal, zal⟩ := box7 u0 nil none 0
    have eal : u0.alloc (.cells #[.int .i64 0, .int .i64 0, .int .i64 0, .string ⟨#[]⟩, .string ⟨#[]⟩, .string ⟨#[]⟩, .slice none 0 0] 30) = wal := eal'
    have m0 := xal.c0
    have m1 := xal.c1
    have m2 := xal.c2
    have m3 := xal.c3
    have m4 := xal.c4
    have m5 := xal.c5
    have m6 := xal.c6
    have f0 := xal.fz 0
    have f1 := xal.fz 1
    have f2 := xal.fz 2
    have f3 := xal.fz 3
    have f4 := xal.fz 4
    have f5 := xal.fz 5
    have f6 := xal.fz 6
    obtain ⟨t0, efl, xfl, hfl, bfl⟩ := set7 xal NA o0 c0
    have YB0 : Hid (Bx t0 u0.heap.size NA o0 c0) := xfl
    have BV0 : Hid (Below u0.heap.size u0 t0) := bal.trans (bfl _ (Nat.le_refl _))
    unfold nil at m0 m1 m2 m3 m4 m5 m6
    clear eal' xal bal zal xfl hfl bfl
    go_upto_region 8 with fail
    try rw [efl]
    clear efl eal m0 m1 m2 m3 m4 m5 m6 f0 f1 f2 f3 f4 f5 f6
    have BT0 : Hid (Below w4.heap.size w4 t0) := bel2 BU0.out BV0.out
    have Bt0 : Hid (Below w.heap.size w t0) := bel2 B4.out BT0.out
    have Xt0 : Hid (Bx t0 w1.heap.size a2 oq2 cq2) := X4.out.later BT0.out
    have Ct0 : Hid (t0.cell? ⟨w.heap.size, 0, none⟩ = some (.slice a0 ns.length cap0)) := cell_later BT0.out HC4.out
    have cT := Ct0.out
    have d0 := Xt0.out.c0
    have d1 := Xt0.out.c1
    have d2 := Xt0.out.c2
    have d3 := Xt0.out.c3
    have d4 := Xt0.out.c4
    have d5 := Xt0.out.c5
    have d6 := Xt0.out.c6
    go_wp2_with fail
    refine (HNO.out t0 0 (-(1 + (D : Int))) 1100 (WalkArith.wf_i64 (by omega)) (WalkArith.wf_i64 (by omega)) Bt0.out (HE0.out _ _) (by decide)).mono ?_
    rintro e u1 ⟨o1, c1, rfl, bb⟩
    have BU1 : Hid (Below t0.heap.size t0 u1) := bb
    clear bb cT d0 d1 d2 d3 d4 d5 d6
    obtain ⟨wal, eal', xal, bal, zal⟩ := box7 u1 nil none 0
    have eal : u1.alloc (.cells #[.int .i64 0, .int .i64 0, .int .i64 0, .string ⟨#[]⟩, .string ⟨#[]⟩, .string ⟨#[]⟩, .slice none 0 0] 30) = wal := eal'
    have m0 := xal.c0
    have m1 := xal.c1
    have m2 := xal.c2
    have m3 := xal.c3
    have m4 := xal.c4
    have m5 := xal.c5
    have m6 := xal.c6
    have f0 := xal.fz 0
    have f1 := xal.fz 1
    have f2 := xal.fz 2
    have f3 := xal.fz 3
    have f4 := xal.fz 4
    have f5 := xal.fz 5
    have f6 := xal.fz 6
    obtain ⟨t1, efl, xfl, hfl, bfl⟩ := set7 xal NA o1 c1
    have YB1 : Hid (Bx t1 u1.heap.size NA o1 c1) := xfl
    have BV1 : Hid (Below u1.heap.size u1 t1) := bal.trans (bfl _ (Nat.le_refl _))
    unfold nil at m0 m1 m2 m3 m4 m5 m6
    clear eal' xal bal zal xfl hfl bfl
    go_upto_region 9 with fail
    try rw [efl]
    clear efl eal m0 m1 m2 m3 m4 m5 m6 f0 f1 f2 f3 f4 f5 f6
    have BT1 : Hid (Below t0.heap.size t0 t1) := bel2 BU1.out BV1.out
    have Bt1 : Hid (Below w.heap.size w t1) := bel2 Bt0.out BT1.out
    have Xt1 : Hid (Bx t1 w1.heap.size a2 oq2 cq2) := Xt0.out.later BT1.out
    have Ct1 : Hid (t1.cell? ⟨w.heap.size, 0, none⟩ = some (.slice a0 ns.length cap0)) := cell_later BT1.out Ct0.out
    have cT := Ct1.out
    have d0 := Xt1.out.c0
    have d1 := Xt1.out.c1
    have d2 := Xt1.out.c2
    have d3 := Xt1.out.c3
    have d4 := Xt1.out.c4
    have d5 := Xt1.out.c5
    have d6 := Xt1.out.c6
    go_wp2_with fail
    refine (HNO.out t1 (64 + (1 + (D : Int))) 0 1100 (WalkArith.wf_i64 (by omega)) (WalkArith.wf_i64 (by omega)) Bt1.out (HE0.out _ _) (by decide)).mono ?_
    rintro e u2 ⟨o2, c2, rfl, bb⟩
    have BU2 : Hid (Below t1.heap.size t1 u2) := bb
    clear bb cT d0 d1 d2 d3 d4 d5 d6
    obtain ⟨wal, eal', xal, bal, zal⟩ := box7 u2 nil none 0
    have eal : u2.alloc (.cells #[.int .i64 0, .int .i64 0, .int .i64 0, .string ⟨#[]⟩, .string ⟨#[]⟩, .string ⟨#[]⟩, .slice none 0 0] 30) = wal := eal'
    have m0 := xal.c0
    have m1 := xal.c1
    have m2 := xal.c2
    have m3 := xal.c3
    have m4 := xal.c4
    have m5 := xal.c5
    have m6 := xal.c6
    have f0 := xal.fz 0
    have f1 := xal.fz 1
    have f2 := xal.fz 2
    have f3 := xal.fz 3
    have f4 := xal.fz 4
    have f5 := xal.fz 5
    have f6 := xal.fz 6
    obtain ⟨t2, efl, xfl, hfl, bfl⟩ := set7 xal NA o2 c2
    have YB2 : Hid (Bx t2 u2.heap.size NA o2 c2) := xfl
    have BV2 : Hid (Below u2.heap.size u2 t2) := bal.trans (bfl _ (Nat.le_refl _))
    unfold nil at m0 m1 m2 m3 m4 m5 m6
    clear eal' xal bal zal xfl hfl bfl
    go_upto_region 10 with fail
    try rw [efl]
    clear efl eal m0 m1 m2 m3 m4 m5 m6 f0 f1 f2 f3 f4 f5 f6
    have BT2 : Hid (Below t1.heap.size t1 t2) := bel2 BU2.out BV2.out
    have Bt2 : Hid (Below w.heap.size w t2) := bel2 Bt1.out BT2.out
    have Xt2 : Hid (Bx t2 w1.heap.size a2 oq2 cq2) := Xt1.out.later BT2.out
    have Ct2 : Hid (t2.cell? ⟨w.heap.size, 0, none⟩ = some (.slice a0 ns.length cap0)) := cell_later BT2.out Ct1.out
    have cT := Ct2.out
    have d0 := Xt2.out.c0
    have d1 := Xt2.out.c1
    have d2 := Xt2.out.c2
    have d3 := Xt2.out.c3
    have d4 := Xt2.out.c4
    have d5 := Xt2.out.c5
    have d6 := Xt2.out.c6
    go_wp2_with fail
    refine (HNO.out t2 0 (64 + (1 + (D : Int))) 1100 (WalkArith.wf_i64 (by omega)) (WalkArith.wf_i64 (by omega)) Bt2.out (HE0.out _ _) (by decide)).mono ?_
    rintro e u3 ⟨o3, c3, rfl, bb⟩
    have BU3 : Hid (Below t2.heap.size t2 u3) := bb
    clear bb cT d0 d1 d2 d3 d4 d5 d6
    obtain ⟨wal, eal', xal, bal, zal⟩ := box7 u3 nil none 0
    have eal : u3.alloc (.cells #[.int .i64 0, .int .i64 0, .int .i64 0, .string ⟨#[]⟩, .string ⟨#[]⟩, .string ⟨#[]⟩, .slice none 0 0] 30) = wal := eal'
    have m0 := xal.c0
    have m1 := xal.c1
    have m2 := xal.c2
    have m3 := xal.c3
    have m4 := xal.c4
    have m5 := xal.c5
    have m6 := xal.c6
    have f0 := xal.fz 0
    have f1 := xal.fz 1
    have f2 := xal.fz 2
    have f3 := xal.fz 3
    have f4 := xal.fz 4
    have f5 := xal.fz 5
    have f6 := xal.fz 6
    obtain ⟨t3, efl, xfl, hfl, bfl⟩ := set7 xal NA o3 c3
    have YB3 : Hid (Bx t3 u3.heap.size NA o3 c3) := xfl
    have BV3 : Hid (Below u3.heap.size u3 t3) := bal.trans (bfl _ (Nat.le_refl _))
    unfold nil at m0 m1 m2 m3 m4 m5 m6
    clear eal' xal bal zal xfl hfl bfl
    go_upto_region 11 with fail
    try rw [efl]
    clear efl eal m0 m1 m2 m3 m4 m5 m6 f0 f1 f2 f3 f4 f5 f6
    have BT3 : Hid (Below t2.heap.size t2 t3) := bel2 BU3.out BV3.out
    have Bt3 : Hid (Below w.heap.size w t3) := bel2 Bt2.out BT3.out
    have Xt3 : Hid (Bx t3 w1.heap.size a2 oq2 cq2) := Xt2.out.later BT3.out
    have Ct3 : Hid (t3.cell? ⟨w.heap.size, 0, none⟩ = some (.slice a0 ns.length cap0)) := cell_later BT3.out Ct2.out
    have cT := Ct3.out
    have d0 := Xt3.out.c0
    have d1 := Xt3.out.c1
    have d2 := Xt3.out.c2
    have d3 := Xt3.out.c3
    have d4 := Xt3.out.c4
    have d5 := Xt3.out.c5
    have d6 := Xt3.out.c6
    go_wp2_with fail
    refine (HNO.out t3 a2.length 0 1100 (WalkArith.wf_i64 (by omega)) (WalkArith.wf_i64 (by omega)) Bt3.out (HE0.out _ _) (by decide)).mono ?_
    rintro e u4 ⟨o4, c4, rfl, bb⟩
    have BU4 : Hid (Below t3.heap.size t3 u4) := bb
    clear bb cT d0 d1 d2 d3 d4 d5 d6
    obtain ⟨wal, eal', xal, bal, zal⟩ := box7 u4 nil none 0
    have eal : u4.alloc (.cells #[.int .i64 0, .int .i64 0, .int .i64 0, .string ⟨#[]⟩, .string ⟨#[]⟩, .string ⟨#[]⟩, .slice none 0 0] 30) = wal := eal'
    have m0 := xal.c0
    have m1 := xal.c1
    have m2 := xal.c2
    have m3 := xal.c3
    have m4 := xal.c4
    have m5 := xal.c5
    have m6 := xal.c6
    have f0 := xal.fz 0
    have f1 := xal.fz 1
    have f2 := xal.fz 2
    have f3 := xal.fz 3
    have f4 := xal.fz 4
    have f5 := xal.fz 5
    have f6 := xal.fz 6
    obtain ⟨t4, efl, xfl, hfl, bfl⟩ := set7 xal NA o4 c4
    have YB4 : Hid (Bx t4 u4.heap.size NA o4 c4) := xfl
    have BV4 : Hid (Below u4.heap.size u4 t4) := bal.trans (bfl _ (Nat.le_refl _))
    unfold nil at m0 m1 m2 m3 m4 m5 m6
    clear eal' xal bal zal xfl hfl bfl
    go_upto_region 12 with fail
    try rw [efl]
    clear efl eal m0 m1 m2 m3 m4 m5 m6 f0 f1 f2 f3 f4 f5 f6
    have BT4 : Hid (Below t3.heap.size t3 t4) := bel2 BU4.out BV4.out
    have Bt4 : Hid (Below w.heap.size w t4) := bel2 Bt3.out BT4.out
    have Xt4 : Hid (Bx t4 w1.heap.size a2 oq2 cq2) := Xt3.out.later BT4.out
    have Ct4 : Hid (t4.cell? ⟨w.heap.size, 0, none⟩ = some (.slice a0 ns.length cap0)) := cell_later BT4.out Ct3.out
    have cT := Ct4.out
    have d0 := Xt4.out.c0
    have d1 := Xt4.out.c1
    have d2 := Xt4.out.c2
    have d3 := Xt4.out.c3
    have d4 := Xt4.out.c4
    have d5 := Xt4.out.c5
    have d6 := Xt4.out.c6
    go_wp2_with fail
    refine (HNO.out t4 0 a2.length 1100 (WalkArith.wf_i64 (by omega)) (WalkArith.wf_i64 (by omega)) Bt4.out (HE0.out _ _) (by decide)).mono ?_
    rintro e u5 ⟨o5, c5, rfl, bb⟩
    have BU5 : Hid (Below t4.heap.size t4 u5) := bb
    clear bb cT d0 d1 d2 d3 d4 d5 d6
    obtain ⟨wal, eal', xal, bal, zal⟩ := box7 u5 nil none 0
    have eal : u5.alloc (.cells #[.int .i64 0, .int .i64 0, .int .i64 0, .string ⟨#[]⟩, .string ⟨#[]⟩, .string ⟨#[]⟩, .slice none 0 0] 30) = wal := eal'
    have m0 := xal.c0
    have m1 := xal.c1
    have m2 := xal.c2
    have m3 := xal.c3
    have m4 := xal.c4
    have m5 := xal.c5
    have m6 := xal.c6
    have f0 := xal.fz 0
    have f1 := xal.fz 1
    have f2 := xal.fz 2
    have f3 := xal.fz 3
    have f4 := xal.fz 4
    have f5 := xal.fz 5
    have f6 := xal.fz 6
    obtain ⟨t5, efl, xfl, hfl, bfl⟩ := set7 xal NA o5 c5
    have YB5 : Hid (Bx t5 u5.heap.size NA o5 c5) := xfl
    have BV5 : Hid (Below u5.heap.size u5 t5) := bal.trans (bfl _ (Nat.le_refl _))
    unfold nil at m0 m1 m2 m3 m4 m5 m6
    clear eal' xal bal zal xfl hfl bfl
    go_upto_region 13 with fail
    try rw [efl]
    clear efl eal m0 m1 m2 m3 m4 m5 m6 f0 f1 f2 f3 f4 f5 f6
    have BT5 : Hid (Below t4.heap.size t4 t5) := bel2 BU5.out BV5.out
    have Bt5 : Hid (Below w.heap.size w t5) := bel2 Bt4.out BT5.out
    have Xt5 : Hid (Bx t5 w1.heap.size a2 oq2 cq2) := Xt4.out.later BT5.out
    have Ct5 : Hid (t5.cell? ⟨w.heap.size, 0, none⟩ = some (.slice a0 ns.length cap0)) := cell_later BT5.out Ct4.out
    go_wp2_with fail
    refine (Tree.num _ _).mono ?_
    rintro e wx ⟨rfl, hv⟩
    subst wx
    go_wp2_with fail
    refine (Tree.num _ _).mono ?_
    rintro e wx ⟨rfl, hv⟩
    subst wx
    go_wp2_with fail
    refine (Tree.num _ _).mono ?_
    rintro e wx ⟨rfl, hv⟩
    subst wx
    go_wp2_with fail
    refine (Tree.num _ _).mono ?_
    rintro e wx ⟨rfl, hv⟩
    subst wx
    go_wp2_with fail
    refine (Tree.num _ _).mono ?_
    rintro e wx ⟨rfl, hv⟩
    subst wx
    go_wp2_with fail
    refine (Tree.num _ _).mono ?_
    rintro e wx ⟨rfl, hv⟩
    subst wx
    go_wp2
    go_ret
    exact ⟨rfl, Bt5.out⟩
  obtain ⟨n, rfl, hn, hm, hF, hHd⟩ := HZM.out rfl
  have hq0 := hHd.len
  have hq1 := hHd.off
  have hq2 := hHd.rows
  have HE1 : Hid (∀ i c, ¬ inRange a2 i c → slE ns (n : Int) (fq2 + 1) a2 i c = 1101) := fun i c h => (HSLE.out i c).trans ((if_neg (by simp)).trans (if_neg h))
  have HEX : Hid (∀ i c, inRange a2 i c → slE ns (n : Int) (fq2 + 1) a2 i c = 0) := fun i c h => (HSLE.out i c).trans ((if_neg (by simp)).trans (if_pos h))
  have HEN : Hid (∀ v, Below w.heap.size w v → Calls Tryz.prog 15 #[.agg #[.slice a0 ns.length cap0], .int .i64 (n : Int), a2.val oq2 cq2, .int .i64 a2.length, .int .i64 0] v fun r w' => ∃ o' c', r = .returned (.tuple #[(cutA a2 a2.length.toNat 0).val o' c', .int .i64 0]) ∧ Below v.heap.size v w') := fun v hv => by
    have := HSP.out v a2.length 0 (WalkArith.wf_i64 (by omega)) (by decide) hv
    unfold SlQ at this
    rw [show slA ns (n : Int) (fq2 + 1) a2 a2.length 0 = cutA a2 a2.length.toNat 0 from by unfold slA; rw [HEX.out a2.length 0 ⟨hq0, by decide, by omega⟩, if_pos rfl]; rfl, HEX.out a2.length 0 ⟨hq0, by decide, by omega⟩] at this
    refine this.mono ?_
    rintro e w' ⟨o', c', h1, _, h2⟩
    exact ⟨o', c', h1, h2⟩
  have HAL : Hid (∀ v, Below w.heap.size w v → Calls Tryz.prog 15 #[.agg #[.slice a0 ns.length cap0], .int .i64 (n : Int), a2.val oq2 cq2, .int .i64 0, .int .i64 a2.length] v fun r w' => ∃ o' c', r = .returned (.tuple #[a2.val o' c', .int .i64 0]) ∧ HoldsO 140737488351232 w' (fq2 + 1) (fun b => v.heap.size ≤ b) (a2.cells o' c') a2 ∧ Below v.heap.size v w') := fun v hv => by
    have := HSP.out v 0 a2.length (by decide) (WalkArith.wf_i64 (by omega)) hv
    unfold SlQ at this
    rw [show slA ns (n : Int) (fq2 + 1) a2 0 a2.length = a2 from by unfold slA; rw [HEX.out 0 a2.length ⟨by decide, hq0, by omega⟩, if_pos rfl]; exact cut_all hq0, HEX.out 0 a2.length ⟨by decide, hq0, by omega⟩] at this
    exact this
  have HL0 : Hid ((cutA a2 a2.length.toNat 0).length = 0) := rfl
  generalize cutA a2 a2.length.toNat 0 = EA at *
  unfold Arr.val at HEN HAL
  clear hF hHd hm HZM HSLE HSP HEX
  have cT := HC4.out
  have d0 := X4.out.c0
  have d1 := X4.out.c1
  have d2 := X4.out.c2
  have d3 := X4.out.c3
  have d4 := X4.out.c4
  have d5 := X4.out.c5
  have d6 := X4.out.c6
  go_wp2_with fail
  refine (HNO.out w4 (-(1 + (D : Int))) 0 1101 (WalkArith.wf_i64 (by omega)) (WalkArith.wf_i64 (by omega)) B4.out (HE1.out _ _ (by unfold inRange; omega)) (by decide)).mono ?_
  rintro e u0 ⟨o0, c0, rfl, bb⟩
  have BU0 : Hid (Below w4.heap.size w4 u0) := bb
  clear bb cT d0 d1 d2 d3 d4 d5 d6
  obtain ⟨wal, eal', xal, bal, zal⟩ := box7 u0 nil none 0
  have eal : u0.alloc (.cells #[.int .i64 0, .int .i64 0, .int .i64 0, .string ⟨#[]⟩, .string ⟨#[]⟩, .string ⟨#[]⟩, .slice none 0 0] 30) = wal := eal'
  have m0 := xal.c0
  have m1 := xal.c1
  have m2 := xal.c2
  have m3 := xal.c3
  have m4 := xal.c4
  have m5 := xal.c5
  have m6 := xal.c6
  have f0 := xal.fz 0
  have f1 := xal.fz 1
  have f2 := xal.fz 2
  have f3 := xal.fz 3
  have f4 := xal.fz 4
  have f5 := xal.fz 5
  have f6 := xal.fz 6
  obtain ⟨t0, efl, xfl, hfl, bfl⟩ := set7 xal NA o0 c0
  have YB0 : Hid (Bx t0 u0.heap.size NA o0 c0) := xfl
  have BV0 : Hid (Below u0.heap.size u0 t0) := bal.trans (bfl _ (Nat.le_refl _))
  unfold nil at m0 m1 m2 m3 m4 m5 m6
  clear eal' xal bal zal xfl hfl bfl
  go_upto_region 8 with fail
  try rw [efl]
  clear efl eal m0 m1 m2 m3 m4 m5 m6 f0 f1 f2 f3 f4 f5 f6
  have BT0 : Hid (Below w4.heap.size w4 t0) := bel2 BU0.out BV0.out
  have Bt0 : Hid (Below w.heap.size w t0) := bel2 B4.out BT0.out
  have Xt0 : Hid (Bx t0 w1.heap.size a2 oq2 cq2) := X4.out.later BT0.out
  have Ct0 : Hid (t0.cell? ⟨w.heap.size, 0, none⟩ = some (.slice a0 ns.length cap0)) := cell_later BT0.out HC4.out
  have cT := Ct0.out
  have d0 := Xt0.out.c0
  have d1 := Xt0.out.c1
  have d2 := Xt0.out.c2
  have d3 := Xt0.out.c3
  have d4 := Xt0.out.c4
  have d5 := Xt0.out.c5
  have d6 := Xt0.out.c6
  go_wp2_with fail
  refine (HNO.out t0 0 (-(1 + (D : Int))) 1101 (WalkArith.wf_i64 (by omega)) (WalkArith.wf_i64 (by omega)) Bt0.out (HE1.out _ _ (by unfold inRange; omega)) (by decide)).mono ?_
  rintro e u1 ⟨o1, c1, rfl, bb⟩
  have BU1 : Hid (Below t0.heap.size t0 u1) := bb
  clear bb cT d0 d1 d2 d3 d4 d5 d6
  obtain ⟨wal, eal', xal, bal, zal⟩ := box7 u1 nil none 0
  have eal : u1.alloc (.cells #[.int .i64 0, .int .i64 0, .int .i64 0, .string ⟨#[]⟩, .string ⟨#[]⟩, .string ⟨#[]⟩, .slice none 0 0] 30) = wal := eal'
  have m0 := xal.c0
  have m1 := xal.c1
  have m2 := xal.c2
  have m3 := xal.c3
  have m4 := xal.c4
  have m5 := xal.c5
  have m6 := xal.c6
  have f0 := xal.fz 0
  have f1 := xal.fz 1
  have f2 := xal.fz 2
  have f3 := xal.fz 3
  have f4 := xal.fz 4
  have f5 := xal.fz 5
  have f6 := xal.fz 6
  obtain ⟨t1, efl, xfl, hfl, bfl⟩ := set7 xal NA o1 c1
  have YB1 : Hid (Bx t1 u1.heap.size NA o1 c1) := xfl
  have BV1 : Hid (Below u1.heap.size u1 t1) := bal.trans (bfl _ (Nat.le_refl _))
  unfold nil at m0 m1 m2 m3 m4 m5 m6
  clear eal' xal bal zal xfl hfl bfl
  go_upto_region 9 with fail
  try rw [efl]
  clear efl eal m0 m1 m2 m3 m4 m5 m6 f0 f1 f2 f3 f4 f5 f6
  have BT1 : Hid (Below t0.heap.size t0 t1) := bel2 BU1.out BV1.out
  have Bt1 : Hid (Below w.heap.size w t1) := bel2 Bt0.out BT1.out
  have Xt1 : Hid (Bx t1 w1.heap.size a2 oq2 cq2) := Xt0.out.later BT1.out
  have Ct1 : Hid (t1.cell? ⟨w.heap.size, 0, none⟩ = some (.slice a0 ns.length cap0)) := cell_later BT1.out Ct0.out
  have cT := Ct1.out
  have d0 := Xt1.out.c0
  have d1 := Xt1.out.c1
  have d2 := Xt1.out.c2
  have d3 := Xt1.out.c3
  have d4 := Xt1.out.c4
  have d5 := Xt1.out.c5
  have d6 := Xt1.out.c6
  go_wp2_with fail
  refine (HNO.out t1 (64 + (1 + (D : Int))) 0 1101 (WalkArith.wf_i64 (by omega)) (WalkArith.wf_i64 (by omega)) Bt1.out (HE1.out _ _ (by unfold inRange; omega)) (by decide)).mono ?_
  rintro e u2 ⟨o2, c2, rfl, bb⟩
  have BU2 : Hid (Below t1.heap.size t1 u2) := bb
  clear bb cT d0 d1 d2 d3 d4 d5 d6
  obtain ⟨wal, eal', xal, bal, zal⟩ := box7 u2 nil none 0
  have eal : u2.alloc (.cells #[.int .i64 0, .int .i64 0, .int .i64 0, .string ⟨#[]⟩, .string ⟨#[]⟩, .string ⟨#[]⟩, .slice none 0 0] 30) = wal := eal'
  have m0 := xal.c0
  have m1 := xal.c1
  have m2 := xal.c2
  have m3 := xal.c3
  have m4 := xal.c4
  have m5 := xal.c5
  have m6 := xal.c6
  have f0 := xal.fz 0
  have f1 := xal.fz 1
  have f2 := xal.fz 2
  have f3 := xal.fz 3
  have f4 := xal.fz 4
  have f5 := xal.fz 5
  have f6 := xal.fz 6
  obtain ⟨t2, efl, xfl, hfl, bfl⟩ := set7 xal NA o2 c2
  have YB2 : Hid (Bx t2 u2.heap.size NA o2 c2) := xfl
  have BV2 : Hid (Below u2.heap.size u2 t2) := bal.trans (bfl _ (Nat.le_refl _))
  unfold nil at m0 m1 m2 m3 m4 m5 m6
  clear eal' xal bal zal xfl hfl bfl
  go_upto_region 10 with fail
  try rw [efl]
  clear efl eal m0 m1 m2 m3 m4 m5 m6 f0 f1 f2 f3 f4 f5 f6
  have BT2 : Hid (Below t1.heap.size t1 t2) := bel2 BU2.out BV2.out
  have Bt2 : Hid (Below w.heap.size w t2) := bel2 Bt1.out BT2.out
  have Xt2 : Hid (Bx t2 w1.heap.size a2 oq2 cq2) := Xt1.out.later BT2.out
  have Ct2 : Hid (t2.cell? ⟨w.heap.size, 0, none⟩ = some (.slice a0 ns.length cap0)) := cell_later BT2.out Ct1.out
  have cT := Ct2.out
  have d0 := Xt2.out.c0
  have d1 := Xt2.out.c1
  have d2 := Xt2.out.c2
  have d3 := Xt2.out.c3
  have d4 := Xt2.out.c4
  have d5 := Xt2.out.c5
  have d6 := Xt2.out.c6
  go_wp2_with fail
  refine (HNO.out t2 0 (64 + (1 + (D : Int))) 1101 (WalkArith.wf_i64 (by omega)) (WalkArith.wf_i64 (by omega)) Bt2.out (HE1.out _ _ (by unfold inRange; omega)) (by decide)).mono ?_
  rintro e u3 ⟨o3, c3, rfl, bb⟩
  have BU3 : Hid (Below t2.heap.size t2 u3) := bb
  clear bb cT d0 d1 d2 d3 d4 d5 d6
  obtain ⟨wal, eal', xal, bal, zal⟩ := box7 u3 nil none 0
  have eal : u3.alloc (.cells #[.int .i64 0, .int .i64 0, .int .i64 0, .string ⟨#[]⟩, .string ⟨#[]⟩, .string ⟨#[]⟩, .slice none 0 0] 30) = wal := eal'
  have m0 := xal.c0
  have m1 := xal.c1
  have m2 := xal.c2
  have m3 := xal.c3
  have m4 := xal.c4
  have m5 := xal.c5
  have m6 := xal.c6
  have f0 := xal.fz 0
  have f1 := xal.fz 1
  have f2 := xal.fz 2
  have f3 := xal.fz 3
  have f4 := xal.fz 4
  have f5 := xal.fz 5
  have f6 := xal.fz 6
  obtain ⟨t3, efl, xfl, hfl, bfl⟩ := set7 xal NA o3 c3
  have YB3 : Hid (Bx t3 u3.heap.size NA o3 c3) := xfl
  have BV3 : Hid (Below u3.heap.size u3 t3) := bal.trans (bfl _ (Nat.le_refl _))
  unfold nil at m0 m1 m2 m3 m4 m5 m6
  clear eal' xal bal zal xfl hfl bfl
  go_upto_region 11 with fail
  try rw [efl]
  clear efl eal m0 m1 m2 m3 m4 m5 m6 f0 f1 f2 f3 f4 f5 f6
  have BT3 : Hid (Below t2.heap.size t2 t3) := bel2 BU3.out BV3.out
  have Bt3 : Hid (Below w.heap.size w t3) := bel2 Bt2.out BT3.out
  have Xt3 : Hid (Bx t3 w1.heap.size a2 oq2 cq2) := Xt2.out.later BT3.out
  have Ct3 : Hid (t3.cell? ⟨w.heap.size, 0, none⟩ = some (.slice a0 ns.length cap0)) := cell_later BT3.out Ct2.out
  have cT := Ct3.out
  have d0 := Xt3.out.c0
  have d1 := Xt3.out.c1
  have d2 := Xt3.out.c2
  have d3 := Xt3.out.c3
  have d4 := Xt3.out.c4
  have d5 := Xt3.out.c5
  have d6 := Xt3.out.c6
  go_wp2_with fail
  refine (HEN.out t3 Bt3.out).mono ?_
  rintro e u4 ⟨o4, c4, rfl, bb⟩
  have BU4 : Hid (Below t3.heap.size t3 u4) := bb
  clear bb cT d0 d1 d2 d3 d4 d5 d6
  obtain ⟨wal, eal', xal, bal, zal⟩ := box7 u4 nil none 0
  have eal : u4.alloc (.cells #[.int .i64 0, .int .i64 0, .int .i64 0, .string ⟨#[]⟩, .string ⟨#[]⟩, .string ⟨#[]⟩, .slice none 0 0] 30) = wal := eal'
  have m0 := xal.c0
  have m1 := xal.c1
  have m2 := xal.c2
  have m3 := xal.c3
  have m4 := xal.c4
  have m5 := xal.c5
  have m6 := xal.c6
  have f0 := xal.fz 0
  have f1 := xal.fz 1
  have f2 := xal.fz 2
  have f3 := xal.fz 3
  have f4 := xal.fz 4
  have f5 := xal.fz 5
  have f6 := xal.fz 6
  obtain ⟨t4, efl, xfl, hfl, bfl⟩ := set7 xal EA o4 c4
  have YB4 : Hid (Bx t4 u4.heap.size EA o4 c4) := xfl
  have BV4 : Hid (Below u4.heap.size u4 t4) := bal.trans (bfl _ (Nat.le_refl _))
  unfold nil at m0 m1 m2 m3 m4 m5 m6
  clear eal' xal bal zal xfl hfl bfl
  go_upto_region 12 with fail
  try rw [efl]
  clear efl eal m0 m1 m2 m3 m4 m5 m6 f0 f1 f2 f3 f4 f5 f6
  have BT4 : Hid (Below t3.heap.size t3 t4) := bel2 BU4.out BV4.out
  have Bt4 : Hid (Below w.heap.size w t4) := bel2 Bt3.out BT4.out
  have Xt4 : Hid (Bx t4 w1.heap.size a2 oq2 cq2) := Xt3.out.later BT4.out
  have Ct4 : Hid (t4.cell? ⟨w.heap.size, 0, none⟩ = some (.slice a0 ns.length cap0)) := cell_later BT4.out Ct3.out
  have cT := Ct4.out
  have d0 := Xt4.out.c0
  have d1 := Xt4.out.c1
  have d2 := Xt4.out.c2
  have d3 := Xt4.out.c3
  have d4 := Xt4.out.c4
  have d5 := Xt4.out.c5
  have d6 := Xt4.out.c6
  go_wp2_with fail
  refine (HAL.out t4 Bt4.out).mono ?_
  rintro e u5 ⟨o5, c5, rfl, hkp, bb⟩
  have HK5 : Hid (HoldsO 140737488351232 u5 (fq2 + 1) (fun b => t4.heap.size ≤ b) (a2.cells o5 c5) a2) := hkp
  have BU5 : Hid (Below t4.heap.size t4 u5) := bb
  clear bb cT d0 d1 d2 d3 d4 d5 d6 hkp
  obtain ⟨wal, eal', xal, bal, zal⟩ := box7 u5 nil none 0
  have eal : u5.alloc (.cells #[.int .i64 0, .int .i64 0, .int .i64 0, .string ⟨#[]⟩, .string ⟨#[]⟩, .string ⟨#[]⟩, .slice none 0 0] 30) = wal := eal'
  have m0 := xal.c0
  have m1 := xal.c1
  have m2 := xal.c2
  have m3 := xal.c3
  have m4 := xal.c4
  have m5 := xal.c5
  have m6 := xal.c6
  have f0 := xal.fz 0
  have f1 := xal.fz 1
  have f2 := xal.fz 2
  have f3 := xal.fz 3
  have f4 := xal.fz 4
  have f5 := xal.fz 5
  have f6 := xal.fz 6
  obtain ⟨t5, efl, xfl, hfl, bfl⟩ := set7 xal a2 o5 c5
  have YB5 : Hid (Bx t5 u5.heap.size a2 o5 c5) := xfl
  have BV5 : Hid (Below u5.heap.size u5 t5) := bal.trans (bfl _ (Nat.le_refl _))
  unfold nil at m0 m1 m2 m3 m4 m5 m6
  clear eal' xal bal zal xfl hfl bfl
  go_upto_region 13 with fail
  try rw [efl]
  clear efl eal m0 m1 m2 m3 m4 m5 m6 f0 f1 f2 f3 f4 f5 f6
  have BT5 : Hid (Below t4.heap.size t4 t5) := bel2 BU5.out BV5.out
  have Bt5 : Hid (Below w.heap.size w t5) := bel2 Bt4.out BT5.out
  have Xt5 : Hid (Bx t5 w1.heap.size a2 oq2 cq2) := Xt4.out.later BT5.out
  have Ct5 : Hid (t5.cell? ⟨w.heap.size, 0, none⟩ = some (.slice a0 ns.length cap0)) := cell_later BT5.out Ct4.out
  have YE : Hid (Bx t5 u4.heap.size EA o4 c4) := YB4.out.later BT5.out
  have HSB : Hid (Calls Tryz.prog 17 #[a2.val o5 c5, a2.val oq2 cq2] t5 fun r w' => r = .returned (.bool true) ∧ Below t5.heap.size t5 w') := sameA _ 96 (fq2 + 1) a2 o5 c5 oq2 cq2 t5 (HK5.out.holds.later BV5.out) (HoldsF.up (by unfold upB; omega) (HH.out.later Bt5.out))
  unfold Arr.val at HSB
  have l2 := YE.out.c2
  rw [HL0.out] at l2
  have d0 := YB5.out.c0
  have d1 := YB5.out.c1
  have d2 := YB5.out.c2
  have d3 := YB5.out.c3
  have d4 := YB5.out.c4
  have d5 := YB5.out.c5
  have d6 := YB5.out.c6
  have g0 := Xt5.out.c0
  have g1 := Xt5.out.c1
  have g2 := Xt5.out.c2
  have g3 := Xt5.out.c3
  have g4 := Xt5.out.c4
  have g5 := Xt5.out.c5
  have g6 := Xt5.out.c6
  go_wp2_with fail
  refine (Tree.num _ _).mono ?_
  rintro e wx ⟨rfl, hv⟩
  subst wx
  go_wp2_with fail
  refine (Tree.num _ _).mono ?_
  rintro e wx ⟨rfl, hv⟩
  subst wx
  go_wp2_with fail
  refine (Tree.num _ _).mono ?_
  rintro e wx ⟨rfl, hv⟩
  subst wx
  go_wp2_with fail
  refine (Tree.num _ _).mono ?_
  rintro e wx ⟨rfl, hv⟩
  subst wx
  go_wp2_with fail
  refine (Tree.num _ _).mono ?_
  rintro e wx ⟨rfl, hv⟩
  subst wx
  go_wp2_with fail
  refine (Tree.num _ _).mono ?_
  rintro e wx ⟨rfl, hv⟩
  subst wx
  go_wp2_with fail
  refine HSB.out.mono ?_
  rintro e w10 ⟨rfl, b10⟩
  go_wp2
  go_ret
  exact ⟨rfl, bel2 Bt5.out b10⟩

set_option maxRecDepth 100000 in
theorem lifted (os : Os) (started : os.Started) (H : Type) (enc : TypeId × Value → H) :
    ReturnsInHanded {} Tryz.checked os 6 .any (Rows.sliceFormsSpec.pre6 enc Tryz.prog Tryz.f6 Rows.sliceFormsRow.domain false) (Rows.sliceFormsSpec.post enc Tryz.prog Tryz.f6 false true false false) := by
  refine returnsInHanded_of_change_sized (C := Tryz.checked) own started (by kernel_rfl) Tryz.func6
    (ChangeSpec.witness6 (enc := enc) (C := Tryz.checked) false ⟨#[], #[.agg #[.slice none 0 0], .int .i64 0, .agg #[.int .i64 0, .int .i64 0, .int .i64 0, .string ByteArray.empty, .string ByteArray.empty, .string ByteArray.empty, .slice none 0 0], .int .i64 0], []⟩ 8 (by kernel_rfl) (by kernel_rfl) (by kernel_rfl) (by kernel_rfl)) ?_
  intro W base args ds gs before hval0 hW hcnd hsz0 _
  have hsz : (DataW.weightsEach Tryz.prog (Tryz.f6.params.toList ++ Rows.sliceFormsSpec.plain.varTypes Tryz.prog) (ds ++ gs)).all (· ≤ reachBytes) = true := hsz0
  clear hsz0
  have hval : ∀ (j : Nat) t v, Tryz.f6.params[j]? = some t → args[j]? = some v → Value.okWide Tryz.prog W .any base t v := hval0
  have hW' := hW
  obtain ⟨p, q, hA0, hV, rfl, hfz, hnd⟩ := hW
  have hA : DataW.TrodAll enc Tryz.prog W 0 (fun _ => true) true Tryz.f6.params.toList args.toList ds p := hA0
  rw [Tryz.params6] at hA hval hsz
  obtain ⟨v0, vs0, d0, ds0, p0, q0, hargs, rfl, rfl, h0, r0⟩ := trodAll_cons hA
  obtain ⟨v1, vs1, d1, ds1, p1, q1, rfl, rfl, rfl, h1, r1⟩ := trodAll_cons r0
  obtain ⟨v2, vs2, d2, ds2, p2, q2, rfl, rfl, rfl, h2, r2⟩ := trodAll_cons r1
  obtain ⟨v3, vs3, d3, ds3, p3, q3, rfl, rfl, rfl, h3, r3⟩ := trodAll_cons r2
  obtain ⟨rfl, rfl, rfl⟩ := trodAll_nil r3
  obtain rfl : args = #[v0, v1, v2, v3] := by cases args; simp_all
  obtain ⟨rfl, rfl⟩ := trodVars_none hV
  have k0 := h0
  have lt0 : ∀ x ∈ p0, x.block < W.heap.size := by obtain ⟨m, hm⟩ := k0; exact DataW.trod_lt m _ _ _ hm
  obtain ⟨a0, len0, cap0, z0, rfl, hp0, y0, dy0, hy0⟩ := Tree.open_type Tryz.underlying27 rfl rfl (by kernel_rfl) (by kernel_rfl) Tryz.underlying25 Tryz.underlying24 (by kernel_rfl) rfl rfl rfl (by kernel_rfl) (by kernel_rfl) (by kernel_rfl) Tryz.underlying3 Tryz.underlying3 Tryz.underlying4 (hval 0 27 v0 rfl rfl) h0
  have hs0 : cap0 * 24 ≤ 140737488351232 := by
    have := Tree.sized_type hsz (j := 0) rfl (congrArg some dy0) Tryz.underlying27 Tryz.underlying25 hy0
    rw [show Tryz.prog.bytesOf 24 = 24 from by kernel_rfl] at this
    unfold reachBytes at this
    omega
  obtain ⟨a1, rfl, rfl, rfl, hp1⟩ := open_int Tryz.underlying3 (hval 1 3 v1 rfl rfl) h1
  have k2 := h2
  have lt2 : ∀ x ∈ p2, x.block < W.heap.size := by obtain ⟨m, hm⟩ := k2; exact DataW.trod_lt m _ _ _ hm
  obtain ⟨fq2, a2, oq2, cq2, rfl, hp2⟩ := Arr.open_array (P := Tryz.prog) (T := 30) (S := 28) ⟨Tryz.underlying30, Tryz.underlying28, rfl, (by kernel_rfl), rfl, rfl, rfl, rfl, rfl, rfl, rfl, (by kernel_rfl), (by kernel_rfl), (by kernel_rfl), (by kernel_rfl), (by kernel_rfl), (by kernel_rfl), (by kernel_rfl), Tryz.underlying3, Tryz.underlying3, Tryz.underlying3, Tryz.underlying9, Tryz.underlying9, Tryz.underlying9⟩ (hval 2 30 v2 rfl rfl) h2 (Arr.sized_array hsz (j := 2) rfl rfl)
  rw [show Tryz.prog.bytesOf 30 = 96 from by kernel_rfl] at hp2
  obtain ⟨a3, rfl, rfl, rfl, hp3⟩ := open_int Tryz.underlying3 (hval 3 3 v3 rfl rfl) h3
  clear hA0 hval0
  refine (walk a0 len0 cap0 z0 a1 fq2 a2 oq2 cq2 a3 W hp0 hs0 hp1 hp2 hp3).mono fun e W' ⟨he, bel⟩ => ?_
  subst he
  exact ⟨_, rfl, _, _, _, [], _, [], hW', trodAll_mk1 (shut_bool Tryz.underlying4 _), (trodAll_cons_mk (Below.trod laidOut (by kernel_rfl) (of_decide_eq_true (by kernel_rfl)) k0 bel lt0) (trodAll_cons_mk (shut_int Tryz.underlying3 hp1) (trodAll_cons_mk (Below.trod laidOut (by kernel_rfl) (of_decide_eq_true (by kernel_rfl)) k2 bel lt2) (trodAll_cons_mk (shut_int Tryz.underlying3 hp3) trodAll_mk0)))), rfl, bel.frame _, fun h => by cases h⟩

theorem over : Rows.sliceFormsRow.holds Tryz.pinned (OpenSpec.ofChange Rows.sliceFormsSpec) :=
  OpenClaim.holds_of_wide 6 Tryz.f6 rfl rfl rfl rfl rfl rfl rfl ⟨rfl, rfl, rfl, rfl, rfl⟩ rfl rfl rfl rfl rfl (by kernel_rfl) Tryz.func6 (by kernel_rfl)
    (of_decide_eq_true (by kernel_rfl)) (by unfold Func.isWrapper; first | (rw [if_pos (by decide +kernel)]; kernel_rfl) | (rw [if_neg (by decide +kernel)]; exact ⟨rfl, rfl⟩))
    (fun os started H enc _ => lifted os started H enc)

end Go.Proofs.YthbjeedmhgnnaaaGreat.sliceForms
namespace Go.Proofs.YthbjeedmhgnnaaaGreat
theorem sliceForms_holds : Rows.SliceFormsSaid := sliceForms.over
#print axioms sliceForms_holds
end Go.Proofs.YthbjeedmhgnnaaaGreat
