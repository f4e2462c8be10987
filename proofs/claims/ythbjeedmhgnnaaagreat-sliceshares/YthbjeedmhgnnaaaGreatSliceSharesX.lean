/-
  SliceShares: a slice bears the same buffers: with the whole's numbers its copy is the whole, for every array that may be.
-/
import Derived.Test.YthbjeedmhgnnaaaGreatRows
import Derived.WalkKit
import Derived.ProofKit
import Derived.OpenShut
import Derived.ShutString
import Derived.ChangeOld
import Derived.Below
import Derived.SizedLaws
import Derived.Deep.QuietTactic
import Derived.WalkSmall
import Derived.BigQuiet
import Derived.Deep.RegionWith
import Derived.OwnWalk
import Derived.RegionTactic
import Derived.ChangeAlike
import Derived.Deep.CutBlock
import Derived.Maps.AppendAt
import Derived.OneCell
import Derived.Test.YthbjeedmhgnnaaaGreatB01
import Derived.Test.YthbjeedmhgnnaaaGreatB02
import Derived.Test.YthbjeedmhgnnaaaGreatB09
import Derived.Test.YthbjeedmhgnnaaaGreatB13
import Derived.Test.YthbjeedmhgnnaaaGreatB22
import Derived.Test.YthbjeedmhgnnaaaGreatB23
import Derived.Test.YthbjeedmhgnnaaaGreatB19
import Derived.Test.YthbjeedmhgnnaaaGreatB15
import Derived.Test.YthbjeedmhgnnaaaGreatB14
namespace Go.Proofs.YthbjeedmhgnnaaaGreat.sliceShares
open Go.ChangeShapes Go.WideShapes Go.ChangeAt Go.RowKit
open Go.ChangeMaps (open_string shut_string)
set_option linter.unusedVariables false

theorem own : ownKnob Tryz.prog.godebug = none := by kernel_rfl
theorem laidOut : laidOutB Tryz.prog = true := by kernel_rfl

open Tree Arr
theorem and10 (x : Int) : ∃ d : Nat, bits .and .i64 x 1023 = (d : Int) ∧ d < 1024 := ⟨(x % 1024).toNat, by rw [BitP.and10]; omega, by omega⟩
/-- A part's box, written over by the whole's numbers. -/
theorem back_box {w : World} {g : Nat} {a : Arr.Arr} {i j : Nat} {o : Option Addr} {c : Nat} (h : Bx w g (cutA a i j) o c) :
    ∃ w', (w.setCell ⟨g, 1, none⟩ (.int .i64 a.offset)).setCell ⟨g, 2, none⟩ (.int .i64 a.length) = w' ∧ Bx w' g a o c ∧ (∀ b, b ≠ g → w'.heap[b]? = w.heap[b]?) ∧ (∀ B, B ≤ g → Below B w w') := by
  refine ⟨_, rfl, ⟨?_⟩, fun b hb => ?_, fun B hB => ?_⟩
  · rw [blk_set (blk_set h.blk 1 _) 2 _]
    rfl
  · have q := fun (w : World) (j : Nat) (u : Value) => Below.heap_setCell w ⟨g, j, none⟩ u b hb
    rw [q, q]
  · exact ((Below.refl _ _).setCell hB _).setCell hB _
theorem uncut {B : Nat} {w : World} {f : Nat} {a : Arr.Arr} {o : Option Addr} {c : Nat} {i l : Nat} {ok : Nat → Prop} (h : HoldsO B w (f + 1) ok ((cutA a i l).cells o c) (cutA a i l)) (hk : a.ok B) : HoldsO B w (f + 1) ok (a.cells o c) a := by
  obtain ⟨o2, c2, e, _, h3, h4, h5⟩ := h
  have eo : o = o2 ∧ c = c2 := by
    unfold Arr.cells at e
    simp only [List.cons.injEq, Value.slice.injEq, and_true, true_and] at e
    exact e
  obtain ⟨rfl, rfl⟩ := eo
  exact ⟨o, c, rfl, hk, h3, h4, h5⟩
theorem cut_all {a : Arr.Arr} (h : 0 ≤ a.length) : cutA a 0 a.length.toNat = a := by
  cases a with
  | mk l o n v e d k =>
    have h' : 0 ≤ n := h
    unfold cutA
    simp only [Int.toNat_of_nonneg h', Int.natCast_zero, Int.add_zero]
theorem cut_cut (a : Arr.Arr) (i k j l : Nat) : cutA (cutA a i k) j l = cutA a (i + j) l := by
  unfold cutA
  simp only [Int.natCast_add, Int.add_assoc]
/-- Spoiling what lies behind a world turns nothing of it. -/
theorem spd_below {n0 : Nat} {w5 w w' : World} (h : Spd (fun b => n0 ≤ b) w w') (hn : n0 = w5.heap.size) (hb : Below w5.heap.size w5 w) : Below w5.heap.size w5 w' := h.kept.down hb (fun k hk => by omega)
set_option maxRecDepth 20000 in
set_option maxHeartbeats 4000000 in
theorem walk (a0 : Option Addr) (len0 cap0 : Nat) (z0 : List Tree.Nd) (a1 : Int) (fq2 : Nat) (a2 : Arr.Arr) (oq2 : Option Addr) (cq2 : Nat) (a3 : Int) (w : World) (hp0 : Tree.IsNodes w a0 len0 cap0 z0) (hs0 : cap0 * 24 ≤ 140737488351232) (hp1 : (Lit.int .i64 a1).wf = true) (hp2 : Hid (Arr.HoldsF 140737488351232 96 w (fq2 + 1) (a2.cells oq2 cq2) a2)) (hp3 : (Lit.int .i64 a3).wf = true) :
    Calls Tryz.prog 7 #[.agg #[.slice a0 len0 cap0], .int .i64 a1, a2.val oq2 cq2, .int .i64 a3] w fun e w' => e = .returned (.bool true) ∧ Below w.heap.size w w' := by
  obtain ⟨ns, rfl, hT, hlc, hco⟩ := isT_of hp0
  have HT : Hid (IsT w a0 ns) := hT
  obtain ⟨w1, e1, s1, c1, b1⟩ := boxed w (.slice a0 ns.length cap0) 27
  obtain ⟨w2, e2, x2, b2, z2⟩ := box7 w1 a2 oq2 cq2
  have HC2 : Hid (w2.cell? ⟨w.heap.size, 0, none⟩ = some (.slice a0 ns.length cap0)) := cell_later b2 c1
  have X2 : Hid (Bx w2 w1.heap.size a2 oq2 cq2) := x2
  have B2 : Hid (Below w.heap.size w w2) := bel2 b1 b2
  have HH : Hid (HoldsF 140737488351232 96 w (fq2 + 1) (a2.cells oq2 cq2) a2) := hp2
  have HZ : Hid (w.heap.size < w1.heap.size ∧ w1.heap.size < w2.heap.size) := ⟨s1, z2⟩
  clear hp0 hlc hco hT c1 b1 b2 x2 s1 z2 hp2
  have HR : Hid (∀ v, Below w.heap.size w v → Calls Tryz.prog 22 #[.agg #[.slice a0 ns.length cap0], .int .i64 a1, a2.val oq2 cq2] v fun r w' => r = .returned (.bool (mayZ ns a1 (fq2 + 1) a2)) ∧ Below v.heap.size v w') := fun v hv => refA 140737488351232 96 (fq2 + 1) ns a0 cap0 a1 a2 oq2 cq2 v (HT.out.later hv) (HH.out.later hv)
  have HZM : Hid (mayZ ns a1 (fq2 + 1) a2 = true → ∃ n : Nat, a1 = (n : Int) ∧ n < ns.length ∧ may ns = true ∧ mayF ns (fq2 + 1) n a2 = true ∧ Head ns n a2) := may_head
  have HSLE : Hid (∀ i c, slE ns a1 (fq2 + 1) a2 i c = if mayZ ns a1 (fq2 + 1) a2 = false then 1100 else if inRange a2 i c then 0 else 1101) := fun i c => rfl
  have hbi := bounds_i64 hp3
  generalize mayZ ns a1 (fq2 + 1) a2 = M at *
  unfold Arr.val at HR ⊢
  go_enter Tryz.func7, Tryz.ntmps7
  go_wp2_with fail
  refine (awakeS w2).mono ?_
  rintro e w3 ⟨rfl, b3⟩
  have B3 : Hid (Below w.heap.size w w3) := bel2 B2.out b3
  have X3 : Hid (Bx w3 w1.heap.size a2 oq2 cq2) := X2.out.later b3
  have HC3 : Hid (w3.cell? ⟨w.heap.size, 0, none⟩ = some (.slice a0 ns.length cap0)) := cell_later b3 HC2.out
  clear b3 e1 e2
  have c3 := HC3.out
  have d0 := X3.out.c0
  have d1 := X3.out.c1
  have d2 := X3.out.c2
  have d3 := X3.out.c3
  have d4 := X3.out.c4
  have d5 := X3.out.c5
  have d6 := X3.out.c6
  go_wp2_with fail
  refine (HR.out w3 B3.out).mono ?_
  rintro e w4 ⟨rfl, b4⟩
  have B4 : Hid (Below w.heap.size w w4) := bel2 B3.out b4
  have X4 : Hid (Bx w4 w1.heap.size a2 oq2 cq2) := X3.out.later b4
  have HC4 : Hid (w4.cell? ⟨w.heap.size, 0, none⟩ = some (.slice a0 ns.length cap0)) := cell_later b4 HC3.out
  clear b4 c3 d0 d1 d2 d3 d4 d5 d6 HR
  cases M
  · go_wp2
    go_ret
    exact ⟨rfl, B4.out⟩
  obtain ⟨n, rfl, hn, hm, hF, hHd⟩ := HZM.out rfl
  have HMF : Hid (May ns ∧ mayF ns (fq2 + 1) n a2 = true) := ⟨may_of hm, hF⟩
  have hq0 := hHd.len
  have hq1 := hHd.off
  have hq2 := hHd.rows
  obtain ⟨i, hi, hi0, hi1⟩ := BitP.rest a3 (a2.length + 1) (by omega)
  obtain ⟨i, rfl⟩ := Int.eq_ofNat_of_zero_le hi0
  obtain ⟨j, hj⟩ : ∃ j : Nat, a2.length - (i : Int) = (j : Int) := ⟨(a2.length - (i : Int)).toNat, by omega⟩
  have HSE : Hid (slE ns (n : Int) (fq2 + 1) a2 (i : Int) (j : Int) = 0) := by
    unfold Hid
    rw [HSLE.out, if_neg (by simp), if_pos ⟨by omega, by omega, by omega⟩]
  have HIJ : Hid ((i : Int) + (j : Int) ≤ a2.length) := by unfold Hid; omega
  clear hF hHd hm HZM HSLE
  have HSP : Hid (Calls Tryz.prog 15 #[.agg #[.slice a0 ns.length cap0], .int .i64 (n : Int), a2.val oq2 cq2, .int .i64 (i : Int), .int .i64 (j : Int)] w4 fun r w' => ∃ o' c', r = .returned (.tuple #[(cutA a2 i j).val o' c', .int .i64 0]) ∧ HoldsO 140737488351232 w' (fq2 + 1) (fun b => w4.heap.size ≤ b) ((cutA a2 i j).cells o' c') (cutA a2 i j) ∧ Below w4.heap.size w4 w') := by
    have := sliceP 140737488351232 fq2 ns a0 cap0 n a2 oq2 cq2 i j (WalkArith.wf_i64 (by omega)) (WalkArith.wf_i64 (by omega)) w4 (HT.out.later B4.out) (HH.out.later B4.out)
    unfold SlQ at this
    rw [show slA ns (n : Int) (fq2 + 1) a2 (i : Int) (j : Int) = cutA a2 i j from by unfold slA; rw [HSE.out, if_pos rfl, Int.toNat_natCast, Int.toNat_natCast], HSE.out] at this
    exact this
  have hal : a2.length ≤ 64 := by omega
  have HOK : Hid (a2.ok (upB 140737488351232)) := HH.out.ok'.1.up (by unfold upB; omega)
  have c4 := HC4.out
  have d0 := X4.out.c0
  have d1 := X4.out.c1
  have d2 := X4.out.c2
  have d3 := X4.out.c3
  have d4 := X4.out.c4
  have d5 := X4.out.c5
  have d6 := X4.out.c6
  unfold Arr.val at HSP
  go_wp2_with fail
  refine HSP.out.mono ?_
  rintro e w5 ⟨o5, c5, rfl, hh5, b5⟩
  have HO5 : Hid (HoldsO 140737488351232 w5 (fq2 + 1) (fun b => w4.heap.size ≤ b) ((cutA a2 i j).cells o5 c5) (cutA a2 i j)) := hh5
  have B45 : Hid (Below w4.heap.size w4 w5) := b5
  have X5 : Hid (Bx w5 w1.heap.size a2 oq2 cq2) := X4.out.later b5
  clear hh5 b5 c4 d0 d1 d2 d3 d4 d5 d6 HSP
  have EC : Hid (∃ C, C = cutA a2 i j) := ⟨_, rfl⟩
  obtain ⟨wal, eal', xal, bal, zal⟩ := box7 w5 nil none 0
  have eal : w5.alloc (.cells #[.int .i64 0, .int .i64 0, .int .i64 0, .string ⟨#[]⟩, .string ⟨#[]⟩, .string ⟨#[]⟩, .slice none 0 0] 30) = wal := eal'
  have m0 := xal.c0
  have m1 := xal.c1
  have m2 := xal.c2
  have m3 := xal.c3
  have m4 := xal.c4
  have m5 := xal.c5
  have m6 := xal.c6
  have f0 := xal.fz 0
  have f1 := xal.fz 1
  have f2 := xal.fz 2
  have f3 := xal.fz 3
  have f4 := xal.fz 4
  have f5 := xal.fz 5
  have f6 := xal.fz 6
  obtain ⟨w6, efl, xfl, hfl, bfl⟩ := set7 xal (cutA a2 i j) o5 c5
  have XB : Hid (Bx w6 w5.heap.size (cutA a2 i j) o5 c5) := xfl
  have B56 : Hid (Below w5.heap.size w5 w6) := bal.trans (bfl _ (Nat.le_refl _))
  unfold nil at m0 m1 m2 m3 m4 m5 m6
  clear eal' xal bal zal xfl hfl bfl
  go_upto_region 7 with fail
  try rw [efl]
  clear efl eal m0 m1 m2 m3 m4 m5 m6 f0 f1 f2 f3 f4 f5 f6
  have B6 : Hid (Below w.heap.size w w6) := bel2 B4.out (bel2 B45.out B56.out)
  have X6 : Hid (Bx w6 w1.heap.size a2 oq2 cq2) := X5.out.later B56.out
  have HF6 : Hid (HoldsF (upB 140737488351232) 96 w6 (fq2 + 1) ((cutA a2 i j).cells o5 c5) (cutA a2 i j)) := HO5.out.holds.later B56.out
  have HCP : Hid (Calls Tryz.prog 12 #[(cutA a2 i j).val o5 c5] w6 fun r w' => ∃ o' c', r = .returned ((cutA a2 i j).val o' c') ∧ HoldsO (upB 140737488351232) w' (fq2 + 1) (fun b => w6.heap.size ≤ b) ((cutA a2 i j).cells o' c') (cutA a2 i j) ∧ Below w6.heap.size w6 w') := copyF _ (fq2 + 1) (cutA a2 i j) o5 c5 w6 HF6.out (few_of_may HMF.out.1 hn (may_part HMF.out.2 i j HIJ.out))
  have d0 := XB.out.c0
  have d1 := XB.out.c1
  have d2 := XB.out.c2
  have d3 := XB.out.c3
  have d4 := XB.out.c4
  have d5 := XB.out.c5
  have d6 := XB.out.c6
  unfold Arr.val at HCP
  go_wp2_with fail
  refine HCP.out.mono ?_
  rintro e w7 ⟨o7, c7, rfl, hh7, b7⟩
  have HO7 : Hid (HoldsO (upB 140737488351232) w7 (fq2 + 1) (fun b => w6.heap.size ≤ b) ((cutA a2 i j).cells o7 c7) (cutA a2 i j)) := hh7
  have B67 : Hid (Below w6.heap.size w6 w7) := b7
  have XB7 : Hid (Bx w7 w5.heap.size (cutA a2 i j) o5 c5) := XB.out.later b7
  have X7 : Hid (Bx w7 w1.heap.size a2 oq2 cq2) := X6.out.later b7
  clear hh7 b7 d0 d1 d2 d3 d4 d5 d6 HCP
  obtain ⟨wal, eal', xal, bal, zal⟩ := box7 w7 nil none 0
  have eal : w7.alloc (.cells #[.int .i64 0, .int .i64 0, .int .i64 0, .string ⟨#[]⟩, .string ⟨#[]⟩, .string ⟨#[]⟩, .slice none 0 0] 30) = wal := eal'
  have m0 := xal.c0
  have m1 := xal.c1
  have m2 := xal.c2
  have m3 := xal.c3
  have m4 := xal.c4
  have m5 := xal.c5
  have m6 := xal.c6
  have f0 := xal.fz 0
  have f1 := xal.fz 1
  have f2 := xal.fz 2
  have f3 := xal.fz 3
  have f4 := xal.fz 4
  have f5 := xal.fz 5
  have f6 := xal.fz 6
  obtain ⟨w8, efl, xfl, hfl, bfl⟩ := set7 xal (cutA a2 i j) o7 c7
  have XC : Hid (Bx w8 w7.heap.size (cutA a2 i j) o7 c7) := xfl
  have B78 : Hid (Below w7.heap.size w7 w8) := bal.trans (bfl _ (Nat.le_refl _))
  unfold nil at m0 m1 m2 m3 m4 m5 m6
  clear eal' xal bal zal xfl hfl bfl
  go_upto_region 8 with fail
  try rw [efl]
  clear efl eal m0 m1 m2 m3 m4 m5 m6 f0 f1 f2 f3 f4 f5 f6
  have B8 : Hid (Below w.heap.size w w8) := bel2 B6.out (bel2 B67.out B78.out)
  have X8 : Hid (Bx w8 w1.heap.size a2 oq2 cq2) := X7.out.later B78.out
  have XB8 : Hid (Bx w8 w5.heap.size (cutA a2 i j) o5 c5) := XB7.out.later B78.out
  have HO8 : Hid (HoldsO (upB 140737488351232) w8 (fq2 + 1) (fun b => b < w7.heap.size) ((cutA a2 i j).cells o7 c7) (cutA a2 i j)) := HO7.out.lt.stays (fun b hb => B78.out.block b hb.2) (fun b hb => hb.2)
  obtain ⟨w9, e9, x9, h9, b9⟩ := back_box XC.out
  have HS : Hid (w1.heap.size < w7.heap.size ∧ w5.heap.size < w7.heap.size ∧ w.heap.size ≤ w7.heap.size) := ⟨X7.out.lt, XB7.out.lt, (bel2 B6.out B67.out).size⟩
  have X9 : Hid (Bx w9 w1.heap.size a2 oq2 cq2) := ⟨(h9 _ (by have := HS.out; omega)).trans X8.out.blk⟩
  have XB9 : Hid (Bx w9 w5.heap.size (cutA a2 i j) o5 c5) := ⟨(h9 _ (by have := HS.out; omega)).trans XB8.out.blk⟩
  have XC9 : Hid (Bx w9 w7.heap.size a2 o7 c7) := x9
  have B9 : Hid (Below w.heap.size w w9) := B8.out.trans (b9 _ HS.out.2.2)
  have HO9 : Hid (HoldsO (upB 140737488351232) w9 (fq2 + 1) (fun b => b < w7.heap.size) (a2.cells o7 c7) a2) := uncut (HO8.out.stays (fun b hb => h9 b (by omega)) (fun b hb => hb)) HOK.out
  have y1 := X8.out.c1
  have y2 := X8.out.c2
  have z1 := XC.out.c1
  have z2 := XC.out.c2
  have f1 := XC.out.fz 1
  have f2 := XC.out.fz 2
  have ne1 : ¬ w1.heap.size = w7.heap.size := by have := HS.out; omega
  have ne2 : ¬ w7.heap.size = w1.heap.size := by have := HS.out; omega
  clear x9 h9 b9
  go_upto_region 10 with fail
  try rw [e9]
  clear e9 y1 y2 z1 z2 f1 f2 ne1 ne2
  have HSB : Hid (Calls Tryz.prog 17 #[a2.val o7 c7, a2.val oq2 cq2] w9 fun r w' => r = .returned (.bool true) ∧ Below w9.heap.size w9 w') := sameA _ 96 (fq2 + 1) a2 o7 c7 oq2 cq2 w9 HO9.out.holds (HoldsF.up (by unfold upB; omega) (HH.out.later B9.out))
  unfold Arr.val at HSB
  have d0 := XC9.out.c0
  have d1 := XC9.out.c1
  have d2 := XC9.out.c2
  have d3 := XC9.out.c3
  have d4 := XC9.out.c4
  have d5 := XC9.out.c5
  have d6 := XC9.out.c6
  have g0 := X9.out.c0
  have g1 := X9.out.c1
  have g2 := X9.out.c2
  have g3 := X9.out.c3
  have g4 := X9.out.c4
  have g5 := X9.out.c5
  have g6 := X9.out.c6
  go_wp2_with fail
  refine (Tree.num _ _).mono ?_
  rintro e wx ⟨rfl, hv⟩
  subst wx
  go_wp2_with fail
  refine HSB.out.mono ?_
  rintro e w10 ⟨rfl, b10⟩
  have B10 : Hid (Below w.heap.size w w10) := bel2 B9.out b10
  have g1 := (X9.out.later b10).c1
  have g2 := (X9.out.later b10).c2
  have k1 : w10.cell? ⟨w5.heap.size, 1, none⟩ = some (.int .i64 (a2.offset + (i : Int))) := (XB9.out.later b10).c1
  have k2 : w10.cell? ⟨w5.heap.size, 2, none⟩ = some (.int .i64 (j : Int)) := (XB9.out.later b10).c2
  clear b10 d0 d1 d2 d3 d4 d5 d6
  go_wp2
  go_ret
  exact ⟨rfl, B10.out⟩

set_option maxRecDepth 100000 in
theorem lifted (os : Os) (started : os.Started) (H : Type) (enc : TypeId × Value → H) :
    ReturnsInHanded {} Tryz.checked os 7 .any (Rows.sliceSharesSpec.pre6 enc Tryz.prog Tryz.f7 Rows.sliceSharesRow.domain false) (Rows.sliceSharesSpec.post enc Tryz.prog Tryz.f7 false true false false) := by
  refine returnsInHanded_of_change_sized (C := Tryz.checked) own started (by kernel_rfl) Tryz.func7
    (ChangeSpec.witness6 (enc := enc) (C := Tryz.checked) false ⟨#[], #[.agg #[.slice none 0 0], .int .i64 0, .agg #[.int .i64 0, .int .i64 0, .int .i64 0, .string ByteArray.empty, .string ByteArray.empty, .string ByteArray.empty, .slice none 0 0], .int .i64 0], []⟩ 8 (by kernel_rfl) (by kernel_rfl) (by kernel_rfl) (by kernel_rfl)) ?_
  intro W base args ds gs before hval0 hW hcnd hsz0 _
  have hsz : (DataW.weightsEach Tryz.prog (Tryz.f7.params.toList ++ Rows.sliceSharesSpec.plain.varTypes Tryz.prog) (ds ++ gs)).all (· ≤ reachBytes) = true := hsz0
  clear hsz0
  have hval : ∀ (j : Nat) t v, Tryz.f7.params[j]? = some t → args[j]? = some v → Value.okWide Tryz.prog W .any base t v := hval0
  have hW' := hW
  obtain ⟨p, q, hA0, hV, rfl, hfz, hnd⟩ := hW
  have hA : DataW.TrodAll enc Tryz.prog W 0 (fun _ => true) true Tryz.f7.params.toList args.toList ds p := hA0
  rw [Tryz.params7] at hA hval hsz
  obtain ⟨v0, vs0, d0, ds0, p0, q0, hargs, rfl, rfl, h0, r0⟩ := trodAll_cons hA
  obtain ⟨v1, vs1, d1, ds1, p1, q1, rfl, rfl, rfl, h1, r1⟩ := trodAll_cons r0
  obtain ⟨v2, vs2, d2, ds2, p2, q2, rfl, rfl, rfl, h2, r2⟩ := trodAll_cons r1
  obtain ⟨v3, vs3, d3, ds3, p3, q3, rfl, rfl, rfl, h3, r3⟩ := trodAll_cons r2
  obtain ⟨rfl, rfl, rfl⟩ := trodAll_nil r3
  obtain rfl : args = #[v0, v1, v2, v3] := by cases args; simp_all
  obtain ⟨rfl, rfl⟩ := trodVars_none hV
  have k0 := h0
  have lt0 : ∀ x ∈ p0, x.block < W.heap.size := by obtain ⟨m, hm⟩ := k0; exact DataW.trod_lt m _ _ _ hm
  obtain ⟨a0, len0, cap0, z0, rfl, hp0, y0, dy0, hy0⟩ := Tree.open_type Tryz.underlying27 rfl rfl (by kernel_rfl) (by kernel_rfl) Tryz.underlying25 Tryz.underlying24 (by kernel_rfl) rfl rfl rfl (by kernel_rfl) (by kernel_rfl) (by kernel_rfl) Tryz.underlying3 Tryz.underlying3 Tryz.underlying4 (hval 0 27 v0 rfl rfl) h0
  have hs0 : cap0 * 24 ≤ 140737488351232 := by
    have := Tree.sized_type hsz (j := 0) rfl (congrArg some dy0) Tryz.underlying27 Tryz.underlying25 hy0
    rw [show Tryz.prog.bytesOf 24 = 24 from by kernel_rfl] at this
    unfold reachBytes at this
    omega
  obtain ⟨a1, rfl, rfl, rfl, hp1⟩ := open_int Tryz.underlying3 (hval 1 3 v1 rfl rfl) h1
  have k2 := h2
  have lt2 : ∀ x ∈ p2, x.block < W.heap.size := by obtain ⟨m, hm⟩ := k2; exact DataW.trod_lt m _ _ _ hm
  obtain ⟨fq2, a2, oq2, cq2, rfl, hp2⟩ := Arr.open_array (P := Tryz.prog) (T := 30) (S := 28) ⟨Tryz.underlying30, Tryz.underlying28, rfl, (by kernel_rfl), rfl, rfl, rfl, rfl, rfl, rfl, rfl, (by kernel_rfl), (by kernel_rfl), (by kernel_rfl), (by kernel_rfl), (by kernel_rfl), (by kernel_rfl), (by kernel_rfl), Tryz.underlying3, Tryz.underlying3, Tryz.underlying3, Tryz.underlying9, Tryz.underlying9, Tryz.underlying9⟩ (hval 2 30 v2 rfl rfl) h2 (Arr.sized_array hsz (j := 2) rfl rfl)
  rw [show Tryz.prog.bytesOf 30 = 96 from by kernel_rfl] at hp2
  obtain ⟨a3, rfl, rfl, rfl, hp3⟩ := open_int Tryz.underlying3 (hval 3 3 v3 rfl rfl) h3
  clear hA0 hval0
  refine (walk a0 len0 cap0 z0 a1 fq2 a2 oq2 cq2 a3 W hp0 hs0 hp1 hp2 hp3).mono fun e W' ⟨he, bel⟩ => ?_
  subst he
  exact ⟨_, rfl, _, _, _, [], _, [], hW', trodAll_mk1 (shut_bool Tryz.underlying4 _), (trodAll_cons_mk (Below.trod laidOut (by kernel_rfl) (of_decide_eq_true (by kernel_rfl)) k0 bel lt0) (trodAll_cons_mk (shut_int Tryz.underlying3 hp1) (trodAll_cons_mk (Below.trod laidOut (by kernel_rfl) (of_decide_eq_true (by kernel_rfl)) k2 bel lt2) (trodAll_cons_mk (shut_int Tryz.underlying3 hp3) trodAll_mk0)))), rfl, bel.frame _, fun h => by cases h⟩

theorem over : Rows.sliceSharesRow.holds Tryz.pinned (OpenSpec.ofChange Rows.sliceSharesSpec) :=
  OpenClaim.holds_of_wide 7 Tryz.f7 rfl rfl rfl rfl rfl rfl rfl ⟨rfl, rfl, rfl, rfl, rfl⟩ rfl rfl rfl rfl rfl (by kernel_rfl) Tryz.func7 (by kernel_rfl)
    (of_decide_eq_true (by kernel_rfl)) (by unfold Func.isWrapper; first | (rw [if_pos (by decide +kernel)]; kernel_rfl) | (rw [if_neg (by decide +kernel)]; exact ⟨rfl, rfl⟩))
    (fun os started H enc _ => lifted os started H enc)

end Go.Proofs.YthbjeedmhgnnaaaGreat.sliceShares
namespace Go.Proofs.YthbjeedmhgnnaaaGreat
theorem sliceShares_holds : Rows.SliceSharesSaid := sliceShares.over
#print axioms sliceShares_holds
end Go.Proofs.YthbjeedmhgnnaaaGreat
