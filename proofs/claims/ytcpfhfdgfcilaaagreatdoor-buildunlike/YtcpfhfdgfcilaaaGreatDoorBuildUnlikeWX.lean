/-
  BuildUnlike: unlike values make unlike arrays; for every input within reach.
-/
import Derived.Test.YtcpfhfdgfcilaaaGreatDoorRows
import Derived.WalkKit
import Derived.ProofKit
import Derived.OpenShut
import Derived.ShutString
import Derived.ChangeOld
import Derived.Below
import Derived.SizedLaws
import Derived.Deep.QuietTactic
import Derived.WalkSmall
import Derived.BigQuiet
import Derived.Deep.RegionWith
import Derived.OwnWalk
import Derived.RegionTactic
import Derived.ChangeAlike
import Derived.Deep.CutBlock
import Derived.Maps.AppendAt
import Derived.OneCell
import Derived.LaidMore
import Derived.Stop.Joined
import Derived.SevenTiedAt
import Derived.Test.YtcpfhfdgfcilaaaGreatDoorCards
import Derived.Test.YtcpfhfdgfcilaaaGreatDoorTie
import Derived.Test.YtcpfhfdgfcilaaaGreatDoorB01
import Derived.Test.YtcpfhfdgfcilaaaGreatDoorB02
import Derived.Test.YtcpfhfdgfcilaaaGreatDoorB09
import Derived.Test.YtcpfhfdgfcilaaaGreatDoorB11
import Derived.Test.YtcpfhfdgfcilaaaGreatDoorB12
import Derived.Test.YtcpfhfdgfcilaaaGreatDoorB15
import Derived.Test.YtcpfhfdgfcilaaaGreatDoorB13
import Derived.Test.YtcpfhfdgfcilaaaGreatDoorB14
import Derived.Test.YtcpfhfdgfcilaaaGreatDoorB17
import Derived.Test.YtcpfhfdgfcilaaaGreatDoorB30
import Derived.Test.YtcpfhfdgfcilaaaGreatDoorB31
import Derived.Test.YtcpfhfdgfcilaaaGreatDoorB24
namespace Go.Proofs.YtcpfhfdgfcilaaaGreatDoor.buildUnlike
open Go.ChangeShapes Go.WideShapes Go.ChangeAt Go.RowKit
open Go.ChangeMaps (open_string shut_string)
set_option linter.unusedVariables false

theorem own : ownKnob Tryz.prog.godebug = none := by kernel_rfl
theorem laidOut : laidOutB Tryz.prog = true := by kernel_rfl

open Tree Arr
set_option maxRecDepth 20000 in
set_option maxHeartbeats 4000000 in
theorem walk (a0 : Option Addr) (len0 cap0 : Nat) (z0 : List Tree.Nd) (a1 : Int) (a2 : Option Addr) (len2 cap2 : Nat) (z2 : List ByteArray) (a3 : Option Addr) (len3 cap3 : Nat) (z3 : List ByteArray) (w : World) (hw : Hid (Val.HomeE w)) (hp0 : Tree.IsNodes w a0 len0 cap0 z0) (hs0 : cap0 * 24 ≤ 140737488351232) (hp1 : (Lit.int .i64 a1).wf = true) (hp2 : Texts.IsTexts w a2 len2 cap2 z2) (hs2 : cap2 * 16 ≤ 140737488351232) (hp3 : Texts.IsTexts w a3 len3 cap3 z3) (hs3 : cap3 * 16 ≤ 140737488351232) :
    Calls Tryz.prog 10 #[.agg #[.slice a0 len0 cap0], .int .i64 a1, .slice a2 len2 cap2, .slice a3 len3 cap3] w fun e w' => e = .returned (.bool true) ∧ Below w.heap.size w w' := by
  obtain ⟨ns, rfl, hT, hlc, hco⟩ := isT_of hp0
  obtain ⟨ss, rfl, hzt, hX, hcp, hsl⟩ := Texts.isTx_of hp2
  have HT : Hid (IsT w a0 ns) := hT
  have HX : Hid (Texts.IsTx w a2 ss) := hX
  have HSZ : Hid (SizesOk ss) := sizes_in hsl
  obtain ⟨w1, e1, s1, c1, b1⟩ := boxed w (.slice a0 ns.length cap0) 24
  have B1 : Hid (Below w.heap.size w w1) := b1
  have HC1 : Hid (w1.cell? ⟨w.heap.size, 0, none⟩ = some (.slice a0 ns.length cap0)) := c1
  have HBU : Hid (∀ v, Below w.heap.size w v → Calls Tryz.prog 26 #[.agg #[.slice a0 ns.length cap0], .int .i64 a1, .slice a2 ss.length cap2] v (BdQ 4096 ns a1 ss v)) := fun v hv => buildP 4096 (Nat.le_refl _) ns a0 cap0 a1 ss a2 cap2 v HSZ (hw.out.later hv) (HX.out.later hv) (HT.out.later hv)
  obtain ⟨ts, rfl, hzt3, hX3, hcp3, hsl3⟩ := Texts.isTx_of hp3
  have HX3 : Hid (Texts.IsTx w a3 ts) := hX3
  have HSZ3 : Hid (SizesOk ts) := sizes_in hsl3
  have HBU3 : Hid (∀ v, Below w.heap.size w v → Calls Tryz.prog 26 #[.agg #[.slice a0 ns.length cap0], .int .i64 a1, .slice a3 ts.length cap3] v (BdQ 4096 ns a1 ts v)) := fun v hv => buildP 4096 (Nat.le_refl _) ns a0 cap0 a1 ts a3 cap3 v HSZ3 (hw.out.later hv) (HX3.out.later hv) (HT.out.later hv)
  have HTN : Hid (ss.length ≤ 140737488355328 ∧ ts.length ≤ 140737488355328) := ⟨by omega, by omega⟩
  clear hzt3 hX3 hcp3 hsl3 hp3
  clear hp0 hp2 hlc hco hT hX hsl b1 c1 hzt hcp
  have HB1 : Hid (∀ v, Below w.heap.size w v → Calls Tryz.prog 26 #[.agg #[.slice a0 ns.length cap0], .int .i64 a1, .slice a2 ss.length cap2] v fun r w' => ∃ (o' : Option Addr) (c' : Nat), r = .returned (.tuple #[(bdA ns a1 ss).val o' c', .int .i64 (bdE ns a1 ss)]) ∧ HoldsF (upB 4096) 96 w' 8 ((bdA ns a1 ss).cells o' c') (bdA ns a1 ss) ∧ Below v.heap.size v w') := fun v hv => by
    refine (HBU.out v hv).mono ?_
    rintro e w' ⟨o', c', h1, h2, h3⟩
    exact ⟨o', c', h1, h2.holds, h3⟩
  have HB2 : Hid (∀ v, Below w.heap.size w v → Calls Tryz.prog 26 #[.agg #[.slice a0 ns.length cap0], .int .i64 a1, .slice a3 ts.length cap3] v fun r w' => ∃ (o' : Option Addr) (c' : Nat), r = .returned (.tuple #[(bdA ns a1 ts).val o' c', .int .i64 (bdE ns a1 ts)]) ∧ HoldsF (upB 4096) 96 w' 8 ((bdA ns a1 ts).cells o' c') (bdA ns a1 ts) ∧ Below v.heap.size v w') := fun v hv => by
    refine (HBU3.out v hv).mono ?_
    rintro e w' ⟨o', c', h1, h2, h3⟩
    exact ⟨o', c', h1, h2.holds, h3⟩
  have HNA : Hid (bdE ns a1 ss ≠ 0 → bdA ns a1 ss = nil) := bd_nil
  have HNB : Hid (bdE ns a1 ts ≠ 0 → bdA ns a1 ts = nil) := bd_nil
  have HEQ : Hid (bdE ns a1 ss = 0 → bdE ns a1 ts = 0 → (bdA ns a1 ss = bdA ns a1 ts ↔ ss = ts)) := fun h1 h2 => ⟨fun h => by rw [← (bd_back h1).2.1, ← (bd_back h2).2.1, h], fun h => by rw [h]⟩
  clear HBU HBU3
  generalize bdA ns a1 ss = A at *
  generalize bdE ns a1 ss = E at *
  generalize bdA ns a1 ts = Bb at *
  generalize bdE ns a1 ts = G at *
  go_enter Tryz.func10, Tryz.ntmps10
  go_wp2_with fail
  refine (awakeB w1 (hw.out.later B1.out)).mono ?_
  rintro e w2 ⟨rfl, b2⟩
  have B2 : Hid (Below w.heap.size w w2) := bel2 B1.out b2
  have HC2 : Hid (w2.cell? ⟨w.heap.size, 0, none⟩ = some (.slice a0 ns.length cap0)) := cell_later b2 HC1.out
  have cT := HC2.out
  clear b2 e1
  go_wp2_with fail
  refine (HB1.out w2 B2.out).mono ?_
  rintro e w3 ⟨oA, cA, rfl, hA, b3⟩
  have B3 : Hid (Below w.heap.size w w3) := bel2 B2.out b3
  have HA3 : Hid (HoldsF (upB 4096) 96 w3 8 (A.cells oA cA) A) := hA
  have HC3 : Hid (w3.cell? ⟨w.heap.size, 0, none⟩ = some (.slice a0 ns.length cap0)) := cell_later b3 HC2.out
  unfold Arr.val at HB2 ⊢
  clear hA b3 cT HB1
  obtain ⟨wal, eal', xal, bal, zal⟩ := box7 w3 nil none 0
  have eal : w3.alloc (.cells #[.int .i64 0, .int .i64 0, .int .i64 0, .string ⟨#[]⟩, .string ⟨#[]⟩, .string ⟨#[]⟩, .slice none 0 0] 27) = wal := eal'
  have m0 := xal.c0
  have m1 := xal.c1
  have m2 := xal.c2
  have m3 := xal.c3
  have m4 := xal.c4
  have m5 := xal.c5
  have m6 := xal.c6
  have f0 := xal.fz 0
  have f1 := xal.fz 1
  have f2 := xal.fz 2
  have f3 := xal.fz 3
  have f4 := xal.fz 4
  have f5 := xal.fz 5
  have f6 := xal.fz 6
  unfold nil at m0 m1 m2 m3 m4 m5 m6
  obtain ⟨w4, efl, xfl, hfl, bfl⟩ := set7 xal A oA cA
  have X4 : Hid (Bx w4 w3.heap.size A oA cA) := xfl
  have B34 : Hid (Below w3.heap.size w3 w4) := bal.trans (bfl _ (Nat.le_refl _))
  clear eal' xal bal zal xfl hfl bfl
  go_upto_region 4 with fail
  try rw [efl]
  clear efl eal m0 m1 m2 m3 m4 m5 m6 f0 f1 f2 f3 f4 f5 f6
  have B4 : Hid (Below w.heap.size w w4) := bel2 B3.out B34.out
  have HA4 : Hid (HoldsF (upB 4096) 96 w4 8 (A.cells oA cA) A) := HA3.out.later B34.out
  have cT := cell_later B34.out HC3.out
  go_wp2_with fail
  refine (HB2.out w4 B4.out).mono ?_
  rintro e w5 ⟨oB, cB, rfl, hB, b5⟩
  have B45 : Hid (Below w4.heap.size w4 w5) := b5
  have HB5 : Hid (HoldsF (upB 4096) 96 w5 8 (Bb.cells oB cB) Bb) := hB
  clear hB b5 cT HB2
  obtain ⟨wal, eal', xal, bal, zal⟩ := box7 w5 nil none 0
  have eal : w5.alloc (.cells #[.int .i64 0, .int .i64 0, .int .i64 0, .string ⟨#[]⟩, .string ⟨#[]⟩, .string ⟨#[]⟩, .slice none 0 0] 27) = wal := eal'
  have m0 := xal.c0
  have m1 := xal.c1
  have m2 := xal.c2
  have m3 := xal.c3
  have m4 := xal.c4
  have m5 := xal.c5
  have m6 := xal.c6
  have f0 := xal.fz 0
  have f1 := xal.fz 1
  have f2 := xal.fz 2
  have f3 := xal.fz 3
  have f4 := xal.fz 4
  have f5 := xal.fz 5
  have f6 := xal.fz 6
  unfold nil at m0 m1 m2 m3 m4 m5 m6
  obtain ⟨w6, efl, xfl, hfl, bfl⟩ := set7 xal Bb oB cB
  have X6 : Hid (Bx w6 w5.heap.size Bb oB cB) := xfl
  have B56 : Hid (Below w5.heap.size w5 w6) := bal.trans (bfl _ (Nat.le_refl _))
  clear eal' xal bal zal xfl hfl bfl
  go_upto_region 5 with fail
  try rw [efl]
  clear efl eal m0 m1 m2 m3 m4 m5 m6 f0 f1 f2 f3 f4 f5 f6
  have B46 : Hid (Below w4.heap.size w4 w6) := bel2 B45.out B56.out
  have B6 : Hid (Below w.heap.size w w6) := bel2 B4.out B46.out
  have HA6 : Hid (HoldsF (upB 4096) 96 w6 8 (A.cells oA cA) A) := HA4.out.later B46.out
  have HB6 : Hid (HoldsF (upB 4096) 96 w6 8 (Bb.cells oB cB) Bb) := HB5.out.later B56.out
  have XA6 : Hid (Bx w6 w3.heap.size A oA cA) := X4.out.later B46.out
  have d0 := XA6.out.c0
  have d1 := XA6.out.c1
  have d2 := XA6.out.c2
  have d3 := XA6.out.c3
  have d4 := XA6.out.c4
  have d5 := XA6.out.c5
  have d6 := XA6.out.c6
  have g0 := X6.out.c0
  have g1 := X6.out.c1
  have g2 := X6.out.c2
  have g3 := X6.out.c3
  have g4 := X6.out.c4
  have g5 := X6.out.c5
  have g6 := X6.out.c6
  by_cases hE : E = 0
  · subst hE
    by_cases hG : G = 0
    · subst hG
      have HS : Hid (sameB 8 A Bb = sameT ss ts) := by
        have h1 := sameB_iff (b := Bb) HA6.out
        have h2 := HEQ.out rfl rfl
        unfold Hid sameT
        by_cases c : ss = ts
        · rw [decide_eq_true c]
          exact h1.2 (h2.2 c)
        · rw [decide_eq_false c]
          cases hq : sameB 8 A Bb
          · rfl
          · exact absurd (h2.1 (h1.1 hq)) c
      have HSA : Hid (Calls Tryz.prog 28 #[A.val oA cA, Bb.val oB cB] w6 fun r w' => r = .returned (.bool (sameB 8 A Bb)) ∧ Below w6.heap.size w6 w') := sameG (upB 4096) 96 8 A oA cA Bb oB cB w6 HA6.out HB6.out
      have HST : Hid (∀ v, Below w.heap.size w v → Calls Tryz.prog 22 #[.slice a2 ss.length cap2, .slice a3 ts.length cap3] v fun r w' => r = .returned (.bool (sameT ss ts)) ∧ Below v.heap.size v w') := fun v hv => sameTextsG a2 a3 cap2 cap3 ss ts HTN.out.1 HTN.out.2 v (HX.out.later hv) (HX3.out.later hv)
      rw [HS.out] at HSA
      unfold Arr.val at HSA
      generalize sameT ss ts = R at *
      clear HS HEQ HNA HNB
      go_wp2_with fail
      refine (Tree.num _ _).mono ?_
      rintro e wx ⟨rfl, hv⟩
      subst wx
      go_wp2_with fail
      refine (Tree.num _ _).mono ?_
      rintro e wx ⟨rfl, hv⟩
      subst wx
      go_wp2_with fail
      refine HSA.out.mono ?_
      rintro e w7 ⟨rfl, b7⟩
      have B7 : Hid (Below w.heap.size w w7) := bel2 B6.out b7
      clear b7 d0 d1 d2 d3 d4 d5 d6 g0 g1 g2 g3 g4 g5 g6
      go_wp2_with fail
      refine (HST.out w7 B7.out).mono ?_
      rintro e w8 ⟨rfl, b8⟩
      have B8 : Hid (Below w.heap.size w w8) := bel2 B7.out b8
      clear b8
      cases R
      · go_wp2
        go_ret
        exact ⟨rfl, B8.out⟩
      · go_wp2
        go_ret
        exact ⟨rfl, B8.out⟩
    · have q : (G != 0) = true := bne_iff_ne.2 hG
      have q2 : (G == 0) = false := beq_eq_false_iff_ne.2 hG
      obtain rfl : Bb = nil := HNB.out hG
      unfold nil at g0 g1 g2 g3 g4 g5 g6
      clear HEQ HNA HNB
      go_wp2_with fail
      refine (Tree.num _ _).mono ?_
      rintro e wx ⟨rfl, hv⟩
      subst wx
      go_wp2_with fail
      refine (Tree.num _ _).mono ?_
      rintro e wx ⟨rfl, hv⟩
      subst wx
      go_wp2_with fail
      refine (Tree.num _ _).mono ?_
      rintro e wx ⟨rfl, hv⟩
      subst wx
      go_wp2_with fail
      refine (Tree.num _ _).mono ?_
      rintro e wx ⟨rfl, hv⟩
      subst wx
      have HSNw7 : Hid (Calls Tryz.prog 28 #[nil.val oB cB, nil.val none 0] w6 fun r w' => r = .returned (.bool true) ∧ Below w6.heap.size w6 w') := sameA (upB 4096) 96 8 nil oB cB none 0 w6 HB6.out ⟨none, 0, rfl, nil_ok' _, Nat.le_refl _, Nat.zero_le _, Nat.zero_le _, .inl ⟨rfl, rfl, rfl⟩⟩
      unfold Arr.val nil at HSNw7
      go_wp2_with fail
      refine HSNw7.out.mono ?_
      rintro e w7 ⟨rfl, bb⟩
      have B7 : Hid (Below w.heap.size w w7) := bel2 B6.out bb
      clear bb d0 d1 d2 d3 d4 d5 d6 g0 g1 g2 g3 g4 g5 g6
      go_wp2
      go_ret
      exact ⟨rfl, B7.out⟩
  · have q : (E != 0) = true := bne_iff_ne.2 hE
    have q2 : (E == 0) = false := beq_eq_false_iff_ne.2 hE
    obtain rfl : A = nil := HNA.out hE
    unfold nil at d0 d1 d2 d3 d4 d5 d6
    clear HEQ HNA
    go_wp2_with fail
    refine (Tree.num _ _).mono ?_
    rintro e wx ⟨rfl, hv⟩
    subst wx
    go_wp2_with fail
    refine (Tree.num _ _).mono ?_
    rintro e wx ⟨rfl, hv⟩
    subst wx
    have HSNw7 : Hid (Calls Tryz.prog 28 #[nil.val oA cA, nil.val none 0] w6 fun r w' => r = .returned (.bool true) ∧ Below w6.heap.size w6 w') := sameA (upB 4096) 96 8 nil oA cA none 0 w6 HA6.out ⟨none, 0, rfl, nil_ok' _, Nat.le_refl _, Nat.zero_le _, Nat.zero_le _, .inl ⟨rfl, rfl, rfl⟩⟩
    unfold Arr.val nil at HSNw7
    go_wp2_with fail
    refine HSNw7.out.mono ?_
    rintro e w7 ⟨rfl, bb⟩
    have B7 : Hid (Below w.heap.size w w7) := bel2 B6.out bb
    have HB7 : Hid (HoldsF (upB 4096) 96 w7 8 (Bb.cells oB cB) Bb) := HB6.out.later bb
    have X7 : Hid (Bx w7 w5.heap.size Bb oB cB) := X6.out.later bb
    clear bb d0 d1 d2 d3 d4 d5 d6 g0 g1 g2 g3 g4 g5 g6
    have g0 := X7.out.c0
    have g1 := X7.out.c1
    have g2 := X7.out.c2
    have g3 := X7.out.c3
    have g4 := X7.out.c4
    have g5 := X7.out.c5
    have g6 := X7.out.c6
    go_wp2_with fail
    refine (Tree.num _ _).mono ?_
    rintro e wx ⟨rfl, hv⟩
    subst wx
    by_cases hG : G = 0
    · subst hG
      go_wp2
      go_ret
      exact ⟨rfl, B7.out⟩
    · have q3 : (G == 0) = false := beq_eq_false_iff_ne.2 hG
      obtain rfl : Bb = nil := HNB.out hG
      unfold nil at g0 g1 g2 g3 g4 g5 g6
      have HSNw8 : Hid (Calls Tryz.prog 28 #[nil.val oB cB, nil.val none 0] w7 fun r w' => r = .returned (.bool true) ∧ Below w7.heap.size w7 w') := sameA (upB 4096) 96 8 nil oB cB none 0 w7 HB7.out ⟨none, 0, rfl, nil_ok' _, Nat.le_refl _, Nat.zero_le _, Nat.zero_le _, .inl ⟨rfl, rfl, rfl⟩⟩
      unfold Arr.val nil at HSNw8
      go_wp2_with fail
      refine HSNw8.out.mono ?_
      rintro e w8 ⟨rfl, bb⟩
      have B8 : Hid (Below w.heap.size w w8) := bel2 B7.out bb
      clear bb g0 g1 g2 g3 g4 g5 g6
      go_wp2
      go_ret
      exact ⟨rfl, B8.out⟩

set_option maxRecDepth 100000 in
theorem lifted (os : Os) (started : os.Started) (H : Type) (enc : TypeId × Value → H) :
    ReturnsInHanded {} Tryz.checked os 10 .any (fun w args => (Rows.buildUnlikeSpec.pre enc Tryz.prog Tryz.f10 [] false w args ∧ laidMetH Tryz.prog Val.laidB w) ∧ sizedMet enc Tryz.prog Tryz.f10 (OpenSpec.ofChange Rows.buildUnlikeSpec) false w args) (Rows.buildUnlikeSpec.post enc Tryz.prog Tryz.f10 false true false false) := by
  refine returnsInHanded_of_change_and (C := Tryz.checked) (X := fun w _ => laidMetH Tryz.prog Val.laidB w) (fun _ _ _ hh h => h.of_heap hh) own started (by kernel_rfl) Tryz.func10
    (ChangeSpec.witness_shaped (enc := enc) (C := Tryz.checked) (os := os) (X := fun w _ => laidMetH Tryz.prog Val.laidB w) false (World.doorLaid Tryz.prog 400 os) #[.agg #[.slice none 0 0], .int .i64 0, .slice none 0 0, .slice none 0 0] 8 rfl (World.shaped_of_RefB (by kernel_rfl) (by kernel_rfl)) (by kernel_rfl) (by kernel_rfl) (by kernel_rfl) (Val.doorB_met os _)) ?_
  intro W base args ds gs before hval0 hW hcnd hsz0 hL _
  have hsz : (DataW.weightsEach Tryz.prog (Tryz.f10.params.toList ++ Rows.buildUnlikeSpec.plain.varTypes Tryz.prog) (ds ++ gs)).all (· ≤ reachBytes) = true := hsz0
  clear hsz0
  have hval : ∀ (j : Nat) t v, Tryz.f10.params[j]? = some t → args[j]? = some v → Value.okWide Tryz.prog W .any base t v := hval0
  have hW' := hW
  obtain ⟨p, q, hA0, hV, rfl, hfz, hnd⟩ := hW
  have hA : DataW.TrodAll enc Tryz.prog W 0 (fun _ => true) true Tryz.f10.params.toList args.toList ds p := hA0
  rw [Tryz.params10] at hA hval hsz
  obtain ⟨v0, vs0, d0, ds0, p0, q0, hargs, rfl, rfl, h0, r0⟩ := trodAll_cons hA
  obtain ⟨v1, vs1, d1, ds1, p1, q1, rfl, rfl, rfl, h1, r1⟩ := trodAll_cons r0
  obtain ⟨v2, vs2, d2, ds2, p2, q2, rfl, rfl, rfl, h2, r2⟩ := trodAll_cons r1
  obtain ⟨v3, vs3, d3, ds3, p3, q3, rfl, rfl, rfl, h3, r3⟩ := trodAll_cons r2
  obtain ⟨rfl, rfl, rfl⟩ := trodAll_nil r3
  obtain rfl : args = #[v0, v1, v2, v3] := by cases args; simp_all
  obtain ⟨rfl, rfl⟩ := trodVars_none hV
  have k0 := h0
  have lt0 : ∀ x ∈ p0, x.block < W.heap.size := by obtain ⟨m, hm⟩ := k0; exact DataW.trod_lt m _ _ _ hm
  obtain ⟨a0, len0, cap0, z0, rfl, hp0, y0, dy0, hy0⟩ := Tree.open_type Tryz.underlying24 rfl rfl (by kernel_rfl) (by kernel_rfl) Tryz.underlying22 Tryz.underlying40 (by kernel_rfl) rfl rfl rfl (by kernel_rfl) (by kernel_rfl) (by kernel_rfl) Tryz.underlying3 Tryz.underlying3 Tryz.underlying4 (hval 0 24 v0 rfl rfl) h0
  have hs0 : cap0 * 24 ≤ 140737488351232 := by
    have := Tree.sized_type hsz (j := 0) rfl (congrArg some dy0) Tryz.underlying24 Tryz.underlying22 hy0
    rw [show Tryz.prog.bytesOf 40 = 24 from by kernel_rfl] at this
    unfold reachBytes at this
    omega
  obtain ⟨a1, rfl, rfl, rfl, hp1⟩ := open_int Tryz.underlying3 (hval 1 3 v1 rfl rfl) h1
  have k2 := h2
  have lt2 : ∀ x ∈ p2, x.block < W.heap.size := by obtain ⟨m, hm⟩ := k2; exact DataW.trod_lt m _ _ _ hm
  obtain ⟨a2, len2, cap2, z2, rfl, hp2, hy2⟩ := Texts.open_texts (P := Tryz.prog) Tryz.underlying29 Tryz.underlying9 (by kernel_rfl) (hval 2 29 v2 rfl rfl) h2
  have hs2 : cap2 * 16 ≤ 140737488351232 := by
    have := Texts.sized_texts hsz (j := 2) (t := 29) (e := 9) rfl rfl Tryz.underlying29 hy2
    rw [show Tryz.prog.bytesOf 9 = 16 from by kernel_rfl] at this
    unfold reachBytes at this
    exact this
  have k3 := h3
  have lt3 : ∀ x ∈ p3, x.block < W.heap.size := by obtain ⟨m, hm⟩ := k3; exact DataW.trod_lt m _ _ _ hm
  obtain ⟨a3, len3, cap3, z3, rfl, hp3, hy3⟩ := Texts.open_texts (P := Tryz.prog) Tryz.underlying29 Tryz.underlying9 (by kernel_rfl) (hval 3 29 v3 rfl rfl) h3
  have hs3 : cap3 * 16 ≤ 140737488351232 := by
    have := Texts.sized_texts hsz (j := 3) (t := 29) (e := 9) rfl rfl Tryz.underlying29 hy3
    rw [show Tryz.prog.bytesOf 9 = 16 from by kernel_rfl] at this
    unfold reachBytes at this
    exact this
  clear hA0 hval0
  refine (walk a0 len0 cap0 z0 a1 a2 len2 cap2 z2 a3 len3 cap3 z3 W (Val.homeB_of hL) hp0 hs0 hp1 hp2 hs2 hp3 hs3).mono fun e W' ⟨he, bel⟩ => ?_
  subst he
  exact ⟨_, rfl, _, _, _, [], _, [], hW', trodAll_mk1 (shut_bool Tryz.underlying4 _), (trodAll_cons_mk (Below.trod laidOut (by kernel_rfl) (of_decide_eq_true (by kernel_rfl)) k0 bel lt0) (trodAll_cons_mk (shut_int Tryz.underlying3 hp1) (trodAll_cons_mk (Below.trod laidOut (by kernel_rfl) (of_decide_eq_true (by kernel_rfl)) k2 bel lt2) (trodAll_cons_mk (Below.trod laidOut (by kernel_rfl) (of_decide_eq_true (by kernel_rfl)) k3 bel lt3) trodAll_mk0)))), rfl, bel.frame _, fun h => by cases h⟩

end Go.Proofs.YtcpfhfdgfcilaaaGreatDoor.buildUnlike
