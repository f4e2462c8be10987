/-
  Values that may not be built: walks.
-/
import Derived.Test.YtcpfhfdgfcilaaaGreatDoorZF
set_option linter.unusedVariables false
set_option linter.unusedSimpArgs false
namespace Go.Proofs.YtcpfhfdgfcilaaaGreatDoor.Arr
open Go.ChangeShapes Go.WideShapes Go.ChangeAt Go.RowKit
open Tree Val Sums
set_option maxRecDepth 20000 in
set_option maxHeartbeats 6400000 in
theorem fW3 (a0 a1 : Int) (w : World) (hw : Hid (HomeE w)) (hR : (IntKind.u64.wrap a0).tmod 9 = 3) : Calls Tryz.prog 7 #[.int .i64 a0, .int .i64 a1] w fun r w' => r = .returned (.bool true) ∧ Below w.heap.size w w' := by
  obtain ⟨D, hD, hD4⟩ : ∃ d : Nat, bits .and .i64 a1 1023 = (d : Int) ∧ d < 1024 := ⟨(a1 % 1024).toNat, by rw [BitP.and_mask a1 10 (by decide) 1023 (by decide)]; omega, by omega⟩
  go_enter Tryz.func7, Tryz.ntmps7
  go_wp2_with fail
  refine (awakeB w hw).mono ?_
  rintro e w0 ⟨rfl, b0⟩
  have B0 : Hid (Below w.heap.size w w0) := b0
  obtain ⟨w1, e1, hT1, b1⟩ : ∃ w1, w0.alloc (.cells #[.int .i64 3, .int .i64 (-1), .bool true, .int .i64 2, .int .i64 0, .bool false] 40) = w1 ∧ w1.heap[w0.heap.size]? = some (.cells #[.int .i64 3, .int .i64 (-1), .bool true, .int .i64 2, .int .i64 0, .bool false] 40) ∧ Below w0.heap.size w0 w1 := ⟨_, rfl, heap_alloc_new _ _, (Below.refl _ _).alloc (Nat.le_refl _) _⟩
  obtain ⟨w2, e2, s2, c2, b2⟩ := boxed w1 (.slice none 0 0) 24
  have hf2 : w2.heap[w1.heap.size]? = some (.cells #[.slice none 0 0] 24) := by rw [← e2]; exact heap_alloc_new _ _
  have z2 : w2.frozen? ⟨w1.heap.size, 0, none⟩ = false := by simp [World.frozen?, hf2]
  obtain ⟨w3, e3⟩ : ∃ w3, w2.setCell ⟨w1.heap.size, 0, none⟩ (.slice (some ⟨w0.heap.size, 0, none⟩) 2 2) = w3 := ⟨_, rfl⟩
  have b13 : Below w1.heap.size w1 w3 := by rw [← e3]; exact b2.setCell (Nat.le_refl _) _
  have hf3 : w3.heap[w1.heap.size]? = some (.cells #[.slice (some ⟨w0.heap.size, 0, none⟩) 2 2] 24) := by
    have := blk_set hf2 0 (.slice (some ⟨w0.heap.size, 0, none⟩) 2 2)
    rw [e3] at this
    exact this
  have B3 : Hid (Below w.heap.size w w3) := bel2 B0.out (bel2 b1 b13)
  have hs13 : w1.heap.size < w3.heap.size := by
    by_cases c : w1.heap.size < w3.heap.size
    · exact c
    · rw [Array.getElem?_eq_none (by omega)] at hf3; cases hf3
  obtain ⟨w4, e4, hf4, b4⟩ : ∃ w4, w3.alloc (.cells #[.string ⟨#[91, 115, 49, 58, 97, 93]⟩] 9) = w4 ∧ w4.heap[w3.heap.size]? = some (.cells #[.string ⟨#[91, 115, 49, 58, 97, 93]⟩] 9) ∧ Below w3.heap.size w3 w4 := ⟨_, rfl, heap_alloc_new _ _, (Below.refl _ _).alloc (Nat.le_refl _) _⟩
  have HF4 : Hid (w4.heap[w1.heap.size]? = some (.cells #[.slice (some ⟨w0.heap.size, 0, none⟩) 2 2] 24)) := (b4.block _ hs13).trans hf3
  have HS4 : Hid (w4.heap[w3.heap.size]? = some (.cells #[.string ⟨#[91, 115, 49, 58, 97, 93]⟩] 9)) := hf4
  have HI4 : Hid (IsT w4 (some ⟨w0.heap.size, 0, none⟩) fT) := ⟨by decide, .inr ⟨_, rfl, (fT_lies hT1).later (bel2 b13 b4)⟩⟩
  have B4 : Hid (Below w.heap.size w w4) := bel2 B3.out b4
  have S13 : Hid (w1.heap.size < w3.heap.size) := hs13
  have L01 : Hid (w0.heap.size < w1.heap.size) := by unfold Hid; rw [← e1]; simp
  clear hT1 b1 b2 hf2 hf3 s2 b13 b0 hf4 b4 hs13
  go_upto_region 6 with fail
  try rw [e3]
  try rw [e4]
  clear e1 e2 e3 c2 z2 e4
  have k1 : w4.cell? ⟨w3.heap.size, 0, none⟩ = some (.string ⟨#[91, 115, 49, 58, 97, 93]⟩) := by simp [World.cell?, HS4.out]
  have k2 : w4.frozen? ⟨w3.heap.size, 0, none⟩ = false := by simp [World.frozen?, HS4.out]
  obtain ⟨w5, e5⟩ : ∃ v, w4.setCell ⟨w3.heap.size, 0, none⟩ (.string ⟨#[91, 110, 93]⟩) = v := ⟨_, rfl⟩
  have HX : Hid (Texts.IsTx w5 (some ⟨w3.heap.size, 0, none⟩) (fS ⟨#[91, 110, 93]⟩)) := by
    refine tx_one ?_
    have := blk_set HS4.out 0 (.string ⟨#[91, 110, 93]⟩)
    rw [e5] at this
    simp [World.cell?, this]
  have b45 : Below w3.heap.size w4 w5 := by rw [← e5]; exact (Below.refl w3.heap.size w4).setCell (p := ⟨w3.heap.size, 0, none⟩) (Nat.le_refl _) _
  have HT : Hid (w5.cell? ⟨w1.heap.size, 0, none⟩ = some (.slice (some ⟨w0.heap.size, 0, none⟩) 2 2)) := (b45.cell (p := ⟨w1.heap.size, 0, none⟩) S13.out).trans (by simp [World.cell?, HF4.out])
  have HI : Hid (IsT w5 (some ⟨w0.heap.size, 0, none⟩) fT) := by
    refine ⟨by decide, .inr ⟨_, rfl, ?_⟩⟩
    rw [← e5]
    rcases HI4.out.2 with h | ⟨x, hx, hl⟩
    · cases h
    · cases hx
      exact lies_setF hl (by have := L01.out; have := S13.out; omega)
  have B5 : Hid (Below w.heap.size w w5) := by
    rw [← e5]
    exact B4.out.setCell (by have := B3.out.size; show w.heap.size ≤ w3.heap.size; omega) _
  clear b45
  go_upto_region 28 with fail
  try rw [e5]
  clear e5 k1 k2
  have HLN : Hid ((fS ⟨#[91, 110, 93]⟩).length = 1) := by unfold Hid; simp [fS, awM]
  have HBU : Hid (Calls Tryz.prog 26 #[.agg #[.slice (some ⟨w0.heap.size, 0, none⟩) 2 2], .int .i64 0, .slice (some ⟨w3.heap.size, 0, none⟩) 1 1] w5 fun r w' => ∃ o c, r = .returned (.tuple #[.agg #[.int .i64 0, .int .i64 0, .int .i64 0, .string ⟨#[]⟩, .string ⟨#[]⟩, .string ⟨#[]⟩, .slice o 0 c], .int .i64 1000]) ∧ HoldsF (upB 4096) 96 w' 8 (nil.cells o c) nil ∧ Below w5.heap.size w5 w') := by
    have := buildP 4096 (Nat.le_refl _) fT (some ⟨w0.heap.size, 0, none⟩) 2 0 (fS ⟨#[91, 110, 93]⟩) (some ⟨w3.heap.size, 0, none⟩) 1 w5 (sizes_of _ (by decide)) (hw.out.later B5.out) HX.out HI.out
    rw [HLN.out] at this
    refine this.mono ?_
    rintro e w' ⟨o', c', h1, h2, h3⟩
    have he : bdE fT 0 (fS ⟨#[91, 110, 93]⟩) = 1000 := fE3
    have ha : bdA fT 0 (fS ⟨#[91, 110, 93]⟩) = nil := bd_nil (by rw [he]; decide)
    rw [he, ha] at h1
    rw [ha] at h2
    exact ⟨o', c', h1, h2.holds, h3⟩
  have cTT := HT.out
  go_wp2_with fail
  refine HBU.out.mono ?_
  rintro e wp ⟨oA, cA, rfl, hAp, bp⟩
  have BP : Hid (Below w.heap.size w wp) := bel2 B5.out bp
  have HAP : Hid (HoldsF (upB 4096) 96 wp 8 (nil.cells oA cA) nil) := hAp
  clear hAp bp cTT HBU
  obtain ⟨wq, ewq', xwq, bwq, zwq⟩ := box7 wp nil none 0
  have ewq : wp.alloc (.cells #[.int .i64 0, .int .i64 0, .int .i64 0, .string ⟨#[]⟩, .string ⟨#[]⟩, .string ⟨#[]⟩, .slice none 0 0] 27) = wq := ewq'
  have m0 := xwq.c0
  have m1 := xwq.c1
  have m2 := xwq.c2
  have m3 := xwq.c3
  have m4 := xwq.c4
  have m5 := xwq.c5
  have m6 := xwq.c6
  have f0 := xwq.fz 0
  have f1 := xwq.fz 1
  have f2 := xwq.fz 2
  have f3 := xwq.fz 3
  have f4 := xwq.fz 4
  have f5 := xwq.fz 5
  have f6 := xwq.fz 6
  unfold nil at m0 m1 m2 m3 m4 m5 m6
  obtain ⟨wz, ewz', xwz, hwz, kwz⟩ := set7 xwq nil oA cA
  have ewz : (((((((wq).setCell ⟨wp.heap.size, 0, none⟩ (.int .i64 0)).setCell ⟨wp.heap.size, 1, none⟩ (.int .i64 0)).setCell ⟨wp.heap.size, 2, none⟩ (.int .i64 0)).setCell ⟨wp.heap.size, 3, none⟩ (.string ⟨#[]⟩)).setCell ⟨wp.heap.size, 4, none⟩ (.string ⟨#[]⟩)).setCell ⟨wp.heap.size, 5, none⟩ (.string ⟨#[]⟩)).setCell ⟨wp.heap.size, 6, none⟩ (.slice oA 0 cA) = wz := ewz'
  have BB : Hid (Below wp.heap.size wp wz) := bwq.trans (kwz _ (Nat.le_refl _))
  have X0 : Hid (wz.cell? ⟨wp.heap.size, 0, none⟩ = some (.int .i64 0)) := xwz.c0
  have X1 : Hid (wz.cell? ⟨wp.heap.size, 1, none⟩ = some (.int .i64 0)) := xwz.c1
  have X2 : Hid (wz.cell? ⟨wp.heap.size, 2, none⟩ = some (.int .i64 0)) := xwz.c2
  have X3 : Hid (wz.cell? ⟨wp.heap.size, 3, none⟩ = some (.string ⟨#[]⟩)) := xwz.c3
  have X4 : Hid (wz.cell? ⟨wp.heap.size, 4, none⟩ = some (.string ⟨#[]⟩)) := xwz.c4
  have X5 : Hid (wz.cell? ⟨wp.heap.size, 5, none⟩ = some (.string ⟨#[]⟩)) := xwz.c5
  have X6 : Hid (wz.cell? ⟨wp.heap.size, 6, none⟩ = some (.slice oA 0 cA)) := xwz.c6
  go_upto_region 29 with fail
  try rw [ewz]
  clear ewq ewq' xwq bwq zwq m0 m1 m2 m3 m4 m5 m6 f0 f1 f2 f3 f4 f5 f6 ewz ewz' xwz hwz kwz
  have BZ : Hid (Below w.heap.size w wz) := bel2 BP.out BB.out
  have HSA : Hid (Calls Tryz.prog 28 #[nil.val oA cA, nil.val none 0] wz fun r w' => r = .returned (.bool true) ∧ Below wz.heap.size wz w') := sameA (upB 4096) 96 8 nil oA cA none 0 wz (HAP.out.later BB.out) ⟨none, 0, rfl, nil_ok' _, Nat.le_refl _, Nat.zero_le _, Nat.zero_le _, .inl ⟨rfl, rfl, rfl⟩⟩
  unfold Arr.val nil at HSA
  have d0 := X0.out
  have d1 := X1.out
  have d2 := X2.out
  have d3 := X3.out
  have d4 := X4.out
  have d5 := X5.out
  have d6 := X6.out
  go_wp2_with fail
  refine HSA.out.mono ?_
  rintro e wy ⟨rfl, by'⟩
  have BY : Hid (Below w.heap.size w wy) := bel2 BZ.out by'
  clear by' d0 d1 d2 d3 d4 d5 d6
  go_wp2_with fail
  refine (Tree.num _ _).mono ?_
  rintro e wx ⟨rfl, hv⟩
  subst wx
  go_wp2
  go_ret
  exact ⟨rfl, BY.out⟩
set_option maxRecDepth 20000 in
set_option maxHeartbeats 6400000 in
theorem fW4 (a0 a1 : Int) (w : World) (hw : Hid (HomeE w)) (hR : (IntKind.u64.wrap a0).tmod 9 = 4) : Calls Tryz.prog 7 #[.int .i64 a0, .int .i64 a1] w fun r w' => r = .returned (.bool true) ∧ Below w.heap.size w w' := by
  obtain ⟨D, hD, hD4⟩ : ∃ d : Nat, bits .and .i64 a1 1023 = (d : Int) ∧ d < 1024 := ⟨(a1 % 1024).toNat, by rw [BitP.and_mask a1 10 (by decide) 1023 (by decide)]; omega, by omega⟩
  go_enter Tryz.func7, Tryz.ntmps7
  go_wp2_with fail
  refine (awakeB w hw).mono ?_
  rintro e w0 ⟨rfl, b0⟩
  have B0 : Hid (Below w.heap.size w w0) := b0
  obtain ⟨w1, e1, hT1, b1⟩ : ∃ w1, w0.alloc (.cells #[.int .i64 3, .int .i64 (-1), .bool true, .int .i64 2, .int .i64 0, .bool false] 40) = w1 ∧ w1.heap[w0.heap.size]? = some (.cells #[.int .i64 3, .int .i64 (-1), .bool true, .int .i64 2, .int .i64 0, .bool false] 40) ∧ Below w0.heap.size w0 w1 := ⟨_, rfl, heap_alloc_new _ _, (Below.refl _ _).alloc (Nat.le_refl _) _⟩
  obtain ⟨w2, e2, s2, c2, b2⟩ := boxed w1 (.slice none 0 0) 24
  have hf2 : w2.heap[w1.heap.size]? = some (.cells #[.slice none 0 0] 24) := by rw [← e2]; exact heap_alloc_new _ _
  have z2 : w2.frozen? ⟨w1.heap.size, 0, none⟩ = false := by simp [World.frozen?, hf2]
  obtain ⟨w3, e3⟩ : ∃ w3, w2.setCell ⟨w1.heap.size, 0, none⟩ (.slice (some ⟨w0.heap.size, 0, none⟩) 2 2) = w3 := ⟨_, rfl⟩
  have b13 : Below w1.heap.size w1 w3 := by rw [← e3]; exact b2.setCell (Nat.le_refl _) _
  have hf3 : w3.heap[w1.heap.size]? = some (.cells #[.slice (some ⟨w0.heap.size, 0, none⟩) 2 2] 24) := by
    have := blk_set hf2 0 (.slice (some ⟨w0.heap.size, 0, none⟩) 2 2)
    rw [e3] at this
    exact this
  have B3 : Hid (Below w.heap.size w w3) := bel2 B0.out (bel2 b1 b13)
  have hs13 : w1.heap.size < w3.heap.size := by
    by_cases c : w1.heap.size < w3.heap.size
    · exact c
    · rw [Array.getElem?_eq_none (by omega)] at hf3; cases hf3
  obtain ⟨w4, e4, hf4, b4⟩ : ∃ w4, w3.alloc (.cells #[.string ⟨#[91, 115, 49, 58, 97, 93]⟩] 9) = w4 ∧ w4.heap[w3.heap.size]? = some (.cells #[.string ⟨#[91, 115, 49, 58, 97, 93]⟩] 9) ∧ Below w3.heap.size w3 w4 := ⟨_, rfl, heap_alloc_new _ _, (Below.refl _ _).alloc (Nat.le_refl _) _⟩
  have HF4 : Hid (w4.heap[w1.heap.size]? = some (.cells #[.slice (some ⟨w0.heap.size, 0, none⟩) 2 2] 24)) := (b4.block _ hs13).trans hf3
  have HS4 : Hid (w4.heap[w3.heap.size]? = some (.cells #[.string ⟨#[91, 115, 49, 58, 97, 93]⟩] 9)) := hf4
  have HI4 : Hid (IsT w4 (some ⟨w0.heap.size, 0, none⟩) fT) := ⟨by decide, .inr ⟨_, rfl, (fT_lies hT1).later (bel2 b13 b4)⟩⟩
  have B4 : Hid (Below w.heap.size w w4) := bel2 B3.out b4
  have S13 : Hid (w1.heap.size < w3.heap.size) := hs13
  have L01 : Hid (w0.heap.size < w1.heap.size) := by unfold Hid; rw [← e1]; simp
  clear hT1 b1 b2 hf2 hf3 s2 b13 b0 hf4 b4 hs13
  go_upto_region 6 with fail
  try rw [e3]
  try rw [e4]
  clear e1 e2 e3 c2 z2 e4
  have k1 : w4.cell? ⟨w3.heap.size, 0, none⟩ = some (.string ⟨#[91, 115, 49, 58, 97, 93]⟩) := by simp [World.cell?, HS4.out]
  have k2 : w4.frozen? ⟨w3.heap.size, 0, none⟩ = false := by simp [World.frozen?, HS4.out]
  obtain ⟨w5, e5⟩ : ∃ v, w4.setCell ⟨w3.heap.size, 0, none⟩ (.string ⟨#[115, 49, 58, 97]⟩) = v := ⟨_, rfl⟩
  have HX : Hid (Texts.IsTx w5 (some ⟨w3.heap.size, 0, none⟩) (fS ⟨#[115, 49, 58, 97]⟩)) := by
    refine tx_one ?_
    have := blk_set HS4.out 0 (.string ⟨#[115, 49, 58, 97]⟩)
    rw [e5] at this
    simp [World.cell?, this]
  have b45 : Below w3.heap.size w4 w5 := by rw [← e5]; exact (Below.refl w3.heap.size w4).setCell (p := ⟨w3.heap.size, 0, none⟩) (Nat.le_refl _) _
  have HT : Hid (w5.cell? ⟨w1.heap.size, 0, none⟩ = some (.slice (some ⟨w0.heap.size, 0, none⟩) 2 2)) := (b45.cell (p := ⟨w1.heap.size, 0, none⟩) S13.out).trans (by simp [World.cell?, HF4.out])
  have HI : Hid (IsT w5 (some ⟨w0.heap.size, 0, none⟩) fT) := by
    refine ⟨by decide, .inr ⟨_, rfl, ?_⟩⟩
    rw [← e5]
    rcases HI4.out.2 with h | ⟨x, hx, hl⟩
    · cases h
    · cases hx
      exact lies_setF hl (by have := L01.out; have := S13.out; omega)
  have B5 : Hid (Below w.heap.size w w5) := by
    rw [← e5]
    exact B4.out.setCell (by have := B3.out.size; show w.heap.size ≤ w3.heap.size; omega) _
  clear b45
  go_upto_region 28 with fail
  try rw [e5]
  clear e5 k1 k2
  have HLN : Hid ((fS ⟨#[115, 49, 58, 97]⟩).length = 1) := by unfold Hid; simp [fS, awM]
  have HBU : Hid (Calls Tryz.prog 26 #[.agg #[.slice (some ⟨w0.heap.size, 0, none⟩) 2 2], .int .i64 0, .slice (some ⟨w3.heap.size, 0, none⟩) 1 1] w5 fun r w' => ∃ o c, r = .returned (.tuple #[.agg #[.int .i64 0, .int .i64 0, .int .i64 0, .string ⟨#[]⟩, .string ⟨#[]⟩, .string ⟨#[]⟩, .slice o 0 c], .int .i64 1000]) ∧ HoldsF (upB 4096) 96 w' 8 (nil.cells o c) nil ∧ Below w5.heap.size w5 w') := by
    have := buildP 4096 (Nat.le_refl _) fT (some ⟨w0.heap.size, 0, none⟩) 2 0 (fS ⟨#[115, 49, 58, 97]⟩) (some ⟨w3.heap.size, 0, none⟩) 1 w5 (sizes_of _ (by decide)) (hw.out.later B5.out) HX.out HI.out
    rw [HLN.out] at this
    refine this.mono ?_
    rintro e w' ⟨o', c', h1, h2, h3⟩
    have he : bdE fT 0 (fS ⟨#[115, 49, 58, 97]⟩) = 1000 := fE4
    have ha : bdA fT 0 (fS ⟨#[115, 49, 58, 97]⟩) = nil := bd_nil (by rw [he]; decide)
    rw [he, ha] at h1
    rw [ha] at h2
    exact ⟨o', c', h1, h2.holds, h3⟩
  have cTT := HT.out
  go_wp2_with fail
  refine HBU.out.mono ?_
  rintro e wp ⟨oA, cA, rfl, hAp, bp⟩
  have BP : Hid (Below w.heap.size w wp) := bel2 B5.out bp
  have HAP : Hid (HoldsF (upB 4096) 96 wp 8 (nil.cells oA cA) nil) := hAp
  clear hAp bp cTT HBU
  obtain ⟨wq, ewq', xwq, bwq, zwq⟩ := box7 wp nil none 0
  have ewq : wp.alloc (.cells #[.int .i64 0, .int .i64 0, .int .i64 0, .string ⟨#[]⟩, .string ⟨#[]⟩, .string ⟨#[]⟩, .slice none 0 0] 27) = wq := ewq'
  have m0 := xwq.c0
  have m1 := xwq.c1
  have m2 := xwq.c2
  have m3 := xwq.c3
  have m4 := xwq.c4
  have m5 := xwq.c5
  have m6 := xwq.c6
  have f0 := xwq.fz 0
  have f1 := xwq.fz 1
  have f2 := xwq.fz 2
  have f3 := xwq.fz 3
  have f4 := xwq.fz 4
  have f5 := xwq.fz 5
  have f6 := xwq.fz 6
  unfold nil at m0 m1 m2 m3 m4 m5 m6
  obtain ⟨wz, ewz', xwz, hwz, kwz⟩ := set7 xwq nil oA cA
  have ewz : (((((((wq).setCell ⟨wp.heap.size, 0, none⟩ (.int .i64 0)).setCell ⟨wp.heap.size, 1, none⟩ (.int .i64 0)).setCell ⟨wp.heap.size, 2, none⟩ (.int .i64 0)).setCell ⟨wp.heap.size, 3, none⟩ (.string ⟨#[]⟩)).setCell ⟨wp.heap.size, 4, none⟩ (.string ⟨#[]⟩)).setCell ⟨wp.heap.size, 5, none⟩ (.string ⟨#[]⟩)).setCell ⟨wp.heap.size, 6, none⟩ (.slice oA 0 cA) = wz := ewz'
  have BB : Hid (Below wp.heap.size wp wz) := bwq.trans (kwz _ (Nat.le_refl _))
  have X0 : Hid (wz.cell? ⟨wp.heap.size, 0, none⟩ = some (.int .i64 0)) := xwz.c0
  have X1 : Hid (wz.cell? ⟨wp.heap.size, 1, none⟩ = some (.int .i64 0)) := xwz.c1
  have X2 : Hid (wz.cell? ⟨wp.heap.size, 2, none⟩ = some (.int .i64 0)) := xwz.c2
  have X3 : Hid (wz.cell? ⟨wp.heap.size, 3, none⟩ = some (.string ⟨#[]⟩)) := xwz.c3
  have X4 : Hid (wz.cell? ⟨wp.heap.size, 4, none⟩ = some (.string ⟨#[]⟩)) := xwz.c4
  have X5 : Hid (wz.cell? ⟨wp.heap.size, 5, none⟩ = some (.string ⟨#[]⟩)) := xwz.c5
  have X6 : Hid (wz.cell? ⟨wp.heap.size, 6, none⟩ = some (.slice oA 0 cA)) := xwz.c6
  go_upto_region 29 with fail
  try rw [ewz]
  clear ewq ewq' xwq bwq zwq m0 m1 m2 m3 m4 m5 m6 f0 f1 f2 f3 f4 f5 f6 ewz ewz' xwz hwz kwz
  have BZ : Hid (Below w.heap.size w wz) := bel2 BP.out BB.out
  have HSA : Hid (Calls Tryz.prog 28 #[nil.val oA cA, nil.val none 0] wz fun r w' => r = .returned (.bool true) ∧ Below wz.heap.size wz w') := sameA (upB 4096) 96 8 nil oA cA none 0 wz (HAP.out.later BB.out) ⟨none, 0, rfl, nil_ok' _, Nat.le_refl _, Nat.zero_le _, Nat.zero_le _, .inl ⟨rfl, rfl, rfl⟩⟩
  unfold Arr.val nil at HSA
  have d0 := X0.out
  have d1 := X1.out
  have d2 := X2.out
  have d3 := X3.out
  have d4 := X4.out
  have d5 := X5.out
  have d6 := X6.out
  go_wp2_with fail
  refine HSA.out.mono ?_
  rintro e wy ⟨rfl, by'⟩
  have BY : Hid (Below w.heap.size w wy) := bel2 BZ.out by'
  clear by' d0 d1 d2 d3 d4 d5 d6
  go_wp2_with fail
  refine (Tree.num _ _).mono ?_
  rintro e wx ⟨rfl, hv⟩
  subst wx
  go_wp2
  go_ret
  exact ⟨rfl, BY.out⟩
set_option maxRecDepth 20000 in
set_option maxHeartbeats 6400000 in
theorem fW5 (a0 a1 : Int) (w : World) (hw : Hid (HomeE w)) (hR : (IntKind.u64.wrap a0).tmod 9 = 5) : Calls Tryz.prog 7 #[.int .i64 a0, .int .i64 a1] w fun r w' => r = .returned (.bool true) ∧ Below w.heap.size w w' := by
  obtain ⟨D, hD, hD4⟩ : ∃ d : Nat, bits .and .i64 a1 1023 = (d : Int) ∧ d < 1024 := ⟨(a1 % 1024).toNat, by rw [BitP.and_mask a1 10 (by decide) 1023 (by decide)]; omega, by omega⟩
  go_enter Tryz.func7, Tryz.ntmps7
  go_wp2_with fail
  refine (awakeB w hw).mono ?_
  rintro e w0 ⟨rfl, b0⟩
  have B0 : Hid (Below w.heap.size w w0) := b0
  obtain ⟨w1, e1, hT1, b1⟩ : ∃ w1, w0.alloc (.cells #[.int .i64 3, .int .i64 (-1), .bool true, .int .i64 2, .int .i64 0, .bool false] 40) = w1 ∧ w1.heap[w0.heap.size]? = some (.cells #[.int .i64 3, .int .i64 (-1), .bool true, .int .i64 2, .int .i64 0, .bool false] 40) ∧ Below w0.heap.size w0 w1 := ⟨_, rfl, heap_alloc_new _ _, (Below.refl _ _).alloc (Nat.le_refl _) _⟩
  obtain ⟨w2, e2, s2, c2, b2⟩ := boxed w1 (.slice none 0 0) 24
  have hf2 : w2.heap[w1.heap.size]? = some (.cells #[.slice none 0 0] 24) := by rw [← e2]; exact heap_alloc_new _ _
  have z2 : w2.frozen? ⟨w1.heap.size, 0, none⟩ = false := by simp [World.frozen?, hf2]
  obtain ⟨w3, e3⟩ : ∃ w3, w2.setCell ⟨w1.heap.size, 0, none⟩ (.slice (some ⟨w0.heap.size, 0, none⟩) 2 2) = w3 := ⟨_, rfl⟩
  have b13 : Below w1.heap.size w1 w3 := by rw [← e3]; exact b2.setCell (Nat.le_refl _) _
  have hf3 : w3.heap[w1.heap.size]? = some (.cells #[.slice (some ⟨w0.heap.size, 0, none⟩) 2 2] 24) := by
    have := blk_set hf2 0 (.slice (some ⟨w0.heap.size, 0, none⟩) 2 2)
    rw [e3] at this
    exact this
  have B3 : Hid (Below w.heap.size w w3) := bel2 B0.out (bel2 b1 b13)
  have hs13 : w1.heap.size < w3.heap.size := by
    by_cases c : w1.heap.size < w3.heap.size
    · exact c
    · rw [Array.getElem?_eq_none (by omega)] at hf3; cases hf3
  obtain ⟨w4, e4, hf4, b4⟩ : ∃ w4, w3.alloc (.cells #[.string ⟨#[91, 115, 49, 58, 97, 93]⟩] 9) = w4 ∧ w4.heap[w3.heap.size]? = some (.cells #[.string ⟨#[91, 115, 49, 58, 97, 93]⟩] 9) ∧ Below w3.heap.size w3 w4 := ⟨_, rfl, heap_alloc_new _ _, (Below.refl _ _).alloc (Nat.le_refl _) _⟩
  have HF4 : Hid (w4.heap[w1.heap.size]? = some (.cells #[.slice (some ⟨w0.heap.size, 0, none⟩) 2 2] 24)) := (b4.block _ hs13).trans hf3
  have HS4 : Hid (w4.heap[w3.heap.size]? = some (.cells #[.string ⟨#[91, 115, 49, 58, 97, 93]⟩] 9)) := hf4
  have HI4 : Hid (IsT w4 (some ⟨w0.heap.size, 0, none⟩) fT) := ⟨by decide, .inr ⟨_, rfl, (fT_lies hT1).later (bel2 b13 b4)⟩⟩
  have B4 : Hid (Below w.heap.size w w4) := bel2 B3.out b4
  have S13 : Hid (w1.heap.size < w3.heap.size) := hs13
  have L01 : Hid (w0.heap.size < w1.heap.size) := by unfold Hid; rw [← e1]; simp
  clear hT1 b1 b2 hf2 hf3 s2 b13 b0 hf4 b4 hs13
  go_upto_region 6 with fail
  try rw [e3]
  try rw [e4]
  clear e1 e2 e3 c2 z2 e4
  have k1 : w4.cell? ⟨w3.heap.size, 0, none⟩ = some (.string ⟨#[91, 115, 49, 58, 97, 93]⟩) := by simp [World.cell?, HS4.out]
  have k2 : w4.frozen? ⟨w3.heap.size, 0, none⟩ = false := by simp [World.frozen?, HS4.out]
  obtain ⟨w5, e5⟩ : ∃ v, w4.setCell ⟨w3.heap.size, 0, none⟩ (.string ⟨#[91, 115, 49, 55, 58, 97, 97, 97, 97, 97, 97, 97, 97, 97, 97, 97, 97, 97, 97, 97, 97, 97, 93]⟩) = v := ⟨_, rfl⟩
  have HX : Hid (Texts.IsTx w5 (some ⟨w3.heap.size, 0, none⟩) (fS ⟨#[91, 115, 49, 55, 58, 97, 97, 97, 97, 97, 97, 97, 97, 97, 97, 97, 97, 97, 97, 97, 97, 97, 93]⟩)) := by
    refine tx_one ?_
    have := blk_set HS4.out 0 (.string ⟨#[91, 115, 49, 55, 58, 97, 97, 97, 97, 97, 97, 97, 97, 97, 97, 97, 97, 97, 97, 97, 97, 97, 93]⟩)
    rw [e5] at this
    simp [World.cell?, this]
  have b45 : Below w3.heap.size w4 w5 := by rw [← e5]; exact (Below.refl w3.heap.size w4).setCell (p := ⟨w3.heap.size, 0, none⟩) (Nat.le_refl _) _
  have HT : Hid (w5.cell? ⟨w1.heap.size, 0, none⟩ = some (.slice (some ⟨w0.heap.size, 0, none⟩) 2 2)) := (b45.cell (p := ⟨w1.heap.size, 0, none⟩) S13.out).trans (by simp [World.cell?, HF4.out])
  have HI : Hid (IsT w5 (some ⟨w0.heap.size, 0, none⟩) fT) := by
    refine ⟨by decide, .inr ⟨_, rfl, ?_⟩⟩
    rw [← e5]
    rcases HI4.out.2 with h | ⟨x, hx, hl⟩
    · cases h
    · cases hx
      exact lies_setF hl (by have := L01.out; have := S13.out; omega)
  have B5 : Hid (Below w.heap.size w w5) := by
    rw [← e5]
    exact B4.out.setCell (by have := B3.out.size; show w.heap.size ≤ w3.heap.size; omega) _
  clear b45
  go_upto_region 28 with fail
  try rw [e5]
  clear e5 k1 k2
  have HLN : Hid ((fS ⟨#[91, 115, 49, 55, 58, 97, 97, 97, 97, 97, 97, 97, 97, 97, 97, 97, 97, 97, 97, 97, 97, 97, 93]⟩).length = 1) := by unfold Hid; simp [fS, awM]
  have HBU : Hid (Calls Tryz.prog 26 #[.agg #[.slice (some ⟨w0.heap.size, 0, none⟩) 2 2], .int .i64 0, .slice (some ⟨w3.heap.size, 0, none⟩) 1 1] w5 fun r w' => ∃ o c, r = .returned (.tuple #[.agg #[.int .i64 0, .int .i64 0, .int .i64 0, .string ⟨#[]⟩, .string ⟨#[]⟩, .string ⟨#[]⟩, .slice o 0 c], .int .i64 1000]) ∧ HoldsF (upB 4096) 96 w' 8 (nil.cells o c) nil ∧ Below w5.heap.size w5 w') := by
    have := buildP 4096 (Nat.le_refl _) fT (some ⟨w0.heap.size, 0, none⟩) 2 0 (fS ⟨#[91, 115, 49, 55, 58, 97, 97, 97, 97, 97, 97, 97, 97, 97, 97, 97, 97, 97, 97, 97, 97, 97, 93]⟩) (some ⟨w3.heap.size, 0, none⟩) 1 w5 (sizes_of _ (by decide)) (hw.out.later B5.out) HX.out HI.out
    rw [HLN.out] at this
    refine this.mono ?_
    rintro e w' ⟨o', c', h1, h2, h3⟩
    have he : bdE fT 0 (fS ⟨#[91, 115, 49, 55, 58, 97, 97, 97, 97, 97, 97, 97, 97, 97, 97, 97, 97, 97, 97, 97, 97, 97, 93]⟩) = 1000 := fE5
    have ha : bdA fT 0 (fS ⟨#[91, 115, 49, 55, 58, 97, 97, 97, 97, 97, 97, 97, 97, 97, 97, 97, 97, 97, 97, 97, 97, 97, 93]⟩) = nil := bd_nil (by rw [he]; decide)
    rw [he, ha] at h1
    rw [ha] at h2
    exact ⟨o', c', h1, h2.holds, h3⟩
  have cTT := HT.out
  go_wp2_with fail
  refine HBU.out.mono ?_
  rintro e wp ⟨oA, cA, rfl, hAp, bp⟩
  have BP : Hid (Below w.heap.size w wp) := bel2 B5.out bp
  have HAP : Hid (HoldsF (upB 4096) 96 wp 8 (nil.cells oA cA) nil) := hAp
  clear hAp bp cTT HBU
  obtain ⟨wq, ewq', xwq, bwq, zwq⟩ := box7 wp nil none 0
  have ewq : wp.alloc (.cells #[.int .i64 0, .int .i64 0, .int .i64 0, .string ⟨#[]⟩, .string ⟨#[]⟩, .string ⟨#[]⟩, .slice none 0 0] 27) = wq := ewq'
  have m0 := xwq.c0
  have m1 := xwq.c1
  have m2 := xwq.c2
  have m3 := xwq.c3
  have m4 := xwq.c4
  have m5 := xwq.c5
  have m6 := xwq.c6
  have f0 := xwq.fz 0
  have f1 := xwq.fz 1
  have f2 := xwq.fz 2
  have f3 := xwq.fz 3
  have f4 := xwq.fz 4
  have f5 := xwq.fz 5
  have f6 := xwq.fz 6
  unfold nil at m0 m1 m2 m3 m4 m5 m6
  obtain ⟨wz, ewz', xwz, hwz, kwz⟩ := set7 xwq nil oA cA
  have ewz : (((((((wq).setCell ⟨wp.heap.size, 0, none⟩ (.int .i64 0)).setCell ⟨wp.heap.size, 1, none⟩ (.int .i64 0)).setCell ⟨wp.heap.size, 2, none⟩ (.int .i64 0)).setCell ⟨wp.heap.size, 3, none⟩ (.string ⟨#[]⟩)).setCell ⟨wp.heap.size, 4, none⟩ (.string ⟨#[]⟩)).setCell ⟨wp.heap.size, 5, none⟩ (.string ⟨#[]⟩)).setCell ⟨wp.heap.size, 6, none⟩ (.slice oA 0 cA) = wz := ewz'
  have BB : Hid (Below wp.heap.size wp wz) := bwq.trans (kwz _ (Nat.le_refl _))
  have X0 : Hid (wz.cell? ⟨wp.heap.size, 0, none⟩ = some (.int .i64 0)) := xwz.c0
  have X1 : Hid (wz.cell? ⟨wp.heap.size, 1, none⟩ = some (.int .i64 0)) := xwz.c1
  have X2 : Hid (wz.cell? ⟨wp.heap.size, 2, none⟩ = some (.int .i64 0)) := xwz.c2
  have X3 : Hid (wz.cell? ⟨wp.heap.size, 3, none⟩ = some (.string ⟨#[]⟩)) := xwz.c3
  have X4 : Hid (wz.cell? ⟨wp.heap.size, 4, none⟩ = some (.string ⟨#[]⟩)) := xwz.c4
  have X5 : Hid (wz.cell? ⟨wp.heap.size, 5, none⟩ = some (.string ⟨#[]⟩)) := xwz.c5
  have X6 : Hid (wz.cell? ⟨wp.heap.size, 6, none⟩ = some (.slice oA 0 cA)) := xwz.c6
  go_upto_region 29 with fail
  try rw [ewz]
  clear ewq ewq' xwq bwq zwq m0 m1 m2 m3 m4 m5 m6 f0 f1 f2 f3 f4 f5 f6 ewz ewz' xwz hwz kwz
  have BZ : Hid (Below w.heap.size w wz) := bel2 BP.out BB.out
  have HSA : Hid (Calls Tryz.prog 28 #[nil.val oA cA, nil.val none 0] wz fun r w' => r = .returned (.bool true) ∧ Below wz.heap.size wz w') := sameA (upB 4096) 96 8 nil oA cA none 0 wz (HAP.out.later BB.out) ⟨none, 0, rfl, nil_ok' _, Nat.le_refl _, Nat.zero_le _, Nat.zero_le _, .inl ⟨rfl, rfl, rfl⟩⟩
  unfold Arr.val nil at HSA
  have d0 := X0.out
  have d1 := X1.out
  have d2 := X2.out
  have d3 := X3.out
  have d4 := X4.out
  have d5 := X5.out
  have d6 := X6.out
  go_wp2_with fail
  refine HSA.out.mono ?_
  rintro e wy ⟨rfl, by'⟩
  have BY : Hid (Below w.heap.size w wy) := bel2 BZ.out by'
  clear by' d0 d1 d2 d3 d4 d5 d6
  go_wp2_with fail
  refine (Tree.num _ _).mono ?_
  rintro e wx ⟨rfl, hv⟩
  subst wx
  go_wp2
  go_ret
  exact ⟨rfl, BY.out⟩
end Go.Proofs.YtcpfhfdgfcilaaaGreatDoor.Arr
