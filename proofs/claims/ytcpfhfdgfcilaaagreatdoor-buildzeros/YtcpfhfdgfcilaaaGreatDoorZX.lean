/-
  Zeros below what is nothing: walks.
-/
import Derived.Test.YtcpfhfdgfcilaaaGreatDoorZA
set_option linter.unusedVariables false
namespace Go.Proofs.YtcpfhfdgfcilaaaGreatDoor.Arr
open Go.ChangeShapes Go.WideShapes Go.ChangeAt Go.RowKit
open Tree Val Sums
set_option maxRecDepth 20000 in
set_option maxHeartbeats 6400000 in
theorem zW2f (a1 : Int) (w : World) (hw : Hid (HomeE w)) (hM : bits .and .i64 a1 3 = 2) : Calls Tryz.prog 8 #[.bool false, .int .i64 a1] w fun r w' => r = .returned (.bool true) ∧ Below w.heap.size w w' := by
  go_enter Tryz.func8, Tryz.ntmps8
  go_wp2_with fail
  refine (awakeB w hw).mono ?_
  rintro e w0 ⟨rfl, b0⟩
  have B0 : Hid (Below w.heap.size w w0) := b0
  obtain ⟨w1, e1, hT1, b1⟩ : ∃ w1, w0.alloc (.cells #[.int .i64 4, .int .i64 (-1), .bool true, .int .i64 2, .int .i64 0, .bool false] 40) = w1 ∧ w1.heap[w0.heap.size]? = some (.cells #[.int .i64 4, .int .i64 (-1), .bool true, .int .i64 2, .int .i64 0, .bool false] 40) ∧ Below w0.heap.size w0 w1 := ⟨_, rfl, heap_alloc_new _ _, (Below.refl _ _).alloc (Nat.le_refl _) _⟩
  obtain ⟨w2, e2, s2, c2, b2⟩ := boxed w1 (.slice none 0 0) 24
  have hf2 : w2.heap[w1.heap.size]? = some (.cells #[.slice none 0 0] 24) := by rw [← e2]; exact heap_alloc_new _ _
  have z2 : w2.frozen? ⟨w1.heap.size, 0, none⟩ = false := by simp [World.frozen?, hf2]
  obtain ⟨w3, e3⟩ : ∃ w3, w2.setCell ⟨w1.heap.size, 0, none⟩ (.slice (some ⟨w0.heap.size, 0, none⟩) 2 2) = w3 := ⟨_, rfl⟩
  have b13 : Below w1.heap.size w1 w3 := by rw [← e3]; exact b2.setCell (Nat.le_refl _) _
  have hf3 : w3.heap[w1.heap.size]? = some (.cells #[.slice (some ⟨w0.heap.size, 0, none⟩) 2 2] 24) := by
    have := blk_set hf2 0 (.slice (some ⟨w0.heap.size, 0, none⟩) 2 2)
    rw [e3] at this
    exact this
  have HT3 : Hid (w3.cell? ⟨w1.heap.size, 0, none⟩ = some (.slice (some ⟨w0.heap.size, 0, none⟩) 2 2)) := by
    unfold Hid
    simp [World.cell?, hf3]
  have B3 : Hid (Below w.heap.size w w3) := bel2 B0.out (bel2 b1 b13)
  have HI3 : Hid (IsT w3 (some ⟨w0.heap.size, 0, none⟩) zT2f) := ⟨by decide, .inr ⟨_, rfl, (zL2f hT1).later b13⟩⟩
  clear hT1 b1 b2 hf2 hf3 s2 b13 b0
  go_upto_region 7 with fail
  try rw [e3]
  clear e1 e2 e3 c2 z2
  obtain ⟨w4, e4', ht4, b4⟩ := tx_lit w3 zV (by decide)
  have e4 : w3.alloc (.cells #[.string ⟨#[110]⟩, .string ⟨#[110]⟩] 9) = w4 := e4'
  have B4 : Hid (Below w.heap.size w w4) := bel2 B3.out b4
  have HBU : Hid (Calls Tryz.prog 26 #[.agg #[.slice (some ⟨w0.heap.size, 0, none⟩) 2 2], .int .i64 0, .slice (some ⟨w3.heap.size, 0, none⟩) 2 2] w4 fun r w' => ∃ o c, r = .returned (.tuple #[zA2f.val o c, .int .i64 0]) ∧ HoldsO 4096 w' 8 (fun b => w4.heap.size ≤ b) (zA2f.cells o c) zA2f ∧ Below w4.heap.size w4 w') := by
    refine (buildP 4096 (Nat.le_refl _) zT2f (some ⟨w0.heap.size, 0, none⟩) 2 0 zV (some ⟨w3.heap.size, 0, none⟩) 2 w4 (sizes_of _ (by decide)) (hw.out.later B4.out) ht4 (HI3.out.later b4)).mono ?_
    rintro e w' ⟨o', c', h1, h2, h3⟩
    rw [zE2f, zB2f] at h1
    rw [zB2f] at h2
    exact ⟨o', c', h1, h2, h3⟩
  have cT3 := HT3.out
  clear ht4 b4 e4'
  go_wp2_with fail
  try rw [e4]
  refine HBU.out.mono ?_
  rintro e w5 ⟨oA, cA, rfl, hA5, b5⟩
  obtain ⟨g, oK, cK, rfl, k0, k1, k2, k3, k4, k5, k6⟩ := kid1 hA5 rfl
  have B5 : Hid (Below w.heap.size w w5) := bel2 B4.out b5
  have HK0 : Hid (w5.cell? ⟨g, 0, none⟩ = some (.int .i64 0)) := k0
  have HK1 : Hid (w5.cell? ⟨g, 1, none⟩ = some (.int .i64 0)) := k1
  have HK2 : Hid (w5.cell? ⟨g, 2, none⟩ = some (.int .i64 2)) := k2
  have HK3 : Hid (w5.cell? ⟨g, 3, none⟩ = some (.string ⟨#[]⟩)) := k3
  have HK4 : Hid (w5.cell? ⟨g, 4, none⟩ = some (.string ⟨#[0, 0, 0, 0, 0, 0, 0, 0, 0, 0, 0, 0]⟩)) := k4
  have HK5 : Hid (w5.cell? ⟨g, 5, none⟩ = some (.string ⟨#[]⟩)) := k5
  have HK6 : Hid (w5.cell? ⟨g, 6, none⟩ = some (.slice oK 0 cK)) := k6
  clear hA5 b5 cT3 e4 HBU k0 k1 k2 k3 k4 k5 k6
  obtain ⟨w6, ew6', xw6, bw6, zw6⟩ := box7 w5 nil none 0
  have ew6 : w5.alloc (.cells #[.int .i64 0, .int .i64 0, .int .i64 0, .string ⟨#[]⟩, .string ⟨#[]⟩, .string ⟨#[]⟩, .slice none 0 0] 27) = w6 := ew6'
  have m0 := xw6.c0
  have m1 := xw6.c1
  have m2 := xw6.c2
  have m3 := xw6.c3
  have m4 := xw6.c4
  have m5 := xw6.c5
  have m6 := xw6.c6
  have f0 := xw6.fz 0
  have f1 := xw6.fz 1
  have f2 := xw6.fz 2
  have f3 := xw6.fz 3
  have f4 := xw6.fz 4
  have f5 := xw6.fz 5
  have f6 := xw6.fz 6
  unfold nil at m0 m1 m2 m3 m4 m5 m6
  obtain ⟨w7, ew7', xw7, hw7, kw7⟩ := set7 xw6 zA2f (some ⟨g, 0, none⟩) cA
  have ew7 : (((((((w6).setCell ⟨w5.heap.size, 0, none⟩ (.int .i64 0)).setCell ⟨w5.heap.size, 1, none⟩ (.int .i64 0)).setCell ⟨w5.heap.size, 2, none⟩ (.int .i64 2)).setCell ⟨w5.heap.size, 3, none⟩ (.string ⟨#[0]⟩)).setCell ⟨w5.heap.size, 4, none⟩ (.string ⟨#[]⟩)).setCell ⟨w5.heap.size, 5, none⟩ (.string ⟨#[]⟩)).setCell ⟨w5.heap.size, 6, none⟩ (.slice (some ⟨g, 0, none⟩) 1 cA) = w7 := ew7'
  have BBw7 : Hid (Below w5.heap.size w5 w7) := bw6.trans (kw7 _ (Nat.le_refl _))
  have Xw70 : Hid (w7.cell? ⟨w5.heap.size, 0, none⟩ = some (.int .i64 0)) := xw7.c0
  have Xw71 : Hid (w7.cell? ⟨w5.heap.size, 1, none⟩ = some (.int .i64 0)) := xw7.c1
  have Xw72 : Hid (w7.cell? ⟨w5.heap.size, 2, none⟩ = some (.int .i64 2)) := xw7.c2
  have Xw73 : Hid (w7.cell? ⟨w5.heap.size, 3, none⟩ = some (.string ⟨#[0]⟩)) := xw7.c3
  have Xw74 : Hid (w7.cell? ⟨w5.heap.size, 4, none⟩ = some (.string ⟨#[]⟩)) := xw7.c4
  have Xw75 : Hid (w7.cell? ⟨w5.heap.size, 5, none⟩ = some (.string ⟨#[]⟩)) := xw7.c5
  have Xw76 : Hid (w7.cell? ⟨w5.heap.size, 6, none⟩ = some (.slice (some ⟨g, 0, none⟩) 1 cA)) := xw7.c6
  try unfold Arr.val zA2f
  go_upto_region 8 with fail
  try rw [ew7]
  clear ew6 ew6' xw6 bw6 zw6 m0 m1 m2 m3 m4 m5 m6 f0 f1 f2 f3 f4 f5 f6 ew7 ew7' xw7 hw7 kw7
  have B7 : Hid (Below w.heap.size w w7) := bel2 B5.out BBw7.out
  have d2 := Xw72.out
  have d3 := Xw73.out
  have d6 := Xw76.out
  have g0 := cell_later BBw7.out HK0.out
  have g1 := cell_later BBw7.out HK1.out
  have g2 := cell_later BBw7.out HK2.out
  have g3 := cell_later BBw7.out HK3.out
  have g4 := cell_later BBw7.out HK4.out
  have g5 := cell_later BBw7.out HK5.out
  have g6 := cell_later BBw7.out HK6.out
  go_wp2_with fail
  refine (Tree.num _ _).mono ?_
  rintro e wx ⟨rfl, hv⟩
  subst wx
  obtain ⟨w8, ew8', xw8, bw8, zw8⟩ := box7 w7 nil none 0
  have ew8 : w7.alloc (.cells #[.int .i64 0, .int .i64 0, .int .i64 0, .string ⟨#[]⟩, .string ⟨#[]⟩, .string ⟨#[]⟩, .slice none 0 0] 27) = w8 := ew8'
  have m0 := xw8.c0
  have m1 := xw8.c1
  have m2 := xw8.c2
  have m3 := xw8.c3
  have m4 := xw8.c4
  have m5 := xw8.c5
  have m6 := xw8.c6
  have f0 := xw8.fz 0
  have f1 := xw8.fz 1
  have f2 := xw8.fz 2
  have f3 := xw8.fz 3
  have f4 := xw8.fz 4
  have f5 := xw8.fz 5
  have f6 := xw8.fz 6
  unfold nil at m0 m1 m2 m3 m4 m5 m6
  obtain ⟨w9, ew9', xw9, hw9, kw9⟩ := set7 xw8 zK2f oK cK
  have ew9 : (((((((w8).setCell ⟨w7.heap.size, 0, none⟩ (.int .i64 0)).setCell ⟨w7.heap.size, 1, none⟩ (.int .i64 0)).setCell ⟨w7.heap.size, 2, none⟩ (.int .i64 2)).setCell ⟨w7.heap.size, 3, none⟩ (.string ⟨#[]⟩)).setCell ⟨w7.heap.size, 4, none⟩ (.string ⟨#[0, 0, 0, 0, 0, 0, 0, 0, 0, 0, 0, 0]⟩)).setCell ⟨w7.heap.size, 5, none⟩ (.string ⟨#[]⟩)).setCell ⟨w7.heap.size, 6, none⟩ (.slice oK 0 cK) = w9 := ew9'
  have BBw9 : Hid (Below w7.heap.size w7 w9) := bw8.trans (kw9 _ (Nat.le_refl _))
  have Xw90 : Hid (w9.cell? ⟨w7.heap.size, 0, none⟩ = some (.int .i64 0)) := xw9.c0
  have Xw91 : Hid (w9.cell? ⟨w7.heap.size, 1, none⟩ = some (.int .i64 0)) := xw9.c1
  have Xw92 : Hid (w9.cell? ⟨w7.heap.size, 2, none⟩ = some (.int .i64 2)) := xw9.c2
  have Xw93 : Hid (w9.cell? ⟨w7.heap.size, 3, none⟩ = some (.string ⟨#[]⟩)) := xw9.c3
  have Xw94 : Hid (w9.cell? ⟨w7.heap.size, 4, none⟩ = some (.string ⟨#[0, 0, 0, 0, 0, 0, 0, 0, 0, 0, 0, 0]⟩)) := xw9.c4
  have Xw95 : Hid (w9.cell? ⟨w7.heap.size, 5, none⟩ = some (.string ⟨#[]⟩)) := xw9.c5
  have Xw96 : Hid (w9.cell? ⟨w7.heap.size, 6, none⟩ = some (.slice oK 0 cK)) := xw9.c6
  try unfold Arr.val zK2f
  go_upto_region 14 with fail
  try rw [ew9]
  clear ew8 ew8' xw8 bw8 zw8 m0 m1 m2 m3 m4 m5 m6 f0 f1 f2 f3 f4 f5 f6 ew9 ew9' xw9 hw9 kw9
  have B9 : Hid (Below w.heap.size w w9) := bel2 B7.out BBw9.out
  clear d2 d3 d6 g0 g1 g2 g3 g4 g5 g6
  have hmk16 : ∀ v : World, (Instr.makeSlice 42 (.int .i64 16) (.int .i64 16)).run Tryz.prog v = .ok (.slice (some ⟨v.heap.size, 0, none⟩) 16 16) (v.alloc (.cells (Bit.zeros 16) 5)) := Bit.make_bytes' 16 (by decide)
  have hbk16 : (convert 42 9 (.slice (some ⟨w9.heap.size, 0, none⟩) 16 16)).run Tryz.prog (w9.alloc (.cells (Bit.zeros 16) 5)) = .ok (.string ⟨#[0, 0, 0, 0, 0, 0, 0, 0, 0, 0, 0, 0, 0, 0, 0, 0]⟩) (w9.alloc (.cells (Bit.zeros 16) 5)) := (Bit.Bytes.zeros w9 16).back rfl
  obtain ⟨w10, e10, b10⟩ : ∃ w10, w9.alloc (.cells (Bit.zeros 16) 5) = w10 ∧ Below w9.heap.size w9 w10 := ⟨_, rfl, (Below.refl _ _).alloc (Nat.le_refl _) _⟩
  rw [e10] at hbk16
  replace hmk16 := hmk16 w9
  rw [e10] at hmk16
  obtain ⟨w11, e11', ht11, b11⟩ := tx_lit w10 zD (by decide)
  have e11 : w10.alloc (.cells #[.string ⟨#[0, 0, 0, 0, 0, 0, 0, 0, 0, 0, 0, 0, 0, 0, 0, 0]⟩, .string ⟨#[0]⟩, .string ⟨#[]⟩, .string ⟨#[]⟩] 9) = w11 := e11'
  have HT11 : Hid (Texts.IsTx w11 (some ⟨w10.heap.size, 0, none⟩) zD) := ht11
  have BW11 : Hid (Below w9.heap.size w9 w11) := bel2 b10 b11
  clear ht11 b10 b11 e11'
  go_upto_region 15 with fail
  try rw [e11]
  clear hmk16 hbk16 e10 e11
  have BW0 : Hid (Below w11.heap.size w11 w11) := Below.refl _ _
  have BWD : Hid (Below w11.heap.size w11 w11.drew) := drewN_below w11 1
  go_cut [12] from 64 to 68 (fun sv wx => ∃ gz : Nat, sv = .slice (some ⟨gz, 0, none⟩) 4 4 ∧ Texts.IsTx wx (some ⟨gz, 0, none⟩) zN ∧ Below w11.heap.size w11 wx)
  case first =>
    have hmk12 : ∀ v : World, (Instr.makeSlice 42 (.int .i64 12) (.int .i64 12)).run Tryz.prog v = .ok (.slice (some ⟨v.heap.size, 0, none⟩) 12 12) (v.alloc (.cells (Bit.zeros 12) 5)) := Bit.make_bytes' 12 (by decide)
    have hbk12 := zbk w11
    have hbk13 := zbk2 w11
    have hbk14 := zbk3 w11 (w11.heap.size + 1) (by simp)
    go_region
    all_goals (try go_wp2_with fail)
    all_goals go_meet
    all_goals exact ⟨_, rfl, tx_new3 w11 _ (by simp), below3 w11⟩
  case rest =>
    obtain ⟨gz, rfl, htn, hbz⟩ := hcut
    have q1 : wc.cell? ⟨w10.heap.size, 2, none⟩ = some (.string ⟨#[]⟩) := cell_later hbz (tx_at HT11.out 2 (by decide))
    have q2 : wc.cell? ⟨gz, 2, none⟩ = some (.string ⟨#[0, 0, 0, 0, 0, 0, 0, 0, 0, 0, 0, 0]⟩) := tx_at htn 2 (by decide)
    have BZ : Hid (Below w9.heap.size w9 wc) := bel2 BW11.out hbz
    have d0 := cell_later BZ.out Xw90.out
    have d1 := cell_later BZ.out Xw91.out
    have d2 := cell_later BZ.out Xw92.out
    have d3 := cell_later BZ.out Xw93.out
    have d4 := cell_later BZ.out Xw94.out
    have d5 := cell_later BZ.out Xw95.out
    have BE : Hid (Below w.heap.size w wc) := bel2 B9.out BZ.out
    clear hbz htn
    go_wp2_with fail
    have t1 : ((⟨#[]⟩ : ByteArray).toList == (⟨#[]⟩ : ByteArray).toList) = true := beq_self_eq_true _
    have t2 : ((⟨#[]⟩ : ByteArray).toList == (⟨#[]⟩ : ByteArray).toList) = true := beq_self_eq_true _
    have t3 : ((⟨#[0, 0, 0, 0, 0, 0, 0, 0, 0, 0, 0, 0]⟩ : ByteArray).toList == (⟨#[0, 0, 0, 0, 0, 0, 0, 0, 0, 0, 0, 0]⟩ : ByteArray).toList) = true := beq_self_eq_true _
    go_quiet (fail)
    go_wp2
    go_ret
    exact ⟨rfl, bel2 BE.out (drewN_below wc _)⟩
set_option maxRecDepth 20000 in
set_option maxHeartbeats 6400000 in
theorem zW2t (a1 : Int) (w : World) (hw : Hid (HomeE w)) (hM : bits .and .i64 a1 3 = 2) : Calls Tryz.prog 8 #[.bool true, .int .i64 a1] w fun r w' => r = .returned (.bool true) ∧ Below w.heap.size w w' := by
  go_enter Tryz.func8, Tryz.ntmps8
  go_wp2_with fail
  refine (awakeB w hw).mono ?_
  rintro e w0 ⟨rfl, b0⟩
  have B0 : Hid (Below w.heap.size w w0) := b0
  obtain ⟨w1, e1, hT1, b1⟩ : ∃ w1, w0.alloc (.cells #[.int .i64 4, .int .i64 (-1), .bool true, .int .i64 2, .int .i64 0, .bool true] 40) = w1 ∧ w1.heap[w0.heap.size]? = some (.cells #[.int .i64 4, .int .i64 (-1), .bool true, .int .i64 2, .int .i64 0, .bool true] 40) ∧ Below w0.heap.size w0 w1 := ⟨_, rfl, heap_alloc_new _ _, (Below.refl _ _).alloc (Nat.le_refl _) _⟩
  obtain ⟨w2, e2, s2, c2, b2⟩ := boxed w1 (.slice none 0 0) 24
  have hf2 : w2.heap[w1.heap.size]? = some (.cells #[.slice none 0 0] 24) := by rw [← e2]; exact heap_alloc_new _ _
  have z2 : w2.frozen? ⟨w1.heap.size, 0, none⟩ = false := by simp [World.frozen?, hf2]
  obtain ⟨w3, e3⟩ : ∃ w3, w2.setCell ⟨w1.heap.size, 0, none⟩ (.slice (some ⟨w0.heap.size, 0, none⟩) 2 2) = w3 := ⟨_, rfl⟩
  have b13 : Below w1.heap.size w1 w3 := by rw [← e3]; exact b2.setCell (Nat.le_refl _) _
  have hf3 : w3.heap[w1.heap.size]? = some (.cells #[.slice (some ⟨w0.heap.size, 0, none⟩) 2 2] 24) := by
    have := blk_set hf2 0 (.slice (some ⟨w0.heap.size, 0, none⟩) 2 2)
    rw [e3] at this
    exact this
  have HT3 : Hid (w3.cell? ⟨w1.heap.size, 0, none⟩ = some (.slice (some ⟨w0.heap.size, 0, none⟩) 2 2)) := by
    unfold Hid
    simp [World.cell?, hf3]
  have B3 : Hid (Below w.heap.size w w3) := bel2 B0.out (bel2 b1 b13)
  have HI3 : Hid (IsT w3 (some ⟨w0.heap.size, 0, none⟩) zT2t) := ⟨by decide, .inr ⟨_, rfl, (zL2t hT1).later b13⟩⟩
  clear hT1 b1 b2 hf2 hf3 s2 b13 b0
  go_upto_region 7 with fail
  try rw [e3]
  clear e1 e2 e3 c2 z2
  obtain ⟨w4, e4', ht4, b4⟩ := tx_lit w3 zV (by decide)
  have e4 : w3.alloc (.cells #[.string ⟨#[110]⟩, .string ⟨#[110]⟩] 9) = w4 := e4'
  have B4 : Hid (Below w.heap.size w w4) := bel2 B3.out b4
  have HBU : Hid (Calls Tryz.prog 26 #[.agg #[.slice (some ⟨w0.heap.size, 0, none⟩) 2 2], .int .i64 0, .slice (some ⟨w3.heap.size, 0, none⟩) 2 2] w4 fun r w' => ∃ o c, r = .returned (.tuple #[zA2t.val o c, .int .i64 0]) ∧ HoldsO 4096 w' 8 (fun b => w4.heap.size ≤ b) (zA2t.cells o c) zA2t ∧ Below w4.heap.size w4 w') := by
    refine (buildP 4096 (Nat.le_refl _) zT2t (some ⟨w0.heap.size, 0, none⟩) 2 0 zV (some ⟨w3.heap.size, 0, none⟩) 2 w4 (sizes_of _ (by decide)) (hw.out.later B4.out) ht4 (HI3.out.later b4)).mono ?_
    rintro e w' ⟨o', c', h1, h2, h3⟩
    rw [zE2t, zB2t] at h1
    rw [zB2t] at h2
    exact ⟨o', c', h1, h2, h3⟩
  have cT3 := HT3.out
  clear ht4 b4 e4'
  go_wp2_with fail
  try rw [e4]
  refine HBU.out.mono ?_
  rintro e w5 ⟨oA, cA, rfl, hA5, b5⟩
  obtain ⟨g, oK, cK, rfl, k0, k1, k2, k3, k4, k5, k6⟩ := kid1 hA5 rfl
  have B5 : Hid (Below w.heap.size w w5) := bel2 B4.out b5
  have HK0 : Hid (w5.cell? ⟨g, 0, none⟩ = some (.int .i64 0)) := k0
  have HK1 : Hid (w5.cell? ⟨g, 1, none⟩ = some (.int .i64 0)) := k1
  have HK2 : Hid (w5.cell? ⟨g, 2, none⟩ = some (.int .i64 2)) := k2
  have HK3 : Hid (w5.cell? ⟨g, 3, none⟩ = some (.string ⟨#[0]⟩)) := k3
  have HK4 : Hid (w5.cell? ⟨g, 4, none⟩ = some (.string ⟨#[0, 0, 0, 0, 0, 0, 0, 0, 0, 0, 0, 0]⟩)) := k4
  have HK5 : Hid (w5.cell? ⟨g, 5, none⟩ = some (.string ⟨#[]⟩)) := k5
  have HK6 : Hid (w5.cell? ⟨g, 6, none⟩ = some (.slice oK 0 cK)) := k6
  clear hA5 b5 cT3 e4 HBU k0 k1 k2 k3 k4 k5 k6
  obtain ⟨w6, ew6', xw6, bw6, zw6⟩ := box7 w5 nil none 0
  have ew6 : w5.alloc (.cells #[.int .i64 0, .int .i64 0, .int .i64 0, .string ⟨#[]⟩, .string ⟨#[]⟩, .string ⟨#[]⟩, .slice none 0 0] 27) = w6 := ew6'
  have m0 := xw6.c0
  have m1 := xw6.c1
  have m2 := xw6.c2
  have m3 := xw6.c3
  have m4 := xw6.c4
  have m5 := xw6.c5
  have m6 := xw6.c6
  have f0 := xw6.fz 0
  have f1 := xw6.fz 1
  have f2 := xw6.fz 2
  have f3 := xw6.fz 3
  have f4 := xw6.fz 4
  have f5 := xw6.fz 5
  have f6 := xw6.fz 6
  unfold nil at m0 m1 m2 m3 m4 m5 m6
  obtain ⟨w7, ew7', xw7, hw7, kw7⟩ := set7 xw6 zA2t (some ⟨g, 0, none⟩) cA
  have ew7 : (((((((w6).setCell ⟨w5.heap.size, 0, none⟩ (.int .i64 0)).setCell ⟨w5.heap.size, 1, none⟩ (.int .i64 0)).setCell ⟨w5.heap.size, 2, none⟩ (.int .i64 2)).setCell ⟨w5.heap.size, 3, none⟩ (.string ⟨#[0]⟩)).setCell ⟨w5.heap.size, 4, none⟩ (.string ⟨#[]⟩)).setCell ⟨w5.heap.size, 5, none⟩ (.string ⟨#[]⟩)).setCell ⟨w5.heap.size, 6, none⟩ (.slice (some ⟨g, 0, none⟩) 1 cA) = w7 := ew7'
  have BBw7 : Hid (Below w5.heap.size w5 w7) := bw6.trans (kw7 _ (Nat.le_refl _))
  have Xw70 : Hid (w7.cell? ⟨w5.heap.size, 0, none⟩ = some (.int .i64 0)) := xw7.c0
  have Xw71 : Hid (w7.cell? ⟨w5.heap.size, 1, none⟩ = some (.int .i64 0)) := xw7.c1
  have Xw72 : Hid (w7.cell? ⟨w5.heap.size, 2, none⟩ = some (.int .i64 2)) := xw7.c2
  have Xw73 : Hid (w7.cell? ⟨w5.heap.size, 3, none⟩ = some (.string ⟨#[0]⟩)) := xw7.c3
  have Xw74 : Hid (w7.cell? ⟨w5.heap.size, 4, none⟩ = some (.string ⟨#[]⟩)) := xw7.c4
  have Xw75 : Hid (w7.cell? ⟨w5.heap.size, 5, none⟩ = some (.string ⟨#[]⟩)) := xw7.c5
  have Xw76 : Hid (w7.cell? ⟨w5.heap.size, 6, none⟩ = some (.slice (some ⟨g, 0, none⟩) 1 cA)) := xw7.c6
  try unfold Arr.val zA2t
  go_upto_region 8 with fail
  try rw [ew7]
  clear ew6 ew6' xw6 bw6 zw6 m0 m1 m2 m3 m4 m5 m6 f0 f1 f2 f3 f4 f5 f6 ew7 ew7' xw7 hw7 kw7
  have B7 : Hid (Below w.heap.size w w7) := bel2 B5.out BBw7.out
  have d2 := Xw72.out
  have d3 := Xw73.out
  have d6 := Xw76.out
  have g0 := cell_later BBw7.out HK0.out
  have g1 := cell_later BBw7.out HK1.out
  have g2 := cell_later BBw7.out HK2.out
  have g3 := cell_later BBw7.out HK3.out
  have g4 := cell_later BBw7.out HK4.out
  have g5 := cell_later BBw7.out HK5.out
  have g6 := cell_later BBw7.out HK6.out
  go_wp2_with fail
  refine (Tree.num _ _).mono ?_
  rintro e wx ⟨rfl, hv⟩
  subst wx
  obtain ⟨w8, ew8', xw8, bw8, zw8⟩ := box7 w7 nil none 0
  have ew8 : w7.alloc (.cells #[.int .i64 0, .int .i64 0, .int .i64 0, .string ⟨#[]⟩, .string ⟨#[]⟩, .string ⟨#[]⟩, .slice none 0 0] 27) = w8 := ew8'
  have m0 := xw8.c0
  have m1 := xw8.c1
  have m2 := xw8.c2
  have m3 := xw8.c3
  have m4 := xw8.c4
  have m5 := xw8.c5
  have m6 := xw8.c6
  have f0 := xw8.fz 0
  have f1 := xw8.fz 1
  have f2 := xw8.fz 2
  have f3 := xw8.fz 3
  have f4 := xw8.fz 4
  have f5 := xw8.fz 5
  have f6 := xw8.fz 6
  unfold nil at m0 m1 m2 m3 m4 m5 m6
  obtain ⟨w9, ew9', xw9, hw9, kw9⟩ := set7 xw8 zK2t oK cK
  have ew9 : (((((((w8).setCell ⟨w7.heap.size, 0, none⟩ (.int .i64 0)).setCell ⟨w7.heap.size, 1, none⟩ (.int .i64 0)).setCell ⟨w7.heap.size, 2, none⟩ (.int .i64 2)).setCell ⟨w7.heap.size, 3, none⟩ (.string ⟨#[0]⟩)).setCell ⟨w7.heap.size, 4, none⟩ (.string ⟨#[0, 0, 0, 0, 0, 0, 0, 0, 0, 0, 0, 0]⟩)).setCell ⟨w7.heap.size, 5, none⟩ (.string ⟨#[]⟩)).setCell ⟨w7.heap.size, 6, none⟩ (.slice oK 0 cK) = w9 := ew9'
  have BBw9 : Hid (Below w7.heap.size w7 w9) := bw8.trans (kw9 _ (Nat.le_refl _))
  have Xw90 : Hid (w9.cell? ⟨w7.heap.size, 0, none⟩ = some (.int .i64 0)) := xw9.c0
  have Xw91 : Hid (w9.cell? ⟨w7.heap.size, 1, none⟩ = some (.int .i64 0)) := xw9.c1
  have Xw92 : Hid (w9.cell? ⟨w7.heap.size, 2, none⟩ = some (.int .i64 2)) := xw9.c2
  have Xw93 : Hid (w9.cell? ⟨w7.heap.size, 3, none⟩ = some (.string ⟨#[0]⟩)) := xw9.c3
  have Xw94 : Hid (w9.cell? ⟨w7.heap.size, 4, none⟩ = some (.string ⟨#[0, 0, 0, 0, 0, 0, 0, 0, 0, 0, 0, 0]⟩)) := xw9.c4
  have Xw95 : Hid (w9.cell? ⟨w7.heap.size, 5, none⟩ = some (.string ⟨#[]⟩)) := xw9.c5
  have Xw96 : Hid (w9.cell? ⟨w7.heap.size, 6, none⟩ = some (.slice oK 0 cK)) := xw9.c6
  try unfold Arr.val zK2t
  go_upto_region 14 with fail
  try rw [ew9]
  clear ew8 ew8' xw8 bw8 zw8 m0 m1 m2 m3 m4 m5 m6 f0 f1 f2 f3 f4 f5 f6 ew9 ew9' xw9 hw9 kw9
  have B9 : Hid (Below w.heap.size w w9) := bel2 B7.out BBw9.out
  clear d2 d3 d6 g0 g1 g2 g3 g4 g5 g6
  have hmk16 : ∀ v : World, (Instr.makeSlice 42 (.int .i64 16) (.int .i64 16)).run Tryz.prog v = .ok (.slice (some ⟨v.heap.size, 0, none⟩) 16 16) (v.alloc (.cells (Bit.zeros 16) 5)) := Bit.make_bytes' 16 (by decide)
  have hbk16 : (convert 42 9 (.slice (some ⟨w9.heap.size, 0, none⟩) 16 16)).run Tryz.prog (w9.alloc (.cells (Bit.zeros 16) 5)) = .ok (.string ⟨#[0, 0, 0, 0, 0, 0, 0, 0, 0, 0, 0, 0, 0, 0, 0, 0]⟩) (w9.alloc (.cells (Bit.zeros 16) 5)) := (Bit.Bytes.zeros w9 16).back rfl
  obtain ⟨w10, e10, b10⟩ : ∃ w10, w9.alloc (.cells (Bit.zeros 16) 5) = w10 ∧ Below w9.heap.size w9 w10 := ⟨_, rfl, (Below.refl _ _).alloc (Nat.le_refl _) _⟩
  rw [e10] at hbk16
  replace hmk16 := hmk16 w9
  rw [e10] at hmk16
  obtain ⟨w11, e11', ht11, b11⟩ := tx_lit w10 zD (by decide)
  have e11 : w10.alloc (.cells #[.string ⟨#[0, 0, 0, 0, 0, 0, 0, 0, 0, 0, 0, 0, 0, 0, 0, 0]⟩, .string ⟨#[0]⟩, .string ⟨#[]⟩, .string ⟨#[]⟩] 9) = w11 := e11'
  have HT11 : Hid (Texts.IsTx w11 (some ⟨w10.heap.size, 0, none⟩) zD) := ht11
  have BW11 : Hid (Below w9.heap.size w9 w11) := bel2 b10 b11
  clear ht11 b10 b11 e11'
  go_upto_region 15 with fail
  try rw [e11]
  clear hmk16 hbk16 e10 e11
  have BW0 : Hid (Below w11.heap.size w11 w11) := Below.refl _ _
  have BWD : Hid (Below w11.heap.size w11 w11.drew) := drewN_below w11 1
  go_cut [12] from 64 to 68 (fun sv wx => ∃ gz : Nat, sv = .slice (some ⟨gz, 0, none⟩) 4 4 ∧ Texts.IsTx wx (some ⟨gz, 0, none⟩) zN ∧ Below w11.heap.size w11 wx)
  case first =>
    have hmk12 : ∀ v : World, (Instr.makeSlice 42 (.int .i64 12) (.int .i64 12)).run Tryz.prog v = .ok (.slice (some ⟨v.heap.size, 0, none⟩) 12 12) (v.alloc (.cells (Bit.zeros 12) 5)) := Bit.make_bytes' 12 (by decide)
    have hbk12 := zbk w11
    have hbk13 := zbk2 w11
    have hbk14 := zbk3 w11 (w11.heap.size + 1) (by simp)
    go_region
    all_goals (try go_wp2_with fail)
    all_goals go_meet
    all_goals exact ⟨_, rfl, tx_new3 w11 _ (by simp), below3 w11⟩
  case rest =>
    obtain ⟨gz, rfl, htn, hbz⟩ := hcut
    have q1 : wc.cell? ⟨w10.heap.size, 2, none⟩ = some (.string ⟨#[]⟩) := cell_later hbz (tx_at HT11.out 2 (by decide))
    have q2 : wc.cell? ⟨gz, 2, none⟩ = some (.string ⟨#[0, 0, 0, 0, 0, 0, 0, 0, 0, 0, 0, 0]⟩) := tx_at htn 2 (by decide)
    have BZ : Hid (Below w9.heap.size w9 wc) := bel2 BW11.out hbz
    have d0 := cell_later BZ.out Xw90.out
    have d1 := cell_later BZ.out Xw91.out
    have d2 := cell_later BZ.out Xw92.out
    have d3 := cell_later BZ.out Xw93.out
    have d4 := cell_later BZ.out Xw94.out
    have d5 := cell_later BZ.out Xw95.out
    have BE : Hid (Below w.heap.size w wc) := bel2 B9.out BZ.out
    clear hbz htn
    go_wp2_with fail
    have t1 : ((⟨#[0]⟩ : ByteArray).toList == (⟨#[0]⟩ : ByteArray).toList) = true := beq_self_eq_true _
    have t2 : ((⟨#[]⟩ : ByteArray).toList == (⟨#[]⟩ : ByteArray).toList) = true := beq_self_eq_true _
    have t3 : ((⟨#[0, 0, 0, 0, 0, 0, 0, 0, 0, 0, 0, 0]⟩ : ByteArray).toList == (⟨#[0, 0, 0, 0, 0, 0, 0, 0, 0, 0, 0, 0]⟩ : ByteArray).toList) = true := beq_self_eq_true _
    go_quiet (fail)
    go_wp2
    go_ret
    exact ⟨rfl, bel2 BE.out (drewN_below wc _)⟩
set_option maxRecDepth 20000 in
set_option maxHeartbeats 6400000 in
theorem zW3f (a1 : Int) (w : World) (hw : Hid (HomeE w)) (hM : bits .and .i64 a1 3 = 3) : Calls Tryz.prog 8 #[.bool false, .int .i64 a1] w fun r w' => r = .returned (.bool true) ∧ Below w.heap.size w w' := by
  go_enter Tryz.func8, Tryz.ntmps8
  go_wp2_with fail
  refine (awakeB w hw).mono ?_
  rintro e w0 ⟨rfl, b0⟩
  have B0 : Hid (Below w.heap.size w w0) := b0
  obtain ⟨w1, e1, hT1, b1⟩ : ∃ w1, w0.alloc (.cells #[.int .i64 4, .int .i64 (-1), .bool true, .int .i64 3, .int .i64 0, .bool false] 40) = w1 ∧ w1.heap[w0.heap.size]? = some (.cells #[.int .i64 4, .int .i64 (-1), .bool true, .int .i64 3, .int .i64 0, .bool false] 40) ∧ Below w0.heap.size w0 w1 := ⟨_, rfl, heap_alloc_new _ _, (Below.refl _ _).alloc (Nat.le_refl _) _⟩
  obtain ⟨w2, e2, s2, c2, b2⟩ := boxed w1 (.slice none 0 0) 24
  have hf2 : w2.heap[w1.heap.size]? = some (.cells #[.slice none 0 0] 24) := by rw [← e2]; exact heap_alloc_new _ _
  have z2 : w2.frozen? ⟨w1.heap.size, 0, none⟩ = false := by simp [World.frozen?, hf2]
  obtain ⟨w3, e3⟩ : ∃ w3, w2.setCell ⟨w1.heap.size, 0, none⟩ (.slice (some ⟨w0.heap.size, 0, none⟩) 2 2) = w3 := ⟨_, rfl⟩
  have b13 : Below w1.heap.size w1 w3 := by rw [← e3]; exact b2.setCell (Nat.le_refl _) _
  have hf3 : w3.heap[w1.heap.size]? = some (.cells #[.slice (some ⟨w0.heap.size, 0, none⟩) 2 2] 24) := by
    have := blk_set hf2 0 (.slice (some ⟨w0.heap.size, 0, none⟩) 2 2)
    rw [e3] at this
    exact this
  have HT3 : Hid (w3.cell? ⟨w1.heap.size, 0, none⟩ = some (.slice (some ⟨w0.heap.size, 0, none⟩) 2 2)) := by
    unfold Hid
    simp [World.cell?, hf3]
  have B3 : Hid (Below w.heap.size w w3) := bel2 B0.out (bel2 b1 b13)
  have hs01 : w0.heap.size < w1.heap.size := by rw [← e1]; simp
  have hs13 : w1.heap.size < w3.heap.size := by
    by_cases c : w1.heap.size < w3.heap.size
    · exact c
    · rw [Array.getElem?_eq_none (by omega)] at hf3; cases hf3
  have S01 : Hid (w0.heap.size < w1.heap.size) := hs01
  have S13 : Hid (w1.heap.size < w3.heap.size) := hs13
  have HF3 : Hid (w3.heap[w1.heap.size]? = some (.cells #[.slice (some ⟨w0.heap.size, 0, none⟩) 2 2] 24)) := hf3
  have HB03 : Hid (Below w0.heap.size w0 w3) := bel2 b1 b13
  have HO3 : Hid (w3.ownsRow w0.heap.size 40 3 (.slice (some ⟨w0.heap.size, 0, none⟩) 2 2) 2 [.int .i64 4, .int .i64 (-1), .bool true, .int .i64 3, .int .i64 0, .bool false]) := ⟨rfl, .inr ⟨w0.heap.size, 2, #[.int .i64 4, .int .i64 (-1), .bool true, .int .i64 3, .int .i64 0, .bool false], rfl, Nat.le_refl _, (b13.block w0.heap.size hs01).trans hT1, Nat.le_refl _, by unfold maxLen; omega, rfl, rfl⟩⟩
  obtain ⟨i40, hi, hz0, hz1, hz2⟩ := info_parts info40z
  clear hT1 b1 b2 hf2 hf3 s2 b13 b0 hs01 hs13
  go_upto_region 6 with fail
  try rw [e3]
  clear e1 e2 e3 c2 z2
  have cT := HT3.out
  have zT : w3.frozen? ⟨w1.heap.size, 0, none⟩ = false := by simp [World.frozen?, HF3.out]
  have hown := HO3.out
  have hz := HB03.out.size
  go_wp2_with (at_builtin; refine wpList_append_own _ rfl (.tmp 26) (.tmp 28) 22 rfl w0.heap.size 40 i40 (.agg #[.int .i64 0, .int .i64 0, .bool false]) 3 24 Tryz.underlying22 hi hz0 hz1 hz2 rfl (by decide) _ 2 _ rfl (hown.alloc _) ⟨w3.heap.size, 0, none⟩ 1 1 [.int .i64 0, .int .i64 1, .bool false] rfl rfl ?c1 ?c2 ?c3 ?c4 ?c5 ?_)
  case c1 =>
    intro j u hj
    match j, hj with
    | 0, hj => simp at hj; subst hj; simp [Addr.add]
    | 1, hj => simp at hj; subst hj; simp [Addr.add]
    | 2, hj => simp at hj; subst hj; simp [Addr.add]
  case c2 => intro u hu; simp at hu; rcases hu with rfl | rfl | rfl <;> rfl
  case c3 => unfold maxLen; omega
  case c4 => omega
  case c5 => simp; omega
  intro u6 w6 hown6 hgrow _
  have hf6 : w6.heap[w1.heap.size]? = some (.cells #[.slice (some ⟨w0.heap.size, 0, none⟩) 2 2] 24) := (hgrow.block _ (by have := S13.out; simp; omega) (by have := S01.out; simp [Value.ownBlock]; omega)).trans ((((Below.refl w3.heap.size w3).alloc (Nat.le_refl _) _).block _ S13.out).trans HF3.out)
  have B06 : Hid (Below w0.heap.size w0 w6) := (HB03.out.alloc hz _).grown hgrow (by simp; omega) (fun j hj => (hown.lt j hj).1)
  obtain ⟨g6, c6, rfl⟩ : ∃ g6 c6, u6 = .slice (some ⟨g6, 0, none⟩) 3 c6 := by
    rcases hown6.2 with ⟨_, hn⟩ | ⟨g6, c6, _, e, _⟩
    · omega
    · exact ⟨g6, c6, e⟩
  have hne : g6 ≠ w1.heap.size := by
    rcases hown6.2 with ⟨e, _⟩ | ⟨g7, c7, cur, e, _, hh, _⟩
    · cases e
    · intro e2
      cases e
      rw [e2, hf6] at hh
      cases hh
  have z6 : w6.frozen? ⟨w1.heap.size, 0, none⟩ = false := by simp [World.frozen?, hf6]
  have c6c : w6.cell? ⟨w1.heap.size, 0, none⟩ = some (.slice (some ⟨w0.heap.size, 0, none⟩) 2 2) := by simp [World.cell?, hf6]
  have c6f := blk_set hf6 0 (.slice (some ⟨g6, 0, none⟩) 3 c6)
  obtain ⟨w7n, e7n⟩ : ∃ v, w6.setCell ⟨w1.heap.size, 0, none⟩ (.slice (some ⟨g6, 0, none⟩) 3 c6) = v := ⟨_, rfl⟩
  rw [e7n] at c6f
  have HT7n : Hid (w7n.cell? ⟨w1.heap.size, 0, none⟩ = some (.slice (some ⟨g6, 0, none⟩) 3 c6)) := by unfold Hid; simp [World.cell?, c6f]
  have HI7n : Hid (IsT w7n (some ⟨g6, 0, none⟩) zT3f) := ⟨by decide, .inr ⟨_, rfl, by rw [← e7n]; exact lies_set (zL3f hown6) hne⟩⟩
  have B7n : Hid (Below w.heap.size w w7n) := by
    rw [← e7n]
    exact bel2 B0.out (B06.out.setCell (by have := S01.out; show w0.heap.size ≤ w1.heap.size; omega) _)
  clear hown6 hgrow hown hf6 c6f hne cT zT hz
  go_upto_region 7 with fail
  try rw [e7n]
  clear e7n z6 c6c hi hz0 hz1 hz2
  obtain ⟨w4, e4', ht4, b4⟩ := tx_lit w7n zV (by decide)
  have e4 : w7n.alloc (.cells #[.string ⟨#[110]⟩, .string ⟨#[110]⟩] 9) = w4 := e4'
  have B4 : Hid (Below w.heap.size w w4) := bel2 B7n.out b4
  have HBU : Hid (Calls Tryz.prog 26 #[.agg #[.slice (some ⟨g6, 0, none⟩) 3 c6], .int .i64 0, .slice (some ⟨w7n.heap.size, 0, none⟩) 2 2] w4 fun r w' => ∃ o c, r = .returned (.tuple #[zA3f.val o c, .int .i64 0]) ∧ HoldsO 4096 w' 8 (fun b => w4.heap.size ≤ b) (zA3f.cells o c) zA3f ∧ Below w4.heap.size w4 w') := by
    refine (buildP 4096 (Nat.le_refl _) zT3f (some ⟨g6, 0, none⟩) c6 0 zV (some ⟨w7n.heap.size, 0, none⟩) 2 w4 (sizes_of _ (by decide)) (hw.out.later B4.out) ht4 (HI7n.out.later b4)).mono ?_
    rintro e w' ⟨o', c', h1, h2, h3⟩
    rw [zE3f, zB3f] at h1
    rw [zB3f] at h2
    exact ⟨o', c', h1, h2, h3⟩
  have cT3 := HT7n.out
  clear ht4 b4 e4'
  go_wp2_with fail
  try rw [e4]
  refine HBU.out.mono ?_
  rintro e w5 ⟨oA, cA, rfl, hA5, b5⟩
  obtain ⟨g, oK, cK, rfl, k0, k1, k2, k3, k4, k5, k6⟩ := kid1 hA5 rfl
  have B5 : Hid (Below w.heap.size w w5) := bel2 B4.out b5
  have HK0 : Hid (w5.cell? ⟨g, 0, none⟩ = some (.int .i64 0)) := k0
  have HK1 : Hid (w5.cell? ⟨g, 1, none⟩ = some (.int .i64 0)) := k1
  have HK2 : Hid (w5.cell? ⟨g, 2, none⟩ = some (.int .i64 2)) := k2
  have HK3 : Hid (w5.cell? ⟨g, 3, none⟩ = some (.string ⟨#[]⟩)) := k3
  have HK4 : Hid (w5.cell? ⟨g, 4, none⟩ = some (.string ⟨#[0, 0, 0, 0, 0, 0, 0, 0, 0, 0, 0, 0]⟩)) := k4
  have HK5 : Hid (w5.cell? ⟨g, 5, none⟩ = some (.string ⟨#[]⟩)) := k5
  have HK6 : Hid (w5.cell? ⟨g, 6, none⟩ = some (.slice oK 1 cK)) := k6
  clear hA5 b5 cT3 e4 HBU k0 k1 k2 k3 k4 k5 k6
  obtain ⟨w6, ew6', xw6, bw6, zw6⟩ := box7 w5 nil none 0
  have ew6 : w5.alloc (.cells #[.int .i64 0, .int .i64 0, .int .i64 0, .string ⟨#[]⟩, .string ⟨#[]⟩, .string ⟨#[]⟩, .slice none 0 0] 27) = w6 := ew6'
  have m0 := xw6.c0
  have m1 := xw6.c1
  have m2 := xw6.c2
  have m3 := xw6.c3
  have m4 := xw6.c4
  have m5 := xw6.c5
  have m6 := xw6.c6
  have f0 := xw6.fz 0
  have f1 := xw6.fz 1
  have f2 := xw6.fz 2
  have f3 := xw6.fz 3
  have f4 := xw6.fz 4
  have f5 := xw6.fz 5
  have f6 := xw6.fz 6
  unfold nil at m0 m1 m2 m3 m4 m5 m6
  obtain ⟨w7, ew7', xw7, hw7, kw7⟩ := set7 xw6 zA3f (some ⟨g, 0, none⟩) cA
  have ew7 : (((((((w6).setCell ⟨w5.heap.size, 0, none⟩ (.int .i64 0)).setCell ⟨w5.heap.size, 1, none⟩ (.int .i64 0)).setCell ⟨w5.heap.size, 2, none⟩ (.int .i64 2)).setCell ⟨w5.heap.size, 3, none⟩ (.string ⟨#[0]⟩)).setCell ⟨w5.heap.size, 4, none⟩ (.string ⟨#[]⟩)).setCell ⟨w5.heap.size, 5, none⟩ (.string ⟨#[]⟩)).setCell ⟨w5.heap.size, 6, none⟩ (.slice (some ⟨g, 0, none⟩) 1 cA) = w7 := ew7'
  have BBw7 : Hid (Below w5.heap.size w5 w7) := bw6.trans (kw7 _ (Nat.le_refl _))
  have Xw70 : Hid (w7.cell? ⟨w5.heap.size, 0, none⟩ = some (.int .i64 0)) := xw7.c0
  have Xw71 : Hid (w7.cell? ⟨w5.heap.size, 1, none⟩ = some (.int .i64 0)) := xw7.c1
  have Xw72 : Hid (w7.cell? ⟨w5.heap.size, 2, none⟩ = some (.int .i64 2)) := xw7.c2
  have Xw73 : Hid (w7.cell? ⟨w5.heap.size, 3, none⟩ = some (.string ⟨#[0]⟩)) := xw7.c3
  have Xw74 : Hid (w7.cell? ⟨w5.heap.size, 4, none⟩ = some (.string ⟨#[]⟩)) := xw7.c4
  have Xw75 : Hid (w7.cell? ⟨w5.heap.size, 5, none⟩ = some (.string ⟨#[]⟩)) := xw7.c5
  have Xw76 : Hid (w7.cell? ⟨w5.heap.size, 6, none⟩ = some (.slice (some ⟨g, 0, none⟩) 1 cA)) := xw7.c6
  try unfold Arr.val zA3f
  go_upto_region 8 with fail
  try rw [ew7]
  clear ew6 ew6' xw6 bw6 zw6 m0 m1 m2 m3 m4 m5 m6 f0 f1 f2 f3 f4 f5 f6 ew7 ew7' xw7 hw7 kw7
  have B7 : Hid (Below w.heap.size w w7) := bel2 B5.out BBw7.out
  have d2 := Xw72.out
  have d3 := Xw73.out
  have d6 := Xw76.out
  have g0 := cell_later BBw7.out HK0.out
  have g1 := cell_later BBw7.out HK1.out
  have g2 := cell_later BBw7.out HK2.out
  have g3 := cell_later BBw7.out HK3.out
  have g4 := cell_later BBw7.out HK4.out
  have g5 := cell_later BBw7.out HK5.out
  have g6 := cell_later BBw7.out HK6.out
  go_wp2_with fail
  refine (Tree.num _ _).mono ?_
  rintro e wx ⟨rfl, hv⟩
  subst wx
  obtain ⟨w8, ew8', xw8, bw8, zw8⟩ := box7 w7 nil none 0
  have ew8 : w7.alloc (.cells #[.int .i64 0, .int .i64 0, .int .i64 0, .string ⟨#[]⟩, .string ⟨#[]⟩, .string ⟨#[]⟩, .slice none 0 0] 27) = w8 := ew8'
  have m0 := xw8.c0
  have m1 := xw8.c1
  have m2 := xw8.c2
  have m3 := xw8.c3
  have m4 := xw8.c4
  have m5 := xw8.c5
  have m6 := xw8.c6
  have f0 := xw8.fz 0
  have f1 := xw8.fz 1
  have f2 := xw8.fz 2
  have f3 := xw8.fz 3
  have f4 := xw8.fz 4
  have f5 := xw8.fz 5
  have f6 := xw8.fz 6
  unfold nil at m0 m1 m2 m3 m4 m5 m6
  obtain ⟨w9, ew9', xw9, hw9, kw9⟩ := set7 xw8 zK3f oK cK
  have ew9 : (((((((w8).setCell ⟨w7.heap.size, 0, none⟩ (.int .i64 0)).setCell ⟨w7.heap.size, 1, none⟩ (.int .i64 0)).setCell ⟨w7.heap.size, 2, none⟩ (.int .i64 2)).setCell ⟨w7.heap.size, 3, none⟩ (.string ⟨#[]⟩)).setCell ⟨w7.heap.size, 4, none⟩ (.string ⟨#[0, 0, 0, 0, 0, 0, 0, 0, 0, 0, 0, 0]⟩)).setCell ⟨w7.heap.size, 5, none⟩ (.string ⟨#[]⟩)).setCell ⟨w7.heap.size, 6, none⟩ (.slice oK 1 cK) = w9 := ew9'
  have BBw9 : Hid (Below w7.heap.size w7 w9) := bw8.trans (kw9 _ (Nat.le_refl _))
  have Xw90 : Hid (w9.cell? ⟨w7.heap.size, 0, none⟩ = some (.int .i64 0)) := xw9.c0
  have Xw91 : Hid (w9.cell? ⟨w7.heap.size, 1, none⟩ = some (.int .i64 0)) := xw9.c1
  have Xw92 : Hid (w9.cell? ⟨w7.heap.size, 2, none⟩ = some (.int .i64 2)) := xw9.c2
  have Xw93 : Hid (w9.cell? ⟨w7.heap.size, 3, none⟩ = some (.string ⟨#[]⟩)) := xw9.c3
  have Xw94 : Hid (w9.cell? ⟨w7.heap.size, 4, none⟩ = some (.string ⟨#[0, 0, 0, 0, 0, 0, 0, 0, 0, 0, 0, 0]⟩)) := xw9.c4
  have Xw95 : Hid (w9.cell? ⟨w7.heap.size, 5, none⟩ = some (.string ⟨#[]⟩)) := xw9.c5
  have Xw96 : Hid (w9.cell? ⟨w7.heap.size, 6, none⟩ = some (.slice oK 1 cK)) := xw9.c6
  try unfold Arr.val zK3f
  go_upto_region 14 with fail
  try rw [ew9]
  clear ew8 ew8' xw8 bw8 zw8 m0 m1 m2 m3 m4 m5 m6 f0 f1 f2 f3 f4 f5 f6 ew9 ew9' xw9 hw9 kw9
  have B9 : Hid (Below w.heap.size w w9) := bel2 B7.out BBw9.out
  clear d2 d3 d6 g0 g1 g2 g3 g4 g5 g6
  have hmk16 : ∀ v : World, (Instr.makeSlice 42 (.int .i64 16) (.int .i64 16)).run Tryz.prog v = .ok (.slice (some ⟨v.heap.size, 0, none⟩) 16 16) (v.alloc (.cells (Bit.zeros 16) 5)) := Bit.make_bytes' 16 (by decide)
  have hbk16 : (convert 42 9 (.slice (some ⟨w9.heap.size, 0, none⟩) 16 16)).run Tryz.prog (w9.alloc (.cells (Bit.zeros 16) 5)) = .ok (.string ⟨#[0, 0, 0, 0, 0, 0, 0, 0, 0, 0, 0, 0, 0, 0, 0, 0]⟩) (w9.alloc (.cells (Bit.zeros 16) 5)) := (Bit.Bytes.zeros w9 16).back rfl
  obtain ⟨w10, e10, b10⟩ : ∃ w10, w9.alloc (.cells (Bit.zeros 16) 5) = w10 ∧ Below w9.heap.size w9 w10 := ⟨_, rfl, (Below.refl _ _).alloc (Nat.le_refl _) _⟩
  rw [e10] at hbk16
  replace hmk16 := hmk16 w9
  rw [e10] at hmk16
  obtain ⟨w11, e11', ht11, b11⟩ := tx_lit w10 zD (by decide)
  have e11 : w10.alloc (.cells #[.string ⟨#[0, 0, 0, 0, 0, 0, 0, 0, 0, 0, 0, 0, 0, 0, 0, 0]⟩, .string ⟨#[0]⟩, .string ⟨#[]⟩, .string ⟨#[]⟩] 9) = w11 := e11'
  have HT11 : Hid (Texts.IsTx w11 (some ⟨w10.heap.size, 0, none⟩) zD) := ht11
  have BW11 : Hid (Below w9.heap.size w9 w11) := bel2 b10 b11
  clear ht11 b10 b11 e11'
  go_upto_region 15 with fail
  try rw [e11]
  clear hmk16 hbk16 e10 e11
  have BW0 : Hid (Below w11.heap.size w11 w11) := Below.refl _ _
  have BWD : Hid (Below w11.heap.size w11 w11.drew) := drewN_below w11 1
  go_cut [12] from 64 to 68 (fun sv wx => ∃ gz : Nat, sv = .slice (some ⟨gz, 0, none⟩) 4 4 ∧ Texts.IsTx wx (some ⟨gz, 0, none⟩) zN ∧ Below w11.heap.size w11 wx)
  case first =>
    have hmk12 : ∀ v : World, (Instr.makeSlice 42 (.int .i64 12) (.int .i64 12)).run Tryz.prog v = .ok (.slice (some ⟨v.heap.size, 0, none⟩) 12 12) (v.alloc (.cells (Bit.zeros 12) 5)) := Bit.make_bytes' 12 (by decide)
    have hbk12 := zbk w11
    have hbk13 := zbk2 w11
    have hbk14 := zbk3 w11 (w11.heap.size + 1) (by simp)
    go_region
    all_goals (try go_wp2_with fail)
    all_goals go_meet
    all_goals exact ⟨_, rfl, tx_new3 w11 _ (by simp), below3 w11⟩
  case rest =>
    obtain ⟨gz, rfl, htn, hbz⟩ := hcut
    have q1 : wc.cell? ⟨w10.heap.size, 3, none⟩ = some (.string ⟨#[]⟩) := cell_later hbz (tx_at HT11.out 3 (by decide))
    have q2 : wc.cell? ⟨gz, 3, none⟩ = some (.string ⟨#[0, 0, 0, 0, 0, 0, 0, 0, 0, 0, 0, 0]⟩) := tx_at htn 3 (by decide)
    have BZ : Hid (Below w9.heap.size w9 wc) := bel2 BW11.out hbz
    have d0 := cell_later BZ.out Xw90.out
    have d1 := cell_later BZ.out Xw91.out
    have d2 := cell_later BZ.out Xw92.out
    have d3 := cell_later BZ.out Xw93.out
    have d4 := cell_later BZ.out Xw94.out
    have d5 := cell_later BZ.out Xw95.out
    have BE : Hid (Below w.heap.size w wc) := bel2 B9.out BZ.out
    clear hbz htn
    go_wp2_with fail
    have t1 : ((⟨#[]⟩ : ByteArray).toList == (⟨#[]⟩ : ByteArray).toList) = true := beq_self_eq_true _
    have t2 : ((⟨#[]⟩ : ByteArray).toList == (⟨#[]⟩ : ByteArray).toList) = true := beq_self_eq_true _
    have t3 : ((⟨#[0, 0, 0, 0, 0, 0, 0, 0, 0, 0, 0, 0]⟩ : ByteArray).toList == (⟨#[0, 0, 0, 0, 0, 0, 0, 0, 0, 0, 0, 0]⟩ : ByteArray).toList) = true := beq_self_eq_true _
    go_quiet (fail)
    go_wp2
    go_ret
    exact ⟨rfl, bel2 BE.out (drewN_below wc _)⟩
set_option maxRecDepth 20000 in
set_option maxHeartbeats 6400000 in
theorem zW3t (a1 : Int) (w : World) (hw : Hid (HomeE w)) (hM : bits .and .i64 a1 3 = 3) : Calls Tryz.prog 8 #[.bool true, .int .i64 a1] w fun r w' => r = .returned (.bool true) ∧ Below w.heap.size w w' := by
  go_enter Tryz.func8, Tryz.ntmps8
  go_wp2_with fail
  refine (awakeB w hw).mono ?_
  rintro e w0 ⟨rfl, b0⟩
  have B0 : Hid (Below w.heap.size w w0) := b0
  obtain ⟨w1, e1, hT1, b1⟩ : ∃ w1, w0.alloc (.cells #[.int .i64 4, .int .i64 (-1), .bool true, .int .i64 3, .int .i64 0, .bool true] 40) = w1 ∧ w1.heap[w0.heap.size]? = some (.cells #[.int .i64 4, .int .i64 (-1), .bool true, .int .i64 3, .int .i64 0, .bool true] 40) ∧ Below w0.heap.size w0 w1 := ⟨_, rfl, heap_alloc_new _ _, (Below.refl _ _).alloc (Nat.le_refl _) _⟩
  obtain ⟨w2, e2, s2, c2, b2⟩ := boxed w1 (.slice none 0 0) 24
  have hf2 : w2.heap[w1.heap.size]? = some (.cells #[.slice none 0 0] 24) := by rw [← e2]; exact heap_alloc_new _ _
  have z2 : w2.frozen? ⟨w1.heap.size, 0, none⟩ = false := by simp [World.frozen?, hf2]
  obtain ⟨w3, e3⟩ : ∃ w3, w2.setCell ⟨w1.heap.size, 0, none⟩ (.slice (some ⟨w0.heap.size, 0, none⟩) 2 2) = w3 := ⟨_, rfl⟩
  have b13 : Below w1.heap.size w1 w3 := by rw [← e3]; exact b2.setCell (Nat.le_refl _) _
  have hf3 : w3.heap[w1.heap.size]? = some (.cells #[.slice (some ⟨w0.heap.size, 0, none⟩) 2 2] 24) := by
    have := blk_set hf2 0 (.slice (some ⟨w0.heap.size, 0, none⟩) 2 2)
    rw [e3] at this
    exact this
  have HT3 : Hid (w3.cell? ⟨w1.heap.size, 0, none⟩ = some (.slice (some ⟨w0.heap.size, 0, none⟩) 2 2)) := by
    unfold Hid
    simp [World.cell?, hf3]
  have B3 : Hid (Below w.heap.size w w3) := bel2 B0.out (bel2 b1 b13)
  have hs01 : w0.heap.size < w1.heap.size := by rw [← e1]; simp
  have hs13 : w1.heap.size < w3.heap.size := by
    by_cases c : w1.heap.size < w3.heap.size
    · exact c
    · rw [Array.getElem?_eq_none (by omega)] at hf3; cases hf3
  have S01 : Hid (w0.heap.size < w1.heap.size) := hs01
  have S13 : Hid (w1.heap.size < w3.heap.size) := hs13
  have HF3 : Hid (w3.heap[w1.heap.size]? = some (.cells #[.slice (some ⟨w0.heap.size, 0, none⟩) 2 2] 24)) := hf3
  have HB03 : Hid (Below w0.heap.size w0 w3) := bel2 b1 b13
  have HO3 : Hid (w3.ownsRow w0.heap.size 40 3 (.slice (some ⟨w0.heap.size, 0, none⟩) 2 2) 2 [.int .i64 4, .int .i64 (-1), .bool true, .int .i64 3, .int .i64 0, .bool true]) := ⟨rfl, .inr ⟨w0.heap.size, 2, #[.int .i64 4, .int .i64 (-1), .bool true, .int .i64 3, .int .i64 0, .bool true], rfl, Nat.le_refl _, (b13.block w0.heap.size hs01).trans hT1, Nat.le_refl _, by unfold maxLen; omega, rfl, rfl⟩⟩
  obtain ⟨i40, hi, hz0, hz1, hz2⟩ := info_parts info40z
  clear hT1 b1 b2 hf2 hf3 s2 b13 b0 hs01 hs13
  go_upto_region 6 with fail
  try rw [e3]
  clear e1 e2 e3 c2 z2
  have cT := HT3.out
  have zT : w3.frozen? ⟨w1.heap.size, 0, none⟩ = false := by simp [World.frozen?, HF3.out]
  have hown := HO3.out
  have hz := HB03.out.size
  go_wp2_with (at_builtin; refine wpList_append_own _ rfl (.tmp 26) (.tmp 28) 22 rfl w0.heap.size 40 i40 (.agg #[.int .i64 0, .int .i64 0, .bool false]) 3 24 Tryz.underlying22 hi hz0 hz1 hz2 rfl (by decide) _ 2 _ rfl (hown.alloc _) ⟨w3.heap.size, 0, none⟩ 1 1 [.int .i64 0, .int .i64 1, .bool false] rfl rfl ?c1 ?c2 ?c3 ?c4 ?c5 ?_)
  case c1 =>
    intro j u hj
    match j, hj with
    | 0, hj => simp at hj; subst hj; simp [Addr.add]
    | 1, hj => simp at hj; subst hj; simp [Addr.add]
    | 2, hj => simp at hj; subst hj; simp [Addr.add]
  case c2 => intro u hu; simp at hu; rcases hu with rfl | rfl | rfl <;> rfl
  case c3 => unfold maxLen; omega
  case c4 => omega
  case c5 => simp; omega
  intro u6 w6 hown6 hgrow _
  have hf6 : w6.heap[w1.heap.size]? = some (.cells #[.slice (some ⟨w0.heap.size, 0, none⟩) 2 2] 24) := (hgrow.block _ (by have := S13.out; simp; omega) (by have := S01.out; simp [Value.ownBlock]; omega)).trans ((((Below.refl w3.heap.size w3).alloc (Nat.le_refl _) _).block _ S13.out).trans HF3.out)
  have B06 : Hid (Below w0.heap.size w0 w6) := (HB03.out.alloc hz _).grown hgrow (by simp; omega) (fun j hj => (hown.lt j hj).1)
  obtain ⟨g6, c6, rfl⟩ : ∃ g6 c6, u6 = .slice (some ⟨g6, 0, none⟩) 3 c6 := by
    rcases hown6.2 with ⟨_, hn⟩ | ⟨g6, c6, _, e, _⟩
    · omega
    · exact ⟨g6, c6, e⟩
  have hne : g6 ≠ w1.heap.size := by
    rcases hown6.2 with ⟨e, _⟩ | ⟨g7, c7, cur, e, _, hh, _⟩
    · cases e
    · intro e2
      cases e
      rw [e2, hf6] at hh
      cases hh
  have z6 : w6.frozen? ⟨w1.heap.size, 0, none⟩ = false := by simp [World.frozen?, hf6]
  have c6c : w6.cell? ⟨w1.heap.size, 0, none⟩ = some (.slice (some ⟨w0.heap.size, 0, none⟩) 2 2) := by simp [World.cell?, hf6]
  have c6f := blk_set hf6 0 (.slice (some ⟨g6, 0, none⟩) 3 c6)
  obtain ⟨w7n, e7n⟩ : ∃ v, w6.setCell ⟨w1.heap.size, 0, none⟩ (.slice (some ⟨g6, 0, none⟩) 3 c6) = v := ⟨_, rfl⟩
  rw [e7n] at c6f
  have HT7n : Hid (w7n.cell? ⟨w1.heap.size, 0, none⟩ = some (.slice (some ⟨g6, 0, none⟩) 3 c6)) := by unfold Hid; simp [World.cell?, c6f]
  have HI7n : Hid (IsT w7n (some ⟨g6, 0, none⟩) zT3t) := ⟨by decide, .inr ⟨_, rfl, by rw [← e7n]; exact lies_set (zL3t hown6) hne⟩⟩
  have B7n : Hid (Below w.heap.size w w7n) := by
    rw [← e7n]
    exact bel2 B0.out (B06.out.setCell (by have := S01.out; show w0.heap.size ≤ w1.heap.size; omega) _)
  clear hown6 hgrow hown hf6 c6f hne cT zT hz
  go_upto_region 7 with fail
  try rw [e7n]
  clear e7n z6 c6c hi hz0 hz1 hz2
  obtain ⟨w4, e4', ht4, b4⟩ := tx_lit w7n zV (by decide)
  have e4 : w7n.alloc (.cells #[.string ⟨#[110]⟩, .string ⟨#[110]⟩] 9) = w4 := e4'
  have B4 : Hid (Below w.heap.size w w4) := bel2 B7n.out b4
  have HBU : Hid (Calls Tryz.prog 26 #[.agg #[.slice (some ⟨g6, 0, none⟩) 3 c6], .int .i64 0, .slice (some ⟨w7n.heap.size, 0, none⟩) 2 2] w4 fun r w' => ∃ o c, r = .returned (.tuple #[zA3t.val o c, .int .i64 0]) ∧ HoldsO 4096 w' 8 (fun b => w4.heap.size ≤ b) (zA3t.cells o c) zA3t ∧ Below w4.heap.size w4 w') := by
    refine (buildP 4096 (Nat.le_refl _) zT3t (some ⟨g6, 0, none⟩) c6 0 zV (some ⟨w7n.heap.size, 0, none⟩) 2 w4 (sizes_of _ (by decide)) (hw.out.later B4.out) ht4 (HI7n.out.later b4)).mono ?_
    rintro e w' ⟨o', c', h1, h2, h3⟩
    rw [zE3t, zB3t] at h1
    rw [zB3t] at h2
    exact ⟨o', c', h1, h2, h3⟩
  have cT3 := HT7n.out
  clear ht4 b4 e4'
  go_wp2_with fail
  try rw [e4]
  refine HBU.out.mono ?_
  rintro e w5 ⟨oA, cA, rfl, hA5, b5⟩
  obtain ⟨g, oK, cK, rfl, k0, k1, k2, k3, k4, k5, k6⟩ := kid1 hA5 rfl
  have B5 : Hid (Below w.heap.size w w5) := bel2 B4.out b5
  have HK0 : Hid (w5.cell? ⟨g, 0, none⟩ = some (.int .i64 0)) := k0
  have HK1 : Hid (w5.cell? ⟨g, 1, none⟩ = some (.int .i64 0)) := k1
  have HK2 : Hid (w5.cell? ⟨g, 2, none⟩ = some (.int .i64 2)) := k2
  have HK3 : Hid (w5.cell? ⟨g, 3, none⟩ = some (.string ⟨#[0]⟩)) := k3
  have HK4 : Hid (w5.cell? ⟨g, 4, none⟩ = some (.string ⟨#[0, 0, 0, 0, 0, 0, 0, 0, 0, 0, 0, 0]⟩)) := k4
  have HK5 : Hid (w5.cell? ⟨g, 5, none⟩ = some (.string ⟨#[]⟩)) := k5
  have HK6 : Hid (w5.cell? ⟨g, 6, none⟩ = some (.slice oK 1 cK)) := k6
  clear hA5 b5 cT3 e4 HBU k0 k1 k2 k3 k4 k5 k6
  obtain ⟨w6, ew6', xw6, bw6, zw6⟩ := box7 w5 nil none 0
  have ew6 : w5.alloc (.cells #[.int .i64 0, .int .i64 0, .int .i64 0, .string ⟨#[]⟩, .string ⟨#[]⟩, .string ⟨#[]⟩, .slice none 0 0] 27) = w6 := ew6'
  have m0 := xw6.c0
  have m1 := xw6.c1
  have m2 := xw6.c2
  have m3 := xw6.c3
  have m4 := xw6.c4
  have m5 := xw6.c5
  have m6 := xw6.c6
  have f0 := xw6.fz 0
  have f1 := xw6.fz 1
  have f2 := xw6.fz 2
  have f3 := xw6.fz 3
  have f4 := xw6.fz 4
  have f5 := xw6.fz 5
  have f6 := xw6.fz 6
  unfold nil at m0 m1 m2 m3 m4 m5 m6
  obtain ⟨w7, ew7', xw7, hw7, kw7⟩ := set7 xw6 zA3t (some ⟨g, 0, none⟩) cA
  have ew7 : (((((((w6).setCell ⟨w5.heap.size, 0, none⟩ (.int .i64 0)).setCell ⟨w5.heap.size, 1, none⟩ (.int .i64 0)).setCell ⟨w5.heap.size, 2, none⟩ (.int .i64 2)).setCell ⟨w5.heap.size, 3, none⟩ (.string ⟨#[0]⟩)).setCell ⟨w5.heap.size, 4, none⟩ (.string ⟨#[]⟩)).setCell ⟨w5.heap.size, 5, none⟩ (.string ⟨#[]⟩)).setCell ⟨w5.heap.size, 6, none⟩ (.slice (some ⟨g, 0, none⟩) 1 cA) = w7 := ew7'
  have BBw7 : Hid (Below w5.heap.size w5 w7) := bw6.trans (kw7 _ (Nat.le_refl _))
  have Xw70 : Hid (w7.cell? ⟨w5.heap.size, 0, none⟩ = some (.int .i64 0)) := xw7.c0
  have Xw71 : Hid (w7.cell? ⟨w5.heap.size, 1, none⟩ = some (.int .i64 0)) := xw7.c1
  have Xw72 : Hid (w7.cell? ⟨w5.heap.size, 2, none⟩ = some (.int .i64 2)) := xw7.c2
  have Xw73 : Hid (w7.cell? ⟨w5.heap.size, 3, none⟩ = some (.string ⟨#[0]⟩)) := xw7.c3
  have Xw74 : Hid (w7.cell? ⟨w5.heap.size, 4, none⟩ = some (.string ⟨#[]⟩)) := xw7.c4
  have Xw75 : Hid (w7.cell? ⟨w5.heap.size, 5, none⟩ = some (.string ⟨#[]⟩)) := xw7.c5
  have Xw76 : Hid (w7.cell? ⟨w5.heap.size, 6, none⟩ = some (.slice (some ⟨g, 0, none⟩) 1 cA)) := xw7.c6
  try unfold Arr.val zA3t
  go_upto_region 8 with fail
  try rw [ew7]
  clear ew6 ew6' xw6 bw6 zw6 m0 m1 m2 m3 m4 m5 m6 f0 f1 f2 f3 f4 f5 f6 ew7 ew7' xw7 hw7 kw7
  have B7 : Hid (Below w.heap.size w w7) := bel2 B5.out BBw7.out
  have d2 := Xw72.out
  have d3 := Xw73.out
  have d6 := Xw76.out
  have g0 := cell_later BBw7.out HK0.out
  have g1 := cell_later BBw7.out HK1.out
  have g2 := cell_later BBw7.out HK2.out
  have g3 := cell_later BBw7.out HK3.out
  have g4 := cell_later BBw7.out HK4.out
  have g5 := cell_later BBw7.out HK5.out
  have g6 := cell_later BBw7.out HK6.out
  go_wp2_with fail
  refine (Tree.num _ _).mono ?_
  rintro e wx ⟨rfl, hv⟩
  subst wx
  obtain ⟨w8, ew8', xw8, bw8, zw8⟩ := box7 w7 nil none 0
  have ew8 : w7.alloc (.cells #[.int .i64 0, .int .i64 0, .int .i64 0, .string ⟨#[]⟩, .string ⟨#[]⟩, .string ⟨#[]⟩, .slice none 0 0] 27) = w8 := ew8'
  have m0 := xw8.c0
  have m1 := xw8.c1
  have m2 := xw8.c2
  have m3 := xw8.c3
  have m4 := xw8.c4
  have m5 := xw8.c5
  have m6 := xw8.c6
  have f0 := xw8.fz 0
  have f1 := xw8.fz 1
  have f2 := xw8.fz 2
  have f3 := xw8.fz 3
  have f4 := xw8.fz 4
  have f5 := xw8.fz 5
  have f6 := xw8.fz 6
  unfold nil at m0 m1 m2 m3 m4 m5 m6
  obtain ⟨w9, ew9', xw9, hw9, kw9⟩ := set7 xw8 zK3t oK cK
  have ew9 : (((((((w8).setCell ⟨w7.heap.size, 0, none⟩ (.int .i64 0)).setCell ⟨w7.heap.size, 1, none⟩ (.int .i64 0)).setCell ⟨w7.heap.size, 2, none⟩ (.int .i64 2)).setCell ⟨w7.heap.size, 3, none⟩ (.string ⟨#[0]⟩)).setCell ⟨w7.heap.size, 4, none⟩ (.string ⟨#[0, 0, 0, 0, 0, 0, 0, 0, 0, 0, 0, 0]⟩)).setCell ⟨w7.heap.size, 5, none⟩ (.string ⟨#[]⟩)).setCell ⟨w7.heap.size, 6, none⟩ (.slice oK 1 cK) = w9 := ew9'
  have BBw9 : Hid (Below w7.heap.size w7 w9) := bw8.trans (kw9 _ (Nat.le_refl _))
  have Xw90 : Hid (w9.cell? ⟨w7.heap.size, 0, none⟩ = some (.int .i64 0)) := xw9.c0
  have Xw91 : Hid (w9.cell? ⟨w7.heap.size, 1, none⟩ = some (.int .i64 0)) := xw9.c1
  have Xw92 : Hid (w9.cell? ⟨w7.heap.size, 2, none⟩ = some (.int .i64 2)) := xw9.c2
  have Xw93 : Hid (w9.cell? ⟨w7.heap.size, 3, none⟩ = some (.string ⟨#[0]⟩)) := xw9.c3
  have Xw94 : Hid (w9.cell? ⟨w7.heap.size, 4, none⟩ = some (.string ⟨#[0, 0, 0, 0, 0, 0, 0, 0, 0, 0, 0, 0]⟩)) := xw9.c4
  have Xw95 : Hid (w9.cell? ⟨w7.heap.size, 5, none⟩ = some (.string ⟨#[]⟩)) := xw9.c5
  have Xw96 : Hid (w9.cell? ⟨w7.heap.size, 6, none⟩ = some (.slice oK 1 cK)) := xw9.c6
  try unfold Arr.val zK3t
  go_upto_region 14 with fail
  try rw [ew9]
  clear ew8 ew8' xw8 bw8 zw8 m0 m1 m2 m3 m4 m5 m6 f0 f1 f2 f3 f4 f5 f6 ew9 ew9' xw9 hw9 kw9
  have B9 : Hid (Below w.heap.size w w9) := bel2 B7.out BBw9.out
  clear d2 d3 d6 g0 g1 g2 g3 g4 g5 g6
  have hmk16 : ∀ v : World, (Instr.makeSlice 42 (.int .i64 16) (.int .i64 16)).run Tryz.prog v = .ok (.slice (some ⟨v.heap.size, 0, none⟩) 16 16) (v.alloc (.cells (Bit.zeros 16) 5)) := Bit.make_bytes' 16 (by decide)
  have hbk16 : (convert 42 9 (.slice (some ⟨w9.heap.size, 0, none⟩) 16 16)).run Tryz.prog (w9.alloc (.cells (Bit.zeros 16) 5)) = .ok (.string ⟨#[0, 0, 0, 0, 0, 0, 0, 0, 0, 0, 0, 0, 0, 0, 0, 0]⟩) (w9.alloc (.cells (Bit.zeros 16) 5)) := (Bit.Bytes.zeros w9 16).back rfl
  obtain ⟨w10, e10, b10⟩ : ∃ w10, w9.alloc (.cells (Bit.zeros 16) 5) = w10 ∧ Below w9.heap.size w9 w10 := ⟨_, rfl, (Below.refl _ _).alloc (Nat.le_refl _) _⟩
  rw [e10] at hbk16
  replace hmk16 := hmk16 w9
  rw [e10] at hmk16
  obtain ⟨w11, e11', ht11, b11⟩ := tx_lit w10 zD (by decide)
  have e11 : w10.alloc (.cells #[.string ⟨#[0, 0, 0, 0, 0, 0, 0, 0, 0, 0, 0, 0, 0, 0, 0, 0]⟩, .string ⟨#[0]⟩, .string ⟨#[]⟩, .string ⟨#[]⟩] 9) = w11 := e11'
  have HT11 : Hid (Texts.IsTx w11 (some ⟨w10.heap.size, 0, none⟩) zD) := ht11
  have BW11 : Hid (Below w9.heap.size w9 w11) := bel2 b10 b11
  clear ht11 b10 b11 e11'
  go_upto_region 15 with fail
  try rw [e11]
  clear hmk16 hbk16 e10 e11
  have BW0 : Hid (Below w11.heap.size w11 w11) := Below.refl _ _
  have BWD : Hid (Below w11.heap.size w11 w11.drew) := drewN_below w11 1
  go_cut [12] from 64 to 68 (fun sv wx => ∃ gz : Nat, sv = .slice (some ⟨gz, 0, none⟩) 4 4 ∧ Texts.IsTx wx (some ⟨gz, 0, none⟩) zN ∧ Below w11.heap.size w11 wx)
  case first =>
    have hmk12 : ∀ v : World, (Instr.makeSlice 42 (.int .i64 12) (.int .i64 12)).run Tryz.prog v = .ok (.slice (some ⟨v.heap.size, 0, none⟩) 12 12) (v.alloc (.cells (Bit.zeros 12) 5)) := Bit.make_bytes' 12 (by decide)
    have hbk12 := zbk w11
    have hbk13 := zbk2 w11
    have hbk14 := zbk3 w11 (w11.heap.size + 1) (by simp)
    go_region
    all_goals (try go_wp2_with fail)
    all_goals go_meet
    all_goals exact ⟨_, rfl, tx_new3 w11 _ (by simp), below3 w11⟩
  case rest =>
    obtain ⟨gz, rfl, htn, hbz⟩ := hcut
    have q1 : wc.cell? ⟨w10.heap.size, 3, none⟩ = some (.string ⟨#[]⟩) := cell_later hbz (tx_at HT11.out 3 (by decide))
    have q2 : wc.cell? ⟨gz, 3, none⟩ = some (.string ⟨#[0, 0, 0, 0, 0, 0, 0, 0, 0, 0, 0, 0]⟩) := tx_at htn 3 (by decide)
    have BZ : Hid (Below w9.heap.size w9 wc) := bel2 BW11.out hbz
    have d0 := cell_later BZ.out Xw90.out
    have d1 := cell_later BZ.out Xw91.out
    have d2 := cell_later BZ.out Xw92.out
    have d3 := cell_later BZ.out Xw93.out
    have d4 := cell_later BZ.out Xw94.out
    have d5 := cell_later BZ.out Xw95.out
    have BE : Hid (Below w.heap.size w wc) := bel2 B9.out BZ.out
    clear hbz htn
    go_wp2_with fail
    have t1 : ((⟨#[0]⟩ : ByteArray).toList == (⟨#[0]⟩ : ByteArray).toList) = true := beq_self_eq_true _
    have t2 : ((⟨#[]⟩ : ByteArray).toList == (⟨#[]⟩ : ByteArray).toList) = true := beq_self_eq_true _
    have t3 : ((⟨#[0, 0, 0, 0, 0, 0, 0, 0, 0, 0, 0, 0]⟩ : ByteArray).toList == (⟨#[0, 0, 0, 0, 0, 0, 0, 0, 0, 0, 0, 0]⟩ : ByteArray).toList) = true := beq_self_eq_true _
    go_quiet (fail)
    go_wp2
    go_ret
    exact ⟨rfl, bel2 BE.out (drewN_below wc _)⟩
end Go.Proofs.YtcpfhfdgfcilaaaGreatDoor.Arr
