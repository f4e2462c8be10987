/-
  Several texts in one: Texts that a function value tells, one behind the other: gather: contracts. · In which run a place lies: run: contracts. · In which run a place lies, by the reader: run: contract. · A tree of readers, as it lies in memory.
-/
import Derived.Test.YtcpfhfdgfcilaaaGreatDoorR17
import Derived.Test.YtcpfhfdgfcilaaaGreatDoorR15
import Derived.Laws.MakeOwn
import Derived.Test.YtcpfhfdgfcilaaaGreatDoorR09
set_option linter.unusedVariables false
set_option linter.unusedSimpArgs false
namespace Go.Proofs.YtcpfhfdgfcilaaaGreatDoor.Arr
open Go.ChangeShapes Go.WideShapes Go.ChangeAt Go.RowKit
open Tree Val

/-- A row of texts, the first k of them told. -/
def fillL (G : Nat → List UInt8) (n k : Nat) : List Value := (List.range n).map fun j => if j < k then .string (mk (G j)) else .string ⟨#[]⟩
theorem fill_length (G : Nat → List UInt8) (n k : Nat) : (fillL G n k).length = n := by simp [fillL]
theorem fill_at (G : Nat → List UInt8) {n k j : Nat} (h : j < n) : (fillL G n k)[j]? = some (if j < k then .string (mk (G j)) else .string ⟨#[]⟩) := by
  unfold fillL
  rw [List.getElem?_map, List.getElem?_range h]
  rfl
theorem fill_set (G : Nat → List UInt8) {n k : Nat} (h : k < n) : (fillL G n k).set k (.string (mk (G k))) = fillL G n (k + 1) := by
  refine List.ext_getElem? fun i => ?_
  by_cases hi : i < n
  · by_cases hik : i = k
    · subst hik
      rw [List.getElem?_set_self (by rw [fill_length]; exact hi), fill_at G hi, if_pos (Nat.lt_succ_self _)]
    · rw [List.getElem?_set_ne (Ne.symm hik), fill_at G hi, fill_at G hi]
      congr 1
      by_cases c : i < k
      · rw [if_pos c, if_pos (by omega)]
      · rw [if_neg c, if_neg (by omega)]
  · rw [List.getElem?_eq_none (by rw [List.length_set, fill_length]; omega), List.getElem?_eq_none (by rw [fill_length]; omega)]
theorem fill_all (G : Nat → List UInt8) (n : Nat) : fillL G n n = Texts.cellsT (told G n) := by
  unfold fillL Texts.cellsT told
  rw [List.map_map]
  exact List.map_congr_left fun j hj => by rw [if_pos (List.mem_range.1 hj)]; rfl
/-- The texts so far, in a block. -/
structure Fill (w : World) (g : Nat) (G : Nat → List UInt8) (n k : Nat) : Prop where
  blk : w.heap[g]? = some (.cells (fillL G n k).toArray 9 (0, 0))
theorem Fill.later {w w' : World} {g : Nat} {G : Nat → List UInt8} {n k : Nat} (h : Fill w g G n k) (hb : Below w.heap.size w w') : Fill w' g G n k := ⟨(hb.block g (Array.getElem?_eq_some_iff.1 h.blk).1).trans h.blk⟩
theorem Fill.cell {w : World} {g : Nat} {G : Nat → List UInt8} {n k : Nat} (h : Fill w g G n k) (hk : k < n) : w.cell? ⟨g, k, none⟩ = some (.string ⟨#[]⟩) := by
  have := fill_at G (n := n) (k := k) hk
  rw [if_neg (Nat.lt_irrefl _)] at this
  simp only [World.cell?, h.blk]
  rw [List.getElem?_toArray, this]
  rfl
theorem Fill.fz {w : World} {g : Nat} {G : Nat → List UInt8} {n k : Nat} (h : Fill w g G n k) (j : Nat) : w.frozen? ⟨g, j, none⟩ = false := by simp [World.frozen?, h.blk]
theorem fill_put {w : World} {g : Nat} {G : Nat → List UInt8} {n k : Nat} (h : Fill w g G n k) (hk : k < n) : Fill (w.setCell ⟨g, k, none⟩ (.string (mk (G k)))) g G n (k + 1) := by
  refine ⟨?_⟩
  rw [← fill_set G hk]
  simp [World.setCell, Array.getElem?_modify, h.blk]
theorem Fill.done {w : World} {b g : Nat} {G : Nat → List UInt8} {n : Nat} (h : Fill w g G n n) (hb : b ≤ g) (hn : n ≤ 4096) : w.ownsRow b 9 1 (.slice (some ⟨g, 0, none⟩) n n) n (Texts.cellsT (told G n)) := by
  rw [← fill_all]
  refine ⟨by rw [fill_length]; omega, .inr ⟨g, n, _, rfl, hb, h.blk, Nat.le_refl _, by unfold maxLen; omega, by simp [fill_length], ?_⟩⟩
  rw [Nat.mul_one]
  have := fill_length G n n
  simp only [List.toList_toArray]
  rw [List.take_of_length_le (by omega)]
theorem make_texts (n : Nat) (h : n ≤ 4096) (G : Nat → List UInt8) (w : World) : ∃ w1, (Instr.makeSlice 29 (.int .i64 (n : Int)) (.int .i64 (n : Int))).run Tryz.prog w = .ok (.slice (some ⟨w.heap.size, 0, none⟩) n n) w1 ∧ Fill w1 w.heap.size G n 0 ∧ Below w.heap.size w w1 ∧ w.heap.size < w1.heap.size := by
  obtain ⟨i, hi, hz0, hz1, hz2⟩ := info_parts info9
  have := run_make (P := Tryz.prog) w 29 9 i (.string ⟨#[]⟩) Tryz.underlying29 hi hz0 .i64 .i64 n n (by omega) (Int.le_refl _) (by rw [hz2]; omega) (by omega)
  rw [this, hz1, Nat.mul_one, Int.toNat_natCast]
  have e : madeCells (Value.string ⟨#[]⟩).cells n = (fillL G n 0).toArray := by
    refine Array.ext' ?_
    refine List.ext_getElem? fun j => ?_
    by_cases hj : j < n
    · simp [fillL, madeCells, hj, Value.cells, Nat.mod_one]
    · simp [fillL, madeCells, hj]
  rw [e]
  exact ⟨_, rfl, ⟨heap_alloc_new _ _⟩, (Below.refl _ _).alloc (Nat.le_refl _) _, by simp⟩
set_option maxRecDepth 20000 in
set_option maxHeartbeats 1600000 in
theorem gather139 (n : Nat) (hn : n ≤ 64) (bR bF : Nat) (G : Nat → List UInt8) (w : World) (hstep : Hid (∀ (k : Nat) (v : World), k < n → Below w.heap.size w v → Calls Tryz.prog 147 #[.int .i64 (k : Int), .pointer (some ⟨bR, 0, none⟩), .pointer (some ⟨bF, 0, none⟩)] v fun r v' => r = .returned (.string (mk (G k))) ∧ Below v.heap.size v v')) :
    Calls Tryz.prog 45 #[.int .i64 (n : Int), .func (.func 147) #[] #[.pointer (some ⟨bR, 0, none⟩), .pointer (some ⟨bF, 0, none⟩)]] w fun r w' => ∃ o c, r = .returned (.slice o n c) ∧ w'.ownsRow w.heap.size 9 1 (.slice o n c) n (Texts.cellsT (told G n)) ∧ Below w.heap.size w w' := by
  obtain ⟨w1, hmk, hf1, b1, s1⟩ := make_texts n (by omega) G w
  have HF1 : Hid (Fill w1 w.heap.size G n 0) := hf1
  have B1 : Hid (Below w.heap.size w w1) := b1
  clear hf1 b1
  go_enter Tryz.func45, Tryz.ntmps45
  go_wp2_with fail
  go_loopw [6, 11] (fun _ t wr => ∃ k : Nat, k ≤ n ∧ t = .int .i64 (k : Int) ∧ Fill wr w.heap.size G n k ∧ Below w.heap.size w wr) (fun _ t _ => n - (intOf t).toNat)
  case atStart => exact ⟨0, Nat.zero_le _, rfl, HF1.out, B1.out⟩
  case round =>
    obtain ⟨k, hk, rfl, hfl, hbl⟩ := hrel
    have HFL : Hid (Fill wr w.heap.size G n k) := hfl
    have BL : Hid (Below w.heap.size w wr) := hbl
    clear hfl hbl
    by_cases hlt : k < n
    · have HS : Hid (Calls Tryz.prog 147 #[.int .i64 (k : Int), .pointer (some ⟨bR, 0, none⟩), .pointer (some ⟨bF, 0, none⟩)] wr fun r v' => r = .returned (.string (mk (G k))) ∧ Below wr.heap.size wr v') := hstep.out k wr hlt BL.out
      have i0 : (0 : Int) ≤ (k : Int) := Int.natCast_nonneg _
      have i1 : (k : Int) < (n : Int) := by omega
      clear hmk
      go_wp2_with fail
      refine HS.out.mono ?_
      rintro e w4 ⟨rfl, b4⟩
      have HF4 : Hid (Fill w4 w.heap.size G n k) := HFL.out.later b4
      have B4 : Hid (Below w.heap.size w w4) := bel2 BL.out b4
      have hc := HF4.out.cell hlt
      have hz := HF4.out.fz k
      have HF5 : Hid (Fill (w4.setCell ⟨w.heap.size, k, none⟩ (.string (mk (G k)))) w.heap.size G n (k + 1)) := fill_put HF4.out hlt
      have B5 : Hid (Below w.heap.size w (w4.setCell ⟨w.heap.size, k, none⟩ (.string (mk (G k))))) := B4.out.setCell (Nat.le_refl _) _
      clear b4
      go_wp2
      go_roundw
      case rel => exact ⟨k + 1, by omega, by go_num, HF5.out, B5.out⟩
      case measure => simp [intOf]; omega
    · obtain rfl : k = n := by omega
      clear hmk
      go_wp2
      go_ret
      exact ⟨_, _, rfl, HFL.out.done (Nat.le_refl _) (by omega), BL.out⟩
set_option maxRecDepth 20000 in
set_option maxHeartbeats 1600000 in
theorem gather141 (n : Nat) (hn : n ≤ 64) (bR bF : Nat) (G : Nat → List UInt8) (w : World) (hstep : Hid (∀ (k : Nat) (v : World), k < n → Below w.heap.size w v → Calls Tryz.prog 149 #[.int .i64 (k : Int), .pointer (some ⟨bR, 0, none⟩), .pointer (some ⟨bF, 0, none⟩)] v fun r v' => r = .returned (.string (mk (G k))) ∧ Below v.heap.size v v')) :
    Calls Tryz.prog 45 #[.int .i64 (n : Int), .func (.func 149) #[] #[.pointer (some ⟨bR, 0, none⟩), .pointer (some ⟨bF, 0, none⟩)]] w fun r w' => ∃ o c, r = .returned (.slice o n c) ∧ w'.ownsRow w.heap.size 9 1 (.slice o n c) n (Texts.cellsT (told G n)) ∧ Below w.heap.size w w' := by
  obtain ⟨w1, hmk, hf1, b1, s1⟩ := make_texts n (by omega) G w
  have HF1 : Hid (Fill w1 w.heap.size G n 0) := hf1
  have B1 : Hid (Below w.heap.size w w1) := b1
  clear hf1 b1
  go_enter Tryz.func45, Tryz.ntmps45
  go_wp2_with fail
  go_loopw [6, 11] (fun _ t wr => ∃ k : Nat, k ≤ n ∧ t = .int .i64 (k : Int) ∧ Fill wr w.heap.size G n k ∧ Below w.heap.size w wr) (fun _ t _ => n - (intOf t).toNat)
  case atStart => exact ⟨0, Nat.zero_le _, rfl, HF1.out, B1.out⟩
  case round =>
    obtain ⟨k, hk, rfl, hfl, hbl⟩ := hrel
    have HFL : Hid (Fill wr w.heap.size G n k) := hfl
    have BL : Hid (Below w.heap.size w wr) := hbl
    clear hfl hbl
    by_cases hlt : k < n
    · have HS : Hid (Calls Tryz.prog 149 #[.int .i64 (k : Int), .pointer (some ⟨bR, 0, none⟩), .pointer (some ⟨bF, 0, none⟩)] wr fun r v' => r = .returned (.string (mk (G k))) ∧ Below wr.heap.size wr v') := hstep.out k wr hlt BL.out
      have i0 : (0 : Int) ≤ (k : Int) := Int.natCast_nonneg _
      have i1 : (k : Int) < (n : Int) := by omega
      clear hmk
      go_wp2_with fail
      refine HS.out.mono ?_
      rintro e w4 ⟨rfl, b4⟩
      have HF4 : Hid (Fill w4 w.heap.size G n k) := HFL.out.later b4
      have B4 : Hid (Below w.heap.size w w4) := bel2 BL.out b4
      have hc := HF4.out.cell hlt
      have hz := HF4.out.fz k
      have HF5 : Hid (Fill (w4.setCell ⟨w.heap.size, k, none⟩ (.string (mk (G k)))) w.heap.size G n (k + 1)) := fill_put HF4.out hlt
      have B5 : Hid (Below w.heap.size w (w4.setCell ⟨w.heap.size, k, none⟩ (.string (mk (G k))))) := B4.out.setCell (Nat.le_refl _) _
      clear b4
      go_wp2
      go_roundw
      case rel => exact ⟨k + 1, by omega, by go_num, HF5.out, B5.out⟩
      case measure => simp [intOf]; omega
    · obtain rfl : k = n := by omega
      clear hmk
      go_wp2
      go_ret
      exact ⟨_, _, rfl, HFL.out.done (Nat.le_refl _) (by omega), BL.out⟩
set_option maxRecDepth 20000 in
set_option maxHeartbeats 1600000 in
theorem gather39 (n : Nat) (hn : n ≤ 64) (V : Value) (G : Nat → List UInt8) (w : World) (hstep : Hid (∀ (k : Nat) (v : World), k < n → Below w.heap.size w v → Calls Tryz.prog 47 #[V, .int .i64 (k : Int)] v fun r v' => r = .returned (.string (mk (G k))) ∧ Below v.heap.size v v')) :
    Calls Tryz.prog 45 #[.int .i64 (n : Int), .func (.func 47) #[V] #[]] w fun r w' => ∃ o c, r = .returned (.slice o n c) ∧ w'.ownsRow w.heap.size 9 1 (.slice o n c) n (Texts.cellsT (told G n)) ∧ Below w.heap.size w w' := by
  obtain ⟨w1, hmk, hf1, b1, s1⟩ := make_texts n (by omega) G w
  have HF1 : Hid (Fill w1 w.heap.size G n 0) := hf1
  have B1 : Hid (Below w.heap.size w w1) := b1
  clear hf1 b1
  go_enter Tryz.func45, Tryz.ntmps45
  go_wp2_with fail
  go_loopw [6, 11] (fun _ t wr => ∃ k : Nat, k ≤ n ∧ t = .int .i64 (k : Int) ∧ Fill wr w.heap.size G n k ∧ Below w.heap.size w wr) (fun _ t _ => n - (intOf t).toNat)
  case atStart => exact ⟨0, Nat.zero_le _, rfl, HF1.out, B1.out⟩
  case round =>
    obtain ⟨k, hk, rfl, hfl, hbl⟩ := hrel
    have HFL : Hid (Fill wr w.heap.size G n k) := hfl
    have BL : Hid (Below w.heap.size w wr) := hbl
    clear hfl hbl
    by_cases hlt : k < n
    · have HS : Hid (Calls Tryz.prog 47 #[V, .int .i64 (k : Int)] wr fun r v' => r = .returned (.string (mk (G k))) ∧ Below wr.heap.size wr v') := hstep.out k wr hlt BL.out
      have i0 : (0 : Int) ≤ (k : Int) := Int.natCast_nonneg _
      have i1 : (k : Int) < (n : Int) := by omega
      clear hmk
      go_wp2_with fail
      refine HS.out.mono ?_
      rintro e w4 ⟨rfl, b4⟩
      have HF4 : Hid (Fill w4 w.heap.size G n k) := HFL.out.later b4
      have B4 : Hid (Below w.heap.size w w4) := bel2 BL.out b4
      have hc := HF4.out.cell hlt
      have hz := HF4.out.fz k
      have HF5 : Hid (Fill (w4.setCell ⟨w.heap.size, k, none⟩ (.string (mk (G k)))) w.heap.size G n (k + 1)) := fill_put HF4.out hlt
      have B5 : Hid (Below w.heap.size w (w4.setCell ⟨w.heap.size, k, none⟩ (.string (mk (G k))))) := B4.out.setCell (Nat.le_refl _) _
      clear b4
      go_wp2
      go_roundw
      case rel => exact ⟨k + 1, by omega, by go_num, HF5.out, B5.out⟩
      case measure => simp [intOf]; omega
    · obtain rfl : k = n := by omega
      clear hmk
      go_wp2
      go_ret
      exact ⟨_, _, rfl, HFL.out.done (Nat.le_refl _) (by omega), BL.out⟩
end Go.Proofs.YtcpfhfdgfcilaaaGreatDoor.Arr
set_option linter.unusedVariables false
set_option linter.unusedSimpArgs false
namespace Go.Proofs.YtcpfhfdgfcilaaaGreatDoor.Arr
open Go.ChangeShapes Go.WideShapes Go.ChangeAt Go.RowKit
open Tree Val

set_option maxRecDepth 20000 in
set_option maxHeartbeats 1600000 in
theorem above (s : ByteArray) (bR bP p i : Nat) (hs : s.size ≤ 4096) (h : has4 s i = true) (hi : i ≤ 4096) (w : World) (hR : w.cell? ⟨bR, 5, none⟩ = some (.string s)) (hP : w.cell? ⟨bP, 0, none⟩ = some (.int .i64 (p : Int))) :
    Calls Tryz.prog 140 #[.int .i64 (i : Int), .pointer (some ⟨bR, 0, none⟩), .pointer (some ⟨bP, 0, none⟩)] w fun r w' => r = .returned (.bool (decide (p < endAt s i))) ∧ Below w.heap.size w w' := by
  have HSH : Hid (∀ v, Calls Tryz.prog 79 #[.string s, .int .i64 (i : Int)] v fun r w' => r = .returned (.int .i64 ((endAt s i : Nat) : Int)) ∧ w' = v) := fun v => rshort s i hs h hi v
  generalize endAt s i = E at *
  clear h
  go_enter Tryz.func140, Tryz.ntmps140
  go_wp2_with fail
  have KR : Hid (w.drew.cell? ⟨bR, 5, none⟩ = some (.string s) ∧ w.drew.cell? ⟨bP, 0, none⟩ = some (.int .i64 (p : Int))) := ⟨hR, hP⟩
  refine wp_region_noPanic ?_
  refine wp_region_held_drew (S := fun W : World => W.cell? ⟨bR, 5, none⟩ = some (.string s) ∧ W.cell? ⟨bP, 0, none⟩ = some (.int .i64 (p : Int))) (by kernel_rfl) KR.out (fun h0 => ?_)
  have BD : Hid (Below w.heap.size w w.drew) := drewN_below _ _
  clear hR hP
  generalize w.drew = wd at *
  refine take_at (i := 0) (d := some 5) (v := ?v0a) rfl rfl (by kernel_rfl) (by kernel_rfl) (by kernel_rfl) (fun _ _ _ h => h) (Or.inl ⟨by rfl, ?y0a⟩) h0 ?r0a
  case y0a => (intro w' hSw; (try dsimp only at hSw); go_simp; try with_reducible rfl)
  try simp only [Act.put, List.setIfInBounds_toArray, List.set_cons_zero, List.set_cons_succ]
  refine take_at (i := 1) (d := some 6) (v := ?v1a) rfl rfl (by kernel_rfl) (by kernel_rfl) (by kernel_rfl) (fun _ _ _ h => h) (Or.inl ⟨by rfl, ?y1a⟩) h0 ?r1a
  case y1a => (intro w' hSw; (try dsimp only at hSw); go_simp; try with_reducible rfl)
  try simp only [Act.put, List.setIfInBounds_toArray, List.set_cons_zero, List.set_cons_succ]
  refine take_at (i := 2) (d := some 7) (v := ?v2a) rfl rfl (by kernel_rfl) (by kernel_rfl) (by kernel_rfl) (fun _ _ _ h => h) (Or.inl ⟨by rfl, ?y2a⟩) h0 ?r2a
  case y2a => (intro w' hSw; (try dsimp only at hSw); go_simp; try with_reducible rfl)
  try simp only [Act.put, List.setIfInBounds_toArray, List.set_cons_zero, List.set_cons_succ]
  refine take_at (i := 3) (d := some 8) (v := ?v3a) rfl rfl (by kernel_rfl) (by kernel_rfl) (by kernel_rfl) (fun _ _ _ h => h) (Or.inl ⟨by rfl, ?y3a⟩) h0 ?r3a
  case y3a => (intro w' hSw; (try dsimp only at hSw); go_simp; try with_reducible rfl)
  try simp only [Act.put, List.setIfInBounds_toArray, List.set_cons_zero, List.set_cons_succ]
  refine take_at (i := 5) (d := some 10) (v := ?v5a) rfl rfl (by kernel_rfl) (by kernel_rfl) (by kernel_rfl) (fun _ _ _ h => h) (Or.inl ⟨by rfl, ?y5a⟩) h0 ?r5a
  case y5a => (intro w' hSw; (try dsimp only at hSw); go_simp; try with_reducible rfl)
  try simp only [Act.put, List.setIfInBounds_toArray, List.set_cons_zero, List.set_cons_succ]
  refine wpAnyH_ready (rs := [4]) (by kernel_rfl) (by simp) ?_
  refine AllReadyH.cons rfl (fun K hK => ?_) AllReadyH.nil
  go_simp
  go_at_call 79
  refine (HSH.out _).mono ?_
  rintro e wx ⟨rfl, rfl⟩
  refine hK.out _ _ KR.out (fun h1 => ?_)
  clear hK K
  try simp only [Act.put, List.setIfInBounds_toArray, List.set_cons_zero, List.set_cons_succ]
  refine take_at (i := 6) (d := some 11) (v := ?v6a) rfl rfl (by kernel_rfl) (by kernel_rfl) (by kernel_rfl) (fun _ _ _ h => h) (Or.inl ⟨by rfl, ?y6a⟩) h1 ?r6a
  case y6a => (intro w' hSw; (try dsimp only at hSw); go_simp; try with_reducible rfl)
  try simp only [Act.put, List.setIfInBounds_toArray, List.set_cons_zero, List.set_cons_succ]
  refine take_at (i := 7) (d := some 4) (v := ?v7a) rfl rfl (by kernel_rfl) (by kernel_rfl) (by kernel_rfl) (fun _ _ _ h => h) (Or.inl ⟨by rfl, ?y7a⟩) h1 ?r7a
  case y7a => (intro w' hSw; (try dsimp only at hSw); go_simp; try with_reducible rfl)
  try simp only [Act.put, List.setIfInBounds_toArray, List.set_cons_zero, List.set_cons_succ]
  refine wpAnyH_done (by kernel_rfl) ?_ _
  refine NoPanic.normal ?_
  go_wp2
  go_ret
  exact ⟨by first | rfl | (congr 2), BD.out⟩
set_option maxRecDepth 20000 in
set_option maxHeartbeats 1600000 in
theorem search132 (n : Nat) (hn : n ≤ 4096) (bR bP : Nat) (P : Nat → Bool) (hP : ∀ i j, i ≤ j → j < n → P i = true → P j = true) (w : World) (hstep : Hid (∀ (k : Nat) (v : World), k < n → Below w.heap.size w v → Calls Tryz.prog 140 #[.int .i64 (k : Int), .pointer (some ⟨bR, 0, none⟩), .pointer (some ⟨bP, 0, none⟩)] v fun r v' => r = .returned (.bool (P k)) ∧ Below v.heap.size v v')) :
    Calls Tryz.prog 139 #[.int .i64 (n : Int), .func (.func 140) #[] #[.pointer (some ⟨bR, 0, none⟩), .pointer (some ⟨bP, 0, none⟩)]] w fun r w' => ∃ m : Nat, r = .returned (.int .i64 (m : Int)) ∧ m ≤ n ∧ (∀ i, i < m → P i = false) ∧ (m < n → P m = true) ∧ Below w.heap.size w w' := by
  have HP : Hid (∀ i j, i ≤ j → j < n → P i = true → P j = true) := hP
  clear hP
  go_enter Tryz.func139, Tryz.ntmps139
  go_wp2_with fail
  go_loopw [5, 6, 7] (fun u v _ wr => ∃ i j : Nat, i ≤ j ∧ j ≤ n ∧ u = .int .i64 (i : Int) ∧ v = .int .i64 (j : Int) ∧ (∀ t, t < i → P t = false) ∧ (j < n → P j = true) ∧ Below w.heap.size w wr) (fun u v _ _ => (intOf v).toNat - (intOf u).toNat)
  case atStart => exact ⟨0, n, Nat.zero_le _, Nat.le_refl _, rfl, rfl, fun t ht => by omega, fun h => by omega, Below.refl _ _⟩
  case round =>
    obtain ⟨i, j, hij, hjn, rfl, rfl, hlo, hhi, hbl⟩ := hrel
    have HLO : Hid (∀ t, t < i → P t = false) := hlo
    have HHI : Hid (j < n → P j = true) := hhi
    have BL : Hid (Below w.heap.size w wr) := hbl
    clear hlo hhi hbl
    by_cases hlt : i < j
    · have q1 : IntKind.i64.wrap ((i : Int) + (j : Int)) = (i : Int) + (j : Int) := by rw [IntKind.wrap_i64]; omega
      obtain ⟨h, hh⟩ : ∃ h, h = (i + j) / 2 := ⟨_, rfl⟩
      have HM : Hid (i ≤ h ∧ h < j) := ⟨by omega, by omega⟩
      have q2 : ((i : Int) + (j : Int)) / 2 = (h : Int) := by omega
      have HC : Hid (Calls Tryz.prog 140 #[.int .i64 (h : Int), .pointer (some ⟨bR, 0, none⟩), .pointer (some ⟨bP, 0, none⟩)] wr fun r v' => r = .returned (.bool (P h)) ∧ Below wr.heap.size wr v') := hstep.out h wr (by omega) BL.out
      have i0 : (0 : Int) ≤ (i : Int) := Int.natCast_nonneg _
      have i1 : (i : Int) < (j : Int) := by omega
      have i2 : (j : Int) ≤ 4096 := by omega
      clear hh
      go_wp2_with fail
      refine HC.out.mono ?_
      rintro e w4 ⟨rfl, b4⟩
      have B4 : Hid (Below w.heap.size w w4) := bel2 BL.out b4
      clear b4
      cases hq : P h
      · have HL2 : Hid (∀ t, t < h + 1 → P t = false) := fun t ht => by
          cases hp : P t with
          | false => rfl
          | true => rw [HP.out t h (by omega) (by have := HM.out; omega) hp] at hq; cases hq
        have HM2 : Hid (h + 1 ≤ j) := by have := HM.out; unfold Hid; omega
        clear hq
        go_wp2
        go_roundw
        case rel => exact ⟨h + 1, j, HM2.out, hjn, by go_num, rfl, HL2.out, HHI.out, B4.out⟩
        case measure => have := HM.out; simp [intOf]; omega
      · have HQ : Hid (P h = true) := hq
        clear hq
        go_wp2
        go_roundw
        case rel => exact ⟨i, h, HM.out.1, by have := HM.out; omega, rfl, rfl, HLO.out, fun _ => HQ.out, B4.out⟩
        case measure => have := HM.out; simp [intOf]; omega
    · obtain rfl : i = j := by omega
      go_wp2
      go_ret
      exact ⟨i, rfl, hjn, HLO.out, HHI.out, BL.out⟩
end Go.Proofs.YtcpfhfdgfcilaaaGreatDoor.Arr
set_option linter.unusedVariables false
set_option linter.unusedSimpArgs false
namespace Go.Proofs.YtcpfhfdgfcilaaaGreatDoor.Arr
open Go.ChangeShapes Go.WideShapes Go.ChangeAt Go.RowKit
open Tree Val

theorem runs_rise {a : Arr} (h : runB a = true) {i j : Nat} (hij : i ≤ j) : j < (kidAt a 0).length.toNat → endAt a.data i ≤ endAt a.data j := by
  unfold runB at h
  rw [Bool.and_eq_true, Bool.and_eq_true, Bool.and_eq_true, List.all_eq_true] at h
  have h3 := h.1.2
  induction hij with
  | refl => intro _; exact Nat.le_refl _
  | @step j hij ih =>
    intro hj
    have h4 := h3 (j + 1) (List.mem_range.2 hj)
    rw [Bool.and_eq_true, decide_eq_true_eq] at h4
    have h5 := h4.2
    have h6 : prev a.data (j + 1) = endAt a.data j := by
      unfold prev
      rw [if_neg (Nat.succ_ne_zero j), Nat.add_sub_cancel]
    rw [h6] at h5
    have := ih (by omega)
    show endAt a.data i ≤ endAt a.data (j + 1)
    omega
theorem runs_has {a : Arr} (h : runB a = true) {i : Nat} (hi : i < (kidAt a 0).length.toNat) : has4 a.data i = true := by
  unfold runB at h
  rw [Bool.and_eq_true, Bool.and_eq_true, Bool.and_eq_true, List.all_eq_true] at h
  have h4 := h.1.2 i (List.mem_range.2 hi)
  rw [Bool.and_eq_true] at h4
  exact h4.1
theorem runs_size {a : Arr} (h : runB a = true) : (a.data.size : Int) = 4 * (kidAt a 0).length := by
  unfold runB at h
  rw [Bool.and_eq_true, Bool.and_eq_true, Bool.and_eq_true, decide_eq_true_eq, decide_eq_true_eq] at h
  exact h.1.1.2
/-- The first end above a place is where a search finds it. -/
theorem run_least {a : Arr} {p K m : Nat} (hm : m < K) (h1 : ∀ i, i < m → decide (p < endAt a.data i) = false) (h2 : decide (p < endAt a.data m) = true) : runAt a.data p K 0 = m := by
  have h3 : p < endAt a.data m := of_decide_eq_true h2
  obtain ⟨q1, q2, q3⟩ := runAt_found a.data p m h3 K 0 (by omega) (Nat.zero_le _) (fun j hj => by omega)
  by_cases c : runAt a.data p K 0 = m
  · exact c
  · have := of_decide_eq_false (h1 (runAt a.data p K 0) (by omega))
    omega
set_option maxRecDepth 20000 in
set_option maxHeartbeats 1600000 in
theorem rrun (a : Arr) (o : Option Addr) (cap : Nat) (k : Int) (r : Option Addr) (n c : Nat) (p : Nat) (hs : a.data.size ≤ 4096) (h : runB a = true) (hr : ((runAt a.data p (kidAt a 0).length.toNat 0 : Nat) : Int) < (kidAt a 0).length) (hx : ∃ i, i < (kidAt a 0).length.toNat ∧ p < endAt a.data i) (w : World) :
    Calls Tryz.prog 80 #[rdVal a o cap k r n c, .int .i64 (p : Int)] w fun e w' => e = .returned (.int .i64 ((runAt a.data p (kidAt a 0).length.toNat 0 : Nat) : Int)) ∧ Below w.heap.size w w' := by
  obtain ⟨w1, e1, x1, b1, s1⟩ := box9 w a o cap k r n c
  obtain ⟨w2, e2, s2, c2, b2⟩ := boxed w1 (.int .i64 (p : Int)) 3
  have B2 : Hid (Below w.heap.size w w2) := bel2 b1 b2
  have X2 : Hid (Rx w2 w.heap.size a o cap k r n c) := x1.later b2
  have HC2 : Hid (w2.cell? ⟨w1.heap.size, 0, none⟩ = some (.int .i64 (p : Int))) := c2
  obtain ⟨K, hK⟩ : ∃ K, K = (kidAt a 0).length.toNat := ⟨_, rfl⟩
  have hsz := runs_size h
  have hq : ((a.data.size : Nat) : Int) / 4 = (K : Int) := by omega
  have hK4 : K ≤ 4096 := by omega
  have HS : Hid (Calls Tryz.prog 139 #[.int .i64 (K : Int), .func (.func 140) #[] #[.pointer (some ⟨w.heap.size, 0, none⟩), .pointer (some ⟨w1.heap.size, 0, none⟩)]] w2 fun r w' => ∃ m : Nat, r = .returned (.int .i64 (m : Int)) ∧ m ≤ K ∧ (∀ i, i < m → decide (p < endAt a.data i) = false) ∧ (m < K → decide (p < endAt a.data m) = true) ∧ Below w2.heap.size w2 w') :=
    search132 K hK4 w.heap.size w1.heap.size (fun i => decide (p < endAt a.data i)) (fun i j hij hj hi => decide_eq_true (Nat.lt_of_lt_of_le (of_decide_eq_true hi) (runs_rise h hij (by omega)))) w2 (fun i v hi hv => above a.data w.heap.size w1.heap.size p i hs (runs_has h (by omega)) (by omega) v (X2.out.later hv).c5 (cell_later hv HC2.out))
  have HX : Hid (∃ i, i < K ∧ p < endAt a.data i) := by rw [hK]; exact hx
  have d5 := X2.out.c5
  unfold rdVal
  rw [← hK]
  obtain ⟨Q, hQ⟩ : ∃ Q, runAt a.data p K 0 = Q := ⟨_, rfl⟩
  have HQ : Hid (runAt a.data p K 0 = Q) := hQ
  rw [hQ]
  clear hQ b1 b2 s1 s2 c2 x1 hx hr h hK hsz
  go_enter Tryz.func80, Tryz.ntmps80
  go_wp2_with fail
  refine HS.out.mono ?_
  rintro e w3 ⟨m, rfl, hm, h1, h2, b3⟩
  have HMK : Hid (m < K) := by
    obtain ⟨i, hi, hp⟩ := HX.out
    by_cases c : m < K
    · exact c
    · have := of_decide_eq_false (h1 i (by omega))
      omega
  have HM : Hid (Q = m) := HQ.out.symm.trans (run_least HMK.out h1 (h2 HMK.out))
  have B3 : Hid (Below w.heap.size w w3) := bel2 B2.out b3
  clear h1 h2 b3 HX HMK hm
  obtain rfl := HM.out
  go_wp2
  go_ret
  exact ⟨rfl, B3.out⟩
end Go.Proofs.YtcpfhfdgfcilaaaGreatDoor.Arr
namespace Go.Proofs.YtcpfhfdgfcilaaaGreatDoor.Arr
open Go.ChangeShapes Go.WideShapes Go.ChangeAt Go.RowKit
open Tree Val

/-- A reader's nine cells. -/
def rdCells (a : Arr) (o : Option Addr) (cap : Nat) (k : Int) (r : Option Addr) (n c : Nat) : List Value := [.int .i64 a.layout, .int .i64 a.offset, .int .i64 a.length, .string a.valid, .string a.ends, .string a.data, .slice o a.kids.length cap, .int .i64 k, .slice r n c]
/-- The node of an array's kid: of a dictionary, of runs its own. -/
def kidNode (ns : List Nd) (n : Nat) (a : Arr) (i : Nat) : Nat := if a.layout = 0 then kAt ns n i else n
/-- These cells are a reader's of an array of a node; so deep it goes. -/
def HoldsRd (w : World) (ns : List Nd) : Nat → Nat → List Value → Arr → Prop
  | 0, _, _, _ => False
  | f + 1, n, cs, a => ∃ (o : Option Addr) (cap : Nat) (r : Option Addr) (c : Nat), cs = rdCells a o cap (nd ns n).kind r a.kids.length c ∧
      (a.kids = [] ∨ ∃ g, r = some ⟨g, 0, none⟩ ∧ ∀ i, i < a.kids.length → ∃ cs', cs'.length = 9 ∧ (∀ j, j < 9 → w.cell? ⟨g, i * 9 + j, none⟩ = cs'[j]?) ∧ HoldsRd w ns f (kidNode ns n a i) cs' (kidAt a i))
theorem HoldsRd.later {w w' : World} {ns : List Nd} (hb : Below w.heap.size w w') : ∀ {f n : Nat} {cs : List Value} {a : Arr}, HoldsRd w ns f n cs a → HoldsRd w' ns f n cs a := by
  intro f
  induction f with
  | zero => intro n cs a h; cases h
  | succ f ih =>
    rintro n cs a ⟨o, cap, r, c, h1, h2⟩
    refine ⟨o, cap, r, c, h1, h2.imp id ?_⟩
    rintro ⟨g, e, hx⟩
    refine ⟨g, e, fun i hi => ?_⟩
    obtain ⟨cs', hl, hc, hh⟩ := hx i hi
    refine ⟨cs', hl, fun j hj => ?_, ih hh⟩
    have hv : cs'[j]? = some (cs'[j]'(by omega)) := List.getElem?_eq_getElem (by omega)
    have := hc j hj
    rw [hv] at this ⊢
    exact (hb.cell (World.block_lt_of_cell? _ _ this)).trans this
end Go.Proofs.YtcpfhfdgfcilaaaGreatDoor.Arr
