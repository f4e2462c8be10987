/-
  Several texts in one: The document's ArrayMay: its head: contracts. · The document's ArrayMay: which rows lack, plain arrays: contracts.
-/
import Derived.Test.YthbjeedmhgnnaaaGreatB10
namespace Go.Proofs.YthbjeedmhgnnaaaGreat.Arr
open Go.ChangeShapes Go.WideShapes Go.ChangeAt Go.RowKit
open Tree Val

set_option maxRecDepth 20000 in
set_option maxHeartbeats 3200000 in
theorem ref_no (ns : List Nd) (oT : Option Addr) (capT : Nat) (at' : Int) (a : Arr) (o : Option Addr) (cap : Nat) (w : World) (ht : IsT w oT ns) (hb : hasB ns at' = false) :
    Calls Tryz.prog 22 #[.agg #[.slice oT ns.length capT], .int .i64 at', a.val o cap] w fun r w' => r = .returned (.bool false) ∧ Below w.heap.size w w' := by
  obtain ⟨w1, e1, s1, c1, b1⟩ := boxed w (.slice oT ns.length capT) 27
  obtain ⟨w2, e2, x2, b2, z2⟩ := box7 w1 a o cap
  have B2 : Hid (Below w.heap.size w w2) := bel2 b1 b2
  have cT := cell_later b2 c1
  have HK : Hid (Calls Tryz.prog 23 #[.agg #[.slice oT ns.length capT], .int .i64 at'] w2 fun r w' => r = .returned (.bool (hasB ns at')) ∧ Below w2.heap.size w2 w') := nodeMay oT capT ns at' w2 (ht.later B2.out)
  have X2 : Hid (Bx w2 w1.heap.size a o cap) := x2
  clear s1 c1 b1 b2 x2 z2
  rw [hb] at HK
  clear ht hb
  unfold Arr.val
  go_enter Tryz.func22, Tryz.ntmps22
  go_wp2_with fail
  refine HK.out.mono ?_
  rintro e w3 ⟨rfl, b3⟩
  have B3 : Hid (Below w.heap.size w w3) := bel2 B2.out b3
  have BB : Hid (Below w2.heap.size w2 w3) := b3
  have X3 : Hid (Bx w3 w1.heap.size a o cap) := X2.out.later b3
  have d0 := X3.out.c0
  have d1 := X3.out.c1
  have d2 := X3.out.c2
  have d3 := X3.out.c3
  have d4 := X3.out.c4
  have d5 := X3.out.c5
  have d6 := X3.out.c6
  clear b3 e1 e2
  go_wp2
  go_ret
  exact ⟨rfl, B3.out⟩
set_option maxRecDepth 20000 in
set_option maxHeartbeats 3200000 in
theorem ref_head (ns : List Nd) (oT : Option Addr) (capT : Nat) (at' : Int) (a : Arr) (o : Option Addr) (cap : Nat) (w : World) (ht : IsT w oT ns) (hb : hasB ns at' = true) (h0 : hasRowsB a = false ∨ shortsOf a.valid a.ends a.data = false) :
    Calls Tryz.prog 22 #[.agg #[.slice oT ns.length capT], .int .i64 at', a.val o cap] w fun r w' => r = .returned (.bool false) ∧ Below w.heap.size w w' := by
  obtain ⟨w1, e1, s1, c1, b1⟩ := boxed w (.slice oT ns.length capT) 27
  obtain ⟨w2, e2, x2, b2, z2⟩ := box7 w1 a o cap
  have B2 : Hid (Below w.heap.size w w2) := bel2 b1 b2
  have cT := cell_later b2 c1
  have HK : Hid (Calls Tryz.prog 23 #[.agg #[.slice oT ns.length capT], .int .i64 at'] w2 fun r w' => r = .returned (.bool (hasB ns at')) ∧ Below w2.heap.size w2 w') := nodeMay oT capT ns at' w2 (ht.later B2.out)
  have X2 : Hid (Bx w2 w1.heap.size a o cap) := x2
  clear s1 c1 b1 b2 x2 z2
  rw [hb] at HK
  clear ht hb
  have HH : Hid (¬ (0 ≤ a.offset ∧ 0 ≤ a.length ∧ a.offset + a.length ≤ 64 ∧ a.valid.size ≤ 4096 ∧ a.ends.size ≤ 4096 ∧ a.data.size ≤ 4096)) := by
    rintro ⟨q1, q2, q3, q4, q5, q6⟩
    rcases h0 with h | h
    · unfold hasRowsB at h
      rw [decide_eq_true ⟨q1, q2, q3⟩] at h
      cases h
    · unfold shortsOf at h
      rw [decide_eq_true q4, decide_eq_true q5, decide_eq_true q6] at h
      cases h
  clear h0
  unfold Arr.val
  go_enter Tryz.func22, Tryz.ntmps22
  go_wp2_with fail
  refine HK.out.mono ?_
  rintro e w3 ⟨rfl, b3⟩
  have B3 : Hid (Below w.heap.size w w3) := bel2 B2.out b3
  have BB : Hid (Below w2.heap.size w2 w3) := b3
  have X3 : Hid (Bx w3 w1.heap.size a o cap) := X2.out.later b3
  have d0 := X3.out.c0
  have d1 := X3.out.c1
  have d2 := X3.out.c2
  have d3 := X3.out.c3
  have d4 := X3.out.c4
  have d5 := X3.out.c5
  have d6 := X3.out.c6
  clear b3 e1 e2
  generalize a.offset = p at *
  generalize a.length = q at *
  by_cases g1 : p < 0
  · go_wp2
    go_ret
    exact ⟨rfl, B3.out⟩
  by_cases g2 : q < 0
  · go_wp2
    go_ret
    exact ⟨rfl, B3.out⟩
  by_cases g3 : 64 < p
  · go_wp2
    go_ret
    exact ⟨rfl, B3.out⟩
  have hw : IntKind.i64.wrap (64 - p) = 64 - p := by rw [IntKind.wrap_i64]; omega
  by_cases g4 : 64 - p < q
  · go_wp2
    go_ret
    exact ⟨rfl, B3.out⟩
  by_cases g5 : 4096 < ((a.valid.size : Nat) : Int)
  · go_wp2
    go_ret
    exact ⟨rfl, B3.out⟩
  by_cases g6 : 4096 < ((a.ends.size : Nat) : Int)
  · go_wp2
    go_ret
    exact ⟨rfl, B3.out⟩
  have g7 : 4096 < ((a.data.size : Nat) : Int) := by
    by_cases c : 4096 < ((a.data.size : Nat) : Int)
    · exact c
    · exact absurd ⟨by omega, by omega, by omega, by omega, by omega, by omega⟩ HH.out
  go_wp2
  go_ret
  exact ⟨rfl, B3.out⟩
end Go.Proofs.YthbjeedmhgnnaaaGreat.Arr
namespace Go.Proofs.YthbjeedmhgnnaaaGreat.Arr
open Go.ChangeShapes Go.WideShapes Go.ChangeAt Go.RowKit
open Tree Val

set_option maxRecDepth 20000 in
set_option maxHeartbeats 3200000 in
theorem ref_lack (ns : List Nd) (oT : Option Addr) (capT n : Nat) (a : Arr) (o : Option Addr) (cap : Nat) (w : World) (ht : IsT w oT ns) (hn : n < ns.length) (hm : may ns = true) (ho : Ok a) (h2 : lackB (nd ns n).null a = false) :
    Calls Tryz.prog 22 #[.agg #[.slice oT ns.length capT], .int .i64 (n : Int), a.val o cap] w fun r w' => r = .returned (.bool false) ∧ Below w.heap.size w w' := by
  obtain ⟨w1, e1, s1, c1, b1⟩ := boxed w (.slice oT ns.length capT) 27
  obtain ⟨w2, e2, x2, b2, z2⟩ := box7 w1 a o cap
  obtain ⟨x, rfl, hl⟩ := ht.some (by omega)
  have hB : hasB ns (n : Int) = true := by unfold hasB; rw [hm, decide_eq_true (by omega)]; rfl
  have B2 : Hid (Below w.heap.size w w2) := bel2 b1 b2
  have cT := cell_later b2 c1
  have HCT : Hid (w2.cell? ⟨w.heap.size, 0, none⟩ = some (.slice (some x) ns.length capT)) := cT
  have HK : Hid (Calls Tryz.prog 23 #[.agg #[.slice (some x) ns.length capT], .int .i64 (n : Int)] w2 fun r w' => r = .returned (.bool true) ∧ Below w2.heap.size w2 w') := by
    have := nodeMay (some x) capT ns (n : Int) w2 (ht.later B2.out)
    rw [hB] at this
    exact this
  have X2 : Hid (Bx w2 w1.heap.size a o cap) := x2
  have HLI : Hid (Lies w x ns) := hl
  have hrow : rowsOf a ≤ 64 := by have := ho.rows; have := ho.off; have := ho.len; unfold rowsOf; omega
  have g1 := ho.off
  have g2 := ho.len
  have g3 := ho.rows
  have g4 : ((a.valid.size : Nat) : Int) ≤ 4096 := by have := ho.valid; omega
  have g5 : ((a.ends.size : Nat) : Int) ≤ 4096 := by have := ho.ends; omega
  have g6 : ((a.data.size : Nat) : Int) ≤ 4096 := by have := ho.data; omega
  have g7 : a.offset ≤ 64 := by omega
  have g8 : a.length ≤ 64 - a.offset := by omega
  have HSUM : Hid (a.offset + a.length = ((rowsOf a : Nat) : Int)) := by unfold Hid rowsOf; omega
  have j0 : (0 : Int) ≤ (n : Int) := Int.natCast_nonneg _
  have j1 : (n : Int) < (ns.length : Int) := by omega
  clear s1 c1 b1 b2 x2 z2 hB ht hl ho
  unfold Arr.val
  go_enter Tryz.func22, Tryz.ntmps22
  go_wp2_with fail
  refine HK.out.mono ?_
  rintro e w3 ⟨rfl, b3⟩
  have B3 : Hid (Below w.heap.size w w3) := bel2 B2.out b3
  have BB : Hid (Below w2.heap.size w2 w3) := b3
  have X3 : Hid (Bx w3 w1.heap.size a o cap) := X2.out.later b3
  have d0 := X3.out.c0
  have d1 := X3.out.c1
  have d2 := X3.out.c2
  have d3 := X3.out.c3
  have d4 := X3.out.c4
  have d5 := X3.out.c5
  have d6 := X3.out.c6
  clear b3 e1 e2
  have cT3 := cell_later BB.out HCT.out
  have HC3 : Hid (w3.cell? ⟨w.heap.size, 0, none⟩ = some (.slice (some x) ns.length capT)) := cT3
  have HL3 : Hid (Lies w3 x ns) := HLI.out.later B3.out
  go_wp2_with fail
  rw [HSUM.out]
  have hne := BW.some w3
  have C := X3.out.cells
  clear d0 d1 d2 d3 d4 d5 d6
  have d0 := C.d0
  have d1 := C.d1
  have d2 := C.d2
  have d3 := C.d3
  have d4 := C.d4
  have d5 := C.d5
  have d6 := C.d6
  have tT : ∀ s : BW w3, s.w.cell? ⟨w.heap.size, 0, none⟩ = some (.slice (some x) ns.length capT) := fun s => cell_later s.ok HC3.out
  have n2 : ∀ s : BW w3, s.w.cell? { block := (x.add (n * 3)).block, off := (x.add (n * 3)).off + 2 } = some (.bool (nd ns n).null) := fun s => (HL3.out.later s.ok).null' n hn
  clear C
  have HBB : Hid (∀ v, Calls Tryz.prog 43 #[.int .i64 ((rowsOf a : Nat) : Int)] v fun e w' => e = .returned (.int .i64 ((((rowsOf a : Nat) : Int) + 7) / 8)) ∧ w' = v) := fun v => Bit.bitBytes _ v (by omega) (by omega)
  by_cases hv : a.valid.size = 0
  · have hvv := empty_of hv
    exfalso
    unfold lackB at h2
    rw [decide_eq_true hv] at h2
    cases h2
  · have hev := ne_empty hv
    cases hnu : (nd ns n).null
    · rw [hnu] at n2
      clear hnu
      refine region_in (C := fun w' => ∃ s : BW w3, w' = s.w) (by kernel_rfl) (by kernel_rfl) ⟨⟨w3.drew, (Below.refl _ _).drew⟩, rfl⟩ ?_
      repeat (go_big_quiet_step (first
        | (go_at_call 43; rename_i s; refine (HBB.out s.w).mono ?_; rintro e wx ⟨rfl, hbx⟩; exact ⟨rfl, s, hbx⟩)))
      refine wpQuiet_nil ?_
      intro _ hw'
      obtain ⟨s, hw''⟩ := hw'
      subst hw''
      have HE4 : Hid (Below w3.heap.size w3 s.w) := s.ok
      clear hne d0 d1 d2 d3 d4 d5 d6 tT n2
      go_wp2
      go_ret
      exact ⟨rfl, bel2 B3.out HE4.out⟩
    · rw [hnu] at n2
      have hsz : ((a.valid.size : Nat) : Int) < (((rowsOf a : Nat) : Int) + 7) / 8 := by
        unfold lackB at h2
        rw [decide_eq_false hv, hnu, Bool.false_or, Bool.true_and, decide_eq_false_iff_not] at h2
        omega
      clear hnu hv
      refine region_in (C := fun w' => ∃ s : BW w3, w' = s.w) (by kernel_rfl) (by kernel_rfl) ⟨⟨w3.drew, (Below.refl _ _).drew⟩, rfl⟩ ?_
      repeat (go_big_quiet_step (first
        | (go_at_call 43; rename_i s; refine (HBB.out s.w).mono ?_; rintro e wx ⟨rfl, hbx⟩; exact ⟨rfl, s, hbx⟩)))
      refine wpQuiet_nil ?_
      intro _ hw'
      obtain ⟨s, hw''⟩ := hw'
      subst hw''
      have HE4 : Hid (Below w3.heap.size w3 s.w) := s.ok
      clear hne d0 d1 d2 d3 d4 d5 d6 tT n2
      go_wp2
      go_ret
      exact ⟨rfl, bel2 B3.out HE4.out⟩
set_option maxRecDepth 20000 in
set_option maxHeartbeats 3200000 in
theorem ref_plain0 (B bytes f : Nat) (ih : Hid (RefC B bytes f)) (ns : List Nd) (oT : Option Addr) (capT n : Nat) (a : Arr) (o : Option Addr) (cap : Nat) (w : World) (ht : IsT w oT ns) (hn : n < ns.length) (hm : may ns = true) (hH : Hid (HoldsF B bytes w (f + 1) (a.cells o cap) a)) (ho : Ok a) (h2 : lackB (nd ns n).null a = true) (c0 : a.layout = 0) :
    Calls Tryz.prog 22 #[.agg #[.slice oT ns.length capT], .int .i64 (n : Int), a.val o cap] w fun r w' => r = .returned (.bool (plainB (mayF ns f) ns n a)) ∧ Below w.heap.size w w' := by
  obtain ⟨w1, e1, s1, c1, b1⟩ := boxed w (.slice oT ns.length capT) 27
  obtain ⟨w2, e2, x2, b2, z2⟩ := box7 w1 a o cap
  obtain ⟨x, rfl, hl⟩ := ht.some (by omega)
  have hB : hasB ns (n : Int) = true := by unfold hasB; rw [hm, decide_eq_true (by omega)]; rfl
  have B2 : Hid (Below w.heap.size w w2) := bel2 b1 b2
  have cT := cell_later b2 c1
  have HCT : Hid (w2.cell? ⟨w.heap.size, 0, none⟩ = some (.slice (some x) ns.length capT)) := cT
  have HK : Hid (Calls Tryz.prog 23 #[.agg #[.slice (some x) ns.length capT], .int .i64 (n : Int)] w2 fun r w' => r = .returned (.bool true) ∧ Below w2.heap.size w2 w') := by
    have := nodeMay (some x) capT ns (n : Int) w2 (ht.later B2.out)
    rw [hB] at this
    exact this
  have X2 : Hid (Bx w2 w1.heap.size a o cap) := x2
  have HT : Hid (IsT w (some x) ns) := ht
  have HLI : Hid (Lies w x ns) := hl
  have HOK : Hid (Ok a) := ho
  have hrow : rowsOf a ≤ 64 := by have := ho.rows; have := ho.off; have := ho.len; unfold rowsOf; omega
  have g1 := ho.off
  have g2 := ho.len
  have g3 := ho.rows
  have g4 : ((a.valid.size : Nat) : Int) ≤ 4096 := by have := ho.valid; omega
  have g5 : ((a.ends.size : Nat) : Int) ≤ 4096 := by have := ho.ends; omega
  have g6 : ((a.data.size : Nat) : Int) ≤ 4096 := by have := ho.data; omega
  have g7 : a.offset ≤ 64 := by omega
  have g8 : a.length ≤ 64 - a.offset := by omega
  have HSUM : Hid (a.offset + a.length = ((rowsOf a : Nat) : Int)) := by unfold Hid rowsOf; omega
  have j0 : (0 : Int) ≤ (n : Int) := Int.natCast_nonneg _
  have j1 : (n : Int) < (ns.length : Int) := by omega
  clear s1 c1 b1 b2 x2 z2 hB ht hl ho
  have HC0 : Hid (a.layout = 0) := c0
  have HPl : Hid (∀ v, Below w.heap.size w v → Calls Tryz.prog 44 #[.agg #[.slice (some x) ns.length capT], .int .i64 (n : Int), a.val o cap, .int .i64 ((rowsOf a : Nat) : Int)] v fun r w' => r = .returned (.bool (plainB (mayF ns f) ns n a)) ∧ Below v.heap.size v w') := fun v hv => refPlain B bytes f ih.out ns (some x) capT n hn hm a o cap HOK.out v (HT.out.later hv) (hH.out.later hv)
  unfold Arr.val at HPl
  rw [c0] at HPl
  clear c0
  unfold Arr.val
  go_enter Tryz.func22, Tryz.ntmps22
  go_wp2_with fail
  refine HK.out.mono ?_
  rintro e w3 ⟨rfl, b3⟩
  have B3 : Hid (Below w.heap.size w w3) := bel2 B2.out b3
  have BB : Hid (Below w2.heap.size w2 w3) := b3
  have X3 : Hid (Bx w3 w1.heap.size a o cap) := X2.out.later b3
  have d0 := X3.out.c0
  have d1 := X3.out.c1
  have d2 := X3.out.c2
  have d3 := X3.out.c3
  have d4 := X3.out.c4
  have d5 := X3.out.c5
  have d6 := X3.out.c6
  clear b3 e1 e2
  have cT3 := cell_later BB.out HCT.out
  have HC3 : Hid (w3.cell? ⟨w.heap.size, 0, none⟩ = some (.slice (some x) ns.length capT)) := cT3
  have HL3 : Hid (Lies w3 x ns) := HLI.out.later B3.out
  go_wp2_with fail
  rw [HSUM.out]
  have hne := BW.some w3
  have C := X3.out.cells
  have HRAW : Hid (Cells w3 w1.heap.size a o cap) := C
  clear d0 d1 d2 d3 d4 d5 d6
  have d0 := C.d0
  have d1 := C.d1
  have d2 := C.d2
  have d3 := C.d3
  have d4 := C.d4
  have d5 := C.d5
  have d6 := C.d6
  have tT : ∀ s : BW w3, s.w.cell? ⟨w.heap.size, 0, none⟩ = some (.slice (some x) ns.length capT) := fun s => cell_later s.ok HC3.out
  have n2 : ∀ s : BW w3, s.w.cell? { block := (x.add (n * 3)).block, off := (x.add (n * 3)).off + 2 } = some (.bool (nd ns n).null) := fun s => (HL3.out.later s.ok).null' n hn
  clear C
  have HBB : Hid (∀ v, Calls Tryz.prog 43 #[.int .i64 ((rowsOf a : Nat) : Int)] v fun e w' => e = .returned (.int .i64 ((((rowsOf a : Nat) : Int) + 7) / 8)) ∧ w' = v) := fun v => Bit.bitBytes _ v (by omega) (by omega)
  by_cases hv : a.valid.size = 0
  · have hvv := empty_of hv
    rw [hvv] at d3
    clear hv hvv
    refine region_in (C := fun w' => ∃ s : BW w3, w' = s.w) (by kernel_rfl) (by kernel_rfl) ⟨⟨w3.drew, (Below.refl _ _).drew⟩, rfl⟩ ?_
    repeat (go_big_quiet_step (first
      | (go_at_call 43; rename_i s; refine (HBB.out s.w).mono ?_; rintro e wx ⟨rfl, hbx⟩; exact ⟨rfl, s, hbx⟩)))
    refine wpQuiet_nil ?_
    intro _ hw'
    obtain ⟨s, hw''⟩ := hw'
    subst hw''
    have HE4 : Hid (Below w3.heap.size w3 s.w) := s.ok
    clear hne d0 d1 d2 d3 d4 d5 d6 tT n2
    have B4 : Hid (Below w.heap.size w s.w) := bel2 B3.out HE4.out
    have X4 := X3.out.later HE4.out
    have cT4 := cell_later HE4.out HC3.out
    generalize s.w = w4 at *
    have d0 := X4.c0
    have d1 := X4.c1
    have d2 := X4.c2
    have d3 := X4.c3
    have d4 := X4.c4
    have d5 := X4.c5
    have d6 := X4.c6
    rw [HC0.out] at d0
    clear X4
    go_wp2_with fail
    refine (HPl.out w4 B4.out).mono ?_
    rintro e w5 ⟨rfl, b5⟩
    go_wp2
    go_ret
    exact ⟨rfl, bel2 B4.out b5⟩
  · have hev := ne_empty hv
    cases hnu : (nd ns n).null
    · rw [hnu] at n2
      exfalso
      unfold lackB at h2
      rw [decide_eq_false hv, hnu] at h2
      cases h2
    · rw [hnu] at n2
      have hsz : ¬ ((a.valid.size : Nat) : Int) < (((rowsOf a : Nat) : Int) + 7) / 8 := by
        unfold lackB at h2
        rw [decide_eq_false hv, hnu, Bool.false_or, Bool.true_and, decide_eq_true_eq] at h2
        omega
      clear hnu hv
      refine region_in (C := fun w' => ∃ s : BW w3, w' = s.w) (by kernel_rfl) (by kernel_rfl) ⟨⟨w3.drew, (Below.refl _ _).drew⟩, rfl⟩ ?_
      repeat (go_big_quiet_step (first
        | (go_at_call 43; rename_i s; refine (HBB.out s.w).mono ?_; rintro e wx ⟨rfl, hbx⟩; exact ⟨rfl, s, hbx⟩)))
      refine wpQuiet_nil ?_
      intro _ hw'
      obtain ⟨s, hw''⟩ := hw'
      subst hw''
      have HE4 : Hid (Below w3.heap.size w3 s.w) := s.ok
      clear hne d0 d1 d2 d3 d4 d5 d6 tT n2
      have B4 : Hid (Below w.heap.size w s.w) := bel2 B3.out HE4.out
      have X4 := X3.out.later HE4.out
      have cT4 := cell_later HE4.out HC3.out
      generalize s.w = w4 at *
      have d0 := X4.c0
      have d1 := X4.c1
      have d2 := X4.c2
      have d3 := X4.c3
      have d4 := X4.c4
      have d5 := X4.c5
      have d6 := X4.c6
      rw [HC0.out] at d0
      clear X4
      go_wp2_with fail
      refine (HPl.out w4 B4.out).mono ?_
      rintro e w5 ⟨rfl, b5⟩
      go_wp2
      go_ret
      exact ⟨rfl, bel2 B4.out b5⟩
end Go.Proofs.YthbjeedmhgnnaaaGreat.Arr
