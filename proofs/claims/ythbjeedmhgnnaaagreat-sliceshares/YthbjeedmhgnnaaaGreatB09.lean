/-
  Several texts in one: Whether an array may be: May: contract. · Whether an array may be, behind its head: May: contract. · Whether an array may be, behind its head: May: contract. · Whether an array may be: May, of any array: contract.
-/
import Derived.Test.YthbjeedmhgnnaaaGreatB08
namespace Go.Proofs.YthbjeedmhgnnaaaGreat.Arr
open Go.ChangeShapes Go.WideShapes Go.ChangeAt Go.RowKit
open Tree Val

set_option maxRecDepth 20000 in
set_option maxHeartbeats 6400000 in
theorem may_no (ns : List Nd) (oT : Option Addr) (capT : Nat) (at' : Int) (a : Arr) (o : Option Addr) (cap : Nat) (w : World) (ht : IsT w oT ns) (hb : hasB ns at' = false) :
    Calls Tryz.prog 14 #[.agg #[.slice oT ns.length capT], .int .i64 at', a.val o cap] w fun r w' => r = .returned (.bool false) ∧ Below w.heap.size w w' := by
  obtain ⟨w1, e1, s1, c1, b1⟩ := boxed w (.slice oT ns.length capT) 27
  obtain ⟨w2, e2, x2, b2, z2⟩ := box7 w1 a o cap
  have B2 : Hid (Below w.heap.size w w2) := bel2 b1 b2
  have cT := cell_later b2 c1
  have HK : Hid (Calls Tryz.prog 28 #[.agg #[.slice oT ns.length capT], .int .i64 at'] w2 fun r w' => ∃ o c, r = .returned (.tuple #[.slice o (kidsA ns at').length c, .int .i64 (errA (hasB ns at'))]) ∧ w'.ownsRow w2.heap.size 3 1 (.slice o (kidsA ns at').length c) (kidsA ns at').length (ints (kidsA ns at')) ∧ Below w2.heap.size w2 w') := kidsP oT capT ns at' w2 (ht.later B2.out)
  rw [hb] at HK
  unfold Arr.val
  clear s1 c1 b1 b2 x2 z2 ht hb
  go_enter Tryz.func14, Tryz.ntmps14
  go_wp2_with fail
  refine HK.out.mono ?_
  rintro e w3 ⟨oK, cK, rfl, _, b3⟩
  have B3 : Hid (Below w.heap.size w w3) := bel2 B2.out b3
  clear b3 e1 e2 cT
  rw [show errA false = 500 from rfl]
  go_wp2_with fail
  go_quiet (fail)
  go_wp2
  go_ret
  exact ⟨rfl, bel2 B3.out (drewN_below _ _)⟩
set_option maxRecDepth 20000 in
set_option maxHeartbeats 6400000 in
theorem may_rows (B bytes f : Nat) (ns : List Nd) (oT : Option Addr) (capT n : Nat) (a : Arr) (o : Option Addr) (cap : Nat) (w : World) (ht : IsT w oT ns) (hn : n < ns.length) (hm : may ns = true) (hH : Hid (HoldsF B bytes w (f + 1) (a.cells o cap) a)) (h0 : hasRowsB a = false) :
    Calls Tryz.prog 14 #[.agg #[.slice oT ns.length capT], .int .i64 (n : Int), a.val o cap] w fun r w' => r = .returned (.bool false) ∧ Below w.heap.size w w' := by
  obtain ⟨w1, e1, s1, c1, b1⟩ := boxed w (.slice oT ns.length capT) 27
  obtain ⟨w2, e2, x2, b2, z2⟩ := box7 w1 a o cap
  obtain ⟨x, rfl, hl⟩ := ht.some (by omega)
  have hB : hasB ns (n : Int) = true := by unfold hasB; rw [hm, decide_eq_true (by omega)]; rfl
  have hKA : kidsA ns (n : Int) = kids ns n := by unfold kidsA; rw [if_pos hB]
  have B2 : Hid (Below w.heap.size w w2) := bel2 b1 b2
  have cT := cell_later b2 c1
  have HK : Hid (Calls Tryz.prog 28 #[.agg #[.slice (some x) ns.length capT], .int .i64 (n : Int)] w2 fun r w' => ∃ o c, r = .returned (.tuple #[.slice o (kids ns n).length c, .int .i64 0]) ∧ w'.ownsRow w2.heap.size 3 1 (.slice o (kids ns n).length c) (kids ns n).length (ints (kids ns n)) ∧ Below w2.heap.size w2 w') := by
    have := kidsP (some x) capT ns (n : Int) w2 (ht.later B2.out)
    rw [hB, hKA] at this
    exact this
  have HO : Hid (a.offset ≤ 9223372036854775807) := by have := (hH.out.ok').1.offset; simp [Lit.wf] at this; unfold Hid; omega
  have HH : Hid (∀ v, Calls Tryz.prog 29 #[a.val o cap] v fun r w' => r = .returned (.bool (hasRowsB a)) ∧ Below v.heap.size v w') := fun v => hasRows a o cap HO.out v
  have X2 : Hid (Bx w2 w1.heap.size a o cap) := x2
  have HT : Hid (IsT w (some x) ns) := ht
  have HLI : Hid (Lies w x ns) := hl
  have HCT : Hid (w2.cell? ⟨w.heap.size, 0, none⟩ = some (.slice (some x) ns.length capT)) := cT
  clear s1 c1 b1 b2 x2 z2 hB hKA ht hl
  rw [h0] at HH
  unfold Arr.val at HH ⊢
  go_enter Tryz.func14, Tryz.ntmps14
  go_wp2_with fail
  refine HK.out.mono ?_
  rintro e w3 ⟨oK, cK, rfl, hown, b3⟩
  have B3 : Hid (Below w2.heap.size w2 w3) := b3
  have HIK : Hid (IsI w3 w2.heap.size oK (kids ns n)) := own_ints hown
  have X3 : Hid (Bx w3 w1.heap.size a o cap) := X2.out.later b3
  have HC3 : Hid (w3.cell? ⟨w.heap.size, 0, none⟩ = some (.slice (some x) ns.length capT)) := cell_later b3 HCT.out
  have HL3 : Hid (Lies w3 x ns) := HLI.out.later (bel2 B2.out b3)
  clear b3 e1 e2 cT hown
  have hne := BW.some w3
  have C := X3.out.cells
  have d0 := C.d0
  have d1 := C.d1
  have d2 := C.d2
  have d3 := C.d3
  have d4 := C.d4
  have d5 := C.d5
  have d6 := C.d6
  clear C
  go_wp2_with fail
  refine region_in (C := fun w' => ∃ s : BW w3, w' = s.w) (by kernel_rfl) (by kernel_rfl) ⟨⟨w3.drew, (Below.refl _ _).drew⟩, rfl⟩ ?_
  repeat (go_big_quiet_step (first
    | (go_at_call 29; rename_i s; refine (HH.out s.w).mono ?_; rintro e wx ⟨rfl, hbx⟩; exact ⟨rfl, ⟨wx, bel2 s.ok hbx⟩, rfl⟩)))
  refine wpQuiet_nil ?_
  intro _ hw'
  obtain ⟨s, hw''⟩ := hw'
  subst hw''
  have HE : Hid (Below w.heap.size w s.w) := bel2 B2.out (bel2 B3.out s.ok)
  clear hne d0 d1 d2 d3 d4 d5 d6
  go_wp2
  go_ret
  exact ⟨rfl, HE.out⟩
end Go.Proofs.YthbjeedmhgnnaaaGreat.Arr
namespace Go.Proofs.YthbjeedmhgnnaaaGreat.Arr
open Go.ChangeShapes Go.WideShapes Go.ChangeAt Go.RowKit
open Tree Val

set_option maxRecDepth 20000 in
set_option maxHeartbeats 6400000 in
theorem may_lack (B bytes f : Nat) (ns : List Nd) (oT : Option Addr) (capT n : Nat) (a : Arr) (o : Option Addr) (cap : Nat) (w : World) (ht : IsT w oT ns) (hn : n < ns.length) (hm : may ns = true) (hH : Hid (HoldsF B bytes w (f + 1) (a.cells o cap) a)) (h0 : hasRowsB a = true) (h1 : shortsOf a.valid a.ends a.data = true) (h2 : lackB (nd ns n).null a = false) :
    Calls Tryz.prog 14 #[.agg #[.slice oT ns.length capT], .int .i64 (n : Int), a.val o cap] w fun r w' => r = .returned (.bool false) ∧ Below w.heap.size w w' := by
  obtain ⟨w1, e1, s1, c1, b1⟩ := boxed w (.slice oT ns.length capT) 27
  obtain ⟨w2, e2, x2, b2, z2⟩ := box7 w1 a o cap
  obtain ⟨x, rfl, hl⟩ := ht.some (by omega)
  have hB : hasB ns (n : Int) = true := by unfold hasB; rw [hm, decide_eq_true (by omega)]; rfl
  have hKA : kidsA ns (n : Int) = kids ns n := by unfold kidsA; rw [if_pos hB]
  have B2 : Hid (Below w.heap.size w w2) := bel2 b1 b2
  have cT := cell_later b2 c1
  have HK : Hid (Calls Tryz.prog 28 #[.agg #[.slice (some x) ns.length capT], .int .i64 (n : Int)] w2 fun r w' => ∃ o c, r = .returned (.tuple #[.slice o (kids ns n).length c, .int .i64 0]) ∧ w'.ownsRow w2.heap.size 3 1 (.slice o (kids ns n).length c) (kids ns n).length (ints (kids ns n)) ∧ Below w2.heap.size w2 w') := by
    have := kidsP (some x) capT ns (n : Int) w2 (ht.later B2.out)
    rw [hB, hKA] at this
    exact this
  have HO : Hid (a.offset ≤ 9223372036854775807) := by have := (hH.out.ok').1.offset; simp [Lit.wf] at this; unfold Hid; omega
  have HH : Hid (∀ v, Calls Tryz.prog 29 #[a.val o cap] v fun r w' => r = .returned (.bool (hasRowsB a)) ∧ Below v.heap.size v w') := fun v => hasRows a o cap HO.out v
  have X2 : Hid (Bx w2 w1.heap.size a o cap) := x2
  have HT : Hid (IsT w (some x) ns) := ht
  have HLI : Hid (Lies w x ns) := hl
  have HCT : Hid (w2.cell? ⟨w.heap.size, 0, none⟩ = some (.slice (some x) ns.length capT)) := cT
  clear s1 c1 b1 b2 x2 z2 hB hKA ht hl
  rw [h0] at HH
  have HSH : Hid (shortsOf a.valid a.ends a.data = true) := h1
  have HOK : Hid (Ok a) := ok_of h0 h1
  have HL : Hid (∀ v, Calls Tryz.prog 31 #[.agg #[.int .i64 (nd ns n).kind, .int .i64 (nd ns n).par, .bool (nd ns n).null], a.val o cap] v fun r w' => r = .returned (.bool (lackB (nd ns n).null a)) ∧ Below v.heap.size v w') := fun v => mayLack (nd ns n) a o cap HOK.out v
  rw [h2] at HL
  unfold Arr.val at HL
  unfold Arr.val at HH ⊢
  go_enter Tryz.func14, Tryz.ntmps14
  go_wp2_with fail
  refine HK.out.mono ?_
  rintro e w3 ⟨oK, cK, rfl, hown, b3⟩
  have B3 : Hid (Below w2.heap.size w2 w3) := b3
  have HIK : Hid (IsI w3 w2.heap.size oK (kids ns n)) := own_ints hown
  have X3 : Hid (Bx w3 w1.heap.size a o cap) := X2.out.later b3
  have HC3 : Hid (w3.cell? ⟨w.heap.size, 0, none⟩ = some (.slice (some x) ns.length capT)) := cell_later b3 HCT.out
  have HL3 : Hid (Lies w3 x ns) := HLI.out.later (bel2 B2.out b3)
  clear b3 e1 e2 cT hown
  have KLA : Hid (∀ W W', (fun W : World => W.cell? ⟨w.heap.size, 0, none⟩ = some (.slice (some x) ns.length capT) ∧ W.cell? ⟨w1.heap.size, 0, none⟩ = some (.int .i64 a.layout) ∧ W.cell? ⟨w1.heap.size, 1, none⟩ = some (.int .i64 a.offset) ∧ W.cell? ⟨w1.heap.size, 2, none⟩ = some (.int .i64 a.length) ∧ W.cell? ⟨w1.heap.size, 3, none⟩ = some (.string a.valid) ∧ W.cell? ⟨w1.heap.size, 4, none⟩ = some (.string a.ends) ∧ W.cell? ⟨w1.heap.size, 5, none⟩ = some (.string a.data) ∧ W.cell? ⟨w1.heap.size, 6, none⟩ = some (.slice o a.kids.length cap) ∧ W.cell? (x.add (n * 3)) = some (.int .i64 (nd ns n).kind) ∧ W.cell? { block := (x.add (n * 3)).block, off := (x.add (n * 3)).off + 1 } = some (.int .i64 (nd ns n).par) ∧ W.cell? { block := (x.add (n * 3)).block, off := (x.add (n * 3)).off + 2 } = some (.bool (nd ns n).null)) W → Below W.heap.size W W' → (fun W : World => W.cell? ⟨w.heap.size, 0, none⟩ = some (.slice (some x) ns.length capT) ∧ W.cell? ⟨w1.heap.size, 0, none⟩ = some (.int .i64 a.layout) ∧ W.cell? ⟨w1.heap.size, 1, none⟩ = some (.int .i64 a.offset) ∧ W.cell? ⟨w1.heap.size, 2, none⟩ = some (.int .i64 a.length) ∧ W.cell? ⟨w1.heap.size, 3, none⟩ = some (.string a.valid) ∧ W.cell? ⟨w1.heap.size, 4, none⟩ = some (.string a.ends) ∧ W.cell? ⟨w1.heap.size, 5, none⟩ = some (.string a.data) ∧ W.cell? ⟨w1.heap.size, 6, none⟩ = some (.slice o a.kids.length cap) ∧ W.cell? (x.add (n * 3)) = some (.int .i64 (nd ns n).kind) ∧ W.cell? { block := (x.add (n * 3)).block, off := (x.add (n * 3)).off + 1 } = some (.int .i64 (nd ns n).par) ∧ W.cell? { block := (x.add (n * 3)).block, off := (x.add (n * 3)).off + 2 } = some (.bool (nd ns n).null)) W') := by
    intro W W'
    rintro ⟨p0, p1, p2, p3, p4, p5, p6, p7, p8, p9, p10⟩ hb
    exact ⟨cell_later hb p0, cell_later hb p1, cell_later hb p2, cell_later hb p3, cell_later hb p4, cell_later hb p5, cell_later hb p6, cell_later hb p7, cell_later hb p8, cell_later hb p9, cell_later hb p10⟩
  have K3 : Hid ((fun W : World => W.cell? ⟨w.heap.size, 0, none⟩ = some (.slice (some x) ns.length capT) ∧ W.cell? ⟨w1.heap.size, 0, none⟩ = some (.int .i64 a.layout) ∧ W.cell? ⟨w1.heap.size, 1, none⟩ = some (.int .i64 a.offset) ∧ W.cell? ⟨w1.heap.size, 2, none⟩ = some (.int .i64 a.length) ∧ W.cell? ⟨w1.heap.size, 3, none⟩ = some (.string a.valid) ∧ W.cell? ⟨w1.heap.size, 4, none⟩ = some (.string a.ends) ∧ W.cell? ⟨w1.heap.size, 5, none⟩ = some (.string a.data) ∧ W.cell? ⟨w1.heap.size, 6, none⟩ = some (.slice o a.kids.length cap) ∧ W.cell? (x.add (n * 3)) = some (.int .i64 (nd ns n).kind) ∧ W.cell? { block := (x.add (n * 3)).block, off := (x.add (n * 3)).off + 1 } = some (.int .i64 (nd ns n).par) ∧ W.cell? { block := (x.add (n * 3)).block, off := (x.add (n * 3)).off + 2 } = some (.bool (nd ns n).null)) w3.drew) := KLA.out w3 _ ⟨HC3.out, X3.out.c0, X3.out.c1, X3.out.c2, X3.out.c3, X3.out.c4, X3.out.c5, X3.out.c6, HL3.out.kind' n hn, HL3.out.par' n hn, HL3.out.null' n hn⟩ (drewN_below w3 1)
  have j0 : (0 : Int) ≤ (n : Int) := Int.natCast_nonneg _
  have j1 : (n : Int) < (ns.length : Int) := by omega
  clear hH HK h0 h1 h2
  go_wp2_with fail
  first
  | (go_region_held3 (fun W : World => W.cell? ⟨w.heap.size, 0, none⟩ = some (.slice (some x) ns.length capT) ∧ W.cell? ⟨w1.heap.size, 0, none⟩ = some (.int .i64 a.layout) ∧ W.cell? ⟨w1.heap.size, 1, none⟩ = some (.int .i64 a.offset) ∧ W.cell? ⟨w1.heap.size, 2, none⟩ = some (.int .i64 a.length) ∧ W.cell? ⟨w1.heap.size, 3, none⟩ = some (.string a.valid) ∧ W.cell? ⟨w1.heap.size, 4, none⟩ = some (.string a.ends) ∧ W.cell? ⟨w1.heap.size, 5, none⟩ = some (.string a.data) ∧ W.cell? ⟨w1.heap.size, 6, none⟩ = some (.slice o a.kids.length cap) ∧ W.cell? (x.add (n * 3)) = some (.int .i64 (nd ns n).kind) ∧ W.cell? { block := (x.add (n * 3)).block, off := (x.add (n * 3)).off + 1 } = some (.int .i64 (nd ns n).par) ∧ W.cell? { block := (x.add (n * 3)).block, off := (x.add (n * 3)).off + 2 } = some (.bool (nd ns n).null)) (first | with_reducible exact K3.out | with_reducible exact K4.out | with_reducible exact KA.out | with_reducible exact K5.out)
    (first
      | (go_at_call 29; refine (HH.out _).mono ?_; rintro e w4 ⟨rfl, b4⟩; have BB4 := KLA.out _ _ K3.out b4; have K4 : Hid _ := BB4; have B4 : Hid (Below w3.heap.size w3 w4) := bel2 (drewN_below w3 1) b4; have ba : Below w4.heap.size w4 (w4.alloc (.cells #[.string a.valid, .string a.ends, .string a.data] 9)) := (Below.refl _ _).alloc (Nat.le_refl _) _; have BA : Hid _ := bel2 B4.out ba; have KA : Hid _ := KLA.out _ _ K4.out ba; clear b4 BB4 ba)
      | (go_at_call 30; refine (areShort _ a.valid a.ends a.data _ (short_box w4 a).1 (short_box w4 a).2.1 (short_box w4 a).2.2).mono ?_; rintro e wx ⟨rfl, rfl⟩; rw [HSH.out])
      | (go_at_call 31; refine (HL.out _).mono ?_; rintro e w5 ⟨rfl, b5⟩; have K5 : Hid _ := KLA.out _ _ KA.out b5; have B5 : Hid (Below w3.heap.size w3 w5) := bel2 BA.out b5; clear b5)))
  | fail
  all_goals
    clear K3 K4 KLA KA K5
    go_wp2
    go_ret
    exact ⟨rfl, bel2 B2.out (bel2 B3.out B5.out)⟩
set_option maxRecDepth 20000 in
set_option maxHeartbeats 6400000 in
theorem may_yes (B bytes f : Nat) (ih : Hid (MayC B bytes f)) (ns : List Nd) (oT : Option Addr) (capT n : Nat) (a : Arr) (o : Option Addr) (cap : Nat) (w : World) (ht : IsT w oT ns) (hn : n < ns.length) (hm : may ns = true) (hH : Hid (HoldsF B bytes w (f + 1) (a.cells o cap) a)) (h0 : hasRowsB a = true) (h1 : shortsOf a.valid a.ends a.data = true) (h2 : lackB (nd ns n).null a = true) :
    Calls Tryz.prog 14 #[.agg #[.slice oT ns.length capT], .int .i64 (n : Int), a.val o cap] w fun r w' => r = .returned (.bool (layB ns f n a)) ∧ Below w.heap.size w w' := by
  obtain ⟨w1, e1, s1, c1, b1⟩ := boxed w (.slice oT ns.length capT) 27
  obtain ⟨w2, e2, x2, b2, z2⟩ := box7 w1 a o cap
  obtain ⟨x, rfl, hl⟩ := ht.some (by omega)
  have hB : hasB ns (n : Int) = true := by unfold hasB; rw [hm, decide_eq_true (by omega)]; rfl
  have hKA : kidsA ns (n : Int) = kids ns n := by unfold kidsA; rw [if_pos hB]
  have B2 : Hid (Below w.heap.size w w2) := bel2 b1 b2
  have cT := cell_later b2 c1
  have HK : Hid (Calls Tryz.prog 28 #[.agg #[.slice (some x) ns.length capT], .int .i64 (n : Int)] w2 fun r w' => ∃ o c, r = .returned (.tuple #[.slice o (kids ns n).length c, .int .i64 0]) ∧ w'.ownsRow w2.heap.size 3 1 (.slice o (kids ns n).length c) (kids ns n).length (ints (kids ns n)) ∧ Below w2.heap.size w2 w') := by
    have := kidsP (some x) capT ns (n : Int) w2 (ht.later B2.out)
    rw [hB, hKA] at this
    exact this
  have HO : Hid (a.offset ≤ 9223372036854775807) := by have := (hH.out.ok').1.offset; simp [Lit.wf] at this; unfold Hid; omega
  have HH : Hid (∀ v, Calls Tryz.prog 29 #[a.val o cap] v fun r w' => r = .returned (.bool (hasRowsB a)) ∧ Below v.heap.size v w') := fun v => hasRows a o cap HO.out v
  have X2 : Hid (Bx w2 w1.heap.size a o cap) := x2
  have HT : Hid (IsT w (some x) ns) := ht
  have HLI : Hid (Lies w x ns) := hl
  have HCT : Hid (w2.cell? ⟨w.heap.size, 0, none⟩ = some (.slice (some x) ns.length capT)) := cT
  clear s1 c1 b1 b2 x2 z2 hB hKA ht hl
  rw [h0] at HH
  have HSH : Hid (shortsOf a.valid a.ends a.data = true) := h1
  have HOK : Hid (Ok a) := ok_of h0 h1
  have HL : Hid (∀ v, Calls Tryz.prog 31 #[.agg #[.int .i64 (nd ns n).kind, .int .i64 (nd ns n).par, .bool (nd ns n).null], a.val o cap] v fun r w' => r = .returned (.bool (lackB (nd ns n).null a)) ∧ Below v.heap.size v w') := fun v => mayLack (nd ns n) a o cap HOK.out v
  have HLK : Hid (a.valid.size = 0 ∨ rowsOf a ≤ 8 * a.valid.size) := lack_of h2
  rw [h2] at HL
  unfold Arr.val at HL
  have HLY : Hid (layB ns f n a = if a.layout = 0 then plainB (mayF ns f) ns n a else if a.layout = 1 then isLeafB (nd ns n).kind && dictA' ns f n a else if a.layout = 2 then isLeafB (nd ns n).kind && runA' ns f n a else false) := rfl
  generalize layB ns f n a = R at *
  unfold Arr.val at HH ⊢
  go_enter Tryz.func14, Tryz.ntmps14
  go_wp2_with fail
  refine HK.out.mono ?_
  rintro e w3 ⟨oK, cK, rfl, hown, b3⟩
  have B3 : Hid (Below w2.heap.size w2 w3) := b3
  have HIK : Hid (IsI w3 w2.heap.size oK (kids ns n)) := own_ints hown
  have X3 : Hid (Bx w3 w1.heap.size a o cap) := X2.out.later b3
  have HC3 : Hid (w3.cell? ⟨w.heap.size, 0, none⟩ = some (.slice (some x) ns.length capT)) := cell_later b3 HCT.out
  have HL3 : Hid (Lies w3 x ns) := HLI.out.later (bel2 B2.out b3)
  clear b3 e1 e2 cT hown
  have KLA : Hid (∀ W W', (fun W : World => W.cell? ⟨w.heap.size, 0, none⟩ = some (.slice (some x) ns.length capT) ∧ W.cell? ⟨w1.heap.size, 0, none⟩ = some (.int .i64 a.layout) ∧ W.cell? ⟨w1.heap.size, 1, none⟩ = some (.int .i64 a.offset) ∧ W.cell? ⟨w1.heap.size, 2, none⟩ = some (.int .i64 a.length) ∧ W.cell? ⟨w1.heap.size, 3, none⟩ = some (.string a.valid) ∧ W.cell? ⟨w1.heap.size, 4, none⟩ = some (.string a.ends) ∧ W.cell? ⟨w1.heap.size, 5, none⟩ = some (.string a.data) ∧ W.cell? ⟨w1.heap.size, 6, none⟩ = some (.slice o a.kids.length cap) ∧ W.cell? (x.add (n * 3)) = some (.int .i64 (nd ns n).kind) ∧ W.cell? { block := (x.add (n * 3)).block, off := (x.add (n * 3)).off + 1 } = some (.int .i64 (nd ns n).par) ∧ W.cell? { block := (x.add (n * 3)).block, off := (x.add (n * 3)).off + 2 } = some (.bool (nd ns n).null)) W → Below W.heap.size W W' → (fun W : World => W.cell? ⟨w.heap.size, 0, none⟩ = some (.slice (some x) ns.length capT) ∧ W.cell? ⟨w1.heap.size, 0, none⟩ = some (.int .i64 a.layout) ∧ W.cell? ⟨w1.heap.size, 1, none⟩ = some (.int .i64 a.offset) ∧ W.cell? ⟨w1.heap.size, 2, none⟩ = some (.int .i64 a.length) ∧ W.cell? ⟨w1.heap.size, 3, none⟩ = some (.string a.valid) ∧ W.cell? ⟨w1.heap.size, 4, none⟩ = some (.string a.ends) ∧ W.cell? ⟨w1.heap.size, 5, none⟩ = some (.string a.data) ∧ W.cell? ⟨w1.heap.size, 6, none⟩ = some (.slice o a.kids.length cap) ∧ W.cell? (x.add (n * 3)) = some (.int .i64 (nd ns n).kind) ∧ W.cell? { block := (x.add (n * 3)).block, off := (x.add (n * 3)).off + 1 } = some (.int .i64 (nd ns n).par) ∧ W.cell? { block := (x.add (n * 3)).block, off := (x.add (n * 3)).off + 2 } = some (.bool (nd ns n).null)) W') := by
    intro W W'
    rintro ⟨p0, p1, p2, p3, p4, p5, p6, p7, p8, p9, p10⟩ hb
    exact ⟨cell_later hb p0, cell_later hb p1, cell_later hb p2, cell_later hb p3, cell_later hb p4, cell_later hb p5, cell_later hb p6, cell_later hb p7, cell_later hb p8, cell_later hb p9, cell_later hb p10⟩
  have K3 : Hid ((fun W : World => W.cell? ⟨w.heap.size, 0, none⟩ = some (.slice (some x) ns.length capT) ∧ W.cell? ⟨w1.heap.size, 0, none⟩ = some (.int .i64 a.layout) ∧ W.cell? ⟨w1.heap.size, 1, none⟩ = some (.int .i64 a.offset) ∧ W.cell? ⟨w1.heap.size, 2, none⟩ = some (.int .i64 a.length) ∧ W.cell? ⟨w1.heap.size, 3, none⟩ = some (.string a.valid) ∧ W.cell? ⟨w1.heap.size, 4, none⟩ = some (.string a.ends) ∧ W.cell? ⟨w1.heap.size, 5, none⟩ = some (.string a.data) ∧ W.cell? ⟨w1.heap.size, 6, none⟩ = some (.slice o a.kids.length cap) ∧ W.cell? (x.add (n * 3)) = some (.int .i64 (nd ns n).kind) ∧ W.cell? { block := (x.add (n * 3)).block, off := (x.add (n * 3)).off + 1 } = some (.int .i64 (nd ns n).par) ∧ W.cell? { block := (x.add (n * 3)).block, off := (x.add (n * 3)).off + 2 } = some (.bool (nd ns n).null)) w3.drew) := KLA.out w3 _ ⟨HC3.out, X3.out.c0, X3.out.c1, X3.out.c2, X3.out.c3, X3.out.c4, X3.out.c5, X3.out.c6, HL3.out.kind' n hn, HL3.out.par' n hn, HL3.out.null' n hn⟩ (drewN_below w3 1)
  have j0 : (0 : Int) ≤ (n : Int) := Int.natCast_nonneg _
  have j1 : (n : Int) < (ns.length : Int) := by omega
  have HM : Hid (may ns = true) := hm
  clear HK h0 h1 h2 hm
  go_wp2_with fail
  first
  | (go_region_held3 (fun W : World => W.cell? ⟨w.heap.size, 0, none⟩ = some (.slice (some x) ns.length capT) ∧ W.cell? ⟨w1.heap.size, 0, none⟩ = some (.int .i64 a.layout) ∧ W.cell? ⟨w1.heap.size, 1, none⟩ = some (.int .i64 a.offset) ∧ W.cell? ⟨w1.heap.size, 2, none⟩ = some (.int .i64 a.length) ∧ W.cell? ⟨w1.heap.size, 3, none⟩ = some (.string a.valid) ∧ W.cell? ⟨w1.heap.size, 4, none⟩ = some (.string a.ends) ∧ W.cell? ⟨w1.heap.size, 5, none⟩ = some (.string a.data) ∧ W.cell? ⟨w1.heap.size, 6, none⟩ = some (.slice o a.kids.length cap) ∧ W.cell? (x.add (n * 3)) = some (.int .i64 (nd ns n).kind) ∧ W.cell? { block := (x.add (n * 3)).block, off := (x.add (n * 3)).off + 1 } = some (.int .i64 (nd ns n).par) ∧ W.cell? { block := (x.add (n * 3)).block, off := (x.add (n * 3)).off + 2 } = some (.bool (nd ns n).null)) (first | with_reducible exact K3.out | with_reducible exact K4.out | with_reducible exact KA.out | with_reducible exact K5.out)
    (first
      | (go_at_call 29; refine (HH.out _).mono ?_; rintro e w4 ⟨rfl, b4⟩; have BB4 := KLA.out _ _ K3.out b4; have K4 : Hid _ := BB4; have B4 : Hid (Below w3.heap.size w3 w4) := bel2 (drewN_below w3 1) b4; have ba : Below w4.heap.size w4 (w4.alloc (.cells #[.string a.valid, .string a.ends, .string a.data] 9)) := (Below.refl _ _).alloc (Nat.le_refl _) _; have BA : Hid _ := bel2 B4.out ba; have KA : Hid _ := KLA.out _ _ K4.out ba; clear b4 BB4 ba)
      | (go_at_call 30; refine (areShort _ a.valid a.ends a.data _ (short_box w4 a).1 (short_box w4 a).2.1 (short_box w4 a).2.2).mono ?_; rintro e wx ⟨rfl, rfl⟩; rw [HSH.out])
      | (go_at_call 31; refine (HL.out _).mono ?_; rintro e w5 ⟨rfl, b5⟩; have K5 : Hid _ := KLA.out _ _ KA.out b5; have B5 : Hid (Below w3.heap.size w3 w5) := bel2 BA.out b5; clear b5)))
  | fail
  all_goals
    have BW5 : Hid (Below w.heap.size w w5) := bel2 B2.out (bel2 B3.out B5.out)
    have X5 := X3.out.later B5.out
    have hl5 := HL3.out.later B5.out
    have d0 := X5.c0
    have d1 := X5.c1
    have d2 := X5.c2
    have d3 := X5.c3
    have d4 := X5.c4
    have d5 := X5.c5
    have d6 := X5.c6
    have cT := cell_later B5.out HC3.out
    have n0 := hl5.kind' n hn
    have n1 := hl5.par' n hn
    have n2 := hl5.null' n hn
    have HT5 : Hid (IsT w5 (some x) ns) := HT.out.later BW5.out
    have HH5 : Hid (HoldsF B bytes w5 (f + 1) (a.cells o cap) a) := hH.out.later BW5.out
    have X55 : Hid (Bx w5 w1.heap.size a o cap) := X5
    have HC5 : Hid (w5.cell? ⟨w.heap.size, 0, none⟩ = some (.slice (some x) ns.length capT)) := cT
    clear K3 K4 KLA KA K5 X5 hl5 BA HSH HL HH hH
    by_cases c0 : a.layout = 0
    · have HN : Hid (R = plainB (mayF ns f) ns n a) := by unfold Hid; rw [HLY.out, if_pos c0]
      have HP : Hid (Calls Tryz.prog 32 #[.agg #[.slice (some x) ns.length capT], .int .i64 (n : Int), .slice oK (kids ns n).length cK, a.val o cap] w5 fun r w' => r = .returned (.bool (plainB (mayF ns f) ns n a)) ∧ Below w5.heap.size w5 w') := isPlain B bytes f ih ns (some x) capT n hn HM.out oK cK w2.heap.size a o cap HOK.out w5 HT5.out (HIK.out.later B5.out) HH5.out
      unfold Arr.val at HP
      rw [c0] at d0 HP
      generalize (kids ns n).length = nk at *
      clear HLY
      go_wp2_with fail
      refine HP.out.mono ?_
      rintro e w6 ⟨rfl, b6⟩
      go_wp2
      go_ret
      exact ⟨ret_bool HN.out.symm, bel2 BW5.out b6⟩
    have c0' : (a.layout == 0) = false := by rw [beq_eq_false_iff_ne]; exact c0
    by_cases c1 : a.layout = 1
    · have HN : Hid (R = (isLeafB (nd ns n).kind && dictA' ns f n a)) := by unfold Hid; rw [HLY.out, if_neg c0, if_pos c1]
      have HLf : Hid (Calls Tryz.prog 33 #[.agg #[.int .i64 (nd ns n).kind, .int .i64 (nd ns n).par, .bool (nd ns n).null]] w5 fun r w' => r = .returned (.bool (isLeafB (nd ns n).kind)) ∧ Below w5.heap.size w5 w') := isLeaf (nd ns n) w5
      have HP : Hid (∀ v, Below w5.heap.size w5 v → Calls Tryz.prog 34 #[.agg #[.slice (some x) ns.length capT], .int .i64 (n : Int), a.val o cap] v fun r w' => r = .returned (.bool (dictA' ns f n a)) ∧ Below v.heap.size v w') := fun v hv => isDict B bytes f ih.out ns (some x) capT n hn HM.out a o cap HOK.out HLK.out v (HT5.out.later hv) (HH5.out.later hv)
      unfold Arr.val at HP
      rw [c1] at d0 HP
      have HC1 : Hid (a.layout = 1) := c1
      clear HLY c0
      generalize dictA' ns f n a = DA at *
      cases hlf : isLeafB (nd ns n).kind
      · rw [hlf] at HLf HN
        have HN2 : Hid (R = false) := HN.out
        clear hlf
        go_wp2_with fail
        refine HLf.out.mono ?_
        rintro e w6 ⟨rfl, b6⟩
        go_wp2
        go_ret
        exact ⟨ret_bool HN2.out.symm, bel2 BW5.out b6⟩
      · rw [hlf] at HLf HN
        have HN2 : Hid (R = DA) := HN.out
        clear hlf
        go_wp2_with fail
        refine HLf.out.mono ?_
        rintro e w6 ⟨rfl, b6⟩
        have B6 : Hid (Below w5.heap.size w5 w6) := b6
        have X6 := X55.out.later b6
        have cT6 := cell_later b6 HC5.out
        clear d0 d1 d2 d3 d4 d5 d6 b6 cT n0 n1 n2
        have d0 := X6.c0
        have d1 := X6.c1
        have d2 := X6.c2
        have d3 := X6.c3
        have d4 := X6.c4
        have d5 := X6.c5
        have d6 := X6.c6
        rw [HC1.out] at d0
        clear X6
        go_wp2_with fail
        refine (HP.out w6 B6.out).mono ?_
        rintro e w7 ⟨rfl, b7⟩
        go_wp2
        go_ret
        exact ⟨ret_bool HN2.out.symm, bel2 BW5.out (bel2 B6.out b7)⟩
    have c1' : (a.layout == 1) = false := by rw [beq_eq_false_iff_ne]; exact c1
    by_cases c2 : a.layout = 2
    · have HN : Hid (R = (isLeafB (nd ns n).kind && runA' ns f n a)) := by unfold Hid; rw [HLY.out, if_neg c0, if_neg c1, if_pos c2]
      have HLf : Hid (Calls Tryz.prog 33 #[.agg #[.int .i64 (nd ns n).kind, .int .i64 (nd ns n).par, .bool (nd ns n).null]] w5 fun r w' => r = .returned (.bool (isLeafB (nd ns n).kind)) ∧ Below w5.heap.size w5 w') := isLeaf (nd ns n) w5
      have HP : Hid (∀ v, Below w5.heap.size w5 v → Calls Tryz.prog 35 #[.agg #[.slice (some x) ns.length capT], .int .i64 (n : Int), a.val o cap] v fun r w' => r = .returned (.bool (runA' ns f n a)) ∧ Below v.heap.size v w') := fun v hv => isRun B bytes f ih.out ns (some x) capT n hn HM.out a o cap HOK.out v (HT5.out.later hv) (HH5.out.later hv)
      unfold Arr.val at HP
      rw [c2] at d0 HP
      have HC1 : Hid (a.layout = 2) := c2
      clear HLY c0 c1
      generalize runA' ns f n a = DA at *
      cases hlf : isLeafB (nd ns n).kind
      · rw [hlf] at HLf HN
        have HN2 : Hid (R = false) := HN.out
        clear hlf
        go_wp2_with fail
        refine HLf.out.mono ?_
        rintro e w6 ⟨rfl, b6⟩
        go_wp2
        go_ret
        exact ⟨ret_bool HN2.out.symm, bel2 BW5.out b6⟩
      · rw [hlf] at HLf HN
        have HN2 : Hid (R = DA) := HN.out
        clear hlf
        go_wp2_with fail
        refine HLf.out.mono ?_
        rintro e w6 ⟨rfl, b6⟩
        have B6 : Hid (Below w5.heap.size w5 w6) := b6
        have X6 := X55.out.later b6
        have cT6 := cell_later b6 HC5.out
        clear d0 d1 d2 d3 d4 d5 d6 b6 cT n0 n1 n2
        have d0 := X6.c0
        have d1 := X6.c1
        have d2 := X6.c2
        have d3 := X6.c3
        have d4 := X6.c4
        have d5 := X6.c5
        have d6 := X6.c6
        rw [HC1.out] at d0
        clear X6
        go_wp2_with fail
        refine (HP.out w6 B6.out).mono ?_
        rintro e w7 ⟨rfl, b7⟩
        go_wp2
        go_ret
        exact ⟨ret_bool HN2.out.symm, bel2 BW5.out (bel2 B6.out b7)⟩
    have c2' : (a.layout == 2) = false := by rw [beq_eq_false_iff_ne]; exact c2
    have HN : Hid (R = false) := by unfold Hid; rw [HLY.out, if_neg c0, if_neg c1, if_neg c2]
    clear HLY
    go_wp2
    go_ret
    exact ⟨ret_bool HN.out.symm, BW5.out⟩
end Go.Proofs.YthbjeedmhgnnaaaGreat.Arr
namespace Go.Proofs.YthbjeedmhgnnaaaGreat.Arr
open Go.ChangeShapes Go.WideShapes Go.ChangeAt Go.RowKit
open Tree Val

/-- An operation taken first, where its result lies told. -/
theorem take_at {P : Program} {ops : Array Oper} {Q : Exit → Act → World → Prop} {md : Region.Mode} {S : World → Prop} {i : Nat} {oi : Oper} {v : Value} {fuel : Nat} {listed : Array Bool} {a : Act} {w : World} {d : Option Nat} (hi : ops[i]? = some oi) (hd : oi.dst = d)
    (hs : Region.noSelect ops = true) (hf : Region.free md ops listed i = true) (hr : (Region.ready md ops listed).contains i = true)
    (hQ : ∀ c a w, Q (.panic c) (a.put oi.dst v) w → Q (.panic c) a w) (hy : YieldsIf P ops S oi v a) (hS : S w)
    (h : wpAnyH P md ops Q S fuel (listed.setIfInBounds i true) (a.put d v) w) : wpAnyH P md ops Q S (fuel + 1) listed a w := by
  subst hd
  exact wpAnyH_take hi hs hf hr hQ hy hS h
set_option linter.unusedSimpArgs false in
set_option maxRecDepth 20000 in
set_option maxHeartbeats 6400000 in
theorem may_short (B bytes f : Nat) (ns : List Nd) (oT : Option Addr) (capT n : Nat) (a : Arr) (o : Option Addr) (cap : Nat) (w : World) (ht : IsT w oT ns) (hn : n < ns.length) (hm : may ns = true) (hH : Hid (HoldsF B bytes w (f + 1) (a.cells o cap) a)) (h0 : hasRowsB a = true) (h1 : shortsOf a.valid a.ends a.data = false) :
    Calls Tryz.prog 14 #[.agg #[.slice oT ns.length capT], .int .i64 (n : Int), a.val o cap] w fun r w' => r = .returned (.bool false) ∧ Below w.heap.size w w' := by
  obtain ⟨w1, e1, s1, c1, b1⟩ := boxed w (.slice oT ns.length capT) 27
  obtain ⟨w2, e2, x2, b2, z2⟩ := box7 w1 a o cap
  obtain ⟨x, rfl, hl⟩ := ht.some (by omega)
  have hB : hasB ns (n : Int) = true := by unfold hasB; rw [hm, decide_eq_true (by omega)]; rfl
  have hKA : kidsA ns (n : Int) = kids ns n := by unfold kidsA; rw [if_pos hB]
  have B2 : Hid (Below w.heap.size w w2) := bel2 b1 b2
  have cT := cell_later b2 c1
  have HK : Hid (Calls Tryz.prog 28 #[.agg #[.slice (some x) ns.length capT], .int .i64 (n : Int)] w2 fun r w' => ∃ o c, r = .returned (.tuple #[.slice o (kids ns n).length c, .int .i64 0]) ∧ w'.ownsRow w2.heap.size 3 1 (.slice o (kids ns n).length c) (kids ns n).length (ints (kids ns n)) ∧ Below w2.heap.size w2 w') := by
    have := kidsP (some x) capT ns (n : Int) w2 (ht.later B2.out)
    rw [hB, hKA] at this
    exact this
  have HO : Hid (a.offset ≤ 9223372036854775807) := by have := (hH.out.ok').1.offset; simp [Lit.wf] at this; unfold Hid; omega
  have HH : Hid (∀ v, Calls Tryz.prog 29 #[a.val o cap] v fun r w' => r = .returned (.bool (hasRowsB a)) ∧ Below v.heap.size v w') := fun v => hasRows a o cap HO.out v
  have X2 : Hid (Bx w2 w1.heap.size a o cap) := x2
  have HT : Hid (IsT w (some x) ns) := ht
  have HLI : Hid (Lies w x ns) := hl
  have HCT : Hid (w2.cell? ⟨w.heap.size, 0, none⟩ = some (.slice (some x) ns.length capT)) := cT
  clear s1 c1 b1 b2 x2 z2 hB hKA ht hl
  rw [h0] at HH
  have HSH : Hid (shortsOf a.valid a.ends a.data = false) := h1
  unfold Arr.val at HH ⊢
  go_enter Tryz.func14, Tryz.ntmps14
  go_wp2_with fail
  refine HK.out.mono ?_
  rintro e w3 ⟨oK, cK, rfl, hown, b3⟩
  have B3 : Hid (Below w2.heap.size w2 w3) := b3
  have HIK : Hid (IsI w3 w2.heap.size oK (kids ns n)) := own_ints hown
  have X3 : Hid (Bx w3 w1.heap.size a o cap) := X2.out.later b3
  have HC3 : Hid (w3.cell? ⟨w.heap.size, 0, none⟩ = some (.slice (some x) ns.length capT)) := cell_later b3 HCT.out
  have HL3 : Hid (Lies w3 x ns) := HLI.out.later (bel2 B2.out b3)
  clear b3 e1 e2 cT hown
  have KLA : Hid (∀ W W', (fun W : World => W.cell? ⟨w.heap.size, 0, none⟩ = some (.slice (some x) ns.length capT) ∧ W.cell? ⟨w1.heap.size, 0, none⟩ = some (.int .i64 a.layout) ∧ W.cell? ⟨w1.heap.size, 1, none⟩ = some (.int .i64 a.offset) ∧ W.cell? ⟨w1.heap.size, 2, none⟩ = some (.int .i64 a.length) ∧ W.cell? ⟨w1.heap.size, 3, none⟩ = some (.string a.valid) ∧ W.cell? ⟨w1.heap.size, 4, none⟩ = some (.string a.ends) ∧ W.cell? ⟨w1.heap.size, 5, none⟩ = some (.string a.data) ∧ W.cell? ⟨w1.heap.size, 6, none⟩ = some (.slice o a.kids.length cap) ∧ W.cell? (x.add (n * 3)) = some (.int .i64 (nd ns n).kind) ∧ W.cell? { block := (x.add (n * 3)).block, off := (x.add (n * 3)).off + 1 } = some (.int .i64 (nd ns n).par) ∧ W.cell? { block := (x.add (n * 3)).block, off := (x.add (n * 3)).off + 2 } = some (.bool (nd ns n).null)) W → Below W.heap.size W W' → (fun W : World => W.cell? ⟨w.heap.size, 0, none⟩ = some (.slice (some x) ns.length capT) ∧ W.cell? ⟨w1.heap.size, 0, none⟩ = some (.int .i64 a.layout) ∧ W.cell? ⟨w1.heap.size, 1, none⟩ = some (.int .i64 a.offset) ∧ W.cell? ⟨w1.heap.size, 2, none⟩ = some (.int .i64 a.length) ∧ W.cell? ⟨w1.heap.size, 3, none⟩ = some (.string a.valid) ∧ W.cell? ⟨w1.heap.size, 4, none⟩ = some (.string a.ends) ∧ W.cell? ⟨w1.heap.size, 5, none⟩ = some (.string a.data) ∧ W.cell? ⟨w1.heap.size, 6, none⟩ = some (.slice o a.kids.length cap) ∧ W.cell? (x.add (n * 3)) = some (.int .i64 (nd ns n).kind) ∧ W.cell? { block := (x.add (n * 3)).block, off := (x.add (n * 3)).off + 1 } = some (.int .i64 (nd ns n).par) ∧ W.cell? { block := (x.add (n * 3)).block, off := (x.add (n * 3)).off + 2 } = some (.bool (nd ns n).null)) W') := by
    intro W W'
    rintro ⟨p0, p1, p2, p3, p4, p5, p6, p7, p8, p9, p10⟩ hb
    exact ⟨cell_later hb p0, cell_later hb p1, cell_later hb p2, cell_later hb p3, cell_later hb p4, cell_later hb p5, cell_later hb p6, cell_later hb p7, cell_later hb p8, cell_later hb p9, cell_later hb p10⟩
  have K3 : Hid ((fun W : World => W.cell? ⟨w.heap.size, 0, none⟩ = some (.slice (some x) ns.length capT) ∧ W.cell? ⟨w1.heap.size, 0, none⟩ = some (.int .i64 a.layout) ∧ W.cell? ⟨w1.heap.size, 1, none⟩ = some (.int .i64 a.offset) ∧ W.cell? ⟨w1.heap.size, 2, none⟩ = some (.int .i64 a.length) ∧ W.cell? ⟨w1.heap.size, 3, none⟩ = some (.string a.valid) ∧ W.cell? ⟨w1.heap.size, 4, none⟩ = some (.string a.ends) ∧ W.cell? ⟨w1.heap.size, 5, none⟩ = some (.string a.data) ∧ W.cell? ⟨w1.heap.size, 6, none⟩ = some (.slice o a.kids.length cap) ∧ W.cell? (x.add (n * 3)) = some (.int .i64 (nd ns n).kind) ∧ W.cell? { block := (x.add (n * 3)).block, off := (x.add (n * 3)).off + 1 } = some (.int .i64 (nd ns n).par) ∧ W.cell? { block := (x.add (n * 3)).block, off := (x.add (n * 3)).off + 2 } = some (.bool (nd ns n).null)) w3.drew) := KLA.out w3 _ ⟨HC3.out, X3.out.c0, X3.out.c1, X3.out.c2, X3.out.c3, X3.out.c4, X3.out.c5, X3.out.c6, HL3.out.kind' n hn, HL3.out.par' n hn, HL3.out.null' n hn⟩ (drewN_below w3 1)
  have j0 : (0 : Int) ≤ (n : Int) := Int.natCast_nonneg _
  have j1 : (n : Int) < (ns.length : Int) := by omega
  clear hH HK h0 h1
  go_wp2_with fail
  refine wp_region_noPanic ?_
  refine wp_region_held_drew (S := fun W : World => W.cell? ⟨w.heap.size, 0, none⟩ = some (.slice (some x) ns.length capT) ∧ W.cell? ⟨w1.heap.size, 0, none⟩ = some (.int .i64 a.layout) ∧ W.cell? ⟨w1.heap.size, 1, none⟩ = some (.int .i64 a.offset) ∧ W.cell? ⟨w1.heap.size, 2, none⟩ = some (.int .i64 a.length) ∧ W.cell? ⟨w1.heap.size, 3, none⟩ = some (.string a.valid) ∧ W.cell? ⟨w1.heap.size, 4, none⟩ = some (.string a.ends) ∧ W.cell? ⟨w1.heap.size, 5, none⟩ = some (.string a.data) ∧ W.cell? ⟨w1.heap.size, 6, none⟩ = some (.slice o a.kids.length cap) ∧ W.cell? (x.add (n * 3)) = some (.int .i64 (nd ns n).kind) ∧ W.cell? { block := (x.add (n * 3)).block, off := (x.add (n * 3)).off + 1 } = some (.int .i64 (nd ns n).par) ∧ W.cell? { block := (x.add (n * 3)).block, off := (x.add (n * 3)).off + 2 } = some (.bool (nd ns n).null)) (by kernel_rfl) K3.out (fun h3 => ?_)
  refine take_at (i := 0) (d := some 15) (v := ?v0) rfl rfl (by kernel_rfl) (by kernel_rfl) (by kernel_rfl) (fun _ _ _ h => h) (Or.inl ⟨by rfl, ?y0⟩) h3 ?r0
  case y0 => (intro w' hSw; (try dsimp only at hSw); go_simp; try with_reducible rfl)
  try simp only [Act.put, List.setIfInBounds_toArray, List.set_cons_zero, List.set_cons_succ]
  refine take_at (i := 1) (d := some 16) (v := ?v1) rfl rfl (by kernel_rfl) (by kernel_rfl) (by kernel_rfl) (fun _ _ _ h => h) (Or.inl ⟨by rfl, ?y1⟩) h3 ?r1
  case y1 => (intro w' hSw; (try dsimp only at hSw); go_simp; try with_reducible rfl)
  try simp only [Act.put, List.setIfInBounds_toArray, List.set_cons_zero, List.set_cons_succ]
  refine take_at (i := 2) (d := some 17) (v := ?v2) rfl rfl (by kernel_rfl) (by kernel_rfl) (by kernel_rfl) (fun _ _ _ h => h) (Or.inl ⟨by rfl, ?y2⟩) h3 ?r2
  case y2 => (intro w' hSw; (try dsimp only at hSw); go_simp; try with_reducible rfl)
  try simp only [Act.put, List.setIfInBounds_toArray, List.set_cons_zero, List.set_cons_succ]
  refine take_at (i := 3) (d := some 18) (v := ?v3) rfl rfl (by kernel_rfl) (by kernel_rfl) (by kernel_rfl) (fun _ _ _ h => h) (Or.inl ⟨by rfl, ?y3⟩) h3 ?r3
  case y3 => (intro w' hSw; (try dsimp only at hSw); go_simp; try with_reducible rfl)
  try simp only [Act.put, List.setIfInBounds_toArray, List.set_cons_zero, List.set_cons_succ]
  refine wpAnyH_ready (rs := [4]) (by kernel_rfl) (by simp) ?_
  refine AllReadyH.cons rfl (fun K hK => ?_) AllReadyH.nil
  go_simp
  go_at_call 29
  refine (HH.out _).mono ?_
  rintro e w4 ⟨rfl, b4⟩
  have K4 : Hid _ := KLA.out _ _ K3.out b4
  have B4 : Hid (Below w3.heap.size w3 w4) := bel2 (drewN_below w3 1) b4
  have ba : Below w4.heap.size w4 (w4.alloc (.cells #[.string a.valid, .string a.ends, .string a.data] 9)) := (Below.refl _ _).alloc (Nat.le_refl _) _
  have BA : Hid _ := bel2 B4.out ba
  have KA : Hid _ := KLA.out _ _ K4.out ba
  clear b4 ba
  refine hK.out _ _ K4.out (fun h4 => ?_)
  clear hK K
  try simp only [Act.put, List.setIfInBounds_toArray, List.set_cons_zero, List.set_cons_succ]
  refine take_at (i := 5) (d := some 20) (v := ?v5) rfl rfl (by kernel_rfl) (by kernel_rfl) (by kernel_rfl) (fun _ _ _ h => h) (Or.inl ⟨by rfl, ?y5⟩) h4 ?r5
  case y5 => (intro w' hSw; (try dsimp only at hSw); go_simp; try with_reducible rfl)
  try simp only [Act.put, List.setIfInBounds_toArray, List.set_cons_zero, List.set_cons_succ]
  refine take_at (i := 6) (d := some 21) (v := ?v6) rfl rfl (by kernel_rfl) (by kernel_rfl) (by kernel_rfl) (fun _ _ _ h => h) (Or.inl ⟨by rfl, ?y6⟩) h4 ?r6
  case y6 => (intro w' hSw; (try dsimp only at hSw); go_simp; try with_reducible rfl)
  try simp only [Act.put, List.setIfInBounds_toArray, List.set_cons_zero, List.set_cons_succ]
  refine take_at (i := 7) (d := some 22) (v := ?v7) rfl rfl (by kernel_rfl) (by kernel_rfl) (by kernel_rfl) (fun _ _ _ h => h) (Or.inl ⟨by rfl, ?y7⟩) h4 ?r7
  case y7 => (intro w' hSw; (try dsimp only at hSw); go_simp; try with_reducible rfl)
  try simp only [Act.put, List.setIfInBounds_toArray, List.set_cons_zero, List.set_cons_succ]
  refine take_at (i := 8) (d := some 23) (v := ?v8) rfl rfl (by kernel_rfl) (by kernel_rfl) (by kernel_rfl) (fun _ _ _ h => h) (Or.inl ⟨by rfl, ?y8⟩) h4 ?r8
  case y8 => (intro w' hSw; (try dsimp only at hSw); go_simp; try with_reducible rfl)
  try simp only [Act.put, List.setIfInBounds_toArray, List.set_cons_zero, List.set_cons_succ]
  refine take_at (i := 9) (d := some 24) (v := ?v9) rfl rfl (by kernel_rfl) (by kernel_rfl) (by kernel_rfl) (fun _ _ _ h => h) (Or.inl ⟨by rfl, ?y9⟩) h4 ?r9
  case y9 => (intro w' hSw; (try dsimp only at hSw); go_simp; try with_reducible rfl)
  try simp only [Act.put, List.setIfInBounds_toArray, List.set_cons_zero, List.set_cons_succ]
  refine take_at (i := 10) (d := some 25) (v := ?v10) rfl rfl (by kernel_rfl) (by kernel_rfl) (by kernel_rfl) (fun _ _ _ h => h) (Or.inl ⟨by rfl, ?y10⟩) h4 ?r10
  case y10 => (intro w' hSw; (try dsimp only at hSw); go_simp; try with_reducible rfl)
  try simp only [Act.put, List.setIfInBounds_toArray, List.set_cons_zero, List.set_cons_succ]
  refine take_at (i := 11) (d := some 26) (v := ?v11) rfl rfl (by kernel_rfl) (by kernel_rfl) (by kernel_rfl) (fun _ _ _ h => h) (Or.inl ⟨by rfl, ?y11⟩) h4 ?r11
  case y11 => (intro w' hSw; (try dsimp only at hSw); go_simp; try with_reducible rfl)
  try simp only [Act.put, List.setIfInBounds_toArray, List.set_cons_zero, List.set_cons_succ]
  refine take_at (i := 12) (d := some 27) (v := ?v12) rfl rfl (by kernel_rfl) (by kernel_rfl) (by kernel_rfl) (fun _ _ _ h => h) (Or.inl ⟨by rfl, ?y12⟩) h4 ?r12
  case y12 => (intro w' hSw; (try dsimp only at hSw); go_simp; try with_reducible rfl)
  try simp only [Act.put, List.setIfInBounds_toArray, List.set_cons_zero, List.set_cons_succ]
  refine take_at (i := 13) (d := some 28) (v := ?v13) rfl rfl (by kernel_rfl) (by kernel_rfl) (by kernel_rfl) (fun _ _ _ h => h) (Or.inl ⟨by rfl, ?y13⟩) h4 ?r13
  case y13 => (intro w' hSw; (try dsimp only at hSw); go_simp; try with_reducible rfl)
  try simp only [Act.put, List.setIfInBounds_toArray, List.set_cons_zero, List.set_cons_succ]
  refine wpAnyH_ready (rs := [14]) (by kernel_rfl) (by simp) ?_
  refine AllReadyH.cons rfl (fun K hK => ?_) AllReadyH.nil
  go_simp
  refine hK.out _ _ KA.out (fun hA => ?_)
  clear hK K
  try simp only [Act.put, List.setIfInBounds_toArray, List.set_cons_zero, List.set_cons_succ]
  refine wpAnyH_ready (rs := [15]) (by kernel_rfl) (by simp) ?_
  refine AllReadyH.cons rfl (fun K hK => ?_) AllReadyH.nil
  go_simp
  go_at_call 30
  refine (areShort _ a.valid a.ends a.data _ (short_box w4 a).1 (short_box w4 a).2.1 (short_box w4 a).2.2).mono ?_
  rintro e wx ⟨rfl, rfl⟩
  rw [HSH.out]
  refine hK.out _ _ KA.out (fun hB => ?_)
  clear hK K
  try simp only [Act.put, List.setIfInBounds_toArray, List.set_cons_zero, List.set_cons_succ]
  refine take_at (i := 16) (d := some 31) (v := ?v16) rfl rfl (by kernel_rfl) (by kernel_rfl) (by kernel_rfl) (fun _ _ _ h => h) (Or.inl ⟨by rfl, ?y16⟩) hB ?r16
  case y16 => (intro w' hSw; (try dsimp only at hSw); go_simp; try with_reducible rfl)
  try simp only [Act.put, List.setIfInBounds_toArray, List.set_cons_zero, List.set_cons_succ]
  refine take_at (i := 17) (d := some 32) (v := ?v17) rfl rfl (by kernel_rfl) (by kernel_rfl) (by kernel_rfl) (fun _ _ _ h => h) (Or.inl ⟨by rfl, ?y17⟩) hB ?r17
  case y17 => (intro w' hSw; (try dsimp only at hSw); go_simp; try with_reducible rfl)
  try simp only [Act.put, List.setIfInBounds_toArray, List.set_cons_zero, List.set_cons_succ]
  refine take_at (i := 18) (d := some 33) (v := ?v18) rfl rfl (by kernel_rfl) (by kernel_rfl) (by kernel_rfl) (fun _ _ _ h => h) (Or.inl ⟨by rfl, ?y18⟩) hB ?r18
  case y18 => (intro w' hSw; (try dsimp only at hSw); go_simp; try with_reducible rfl)
  try simp only [Act.put, List.setIfInBounds_toArray, List.set_cons_zero, List.set_cons_succ]
  refine take_at (i := 19) (d := some 34) (v := undef) rfl rfl (by kernel_rfl) (by kernel_rfl) (by kernel_rfl) (fun _ _ _ h => h) (Or.inr ⟨by rfl, rfl⟩) hB ?r19
  try simp only [Act.put, List.setIfInBounds_toArray, List.set_cons_zero, List.set_cons_succ]
  refine take_at (i := 20) (d := some 35) (v := undef) rfl rfl (by kernel_rfl) (by kernel_rfl) (by kernel_rfl) (fun _ _ _ h => h) (Or.inr ⟨by rfl, rfl⟩) hB ?r20
  try simp only [Act.put, List.setIfInBounds_toArray, List.set_cons_zero, List.set_cons_succ]
  refine take_at (i := 21) (d := some 36) (v := undef) rfl rfl (by kernel_rfl) (by kernel_rfl) (by kernel_rfl) (fun _ _ _ h => h) (Or.inr ⟨by rfl, rfl⟩) hB ?r21
  try simp only [Act.put, List.setIfInBounds_toArray, List.set_cons_zero, List.set_cons_succ]
  refine take_at (i := 22) (d := some 37) (v := undef) rfl rfl (by kernel_rfl) (by kernel_rfl) (by kernel_rfl) (fun _ _ _ h => h) (Or.inr ⟨by rfl, rfl⟩) hB ?r22
  try simp only [Act.put, List.setIfInBounds_toArray, List.set_cons_zero, List.set_cons_succ]
  refine take_at (i := 23) (d := some 38) (v := undef) rfl rfl (by kernel_rfl) (by kernel_rfl) (by kernel_rfl) (fun _ _ _ h => h) (Or.inr ⟨by rfl, rfl⟩) hB ?r23
  try simp only [Act.put, List.setIfInBounds_toArray, List.set_cons_zero, List.set_cons_succ]
  refine take_at (i := 24) (d := some 39) (v := undef) rfl rfl (by kernel_rfl) (by kernel_rfl) (by kernel_rfl) (fun _ _ _ h => h) (Or.inr ⟨by rfl, rfl⟩) hB ?r24
  try simp only [Act.put, List.setIfInBounds_toArray, List.set_cons_zero, List.set_cons_succ]
  refine take_at (i := 25) (d := some 40) (v := undef) rfl rfl (by kernel_rfl) (by kernel_rfl) (by kernel_rfl) (fun _ _ _ h => h) (Or.inr ⟨by rfl, rfl⟩) hB ?r25
  try simp only [Act.put, List.setIfInBounds_toArray, List.set_cons_zero, List.set_cons_succ]
  refine take_at (i := 26) (d := some 41) (v := undef) rfl rfl (by kernel_rfl) (by kernel_rfl) (by kernel_rfl) (fun _ _ _ h => h) (Or.inr ⟨by rfl, rfl⟩) hB ?r26
  try simp only [Act.put, List.setIfInBounds_toArray, List.set_cons_zero, List.set_cons_succ]
  refine take_at (i := 27) (d := some 42) (v := ?v27) rfl rfl (by kernel_rfl) (by kernel_rfl) (by kernel_rfl) (fun _ _ _ h => h) (Or.inl ⟨by rfl, ?y27⟩) hB ?r27
  case y27 => (intro w' hSw; (try dsimp only at hSw); go_simp; try with_reducible rfl)
  try simp only [Act.put, List.setIfInBounds_toArray, List.set_cons_zero, List.set_cons_succ]
  refine wpAnyH_done (by kernel_rfl) ?_ _
  refine NoPanic.normal ?_
  clear K3 K4 KLA KA h3 h4 hA hB
  go_wp2
  go_ret
  exact ⟨rfl, bel2 B2.out (bel2 B3.out BA.out)⟩
end Go.Proofs.YthbjeedmhgnnaaaGreat.Arr
namespace Go.Proofs.YthbjeedmhgnnaaaGreat.Arr
open Go.ChangeShapes Go.WideShapes Go.ChangeAt Go.RowKit
open Tree Val

theorem may_step (B bytes f : Nat) (ih : MayC B bytes f) : MayC B bytes (f + 1) := by
  intro ns oT capT at' a o cap w ht hH
  cases hb : hasB ns at'
  · have e : mayZ ns at' (f + 1) a = false := by unfold mayZ; rw [hb]; rfl
    rw [e]
    exact may_no ns oT capT at' a o cap w ht hb
  · obtain ⟨n, rfl, hn, hM⟩ := has_of hb
    have hm : may ns = true := by unfold hasB at hb; rw [Bool.and_eq_true] at hb; exact hb.2
    rw [mayZ_kid hm hn, may_lay hm hn, head_eq]
    cases h0 : hasRowsB a
    · rw [Bool.false_and, Bool.false_and]
      exact may_rows B bytes f ns oT capT n a o cap w ht hn hm hH h0
    rw [Bool.true_and]
    cases h1 : shortsOf a.valid a.ends a.data
    · rw [Bool.false_and, Bool.false_and]
      exact may_short B bytes f ns oT capT n a o cap w ht hn hm hH h0 h1
    rw [Bool.true_and]
    cases h2 : lackB (nd ns n).null a
    · rw [Bool.false_and]
      exact may_lack B bytes f ns oT capT n a o cap w ht hn hm hH h0 h1 h2
    rw [Bool.true_and]
    exact may_yes B bytes f ih ns oT capT n a o cap w ht hn hm hH h0 h1 h2
/-- May, of any array. -/
theorem mayA (B bytes : Nat) : ∀ f, MayC B bytes f := by
  intro f
  induction f with
  | zero => intro ns oT capT at' a o cap w _ hH; cases hH
  | succ f ih => exact may_step B bytes f ih
end Go.Proofs.YthbjeedmhgnnaaaGreat.Arr
