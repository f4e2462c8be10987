/-
  Several texts in one: The document's plainMay of lists and structs: contracts. · The document's plainMay of structs, and of any node: contracts. · The document's ArrayMay: its head: contracts. · The document's ArrayMay: which rows lack, plain arrays: contracts.
-/
import Derived.Test.YtcpfhfdgfcilaaaGreatDoorB09
namespace Go.Proofs.YtcpfhfdgfcilaaaGreatDoor.Arr
open Go.ChangeShapes Go.WideShapes Go.ChangeAt Go.RowKit
open Tree Val

/-- A kid's cells in every world in which it still stands. -/
structure KCells (w3 : World) (y : Addr) (k : Arr) (o : Option Addr) (cap : Nat) : Prop where
  k0 : ∀ s : BW w3, s.w.cell? y = some (.int .i64 k.layout)
  k1 : ∀ s : BW w3, s.w.cell? { block := y.block, off := y.off + 1 } = some (.int .i64 k.offset)
  k2 : ∀ s : BW w3, s.w.cell? { block := y.block, off := y.off + 2 } = some (.int .i64 k.length)
  k3 : ∀ s : BW w3, s.w.cell? { block := y.block, off := y.off + 3 } = some (.string k.valid)
  k4 : ∀ s : BW w3, s.w.cell? { block := y.block, off := y.off + 4 } = some (.string k.ends)
  k5 : ∀ s : BW w3, s.w.cell? { block := y.block, off := y.off + 5 } = some (.string k.data)
  k6 : ∀ s : BW w3, s.w.cell? { block := y.block, off := y.off + 6 } = some (.slice o k.kids.length cap)
theorem Kid.cells {w3 : World} {y : Addr} {k : Arr} {o : Option Addr} {cap : Nat} (h : Kid w3 y k o cap) : KCells w3 y k o cap :=
  ⟨fun s => (h.later s.ok).k0, fun s => (h.later s.ok).k1, fun s => (h.later s.ok).k2, fun s => (h.later s.ok).k3, fun s => (h.later s.ok).k4, fun s => (h.later s.ok).k5, fun s => (h.later s.ok).k6⟩
set_option maxRecDepth 20000 in
set_option maxHeartbeats 3200000 in
theorem refList (f : Nat) (B bytes : Nat) (ih : Hid (RefC B bytes f)) (ns : List Nd) (oT : Option Addr) (capT n : Nat) (hn : n < ns.length) (hm : may ns = true) (a : Arr) (o : Option Addr) (cap : Nat) (ho : Ok a) (hk : (nd ns n).kind = 3) (w : World) (ht : IsT w oT ns) (hH : Hid (HoldsF B bytes w (f + 1) (a.cells o cap) a)) :
    Calls Tryz.prog 53 #[.agg #[.slice oT ns.length capT], .int .i64 (n : Int), a.val o cap, .int .i64 ((rowsOf a : Nat) : Int)] w fun r w' => r = .returned (.bool (plainB (mayF ns f) ns n a)) ∧ Below w.heap.size w w' := by
  obtain ⟨w1, e1, s1, c1, b1⟩ := boxed w (.slice oT ns.length capT) 24
  obtain ⟨w2, e2, x2, b2, z2⟩ := box7 w1 a o cap
  obtain ⟨x, rfl, hl⟩ := ht.some (by omega)
  have hB : hasB ns (n : Int) = true := by unfold hasB; rw [hm, decide_eq_true (by omega)]; rfl
  have hKA : kidsA ns (n : Int) = kids ns n := by unfold kidsA; rw [if_pos hB]
  have B2 : Hid (Below w.heap.size w w2) := bel2 b1 b2
  have cT := cell_later b2 c1
  have HCT : Hid (w2.cell? ⟨w.heap.size, 0, none⟩ = some (.slice (some x) ns.length capT)) := cT
  have HK : Hid (Calls Tryz.prog 83 #[.agg #[.slice (some x) ns.length capT], .int .i64 (n : Int)] w2 fun r w' => ∃ o c, r = .returned (.tuple #[.slice o (kids ns n).length c, .int .i64 0]) ∧ w'.ownsRow w2.heap.size 3 1 (.slice o (kids ns n).length c) (kids ns n).length (ints (kids ns n)) ∧ Below w2.heap.size w2 w') := by
    have := kidsR (some x) capT ns (n : Int) w2 (ht.later B2.out)
    rw [hB, hKA] at this
    exact this
  have X2 : Hid (Bx w2 w1.heap.size a o cap) := x2
  have HT : Hid (IsT w (some x) ns) := ht
  have HLI : Hid (Lies w x ns) := hl
  have hrow : rowsOf a ≤ 64 := by have := ho.rows; have := ho.off; have := ho.len; unfold rowsOf; omega
  have HKD : Hid ((nd ns n).kind = 3) := hk
  have j0 : (0 : Int) ≤ (n : Int) := Int.natCast_nonneg _
  have j1 : (n : Int) < (ns.length : Int) := by omega
  have hds := ho.data
  have hes := ho.ends
  clear s1 c1 b1 b2 x2 z2 hB hKA ht hl
  have HP : Hid (plainB (mayF ns f) ns n a = (decide (a.data.size = 0) && (decide (a.kids.length = 1) && (mayF ns f (kAt ns n 0) (kidAt a 0) && endsB a.ends (rowsOf a) a.offset (kidAt a 0).length 2147483647)))) := plain_list2 hk
  have h1 : (kids ns n).length = 1 := (may_of hm).list n hn hk
  have HK1 : Hid ((kids ns n).length = 1) := h1
  have HKL : Hid (kAt ns n 0 < ns.length) := kids_lt n 0 (by omega)
  have HEE : Hid (∀ v, Calls Tryz.prog 85 #[.string a.ends, .int .i64 ((rowsOf a : Nat) : Int), .int .i64 a.offset, .int .i64 (kidAt a 0).length, .int .i64 2147483647] v fun e w' => e = .returned (.bool (endsB a.ends (rowsOf a) a.offset (kidAt a 0).length 2147483647)) ∧ w' = v) := fun v => refEnds a.ends (rowsOf a) a.offset (kidAt a 0).length 2147483647 ho.ends hrow v
  have HMAY : Hid (may ns = true) := hm
  generalize plainB (mayF ns f) ns n a = R at *
  generalize endsB a.ends (rowsOf a) a.offset (kidAt a 0).length 2147483647 = EB at *
  generalize rowsOf a = m at *
  clear hk ho h1 hm
  by_cases hd : a.data.size = 0
  · rw [decide_eq_true hd, Bool.true_and] at HP
    have hdv := empty_of hd
    have HDV : Hid (a.data = ⟨#[]⟩) := hdv
    clear hd hdv
    by_cases hq : a.kids.length = 1
    · rw [decide_eq_true hq, Bool.true_and] at HP
      have HQ : Hid (a.kids.length = 1) := hq
      obtain ⟨xk, ok, ck, rfl, hkid, hkh⟩ := hH.out.kid (i := 0) (by omega)
      rw [add_zero] at hkid
      have HKI : Hid (Kid w xk (kidAt a 0) ok ck) := hkid
      have HKH : Hid (HoldsF B bytes w f ((kidAt a 0).cells ok ck) (kidAt a 0)) := hkh
      clear hq hkid hkh
      unfold Arr.val
      go_enter Tryz.func53, Tryz.ntmps53
      go_wp2_with fail
      refine HK.out.mono ?_
      rintro e w3 ⟨oK, cK, rfl, hown, b3⟩
      have B3 : Hid (Below w.heap.size w w3) := bel2 B2.out b3
      have HIK : Hid (IsI w3 w2.heap.size oK (kids ns n)) := own_ints hown
      have X3 : Hid (Bx w3 w1.heap.size a (some xk) cap) := X2.out.later b3
      have HC3 : Hid (w3.cell? ⟨w.heap.size, 0, none⟩ = some (.slice (some x) ns.length capT)) := cell_later b3 HCT.out
      have HL3 : Hid (Lies w3 x ns) := HLI.out.later B3.out
      have n0 := HL3.out.kind' n hn
      rw [HKD.out] at n0
      have cT3 := HC3.out
      have d0 := X3.out.c0
      have d1 := X3.out.c1
      have d2 := X3.out.c2
      have d3 := X3.out.c3
      have d4 := X3.out.c4
      have d5 := X3.out.c5
      have d6 := X3.out.c6
      clear b3 e1 e2 cT hown
      have hne := BW.some w3
      have C := X3.out.cells
      clear d0 d1 d2 d3 d4 d5 d6
      have d0 := C.d0
      have d1 := C.d1
      have d2 := C.d2
      have d3 := C.d3
      have d4 := C.d4
      have d5 := C.d5
      have d6 := C.d6
      clear C
      rcases HIK.out with hI | ⟨g, rfl, _, hrowK⟩
      · have := HK1.out
        rw [hI] at this
        cases this
      have t0 : ∀ s : BW w3, s.w.cell? ⟨g, 0, none⟩ = some (.int .i64 ((kAt ns n 0 : Nat) : Int)) := fun s => cell_later s.ok (hrowK.cell 0 (by rw [HK1.out]; omega))
      have tT : ∀ s : BW w3, s.w.cell? ⟨w.heap.size, 0, none⟩ = some (.slice (some x) ns.length capT) := fun s => cell_later s.ok HC3.out
      have KC := (HKI.out.later B3.out).cells
      have k0 := KC.k0
      have k1 := KC.k1
      have k2 := KC.k2
      have k3 := KC.k3
      have k4 := KC.k4
      have k5 := KC.k5
      have k6 := KC.k6
      have HMM : Hid (∀ v, Below w3.heap.size w3 v → Calls Tryz.prog 23 #[.agg #[.slice (some x) ns.length capT], .int .i64 ((kAt ns n 0 : Nat) : Int), (kidAt a 0).val ok ck] v fun r w' => r = .returned (.bool (mayF ns f (kAt ns n 0) (kidAt a 0))) ∧ Below v.heap.size v w') := fun v hv => by
        have := ih.out ns (some x) capT ((kAt ns n 0 : Nat) : Int) (kidAt a 0) ok ck v (HT.out.later (bel2 B3.out hv)) (HKH.out.later (bel2 B3.out hv))
        rw [mayZ_kid HMAY.out HKL.out] at this
        exact this
      rw [HK1.out]
      unfold Arr.val at HMM
      rw [HDV.out] at d5
      rw [HQ.out] at d6
      clear KC hrowK hH ih
      generalize kidAt a 0 = kk at *
      generalize kAt ns n 0 = kn at *
      go_wp2_with fail
      cases hb : mayF ns f kn kk
      · rw [hb] at HMM HP
        have HN : Hid (R = false) := HP.out
        clear hb
        refine region_in (C := fun w' => ∃ s : BW w3, w' = s.w) (by kernel_rfl) (by kernel_rfl) ⟨⟨w3.drew, (Below.refl _ _).drew⟩, rfl⟩ ?_
        repeat (go_big_quiet_step (first
          | (go_at_call 23; rename_i s; refine (HMM.out s.w s.ok).mono ?_; rintro e wx ⟨rfl, hbx⟩; exact ⟨rfl, ⟨wx, bel2 s.ok hbx⟩, rfl⟩)
          | (go_at_call 85; rename_i s; refine (HEE.out s.w).mono ?_; rintro e wx ⟨rfl, hbx⟩; exact ⟨rfl, s, hbx⟩)))
        refine wpQuiet_nil ?_
        intro _ hw'
        obtain ⟨s, hw''⟩ := hw'
        subst hw''
        have HE : Hid (Below w.heap.size w s.w) := bel2 B3.out s.ok
        clear hne d0 d1 d2 d3 d4 d5 d6
        go_wp2
        go_ret
        exact ⟨ret_bool HN.out.symm, HE.out⟩
      · rw [hb] at HMM HP
        have HN : Hid (R = EB) := HP.out
        clear hb
        refine region_in (C := fun w' => ∃ s : BW w3, w' = s.w) (by kernel_rfl) (by kernel_rfl) ⟨⟨w3.drew, (Below.refl _ _).drew⟩, rfl⟩ ?_
        repeat (go_big_quiet_step (first
          | (go_at_call 23; rename_i s; refine (HMM.out s.w s.ok).mono ?_; rintro e wx ⟨rfl, hbx⟩; exact ⟨rfl, ⟨wx, bel2 s.ok hbx⟩, rfl⟩)
          | (go_at_call 85; rename_i s; refine (HEE.out s.w).mono ?_; rintro e wx ⟨rfl, hbx⟩; exact ⟨rfl, s, hbx⟩)))
        refine wpQuiet_nil ?_
        intro _ hw'
        obtain ⟨s, hw''⟩ := hw'
        subst hw''
        have HE : Hid (Below w.heap.size w s.w) := bel2 B3.out s.ok
        clear hne d0 d1 d2 d3 d4 d5 d6
        go_wp2
        go_ret
        exact ⟨ret_bool HN.out.symm, HE.out⟩
    · rw [decide_eq_false hq, Bool.false_and] at HP
      have HN : Hid (R = false) := HP.out
      have hq2 : (((a.kids.length : Nat) : Int) == 1) = false := by rw [beq_eq_false_iff_ne]; omega
      unfold Arr.val
      go_enter Tryz.func53, Tryz.ntmps53
      go_wp2_with fail
      refine HK.out.mono ?_
      rintro e w3 ⟨oK, cK, rfl, hown, b3⟩
      have B3 : Hid (Below w.heap.size w w3) := bel2 B2.out b3
      have HIK : Hid (IsI w3 w2.heap.size oK (kids ns n)) := own_ints hown
      have X3 : Hid (Bx w3 w1.heap.size a o cap) := X2.out.later b3
      have HC3 : Hid (w3.cell? ⟨w.heap.size, 0, none⟩ = some (.slice (some x) ns.length capT)) := cell_later b3 HCT.out
      have HL3 : Hid (Lies w3 x ns) := HLI.out.later B3.out
      have n0 := HL3.out.kind' n hn
      rw [HKD.out] at n0
      have cT3 := HC3.out
      have d0 := X3.out.c0
      have d1 := X3.out.c1
      have d2 := X3.out.c2
      have d3 := X3.out.c3
      have d4 := X3.out.c4
      have d5 := X3.out.c5
      have d6 := X3.out.c6
      clear b3 e1 e2 cT hown
      have hne := BW.some w3
      have C := X3.out.cells
      clear d0 d1 d2 d3 d4 d5 d6
      have d0 := C.d0
      have d1 := C.d1
      have d2 := C.d2
      have d3 := C.d3
      have d4 := C.d4
      have d5 := C.d5
      have d6 := C.d6
      clear C
      rw [HDV.out] at d5
      go_wp2_with fail
      refine region_in (C := fun w' => ∃ s : BW w3, w' = s.w) (by kernel_rfl) (by kernel_rfl) ⟨⟨w3.drew, (Below.refl _ _).drew⟩, rfl⟩ ?_
      repeat (go_big_quiet_step (first
        | fail))
      refine wpQuiet_nil ?_
      intro _ hw'
      obtain ⟨s, hw''⟩ := hw'
      subst hw''
      have HE : Hid (Below w.heap.size w s.w) := bel2 B3.out s.ok
      clear hne d0 d1 d2 d3 d4 d5 d6
      go_wp2
      go_ret
      exact ⟨ret_bool HN.out.symm, HE.out⟩
  · rw [decide_eq_false hd, Bool.false_and] at HP
    have HN : Hid (R = false) := HP.out
    have hdv := ne_empty hd
    clear hd
    unfold Arr.val
    go_enter Tryz.func53, Tryz.ntmps53
    go_wp2_with fail
    refine HK.out.mono ?_
    rintro e w3 ⟨oK, cK, rfl, hown, b3⟩
    have B3 : Hid (Below w.heap.size w w3) := bel2 B2.out b3
    have HIK : Hid (IsI w3 w2.heap.size oK (kids ns n)) := own_ints hown
    have X3 : Hid (Bx w3 w1.heap.size a o cap) := X2.out.later b3
    have HC3 : Hid (w3.cell? ⟨w.heap.size, 0, none⟩ = some (.slice (some x) ns.length capT)) := cell_later b3 HCT.out
    have HL3 : Hid (Lies w3 x ns) := HLI.out.later B3.out
    have n0 := HL3.out.kind' n hn
    rw [HKD.out] at n0
    have cT3 := HC3.out
    have d0 := X3.out.c0
    have d1 := X3.out.c1
    have d2 := X3.out.c2
    have d3 := X3.out.c3
    have d4 := X3.out.c4
    have d5 := X3.out.c5
    have d6 := X3.out.c6
    clear b3 e1 e2 cT hown
    have hne := BW.some w3
    have C := X3.out.cells
    clear d0 d1 d2 d3 d4 d5 d6
    have d0 := C.d0
    have d1 := C.d1
    have d2 := C.d2
    have d3 := C.d3
    have d4 := C.d4
    have d5 := C.d5
    have d6 := C.d6
    clear C
    go_wp2_with fail
    refine region_in (C := fun w' => ∃ s : BW w3, w' = s.w) (by kernel_rfl) (by kernel_rfl) ⟨⟨w3.drew, (Below.refl _ _).drew⟩, rfl⟩ ?_
    repeat (go_big_quiet_step (first
      | fail))
    refine wpQuiet_nil ?_
    intro _ hw'
    obtain ⟨s, hw''⟩ := hw'
    subst hw''
    have HE : Hid (Below w.heap.size w s.w) := bel2 B3.out s.ok
    clear hne d0 d1 d2 d3 d4 d5 d6
    go_wp2
    go_ret
    exact ⟨ret_bool HN.out.symm, HE.out⟩
end Go.Proofs.YtcpfhfdgfcilaaaGreatDoor.Arr
namespace Go.Proofs.YtcpfhfdgfcilaaaGreatDoor.Arr
open Go.ChangeShapes Go.WideShapes Go.ChangeAt Go.RowKit
open Tree Val

def kidQ (ns : List Nd) (f n : Nat) (a : Arr) (i : Nat) : Bool := mayF ns f (kAt ns n i) (kidAt a i) && decide ((rowsOf a : Int) ≤ (kidAt a i).length)
theorem struct_iff {ns : List Nd} {f n : Nat} {a : Arr} (hk : (nd ns n).kind = 4) : plainB (mayF ns f) ns n a = true ↔ a.data.size = 0 ∧ a.ends.size = 0 ∧ a.kids.length = (kids ns n).length ∧ ∀ i, i < (kids ns n).length → kidQ ns f n a i = true := by
  unfold plainB
  rw [if_neg (by omega), if_neg (by omega), if_neg (by omega), if_neg (by omega)]
  simp only [Bool.and_eq_true, decide_eq_true_eq, List.all_eq_true, List.mem_range]
  unfold kidQ
  simp only [Bool.and_eq_true, decide_eq_true_eq]
  constructor
  · rintro ⟨⟨⟨h1, h2⟩, h3⟩, h4⟩
    exact ⟨h1, h2, h3, h4⟩
  · rintro ⟨h1, h2, h3, h4⟩
    exact ⟨⟨⟨h1, h2⟩, h3⟩, h4⟩
set_option maxRecDepth 20000 in
set_option maxHeartbeats 3200000 in
theorem refStruct (f : Nat) (B bytes : Nat) (ih : Hid (RefC B bytes f)) (ns : List Nd) (oT : Option Addr) (capT n : Nat) (hn : n < ns.length) (hm : may ns = true) (a : Arr) (o : Option Addr) (cap : Nat) (ho : Ok a) (hk : (nd ns n).kind = 4) (w : World) (ht : IsT w oT ns) (hH : Hid (HoldsF B bytes w (f + 1) (a.cells o cap) a)) :
    Calls Tryz.prog 53 #[.agg #[.slice oT ns.length capT], .int .i64 (n : Int), a.val o cap, .int .i64 ((rowsOf a : Nat) : Int)] w fun r w' => r = .returned (.bool (plainB (mayF ns f) ns n a)) ∧ Below w.heap.size w w' := by
  obtain ⟨w1, e1, s1, c1, b1⟩ := boxed w (.slice oT ns.length capT) 24
  obtain ⟨w2, e2, x2, b2, z2⟩ := box7 w1 a o cap
  obtain ⟨x, rfl, hl⟩ := ht.some (by omega)
  have hB : hasB ns (n : Int) = true := by unfold hasB; rw [hm, decide_eq_true (by omega)]; rfl
  have hKA : kidsA ns (n : Int) = kids ns n := by unfold kidsA; rw [if_pos hB]
  have B2 : Hid (Below w.heap.size w w2) := bel2 b1 b2
  have cT := cell_later b2 c1
  have HCT : Hid (w2.cell? ⟨w.heap.size, 0, none⟩ = some (.slice (some x) ns.length capT)) := cT
  have HK : Hid (Calls Tryz.prog 83 #[.agg #[.slice (some x) ns.length capT], .int .i64 (n : Int)] w2 fun r w' => ∃ o c, r = .returned (.tuple #[.slice o (kids ns n).length c, .int .i64 0]) ∧ w'.ownsRow w2.heap.size 3 1 (.slice o (kids ns n).length c) (kids ns n).length (ints (kids ns n)) ∧ Below w2.heap.size w2 w') := by
    have := kidsR (some x) capT ns (n : Int) w2 (ht.later B2.out)
    rw [hB, hKA] at this
    exact this
  have X2 : Hid (Bx w2 w1.heap.size a o cap) := x2
  have HT : Hid (IsT w (some x) ns) := ht
  have HLI : Hid (Lies w x ns) := hl
  have hrow : rowsOf a ≤ 64 := by have := ho.rows; have := ho.off; have := ho.len; unfold rowsOf; omega
  have HKD : Hid ((nd ns n).kind = 4) := hk
  have j0 : (0 : Int) ≤ (n : Int) := Int.natCast_nonneg _
  have j1 : (n : Int) < (ns.length : Int) := by omega
  have hds := ho.data
  have hes := ho.ends
  clear s1 c1 b1 b2 x2 z2 hB hKA ht hl
  have HP : Hid (plainB (mayF ns f) ns n a = true ↔ a.data.size = 0 ∧ a.ends.size = 0 ∧ a.kids.length = (kids ns n).length ∧ ∀ i, i < (kids ns n).length → kidQ ns f n a i = true) := struct_iff hk
  have h1 : 1 ≤ (kids ns n).length := (may_of hm).struct n hn hk
  have h8 : (kids ns n).length ≤ 8 := by have h1 := length_kidsTo ns n ns.length; have h2 := (may_of hm).most; show (kidsTo ns n ns.length).length ≤ 8; omega
  have HKL : Hid (∀ j, j < (kids ns n).length → kAt ns n j < ns.length) := kids_lt n
  have HKQ : Hid (∀ i, kidQ ns f n a i = (mayF ns f (kAt ns n i) (kidAt a i) && decide ((rowsOf a : Int) ≤ (kidAt a i).length))) := fun _ => rfl
  have HMAY : Hid (may ns = true) := hm
  generalize plainB (mayF ns f) ns n a = R at *
  generalize kidQ ns f n a = Q at *
  generalize rowsOf a = m at *
  have HFA : Hid (¬ (a.data.size = 0 ∧ a.ends.size = 0 ∧ a.kids.length = (kids ns n).length) → R = false) := fun h => by
    cases c : R
    · rfl
    · have := HP.out.1 c
      exact absurd ⟨this.1, this.2.1, this.2.2.1⟩ h
  clear hk ho hm
  by_cases hd : a.data.size = 0
  · have HD : Hid (a.data.size = 0) := hd
    have HDV : Hid (a.data = ⟨#[]⟩) := empty_of hd
    clear hd
    by_cases he : a.ends.size = 0
    · have HE0 : Hid (a.ends.size = 0) := he
      have HEV : Hid (a.ends = ⟨#[]⟩) := empty_of he
      clear he
      by_cases hq : a.kids.length = (kids ns n).length
      · have HQ : Hid (a.kids.length = (kids ns n).length) := hq
        obtain ⟨xk, rfl, hkin⟩ := kidsIn hH.out (by omega)
        have HKI : Hid (KidsIn B bytes f w xk a) := hkin
        clear hq hkin
        unfold Arr.val
        go_enter Tryz.func53, Tryz.ntmps53
        go_wp2_with fail
        refine HK.out.mono ?_
        rintro e w3 ⟨oK, cK, rfl, hown, b3⟩
        have B3 : Hid (Below w.heap.size w w3) := bel2 B2.out b3
        have HIK : Hid (IsI w3 w2.heap.size oK (kids ns n)) := own_ints hown
        have X3 : Hid (Bx w3 w1.heap.size a (some xk) cap) := X2.out.later b3
        have HC3 : Hid (w3.cell? ⟨w.heap.size, 0, none⟩ = some (.slice (some x) ns.length capT)) := cell_later b3 HCT.out
        have HL3 : Hid (Lies w3 x ns) := HLI.out.later B3.out
        have n0 := HL3.out.kind' n hn
        rw [HKD.out] at n0
        have cT3 := HC3.out
        have d0 := X3.out.c0
        have d1 := X3.out.c1
        have d2 := X3.out.c2
        have d3 := X3.out.c3
        have d4 := X3.out.c4
        have d5 := X3.out.c5
        have d6 := X3.out.c6
        clear b3 e1 e2 cT hown
        rcases HIK.out with hI | ⟨g, rfl, _, hrowK⟩
        · have := h1
          rw [hI] at this
          cases this
        have HROW : Hid (Row w3 g (kids ns n).length (fun i => (kids ns n).getD i 0)) := hrowK
        rw [HDV.out] at d5
        rw [HEV.out] at d4
        rw [HQ.out] at d6
        have HD6 : Hid (w3.cell? ⟨w1.heap.size, 6, none⟩ = some (.slice (some xk) (kids ns n).length cap)) := d6
        clear hrowK hH
        have HYES : Hid ((∀ i, i < (kids ns n).length → Q i = true) → R = true) := fun h => HP.out.2 ⟨HD.out, HE0.out, HQ.out, h⟩
        have HNO : Hid (∀ i, i < (kids ns n).length → Q i = false → R = false) := fun i hi h => by
          cases c : R
          · rfl
          · have := (HP.out.1 c).2.2.2 i hi
            rw [h] at this
            cases this
        have hqq : (((kids ns n).length : Int) != ((kids ns n).length : Int)) = false := by simp
        have HKQ2 : Hid (∀ i, i < (kids ns n).length → i < a.kids.length) := fun i hi => by rw [HQ.out]; exact hi
        have HGD : Hid (∀ i, (kids ns n).getD i 0 = kAt ns n i) := fun _ => rfl
        clear HP HFA HQ
        go_wp2_with fail
        go_loopw [11] (fun t wr => ∃ k : Nat, k ≤ (kids ns n).length ∧ t = .int .i64 (k : Int) ∧ (∀ j, j < k → Q j = true) ∧ Below w3.heap.size w3 wr) (fun t _ => (kids ns n).length - (intOf t).toNat)
        case atStart => exact ⟨0, Nat.zero_le _, rfl, fun j hj => by omega, Below.refl _ _⟩
        case round =>
          obtain ⟨k, hk, rfl, hall, hbl⟩ := hrel
          have HA : Hid (∀ j, j < k → Q j = true) := hall
          have BL : Hid (Below w3.heap.size w3 wr) := hbl
          clear hall hbl d0 d1 d2 d3 d4 d5 d6 cT3 n0
          by_cases hlt : k < (kids ns n).length
          · obtain ⟨ok, ck, hkid, hkh⟩ := HKI.out.all k (HKQ2.out k hlt)
            have hne := BW.some wr
            have BR : Hid (Below w.heap.size w wr) := bel2 B3.out BL.out
            have d6 : ∀ s : BW wr, s.w.cell? ⟨w1.heap.size, 6, none⟩ = some (.slice (some xk) (kids ns n).length cap) := fun s => cell_later s.ok (cell_later BL.out HD6.out)
            have t0 : ∀ s : BW wr, s.w.cell? ⟨g, k, none⟩ = some (.int .i64 ((kAt ns n k : Nat) : Int)) := fun s => by have := cell_later s.ok (cell_later BL.out (HROW.out.cell k hlt)); rw [HGD.out] at this; exact this
            have tT : ∀ s : BW wr, s.w.cell? ⟨w.heap.size, 0, none⟩ = some (.slice (some x) ns.length capT) := fun s => cell_later s.ok (cell_later BL.out HC3.out)
            have KC := (hkid.later BR.out).cells
            have k0 := KC.k0
            have k1 := KC.k1
            have k2 := KC.k2
            have k3 := KC.k3
            have k4 := KC.k4
            have k5 := KC.k5
            have k6 := KC.k6
            have HMM : Hid (∀ v, Below wr.heap.size wr v → Calls Tryz.prog 23 #[.agg #[.slice (some x) ns.length capT], .int .i64 ((kAt ns n k : Nat) : Int), (kidAt a k).val ok ck] v fun r w' => r = .returned (.bool (mayF ns f (kAt ns n k) (kidAt a k))) ∧ Below v.heap.size v w') := fun v hv => by
              have := ih.out ns (some x) capT ((kAt ns n k : Nat) : Int) (kidAt a k) ok ck v (HT.out.later (bel2 BR.out hv)) (hkh.later (bel2 BR.out hv))
              rw [mayZ_kid HMAY.out (HKL.out k hlt)] at this
              exact this
            have HKQk : Hid (Q k = (mayF ns f (kAt ns n k) (kidAt a k) && decide ((m : Int) ≤ (kidAt a k).length))) := HKQ.out k
            have HNk : Hid (Q k = false → R = false) := HNO.out k hlt
            have i1 : (k : Int) < ((kids ns n).length : Int) := by omega
            have i0 : (0 : Int) ≤ (k : Int) := Int.natCast_nonneg _
            unfold Arr.val at HMM
            clear KC hkid hkh
            generalize kidAt a k = kk at *
            generalize kAt ns n k = kn at *
            go_wp2_with fail
            cases hb : mayF ns f kn kk
            · rw [hb] at HMM HKQk
              have HN : Hid (R = false) := HNk.out HKQk.out
              clear hb
              refine region_in (C := fun w' => ∃ s : BW wr, w' = s.w) (by kernel_rfl) (by kernel_rfl) ⟨⟨wr.drew, (Below.refl _ _).drew⟩, rfl⟩ ?_
              repeat (go_big_quiet_step (first
                | (go_at_call 23; rename_i s; refine (HMM.out s.w s.ok).mono ?_; rintro e wx ⟨rfl, hbx⟩; exact ⟨rfl, ⟨wx, bel2 s.ok hbx⟩, rfl⟩)))
              refine wpQuiet_nil ?_
              intro _ hw'
              obtain ⟨s, hw''⟩ := hw'
              subst hw''
              have HE : Hid (Below w3.heap.size w3 s.w) := bel2 BL.out s.ok
              clear hne d6 t0 tT k0 k1 k2 k3 k4 k5 k6
              go_wp2
              go_ret
              exact ⟨ret_bool HN.out.symm, bel2 B3.out HE.out⟩
            · rw [hb] at HMM HKQk
              clear hb
              by_cases hlen : (m : Int) ≤ kk.length
              · have HG : Hid (Q k = true) := by unfold Hid; rw [HKQk.out, decide_eq_true hlen]; rfl
                have hl2 : ¬ kk.length < (m : Int) := by omega
                refine region_in (C := fun w' => ∃ s : BW wr, w' = s.w) (by kernel_rfl) (by kernel_rfl) ⟨⟨wr.drew, (Below.refl _ _).drew⟩, rfl⟩ ?_
                repeat (go_big_quiet_step (first
                  | (go_at_call 23; rename_i s; refine (HMM.out s.w s.ok).mono ?_; rintro e wx ⟨rfl, hbx⟩; exact ⟨rfl, ⟨wx, bel2 s.ok hbx⟩, rfl⟩)))
                refine wpQuiet_nil ?_
                intro _ hw'
                obtain ⟨s, hw''⟩ := hw'
                subst hw''
                have HE : Hid (Below w3.heap.size w3 s.w) := bel2 BL.out s.ok
                clear hne d6 t0 tT k0 k1 k2 k3 k4 k5 k6
                go_wp2
                go_roundw
                case rel =>
                  refine ⟨k + 1, by omega, by go_num, fun j hj => ?_, HE.out⟩
                  by_cases e : j = k
                  · rw [e]; exact HG.out
                  · exact HA.out j (by omega)
                case measure => simp [intOf]; omega
              · have HN : Hid (R = false) := HNk.out (by rw [HKQk.out, decide_eq_false hlen]; rfl)
                have hl2 : kk.length < (m : Int) := by omega
                refine region_in (C := fun w' => ∃ s : BW wr, w' = s.w) (by kernel_rfl) (by kernel_rfl) ⟨⟨wr.drew, (Below.refl _ _).drew⟩, rfl⟩ ?_
                repeat (go_big_quiet_step (first
                  | (go_at_call 23; rename_i s; refine (HMM.out s.w s.ok).mono ?_; rintro e wx ⟨rfl, hbx⟩; exact ⟨rfl, ⟨wx, bel2 s.ok hbx⟩, rfl⟩)))
                refine wpQuiet_nil ?_
                intro _ hw'
                obtain ⟨s, hw''⟩ := hw'
                subst hw''
                have HE : Hid (Below w3.heap.size w3 s.w) := bel2 BL.out s.ok
                clear hne d6 t0 tT k0 k1 k2 k3 k4 k5 k6
                go_wp2
                go_ret
                exact ⟨ret_bool HN.out.symm, bel2 B3.out HE.out⟩
          · obtain rfl : k = (kids ns n).length := by omega
            have HN : Hid (R = true) := HYES.out HA.out
            generalize (kids ns n).length = q at *
            go_wp2
            go_ret
            exact ⟨ret_bool HN.out.symm, bel2 B3.out BL.out⟩
      · have HN : Hid (R = false) := HFA.out (fun h => hq h.2.2)
        have hq2 : (((a.kids.length : Nat) : Int) != (((kids ns n).length : Nat) : Int)) = true := by rw [bne_iff_ne]; omega
        unfold Arr.val
        go_enter Tryz.func53, Tryz.ntmps53
        go_wp2_with fail
        refine HK.out.mono ?_
        rintro e w3 ⟨oK, cK, rfl, hown, b3⟩
        have B3 : Hid (Below w.heap.size w w3) := bel2 B2.out b3
        have HIK : Hid (IsI w3 w2.heap.size oK (kids ns n)) := own_ints hown
        have X3 : Hid (Bx w3 w1.heap.size a o cap) := X2.out.later b3
        have HC3 : Hid (w3.cell? ⟨w.heap.size, 0, none⟩ = some (.slice (some x) ns.length capT)) := cell_later b3 HCT.out
        have HL3 : Hid (Lies w3 x ns) := HLI.out.later B3.out
        have n0 := HL3.out.kind' n hn
        rw [HKD.out] at n0
        have cT3 := HC3.out
        have d0 := X3.out.c0
        have d1 := X3.out.c1
        have d2 := X3.out.c2
        have d3 := X3.out.c3
        have d4 := X3.out.c4
        have d5 := X3.out.c5
        have d6 := X3.out.c6
        clear b3 e1 e2 cT hown
        rw [HDV.out] at d5
        rw [HEV.out] at d4
        go_wp2
        go_ret
        exact ⟨ret_bool HN.out.symm, B3.out⟩
    · have HN : Hid (R = false) := HFA.out (fun h => he h.2.1)
      have hev := ne_empty he
      clear he
      unfold Arr.val
      go_enter Tryz.func53, Tryz.ntmps53
      go_wp2_with fail
      refine HK.out.mono ?_
      rintro e w3 ⟨oK, cK, rfl, hown, b3⟩
      have B3 : Hid (Below w.heap.size w w3) := bel2 B2.out b3
      have HIK : Hid (IsI w3 w2.heap.size oK (kids ns n)) := own_ints hown
      have X3 : Hid (Bx w3 w1.heap.size a o cap) := X2.out.later b3
      have HC3 : Hid (w3.cell? ⟨w.heap.size, 0, none⟩ = some (.slice (some x) ns.length capT)) := cell_later b3 HCT.out
      have HL3 : Hid (Lies w3 x ns) := HLI.out.later B3.out
      have n0 := HL3.out.kind' n hn
      rw [HKD.out] at n0
      have cT3 := HC3.out
      have d0 := X3.out.c0
      have d1 := X3.out.c1
      have d2 := X3.out.c2
      have d3 := X3.out.c3
      have d4 := X3.out.c4
      have d5 := X3.out.c5
      have d6 := X3.out.c6
      clear b3 e1 e2 cT hown
      rw [HDV.out] at d5
      go_wp2
      go_ret
      exact ⟨ret_bool HN.out.symm, B3.out⟩
  · have HN : Hid (R = false) := HFA.out (fun h => hd h.1)
    have hdv := ne_empty hd
    clear hd
    unfold Arr.val
    go_enter Tryz.func53, Tryz.ntmps53
    go_wp2_with fail
    refine HK.out.mono ?_
    rintro e w3 ⟨oK, cK, rfl, hown, b3⟩
    have B3 : Hid (Below w.heap.size w w3) := bel2 B2.out b3
    have HIK : Hid (IsI w3 w2.heap.size oK (kids ns n)) := own_ints hown
    have X3 : Hid (Bx w3 w1.heap.size a o cap) := X2.out.later b3
    have HC3 : Hid (w3.cell? ⟨w.heap.size, 0, none⟩ = some (.slice (some x) ns.length capT)) := cell_later b3 HCT.out
    have HL3 : Hid (Lies w3 x ns) := HLI.out.later B3.out
    have n0 := HL3.out.kind' n hn
    rw [HKD.out] at n0
    have cT3 := HC3.out
    have d0 := X3.out.c0
    have d1 := X3.out.c1
    have d2 := X3.out.c2
    have d3 := X3.out.c3
    have d4 := X3.out.c4
    have d5 := X3.out.c5
    have d6 := X3.out.c6
    clear b3 e1 e2 cT hown
    go_wp2
    go_ret
    exact ⟨ret_bool HN.out.symm, B3.out⟩
theorem refPlain (B bytes f : Nat) (ih : RefC B bytes f) (ns : List Nd) (oT : Option Addr) (capT n : Nat) (hn : n < ns.length) (hm : may ns = true) (a : Arr) (o : Option Addr) (cap : Nat) (ho : Ok a) (w : World) (ht : IsT w oT ns) (hH : HoldsF B bytes w (f + 1) (a.cells o cap) a) :
    Calls Tryz.prog 53 #[.agg #[.slice oT ns.length capT], .int .i64 (n : Int), a.val o cap, .int .i64 ((rowsOf a : Nat) : Int)] w fun r w' => r = .returned (.bool (plainB (mayF ns f) ns n a)) ∧ Below w.heap.size w w' := by
  have hk := (may_of hm).kind n hn
  rcases (show (nd ns n).kind = 0 ∨ (nd ns n).kind = 1 ∨ (nd ns n).kind = 2 ∨ (nd ns n).kind = 3 ∨ (nd ns n).kind = 4 from by omega) with c | c | c | c | c
  · exact refInt f ns oT capT n hn hm a o cap ho c w ht
  · exact refBool f ns oT capT n hn hm a o cap ho c w ht
  · exact refBytes f ns oT capT n hn hm a o cap ho c w ht
  · exact refList f B bytes ih ns oT capT n hn hm a o cap ho c w ht hH
  · exact refStruct f B bytes ih ns oT capT n hn hm a o cap ho c w ht hH
end Go.Proofs.YtcpfhfdgfcilaaaGreatDoor.Arr
namespace Go.Proofs.YtcpfhfdgfcilaaaGreatDoor.Arr
open Go.ChangeShapes Go.WideShapes Go.ChangeAt Go.RowKit
open Tree Val

set_option maxRecDepth 20000 in
set_option maxHeartbeats 3200000 in
theorem ref_no (ns : List Nd) (oT : Option Addr) (capT : Nat) (at' : Int) (a : Arr) (o : Option Addr) (cap : Nat) (w : World) (ht : IsT w oT ns) (hb : hasB ns at' = false) :
    Calls Tryz.prog 23 #[.agg #[.slice oT ns.length capT], .int .i64 at', a.val o cap] w fun r w' => r = .returned (.bool false) ∧ Below w.heap.size w w' := by
  obtain ⟨w1, e1, s1, c1, b1⟩ := boxed w (.slice oT ns.length capT) 24
  obtain ⟨w2, e2, x2, b2, z2⟩ := box7 w1 a o cap
  have B2 : Hid (Below w.heap.size w w2) := bel2 b1 b2
  have cT := cell_later b2 c1
  have HK : Hid (Calls Tryz.prog 51 #[.agg #[.slice oT ns.length capT], .int .i64 at'] w2 fun r w' => r = .returned (.bool (hasB ns at')) ∧ Below w2.heap.size w2 w') := nodeMay oT capT ns at' w2 (ht.later B2.out)
  have X2 : Hid (Bx w2 w1.heap.size a o cap) := x2
  clear s1 c1 b1 b2 x2 z2
  rw [hb] at HK
  clear ht hb
  unfold Arr.val
  go_enter Tryz.func23, Tryz.ntmps23
  go_wp2_with fail
  refine HK.out.mono ?_
  rintro e w3 ⟨rfl, b3⟩
  have B3 : Hid (Below w.heap.size w w3) := bel2 B2.out b3
  have BB : Hid (Below w2.heap.size w2 w3) := b3
  have X3 : Hid (Bx w3 w1.heap.size a o cap) := X2.out.later b3
  have d0 := X3.out.c0
  have d1 := X3.out.c1
  have d2 := X3.out.c2
  have d3 := X3.out.c3
  have d4 := X3.out.c4
  have d5 := X3.out.c5
  have d6 := X3.out.c6
  clear b3 e1 e2
  go_wp2
  go_ret
  exact ⟨rfl, B3.out⟩
set_option maxRecDepth 20000 in
set_option maxHeartbeats 3200000 in
theorem ref_head (ns : List Nd) (oT : Option Addr) (capT : Nat) (at' : Int) (a : Arr) (o : Option Addr) (cap : Nat) (w : World) (ht : IsT w oT ns) (hb : hasB ns at' = true) (h0 : hasRowsB a = false ∨ shortsOf a.valid a.ends a.data = false) :
    Calls Tryz.prog 23 #[.agg #[.slice oT ns.length capT], .int .i64 at', a.val o cap] w fun r w' => r = .returned (.bool false) ∧ Below w.heap.size w w' := by
  obtain ⟨w1, e1, s1, c1, b1⟩ := boxed w (.slice oT ns.length capT) 24
  obtain ⟨w2, e2, x2, b2, z2⟩ := box7 w1 a o cap
  have B2 : Hid (Below w.heap.size w w2) := bel2 b1 b2
  have cT := cell_later b2 c1
  have HK : Hid (Calls Tryz.prog 51 #[.agg #[.slice oT ns.length capT], .int .i64 at'] w2 fun r w' => r = .returned (.bool (hasB ns at')) ∧ Below w2.heap.size w2 w') := nodeMay oT capT ns at' w2 (ht.later B2.out)
  have X2 : Hid (Bx w2 w1.heap.size a o cap) := x2
  clear s1 c1 b1 b2 x2 z2
  rw [hb] at HK
  clear ht hb
  have HH : Hid (¬ (0 ≤ a.offset ∧ 0 ≤ a.length ∧ a.offset + a.length ≤ 64 ∧ a.valid.size ≤ 4096 ∧ a.ends.size ≤ 4096 ∧ a.data.size ≤ 4096)) := by
    rintro ⟨q1, q2, q3, q4, q5, q6⟩
    rcases h0 with h | h
    · unfold hasRowsB at h
      rw [decide_eq_true ⟨q1, q2, q3⟩] at h
      cases h
    · unfold shortsOf at h
      rw [decide_eq_true q4, decide_eq_true q5, decide_eq_true q6] at h
      cases h
  clear h0
  unfold Arr.val
  go_enter Tryz.func23, Tryz.ntmps23
  go_wp2_with fail
  refine HK.out.mono ?_
  rintro e w3 ⟨rfl, b3⟩
  have B3 : Hid (Below w.heap.size w w3) := bel2 B2.out b3
  have BB : Hid (Below w2.heap.size w2 w3) := b3
  have X3 : Hid (Bx w3 w1.heap.size a o cap) := X2.out.later b3
  have d0 := X3.out.c0
  have d1 := X3.out.c1
  have d2 := X3.out.c2
  have d3 := X3.out.c3
  have d4 := X3.out.c4
  have d5 := X3.out.c5
  have d6 := X3.out.c6
  clear b3 e1 e2
  generalize a.offset = p at *
  generalize a.length = q at *
  by_cases g1 : p < 0
  · go_wp2
    go_ret
    exact ⟨rfl, B3.out⟩
  by_cases g2 : q < 0
  · go_wp2
    go_ret
    exact ⟨rfl, B3.out⟩
  by_cases g3 : 64 < p
  · go_wp2
    go_ret
    exact ⟨rfl, B3.out⟩
  have hw : IntKind.i64.wrap (64 - p) = 64 - p := by rw [IntKind.wrap_i64]; omega
  by_cases g4 : 64 - p < q
  · go_wp2
    go_ret
    exact ⟨rfl, B3.out⟩
  by_cases g5 : 4096 < ((a.valid.size : Nat) : Int)
  · go_wp2
    go_ret
    exact ⟨rfl, B3.out⟩
  by_cases g6 : 4096 < ((a.ends.size : Nat) : Int)
  · go_wp2
    go_ret
    exact ⟨rfl, B3.out⟩
  have g7 : 4096 < ((a.data.size : Nat) : Int) := by
    by_cases c : 4096 < ((a.data.size : Nat) : Int)
    · exact c
    · exact absurd ⟨by omega, by omega, by omega, by omega, by omega, by omega⟩ HH.out
  go_wp2
  go_ret
  exact ⟨rfl, B3.out⟩
end Go.Proofs.YtcpfhfdgfcilaaaGreatDoor.Arr
namespace Go.Proofs.YtcpfhfdgfcilaaaGreatDoor.Arr
open Go.ChangeShapes Go.WideShapes Go.ChangeAt Go.RowKit
open Tree Val

set_option maxRecDepth 20000 in
set_option maxHeartbeats 3200000 in
theorem ref_lack (ns : List Nd) (oT : Option Addr) (capT n : Nat) (a : Arr) (o : Option Addr) (cap : Nat) (w : World) (ht : IsT w oT ns) (hn : n < ns.length) (hm : may ns = true) (ho : Ok a) (h2 : lackB (nd ns n).null a = false) :
    Calls Tryz.prog 23 #[.agg #[.slice oT ns.length capT], .int .i64 (n : Int), a.val o cap] w fun r w' => r = .returned (.bool false) ∧ Below w.heap.size w w' := by
  obtain ⟨w1, e1, s1, c1, b1⟩ := boxed w (.slice oT ns.length capT) 24
  obtain ⟨w2, e2, x2, b2, z2⟩ := box7 w1 a o cap
  obtain ⟨x, rfl, hl⟩ := ht.some (by omega)
  have hB : hasB ns (n : Int) = true := by unfold hasB; rw [hm, decide_eq_true (by omega)]; rfl
  have B2 : Hid (Below w.heap.size w w2) := bel2 b1 b2
  have cT := cell_later b2 c1
  have HCT : Hid (w2.cell? ⟨w.heap.size, 0, none⟩ = some (.slice (some x) ns.length capT)) := cT
  have HK : Hid (Calls Tryz.prog 51 #[.agg #[.slice (some x) ns.length capT], .int .i64 (n : Int)] w2 fun r w' => r = .returned (.bool true) ∧ Below w2.heap.size w2 w') := by
    have := nodeMay (some x) capT ns (n : Int) w2 (ht.later B2.out)
    rw [hB] at this
    exact this
  have X2 : Hid (Bx w2 w1.heap.size a o cap) := x2
  have HLI : Hid (Lies w x ns) := hl
  have hrow : rowsOf a ≤ 64 := by have := ho.rows; have := ho.off; have := ho.len; unfold rowsOf; omega
  have g1 := ho.off
  have g2 := ho.len
  have g3 := ho.rows
  have g4 : ((a.valid.size : Nat) : Int) ≤ 4096 := by have := ho.valid; omega
  have g5 : ((a.ends.size : Nat) : Int) ≤ 4096 := by have := ho.ends; omega
  have g6 : ((a.data.size : Nat) : Int) ≤ 4096 := by have := ho.data; omega
  have g7 : a.offset ≤ 64 := by omega
  have g8 : a.length ≤ 64 - a.offset := by omega
  have HSUM : Hid (a.offset + a.length = ((rowsOf a : Nat) : Int)) := by unfold Hid rowsOf; omega
  have j0 : (0 : Int) ≤ (n : Int) := Int.natCast_nonneg _
  have j1 : (n : Int) < (ns.length : Int) := by omega
  clear s1 c1 b1 b2 x2 z2 hB ht hl ho
  unfold Arr.val
  go_enter Tryz.func23, Tryz.ntmps23
  go_wp2_with fail
  refine HK.out.mono ?_
  rintro e w3 ⟨rfl, b3⟩
  have B3 : Hid (Below w.heap.size w w3) := bel2 B2.out b3
  have BB : Hid (Below w2.heap.size w2 w3) := b3
  have X3 : Hid (Bx w3 w1.heap.size a o cap) := X2.out.later b3
  have d0 := X3.out.c0
  have d1 := X3.out.c1
  have d2 := X3.out.c2
  have d3 := X3.out.c3
  have d4 := X3.out.c4
  have d5 := X3.out.c5
  have d6 := X3.out.c6
  clear b3 e1 e2
  have cT3 := cell_later BB.out HCT.out
  have HC3 : Hid (w3.cell? ⟨w.heap.size, 0, none⟩ = some (.slice (some x) ns.length capT)) := cT3
  have HL3 : Hid (Lies w3 x ns) := HLI.out.later B3.out
  go_wp2_with fail
  rw [HSUM.out]
  have hne := BW.some w3
  have C := X3.out.cells
  clear d0 d1 d2 d3 d4 d5 d6
  have d0 := C.d0
  have d1 := C.d1
  have d2 := C.d2
  have d3 := C.d3
  have d4 := C.d4
  have d5 := C.d5
  have d6 := C.d6
  have tT : ∀ s : BW w3, s.w.cell? ⟨w.heap.size, 0, none⟩ = some (.slice (some x) ns.length capT) := fun s => cell_later s.ok HC3.out
  have n2 : ∀ s : BW w3, s.w.cell? { block := (x.add (n * 3)).block, off := (x.add (n * 3)).off + 2 } = some (.bool (nd ns n).null) := fun s => (HL3.out.later s.ok).null' n hn
  clear C
  have HBB : Hid (∀ v, Calls Tryz.prog 52 #[.int .i64 ((rowsOf a : Nat) : Int)] v fun e w' => e = .returned (.int .i64 ((((rowsOf a : Nat) : Int) + 7) / 8)) ∧ w' = v) := fun v => Bit.bitBytes _ v (by omega) (by omega)
  by_cases hv : a.valid.size = 0
  · have hvv := empty_of hv
    exfalso
    unfold lackB at h2
    rw [decide_eq_true hv] at h2
    cases h2
  · have hev := ne_empty hv
    cases hnu : (nd ns n).null
    · rw [hnu] at n2
      clear hnu
      refine region_in (C := fun w' => ∃ s : BW w3, w' = s.w) (by kernel_rfl) (by kernel_rfl) ⟨⟨w3.drew, (Below.refl _ _).drew⟩, rfl⟩ ?_
      repeat (go_big_quiet_step (first
        | (go_at_call 52; rename_i s; refine (HBB.out s.w).mono ?_; rintro e wx ⟨rfl, hbx⟩; exact ⟨rfl, s, hbx⟩)))
      refine wpQuiet_nil ?_
      intro _ hw'
      obtain ⟨s, hw''⟩ := hw'
      subst hw''
      have HE4 : Hid (Below w3.heap.size w3 s.w) := s.ok
      clear hne d0 d1 d2 d3 d4 d5 d6 tT n2
      go_wp2
      go_ret
      exact ⟨rfl, bel2 B3.out HE4.out⟩
    · rw [hnu] at n2
      have hsz : ((a.valid.size : Nat) : Int) < (((rowsOf a : Nat) : Int) + 7) / 8 := by
        unfold lackB at h2
        rw [decide_eq_false hv, hnu, Bool.false_or, Bool.true_and, decide_eq_false_iff_not] at h2
        omega
      clear hnu hv
      refine region_in (C := fun w' => ∃ s : BW w3, w' = s.w) (by kernel_rfl) (by kernel_rfl) ⟨⟨w3.drew, (Below.refl _ _).drew⟩, rfl⟩ ?_
      repeat (go_big_quiet_step (first
        | (go_at_call 52; rename_i s; refine (HBB.out s.w).mono ?_; rintro e wx ⟨rfl, hbx⟩; exact ⟨rfl, s, hbx⟩)))
      refine wpQuiet_nil ?_
      intro _ hw'
      obtain ⟨s, hw''⟩ := hw'
      subst hw''
      have HE4 : Hid (Below w3.heap.size w3 s.w) := s.ok
      clear hne d0 d1 d2 d3 d4 d5 d6 tT n2
      go_wp2
      go_ret
      exact ⟨rfl, bel2 B3.out HE4.out⟩
set_option maxRecDepth 20000 in
set_option maxHeartbeats 3200000 in
theorem ref_plain0 (B bytes f : Nat) (ih : Hid (RefC B bytes f)) (ns : List Nd) (oT : Option Addr) (capT n : Nat) (a : Arr) (o : Option Addr) (cap : Nat) (w : World) (ht : IsT w oT ns) (hn : n < ns.length) (hm : may ns = true) (hH : Hid (HoldsF B bytes w (f + 1) (a.cells o cap) a)) (ho : Ok a) (h2 : lackB (nd ns n).null a = true) (c0 : a.layout = 0) :
    Calls Tryz.prog 23 #[.agg #[.slice oT ns.length capT], .int .i64 (n : Int), a.val o cap] w fun r w' => r = .returned (.bool (plainB (mayF ns f) ns n a)) ∧ Below w.heap.size w w' := by
  obtain ⟨w1, e1, s1, c1, b1⟩ := boxed w (.slice oT ns.length capT) 24
  obtain ⟨w2, e2, x2, b2, z2⟩ := box7 w1 a o cap
  obtain ⟨x, rfl, hl⟩ := ht.some (by omega)
  have hB : hasB ns (n : Int) = true := by unfold hasB; rw [hm, decide_eq_true (by omega)]; rfl
  have B2 : Hid (Below w.heap.size w w2) := bel2 b1 b2
  have cT := cell_later b2 c1
  have HCT : Hid (w2.cell? ⟨w.heap.size, 0, none⟩ = some (.slice (some x) ns.length capT)) := cT
  have HK : Hid (Calls Tryz.prog 51 #[.agg #[.slice (some x) ns.length capT], .int .i64 (n : Int)] w2 fun r w' => r = .returned (.bool true) ∧ Below w2.heap.size w2 w') := by
    have := nodeMay (some x) capT ns (n : Int) w2 (ht.later B2.out)
    rw [hB] at this
    exact this
  have X2 : Hid (Bx w2 w1.heap.size a o cap) := x2
  have HT : Hid (IsT w (some x) ns) := ht
  have HLI : Hid (Lies w x ns) := hl
  have HOK : Hid (Ok a) := ho
  have hrow : rowsOf a ≤ 64 := by have := ho.rows; have := ho.off; have := ho.len; unfold rowsOf; omega
  have g1 := ho.off
  have g2 := ho.len
  have g3 := ho.rows
  have g4 : ((a.valid.size : Nat) : Int) ≤ 4096 := by have := ho.valid; omega
  have g5 : ((a.ends.size : Nat) : Int) ≤ 4096 := by have := ho.ends; omega
  have g6 : ((a.data.size : Nat) : Int) ≤ 4096 := by have := ho.data; omega
  have g7 : a.offset ≤ 64 := by omega
  have g8 : a.length ≤ 64 - a.offset := by omega
  have HSUM : Hid (a.offset + a.length = ((rowsOf a : Nat) : Int)) := by unfold Hid rowsOf; omega
  have j0 : (0 : Int) ≤ (n : Int) := Int.natCast_nonneg _
  have j1 : (n : Int) < (ns.length : Int) := by omega
  clear s1 c1 b1 b2 x2 z2 hB ht hl ho
  have HC0 : Hid (a.layout = 0) := c0
  have HPl : Hid (∀ v, Below w.heap.size w v → Calls Tryz.prog 53 #[.agg #[.slice (some x) ns.length capT], .int .i64 (n : Int), a.val o cap, .int .i64 ((rowsOf a : Nat) : Int)] v fun r w' => r = .returned (.bool (plainB (mayF ns f) ns n a)) ∧ Below v.heap.size v w') := fun v hv => refPlain B bytes f ih.out ns (some x) capT n hn hm a o cap HOK.out v (HT.out.later hv) (hH.out.later hv)
  unfold Arr.val at HPl
  rw [c0] at HPl
  clear c0
  unfold Arr.val
  go_enter Tryz.func23, Tryz.ntmps23
  go_wp2_with fail
  refine HK.out.mono ?_
  rintro e w3 ⟨rfl, b3⟩
  have B3 : Hid (Below w.heap.size w w3) := bel2 B2.out b3
  have BB : Hid (Below w2.heap.size w2 w3) := b3
  have X3 : Hid (Bx w3 w1.heap.size a o cap) := X2.out.later b3
  have d0 := X3.out.c0
  have d1 := X3.out.c1
  have d2 := X3.out.c2
  have d3 := X3.out.c3
  have d4 := X3.out.c4
  have d5 := X3.out.c5
  have d6 := X3.out.c6
  clear b3 e1 e2
  have cT3 := cell_later BB.out HCT.out
  have HC3 : Hid (w3.cell? ⟨w.heap.size, 0, none⟩ = some (.slice (some x) ns.length capT)) := cT3
  have HL3 : Hid (Lies w3 x ns) := HLI.out.later B3.out
  go_wp2_with fail
  rw [HSUM.out]
  have hne := BW.some w3
  have C := X3.out.cells
  have HRAW : Hid (Cells w3 w1.heap.size a o cap) := C
  clear d0 d1 d2 d3 d4 d5 d6
  have d0 := C.d0
  have d1 := C.d1
  have d2 := C.d2
  have d3 := C.d3
  have d4 := C.d4
  have d5 := C.d5
  have d6 := C.d6
  have tT : ∀ s : BW w3, s.w.cell? ⟨w.heap.size, 0, none⟩ = some (.slice (some x) ns.length capT) := fun s => cell_later s.ok HC3.out
  have n2 : ∀ s : BW w3, s.w.cell? { block := (x.add (n * 3)).block, off := (x.add (n * 3)).off + 2 } = some (.bool (nd ns n).null) := fun s => (HL3.out.later s.ok).null' n hn
  clear C
  have HBB : Hid (∀ v, Calls Tryz.prog 52 #[.int .i64 ((rowsOf a : Nat) : Int)] v fun e w' => e = .returned (.int .i64 ((((rowsOf a : Nat) : Int) + 7) / 8)) ∧ w' = v) := fun v => Bit.bitBytes _ v (by omega) (by omega)
  by_cases hv : a.valid.size = 0
  · have hvv := empty_of hv
    rw [hvv] at d3
    clear hv hvv
    refine region_in (C := fun w' => ∃ s : BW w3, w' = s.w) (by kernel_rfl) (by kernel_rfl) ⟨⟨w3.drew, (Below.refl _ _).drew⟩, rfl⟩ ?_
    repeat (go_big_quiet_step (first
      | (go_at_call 52; rename_i s; refine (HBB.out s.w).mono ?_; rintro e wx ⟨rfl, hbx⟩; exact ⟨rfl, s, hbx⟩)))
    refine wpQuiet_nil ?_
    intro _ hw'
    obtain ⟨s, hw''⟩ := hw'
    subst hw''
    have HE4 : Hid (Below w3.heap.size w3 s.w) := s.ok
    clear hne d0 d1 d2 d3 d4 d5 d6 tT n2
    have B4 : Hid (Below w.heap.size w s.w) := bel2 B3.out HE4.out
    have X4 := X3.out.later HE4.out
    have cT4 := cell_later HE4.out HC3.out
    generalize s.w = w4 at *
    have d0 := X4.c0
    have d1 := X4.c1
    have d2 := X4.c2
    have d3 := X4.c3
    have d4 := X4.c4
    have d5 := X4.c5
    have d6 := X4.c6
    rw [HC0.out] at d0
    clear X4
    go_wp2_with fail
    refine (HPl.out w4 B4.out).mono ?_
    rintro e w5 ⟨rfl, b5⟩
    go_wp2
    go_ret
    exact ⟨rfl, bel2 B4.out b5⟩
  · have hev := ne_empty hv
    cases hnu : (nd ns n).null
    · rw [hnu] at n2
      exfalso
      unfold lackB at h2
      rw [decide_eq_false hv, hnu] at h2
      cases h2
    · rw [hnu] at n2
      have hsz : ¬ ((a.valid.size : Nat) : Int) < (((rowsOf a : Nat) : Int) + 7) / 8 := by
        unfold lackB at h2
        rw [decide_eq_false hv, hnu, Bool.false_or, Bool.true_and, decide_eq_true_eq] at h2
        omega
      clear hnu hv
      refine region_in (C := fun w' => ∃ s : BW w3, w' = s.w) (by kernel_rfl) (by kernel_rfl) ⟨⟨w3.drew, (Below.refl _ _).drew⟩, rfl⟩ ?_
      repeat (go_big_quiet_step (first
        | (go_at_call 52; rename_i s; refine (HBB.out s.w).mono ?_; rintro e wx ⟨rfl, hbx⟩; exact ⟨rfl, s, hbx⟩)))
      refine wpQuiet_nil ?_
      intro _ hw'
      obtain ⟨s, hw''⟩ := hw'
      subst hw''
      have HE4 : Hid (Below w3.heap.size w3 s.w) := s.ok
      clear hne d0 d1 d2 d3 d4 d5 d6 tT n2
      have B4 : Hid (Below w.heap.size w s.w) := bel2 B3.out HE4.out
      have X4 := X3.out.later HE4.out
      have cT4 := cell_later HE4.out HC3.out
      generalize s.w = w4 at *
      have d0 := X4.c0
      have d1 := X4.c1
      have d2 := X4.c2
      have d3 := X4.c3
      have d4 := X4.c4
      have d5 := X4.c5
      have d6 := X4.c6
      rw [HC0.out] at d0
      clear X4
      go_wp2_with fail
      refine (HPl.out w4 B4.out).mono ?_
      rintro e w5 ⟨rfl, b5⟩
      go_wp2
      go_ret
      exact ⟨rfl, bel2 B4.out b5⟩
end Go.Proofs.YtcpfhfdgfcilaaaGreatDoor.Arr
