/-
  Several texts in one: The document's ArrayMay of arrays by a dictionary, by runs: contract. · The document's ArrayMay, of any array: contract. · The same array, wherever it lies: SameArray: contract.
-/
import Derived.Test.YtcpfhfdgfcilaaaGreatDoorB10
namespace Go.Proofs.YtcpfhfdgfcilaaaGreatDoor.Arr
open Go.ChangeShapes Go.WideShapes Go.ChangeAt Go.RowKit
open Tree Val

theorem runB_iff {a : Arr} : runB a = true ↔ a.valid.size = 0 ∧ (a.data.size : Int) = 4 * (kidAt a 0).length ∧ (∀ i, i < (kidAt a 0).length.toNat → has4 a.data i = true ∧ prev a.data i < endAt a.data i) ∧ rowsOf a ≤ prev a.data (kidAt a 0).length.toNat := by
  unfold runB
  simp only [Bool.and_eq_true, decide_eq_true_eq, List.all_eq_true, List.mem_range]
  constructor
  · rintro ⟨⟨⟨h1, h2⟩, h3⟩, h4⟩
    exact ⟨h1, h2, h3, h4⟩
  · rintro ⟨h1, h2, h3, h4⟩
    exact ⟨⟨⟨h1, h2⟩, h3⟩, h4⟩
set_option maxRecDepth 20000 in
set_option maxHeartbeats 3200000 in
theorem ref_lay (B bytes f : Nat) (ih : Hid (RefC B bytes f)) (ns : List Nd) (oT : Option Addr) (capT n : Nat) (a : Arr) (o : Option Addr) (cap : Nat) (w : World) (ht : IsT w oT ns) (hn : n < ns.length) (hm : may ns = true) (hH : Hid (HoldsF B bytes w (f + 1) (a.cells o cap) a)) (ho : Ok a) (h2 : lackB (nd ns n).null a = true) (c0 : a.layout ≠ 0) (R : Bool) (hR : Hid (R = true ↔ (Tree.isLeaf (nd ns n).kind = true ∧ a.kids.length = 1 ∧ a.ends.size = 0 ∧ (kidAt a 0).layout = 0 ∧ mayF ns f n (kidAt a 0) = true) ∧ (a.layout = 1 ∧ dictB a = true ∨ a.layout = 2 ∧ runB a = true))) :
    Calls Tryz.prog 23 #[.agg #[.slice oT ns.length capT], .int .i64 (n : Int), a.val o cap] w fun r w' => r = .returned (.bool R) ∧ Below w.heap.size w w' := by
  obtain ⟨w1, e1, s1, c1, b1⟩ := boxed w (.slice oT ns.length capT) 24
  obtain ⟨w2, e2, x2, b2, z2⟩ := box7 w1 a o cap
  obtain ⟨x, rfl, hl⟩ := ht.some (by omega)
  have hB : hasB ns (n : Int) = true := by unfold hasB; rw [hm, decide_eq_true (by omega)]; rfl
  have B2 : Hid (Below w.heap.size w w2) := bel2 b1 b2
  have cT := cell_later b2 c1
  have HCT : Hid (w2.cell? ⟨w.heap.size, 0, none⟩ = some (.slice (some x) ns.length capT)) := cT
  have HK : Hid (Calls Tryz.prog 51 #[.agg #[.slice (some x) ns.length capT], .int .i64 (n : Int)] w2 fun r w' => r = .returned (.bool true) ∧ Below w2.heap.size w2 w') := by
    have := nodeMay (some x) capT ns (n : Int) w2 (ht.later B2.out)
    rw [hB] at this
    exact this
  have X2 : Hid (Bx w2 w1.heap.size a o cap) := x2
  have HT : Hid (IsT w (some x) ns) := ht
  have HLI : Hid (Lies w x ns) := hl
  have HOK : Hid (Ok a) := ho
  have hrow : rowsOf a ≤ 64 := by have := ho.rows; have := ho.off; have := ho.len; unfold rowsOf; omega
  have g1 := ho.off
  have g2 := ho.len
  have g3 := ho.rows
  have g4 : ((a.valid.size : Nat) : Int) ≤ 4096 := by have := ho.valid; omega
  have g5 : ((a.ends.size : Nat) : Int) ≤ 4096 := by have := ho.ends; omega
  have g6 : ((a.data.size : Nat) : Int) ≤ 4096 := by have := ho.data; omega
  have g7 : a.offset ≤ 64 := by omega
  have g8 : a.length ≤ 64 - a.offset := by omega
  have HSUM : Hid (a.offset + a.length = ((rowsOf a : Nat) : Int)) := by unfold Hid rowsOf; omega
  have j0 : (0 : Int) ≤ (n : Int) := Int.natCast_nonneg _
  have j1 : (n : Int) < (ns.length : Int) := by omega
  clear s1 c1 b1 b2 x2 z2 hB ht hl ho
  have HC0 : Hid (a.layout ≠ 0) := c0
  have HLf : Hid (∀ v, Calls Tryz.prog 54 #[.int .i64 (nd ns n).kind] v fun r w' => r = .returned (.bool (Tree.isLeaf (nd ns n).kind)) ∧ w' = v) := fun v => refLeaf _ v
  have HFA : Hid (¬ (Tree.isLeaf (nd ns n).kind = true ∧ a.kids.length = 1 ∧ a.ends.size = 0 ∧ (kidAt a 0).layout = 0 ∧ mayF ns f n (kidAt a 0) = true) → R = false) := fun h => by
    cases c : R
    · rfl
    · exact absurd (hR.out.1 c).1 h
  clear c0
  unfold Arr.val
  go_enter Tryz.func23, Tryz.ntmps23
  go_wp2_with fail
  refine HK.out.mono ?_
  rintro e w3 ⟨rfl, b3⟩
  have B3 : Hid (Below w.heap.size w w3) := bel2 B2.out b3
  have BB : Hid (Below w2.heap.size w2 w3) := b3
  have X3 : Hid (Bx w3 w1.heap.size a o cap) := X2.out.later b3
  have d0 := X3.out.c0
  have d1 := X3.out.c1
  have d2 := X3.out.c2
  have d3 := X3.out.c3
  have d4 := X3.out.c4
  have d5 := X3.out.c5
  have d6 := X3.out.c6
  clear b3 e1 e2
  have cT3 := cell_later BB.out HCT.out
  have HC3 : Hid (w3.cell? ⟨w.heap.size, 0, none⟩ = some (.slice (some x) ns.length capT)) := cT3
  have HL3 : Hid (Lies w3 x ns) := HLI.out.later B3.out
  go_wp2_with fail
  rw [HSUM.out]
  have hne := BW.some w3
  have C := X3.out.cells
  have HRAW : Hid (Cells w3 w1.heap.size a o cap) := C
  clear d0 d1 d2 d3 d4 d5 d6
  have d0 := C.d0
  have d1 := C.d1
  have d2 := C.d2
  have d3 := C.d3
  have d4 := C.d4
  have d5 := C.d5
  have d6 := C.d6
  have tT : ∀ s : BW w3, s.w.cell? ⟨w.heap.size, 0, none⟩ = some (.slice (some x) ns.length capT) := fun s => cell_later s.ok HC3.out
  have n2 : ∀ s : BW w3, s.w.cell? { block := (x.add (n * 3)).block, off := (x.add (n * 3)).off + 2 } = some (.bool (nd ns n).null) := fun s => (HL3.out.later s.ok).null' n hn
  clear C
  have HBB : Hid (∀ v, Calls Tryz.prog 52 #[.int .i64 ((rowsOf a : Nat) : Int)] v fun e w' => e = .returned (.int .i64 ((((rowsOf a : Nat) : Int) + 7) / 8)) ∧ w' = v) := fun v => Bit.bitBytes _ v (by omega) (by omega)
  by_cases hv : a.valid.size = 0
  · have hvv := empty_of hv
    rw [hvv] at d3
    clear hv hvv
    refine region_in (C := fun w' => ∃ s : BW w3, w' = s.w) (by kernel_rfl) (by kernel_rfl) ⟨⟨w3.drew, (Below.refl _ _).drew⟩, rfl⟩ ?_
    repeat (go_big_quiet_step (first
      | (go_at_call 52; rename_i s; refine (HBB.out s.w).mono ?_; rintro e wx ⟨rfl, hbx⟩; exact ⟨rfl, s, hbx⟩)))
    refine wpQuiet_nil ?_
    intro _ hw'
    obtain ⟨s, hw''⟩ := hw'
    subst hw''
    have HE4 : Hid (Below w3.heap.size w3 s.w) := s.ok
    clear hne d0 d1 d2 d3 d4 d5 d6 tT n2
    have B4 : Hid (Below w.heap.size w s.w) := bel2 B3.out HE4.out
    have X4 := X3.out.later HE4.out
    have d0 := X4.c0
    generalize s.w = w4 at *
    clear X4
    have q0 : (a.layout == 0) = false := by rw [beq_eq_false_iff_ne]; exact HC0.out
    go_wp2_with fail
    clear d0
    have hne := BW.some w4
    have C := (X3.out.later HE4.out).cells
    have d0 := C.d0
    have d1 := C.d1
    have d2 := C.d2
    have d3 := C.d3
    have d4 := C.d4
    have d5 := C.d5
    have d6 := C.d6
    have tT : ∀ s : BW w4, s.w.cell? ⟨w.heap.size, 0, none⟩ = some (.slice (some x) ns.length capT) := fun s => cell_later s.ok (cell_later HE4.out HC3.out)
    have n0 : ∀ s : BW w4, s.w.cell? (x.add (n * 3)) = some (.int .i64 (nd ns n).kind) := fun s => ((HL3.out.later HE4.out).later s.ok).kind' n hn
    clear C
    cases hlf : Tree.isLeaf (nd ns n).kind
    · rw [hlf] at HLf
      have HN : Hid (R = false) := HFA.out (fun h => by rw [hlf] at h; cases h.1)
      clear hlf
      refine region_in (C := fun w' => ∃ s : BW w4, w' = s.w) (by kernel_rfl) (by kernel_rfl) ⟨⟨w4.drew, (Below.refl _ _).drew⟩, rfl⟩ ?_
      repeat (go_big_quiet_step (first
        | (go_at_call 54; rename_i s; refine (HLf.out s.w).mono ?_; rintro e wx ⟨rfl, hbx⟩; exact ⟨rfl, s, hbx⟩)))
      refine wpQuiet_nil ?_
      intro _ hw'
      obtain ⟨s, hw''⟩ := hw'
      subst hw''
      have HE5 : Hid (Below w4.heap.size w4 s.w) := s.ok
      clear hne d0 d1 d2 d3 d4 d5 d6 tT n0
      go_wp2
      go_ret
      exact ⟨ret_bool HN.out.symm, bel2 B4.out HE5.out⟩
    rw [hlf] at HLf
    have HLL : Hid (Tree.isLeaf (nd ns n).kind = true) := hlf
    clear hlf
    by_cases hq : a.kids.length = 1
    case neg =>
      have HN : Hid (R = false) := HFA.out (fun h => hq h.2.1)
      have hq2 : (((a.kids.length : Nat) : Int) == 1) = false := by rw [beq_eq_false_iff_ne]; omega
      have hq3 : (((a.kids.length : Nat) : Int) != 1) = true := by rw [bne_iff_ne]; omega
      refine region_in (C := fun w' => ∃ s : BW w4, w' = s.w) (by kernel_rfl) (by kernel_rfl) ⟨⟨w4.drew, (Below.refl _ _).drew⟩, rfl⟩ ?_
      repeat (go_big_quiet_step (first
        | (go_at_call 54; rename_i s; refine (HLf.out s.w).mono ?_; rintro e wx ⟨rfl, hbx⟩; exact ⟨rfl, s, hbx⟩)))
      refine wpQuiet_nil ?_
      intro _ hw'
      obtain ⟨s, hw''⟩ := hw'
      subst hw''
      have HE5 : Hid (Below w4.heap.size w4 s.w) := s.ok
      clear hne d0 d1 d2 d3 d4 d5 d6 tT n0
      go_wp2
      go_ret
      exact ⟨ret_bool HN.out.symm, bel2 B4.out HE5.out⟩
    have HQ : Hid (a.kids.length = 1) := hq
    clear hq
    rw [HQ.out] at d6
    by_cases he : a.ends.size = 0
    case neg =>
      have HN : Hid (R = false) := HFA.out (fun h => he h.2.2.1)
      have hev := ne_empty he
      clear he
      refine region_in (C := fun w' => ∃ s : BW w4, w' = s.w) (by kernel_rfl) (by kernel_rfl) ⟨⟨w4.drew, (Below.refl _ _).drew⟩, rfl⟩ ?_
      repeat (go_big_quiet_step (first
        | (go_at_call 54; rename_i s; refine (HLf.out s.w).mono ?_; rintro e wx ⟨rfl, hbx⟩; exact ⟨rfl, s, hbx⟩)))
      refine wpQuiet_nil ?_
      intro _ hw'
      obtain ⟨s, hw''⟩ := hw'
      subst hw''
      have HE5 : Hid (Below w4.heap.size w4 s.w) := s.ok
      clear hne d0 d1 d2 d3 d4 d5 d6 tT n0
      go_wp2
      go_ret
      exact ⟨ret_bool HN.out.symm, bel2 B4.out HE5.out⟩
    have HE0 : Hid (a.ends.size = 0) := he
    have HEV : Hid (a.ends = ⟨#[]⟩) := empty_of he
    clear he
    rw [HEV.out] at d4
    obtain ⟨xk, ok, ck, ho', hkid, hkh⟩ := hH.out.kid (i := 0) (by rw [HQ.out]; omega)
    rw [add_zero] at hkid
    rw [ho'] at d6
    have HO' : Hid (o = some xk) := ho'
    have HKI : Hid (Kid w4 xk (kidAt a 0) ok ck) := hkid.later B4.out
    have KC := HKI.out.cells
    have k0 := KC.k0
    have k1 := KC.k1
    have k2 := KC.k2
    have k3 := KC.k3
    have k4 := KC.k4
    have k5 := KC.k5
    have k6 := KC.k6
    have HMM : Hid (∀ v, Below w4.heap.size w4 v → Calls Tryz.prog 23 #[.agg #[.slice (some x) ns.length capT], .int .i64 (n : Int), (kidAt a 0).val ok ck] v fun r w' => r = .returned (.bool (mayF ns f n (kidAt a 0))) ∧ Below v.heap.size v w') := fun v hv => by
      have := ih.out ns (some x) capT (n : Int) (kidAt a 0) ok ck v (HT.out.later (bel2 B4.out hv)) (hkh.later (bel2 B4.out hv))
      rw [mayZ_kid hm hn] at this
      exact this
    unfold Arr.val at HMM
    clear KC hkid hkh ho'
    by_cases hkl : (kidAt a 0).layout = 0
    case neg =>
      have HN : Hid (R = false) := HFA.out (fun h => hkl h.2.2.2.1)
      have hk2 : ((kidAt a 0).layout == 0) = false := by rw [beq_eq_false_iff_ne]; exact hkl
      have hk3 : ((kidAt a 0).layout != 0) = true := by rw [bne_iff_ne]; exact hkl
      refine region_in (C := fun w' => ∃ s : BW w4, w' = s.w) (by kernel_rfl) (by kernel_rfl) ⟨⟨w4.drew, (Below.refl _ _).drew⟩, rfl⟩ ?_
      repeat (go_big_quiet_step (first
        | (go_at_call 54; rename_i s; refine (HLf.out s.w).mono ?_; rintro e wx ⟨rfl, hbx⟩; exact ⟨rfl, s, hbx⟩)))
      refine wpQuiet_nil ?_
      intro _ hw'
      obtain ⟨s, hw''⟩ := hw'
      subst hw''
      have HE5 : Hid (Below w4.heap.size w4 s.w) := s.ok
      clear hne d0 d1 d2 d3 d4 d5 d6 tT n0 k0 k1 k2 k3 k4 k5 k6
      go_wp2
      go_ret
      exact ⟨ret_bool HN.out.symm, bel2 B4.out HE5.out⟩
    have HKL : Hid ((kidAt a 0).layout = 0) := hkl
    rw [hkl] at k0 HMM
    clear hkl
    cases hmk : mayF ns f n (kidAt a 0)
    · rw [hmk] at HMM
      have HN : Hid (R = false) := HFA.out (fun h => by rw [hmk] at h; cases h.2.2.2.2)
      clear hmk
      refine region_in (C := fun w' => ∃ s : BW w4, w' = s.w) (by kernel_rfl) (by kernel_rfl) ⟨⟨w4.drew, (Below.refl _ _).drew⟩, rfl⟩ ?_
      repeat (go_big_quiet_step (first
        | (go_at_call 54; rename_i s; refine (HLf.out s.w).mono ?_; rintro e wx ⟨rfl, hbx⟩; exact ⟨rfl, s, hbx⟩)
        | (go_at_call 23; rename_i s; refine (HMM.out s.w s.ok).mono ?_; rintro e wx ⟨rfl, hbx⟩; exact ⟨rfl, ⟨wx, bel2 s.ok hbx⟩, rfl⟩)))
      refine wpQuiet_nil ?_
      intro _ hw'
      obtain ⟨s, hw''⟩ := hw'
      subst hw''
      have HE5 : Hid (Below w4.heap.size w4 s.w) := s.ok
      clear hne d0 d1 d2 d3 d4 d5 d6 tT n0 k0 k1 k2 k3 k4 k5 k6
      go_wp2
      go_ret
      exact ⟨ret_bool HN.out.symm, bel2 B4.out HE5.out⟩
    rw [hmk] at HMM
    have HMK : Hid (mayF ns f n (kidAt a 0) = true) := hmk
    clear hmk
    refine region_in (C := fun w' => ∃ s : BW w4, w' = s.w) (by kernel_rfl) (by kernel_rfl) ⟨⟨w4.drew, (Below.refl _ _).drew⟩, rfl⟩ ?_
    repeat (go_big_quiet_step (first
      | (go_at_call 54; rename_i s; refine (HLf.out s.w).mono ?_; rintro e wx ⟨rfl, hbx⟩; exact ⟨rfl, s, hbx⟩)
      | (go_at_call 23; rename_i s; refine (HMM.out s.w s.ok).mono ?_; rintro e wx ⟨rfl, hbx⟩; exact ⟨rfl, ⟨wx, bel2 s.ok hbx⟩, rfl⟩)))
    refine wpQuiet_nil ?_
    intro _ hw'
    obtain ⟨s, hw''⟩ := hw'
    subst hw''
    have HE5 : Hid (Below w4.heap.size w4 s.w) := s.ok
    clear hne d0 d1 d2 d3 d4 d5 d6 tT n0 k0 k1 k2 k3 k4 k5 k6
    have B5 : Hid (Below w.heap.size w s.w) := bel2 B4.out HE5.out
    have X5 : Hid (Bx s.w w1.heap.size a o cap) := X3.out.later (bel2 HE4.out HE5.out)
    have K5 : Hid (Kid s.w xk (kidAt a 0) ok ck) := HKI.out.later HE5.out
    generalize s.w = w5 at *
    have d0 := X5.out.c0
    have d1 := X5.out.c1
    have d2 := X5.out.c2
    have d3 := X5.out.c3
    have d4 := X5.out.c4
    have d5 := X5.out.c5
    have d6 := X5.out.c6
    rw [HO'.out, HQ.out] at d6
    have k2 := K5.out.k2
    have k3 := K5.out.k3
    have hkl : 0 ≤ (kidAt a 0).length ∧ (kidAt a 0).length ≤ 64 := by
      have := mayZ_kid hm hn f (kidAt a 0)
      exact mayZ_len (this.trans HMK.out)
    obtain ⟨L, hL⟩ := Int.eq_ofNat_of_zero_le hkl.1
    have hL64 : L ≤ 64 := by omega
    have HLN : Hid ((kidAt a 0).length = (L : Int)) := hL
    have HLT : Hid ((kidAt a 0).length.toNat = L) := by unfold Hid; omega
    rw [HLN.out] at k2
    have HRR : Hid (R = true ↔ a.layout = 1 ∧ dictB a = true ∨ a.layout = 2 ∧ runB a = true) := by
      unfold Hid
      rw [hR.out]
      exact ⟨fun h => h.2, fun h => ⟨⟨HLL.out, HQ.out, HE0.out, HKL.out, HMK.out⟩, h⟩⟩
    have hds : a.data.size ≤ 4096 := HOK.out.data
    have hlack := lack_of h2
    have HLK : Hid (a.valid.size = 0 ∨ rowsOf a ≤ 8 * a.valid.size) := hlack
    clear hkl hL hlack HMM HLf HFA
    by_cases c1 : a.layout = 1
    · have HDI : Hid (R = true ↔ 4 * rowsOf a ≤ a.data.size ∧ (kidAt a 0).valid.size = 0 ∧ allD a (kidAt a 0).length a.offset.toNat (rowsOf a)) := by
        unfold Hid
        rw [HRR.out, ← dict_iff HOK.out]
        constructor
        · rintro (h | h)
          · exact h.2
          · omega
        · intro h
          exact .inl ⟨c1, h⟩
      have HNF : Hid (¬ (4 * rowsOf a ≤ a.data.size ∧ (kidAt a 0).valid.size = 0) → R = false) := fun h => by
        cases c : R
        · rfl
        · have := HDI.out.1 c
          exact absurd ⟨this.1, this.2.1⟩ h
      have q1 : (a.layout == 1) = true := by rw [c1]; rfl
      have hw4 : IntKind.i64.wrap (4 * ((rowsOf a : Nat) : Int)) = 4 * ((rowsOf a : Nat) : Int) := by rw [IntKind.wrap_i64]; omega
      have HC1 : Hid (a.layout = 1) := c1
      rw [HC1.out] at d0
      clear c1 q0 q1
      by_cases hd : 4 * rowsOf a ≤ a.data.size
      case neg =>
        have HN : Hid (R = false) := HNF.out (fun h => hd h.1)
        have hd2 : ((a.data.size : Nat) : Int) < 4 * ((rowsOf a : Nat) : Int) := by omega
        clear hd
        go_wp2
        go_ret
        exact ⟨ret_bool HN.out.symm, B5.out⟩
      have HD : Hid (4 * rowsOf a ≤ a.data.size) := hd
      have hd2 : ¬ ((a.data.size : Nat) : Int) < 4 * ((rowsOf a : Nat) : Int) := by omega
      clear hd
      by_cases hkv : (kidAt a 0).valid.size = 0
      case neg =>
        have HN : Hid (R = false) := HNF.out (fun h => hkv h.2)
        have hev := ne_empty hkv
        clear hkv
        go_wp2
        go_ret
        exact ⟨ret_bool HN.out.symm, B5.out⟩
      have HKV : Hid ((kidAt a 0).valid.size = 0) := hkv
      rw [empty_of hkv] at k3
      clear hkv
      have HOFF : Hid (a.offset = ((a.offset.toNat : Nat) : Int)) := by have := HOK.out.off; unfold Hid; omega
      rw [HOFF.out] at d1
      go_wp2_with fail
      go_loopw [9] (fun t wr => ∃ r : Nat, a.offset.toNat ≤ r ∧ r ≤ rowsOf a ∧ t = .int .i64 (r : Int) ∧ allD a (kidAt a 0).length a.offset.toNat r ∧ Below w5.heap.size w5 wr) (fun t _ => rowsOf a - (intOf t).toNat)
      case atStart => exact ⟨a.offset.toNat, Nat.le_refl _, by have := HOK.out.off; have := HOK.out.len; unfold rowsOf; omega, by congr 1; have := HOK.out.off; omega, fun i h1 h2 => by omega, Below.refl _ _⟩
      case round =>
        obtain ⟨r, hr1, hr2, rfl, hall, hbl⟩ := hrel
        have HA : Hid (allD a (kidAt a 0).length a.offset.toNat r) := hall
        have BL : Hid (Below w5.heap.size w5 wr) := hbl
        have Hr1 : Hid (a.offset.toNat ≤ r) := hr1
        have X6 := X5.out.later hbl
        clear hall hbl hr1 d0 d1 d2 d3 d4 d5 d6 k2 k3
        by_cases hlt : r < rowsOf a
        · have hlt2 : (r : Int) < ((rowsOf a : Nat) : Int) := by omega
          have HTH : Hid (∀ v, Calls Tryz.prog 56 #[a.val o cap, .int .i64 (r : Int)] v fun e w' => e = .returned (.bool (there a r)) ∧ Below v.heap.size v w') := fun v => refThere a o cap r HOK.out.valid (by have := HLK.out; omega) v
          have HRD : Hid (rowD a (kidAt a 0).length r = (!there a r || (has4 a.data r && decide ((endAt a.data r : Int) < (kidAt a 0).length)))) := rfl
          rw [HLN.out] at HRD
          have HRF : Hid (rowD a (kidAt a 0).length r = false → R = false) := fun h => by
            cases c : R
            · rfl
            · have := (HDI.out.1 c).2.2 r Hr1.out hlt
              rw [h] at this
              cases this
          have HST : Hid (rowD a (kidAt a 0).length r = true → allD a (kidAt a 0).length a.offset.toNat (r + 1)) := fun h i h1 h2 => by
            by_cases e : i = r
            · rw [e]; exact h
            · exact HA.out i h1 (by omega)
          rw [HLN.out] at HRF HST
          unfold Arr.val at HTH
          rw [HO'.out, HQ.out] at HTH
          have d0 := X6.c0
          have d1 := X6.c1
          have d2 := X6.c2
          have d3 := X6.c3
          have d4 := X6.c4
          have d5 := X6.c5
          have d6 := X6.c6
          rw [HO'.out, HQ.out] at d6
          clear X6
          cases hh : has4 a.data r
          · have HG : Hid (∀ v, Calls Tryz.prog 55 #[.string a.data, .int .i64 (4 * (r : Int)), .int .i64 4] v fun e w' => e = .returned (.tuple #[.int .i64 0, .int .i64 300]) ∧ w' = v) := fun v => refGet_not a.data r hds hh v
            rw [hh] at HRD
            clear hh
            generalize rowD a (L : Int) r = Q at *
            go_wp2_with fail
            refine (HG.out wr).mono ?_
            rintro e w6 ⟨rfl, h6⟩
            subst w6
            go_wp2_with fail
            refine (HTH.out wr).mono ?_
            rintro e w7 ⟨rfl, b7⟩
            have B7 : Hid (Below w5.heap.size w5 w7) := bel2 BL.out b7
            clear b7 d0 d1 d2 d3 d4 d5 d6
            cases hT : there a r
            · rw [hT] at HRD
              have HS : Hid (allD a (L : Int) a.offset.toNat (r + 1)) := HST.out HRD.out
              clear hT
              go_wp2
              go_roundw
              case rel => exact ⟨r + 1, by have := Hr1.out; omega, by omega, by go_num, by rw [HLN.out]; exact HS.out, B7.out⟩
              case measure => simp [intOf]; omega
            · rw [hT] at HRD
              have HN : Hid (R = false) := HRF.out HRD.out
              clear hT
              go_wp2
              go_ret
              exact ⟨ret_bool HN.out.symm, bel2 B5.out B7.out⟩
          · have HG : Hid (∀ v, Calls Tryz.prog 55 #[.string a.data, .int .i64 (4 * (r : Int)), .int .i64 4] v fun e w' => e = .returned (.tuple #[.int .i64 ((endAt a.data r : Nat) : Int), .int .i64 0]) ∧ w' = v) := fun v => refGet_yes a.data r hds hh v
            rw [hh] at HRD
            clear hh
            generalize rowD a (L : Int) r = Q at *
            generalize endAt a.data r = y at *
            go_wp2_with fail
            refine (HG.out wr).mono ?_
            rintro e w6 ⟨rfl, h6⟩
            subst w6
            go_wp2_with fail
            refine (HTH.out wr).mono ?_
            rintro e w7 ⟨rfl, b7⟩
            have B7 : Hid (Below w5.heap.size w5 w7) := bel2 BL.out b7
            clear b7 d0 d1 d2 d3 d4 d5 d6
            cases hT : there a r
            · rw [hT] at HRD
              have HS : Hid (allD a (L : Int) a.offset.toNat (r + 1)) := HST.out HRD.out
              clear hT
              go_wp2
              go_roundw
              case rel => exact ⟨r + 1, by have := Hr1.out; omega, by omega, by go_num, by rw [HLN.out]; exact HS.out, B7.out⟩
              case measure => simp [intOf]; omega
            · rw [hT] at HRD
              clear hT
              by_cases hy : (y : Int) < (L : Int)
              · have HS : Hid (allD a (L : Int) a.offset.toNat (r + 1)) := HST.out (by rw [HRD.out, decide_eq_true hy]; rfl)
                have hy2 : ¬ (L : Int) ≤ (y : Int) := by omega
                have hy3 : ¬ L ≤ y := by omega
                go_wp2
                go_roundw
                case rel => exact ⟨r + 1, by have := Hr1.out; omega, by omega, by go_num, by rw [HLN.out]; exact HS.out, B7.out⟩
                case measure => simp [intOf]; omega
              · have HN : Hid (R = false) := HRF.out (by rw [HRD.out, decide_eq_false hy]; rfl)
                have hy2 : (L : Int) ≤ (y : Int) := by omega
                have hy3 : L ≤ y := by omega
                go_wp2
                go_ret
                exact ⟨ret_bool HN.out.symm, bel2 B5.out B7.out⟩
        · obtain rfl : r = rowsOf a := by omega
          have HN : Hid (R = true) := HDI.out.2 ⟨HD.out, HKV.out, HA.out⟩
          generalize rowsOf a = m at *
          go_wp2
          go_ret
          exact ⟨ret_bool HN.out.symm, bel2 B5.out BL.out⟩
    have q1 : (a.layout == 1) = false := by rw [beq_eq_false_iff_ne]; exact c1
    by_cases c2 : a.layout = 2
    case neg =>
      have HN : Hid (R = false) := by
        unfold Hid
        cases c : R
        · rfl
        · rcases HRR.out.1 c with h | h
          · exact absurd h.1 c1
          · exact absurd h.1 c2
      have q2 : (a.layout == 2) = false := by rw [beq_eq_false_iff_ne]; exact c2
      have q3 : (a.layout != 2) = true := by rw [bne_iff_ne]; exact c2
      go_wp2
      go_ret
      exact ⟨ret_bool HN.out.symm, B5.out⟩
    have HRU : Hid (R = true ↔ a.valid.size = 0 ∧ (a.data.size : Int) = 4 * (L : Int) ∧ (∀ i, i < L → has4 a.data i = true ∧ prev a.data i < endAt a.data i) ∧ rowsOf a ≤ prev a.data L) := by
      unfold Hid
      rw [HRR.out, runB_iff, HLT.out, HLN.out]
      constructor
      · rintro (h | h)
        · exact absurd h.1 c1
        · exact h.2
      · intro h
        exact .inr ⟨c2, h⟩
    have HC2 : Hid (a.layout = 2) := c2
    rw [HC2.out] at d0
    clear c1 c2 q0 q1
    have HNF : Hid (¬ (a.valid.size = 0 ∧ (a.data.size : Int) = 4 * (L : Int)) → R = false) := fun h => by
      cases c : R
      · rfl
      · have := HRU.out.1 c
        exact absurd ⟨this.1, this.2.1⟩ h
    by_cases hva : a.valid.size = 0
    case neg =>
      have HN : Hid (R = false) := HNF.out (fun h => hva h.1)
      have hev := ne_empty hva
      go_wp2
      go_ret
      exact ⟨ret_bool HN.out.symm, B5.out⟩
    have HVA : Hid (a.valid.size = 0) := hva
    rw [empty_of hva] at d3
    clear hva
    by_cases hdl : (a.data.size : Int) = 4 * (L : Int)
    case neg =>
      have HN : Hid (R = false) := HNF.out (fun h => hdl h.2)
      have hd2 : (((a.data.size : Nat) : Int) != 4 * (L : Int)) = true := by rw [bne_iff_ne]; exact hdl
      clear hdl
      go_wp2
      go_ret
      exact ⟨ret_bool HN.out.symm, B5.out⟩
    have HDL : Hid ((a.data.size : Int) = 4 * (L : Int)) := hdl
    have hd2 : (((a.data.size : Nat) : Int) != 4 * (L : Int)) = false := by rw [hdl]; simp
    clear hdl
    have hAsk := asked a.data 0 0 0 hds
    have HYES : Hid ((∀ i, i < L → has4 a.data i = true ∧ prev a.data i < endAt a.data i) → R = decide (((rowsOf a : Nat) : Int) ≤ ((prev a.data L : Nat) : Int))) := fun h => by
      rw [Bool.eq_iff_iff, HRU.out, decide_eq_true_eq]
      exact ⟨fun k => by have := k.2.2.2; omega, fun k => ⟨HVA.out, HDL.out, h, by omega⟩⟩
    have HNO : Hid (∀ i, i < L → ¬ (has4 a.data i = true ∧ prev a.data i < endAt a.data i) → R = false) := fun i hi h => by
      cases c : R
      · rfl
      · exact absurd ((HRU.out.1 c).2.2.1 i hi) h
    have HAK : Hid (Asked a.data 0 0 0 (endAt a.data) (prev a.data) (has4 a.data) (endsP a.data 0 0 0)) := hAsk
    clear hAsk HRU HRR
    generalize endsP a.data 0 0 0 = qq at *
    generalize endAt a.data = E at *
    generalize prev a.data = P at *
    generalize has4 a.data = h4 at *
    go_wp2_with fail
    go_loopw [12, 13] (fun z t wr => ∃ k : Nat, k ≤ L ∧ t = .int .i64 (k : Int) ∧ z = .int .i64 ((P k : Nat) : Int) ∧ (∀ j, j < k → h4 j = true ∧ P j < E j) ∧ wr = w5) (fun _ t _ => L - (intOf t).toNat)
    case atStart => exact ⟨0, Nat.zero_le _, rfl, by rw [HAK.out.zero]; rfl, fun j hj => by omega, rfl⟩
    case round =>
      obtain ⟨k, hk, rfl, rfl, hall, rfl⟩ := hrel
      have HA : Hid (∀ j, j < k → h4 j = true ∧ P j < E j) := hall
      clear hall
      by_cases hlt : k < L
      · have HPS : Hid (P (k + 1) = E k) := HAK.out.succ k
        have hp0 := HAK.out.prevs k
        have hx0 := HAK.out.most k
        have HNk : Hid (¬ (h4 k = true ∧ P k < E k) → R = false) := HNO.out k hlt
        cases hh : h4 k
        · have HC : Hid (∀ v, Calls Tryz.prog 55 #[.string a.data, .int .i64 (4 * (k : Int)), .int .i64 4] v fun r w' => r = .returned (.tuple #[.int .i64 0, .int .i64 300]) ∧ w' = v) := fun v => HAK.out.no k v hh
          have HN : Hid (R = false) := HNk.out (fun h => by rw [hh] at h; cases h.1)
          clear hh
          generalize P k = p at *
          go_wp2_with fail
          refine (HC.out _).mono ?_
          rintro e w6 ⟨rfl, h6⟩
          subst h6
          go_wp2
          go_ret
          exact ⟨ret_bool HN.out.symm, B5.out⟩
        · have HC : Hid (∀ v, Calls Tryz.prog 55 #[.string a.data, .int .i64 (4 * (k : Int)), .int .i64 4] v fun r w' => r = .returned (.tuple #[.int .i64 ((E k : Nat) : Int), .int .i64 0]) ∧ w' = v) := fun v => HAK.out.yes k v hh
          have HST : Hid (P k < E k → ∀ j, j < k + 1 → h4 j = true ∧ P j < E j) := fun hG j hj => by
            by_cases e : j = k
            · rw [e]; exact ⟨hh, hG⟩
            · exact HA.out j (by omega)
          clear hh
          generalize E k = y at *
          generalize P k = p at *
          go_wp2_with fail
          refine (HC.out _).mono ?_
          rintro e w6 ⟨rfl, h6⟩
          subst h6
          by_cases hy : p < y
          · have HS : Hid (∀ j, j < k + 1 → h4 j = true ∧ P j < E j) := HST.out hy
            have hy2 : ¬ (y : Int) ≤ (p : Int) := by omega
            have hy3 : ¬ y ≤ p := by omega
            go_wp2
            go_roundw
            case rel => exact ⟨k + 1, by omega, by go_num, by rw [HPS.out], HS.out, trivial⟩
            case measure => simp [intOf]; omega
          · have HN : Hid (R = false) := HNk.out (fun h => hy h.2)
            have hy2 : (y : Int) ≤ (p : Int) := by omega
            have hy3 : y ≤ p := by omega
            go_wp2
            go_ret
            exact ⟨ret_bool HN.out.symm, B5.out⟩
      · obtain rfl : k = L := by omega
        have HN : Hid (R = decide (((rowsOf a : Nat) : Int) ≤ ((P k : Nat) : Int))) := HYES.out HA.out
        generalize rowsOf a = m at *
        generalize P k = p at *
        go_wp2
        go_ret
        exact ⟨ret_bool (by rw [HN.out]; first | rfl | (rw [Bool.eq_iff_iff]; simp)), B5.out⟩
  · have hev := ne_empty hv
    cases hnu : (nd ns n).null
    · rw [hnu] at n2
      exfalso
      unfold lackB at h2
      rw [decide_eq_false hv, hnu] at h2
      cases h2
    · rw [hnu] at n2
      have hsz : ¬ ((a.valid.size : Nat) : Int) < (((rowsOf a : Nat) : Int) + 7) / 8 := by
        unfold lackB at h2
        rw [decide_eq_false hv, hnu, Bool.false_or, Bool.true_and, decide_eq_true_eq] at h2
        omega
      clear hnu hv
      refine region_in (C := fun w' => ∃ s : BW w3, w' = s.w) (by kernel_rfl) (by kernel_rfl) ⟨⟨w3.drew, (Below.refl _ _).drew⟩, rfl⟩ ?_
      repeat (go_big_quiet_step (first
        | (go_at_call 52; rename_i s; refine (HBB.out s.w).mono ?_; rintro e wx ⟨rfl, hbx⟩; exact ⟨rfl, s, hbx⟩)))
      refine wpQuiet_nil ?_
      intro _ hw'
      obtain ⟨s, hw''⟩ := hw'
      subst hw''
      have HE4 : Hid (Below w3.heap.size w3 s.w) := s.ok
      clear hne d0 d1 d2 d3 d4 d5 d6 tT n2
      have B4 : Hid (Below w.heap.size w s.w) := bel2 B3.out HE4.out
      have X4 := X3.out.later HE4.out
      have d0 := X4.c0
      generalize s.w = w4 at *
      clear X4
      have q0 : (a.layout == 0) = false := by rw [beq_eq_false_iff_ne]; exact HC0.out
      go_wp2_with fail
      clear d0
      have hne := BW.some w4
      have C := (X3.out.later HE4.out).cells
      have d0 := C.d0
      have d1 := C.d1
      have d2 := C.d2
      have d3 := C.d3
      have d4 := C.d4
      have d5 := C.d5
      have d6 := C.d6
      have tT : ∀ s : BW w4, s.w.cell? ⟨w.heap.size, 0, none⟩ = some (.slice (some x) ns.length capT) := fun s => cell_later s.ok (cell_later HE4.out HC3.out)
      have n0 : ∀ s : BW w4, s.w.cell? (x.add (n * 3)) = some (.int .i64 (nd ns n).kind) := fun s => ((HL3.out.later HE4.out).later s.ok).kind' n hn
      clear C
      cases hlf : Tree.isLeaf (nd ns n).kind
      · rw [hlf] at HLf
        have HN : Hid (R = false) := HFA.out (fun h => by rw [hlf] at h; cases h.1)
        clear hlf
        refine region_in (C := fun w' => ∃ s : BW w4, w' = s.w) (by kernel_rfl) (by kernel_rfl) ⟨⟨w4.drew, (Below.refl _ _).drew⟩, rfl⟩ ?_
        repeat (go_big_quiet_step (first
          | (go_at_call 54; rename_i s; refine (HLf.out s.w).mono ?_; rintro e wx ⟨rfl, hbx⟩; exact ⟨rfl, s, hbx⟩)))
        refine wpQuiet_nil ?_
        intro _ hw'
        obtain ⟨s, hw''⟩ := hw'
        subst hw''
        have HE5 : Hid (Below w4.heap.size w4 s.w) := s.ok
        clear hne d0 d1 d2 d3 d4 d5 d6 tT n0
        go_wp2
        go_ret
        exact ⟨ret_bool HN.out.symm, bel2 B4.out HE5.out⟩
      rw [hlf] at HLf
      have HLL : Hid (Tree.isLeaf (nd ns n).kind = true) := hlf
      clear hlf
      by_cases hq : a.kids.length = 1
      case neg =>
        have HN : Hid (R = false) := HFA.out (fun h => hq h.2.1)
        have hq2 : (((a.kids.length : Nat) : Int) == 1) = false := by rw [beq_eq_false_iff_ne]; omega
        have hq3 : (((a.kids.length : Nat) : Int) != 1) = true := by rw [bne_iff_ne]; omega
        refine region_in (C := fun w' => ∃ s : BW w4, w' = s.w) (by kernel_rfl) (by kernel_rfl) ⟨⟨w4.drew, (Below.refl _ _).drew⟩, rfl⟩ ?_
        repeat (go_big_quiet_step (first
          | (go_at_call 54; rename_i s; refine (HLf.out s.w).mono ?_; rintro e wx ⟨rfl, hbx⟩; exact ⟨rfl, s, hbx⟩)))
        refine wpQuiet_nil ?_
        intro _ hw'
        obtain ⟨s, hw''⟩ := hw'
        subst hw''
        have HE5 : Hid (Below w4.heap.size w4 s.w) := s.ok
        clear hne d0 d1 d2 d3 d4 d5 d6 tT n0
        go_wp2
        go_ret
        exact ⟨ret_bool HN.out.symm, bel2 B4.out HE5.out⟩
      have HQ : Hid (a.kids.length = 1) := hq
      clear hq
      rw [HQ.out] at d6
      by_cases he : a.ends.size = 0
      case neg =>
        have HN : Hid (R = false) := HFA.out (fun h => he h.2.2.1)
        have hev := ne_empty he
        clear he
        refine region_in (C := fun w' => ∃ s : BW w4, w' = s.w) (by kernel_rfl) (by kernel_rfl) ⟨⟨w4.drew, (Below.refl _ _).drew⟩, rfl⟩ ?_
        repeat (go_big_quiet_step (first
          | (go_at_call 54; rename_i s; refine (HLf.out s.w).mono ?_; rintro e wx ⟨rfl, hbx⟩; exact ⟨rfl, s, hbx⟩)))
        refine wpQuiet_nil ?_
        intro _ hw'
        obtain ⟨s, hw''⟩ := hw'
        subst hw''
        have HE5 : Hid (Below w4.heap.size w4 s.w) := s.ok
        clear hne d0 d1 d2 d3 d4 d5 d6 tT n0
        go_wp2
        go_ret
        exact ⟨ret_bool HN.out.symm, bel2 B4.out HE5.out⟩
      have HE0 : Hid (a.ends.size = 0) := he
      have HEV : Hid (a.ends = ⟨#[]⟩) := empty_of he
      clear he
      rw [HEV.out] at d4
      obtain ⟨xk, ok, ck, ho', hkid, hkh⟩ := hH.out.kid (i := 0) (by rw [HQ.out]; omega)
      rw [add_zero] at hkid
      rw [ho'] at d6
      have HO' : Hid (o = some xk) := ho'
      have HKI : Hid (Kid w4 xk (kidAt a 0) ok ck) := hkid.later B4.out
      have KC := HKI.out.cells
      have k0 := KC.k0
      have k1 := KC.k1
      have k2 := KC.k2
      have k3 := KC.k3
      have k4 := KC.k4
      have k5 := KC.k5
      have k6 := KC.k6
      have HMM : Hid (∀ v, Below w4.heap.size w4 v → Calls Tryz.prog 23 #[.agg #[.slice (some x) ns.length capT], .int .i64 (n : Int), (kidAt a 0).val ok ck] v fun r w' => r = .returned (.bool (mayF ns f n (kidAt a 0))) ∧ Below v.heap.size v w') := fun v hv => by
        have := ih.out ns (some x) capT (n : Int) (kidAt a 0) ok ck v (HT.out.later (bel2 B4.out hv)) (hkh.later (bel2 B4.out hv))
        rw [mayZ_kid hm hn] at this
        exact this
      unfold Arr.val at HMM
      clear KC hkid hkh ho'
      by_cases hkl : (kidAt a 0).layout = 0
      case neg =>
        have HN : Hid (R = false) := HFA.out (fun h => hkl h.2.2.2.1)
        have hk2 : ((kidAt a 0).layout == 0) = false := by rw [beq_eq_false_iff_ne]; exact hkl
        have hk3 : ((kidAt a 0).layout != 0) = true := by rw [bne_iff_ne]; exact hkl
        refine region_in (C := fun w' => ∃ s : BW w4, w' = s.w) (by kernel_rfl) (by kernel_rfl) ⟨⟨w4.drew, (Below.refl _ _).drew⟩, rfl⟩ ?_
        repeat (go_big_quiet_step (first
          | (go_at_call 54; rename_i s; refine (HLf.out s.w).mono ?_; rintro e wx ⟨rfl, hbx⟩; exact ⟨rfl, s, hbx⟩)))
        refine wpQuiet_nil ?_
        intro _ hw'
        obtain ⟨s, hw''⟩ := hw'
        subst hw''
        have HE5 : Hid (Below w4.heap.size w4 s.w) := s.ok
        clear hne d0 d1 d2 d3 d4 d5 d6 tT n0 k0 k1 k2 k3 k4 k5 k6
        go_wp2
        go_ret
        exact ⟨ret_bool HN.out.symm, bel2 B4.out HE5.out⟩
      have HKL : Hid ((kidAt a 0).layout = 0) := hkl
      rw [hkl] at k0 HMM
      clear hkl
      cases hmk : mayF ns f n (kidAt a 0)
      · rw [hmk] at HMM
        have HN : Hid (R = false) := HFA.out (fun h => by rw [hmk] at h; cases h.2.2.2.2)
        clear hmk
        refine region_in (C := fun w' => ∃ s : BW w4, w' = s.w) (by kernel_rfl) (by kernel_rfl) ⟨⟨w4.drew, (Below.refl _ _).drew⟩, rfl⟩ ?_
        repeat (go_big_quiet_step (first
          | (go_at_call 54; rename_i s; refine (HLf.out s.w).mono ?_; rintro e wx ⟨rfl, hbx⟩; exact ⟨rfl, s, hbx⟩)
          | (go_at_call 23; rename_i s; refine (HMM.out s.w s.ok).mono ?_; rintro e wx ⟨rfl, hbx⟩; exact ⟨rfl, ⟨wx, bel2 s.ok hbx⟩, rfl⟩)))
        refine wpQuiet_nil ?_
        intro _ hw'
        obtain ⟨s, hw''⟩ := hw'
        subst hw''
        have HE5 : Hid (Below w4.heap.size w4 s.w) := s.ok
        clear hne d0 d1 d2 d3 d4 d5 d6 tT n0 k0 k1 k2 k3 k4 k5 k6
        go_wp2
        go_ret
        exact ⟨ret_bool HN.out.symm, bel2 B4.out HE5.out⟩
      rw [hmk] at HMM
      have HMK : Hid (mayF ns f n (kidAt a 0) = true) := hmk
      clear hmk
      refine region_in (C := fun w' => ∃ s : BW w4, w' = s.w) (by kernel_rfl) (by kernel_rfl) ⟨⟨w4.drew, (Below.refl _ _).drew⟩, rfl⟩ ?_
      repeat (go_big_quiet_step (first
        | (go_at_call 54; rename_i s; refine (HLf.out s.w).mono ?_; rintro e wx ⟨rfl, hbx⟩; exact ⟨rfl, s, hbx⟩)
        | (go_at_call 23; rename_i s; refine (HMM.out s.w s.ok).mono ?_; rintro e wx ⟨rfl, hbx⟩; exact ⟨rfl, ⟨wx, bel2 s.ok hbx⟩, rfl⟩)))
      refine wpQuiet_nil ?_
      intro _ hw'
      obtain ⟨s, hw''⟩ := hw'
      subst hw''
      have HE5 : Hid (Below w4.heap.size w4 s.w) := s.ok
      clear hne d0 d1 d2 d3 d4 d5 d6 tT n0 k0 k1 k2 k3 k4 k5 k6
      have B5 : Hid (Below w.heap.size w s.w) := bel2 B4.out HE5.out
      have X5 : Hid (Bx s.w w1.heap.size a o cap) := X3.out.later (bel2 HE4.out HE5.out)
      have K5 : Hid (Kid s.w xk (kidAt a 0) ok ck) := HKI.out.later HE5.out
      generalize s.w = w5 at *
      have d0 := X5.out.c0
      have d1 := X5.out.c1
      have d2 := X5.out.c2
      have d3 := X5.out.c3
      have d4 := X5.out.c4
      have d5 := X5.out.c5
      have d6 := X5.out.c6
      rw [HO'.out, HQ.out] at d6
      have k2 := K5.out.k2
      have k3 := K5.out.k3
      have hkl : 0 ≤ (kidAt a 0).length ∧ (kidAt a 0).length ≤ 64 := by
        have := mayZ_kid hm hn f (kidAt a 0)
        exact mayZ_len (this.trans HMK.out)
      obtain ⟨L, hL⟩ := Int.eq_ofNat_of_zero_le hkl.1
      have hL64 : L ≤ 64 := by omega
      have HLN : Hid ((kidAt a 0).length = (L : Int)) := hL
      have HLT : Hid ((kidAt a 0).length.toNat = L) := by unfold Hid; omega
      rw [HLN.out] at k2
      have HRR : Hid (R = true ↔ a.layout = 1 ∧ dictB a = true ∨ a.layout = 2 ∧ runB a = true) := by
        unfold Hid
        rw [hR.out]
        exact ⟨fun h => h.2, fun h => ⟨⟨HLL.out, HQ.out, HE0.out, HKL.out, HMK.out⟩, h⟩⟩
      have hds : a.data.size ≤ 4096 := HOK.out.data
      have hlack := lack_of h2
      have HLK : Hid (a.valid.size = 0 ∨ rowsOf a ≤ 8 * a.valid.size) := hlack
      clear hkl hL hlack HMM HLf HFA
      by_cases c1 : a.layout = 1
      · have HDI : Hid (R = true ↔ 4 * rowsOf a ≤ a.data.size ∧ (kidAt a 0).valid.size = 0 ∧ allD a (kidAt a 0).length a.offset.toNat (rowsOf a)) := by
          unfold Hid
          rw [HRR.out, ← dict_iff HOK.out]
          constructor
          · rintro (h | h)
            · exact h.2
            · omega
          · intro h
            exact .inl ⟨c1, h⟩
        have HNF : Hid (¬ (4 * rowsOf a ≤ a.data.size ∧ (kidAt a 0).valid.size = 0) → R = false) := fun h => by
          cases c : R
          · rfl
          · have := HDI.out.1 c
            exact absurd ⟨this.1, this.2.1⟩ h
        have q1 : (a.layout == 1) = true := by rw [c1]; rfl
        have hw4 : IntKind.i64.wrap (4 * ((rowsOf a : Nat) : Int)) = 4 * ((rowsOf a : Nat) : Int) := by rw [IntKind.wrap_i64]; omega
        have HC1 : Hid (a.layout = 1) := c1
        rw [HC1.out] at d0
        clear c1 q0 q1
        by_cases hd : 4 * rowsOf a ≤ a.data.size
        case neg =>
          have HN : Hid (R = false) := HNF.out (fun h => hd h.1)
          have hd2 : ((a.data.size : Nat) : Int) < 4 * ((rowsOf a : Nat) : Int) := by omega
          clear hd
          go_wp2
          go_ret
          exact ⟨ret_bool HN.out.symm, B5.out⟩
        have HD : Hid (4 * rowsOf a ≤ a.data.size) := hd
        have hd2 : ¬ ((a.data.size : Nat) : Int) < 4 * ((rowsOf a : Nat) : Int) := by omega
        clear hd
        by_cases hkv : (kidAt a 0).valid.size = 0
        case neg =>
          have HN : Hid (R = false) := HNF.out (fun h => hkv h.2)
          have hev := ne_empty hkv
          clear hkv
          go_wp2
          go_ret
          exact ⟨ret_bool HN.out.symm, B5.out⟩
        have HKV : Hid ((kidAt a 0).valid.size = 0) := hkv
        rw [empty_of hkv] at k3
        clear hkv
        have HOFF : Hid (a.offset = ((a.offset.toNat : Nat) : Int)) := by have := HOK.out.off; unfold Hid; omega
        rw [HOFF.out] at d1
        go_wp2_with fail
        go_loopw [9] (fun t wr => ∃ r : Nat, a.offset.toNat ≤ r ∧ r ≤ rowsOf a ∧ t = .int .i64 (r : Int) ∧ allD a (kidAt a 0).length a.offset.toNat r ∧ Below w5.heap.size w5 wr) (fun t _ => rowsOf a - (intOf t).toNat)
        case atStart => exact ⟨a.offset.toNat, Nat.le_refl _, by have := HOK.out.off; have := HOK.out.len; unfold rowsOf; omega, by congr 1; have := HOK.out.off; omega, fun i h1 h2 => by omega, Below.refl _ _⟩
        case round =>
          obtain ⟨r, hr1, hr2, rfl, hall, hbl⟩ := hrel
          have HA : Hid (allD a (kidAt a 0).length a.offset.toNat r) := hall
          have BL : Hid (Below w5.heap.size w5 wr) := hbl
          have Hr1 : Hid (a.offset.toNat ≤ r) := hr1
          have X6 := X5.out.later hbl
          clear hall hbl hr1 d0 d1 d2 d3 d4 d5 d6 k2 k3
          by_cases hlt : r < rowsOf a
          · have hlt2 : (r : Int) < ((rowsOf a : Nat) : Int) := by omega
            have HTH : Hid (∀ v, Calls Tryz.prog 56 #[a.val o cap, .int .i64 (r : Int)] v fun e w' => e = .returned (.bool (there a r)) ∧ Below v.heap.size v w') := fun v => refThere a o cap r HOK.out.valid (by have := HLK.out; omega) v
            have HRD : Hid (rowD a (kidAt a 0).length r = (!there a r || (has4 a.data r && decide ((endAt a.data r : Int) < (kidAt a 0).length)))) := rfl
            rw [HLN.out] at HRD
            have HRF : Hid (rowD a (kidAt a 0).length r = false → R = false) := fun h => by
              cases c : R
              · rfl
              · have := (HDI.out.1 c).2.2 r Hr1.out hlt
                rw [h] at this
                cases this
            have HST : Hid (rowD a (kidAt a 0).length r = true → allD a (kidAt a 0).length a.offset.toNat (r + 1)) := fun h i h1 h2 => by
              by_cases e : i = r
              · rw [e]; exact h
              · exact HA.out i h1 (by omega)
            rw [HLN.out] at HRF HST
            unfold Arr.val at HTH
            rw [HO'.out, HQ.out] at HTH
            have d0 := X6.c0
            have d1 := X6.c1
            have d2 := X6.c2
            have d3 := X6.c3
            have d4 := X6.c4
            have d5 := X6.c5
            have d6 := X6.c6
            rw [HO'.out, HQ.out] at d6
            clear X6
            cases hh : has4 a.data r
            · have HG : Hid (∀ v, Calls Tryz.prog 55 #[.string a.data, .int .i64 (4 * (r : Int)), .int .i64 4] v fun e w' => e = .returned (.tuple #[.int .i64 0, .int .i64 300]) ∧ w' = v) := fun v => refGet_not a.data r hds hh v
              rw [hh] at HRD
              clear hh
              generalize rowD a (L : Int) r = Q at *
              go_wp2_with fail
              refine (HG.out wr).mono ?_
              rintro e w6 ⟨rfl, h6⟩
              subst w6
              go_wp2_with fail
              refine (HTH.out wr).mono ?_
              rintro e w7 ⟨rfl, b7⟩
              have B7 : Hid (Below w5.heap.size w5 w7) := bel2 BL.out b7
              clear b7 d0 d1 d2 d3 d4 d5 d6
              cases hT : there a r
              · rw [hT] at HRD
                have HS : Hid (allD a (L : Int) a.offset.toNat (r + 1)) := HST.out HRD.out
                clear hT
                go_wp2
                go_roundw
                case rel => exact ⟨r + 1, by have := Hr1.out; omega, by omega, by go_num, by rw [HLN.out]; exact HS.out, B7.out⟩
                case measure => simp [intOf]; omega
              · rw [hT] at HRD
                have HN : Hid (R = false) := HRF.out HRD.out
                clear hT
                go_wp2
                go_ret
                exact ⟨ret_bool HN.out.symm, bel2 B5.out B7.out⟩
            · have HG : Hid (∀ v, Calls Tryz.prog 55 #[.string a.data, .int .i64 (4 * (r : Int)), .int .i64 4] v fun e w' => e = .returned (.tuple #[.int .i64 ((endAt a.data r : Nat) : Int), .int .i64 0]) ∧ w' = v) := fun v => refGet_yes a.data r hds hh v
              rw [hh] at HRD
              clear hh
              generalize rowD a (L : Int) r = Q at *
              generalize endAt a.data r = y at *
              go_wp2_with fail
              refine (HG.out wr).mono ?_
              rintro e w6 ⟨rfl, h6⟩
              subst w6
              go_wp2_with fail
              refine (HTH.out wr).mono ?_
              rintro e w7 ⟨rfl, b7⟩
              have B7 : Hid (Below w5.heap.size w5 w7) := bel2 BL.out b7
              clear b7 d0 d1 d2 d3 d4 d5 d6
              cases hT : there a r
              · rw [hT] at HRD
                have HS : Hid (allD a (L : Int) a.offset.toNat (r + 1)) := HST.out HRD.out
                clear hT
                go_wp2
                go_roundw
                case rel => exact ⟨r + 1, by have := Hr1.out; omega, by omega, by go_num, by rw [HLN.out]; exact HS.out, B7.out⟩
                case measure => simp [intOf]; omega
              · rw [hT] at HRD
                clear hT
                by_cases hy : (y : Int) < (L : Int)
                · have HS : Hid (allD a (L : Int) a.offset.toNat (r + 1)) := HST.out (by rw [HRD.out, decide_eq_true hy]; rfl)
                  have hy2 : ¬ (L : Int) ≤ (y : Int) := by omega
                  have hy3 : ¬ L ≤ y := by omega
                  go_wp2
                  go_roundw
                  case rel => exact ⟨r + 1, by have := Hr1.out; omega, by omega, by go_num, by rw [HLN.out]; exact HS.out, B7.out⟩
                  case measure => simp [intOf]; omega
                · have HN : Hid (R = false) := HRF.out (by rw [HRD.out, decide_eq_false hy]; rfl)
                  have hy2 : (L : Int) ≤ (y : Int) := by omega
                  have hy3 : L ≤ y := by omega
                  go_wp2
                  go_ret
                  exact ⟨ret_bool HN.out.symm, bel2 B5.out B7.out⟩
          · obtain rfl : r = rowsOf a := by omega
            have HN : Hid (R = true) := HDI.out.2 ⟨HD.out, HKV.out, HA.out⟩
            generalize rowsOf a = m at *
            go_wp2
            go_ret
            exact ⟨ret_bool HN.out.symm, bel2 B5.out BL.out⟩
      have q1 : (a.layout == 1) = false := by rw [beq_eq_false_iff_ne]; exact c1
      by_cases c2 : a.layout = 2
      case neg =>
        have HN : Hid (R = false) := by
          unfold Hid
          cases c : R
          · rfl
          · rcases HRR.out.1 c with h | h
            · exact absurd h.1 c1
            · exact absurd h.1 c2
        have q2 : (a.layout == 2) = false := by rw [beq_eq_false_iff_ne]; exact c2
        have q3 : (a.layout != 2) = true := by rw [bne_iff_ne]; exact c2
        go_wp2
        go_ret
        exact ⟨ret_bool HN.out.symm, B5.out⟩
      have HRU : Hid (R = true ↔ a.valid.size = 0 ∧ (a.data.size : Int) = 4 * (L : Int) ∧ (∀ i, i < L → has4 a.data i = true ∧ prev a.data i < endAt a.data i) ∧ rowsOf a ≤ prev a.data L) := by
        unfold Hid
        rw [HRR.out, runB_iff, HLT.out, HLN.out]
        constructor
        · rintro (h | h)
          · exact absurd h.1 c1
          · exact h.2
        · intro h
          exact .inr ⟨c2, h⟩
      have HC2 : Hid (a.layout = 2) := c2
      rw [HC2.out] at d0
      clear c1 c2 q0 q1
      have HNF : Hid (¬ (a.valid.size = 0 ∧ (a.data.size : Int) = 4 * (L : Int)) → R = false) := fun h => by
        cases c : R
        · rfl
        · have := HRU.out.1 c
          exact absurd ⟨this.1, this.2.1⟩ h
      by_cases hva : a.valid.size = 0
      case neg =>
        have HN : Hid (R = false) := HNF.out (fun h => hva h.1)
        have hev := ne_empty hva
        go_wp2
        go_ret
        exact ⟨ret_bool HN.out.symm, B5.out⟩
      have HVA : Hid (a.valid.size = 0) := hva
      rw [empty_of hva] at d3
      clear hva
      by_cases hdl : (a.data.size : Int) = 4 * (L : Int)
      case neg =>
        have HN : Hid (R = false) := HNF.out (fun h => hdl h.2)
        have hd2 : (((a.data.size : Nat) : Int) != 4 * (L : Int)) = true := by rw [bne_iff_ne]; exact hdl
        clear hdl
        go_wp2
        go_ret
        exact ⟨ret_bool HN.out.symm, B5.out⟩
      have HDL : Hid ((a.data.size : Int) = 4 * (L : Int)) := hdl
      have hd2 : (((a.data.size : Nat) : Int) != 4 * (L : Int)) = false := by rw [hdl]; simp
      clear hdl
      have hAsk := asked a.data 0 0 0 hds
      have HYES : Hid ((∀ i, i < L → has4 a.data i = true ∧ prev a.data i < endAt a.data i) → R = decide (((rowsOf a : Nat) : Int) ≤ ((prev a.data L : Nat) : Int))) := fun h => by
        rw [Bool.eq_iff_iff, HRU.out, decide_eq_true_eq]
        exact ⟨fun k => by have := k.2.2.2; omega, fun k => ⟨HVA.out, HDL.out, h, by omega⟩⟩
      have HNO : Hid (∀ i, i < L → ¬ (has4 a.data i = true ∧ prev a.data i < endAt a.data i) → R = false) := fun i hi h => by
        cases c : R
        · rfl
        · exact absurd ((HRU.out.1 c).2.2.1 i hi) h
      have HAK : Hid (Asked a.data 0 0 0 (endAt a.data) (prev a.data) (has4 a.data) (endsP a.data 0 0 0)) := hAsk
      clear hAsk HRU HRR
      generalize endsP a.data 0 0 0 = qq at *
      generalize endAt a.data = E at *
      generalize prev a.data = P at *
      generalize has4 a.data = h4 at *
      go_wp2_with fail
      go_loopw [12, 13] (fun z t wr => ∃ k : Nat, k ≤ L ∧ t = .int .i64 (k : Int) ∧ z = .int .i64 ((P k : Nat) : Int) ∧ (∀ j, j < k → h4 j = true ∧ P j < E j) ∧ wr = w5) (fun _ t _ => L - (intOf t).toNat)
      case atStart => exact ⟨0, Nat.zero_le _, rfl, by rw [HAK.out.zero]; rfl, fun j hj => by omega, rfl⟩
      case round =>
        obtain ⟨k, hk, rfl, rfl, hall, rfl⟩ := hrel
        have HA : Hid (∀ j, j < k → h4 j = true ∧ P j < E j) := hall
        clear hall
        by_cases hlt : k < L
        · have HPS : Hid (P (k + 1) = E k) := HAK.out.succ k
          have hp0 := HAK.out.prevs k
          have hx0 := HAK.out.most k
          have HNk : Hid (¬ (h4 k = true ∧ P k < E k) → R = false) := HNO.out k hlt
          cases hh : h4 k
          · have HC : Hid (∀ v, Calls Tryz.prog 55 #[.string a.data, .int .i64 (4 * (k : Int)), .int .i64 4] v fun r w' => r = .returned (.tuple #[.int .i64 0, .int .i64 300]) ∧ w' = v) := fun v => HAK.out.no k v hh
            have HN : Hid (R = false) := HNk.out (fun h => by rw [hh] at h; cases h.1)
            clear hh
            generalize P k = p at *
            go_wp2_with fail
            refine (HC.out _).mono ?_
            rintro e w6 ⟨rfl, h6⟩
            subst h6
            go_wp2
            go_ret
            exact ⟨ret_bool HN.out.symm, B5.out⟩
          · have HC : Hid (∀ v, Calls Tryz.prog 55 #[.string a.data, .int .i64 (4 * (k : Int)), .int .i64 4] v fun r w' => r = .returned (.tuple #[.int .i64 ((E k : Nat) : Int), .int .i64 0]) ∧ w' = v) := fun v => HAK.out.yes k v hh
            have HST : Hid (P k < E k → ∀ j, j < k + 1 → h4 j = true ∧ P j < E j) := fun hG j hj => by
              by_cases e : j = k
              · rw [e]; exact ⟨hh, hG⟩
              · exact HA.out j (by omega)
            clear hh
            generalize E k = y at *
            generalize P k = p at *
            go_wp2_with fail
            refine (HC.out _).mono ?_
            rintro e w6 ⟨rfl, h6⟩
            subst h6
            by_cases hy : p < y
            · have HS : Hid (∀ j, j < k + 1 → h4 j = true ∧ P j < E j) := HST.out hy
              have hy2 : ¬ (y : Int) ≤ (p : Int) := by omega
              have hy3 : ¬ y ≤ p := by omega
              go_wp2
              go_roundw
              case rel => exact ⟨k + 1, by omega, by go_num, by rw [HPS.out], HS.out, trivial⟩
              case measure => simp [intOf]; omega
            · have HN : Hid (R = false) := HNk.out (fun h => hy h.2)
              have hy2 : (y : Int) ≤ (p : Int) := by omega
              have hy3 : y ≤ p := by omega
              go_wp2
              go_ret
              exact ⟨ret_bool HN.out.symm, B5.out⟩
        · obtain rfl : k = L := by omega
          have HN : Hid (R = decide (((rowsOf a : Nat) : Int) ≤ ((P k : Nat) : Int))) := HYES.out HA.out
          generalize rowsOf a = m at *
          generalize P k = p at *
          go_wp2
          go_ret
          exact ⟨ret_bool (by rw [HN.out]; first | rfl | (rw [Bool.eq_iff_iff]; simp)), B5.out⟩
end Go.Proofs.YtcpfhfdgfcilaaaGreatDoor.Arr
namespace Go.Proofs.YtcpfhfdgfcilaaaGreatDoor.Arr
open Go.ChangeShapes Go.WideShapes Go.ChangeAt Go.RowKit
open Tree Val

theorem lay_iff {ns : List Nd} (hm : may ns = true) {f n : Nat} (hn : n < ns.length) {a : Arr} (c0 : a.layout ≠ 0) : layB ns f n a = true ↔ (Tree.isLeaf (nd ns n).kind = true ∧ a.kids.length = 1 ∧ a.ends.size = 0 ∧ (kidAt a 0).layout = 0 ∧ mayF ns f n (kidAt a 0) = true) ∧ (a.layout = 1 ∧ dictB a = true ∨ a.layout = 2 ∧ runB a = true) := by
  unfold layB
  rw [if_neg c0, ← leaf_eq hm hn]
  unfold dictA' runA'
  by_cases c1 : a.layout = 1
  · rw [if_pos c1]
    simp only [Bool.and_eq_true, decide_eq_true_eq]
    constructor
    · rintro ⟨h1, ⟨⟨⟨h2, h3⟩, h4⟩, h5⟩, h6⟩
      exact ⟨⟨h1, h2, h3, h4, h5⟩, .inl ⟨c1, h6⟩⟩
    · rintro ⟨⟨h1, h2, h3, h4, h5⟩, h6 | h6⟩
      · exact ⟨h1, ⟨⟨⟨h2, h3⟩, h4⟩, h5⟩, h6.2⟩
      · omega
  · rw [if_neg c1]
    by_cases c2 : a.layout = 2
    · rw [if_pos c2]
      simp only [Bool.and_eq_true, decide_eq_true_eq]
      constructor
      · rintro ⟨h1, ⟨⟨⟨h2, h3⟩, h4⟩, h5⟩, h6⟩
        exact ⟨⟨h1, h2, h3, h4, h5⟩, .inr ⟨c2, h6⟩⟩
      · rintro ⟨⟨h1, h2, h3, h4, h5⟩, h6 | h6⟩
        · exact absurd h6.1 c1
        · exact ⟨h1, ⟨⟨⟨h2, h3⟩, h4⟩, h5⟩, h6.2⟩
    · rw [if_neg c2]
      constructor
      · intro h; cases h
      · rintro ⟨_, h | h⟩
        · exact absurd h.1 c1
        · exact absurd h.1 c2
theorem ref_step (B bytes f : Nat) (ih : RefC B bytes f) : RefC B bytes (f + 1) := by
  intro ns oT capT at' a o cap w ht hH
  cases hb : hasB ns at'
  · have e : mayZ ns at' (f + 1) a = false := by unfold mayZ; rw [hb]; rfl
    rw [e]
    exact ref_no ns oT capT at' a o cap w ht hb
  · obtain ⟨n, rfl, hn, hM⟩ := has_of hb
    have hm : may ns = true := by unfold hasB at hb; rw [Bool.and_eq_true] at hb; exact hb.2
    rw [mayZ_kid hm hn, may_lay hm hn, head_eq]
    cases h0 : hasRowsB a
    · rw [Bool.false_and, Bool.false_and]
      exact ref_head ns oT capT n a o cap w ht hb (.inl h0)
    rw [Bool.true_and]
    cases h1 : shortsOf a.valid a.ends a.data
    · rw [Bool.false_and, Bool.false_and]
      exact ref_head ns oT capT n a o cap w ht hb (.inr h1)
    rw [Bool.true_and]
    cases h2 : lackB (nd ns n).null a
    · rw [Bool.false_and]
      exact ref_lack ns oT capT n a o cap w ht hn hm (ok_of h0 h1) h2
    rw [Bool.true_and]
    by_cases c0 : a.layout = 0
    · have e : layB ns f n a = plainB (mayF ns f) ns n a := by unfold layB; rw [if_pos c0]
      rw [e]
      exact ref_plain0 B bytes f ih ns oT capT n a o cap w ht hn hm hH (ok_of h0 h1) h2 c0
    · exact ref_lay B bytes f ih ns oT capT n a o cap w ht hn hm hH (ok_of h0 h1) h2 c0 _ (lay_iff hm hn c0)
/-- ArrayMay, of any array. -/
theorem refA (B bytes : Nat) : ∀ f, RefC B bytes f := by
  intro f
  induction f with
  | zero => intro ns oT capT at' a o cap w _ hH; cases hH
  | succ f ih => exact ref_step B bytes f ih
end Go.Proofs.YtcpfhfdgfcilaaaGreatDoor.Arr
namespace Go.Proofs.YtcpfhfdgfcilaaaGreatDoor.Arr
open Go.ChangeShapes Go.WideShapes Go.ChangeAt Go.RowKit
open Tree Val

/-- What SameArray answers of one array at two places. -/
def SameC (B bytes f : Nat) : Prop := ∀ (a : Arr) (o : Option Addr) (cap : Nat) (o' : Option Addr) (cap' : Nat) (w : World), HoldsF B bytes w f (a.cells o cap) a → HoldsF B bytes w f (a.cells o' cap') a →
  Calls Tryz.prog 28 #[a.val o cap, a.val o' cap'] w fun r w' => r = .returned (.bool true) ∧ Below w.heap.size w w'
set_option maxRecDepth 20000 in
set_option maxHeartbeats 3200000 in
theorem same_step (B bytes f : Nat) (ih : Hid (SameC B bytes f)) : SameC B bytes (f + 1) := by
  intro a o cap o' cap' w hH hH'
  obtain ⟨w1, e1, x1, b1, z1⟩ := box7 w a o cap
  obtain ⟨w2, e2, x2, b2, z2⟩ := box7 w1 a o' cap'
  have B2 : Hid (Below w.heap.size w w2) := bel2 b1 b2
  have X1 : Hid (Bx w2 w.heap.size a o cap) := x1.later b2
  have X2 : Hid (Bx w2 w1.heap.size a o' cap') := x2
  have HH : Hid (HoldsF B bytes w (f + 1) (a.cells o cap) a) := hH
  have HH' : Hid (HoldsF B bytes w (f + 1) (a.cells o' cap') a) := hH'
  have hlen : a.kids.length ≤ 9223372036854775807 := by have := (hH.ok').2.1; unfold maxLen at this; omega
  have d0 := X1.out.c0
  have d1 := X1.out.c1
  have d2 := X1.out.c2
  have d3 := X1.out.c3
  have d4 := X1.out.c4
  have d5 := X1.out.c5
  have d6 := X1.out.c6
  have f0 := x2.c0
  have f1 := x2.c1
  have f2 := x2.c2
  have f3 := x2.c3
  have f4 := x2.c4
  have f5 := x2.c5
  have f6 := x2.c6
  unfold Arr.val
  clear x1 x2 b1 b2 z1 z2 hH hH'
  go_enter Tryz.func28, Tryz.ntmps28
  go_wp2_with fail
  go_loopw [5] (fun t wr => ∃ k : Nat, k ≤ a.kids.length ∧ t = .int .i64 (k : Int) ∧ Below w2.heap.size w2 wr) (fun t _ => a.kids.length - (intOf t).toNat)
  case atStart => exact ⟨0, Nat.zero_le _, rfl, Below.refl _ _⟩
  case round =>
    obtain ⟨k, hk, rfl, hbl⟩ := hrel
    have BL : Hid (Below w2.heap.size w2 wr) := hbl
    have Y1 := X1.out.later hbl
    have Y2 := X2.out.later hbl
    clear d0 d1 d2 d3 d4 d5 d6 f0 f1 f2 f3 f4 f5 f6 hbl
    have d6 := Y1.c6
    by_cases hlt : k < a.kids.length
    · obtain ⟨xk, ok, ck, rfl, hkid, hkh⟩ := HH.out.kid (i := k) hlt
      obtain ⟨xk', ok', ck', rfl, hkid', hkh'⟩ := HH'.out.kid (i := k) hlt
      have BR : Hid (Below w.heap.size w wr) := bel2 B2.out BL.out
      have hne := BW.some wr
      have KC := (hkid.later BR.out).cells
      have k0 := KC.k0
      have k1 := KC.k1
      have k2 := KC.k2
      have k3 := KC.k3
      have k4 := KC.k4
      have k5 := KC.k5
      have k6 := KC.k6
      have KC' := (hkid'.later BR.out).cells
      have m0 := KC'.k0
      have m1 := KC'.k1
      have m2 := KC'.k2
      have m3 := KC'.k3
      have m4 := KC'.k4
      have m5 := KC'.k5
      have m6 := KC'.k6
      have e6 : ∀ s : BW wr, s.w.cell? ⟨w.heap.size, 6, none⟩ = some (.slice (some xk) a.kids.length cap) := fun s => (Y1.later s.ok).c6
      have g6 : ∀ s : BW wr, s.w.cell? ⟨w1.heap.size, 6, none⟩ = some (.slice (some xk') a.kids.length cap') := fun s => (Y2.later s.ok).c6
      have HMM : Hid (∀ v, Below wr.heap.size wr v → Calls Tryz.prog 28 #[(kidAt a k).val ok ck, (kidAt a k).val ok' ck'] v fun r w' => r = .returned (.bool true) ∧ Below v.heap.size v w') := fun v hv => ih.out (kidAt a k) ok ck ok' ck' v (hkh.later (bel2 BR.out hv)) (hkh'.later (bel2 BR.out hv))
      have i1 : (k : Int) < ((a.kids.length : Nat) : Int) := by omega
      have i0 : (0 : Int) ≤ (k : Int) := Int.natCast_nonneg _
      unfold Arr.val at HMM
      clear KC KC' hkid hkid' hkh hkh' Y1 Y2
      generalize kidAt a k = kk at *
      go_wp2_with fail
      refine region_in (C := fun w' => ∃ s : BW wr, w' = s.w) (by kernel_rfl) (by kernel_rfl) ⟨⟨wr.drew, (Below.refl _ _).drew⟩, rfl⟩ ?_
      repeat (go_big_quiet_step (first
        | (go_at_call 28; rename_i s; refine (HMM.out s.w s.ok).mono ?_; rintro e wx ⟨rfl, hbx⟩; exact ⟨rfl, ⟨wx, bel2 s.ok hbx⟩, rfl⟩)))
      refine wpQuiet_nil ?_
      intro _ hw'
      obtain ⟨s, hw''⟩ := hw'
      subst hw''
      have HE : Hid (Below w2.heap.size w2 s.w) := bel2 BL.out s.ok
      clear hne d6 e6 g6 k0 k1 k2 k3 k4 k5 k6 m0 m1 m2 m3 m4 m5 m6
      go_wp2
      go_roundw
      case rel => exact ⟨k + 1, by omega, by go_num, HE.out⟩
      case measure => simp [intOf]; omega
    · obtain rfl : k = a.kids.length := by omega
      clear Y1 Y2
      go_wp2
      go_ret
      exact ⟨rfl, bel2 B2.out BL.out⟩
theorem sameA (B bytes : Nat) : ∀ f, SameC B bytes f := by
  intro f
  induction f with
  | zero => intro a o cap o' cap' w hH _; cases hH
  | succ f ih => exact same_step B bytes f ih
end Go.Proofs.YtcpfhfdgfcilaaaGreatDoor.Arr
