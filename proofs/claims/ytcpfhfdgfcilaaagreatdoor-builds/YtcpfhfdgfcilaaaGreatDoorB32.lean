/-
  Several texts in one: An array of values, by the document: its build, whole numbers: contract. · An array of values, by the document: its build, truths: contract.
-/
import Derived.Test.YtcpfhfdgfcilaaaGreatDoorB20
import Derived.Maps.AppendAt
import Derived.OneCell
import Derived.Laws.OwnMore
import Derived.Deep.CutRange
import Derived.Deep.CutBlock
set_option linter.unusedVariables false
set_option linter.unusedSimpArgs false
namespace Go.Proofs.YtcpfhfdgfcilaaaGreatDoor.Arr
open Go.ChangeShapes Go.WideShapes Go.ChangeAt Go.RowKit
open Tree Val

set_option maxRecDepth 20000 in
set_option maxHeartbeats 3200000 in
theorem buildInt (B f g : Nat) (hB : 4096 ≤ B) (ns : List Nd) (oT : Option Addr) (capT n : Nat) (ss : List ByteArray) (o : Option Addr) (cap : Nat) (w : World) (hn : n < ns.length) (hm : may ns = true) (hF : AllFit ns (g + 1) n (ss.map bl)) (h64 : ss.length ≤ 64) (hx : Texts.IsTx w o ss) (ht : IsT w oT ns) (hk : (nd ns n).kind = 0) :
    Calls Tryz.prog 62 #[.agg #[.slice oT ns.length capT], .int .i64 (n : Int), .slice o ss.length cap] w (BuildQ B (f + 1) ns n (ss.map bl) w) := by
  obtain ⟨w1, e1, s1, c1, b1⟩ := boxed w (.slice oT ns.length capT) 24
  obtain ⟨w2, e2', x2, b2, z2⟩ := box7 w1 nil none 0
  have e2 : w1.alloc (.cells #[.int .i64 0, .int .i64 0, .int .i64 0, .string ⟨#[]⟩, .string ⟨#[]⟩, .string ⟨#[]⟩, .slice none 0 0] 27) = w2 := e2'
  clear e2'
  have hS1 : w.heap.size < w1.heap.size := s1
  have hS2 : w1.heap.size < w2.heap.size := z2
  have B2 : Hid (Below w.heap.size w w2) := bel2 b1 b2
  have HCT : Hid (w2.cell? ⟨w.heap.size, 0, none⟩ = some (.slice oT ns.length capT)) := cell_later b2 c1
  obtain ⟨x, rfl, hl⟩ := ht.some (by omega)
  have HLI : Hid (Lies w x ns) := hl
  have HT : Hid (IsT w (some x) ns) := ht
  have HTX : Hid (Texts.IsTx w o ss) := hx
  have hM := may_of hm
  have HVAL : Hid (∀ v, Below w.heap.size w v → Calls Tryz.prog 112 #[.slice o ss.length cap] v fun r w' => r = .returned (.string (mk (validOf (ss.map bl)))) ∧ Below v.heap.size v w') := fun v hv => validR o cap ss (by omega) v (hx.later hv)
  have HKS : Hid (∀ v, Below w.heap.size w v → Calls Tryz.prog 83 #[.agg #[.slice (some x) ns.length capT], .int .i64 (n : Int)] v fun r w' => ∃ o c, r = .returned (.tuple #[.slice o (kids ns n).length c, .int .i64 0]) ∧ w'.ownsRow v.heap.size 3 1 (.slice o (kids ns n).length c) (kids ns n).length (ints (kids ns n)) ∧ Below v.heap.size v w') := fun v hv => by
    have hB : hasB ns (n : Int) = true := by unfold hasB; rw [hm, decide_eq_true (by omega)]; rfl
    have hKA : kidsA ns (n : Int) = kids ns n := by unfold kidsA; rw [if_pos hB]
    have := kidsR (some x) capT ns (n : Int) v (HT.out.later hv)
    rw [hB, hKA] at this
    exact this
  have j0 : (0 : Int) ≤ (n : Int) := Int.natCast_nonneg _
  have j1 : (n : Int) < (ns.length : Int) := by omega
  have hL : Tree.isLeaf (nd ns n).kind = true := by rw [hk]; rfl
  have hK0 : kids ns n = [] := hM.leaf n hn hL
  rw [hK0] at HKS
  have HBU : Hid (buildF ns (f + 1) n (ss.map bl) = some (built ns f n (ss.map bl))) := leaf_build hM hn hL hF (by rw [List.length_map]; exact h64)
  obtain ⟨D, hD⟩ : ∃ D : Nat → List UInt8, ∀ k, D k = dataOf ns n ((ss.map bl).take k) := ⟨_, fun _ => rfl⟩
  have HLM : (ss.map bl).length = ss.length := List.length_map ..
  have HAT : Hid (∀ k, k < ss.length → (TellA (ss.getD k ByteArray.empty) (-1) [] 0 ∧ intV (bl (ss.getD k ByteArray.empty)) = 0) ∨ ∃ x, in64 x ∧ TellA (ss.getD k ByteArray.empty) 0 [mk (intD x)] 0 ∧ intV (bl (ss.getD k ByteArray.empty)) = x ∧ numOf (bl (mk (intD x))) = some x ∧ (mk (intD x)).size ≤ 65536) := fun k hk' => int_at hM hn hk (all_at hF hk')
  have HD0 : Hid (D 0 = []) := by unfold Hid; rw [hD, List.take_zero, dataOf, if_pos hk]; rfl
  have HDS : Hid (∀ k, k < ss.length → D (k + 1) = D k ++ Plain.low (wrapN (intV (bl (ss.getD k ByteArray.empty)))) 8) := fun k hk' => by
    rw [hD, hD, take_snoc _ (by rw [HLM]; exact hk'), data0_snoc hk, bl_at ss hk']
  have HDL : Hid (∀ k, k ≤ ss.length → (D k).length = 8 * k) := fun k hk' => by
    rw [hD, length_data0 hk, List.length_take, HLM, Nat.min_eq_left hk']
  have HA : Hid (built ns f n (ss.map bl) = ⟨0, 0, ((ss.length : Nat) : Int), mk (validOf (ss.map bl)), ByteArray.empty, mk (D ss.length), []⟩) := by
    unfold Hid built
    rw [hD, show (ss.map bl).take ss.length = ss.map bl from by rw [← HLM, List.take_length], HLM, endsOf_none (by omega) (by omega), hK0]
    rfl
  rw [HA.out] at HBU
  clear hD hF HA HLM
  have n0 := hl.kind' n hn
  rw [hk] at n0
  have HN0 : Hid (w.cell? (x.add (n * 3)) = some (.int .i64 0)) := n0
  generalize hvd : validOf (ss.map bl) = vd at *
  have q0 : decide ((64 : Int) < ((ss.length : Nat) : Int)) = false := decide_eq_false (by omega)
  have hlen0 : (0 : Int) ≤ ((ss.length : Nat) : Int) := Int.natCast_nonneg _
  have B1 : Hid (Below w.heap.size w w1) := b1
  clear s1 c1 b1 b2 hl hx ht z2 n0
  go_enter Tryz.func62, Tryz.ntmps62
  go_wp2_with fail
  refine (HVAL.out w2 B2.out).mono ?_
  rintro e w3 ⟨rfl, b3⟩
  have B3 : Hid (Below w.heap.size w w3) := bel2 B2.out b3
  have hS3 := b3.size
  have XR3 : Hid (Bx w3 w1.heap.size nil none 0) := x2.later b3
  have HC3 : Hid (w3.cell? ⟨w.heap.size, 0, none⟩ = some (.slice (some x) ns.length capT)) := cell_later b3 HCT.out
  obtain ⟨w4, e4', x4, b4, z4⟩ := box7 w3 nil none 0
  have e4 : w3.alloc (.cells #[.int .i64 0, .int .i64 0, .int .i64 0, .string ⟨#[]⟩, .string ⟨#[]⟩, .string ⟨#[]⟩, .slice none 0 0] 27) = w4 := e4'
  have m0 := x4.c0
  have m1 := x4.c1
  have m2 := x4.c2
  have m3 := x4.c3
  have m4 := x4.c4
  have m5 := x4.c5
  have m6 := x4.c6
  have f0 := x4.fz 0
  have f1 := x4.fz 1
  have f2 := x4.fz 2
  have f3 := x4.fz 3
  have f4 := x4.fz 4
  have f5 := x4.fz 5
  have f6 := x4.fz 6
  clear e4' b3 x2 e1 e2
  go_upto_region 2 with fail
  obtain ⟨w5, e5, x5, h5, k5⟩ := set7 x4 ⟨0, 0, ((ss.length : Nat) : Int), mk vd, ⟨#[]⟩, ⟨#[]⟩, []⟩ none 0
  have e5' : ((((((w4.setCell ⟨w3.heap.size, 0, none⟩ (.int .i64 0)).setCell ⟨w3.heap.size, 1, none⟩ (.int .i64 0)).setCell ⟨w3.heap.size, 2, none⟩ (.int .i64 ((ss.length : Nat) : Int))).setCell ⟨w3.heap.size, 3, none⟩ (.string (mk vd))).setCell ⟨w3.heap.size, 4, none⟩ (.string ⟨#[]⟩)).setCell ⟨w3.heap.size, 5, none⟩ (.string ⟨#[]⟩)).setCell ⟨w3.heap.size, 6, none⟩ (.slice none 0 0) = w5 := e5
  rw [e5']
  have B5 : Hid (Below w.heap.size w w5) := (bel2 B3.out b4).trans (k5 w.heap.size (by omega))
  have XR4 := XR3.out.later b4
  have XR5 : Hid (Bx w5 w1.heap.size nil none 0) := ⟨(h5 _ (by omega)).trans XR4.blk⟩
  have HC5 : Hid (w5.cell? ⟨w.heap.size, 0, none⟩ = some (.slice (some x) ns.length capT)) := (World.cell?_of_block (w := w4) (h5 w.heap.size (by omega))).trans (cell_later b4 HC3.out)
  have X5 : Hid (Bx w5 w3.heap.size ⟨0, 0, ((ss.length : Nat) : Int), mk vd, ⟨#[]⟩, ⟨#[]⟩, []⟩ none 0) := x5
  have hS5 : w3.heap.size < w5.heap.size := x5.lt
  have cT := HC5.out
  clear m0 m1 m2 m3 m4 m5 m6 f0 f1 f2 f3 f4 f5 f6 e5 e5' e4 x5 x4 b4 z4 h5 k5 XR4
  go_wp2_with fail
  refine (HKS.out w5 B5.out).mono ?_
  rintro e w6 ⟨oK, cK, rfl, hownK, b6⟩
  have B6 : Hid (Below w5.heap.size w5 w6) := b6
  rw [show ([] : List Nat).length = 0 from rfl]
  obtain ⟨cur, hmk, hcs, hcn⟩ := make_rows 0 (by decide) w6
  replace hmk : (Instr.makeSlice 110 (.int .i64 0) (.int .i64 0)).run Tryz.prog w6 = .ok (.slice (some ⟨w6.heap.size, 0, none⟩) 0 0) (w6.alloc (.cells cur 29)) := hmk
  obtain ⟨w7, e7⟩ : ∃ w7, w6.alloc (.cells cur 29) = w7 := ⟨_, rfl⟩
  rw [e7] at hmk
  have b7 : Below w6.heap.size w6 w7 := by rw [← e7]; exact (Below.refl _ _).alloc (Nat.le_refl _) _
  have B57 : Hid (Below w5.heap.size w5 w7) := bel2 b6 b7
  have B7 : Hid (Below w.heap.size w w7) := bel2 B5.out B57.out
  have X7 : Hid (Bx w7 w3.heap.size ⟨0, 0, ((ss.length : Nat) : Int), mk vd, ⟨#[]⟩, ⟨#[]⟩, []⟩ none 0) := X5.out.later B57.out
  have XR7 : Hid (Bx w7 w1.heap.size nil none 0) := XR5.out.later B57.out
  have HC7 : Hid (w7.cell? ⟨w.heap.size, 0, none⟩ = some (.slice (some x) ns.length capT)) := cell_later B57.out HC5.out
  clear b6 b7 hownK e7 cT hcs hcn
  go_wp2_with fail
  go_loopw [13, 14, 15, 16, 17] (fun i _ _ _ _ wr => ∃ k : Nat, k ≤ ss.length ∧ i = .int .i64 (k : Int) ∧ Bx wr w3.heap.size ⟨0, 0, ((ss.length : Nat) : Int), mk vd, ⟨#[]⟩, mk (D k), []⟩ none 0 ∧ Kept (fun q => q = w3.heap.size) w7 wr) (fun i _ _ _ _ _ => ss.length - (intOf i).toNat)
  case atStart => exact ⟨0, Nat.zero_le _, rfl, by rw [HD0.out]; exact X7.out, Kept.refl _ _⟩
  case round =>
    obtain ⟨k, hk2, rfl, hbx, hkp⟩ := hrel
    have KP : Hid (Kept (fun q => q = w3.heap.size) w7 wr) := hkp
    have BR : Hid (Below w.heap.size w wr) := hkp.down B7.out (fun q hq => by rw [hq]; omega)
    have HCR : Hid (wr.cell? ⟨w.heap.size, 0, none⟩ = some (.slice (some x) ns.length capT)) := hkp.cell HC7.out (by show ¬ (w.heap.size = w3.heap.size); omega)
    have XRR : Hid (Bx wr w1.heap.size nil none 0) := ⟨hkp.heap XR7.out.blk (by show ¬ (w1.heap.size = w3.heap.size); omega)⟩
    clear hkp
    have XB : Hid (Bx wr w3.heap.size ⟨0, 0, ((ss.length : Nat) : Int), mk vd, ⟨#[]⟩, mk (D k), []⟩ none 0) := hbx
    clear hbx
    by_cases hlt : k < ss.length
    ·
      obtain ⟨y, rfl, hy⟩ := tx_at HTX.out (by omega)
      have cs := cell_later BR.out (hy k hlt)
      have i0 : (0 : Int) ≤ (k : Int) := Int.natCast_nonneg _
      have i1 : (k : Int) < ((ss.length : Nat) : Int) := by omega
      clear hy
      have HAK := HAT.out k hlt
      have HSK : Hid (D (k + 1) = D k ++ Plain.low (wrapN (intV (bl (ss.getD k ByteArray.empty)))) 8) := HDS.out k hlt
      have hlD := HDL.out k hk2
      have z1 : (mk (D k)).size ≤ 512 := by rw [size_mk]; omega
      generalize ss.getD k ByteArray.empty = s at *
      generalize hdk : mk (D k) = dk at *
      have HP : Hid (∃ (K X : Int) (ps : List ByteArray), TellA s K ps 0 ∧ X = intV (bl s) ∧ in64 X ∧ (K = -1 ∧ X = 0 ∧ ps = [] ∨ K = 0 ∧ ps = [mk (intD X)] ∧ numOf (bl (mk (intD X))) = some X ∧ (mk (intD X)).size ≤ 65536)) := by
        rcases HAK with ⟨hT, hI⟩ | ⟨xx, hxx, hT, hI, hN, hz⟩
        · exact ⟨-1, 0, [], hT, hI.symm, by unfold in64; omega, .inl ⟨rfl, rfl, rfl⟩⟩
        · exact ⟨0, xx, _, hT, hI.symm, hxx, .inr ⟨rfl, rfl, hN, hz⟩⟩
      clear HAK hlD
      obtain ⟨K, X, ps, hT, hX, hin, hw⟩ := HP.out
      rw [← hX] at HSK
      have HW : Hid (K = -1 ∧ X = 0 ∧ ps = [] ∨ K = 0 ∧ ps = [mk (intD X)] ∧ numOf (bl (mk (intD X))) = some X ∧ (mk (intD X)).size ≤ 65536) := hw
      have HPC : Hid (∀ v, Calls Tryz.prog 111 #[.string s] v fun r w' => ∃ o cap, r = .returned (.tuple #[.int .i64 K, .slice o ps.length cap, .int .i64 0]) ∧ w'.ownsRow v.heap.size 9 1 (.slice o ps.length cap) ps.length (Texts.cellsT ps) ∧ Below v.heap.size v w') := fun v => partsR s K ps 0 hT v
      have HLW : Hid (∀ v, Calls Tryz.prog 49 #[.int .i64 X, .int .i64 8] v fun r w' => r = .returned (.string (mk (Plain.low (wrapN X) 8))) ∧ Below v.heap.size v w') := fun v => Fix.refLow8 X (wrapN X) (wrap_wrapN X) v
      have z2 : (mk (Plain.low (wrapN X) 8)).size ≤ 8 := by rw [size_mk, Plain.length_low]; exact Nat.le_refl _
      have z3 : ¬ (9223372036854775807 < dk.size + (mk (Plain.low (wrapN X) 8)).size) := by omega
      have cT := HCR.out
      clear HP hT hX hw
      go_wp2_with fail
      refine (HPC.out wr).mono ?_
      rintro e w8 ⟨oP, cP, rfl, hownP, b8⟩
      have B8 : Hid (Below wr.heap.size wr w8) := b8
      have HOP : Hid (w8.ownsRow wr.heap.size 9 1 (.slice oP ps.length cP) ps.length (Texts.cellsT ps)) := hownP
      clear cs cT hownP b8
      have cT := cell_later B8.out HCR.out
      have n0 := cell_later (bel2 BR.out B8.out) HN0.out
      have X8 : Hid (Bx w8 w3.heap.size ⟨0, 0, ((ss.length : Nat) : Int), mk vd, ⟨#[]⟩, dk, []⟩ none 0) := XB.out.later B8.out
      have i3 : ((ss.length : Nat) : Int) ≤ 64 := by omega
      rcases HW.out with ⟨rfl, rfl, rfl⟩ | ⟨rfl, rfl, hN, hz⟩
      · clear HW HOP
        have BK : Hid (Below wr.heap.size wr w8) := B8.out
        go_wp2_with fail
        refine wp_region_noPanic ?_
        refine wp_region_any (by kernel_rfl) ?_
        try (change wpAny _ _ _ _ _ _ _ (World.drew _))
        have XD : Hid (Bx w8.drew w3.heap.size ⟨0, 0, ((ss.length : Nat) : Int), mk vd, ⟨#[]⟩, dk, []⟩ none 0) := X8.out.later (drewN_below _ 1)
        have d5 := XD.out.c5
        have d5b : w8.cell? ⟨w3.heap.size, 5, none⟩ = some (.string dk) := d5
        refine wpAny_take (i := 0) (v := ?_) rfl (by kernel_rfl) (by kernel_rfl) (by kernel_rfl) (fun _ _ _ h => h) (Or.inl ⟨by rfl, ?hy1⟩) ?_
        case hy1 => (intro w; go_simp; try with_reducible rfl)
        try simp only [Act.put, List.setIfInBounds_toArray, List.set_cons_zero, List.set_cons_succ]
        refine wpAny_take (i := 2) (v := ?_) rfl (by kernel_rfl) (by kernel_rfl) (by kernel_rfl) (fun _ _ _ h => h) (Or.inl ⟨by rfl, ?hy2⟩) ?_
        case hy2 => (intro w; go_simp; try with_reducible rfl)
        try simp only [Act.put, List.setIfInBounds_toArray, List.set_cons_zero, List.set_cons_succ]
        refine wpAny_ready (rs := [1, 3]) (by kernel_rfl) (by simp) ?_
        refine AllReady.cons rfl (fun K hK => ?_) (AllReady.cons rfl (fun K hK => ?_) AllReady.nil)
        · go_simp
          refine hK _ _ ?_
          clear hK K
          try simp only [Act.put, List.setIfInBounds_toArray, List.set_cons_zero, List.set_cons_succ]
          refine wpAny_ready (rs := [3]) (by kernel_rfl) (by simp) ?_
          refine AllReady.cons rfl (fun K hK => ?_) AllReady.nil
          go_simp
          go_at_call 49
          refine (HLW.out _).mono ?_
          rintro e w9 ⟨rfl, b9⟩
          have X9 : Hid (Bx w9 w3.heap.size ⟨0, 0, ((ss.length : Nat) : Int), mk vd, ⟨#[]⟩, dk, []⟩ none 0) := XD.out.later b9
          have K9 : Hid (Kept (fun q => q = w3.heap.size) w7 w9) := KP.out.below (bel2 BK.out (bel2 (drewN_below _ 1) b9))
          have d59 := X9.out.c5
          have f59 := X9.out.fz 5
          clear b9
          refine hK _ _ ?_
          clear hK K
          try simp only [Act.put, List.setIfInBounds_toArray, List.set_cons_zero, List.set_cons_succ]
          refine wpAny_take (i := 4) (v := ?_) rfl (by kernel_rfl) (by kernel_rfl) (by kernel_rfl) (fun _ _ _ h => h) (Or.inl ⟨by rfl, ?hy3⟩) ?_
          case hy3 => (intro w; go_simp; try with_reducible rfl)
          try simp only [Act.put, List.setIfInBounds_toArray, List.set_cons_zero, List.set_cons_succ]
          refine wpAny_take (i := 5) (v := ?_) rfl (by kernel_rfl) (by kernel_rfl) (by kernel_rfl) (fun _ _ _ h => h) (Or.inl ⟨by rfl, ?hy4⟩) ?_
          case hy4 => (intro w; go_simp; try with_reducible rfl)
          try simp only [Act.put, List.setIfInBounds_toArray, List.set_cons_zero, List.set_cons_succ]
          refine wpAny_ready (rs := [6]) (by kernel_rfl) (by simp) ?_
          refine AllReady.cons rfl (fun K hK => ?_) AllReady.nil
          go_simp
          refine hK _ _ ?_
          clear hK K
          try simp only [Act.put, List.setIfInBounds_toArray, List.set_cons_zero, List.set_cons_succ]
          refine wpAny_done (by kernel_rfl) ?_ _
          refine NoPanic.normal ?_
          obtain ⟨w10, e10, x10, k10, _⟩ := X9.out.set5 (dk ++ mk (Plain.low (wrapN 0) 8))
          rw [e10]
          have X10 : Hid (Bx w10 w3.heap.size ⟨0, 0, ((ss.length : Nat) : Int), mk vd, ⟨#[]⟩, mk (D (k + 1)), []⟩ none 0) := by rw [HSK.out, ← app_mk, hdk]; exact x10
          have K10 : Hid (Kept (fun q => q = w3.heap.size) w7 w10) := k10 _ _ rfl K9.out
          clear e10 x10 k10 d5 d5b d59 f59
          go_wp2
          go_roundw
          case rel => exact ⟨k + 1, by omega, by go_num, X10.out, K10.out⟩
          case measure => simp [intOf]; omega
        · go_simp
          go_at_call 49
          refine (HLW.out _).mono ?_
          rintro e w9 ⟨rfl, b9⟩
          have X9 : Hid (Bx w9 w3.heap.size ⟨0, 0, ((ss.length : Nat) : Int), mk vd, ⟨#[]⟩, dk, []⟩ none 0) := XD.out.later b9
          have K9 : Hid (Kept (fun q => q = w3.heap.size) w7 w9) := KP.out.below (bel2 BK.out (bel2 (drewN_below _ 1) b9))
          have d59 := X9.out.c5
          have f59 := X9.out.fz 5
          clear b9
          refine hK _ _ ?_
          clear hK K
          try simp only [Act.put, List.setIfInBounds_toArray, List.set_cons_zero, List.set_cons_succ]
          refine wpAny_ready (rs := [1]) (by kernel_rfl) (by simp) ?_
          refine AllReady.cons rfl (fun K hK => ?_) AllReady.nil
          go_simp
          refine hK _ _ ?_
          clear hK K
          try simp only [Act.put, List.setIfInBounds_toArray, List.set_cons_zero, List.set_cons_succ]
          refine wpAny_take (i := 4) (v := ?_) rfl (by kernel_rfl) (by kernel_rfl) (by kernel_rfl) (fun _ _ _ h => h) (Or.inl ⟨by rfl, ?hy5⟩) ?_
          case hy5 => (intro w; go_simp; try with_reducible rfl)
          try simp only [Act.put, List.setIfInBounds_toArray, List.set_cons_zero, List.set_cons_succ]
          refine wpAny_take (i := 5) (v := ?_) rfl (by kernel_rfl) (by kernel_rfl) (by kernel_rfl) (fun _ _ _ h => h) (Or.inl ⟨by rfl, ?hy6⟩) ?_
          case hy6 => (intro w; go_simp; try with_reducible rfl)
          try simp only [Act.put, List.setIfInBounds_toArray, List.set_cons_zero, List.set_cons_succ]
          refine wpAny_ready (rs := [6]) (by kernel_rfl) (by simp) ?_
          refine AllReady.cons rfl (fun K hK => ?_) AllReady.nil
          go_simp
          refine hK _ _ ?_
          clear hK K
          try simp only [Act.put, List.setIfInBounds_toArray, List.set_cons_zero, List.set_cons_succ]
          refine wpAny_done (by kernel_rfl) ?_ _
          refine NoPanic.normal ?_
          obtain ⟨w10, e10, x10, k10, _⟩ := X9.out.set5 (dk ++ mk (Plain.low (wrapN 0) 8))
          rw [e10]
          have X10 : Hid (Bx w10 w3.heap.size ⟨0, 0, ((ss.length : Nat) : Int), mk vd, ⟨#[]⟩, mk (D (k + 1)), []⟩ none 0) := by rw [HSK.out, ← app_mk, hdk]; exact x10
          have K10 : Hid (Kept (fun q => q = w3.heap.size) w7 w10) := k10 _ _ rfl K9.out
          clear e10 x10 k10 d5 d5b d59 f59
          go_wp2
          go_roundw
          case rel => exact ⟨k + 1, by omega, by go_num, X10.out, K10.out⟩
          case measure => simp [intOf]; omega
      · have HNX : Hid (numOf (bl (mk (intD X))) = some X) := hN
        obtain ⟨gP, rfl, hcP⟩ : ∃ gP, oP = some gP ∧ w8.cell? gP = some (.string (mk (intD X))) := by
          obtain ⟨y, e, hy⟩ := tx_at (Texts.own_texts HOP.out) (by simp)
          have hy0 := hy 0 (by simp)
          rw [show y.add 0 = y from by simp [Addr.add]] at hy0
          exact ⟨y, e, hy0⟩
        have HCP : Hid (w8.cell? gP = some (.string (mk (intD X)))) := hcP
        clear HW HOP hN
        go_wp2_with fail
        refine (wholeR (mk (intD X)) hz w8).mono ?_
        rintro e w88 ⟨X', rfl, hX', b88⟩
        obtain rfl : X' = X := hX' X HNX.out
        have BK : Hid (Below wr.heap.size wr w88) := bel2 B8.out b88
        have X88 : Hid (Bx w88 w3.heap.size ⟨0, 0, ((ss.length : Nat) : Int), mk vd, ⟨#[]⟩, dk, []⟩ none 0) := X8.out.later b88
        clear X8 n0 cT
        go_wp2_with fail
        refine wp_region_noPanic ?_
        refine wp_region_any (by kernel_rfl) ?_
        try (change wpAny _ _ _ _ _ _ _ (World.drew _))
        have XD : Hid (Bx w88.drew w3.heap.size ⟨0, 0, ((ss.length : Nat) : Int), mk vd, ⟨#[]⟩, dk, []⟩ none 0) := X88.out.later (drewN_below _ 1)
        have d5 := XD.out.c5
        have d5b : w88.cell? ⟨w3.heap.size, 5, none⟩ = some (.string dk) := d5
        refine wpAny_take (i := 0) (v := ?_) rfl (by kernel_rfl) (by kernel_rfl) (by kernel_rfl) (fun _ _ _ h => h) (Or.inl ⟨by rfl, ?hy7⟩) ?_
        case hy7 => (intro w; go_simp; try with_reducible rfl)
        try simp only [Act.put, List.setIfInBounds_toArray, List.set_cons_zero, List.set_cons_succ]
        refine wpAny_take (i := 2) (v := ?_) rfl (by kernel_rfl) (by kernel_rfl) (by kernel_rfl) (fun _ _ _ h => h) (Or.inl ⟨by rfl, ?hy8⟩) ?_
        case hy8 => (intro w; go_simp; try with_reducible rfl)
        try simp only [Act.put, List.setIfInBounds_toArray, List.set_cons_zero, List.set_cons_succ]
        refine wpAny_ready (rs := [1, 3]) (by kernel_rfl) (by simp) ?_
        refine AllReady.cons rfl (fun K hK => ?_) (AllReady.cons rfl (fun K hK => ?_) AllReady.nil)
        · go_simp
          refine hK _ _ ?_
          clear hK K
          try simp only [Act.put, List.setIfInBounds_toArray, List.set_cons_zero, List.set_cons_succ]
          refine wpAny_ready (rs := [3]) (by kernel_rfl) (by simp) ?_
          refine AllReady.cons rfl (fun K hK => ?_) AllReady.nil
          go_simp
          go_at_call 49
          refine (HLW.out _).mono ?_
          rintro e w9 ⟨rfl, b9⟩
          have X9 : Hid (Bx w9 w3.heap.size ⟨0, 0, ((ss.length : Nat) : Int), mk vd, ⟨#[]⟩, dk, []⟩ none 0) := XD.out.later b9
          have K9 : Hid (Kept (fun q => q = w3.heap.size) w7 w9) := KP.out.below (bel2 BK.out (bel2 (drewN_below _ 1) b9))
          have d59 := X9.out.c5
          have f59 := X9.out.fz 5
          clear b9
          refine hK _ _ ?_
          clear hK K
          try simp only [Act.put, List.setIfInBounds_toArray, List.set_cons_zero, List.set_cons_succ]
          refine wpAny_take (i := 4) (v := ?_) rfl (by kernel_rfl) (by kernel_rfl) (by kernel_rfl) (fun _ _ _ h => h) (Or.inl ⟨by rfl, ?hy9⟩) ?_
          case hy9 => (intro w; go_simp; try with_reducible rfl)
          try simp only [Act.put, List.setIfInBounds_toArray, List.set_cons_zero, List.set_cons_succ]
          refine wpAny_take (i := 5) (v := ?_) rfl (by kernel_rfl) (by kernel_rfl) (by kernel_rfl) (fun _ _ _ h => h) (Or.inl ⟨by rfl, ?hy10⟩) ?_
          case hy10 => (intro w; go_simp; try with_reducible rfl)
          try simp only [Act.put, List.setIfInBounds_toArray, List.set_cons_zero, List.set_cons_succ]
          refine wpAny_ready (rs := [6]) (by kernel_rfl) (by simp) ?_
          refine AllReady.cons rfl (fun K hK => ?_) AllReady.nil
          go_simp
          refine hK _ _ ?_
          clear hK K
          try simp only [Act.put, List.setIfInBounds_toArray, List.set_cons_zero, List.set_cons_succ]
          refine wpAny_done (by kernel_rfl) ?_ _
          refine NoPanic.normal ?_
          obtain ⟨w10, e10, x10, k10, _⟩ := X9.out.set5 (dk ++ mk (Plain.low (wrapN X') 8))
          rw [e10]
          have X10 : Hid (Bx w10 w3.heap.size ⟨0, 0, ((ss.length : Nat) : Int), mk vd, ⟨#[]⟩, mk (D (k + 1)), []⟩ none 0) := by rw [HSK.out, ← app_mk, hdk]; exact x10
          have K10 : Hid (Kept (fun q => q = w3.heap.size) w7 w10) := k10 _ _ rfl K9.out
          clear e10 x10 k10 d5 d5b d59 f59
          go_wp2
          go_roundw
          case rel => exact ⟨k + 1, by omega, by go_num, X10.out, K10.out⟩
          case measure => simp [intOf]; omega
        · go_simp
          go_at_call 49
          refine (HLW.out _).mono ?_
          rintro e w9 ⟨rfl, b9⟩
          have X9 : Hid (Bx w9 w3.heap.size ⟨0, 0, ((ss.length : Nat) : Int), mk vd, ⟨#[]⟩, dk, []⟩ none 0) := XD.out.later b9
          have K9 : Hid (Kept (fun q => q = w3.heap.size) w7 w9) := KP.out.below (bel2 BK.out (bel2 (drewN_below _ 1) b9))
          have d59 := X9.out.c5
          have f59 := X9.out.fz 5
          clear b9
          refine hK _ _ ?_
          clear hK K
          try simp only [Act.put, List.setIfInBounds_toArray, List.set_cons_zero, List.set_cons_succ]
          refine wpAny_ready (rs := [1]) (by kernel_rfl) (by simp) ?_
          refine AllReady.cons rfl (fun K hK => ?_) AllReady.nil
          go_simp
          refine hK _ _ ?_
          clear hK K
          try simp only [Act.put, List.setIfInBounds_toArray, List.set_cons_zero, List.set_cons_succ]
          refine wpAny_take (i := 4) (v := ?_) rfl (by kernel_rfl) (by kernel_rfl) (by kernel_rfl) (fun _ _ _ h => h) (Or.inl ⟨by rfl, ?hy11⟩) ?_
          case hy11 => (intro w; go_simp; try with_reducible rfl)
          try simp only [Act.put, List.setIfInBounds_toArray, List.set_cons_zero, List.set_cons_succ]
          refine wpAny_take (i := 5) (v := ?_) rfl (by kernel_rfl) (by kernel_rfl) (by kernel_rfl) (fun _ _ _ h => h) (Or.inl ⟨by rfl, ?hy12⟩) ?_
          case hy12 => (intro w; go_simp; try with_reducible rfl)
          try simp only [Act.put, List.setIfInBounds_toArray, List.set_cons_zero, List.set_cons_succ]
          refine wpAny_ready (rs := [6]) (by kernel_rfl) (by simp) ?_
          refine AllReady.cons rfl (fun K hK => ?_) AllReady.nil
          go_simp
          refine hK _ _ ?_
          clear hK K
          try simp only [Act.put, List.setIfInBounds_toArray, List.set_cons_zero, List.set_cons_succ]
          refine wpAny_done (by kernel_rfl) ?_ _
          refine NoPanic.normal ?_
          obtain ⟨w10, e10, x10, k10, _⟩ := X9.out.set5 (dk ++ mk (Plain.low (wrapN X') 8))
          rw [e10]
          have X10 : Hid (Bx w10 w3.heap.size ⟨0, 0, ((ss.length : Nat) : Int), mk vd, ⟨#[]⟩, mk (D (k + 1)), []⟩ none 0) := by rw [HSK.out, ← app_mk, hdk]; exact x10
          have K10 : Hid (Kept (fun q => q = w3.heap.size) w7 w10) := k10 _ _ rfl K9.out
          clear e10 x10 k10 d5 d5b d59 f59
          go_wp2
          go_roundw
          case rel => exact ⟨k + 1, by omega, by go_num, X10.out, K10.out⟩
          case measure => simp [intOf]; omega
    · obtain rfl : k = ss.length := by omega
      have i3 : ((ss.length : Nat) : Int) ≤ 64 := by omega
      have cT := HCR.out
      have n0 := cell_later BR.out HN0.out
      have XF : Hid (Bx wr w3.heap.size ⟨0, 0, ((ss.length : Nat) : Int), mk vd, ⟨#[]⟩, mk (D ss.length), []⟩ none 0) := XB.out
      have zD : ((mk (D ss.length)).size : Int) ≤ 4096 := by rw [size_mk, HDL.out _ hk2]; omega
      have BF : Hid (Below w.heap.size w wr) := BR.out
      have XRF : Hid (Bx wr w1.heap.size nil none 0) := XRR.out
      have i9 : ByteArray.size ⟨#[]⟩ = 0 := rfl
      go_wp2_with fail
      refine wp_loop_rounds 1 ?_
      rw [rounds_succ]
      go_wp2_with fail
      have XD : Hid (Bx wr.drew w3.heap.size (⟨0, 0, ((ss.length : Nat) : Int), mk vd, ⟨#[]⟩, (mk (D ss.length)), []⟩) none 0) := XF.out.later (drewN_below _ 1)
      have XRD : Hid (Bx wr.drew w1.heap.size nil none 0) := XRF.out.later (drewN_below _ 1)
      have KR : Hid (wr.drew.cell? ⟨w3.heap.size, 0, none⟩ = some (.int .i64 0) ∧ wr.drew.cell? ⟨w3.heap.size, 1, none⟩ = some (.int .i64 0) ∧ wr.drew.cell? ⟨w3.heap.size, 2, none⟩ = some (.int .i64 ((ss.length : Nat) : Int)) ∧ wr.drew.cell? ⟨w3.heap.size, 3, none⟩ = some (.string (mk vd)) ∧ wr.drew.cell? ⟨w3.heap.size, 4, none⟩ = some (.string ⟨#[]⟩) ∧ wr.drew.cell? ⟨w3.heap.size, 5, none⟩ = some (.string (mk (D ss.length))) ∧ wr.drew.cell? ⟨w3.heap.size, 6, none⟩ = some (.slice none 0 0)) := ⟨XD.out.c0, XD.out.c1, XD.out.c2, XD.out.c3, XD.out.c4, XD.out.c5, XD.out.c6⟩
      have HBD : Hid (Below w.heap.size w wr.drew) := bel2 BF.out (drewN_below _ 1)
      have HWD : Hid (∀ b : Nat, wr.drew.heap[b]? = wr.heap[b]?) := fun _ => rfl
      refine wp_region_noPanic ?_
      refine wp_region_held_drew (S := fun W : World => W.cell? ⟨w3.heap.size, 0, none⟩ = some (.int .i64 0) ∧ W.cell? ⟨w3.heap.size, 1, none⟩ = some (.int .i64 0) ∧ W.cell? ⟨w3.heap.size, 2, none⟩ = some (.int .i64 ((ss.length : Nat) : Int)) ∧ W.cell? ⟨w3.heap.size, 3, none⟩ = some (.string (mk vd)) ∧ W.cell? ⟨w3.heap.size, 4, none⟩ = some (.string ⟨#[]⟩) ∧ W.cell? ⟨w3.heap.size, 5, none⟩ = some (.string (mk (D ss.length))) ∧ W.cell? ⟨w3.heap.size, 6, none⟩ = some (.slice none 0 0)) (by kernel_rfl) KR.out (fun h0 => ?_)
      generalize wr.drew = wd at *
      refine take_at (i := 0) (d := some 211) (v := ?v0t13) rfl rfl (by kernel_rfl) (by kernel_rfl) (by kernel_rfl) (fun _ _ _ h => h) (Or.inl ⟨by rfl, ?y0t13⟩) h0 ?r0t13
      case y0t13 => (intro w' hSw; (try dsimp only at hSw); go_simp; try with_reducible rfl)
      try simp only [Act.put, List.setIfInBounds_toArray, List.set_cons_zero, List.set_cons_succ]
      refine take_at (i := 1) (d := some 212) (v := ?v1t13) rfl rfl (by kernel_rfl) (by kernel_rfl) (by kernel_rfl) (fun _ _ _ h => h) (Or.inl ⟨by rfl, ?y1t13⟩) h0 ?r1t13
      case y1t13 => (intro w' hSw; (try dsimp only at hSw); go_simp; try with_reducible rfl)
      try simp only [Act.put, List.setIfInBounds_toArray, List.set_cons_zero, List.set_cons_succ]
      refine take_at (i := 2) (d := some 213) (v := ?v2t13) rfl rfl (by kernel_rfl) (by kernel_rfl) (by kernel_rfl) (fun _ _ _ h => h) (Or.inl ⟨by rfl, ?y2t13⟩) h0 ?r2t13
      case y2t13 => (intro w' hSw; (try dsimp only at hSw); go_simp; try with_reducible rfl)
      try simp only [Act.put, List.setIfInBounds_toArray, List.set_cons_zero, List.set_cons_succ]
      refine take_at (i := 3) (d := some 214) (v := ?v3t13) rfl rfl (by kernel_rfl) (by kernel_rfl) (by kernel_rfl) (fun _ _ _ h => h) (Or.inl ⟨by rfl, ?y3t13⟩) h0 ?r3t13
      case y3t13 => (intro w' hSw; (try dsimp only at hSw); go_simp; try with_reducible rfl)
      try simp only [Act.put, List.setIfInBounds_toArray, List.set_cons_zero, List.set_cons_succ]
      refine take_at (i := 4) (d := some 215) (v := ?v4t13) rfl rfl (by kernel_rfl) (by kernel_rfl) (by kernel_rfl) (fun _ _ _ h => h) (Or.inl ⟨by rfl, ?y4t13⟩) h0 ?r4t13
      case y4t13 => (intro w' hSw; (try dsimp only at hSw); go_simp; try with_reducible rfl)
      try simp only [Act.put, List.setIfInBounds_toArray, List.set_cons_zero, List.set_cons_succ]
      refine take_at (i := 5) (d := some 216) (v := ?v5t13) rfl rfl (by kernel_rfl) (by kernel_rfl) (by kernel_rfl) (fun _ _ _ h => h) (Or.inl ⟨by rfl, ?y5t13⟩) h0 ?r5t13
      case y5t13 => (intro w' hSw; (try dsimp only at hSw); go_simp; try with_reducible rfl)
      try simp only [Act.put, List.setIfInBounds_toArray, List.set_cons_zero, List.set_cons_succ]
      refine take_at (i := 6) (d := some 217) (v := ?v6t13) rfl rfl (by kernel_rfl) (by kernel_rfl) (by kernel_rfl) (fun _ _ _ h => h) (Or.inl ⟨by rfl, ?y6t13⟩) h0 ?r6t13
      case y6t13 => (intro w' hSw; (try dsimp only at hSw); go_simp; try with_reducible rfl)
      try simp only [Act.put, List.setIfInBounds_toArray, List.set_cons_zero, List.set_cons_succ]
      refine take_at (i := 7) (d := some 218) (v := ?v7t13) rfl rfl (by kernel_rfl) (by kernel_rfl) (by kernel_rfl) (fun _ _ _ h => h) (Or.inl ⟨by rfl, ?y7t13⟩) h0 ?r7t13
      case y7t13 => (intro w' hSw; (try dsimp only at hSw); go_simp; try with_reducible rfl)
      try simp only [Act.put, List.setIfInBounds_toArray, List.set_cons_zero, List.set_cons_succ]
      refine take_at (i := 8) (d := some 219) (v := ?v8t13) rfl rfl (by kernel_rfl) (by kernel_rfl) (by kernel_rfl) (fun _ _ _ h => h) (Or.inl ⟨by rfl, ?y8t13⟩) h0 ?r8t13
      case y8t13 => (intro w' hSw; (try dsimp only at hSw); go_simp; try with_reducible rfl)
      try simp only [Act.put, List.setIfInBounds_toArray, List.set_cons_zero, List.set_cons_succ]
      refine take_at (i := 9) (d := some 220) (v := ?v9t13) rfl rfl (by kernel_rfl) (by kernel_rfl) (by kernel_rfl) (fun _ _ _ h => h) (Or.inl ⟨by rfl, ?y9t13⟩) h0 ?r9t13
      case y9t13 => (intro w' hSw; (try dsimp only at hSw); go_simp; try with_reducible rfl)
      try simp only [Act.put, List.setIfInBounds_toArray, List.set_cons_zero, List.set_cons_succ]
      refine take_at (i := 10) (d := some 221) (v := ?v10t13) rfl rfl (by kernel_rfl) (by kernel_rfl) (by kernel_rfl) (fun _ _ _ h => h) (Or.inl ⟨by rfl, ?y10t13⟩) h0 ?r10t13
      case y10t13 => (intro w' hSw; (try dsimp only at hSw); go_simp; try with_reducible rfl)
      try simp only [Act.put, List.setIfInBounds_toArray, List.set_cons_zero, List.set_cons_succ]
      refine wpAnyH_ready (rs := [11]) (by kernel_rfl) (by simp) ?_
      refine AllReadyH.cons rfl (fun K hK => ?_) AllReadyH.nil
      have g0 := XRD.out.fz 0
      have r0 := XRD.out.c0
      have g1 := XRD.out.fz 1
      have r1 := XRD.out.c1
      have g2 := XRD.out.fz 2
      have r2 := XRD.out.c2
      have g3 := XRD.out.fz 3
      have r3 := XRD.out.c3
      have g4 := XRD.out.fz 4
      have r4 := XRD.out.c4
      have g5 := XRD.out.fz 5
      have r5 := XRD.out.c5
      have g6 := XRD.out.fz 6
      have r6 := XRD.out.c6
      go_simp
      obtain ⟨w9, e9, x9, h9, b9⟩ := set7 XRD.out (⟨0, 0, ((ss.length : Nat) : Int), mk vd, ⟨#[]⟩, (mk (D ss.length)), []⟩) none 0
      have e9b : (((((((wd).setCell ⟨w1.heap.size, 0, none⟩ (.int .i64 0)).setCell ⟨w1.heap.size, 1, none⟩ (.int .i64 0)).setCell ⟨w1.heap.size, 2, none⟩ (.int .i64 ((ss.length : Nat) : Int))).setCell ⟨w1.heap.size, 3, none⟩ (.string (mk vd))).setCell ⟨w1.heap.size, 4, none⟩ (.string ⟨#[]⟩)).setCell ⟨w1.heap.size, 5, none⟩ (.string (mk (D ss.length)))).setCell ⟨w1.heap.size, 6, none⟩ (.slice none 0 0) = w9 := e9
      rw [e9b]
      have X9 : Hid (Bx w9 w3.heap.size (⟨0, 0, ((ss.length : Nat) : Int), mk vd, ⟨#[]⟩, (mk (D ss.length)), []⟩) none 0) := ⟨(h9 _ (by omega)).trans XD.out.blk⟩
      have XR9 : Hid (Bx w9 w1.heap.size (⟨0, 0, ((ss.length : Nat) : Int), mk vd, ⟨#[]⟩, (mk (D ss.length)), []⟩) none 0) := x9
      have KE : Hid (w9.cell? ⟨w3.heap.size, 0, none⟩ = some (.int .i64 0) ∧ w9.cell? ⟨w3.heap.size, 1, none⟩ = some (.int .i64 0) ∧ w9.cell? ⟨w3.heap.size, 2, none⟩ = some (.int .i64 ((ss.length : Nat) : Int)) ∧ w9.cell? ⟨w3.heap.size, 3, none⟩ = some (.string (mk vd)) ∧ w9.cell? ⟨w3.heap.size, 4, none⟩ = some (.string ⟨#[]⟩) ∧ w9.cell? ⟨w3.heap.size, 5, none⟩ = some (.string (mk (D ss.length))) ∧ w9.cell? ⟨w3.heap.size, 6, none⟩ = some (.slice none 0 0)) := ⟨X9.out.c0, X9.out.c1, X9.out.c2, X9.out.c3, X9.out.c4, X9.out.c5, X9.out.c6⟩
      have HB9 : Hid (Below w.heap.size w w9) := HBD.out.trans (b9 w.heap.size (by omega))
      have HH9 : Hid (∀ b, b ≠ w1.heap.size → w9.heap[b]? = wr.heap[b]?) := fun b hb => (h9 b hb).trans (HWD.out b)
      clear e9 e9b x9 h9 b9 KR h0
      refine hK.out _ _ KE.out (fun h1 => ?_)
      clear hK K
      try simp only [Act.put, List.setIfInBounds_toArray, List.set_cons_zero, List.set_cons_succ]
      refine take_at (i := 12) (d := some 7) (v := ?v12t13) rfl rfl (by kernel_rfl) (by kernel_rfl) (by kernel_rfl) (fun _ _ _ h => h) (Or.inl ⟨by rfl, ?y12t13⟩) h1 ?r12t13
      case y12t13 => (intro w' hSw; (try dsimp only at hSw); go_simp; try with_reducible rfl)
      try simp only [Act.put, List.setIfInBounds_toArray, List.set_cons_zero, List.set_cons_succ]
      refine wpAnyH_done (by kernel_rfl) ?_ _
      refine NoPanic.normal ?_
      have q0 := XR9.out.c0
      have q1 := XR9.out.c1
      have q2 := XR9.out.c2
      have q3 := XR9.out.c3
      have q4 := XR9.out.c4
      have q5 := XR9.out.c5
      have q6 := XR9.out.c6
      have HFIN : Hid (BuildQ B (f + 1) ns n (ss.map bl) w (.returned (.tuple #[.agg #[.int .i64 0, .int .i64 0, .int .i64 ((ss.length : Nat) : Int), .string (mk vd), .string ⟨#[]⟩, .string (mk (D ss.length)), .slice none 0 0], .bool true])) w9) := leaf_done hB HBU.out rfl HB9.out
      go_wp2
      exact bodyPost_ret (v := .tuple #[.agg #[.int .i64 0, .int .i64 0, .int .i64 ((ss.length : Nat) : Int), .string (mk vd), .string ⟨#[]⟩, .string (mk (D ss.length)), .slice none 0 0], .bool true]) (by simp [results, Tryz.results62, go_sem, q0, q1, q2, q3, q4, q5, q6]) rfl HFIN.out
end Go.Proofs.YtcpfhfdgfcilaaaGreatDoor.Arr
set_option linter.unusedVariables false
set_option linter.unusedSimpArgs false
namespace Go.Proofs.YtcpfhfdgfcilaaaGreatDoor.Arr
open Go.ChangeShapes Go.WideShapes Go.ChangeAt Go.RowKit
open Tree Val

/-- Is a text a truth that is so? -/
def isT (s : ByteArray) : Bool := decide (bl s = [116])
theorem isT_walk (s : ByteArray) : (s.toList == [116]) = isT s := by
  unfold isT
  rw [ByteArray.toList_eq]
  by_cases c : bl s = [116]
  · rw [show s.data.toList = [116] from c, decide_eq_true c]
    rfl
  · rw [decide_eq_false c]
    exact beq_eq_false_iff_ne.2 c
def tTo (ss : List ByteArray) (k : Nat) : List Value := (ss.take k).map fun s => .bool (isT s)
set_option maxRecDepth 20000 in
set_option maxHeartbeats 3200000 in
theorem buildBool (B f g : Nat) (hB : 4096 ≤ B) (ns : List Nd) (oT : Option Addr) (capT n : Nat) (ss : List ByteArray) (o : Option Addr) (cap : Nat) (w : World) (hn : n < ns.length) (hm : may ns = true) (hF : AllFit ns (g + 1) n (ss.map bl)) (h64 : ss.length ≤ 64) (hx : Texts.IsTx w o ss) (ht : IsT w oT ns) (hk : (nd ns n).kind = 1) :
    Calls Tryz.prog 62 #[.agg #[.slice oT ns.length capT], .int .i64 (n : Int), .slice o ss.length cap] w (BuildQ B (f + 1) ns n (ss.map bl) w) := by
  obtain ⟨w1, e1, s1, c1, b1⟩ := boxed w (.slice oT ns.length capT) 24
  obtain ⟨w2, e2', x2, b2, z2⟩ := box7 w1 nil none 0
  have e2 : w1.alloc (.cells #[.int .i64 0, .int .i64 0, .int .i64 0, .string ⟨#[]⟩, .string ⟨#[]⟩, .string ⟨#[]⟩, .slice none 0 0] 27) = w2 := e2'
  clear e2'
  have hS1 : w.heap.size < w1.heap.size := s1
  have hS2 : w1.heap.size < w2.heap.size := z2
  have B2 : Hid (Below w.heap.size w w2) := bel2 b1 b2
  have HCT : Hid (w2.cell? ⟨w.heap.size, 0, none⟩ = some (.slice oT ns.length capT)) := cell_later b2 c1
  obtain ⟨x, rfl, hl⟩ := ht.some (by omega)
  have HLI : Hid (Lies w x ns) := hl
  have HT : Hid (IsT w (some x) ns) := ht
  have HTX : Hid (Texts.IsTx w o ss) := hx
  have hM := may_of hm
  have HVAL : Hid (∀ v, Below w.heap.size w v → Calls Tryz.prog 112 #[.slice o ss.length cap] v fun r w' => r = .returned (.string (mk (validOf (ss.map bl)))) ∧ Below v.heap.size v w') := fun v hv => validR o cap ss (by omega) v (hx.later hv)
  have HKS : Hid (∀ v, Below w.heap.size w v → Calls Tryz.prog 83 #[.agg #[.slice (some x) ns.length capT], .int .i64 (n : Int)] v fun r w' => ∃ o c, r = .returned (.tuple #[.slice o (kids ns n).length c, .int .i64 0]) ∧ w'.ownsRow v.heap.size 3 1 (.slice o (kids ns n).length c) (kids ns n).length (ints (kids ns n)) ∧ Below v.heap.size v w') := fun v hv => by
    have hB : hasB ns (n : Int) = true := by unfold hasB; rw [hm, decide_eq_true (by omega)]; rfl
    have hKA : kidsA ns (n : Int) = kids ns n := by unfold kidsA; rw [if_pos hB]
    have := kidsR (some x) capT ns (n : Int) v (HT.out.later hv)
    rw [hB, hKA] at this
    exact this
  have j0 : (0 : Int) ≤ (n : Int) := Int.natCast_nonneg _
  have j1 : (n : Int) < (ns.length : Int) := by omega
  have hL : Tree.isLeaf (nd ns n).kind = true := by rw [hk]; rfl
  have hK0 : kids ns n = [] := hM.leaf n hn hL
  rw [hK0] at HKS
  have HBU : Hid (buildF ns (f + 1) n (ss.map bl) = some (built ns f n (ss.map bl))) := leaf_build hM hn hL hF (by rw [List.length_map]; exact h64)
  have HLM : (ss.map bl).length = ss.length := List.length_map ..
  have HAT : Hid (∀ k, k < ss.length → TellA (ss.getD k ByteArray.empty) (tellV (bl (ss.getD k ByteArray.empty))).1 ((tellV (bl (ss.getD k ByteArray.empty))).2.map mk) 0) := fun k hk' => any_at (all_at hF hk')
  have HA : Hid (built ns f n (ss.map bl) = ⟨0, 0, ((ss.length : Nat) : Int), mk (validOf (ss.map bl)), ByteArray.empty, mk (Sums.bitsOf (ss.map isT)), []⟩) := by
    unfold Hid built
    rw [HLM, endsOf_none (by omega) (by omega), hK0, data1_all hk, List.map_map]
    rfl
  rw [HA.out] at HBU
  clear hF HA HLM
  have n0 := hl.kind' n hn
  rw [hk] at n0
  have HN0 : Hid (w.cell? (x.add (n * 3)) = some (.int .i64 1)) := n0
  generalize hvd : validOf (ss.map bl) = vd at *
  have q0 : decide ((64 : Int) < ((ss.length : Nat) : Int)) = false := decide_eq_false (by omega)
  have hlen0 : (0 : Int) ≤ ((ss.length : Nat) : Int) := Int.natCast_nonneg _
  have B1 : Hid (Below w.heap.size w w1) := b1
  clear s1 c1 b1 b2 hl hx ht z2 n0
  go_enter Tryz.func62, Tryz.ntmps62
  go_wp2_with fail
  refine (HVAL.out w2 B2.out).mono ?_
  rintro e w3 ⟨rfl, b3⟩
  have B3 : Hid (Below w.heap.size w w3) := bel2 B2.out b3
  have hS3 := b3.size
  have XR3 : Hid (Bx w3 w1.heap.size nil none 0) := x2.later b3
  have HC3 : Hid (w3.cell? ⟨w.heap.size, 0, none⟩ = some (.slice (some x) ns.length capT)) := cell_later b3 HCT.out
  obtain ⟨w4, e4', x4, b4, z4⟩ := box7 w3 nil none 0
  have e4 : w3.alloc (.cells #[.int .i64 0, .int .i64 0, .int .i64 0, .string ⟨#[]⟩, .string ⟨#[]⟩, .string ⟨#[]⟩, .slice none 0 0] 27) = w4 := e4'
  have m0 := x4.c0
  have m1 := x4.c1
  have m2 := x4.c2
  have m3 := x4.c3
  have m4 := x4.c4
  have m5 := x4.c5
  have m6 := x4.c6
  have f0 := x4.fz 0
  have f1 := x4.fz 1
  have f2 := x4.fz 2
  have f3 := x4.fz 3
  have f4 := x4.fz 4
  have f5 := x4.fz 5
  have f6 := x4.fz 6
  clear e4' b3 x2 e1 e2
  go_upto_region 2 with fail
  obtain ⟨w5, e5, x5, h5, k5⟩ := set7 x4 ⟨0, 0, ((ss.length : Nat) : Int), mk vd, ⟨#[]⟩, ⟨#[]⟩, []⟩ none 0
  have e5' : ((((((w4.setCell ⟨w3.heap.size, 0, none⟩ (.int .i64 0)).setCell ⟨w3.heap.size, 1, none⟩ (.int .i64 0)).setCell ⟨w3.heap.size, 2, none⟩ (.int .i64 ((ss.length : Nat) : Int))).setCell ⟨w3.heap.size, 3, none⟩ (.string (mk vd))).setCell ⟨w3.heap.size, 4, none⟩ (.string ⟨#[]⟩)).setCell ⟨w3.heap.size, 5, none⟩ (.string ⟨#[]⟩)).setCell ⟨w3.heap.size, 6, none⟩ (.slice none 0 0) = w5 := e5
  rw [e5']
  obtain ⟨i4, hi4, hz40, hz41, hz42⟩ := info_parts Bit.info4
  have B5 : Hid (Below w.heap.size w w5) := (bel2 B3.out b4).trans (k5 w.heap.size (by omega))
  have XR4 := XR3.out.later b4
  have XR5 : Hid (Bx w5 w1.heap.size nil none 0) := ⟨(h5 _ (by omega)).trans XR4.blk⟩
  have HC5 : Hid (w5.cell? ⟨w.heap.size, 0, none⟩ = some (.slice (some x) ns.length capT)) := (World.cell?_of_block (w := w4) (h5 w.heap.size (by omega))).trans (cell_later b4 HC3.out)
  have X5 : Hid (Bx w5 w3.heap.size ⟨0, 0, ((ss.length : Nat) : Int), mk vd, ⟨#[]⟩, ⟨#[]⟩, []⟩ none 0) := x5
  have hS5 : w3.heap.size < w5.heap.size := x5.lt
  have cT := HC5.out
  clear m0 m1 m2 m3 m4 m5 m6 f0 f1 f2 f3 f4 f5 f6 e5 e5' e4 x5 x4 b4 z4 h5 k5 XR4
  go_wp2_with fail
  refine (HKS.out w5 B5.out).mono ?_
  rintro e w6 ⟨oK, cK, rfl, hownK, b6⟩
  have B6 : Hid (Below w5.heap.size w5 w6) := b6
  rw [show ([] : List Nat).length = 0 from rfl]
  obtain ⟨cur, hmk, hcs, hcn⟩ := make_rows 0 (by decide) w6
  replace hmk : (Instr.makeSlice 110 (.int .i64 0) (.int .i64 0)).run Tryz.prog w6 = .ok (.slice (some ⟨w6.heap.size, 0, none⟩) 0 0) (w6.alloc (.cells cur 29)) := hmk
  obtain ⟨w7, e7⟩ : ∃ w7, w6.alloc (.cells cur 29) = w7 := ⟨_, rfl⟩
  rw [e7] at hmk
  have b7 : Below w6.heap.size w6 w7 := by rw [← e7]; exact (Below.refl _ _).alloc (Nat.le_refl _) _
  have B57 : Hid (Below w5.heap.size w5 w7) := bel2 b6 b7
  have B7 : Hid (Below w.heap.size w w7) := bel2 B5.out B57.out
  have X7 : Hid (Bx w7 w3.heap.size ⟨0, 0, ((ss.length : Nat) : Int), mk vd, ⟨#[]⟩, ⟨#[]⟩, []⟩ none 0) := X5.out.later B57.out
  have XR7 : Hid (Bx w7 w1.heap.size nil none 0) := XR5.out.later B57.out
  have HC7 : Hid (w7.cell? ⟨w.heap.size, 0, none⟩ = some (.slice (some x) ns.length capT)) := cell_later B57.out HC5.out
  clear b6 b7 hownK e7 cT hcs hcn
  go_wp2_with fail
  go_loopw [12, 13, 14, 15, 16] (fun v i _ _ _ wr => ∃ (k : Nat) (ov : Option Addr) (cv : Nat), k ≤ ss.length ∧ i = .int .i64 (k : Int) ∧ v = .slice ov k cv ∧ wr.ownsRow w7.heap.size 4 1 (.slice ov k cv) k (tTo ss k) ∧ Bx wr w3.heap.size ⟨0, 0, ((ss.length : Nat) : Int), mk vd, ⟨#[]⟩, ⟨#[]⟩, []⟩ none 0 ∧ Kept (fun q => q = w3.heap.size) w7 wr) (fun _ i _ _ _ _ => ss.length - (intOf i).toNat)
  case atStart => exact ⟨0, none, 0, Nat.zero_le _, rfl, rfl, by simpa [tTo] using World.ownsRow_nil w7 w7.heap.size 4 1, X7.out, Kept.refl _ _⟩
  case round =>
    obtain ⟨k, ov, cv, hk2, rfl, rfl, hown, hbx, hkp⟩ := hrel
    have HOWN : Hid (wr.ownsRow w7.heap.size 4 1 (.slice ov k cv) k (tTo ss k)) := hown
    have KP : Hid (Kept (fun q => q = w3.heap.size) w7 wr) := hkp
    have BR : Hid (Below w.heap.size w wr) := hkp.down B7.out (fun q hq => by rw [hq]; omega)
    have HCR : Hid (wr.cell? ⟨w.heap.size, 0, none⟩ = some (.slice (some x) ns.length capT)) := hkp.cell HC7.out (by show ¬ (w.heap.size = w3.heap.size); omega)
    have XRR : Hid (Bx wr w1.heap.size nil none 0) := ⟨hkp.heap XR7.out.blk (by show ¬ (w1.heap.size = w3.heap.size); omega)⟩
    have XB : Hid (Bx wr w3.heap.size ⟨0, 0, ((ss.length : Nat) : Int), mk vd, ⟨#[]⟩, ⟨#[]⟩, []⟩ none 0) := hbx
    clear hkp hbx hown
    by_cases hlt : k < ss.length
    ·
      obtain ⟨y, rfl, hy⟩ := tx_at HTX.out (by omega)
      have cs := cell_later BR.out (hy k hlt)
      have i0 : (0 : Int) ≤ (k : Int) := Int.natCast_nonneg _
      have i1 : (k : Int) < ((ss.length : Nat) : Int) := by omega
      clear hy
      have hT := HAT.out k hlt
      have HS0 : Hid (wr.cell? (y.add k) = some (.string (ss.getD k ByteArray.empty))) := cs
      have e2 : ss.take (k + 1) = ss.take k ++ [ss.getD k ByteArray.empty] := by
        rw [List.take_add_one, List.getElem?_eq_getElem hlt, Option.toList_some, List.getD_eq_getElem?_getD, List.getElem?_eq_getElem hlt, Option.getD_some]
      have HT1 : Hid (tTo ss (k + 1) = tTo ss k ++ [.bool (isT (ss.getD k ByteArray.empty))]) := by unfold Hid tTo; rw [e2]; simp
      clear e2
      generalize ss.getD k ByteArray.empty = s at *
      have HPC : Hid (∀ v, Calls Tryz.prog 111 #[.string s] v fun r w' => ∃ o cap, r = .returned (.tuple #[.int .i64 (tellV (bl s)).1, .slice o ((tellV (bl s)).2.map mk).length cap, .int .i64 0]) ∧ w'.ownsRow v.heap.size 9 1 (.slice o ((tellV (bl s)).2.map mk).length cap) ((tellV (bl s)).2.map mk).length (Texts.cellsT ((tellV (bl s)).2.map mk)) ∧ Below v.heap.size v w') := fun v => partsR s _ _ 0 hT v
      have HW := isT_walk s
      have hlen8 : 0 ≤ ((tellV (bl s)).2.map mk).length := Nat.zero_le _
      generalize (tellV (bl s)).1 = K at *
      generalize (tellV (bl s)).2.map mk = ps at *
      generalize isT s = bb at *
      have cT := HCR.out
      clear hT hlen8
      go_wp2_with fail
      refine (HPC.out wr).mono ?_
      rintro e w8 ⟨oP, cP, rfl, _, b8⟩
      have B8 : Hid (Below wr.heap.size wr w8) := b8
      clear cs cT b8
      have cT := cell_later B8.out HCR.out
      have n0 := cell_later (bel2 BR.out B8.out) HN0.out
      have cs := cell_later B8.out HS0.out
      have hown8 : w8.ownsRow w7.heap.size 4 1 (.slice ov k cv) k (tTo ss k) := row_later HOWN.out B8.out
      have hz8 : w7.heap.size ≤ w8.heap.size := Nat.le_trans KP.out.size B8.out.size
      have hk64 : k ≤ 64 := by omega
      go_wp2_with (at_builtin; refine wpList_append_own _ rfl (.tmp 109) (.tmp 115) 115 rfl w7.heap.size 4 i4 (.bool false) 1 1 Tryz.underlying115 hi4 hz40 hz41 hz42 rfl (by decide) _ k _ rfl (hown8.alloc _) ⟨w8.heap.size, 0, none⟩ 1 1 [.bool bb] rfl rfl ?c1 ?c2 ?c3 ?c4 ?c5 ?_)
      case c1 =>
        intro j u hj
        match j, hj with
        | 0, hj => simp at hj; subst hj; simp [Addr.add]
      case c2 => intro u hu; simp at hu; subst hu; rfl
      case c3 => unfold maxLen; omega
      case c4 => omega
      case c5 => simp; omega
      intro u9 w9 hown9 hgrow _
      have K9 : Hid (Kept (fun q => q = w3.heap.size) w7 w9) := (KP.out.below (bel2 B8.out ((Below.refl _ _).alloc (Nat.le_refl _) _))).grown hgrow (fun j hj => .inr (hown8.lt j hj).1)
      have X9 : Hid (Bx w9 w3.heap.size ⟨0, 0, ((ss.length : Nat) : Int), mk vd, ⟨#[]⟩, ⟨#[]⟩, []⟩ none 0) := ⟨(hgrow.block _ (by have := X7.out.lt; simp; omega) (fun c => by have := (hown8.lt _ c.symm).1; have := X7.out.lt; omega)).trans (((XB.out.later B8.out).later ((Below.refl _ _).alloc (Nat.le_refl _) _)).blk)⟩
      obtain ⟨o9, c9, rfl⟩ := ownsRow_len hown9
      have HO9 : Hid (w9.ownsRow w7.heap.size 4 1 (.slice o9 (k + 1) c9) (k + 1) (tTo ss (k + 1))) := by
        unfold Hid
        rw [HT1.out]
        exact hown9
      clear hown9 hgrow hown8 cT n0 cs
      go_wp2
      go_roundw
      case rel => exact ⟨k + 1, o9, c9, by omega, by go_num, rfl, HO9.out, X9.out, K9.out⟩
      case measure => simp [intOf]; omega
    · obtain rfl : k = ss.length := by omega
      have i3 : ((ss.length : Nat) : Int) ≤ 64 := by omega
      have cT := HCR.out
      have n0 := cell_later BR.out HN0.out
      have HO : Hid (wr.ownsRow w7.heap.size 4 1 (.slice ov ss.length cv) ss.length ((ss.map isT).map Value.bool)) := by
        have := HOWN.out
        unfold tTo at this
        rw [List.take_length] at this
        unfold Hid
        rw [List.map_map]
        exact this
      have HBC : Hid (Calls Tryz.prog 115 #[.slice ov ss.length cv] wr fun r w' => r = .returned (.string (mk (Sums.bitsOf (ss.map isT)))) ∧ Below wr.heap.size wr w') := by
        have hs : ∀ bs : List Bool, bs.length = (ss.map isT).length → (mk (Sums.ofTo (ss.map isT) bs.length)) = mk (Sums.bitsOf (ss.map isT)) := fun bs hb => by rw [hb]; rfl
        rcases HO.out.2 with ⟨e, e0⟩ | ⟨g, cp, cur, e, hg0, hg, hle, hm', hsz, hx'⟩
        · injection e with e1 e2 e3
          subst e1 e3
          have hnil : ss = [] := List.length_eq_zero_iff.1 e0
          subst hnil
          exact (Bit.bitsOf_nil wr).mono fun r w' h => ⟨h.1, h.2⟩
        · injection e with e1 e2 e3
          subst e1 e3
          have := Bit.bitsOf g cv (ss.map isT) wr (by rw [List.length_map]; omega) (Array.getElem?_eq_some_iff.1 hg).1 (fun i hi => by
            rw [List.length_map] at hi
            have e4 : (cur.toList.take (ss.length * 1))[i]? = ((ss.map isT).map Value.bool)[i]? := by rw [hx']
            rw [List.getElem?_take, if_pos (by omega)] at e4
            simp only [World.cell?, hg]
            rw [show cur[i]? = cur.toList[i]? from by simp, e4]
            simp [List.getD_eq_getElem?_getD, hi])
          rw [List.length_map, ofTo_same] at this
          have e5 : Sums.bitsOf (ss.map isT) = Sums.ofTo (ss.map isT) ss.length := by unfold Sums.bitsOf; rw [List.length_map]
          rw [e5]
          exact this
      have hlb : (mk (Sums.bitsOf (ss.map isT))).size ≤ 8 := by rw [size_mk, Sums.length_bitsOf, List.length_map]; omega
      generalize mk (Sums.bitsOf (ss.map isT)) = bs at *
      clear HO HOWN
      go_wp2_with fail
      refine HBC.out.mono ?_
      rintro e w8 ⟨rfl, b8⟩
      have X8 : Hid (Bx w8 w3.heap.size ⟨0, 0, ((ss.length : Nat) : Int), mk vd, ⟨#[]⟩, ⟨#[]⟩, []⟩ none 0) := XB.out.later b8
      have K8 : Hid (Kept (fun q => q = w3.heap.size) w7 w8) := KP.out.below b8
      have XR8 : Hid (Bx w8 w1.heap.size nil none 0) := XRR.out.later b8
      have HC8 : Hid (w8.cell? ⟨w.heap.size, 0, none⟩ = some (.slice (some x) ns.length capT)) := cell_later b8 HCR.out
      have d58 := X8.out.c5
      have f58 := X8.out.fz 5
      clear cT n0
      go_upto_region 35 with fail
      obtain ⟨wq, eq, xq, kq, hq⟩ := X8.out.set5 bs
      rw [eq]
      have XF : Hid (Bx wq w3.heap.size ⟨0, 0, ((ss.length : Nat) : Int), mk vd, ⟨#[]⟩, bs, []⟩ none 0) := xq
      have KQ : Hid (Kept (fun q => q = w3.heap.size) w7 wq) := kq _ _ rfl K8.out
      have BF : Hid (Below w.heap.size w wq) := KQ.out.down B7.out (fun q hq => by rw [hq]; omega)
      have XRF : Hid (Bx wq w1.heap.size nil none 0) := ⟨(hq _ (by omega)).trans XR8.out.blk⟩
      have zD : (bs.size : Int) ≤ 4096 := by omega
      have i9 : ByteArray.size ⟨#[]⟩ = 0 := rfl
      clear eq xq kq hq d58 f58
      go_wp2_with fail
      refine wp_loop_rounds 1 ?_
      rw [rounds_succ]
      go_wp2_with fail
      have XD : Hid (Bx wq.drew w3.heap.size (⟨0, 0, ((ss.length : Nat) : Int), mk vd, ⟨#[]⟩, bs, []⟩) none 0) := XF.out.later (drewN_below _ 1)
      have XRD : Hid (Bx wq.drew w1.heap.size nil none 0) := XRF.out.later (drewN_below _ 1)
      have KR : Hid (wq.drew.cell? ⟨w3.heap.size, 0, none⟩ = some (.int .i64 0) ∧ wq.drew.cell? ⟨w3.heap.size, 1, none⟩ = some (.int .i64 0) ∧ wq.drew.cell? ⟨w3.heap.size, 2, none⟩ = some (.int .i64 ((ss.length : Nat) : Int)) ∧ wq.drew.cell? ⟨w3.heap.size, 3, none⟩ = some (.string (mk vd)) ∧ wq.drew.cell? ⟨w3.heap.size, 4, none⟩ = some (.string ⟨#[]⟩) ∧ wq.drew.cell? ⟨w3.heap.size, 5, none⟩ = some (.string bs) ∧ wq.drew.cell? ⟨w3.heap.size, 6, none⟩ = some (.slice none 0 0)) := ⟨XD.out.c0, XD.out.c1, XD.out.c2, XD.out.c3, XD.out.c4, XD.out.c5, XD.out.c6⟩
      have HBD : Hid (Below w.heap.size w wq.drew) := bel2 BF.out (drewN_below _ 1)
      have HWD : Hid (∀ b : Nat, wq.drew.heap[b]? = wq.heap[b]?) := fun _ => rfl
      refine wp_region_noPanic ?_
      refine wp_region_held_drew (S := fun W : World => W.cell? ⟨w3.heap.size, 0, none⟩ = some (.int .i64 0) ∧ W.cell? ⟨w3.heap.size, 1, none⟩ = some (.int .i64 0) ∧ W.cell? ⟨w3.heap.size, 2, none⟩ = some (.int .i64 ((ss.length : Nat) : Int)) ∧ W.cell? ⟨w3.heap.size, 3, none⟩ = some (.string (mk vd)) ∧ W.cell? ⟨w3.heap.size, 4, none⟩ = some (.string ⟨#[]⟩) ∧ W.cell? ⟨w3.heap.size, 5, none⟩ = some (.string bs) ∧ W.cell? ⟨w3.heap.size, 6, none⟩ = some (.slice none 0 0)) (by kernel_rfl) KR.out (fun h0 => ?_)
      generalize wq.drew = wd at *
      refine take_at (i := 0) (d := some 211) (v := ?v0t14) rfl rfl (by kernel_rfl) (by kernel_rfl) (by kernel_rfl) (fun _ _ _ h => h) (Or.inl ⟨by rfl, ?y0t14⟩) h0 ?r0t14
      case y0t14 => (intro w' hSw; (try dsimp only at hSw); go_simp; try with_reducible rfl)
      try simp only [Act.put, List.setIfInBounds_toArray, List.set_cons_zero, List.set_cons_succ]
      refine take_at (i := 1) (d := some 212) (v := ?v1t14) rfl rfl (by kernel_rfl) (by kernel_rfl) (by kernel_rfl) (fun _ _ _ h => h) (Or.inl ⟨by rfl, ?y1t14⟩) h0 ?r1t14
      case y1t14 => (intro w' hSw; (try dsimp only at hSw); go_simp; try with_reducible rfl)
      try simp only [Act.put, List.setIfInBounds_toArray, List.set_cons_zero, List.set_cons_succ]
      refine take_at (i := 2) (d := some 213) (v := ?v2t14) rfl rfl (by kernel_rfl) (by kernel_rfl) (by kernel_rfl) (fun _ _ _ h => h) (Or.inl ⟨by rfl, ?y2t14⟩) h0 ?r2t14
      case y2t14 => (intro w' hSw; (try dsimp only at hSw); go_simp; try with_reducible rfl)
      try simp only [Act.put, List.setIfInBounds_toArray, List.set_cons_zero, List.set_cons_succ]
      refine take_at (i := 3) (d := some 214) (v := ?v3t14) rfl rfl (by kernel_rfl) (by kernel_rfl) (by kernel_rfl) (fun _ _ _ h => h) (Or.inl ⟨by rfl, ?y3t14⟩) h0 ?r3t14
      case y3t14 => (intro w' hSw; (try dsimp only at hSw); go_simp; try with_reducible rfl)
      try simp only [Act.put, List.setIfInBounds_toArray, List.set_cons_zero, List.set_cons_succ]
      refine take_at (i := 4) (d := some 215) (v := ?v4t14) rfl rfl (by kernel_rfl) (by kernel_rfl) (by kernel_rfl) (fun _ _ _ h => h) (Or.inl ⟨by rfl, ?y4t14⟩) h0 ?r4t14
      case y4t14 => (intro w' hSw; (try dsimp only at hSw); go_simp; try with_reducible rfl)
      try simp only [Act.put, List.setIfInBounds_toArray, List.set_cons_zero, List.set_cons_succ]
      refine take_at (i := 5) (d := some 216) (v := ?v5t14) rfl rfl (by kernel_rfl) (by kernel_rfl) (by kernel_rfl) (fun _ _ _ h => h) (Or.inl ⟨by rfl, ?y5t14⟩) h0 ?r5t14
      case y5t14 => (intro w' hSw; (try dsimp only at hSw); go_simp; try with_reducible rfl)
      try simp only [Act.put, List.setIfInBounds_toArray, List.set_cons_zero, List.set_cons_succ]
      refine take_at (i := 6) (d := some 217) (v := ?v6t14) rfl rfl (by kernel_rfl) (by kernel_rfl) (by kernel_rfl) (fun _ _ _ h => h) (Or.inl ⟨by rfl, ?y6t14⟩) h0 ?r6t14
      case y6t14 => (intro w' hSw; (try dsimp only at hSw); go_simp; try with_reducible rfl)
      try simp only [Act.put, List.setIfInBounds_toArray, List.set_cons_zero, List.set_cons_succ]
      refine take_at (i := 7) (d := some 218) (v := ?v7t14) rfl rfl (by kernel_rfl) (by kernel_rfl) (by kernel_rfl) (fun _ _ _ h => h) (Or.inl ⟨by rfl, ?y7t14⟩) h0 ?r7t14
      case y7t14 => (intro w' hSw; (try dsimp only at hSw); go_simp; try with_reducible rfl)
      try simp only [Act.put, List.setIfInBounds_toArray, List.set_cons_zero, List.set_cons_succ]
      refine take_at (i := 8) (d := some 219) (v := ?v8t14) rfl rfl (by kernel_rfl) (by kernel_rfl) (by kernel_rfl) (fun _ _ _ h => h) (Or.inl ⟨by rfl, ?y8t14⟩) h0 ?r8t14
      case y8t14 => (intro w' hSw; (try dsimp only at hSw); go_simp; try with_reducible rfl)
      try simp only [Act.put, List.setIfInBounds_toArray, List.set_cons_zero, List.set_cons_succ]
      refine take_at (i := 9) (d := some 220) (v := ?v9t14) rfl rfl (by kernel_rfl) (by kernel_rfl) (by kernel_rfl) (fun _ _ _ h => h) (Or.inl ⟨by rfl, ?y9t14⟩) h0 ?r9t14
      case y9t14 => (intro w' hSw; (try dsimp only at hSw); go_simp; try with_reducible rfl)
      try simp only [Act.put, List.setIfInBounds_toArray, List.set_cons_zero, List.set_cons_succ]
      refine take_at (i := 10) (d := some 221) (v := ?v10t14) rfl rfl (by kernel_rfl) (by kernel_rfl) (by kernel_rfl) (fun _ _ _ h => h) (Or.inl ⟨by rfl, ?y10t14⟩) h0 ?r10t14
      case y10t14 => (intro w' hSw; (try dsimp only at hSw); go_simp; try with_reducible rfl)
      try simp only [Act.put, List.setIfInBounds_toArray, List.set_cons_zero, List.set_cons_succ]
      refine wpAnyH_ready (rs := [11]) (by kernel_rfl) (by simp) ?_
      refine AllReadyH.cons rfl (fun K hK => ?_) AllReadyH.nil
      have g0 := XRD.out.fz 0
      have r0 := XRD.out.c0
      have g1 := XRD.out.fz 1
      have r1 := XRD.out.c1
      have g2 := XRD.out.fz 2
      have r2 := XRD.out.c2
      have g3 := XRD.out.fz 3
      have r3 := XRD.out.c3
      have g4 := XRD.out.fz 4
      have r4 := XRD.out.c4
      have g5 := XRD.out.fz 5
      have r5 := XRD.out.c5
      have g6 := XRD.out.fz 6
      have r6 := XRD.out.c6
      go_simp
      obtain ⟨w9, e9, x9, h9, b9⟩ := set7 XRD.out (⟨0, 0, ((ss.length : Nat) : Int), mk vd, ⟨#[]⟩, bs, []⟩) none 0
      have e9b : (((((((wd).setCell ⟨w1.heap.size, 0, none⟩ (.int .i64 0)).setCell ⟨w1.heap.size, 1, none⟩ (.int .i64 0)).setCell ⟨w1.heap.size, 2, none⟩ (.int .i64 ((ss.length : Nat) : Int))).setCell ⟨w1.heap.size, 3, none⟩ (.string (mk vd))).setCell ⟨w1.heap.size, 4, none⟩ (.string ⟨#[]⟩)).setCell ⟨w1.heap.size, 5, none⟩ (.string bs)).setCell ⟨w1.heap.size, 6, none⟩ (.slice none 0 0) = w9 := e9
      rw [e9b]
      have X9 : Hid (Bx w9 w3.heap.size (⟨0, 0, ((ss.length : Nat) : Int), mk vd, ⟨#[]⟩, bs, []⟩) none 0) := ⟨(h9 _ (by omega)).trans XD.out.blk⟩
      have XR9 : Hid (Bx w9 w1.heap.size (⟨0, 0, ((ss.length : Nat) : Int), mk vd, ⟨#[]⟩, bs, []⟩) none 0) := x9
      have KE : Hid (w9.cell? ⟨w3.heap.size, 0, none⟩ = some (.int .i64 0) ∧ w9.cell? ⟨w3.heap.size, 1, none⟩ = some (.int .i64 0) ∧ w9.cell? ⟨w3.heap.size, 2, none⟩ = some (.int .i64 ((ss.length : Nat) : Int)) ∧ w9.cell? ⟨w3.heap.size, 3, none⟩ = some (.string (mk vd)) ∧ w9.cell? ⟨w3.heap.size, 4, none⟩ = some (.string ⟨#[]⟩) ∧ w9.cell? ⟨w3.heap.size, 5, none⟩ = some (.string bs) ∧ w9.cell? ⟨w3.heap.size, 6, none⟩ = some (.slice none 0 0)) := ⟨X9.out.c0, X9.out.c1, X9.out.c2, X9.out.c3, X9.out.c4, X9.out.c5, X9.out.c6⟩
      have HB9 : Hid (Below w.heap.size w w9) := HBD.out.trans (b9 w.heap.size (by omega))
      have HH9 : Hid (∀ b, b ≠ w1.heap.size → w9.heap[b]? = wq.heap[b]?) := fun b hb => (h9 b hb).trans (HWD.out b)
      clear e9 e9b x9 h9 b9 KR h0
      refine hK.out _ _ KE.out (fun h1 => ?_)
      clear hK K
      try simp only [Act.put, List.setIfInBounds_toArray, List.set_cons_zero, List.set_cons_succ]
      refine take_at (i := 12) (d := some 7) (v := ?v12t14) rfl rfl (by kernel_rfl) (by kernel_rfl) (by kernel_rfl) (fun _ _ _ h => h) (Or.inl ⟨by rfl, ?y12t14⟩) h1 ?r12t14
      case y12t14 => (intro w' hSw; (try dsimp only at hSw); go_simp; try with_reducible rfl)
      try simp only [Act.put, List.setIfInBounds_toArray, List.set_cons_zero, List.set_cons_succ]
      refine wpAnyH_done (by kernel_rfl) ?_ _
      refine NoPanic.normal ?_
      have q0 := XR9.out.c0
      have q1 := XR9.out.c1
      have q2 := XR9.out.c2
      have q3 := XR9.out.c3
      have q4 := XR9.out.c4
      have q5 := XR9.out.c5
      have q6 := XR9.out.c6
      have HFIN : Hid (BuildQ B (f + 1) ns n (ss.map bl) w (.returned (.tuple #[.agg #[.int .i64 0, .int .i64 0, .int .i64 ((ss.length : Nat) : Int), .string (mk vd), .string ⟨#[]⟩, .string bs, .slice none 0 0], .bool true])) w9) := leaf_done hB HBU.out rfl HB9.out
      go_wp2
      exact bodyPost_ret (v := .tuple #[.agg #[.int .i64 0, .int .i64 0, .int .i64 ((ss.length : Nat) : Int), .string (mk vd), .string ⟨#[]⟩, .string bs, .slice none 0 0], .bool true]) (by simp [results, Tryz.results62, go_sem, q0, q1, q2, q3, q4, q5, q6]) rfl HFIN.out
end Go.Proofs.YtcpfhfdgfcilaaaGreatDoor.Arr
