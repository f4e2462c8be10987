/-
  Several texts in one: An array of values, by the document: its build, bytes: contract.
-/
import Derived.Test.YtcpfhfdgfcilaaaGreatDoorB20
import Derived.Maps.AppendAt
import Derived.OneCell
import Derived.Laws.OwnMore
import Derived.Deep.CutRange
import Derived.Deep.CutBlock
set_option linter.unusedVariables false
set_option linter.unusedSimpArgs false
namespace Go.Proofs.YtcpfhfdgfcilaaaGreatDoor.Arr
open Go.ChangeShapes Go.WideShapes Go.ChangeAt Go.RowKit
open Tree Val

set_option maxRecDepth 20000 in
set_option maxHeartbeats 3200000 in
theorem buildBytes (B f g : Nat) (hB : 4096 ≤ B) (ns : List Nd) (oT : Option Addr) (capT n : Nat) (ss : List ByteArray) (o : Option Addr) (cap : Nat) (w : World) (hn : n < ns.length) (hm : may ns = true) (hF : AllFit ns (g + 1) n (ss.map bl)) (h64 : ss.length ≤ 64) (hx : Texts.IsTx w o ss) (ht : IsT w oT ns) (hk : (nd ns n).kind = 2) :
    Calls Tryz.prog 62 #[.agg #[.slice oT ns.length capT], .int .i64 (n : Int), .slice o ss.length cap] w (BuildQ B (f + 1) ns n (ss.map bl) w) := by
  obtain ⟨w1, e1, s1, c1, b1⟩ := boxed w (.slice oT ns.length capT) 24
  obtain ⟨w2, e2', x2, b2, z2⟩ := box7 w1 nil none 0
  have e2 : w1.alloc (.cells #[.int .i64 0, .int .i64 0, .int .i64 0, .string ⟨#[]⟩, .string ⟨#[]⟩, .string ⟨#[]⟩, .slice none 0 0] 27) = w2 := e2'
  clear e2'
  have hS1 : w.heap.size < w1.heap.size := s1
  have hS2 : w1.heap.size < w2.heap.size := z2
  have B2 : Hid (Below w.heap.size w w2) := bel2 b1 b2
  have HCT : Hid (w2.cell? ⟨w.heap.size, 0, none⟩ = some (.slice oT ns.length capT)) := cell_later b2 c1
  obtain ⟨x, rfl, hl⟩ := ht.some (by omega)
  have HLI : Hid (Lies w x ns) := hl
  have HT : Hid (IsT w (some x) ns) := ht
  have HTX : Hid (Texts.IsTx w o ss) := hx
  have hM := may_of hm
  have HVAL : Hid (∀ v, Below w.heap.size w v → Calls Tryz.prog 112 #[.slice o ss.length cap] v fun r w' => r = .returned (.string (mk (validOf (ss.map bl)))) ∧ Below v.heap.size v w') := fun v hv => validR o cap ss (by omega) v (hx.later hv)
  have HKS : Hid (∀ v, Below w.heap.size w v → Calls Tryz.prog 83 #[.agg #[.slice (some x) ns.length capT], .int .i64 (n : Int)] v fun r w' => ∃ o c, r = .returned (.tuple #[.slice o (kids ns n).length c, .int .i64 0]) ∧ w'.ownsRow v.heap.size 3 1 (.slice o (kids ns n).length c) (kids ns n).length (ints (kids ns n)) ∧ Below v.heap.size v w') := fun v hv => by
    have hB : hasB ns (n : Int) = true := by unfold hasB; rw [hm, decide_eq_true (by omega)]; rfl
    have hKA : kidsA ns (n : Int) = kids ns n := by unfold kidsA; rw [if_pos hB]
    have := kidsR (some x) capT ns (n : Int) v (HT.out.later hv)
    rw [hB, hKA] at this
    exact this
  have j0 : (0 : Int) ≤ (n : Int) := Int.natCast_nonneg _
  have j1 : (n : Int) < (ns.length : Int) := by omega
  have hL : Tree.isLeaf (nd ns n).kind = true := by rw [hk]; rfl
  have hK0 : kids ns n = [] := hM.leaf n hn hL
  rw [hK0] at HKS
  have HBU : Hid (buildF ns (f + 1) n (ss.map bl) = some (built ns f n (ss.map bl))) := leaf_build hM hn hL hF (by rw [List.length_map]; exact h64)
  obtain ⟨D, hD⟩ : ∃ D : Nat → List UInt8, ∀ k, D k = dataOf ns n ((ss.map bl).take k) := ⟨_, fun _ => rfl⟩
  obtain ⟨E, hE⟩ : ∃ E : Nat → List UInt8, ∀ k, E k = endsQ ns n ((ss.map bl).take k) := ⟨_, fun _ => rfl⟩
  have HLM : (ss.map bl).length = ss.length := List.length_map ..
  have HAT : Hid (∀ k, k < ss.length → ∃ (K : Int) (ps : List ByteArray), TellA (ss.getD k ByteArray.empty) K ps 0 ∧ flat ps = (tellV (bl (ss.getD k ByteArray.empty))).2.flatten ∧ (flat ps).length ≤ 16 ∧ ps.length ≤ 1) := fun k hk' => bytes_at hM hn hk (all_at hF hk')
  have HD0 : Hid (D 0 = []) := by unfold Hid; rw [hD, List.take_zero, dataOf, if_neg (by omega), if_neg (by omega), if_pos hk]; rfl
  have HE0 : Hid (E 0 = []) := by unfold Hid; rw [hE, List.take_zero]; rfl
  have HDS : Hid (∀ k, k < ss.length → D (k + 1) = D k ++ (tellV (bl (ss.getD k ByteArray.empty))).2.flatten) := fun k hk' => by
    rw [hD, hD, take_snoc _ (by rw [HLM]; exact hk'), data2_snoc hk, bl_at ss hk']
  have HES : Hid (∀ k, k < ss.length → E (k + 1) = E k ++ Plain.low (D k).length 4) := fun k hk' => by
    rw [hE, hE, hD, take_snoc _ (by rw [HLM]; exact hk'), endsQ_snoc, total2 hk]
  have HDL : Hid (∀ k, k ≤ ss.length → (D k).length ≤ 16 * k) := fun k hk' => by
    rw [hD]
    exact length_data2 hk _ (fun v hv => fitV hM hn (hF v hv)) k (by rw [HLM]; exact hk')
  have HEL : Hid (∀ k, k ≤ ss.length → (E k).length = 4 * k) := fun k hk' => by
    rw [hE, length_endsQ, List.length_take, HLM, Nat.min_eq_left hk']
  have HA : Hid (built ns f n (ss.map bl) = ⟨0, 0, ((ss.length : Nat) : Int), mk (validOf (ss.map bl)), mk (E ss.length ++ Plain.low (D ss.length).length 4), mk (D ss.length), []⟩) := by
    unfold Hid built
    rw [hD, hE, show (ss.map bl).take ss.length = ss.map bl from by rw [← HLM, List.take_length], HLM, endsOf_all (.inl hk), total2 hk, hK0]
    rfl
  rw [HA.out] at HBU
  clear hD hE hF HA HLM
  have n0 := hl.kind' n hn
  rw [hk] at n0
  have HN0 : Hid (w.cell? (x.add (n * 3)) = some (.int .i64 2)) := n0
  generalize hvd : validOf (ss.map bl) = vd at *
  have q0 : decide ((64 : Int) < ((ss.length : Nat) : Int)) = false := decide_eq_false (by omega)
  have hlen0 : (0 : Int) ≤ ((ss.length : Nat) : Int) := Int.natCast_nonneg _
  have B1 : Hid (Below w.heap.size w w1) := b1
  clear s1 c1 b1 b2 hl hx ht z2 n0
  go_enter Tryz.func62, Tryz.ntmps62
  go_wp2_with fail
  refine (HVAL.out w2 B2.out).mono ?_
  rintro e w3 ⟨rfl, b3⟩
  have B3 : Hid (Below w.heap.size w w3) := bel2 B2.out b3
  have hS3 := b3.size
  have XR3 : Hid (Bx w3 w1.heap.size nil none 0) := x2.later b3
  have HC3 : Hid (w3.cell? ⟨w.heap.size, 0, none⟩ = some (.slice (some x) ns.length capT)) := cell_later b3 HCT.out
  obtain ⟨w4, e4', x4, b4, z4⟩ := box7 w3 nil none 0
  have e4 : w3.alloc (.cells #[.int .i64 0, .int .i64 0, .int .i64 0, .string ⟨#[]⟩, .string ⟨#[]⟩, .string ⟨#[]⟩, .slice none 0 0] 27) = w4 := e4'
  have m0 := x4.c0
  have m1 := x4.c1
  have m2 := x4.c2
  have m3 := x4.c3
  have m4 := x4.c4
  have m5 := x4.c5
  have m6 := x4.c6
  have f0 := x4.fz 0
  have f1 := x4.fz 1
  have f2 := x4.fz 2
  have f3 := x4.fz 3
  have f4 := x4.fz 4
  have f5 := x4.fz 5
  have f6 := x4.fz 6
  clear e4' b3 x2 e1 e2
  go_upto_region 2 with fail
  obtain ⟨w5, e5, x5, h5, k5⟩ := set7 x4 ⟨0, 0, ((ss.length : Nat) : Int), mk vd, ⟨#[]⟩, ⟨#[]⟩, []⟩ none 0
  have e5' : ((((((w4.setCell ⟨w3.heap.size, 0, none⟩ (.int .i64 0)).setCell ⟨w3.heap.size, 1, none⟩ (.int .i64 0)).setCell ⟨w3.heap.size, 2, none⟩ (.int .i64 ((ss.length : Nat) : Int))).setCell ⟨w3.heap.size, 3, none⟩ (.string (mk vd))).setCell ⟨w3.heap.size, 4, none⟩ (.string ⟨#[]⟩)).setCell ⟨w3.heap.size, 5, none⟩ (.string ⟨#[]⟩)).setCell ⟨w3.heap.size, 6, none⟩ (.slice none 0 0) = w5 := e5
  rw [e5']
  have B5 : Hid (Below w.heap.size w w5) := (bel2 B3.out b4).trans (k5 w.heap.size (by omega))
  have XR4 := XR3.out.later b4
  have XR5 : Hid (Bx w5 w1.heap.size nil none 0) := ⟨(h5 _ (by omega)).trans XR4.blk⟩
  have HC5 : Hid (w5.cell? ⟨w.heap.size, 0, none⟩ = some (.slice (some x) ns.length capT)) := (World.cell?_of_block (w := w4) (h5 w.heap.size (by omega))).trans (cell_later b4 HC3.out)
  have X5 : Hid (Bx w5 w3.heap.size ⟨0, 0, ((ss.length : Nat) : Int), mk vd, ⟨#[]⟩, ⟨#[]⟩, []⟩ none 0) := x5
  have hS5 : w3.heap.size < w5.heap.size := x5.lt
  have cT := HC5.out
  clear m0 m1 m2 m3 m4 m5 m6 f0 f1 f2 f3 f4 f5 f6 e5 e5' e4 x5 x4 b4 z4 h5 k5 XR4
  go_wp2_with fail
  refine (HKS.out w5 B5.out).mono ?_
  rintro e w6 ⟨oK, cK, rfl, hownK, b6⟩
  have B6 : Hid (Below w5.heap.size w5 w6) := b6
  rw [show ([] : List Nat).length = 0 from rfl]
  obtain ⟨cur, hmk, hcs, hcn⟩ := make_rows 0 (by decide) w6
  replace hmk : (Instr.makeSlice 110 (.int .i64 0) (.int .i64 0)).run Tryz.prog w6 = .ok (.slice (some ⟨w6.heap.size, 0, none⟩) 0 0) (w6.alloc (.cells cur 29)) := hmk
  obtain ⟨w7, e7⟩ : ∃ w7, w6.alloc (.cells cur 29) = w7 := ⟨_, rfl⟩
  rw [e7] at hmk
  have b7 : Below w6.heap.size w6 w7 := by rw [← e7]; exact (Below.refl _ _).alloc (Nat.le_refl _) _
  have B57 : Hid (Below w5.heap.size w5 w7) := bel2 b6 b7
  have B7 : Hid (Below w.heap.size w w7) := bel2 B5.out B57.out
  have X7 : Hid (Bx w7 w3.heap.size ⟨0, 0, ((ss.length : Nat) : Int), mk vd, ⟨#[]⟩, ⟨#[]⟩, []⟩ none 0) := X5.out.later B57.out
  have XR7 : Hid (Bx w7 w1.heap.size nil none 0) := XR5.out.later B57.out
  have HC7 : Hid (w7.cell? ⟨w.heap.size, 0, none⟩ = some (.slice (some x) ns.length capT)) := cell_later B57.out HC5.out
  clear b6 b7 hownK e7 cT hcs hcn
  go_wp2_with fail
  go_loopw [13, 14, 15, 16] (fun i _ _ _ wr => ∃ k : Nat, k ≤ ss.length ∧ i = .int .i64 (k : Int) ∧ Bx wr w3.heap.size ⟨0, 0, ((ss.length : Nat) : Int), mk vd, mk (E k), mk (D k), []⟩ none 0 ∧ Kept (fun q => q = w3.heap.size) w7 wr) (fun i _ _ _ _ => ss.length - (intOf i).toNat)
  case atStart => exact ⟨0, Nat.zero_le _, rfl, by rw [HD0.out, HE0.out]; exact X7.out, Kept.refl _ _⟩
  case round =>
    obtain ⟨k, hk2, rfl, hbx, hkp⟩ := hrel
    have KP : Hid (Kept (fun q => q = w3.heap.size) w7 wr) := hkp
    have BR : Hid (Below w.heap.size w wr) := hkp.down B7.out (fun q hq => by rw [hq]; omega)
    have HCR : Hid (wr.cell? ⟨w.heap.size, 0, none⟩ = some (.slice (some x) ns.length capT)) := hkp.cell HC7.out (by show ¬ (w.heap.size = w3.heap.size); omega)
    have XRR : Hid (Bx wr w1.heap.size nil none 0) := ⟨hkp.heap XR7.out.blk (by show ¬ (w1.heap.size = w3.heap.size); omega)⟩
    clear hkp
    have XB : Hid (Bx wr w3.heap.size ⟨0, 0, ((ss.length : Nat) : Int), mk vd, mk (E k), mk (D k), []⟩ none 0) := hbx
    clear hbx
    by_cases hlt : k < ss.length
    ·
      obtain ⟨y, rfl, hy⟩ := tx_at HTX.out (by omega)
      have cs := cell_later BR.out (hy k hlt)
      have i0 : (0 : Int) ≤ (k : Int) := Int.natCast_nonneg _
      have i1 : (k : Int) < ((ss.length : Nat) : Int) := by omega
      clear hy
      have HAK := HAT.out k hlt
      have HSK : Hid (D (k + 1) = D k ++ (tellV (bl (ss.getD k ByteArray.empty))).2.flatten) := HDS.out k hlt
      have HSE : Hid (E (k + 1) = E k ++ Plain.low (D k).length 4) := HES.out k hlt
      have hlD := HDL.out k hk2
      have hlE := HEL.out k hk2
      have z1 : (mk (D k)).size ≤ 1024 := by rw [size_mk]; omega
      have z4 : (mk (E k)).size ≤ 256 := by rw [size_mk]; omega
      obtain ⟨K, ps, hT, hfl, hf16, hps⟩ := HAK
      rw [← hfl] at HSK
      have HPC : Hid (∀ v, Calls Tryz.prog 111 #[.string (ss.getD k ByteArray.empty)] v fun r w' => ∃ o cap, r = .returned (.tuple #[.int .i64 K, .slice o ps.length cap, .int .i64 0]) ∧ w'.ownsRow v.heap.size 9 1 (.slice o ps.length cap) ps.length (Texts.cellsT ps) ∧ Below v.heap.size v w') := fun v => partsR _ K ps 0 hT v
      generalize ss.getD k ByteArray.empty = s at *
      have HLW : Hid (∀ v, Calls Tryz.prog 49 #[.int .i64 (((mk (D k)).size : Nat) : Int), .int .i64 4] v fun r w' => r = .returned (.string (mk (Plain.low (D k).length 4))) ∧ Below v.heap.size v w') := fun v => Fix.refLow4 _ (D k).length (by rw [size_mk]; simp [IntKind.wrap, IntKind.bits, IntKind.signed]; omega) v
      have HAL : Hid (∀ v oP cP, Texts.IsTx v oP ps → Calls Tryz.prog 67 #[.slice oP ps.length cP] v fun r w' => r = .returned (.string (mk (flat ps))) ∧ w' = v) := fun v oP cP h => allR oP cP ps (by omega) (by omega) v h
      have zf : (mk (flat ps)).size ≤ 16 := by rw [size_mk]; exact hf16
      have zl : (mk (Plain.low (D k).length 4)).size ≤ 4 := by rw [size_mk, Plain.length_low]; exact Nat.le_refl _
      have z5 : ¬ (9223372036854775807 < (mk (E k)).size + (mk (Plain.low (D k).length 4)).size) := by omega
      have z6 : ¬ (9223372036854775807 < (mk (D k)).size + (mk (flat ps)).size) := by omega
      have i3 : ((ss.length : Nat) : Int) ≤ 64 := by omega
      have cT := HCR.out
      clear hT hfl hf16 hlD hlE
      generalize hdk : mk (D k) = dk at *
      generalize hek : mk (E k) = ek at *
      generalize (D k).length = dl at *
      go_wp2_with fail
      refine (HPC.out wr).mono ?_
      rintro e w8 ⟨oP, cP, rfl, hownP, b8⟩
      have B8 : Hid (Below wr.heap.size wr w8) := b8
      have HOP : Hid (w8.ownsRow wr.heap.size 9 1 (.slice oP ps.length cP) ps.length (Texts.cellsT ps)) := hownP
      clear cs cT hownP b8
      have cT := cell_later B8.out HCR.out
      have n0 := cell_later (bel2 BR.out B8.out) HN0.out
      have X8 : Hid (Bx w8 w3.heap.size ⟨0, 0, ((ss.length : Nat) : Int), mk vd, ek, dk, []⟩ none 0) := XB.out.later B8.out
      have K8 : Hid (Kept (fun q => q = w3.heap.size) w7 w8) := KP.out.below B8.out
      go_wp2_with fail
      refine wp_region_noPanic ?_
      refine wp_region_any (by kernel_rfl) ?_
      try (change wpAny _ _ _ _ _ _ _ (World.drew _))
      have XD : Hid (Bx w8.drew w3.heap.size ⟨0, 0, ((ss.length : Nat) : Int), mk vd, ek, dk, []⟩ none 0) := X8.out.later (drewN_below _ 1)
      have d4 := XD.out.c4
      have d4b : w8.cell? ⟨w3.heap.size, 4, none⟩ = some (.string ek) := d4
      have d5 := XD.out.c5
      have d5b : w8.cell? ⟨w3.heap.size, 5, none⟩ = some (.string dk) := d5
      refine wpAny_take (i := 0) (v := ?_) rfl (by kernel_rfl) (by kernel_rfl) (by kernel_rfl) (fun _ _ _ h => h) (Or.inl ⟨by rfl, ?hy15⟩) ?_
      case hy15 => (intro w; go_simp; try with_reducible rfl)
      try simp only [Act.put, List.setIfInBounds_toArray, List.set_cons_zero, List.set_cons_succ]
      refine wpAny_take (i := 2) (v := ?_) rfl (by kernel_rfl) (by kernel_rfl) (by kernel_rfl) (fun _ _ _ h => h) (Or.inl ⟨by rfl, ?hy16⟩) ?_
      case hy16 => (intro w; go_simp; try with_reducible rfl)
      try simp only [Act.put, List.setIfInBounds_toArray, List.set_cons_zero, List.set_cons_succ]
      refine wpAny_ready (rs := [1, 3]) (by kernel_rfl) (by simp) ?_
      refine AllReady.cons rfl (fun K hK => ?_) (AllReady.cons rfl (fun K hK => ?_) AllReady.nil)
      · go_simp
        refine hK _ _ ?_
        clear hK K
        try simp only [Act.put, List.setIfInBounds_toArray, List.set_cons_zero, List.set_cons_succ]
        refine wpAny_ready (rs := [3]) (by kernel_rfl) (by simp) ?_
        refine AllReady.cons rfl (fun K hK => ?_) AllReady.nil
        go_simp
        refine hK _ _ ?_
        clear hK K
        try simp only [Act.put, List.setIfInBounds_toArray, List.set_cons_zero, List.set_cons_succ]
        refine wpAny_take (i := 4) (v := ?_) rfl (by kernel_rfl) (by kernel_rfl) (by kernel_rfl) (fun _ _ _ h => h) (Or.inl ⟨by rfl, ?hy17⟩) ?_
        case hy17 => (intro w; go_simp; try with_reducible rfl)
        try simp only [Act.put, List.setIfInBounds_toArray, List.set_cons_zero, List.set_cons_succ]
        refine wpAny_ready (rs := [5]) (by kernel_rfl) (by simp) ?_
        refine AllReady.cons rfl (fun K hK => ?_) AllReady.nil
        go_simp
        go_at_call 49
        refine (HLW.out _).mono ?_
        rintro e w9 ⟨rfl, b9⟩
        have X9 : Hid (Bx w9 w3.heap.size ⟨0, 0, ((ss.length : Nat) : Int), mk vd, ek, dk, []⟩ none 0) := XD.out.later b9
        have K9 : Hid (Kept (fun q => q = w3.heap.size) w7 w9) := K8.out.below (bel2 (drewN_below _ 1) b9)
        have d49 := X9.out.c4
        have f49 := X9.out.fz 4
        have d59 := X9.out.c5
        have B9 : Hid (Below w8.heap.size w8 w9) := bel2 (drewN_below _ 1) b9
        clear b9
        refine hK _ _ ?_
        clear hK K
        try simp only [Act.put, List.setIfInBounds_toArray, List.set_cons_zero, List.set_cons_succ]
        refine wpAny_take (i := 6) (v := ?_) rfl (by kernel_rfl) (by kernel_rfl) (by kernel_rfl) (fun _ _ _ h => h) (Or.inl ⟨by rfl, ?hy18⟩) ?_
        case hy18 => (intro w; go_simp; try with_reducible rfl)
        try simp only [Act.put, List.setIfInBounds_toArray, List.set_cons_zero, List.set_cons_succ]
        refine wpAny_take (i := 7) (v := ?_) rfl (by kernel_rfl) (by kernel_rfl) (by kernel_rfl) (fun _ _ _ h => h) (Or.inl ⟨by rfl, ?hy19⟩) ?_
        case hy19 => (intro w; go_simp; try with_reducible rfl)
        try simp only [Act.put, List.setIfInBounds_toArray, List.set_cons_zero, List.set_cons_succ]
        refine wpAny_ready (rs := [8]) (by kernel_rfl) (by simp) ?_
        refine AllReady.cons rfl (fun K hK => ?_) AllReady.nil
        go_simp
        refine hK _ _ ?_
        clear hK K
        try simp only [Act.put, List.setIfInBounds_toArray, List.set_cons_zero, List.set_cons_succ]
        refine wpAny_done (by kernel_rfl) ?_ _
        refine NoPanic.normal ?_
        obtain ⟨w10, e10, x10, k10, h10⟩ := X9.out.set4 (ek ++ mk (Plain.low dl 4))
        rw [e10]
        have X10 : Hid (Bx w10 w3.heap.size ⟨0, 0, ((ss.length : Nat) : Int), mk vd, ek ++ mk (Plain.low dl 4), dk, []⟩ none 0) := x10
        have K10 : Hid (Kept (fun q => q = w3.heap.size) w7 w10) := k10 _ _ (by simp) K9.out
        have H10 : Hid (∀ b, b ≠ w3.heap.size → w10.heap[b]? = w9.heap[b]?) := h10
        have KS10 : Hid (Kept (fun q => q = w3.heap.size) w9 w10) := k10 _ _ rfl (Kept.refl _ _)
        clear e10 x10 k10 h10 d4 d4b d5 d5b d49 f49 d59
        have XA : Hid (Bx w10 w3.heap.size ⟨0, 0, ((ss.length : Nat) : Int), mk vd, mk (E (k + 1)), dk, []⟩ none 0) := by rw [HSE.out, ← app_mk, hek]; exact X10.out
        have HIA : Hid (Texts.IsTx w10 oP ps) := Texts.own_texts (KS10.out.row (row_later HOP.out B9.out) (fun g hg c => by have c2 : g = w3.heap.size := c; have := ((row_later HOP.out B9.out).lt g hg).1; have := XB.out.lt; omega))
        go_wp2_with fail
        refine wp_region_noPanic ?_
        refine wp_region_any (by kernel_rfl) ?_
        try (change wpAny _ _ _ _ _ _ _ (World.drew _))
        have XE : Hid (Bx w10.drew w3.heap.size ⟨0, 0, ((ss.length : Nat) : Int), mk vd, mk (E (k + 1)), dk, []⟩ none 0) := XA.out.later (drewN_below _ 1)
        have d5 := XE.out.c5
        have d5b : w10.cell? ⟨w3.heap.size, 5, none⟩ = some (.string dk) := d5
        have f5 := XE.out.fz 5
        have f5b : w10.frozen? ⟨w3.heap.size, 5, none⟩ = false := f5
        have HID : Hid (Texts.IsTx w10.drew oP ps) := HIA.out.later (drewN_below _ 1)
        have KD : Hid (Kept (fun q => q = w3.heap.size) w7 w10.drew) := K10.out.below (drewN_below _ 1)
        generalize w10.drew = wd at *
        refine wpAny_take (i := 0) (v := ?_) rfl (by kernel_rfl) (by kernel_rfl) (by kernel_rfl) (fun _ _ _ h => h) (Or.inl ⟨by rfl, ?hy25⟩) ?_
        case hy25 => (intro w; go_simp; try with_reducible rfl)
        try simp only [Act.put, List.setIfInBounds_toArray, List.set_cons_zero, List.set_cons_succ]
        refine wpAny_take (i := 2) (v := ?_) rfl (by kernel_rfl) (by kernel_rfl) (by kernel_rfl) (fun _ _ _ h => h) (Or.inl ⟨by rfl, ?hy26⟩) ?_
        case hy26 => (intro w; go_simp; try with_reducible rfl)
        try simp only [Act.put, List.setIfInBounds_toArray, List.set_cons_zero, List.set_cons_succ]
        refine wpAny_ready (rs := [1, 3]) (by kernel_rfl) (by simp) ?_
        refine AllReady.cons rfl (fun K hK => ?_) (AllReady.cons rfl (fun K hK => ?_) AllReady.nil)
        · go_simp
          refine hK _ _ ?_
          clear hK K
          try simp only [Act.put, List.setIfInBounds_toArray, List.set_cons_zero, List.set_cons_succ]
          refine wpAny_ready (rs := [3]) (by kernel_rfl) (by simp) ?_
          refine AllReady.cons rfl (fun K hK => ?_) AllReady.nil
          go_simp
          go_at_call 67
          refine (HAL.out _ oP cP HID.out).mono ?_
          rintro e wx ⟨rfl, rfl⟩
          refine hK _ _ ?_
          clear hK K
          try simp only [Act.put, List.setIfInBounds_toArray, List.set_cons_zero, List.set_cons_succ]
          refine wpAny_take (i := 4) (v := ?_) rfl (by kernel_rfl) (by kernel_rfl) (by kernel_rfl) (fun _ _ _ h => h) (Or.inl ⟨by rfl, ?hy27⟩) ?_
          case hy27 => (intro w; go_simp; try with_reducible rfl)
          try simp only [Act.put, List.setIfInBounds_toArray, List.set_cons_zero, List.set_cons_succ]
          refine wpAny_take (i := 5) (v := ?_) rfl (by kernel_rfl) (by kernel_rfl) (by kernel_rfl) (fun _ _ _ h => h) (Or.inl ⟨by rfl, ?hy28⟩) ?_
          case hy28 => (intro w; go_simp; try with_reducible rfl)
          try simp only [Act.put, List.setIfInBounds_toArray, List.set_cons_zero, List.set_cons_succ]
          refine wpAny_ready (rs := [6]) (by kernel_rfl) (by simp) ?_
          refine AllReady.cons rfl (fun K hK => ?_) AllReady.nil
          go_simp
          refine hK _ _ ?_
          clear hK K
          try simp only [Act.put, List.setIfInBounds_toArray, List.set_cons_zero, List.set_cons_succ]
          refine wpAny_done (by kernel_rfl) ?_ _
          refine NoPanic.normal ?_
          obtain ⟨w11, e11, x11, k11, _⟩ := XE.out.set5 (dk ++ mk (flat ps))
          rw [e11]
          have X11 : Hid (Bx w11 w3.heap.size ⟨0, 0, ((ss.length : Nat) : Int), mk vd, mk (E (k + 1)), mk (D (k + 1)), []⟩ none 0) := by rw [HSK.out, ← app_mk, hdk]; exact x11
          have K11 : Hid (Kept (fun q => q = w3.heap.size) w7 w11) := k11 _ _ rfl KD.out
          clear e11 x11 k11 d5 d5b f5 f5b
          go_wp2
          go_roundw
          case rel => exact ⟨k + 1, by omega, by go_num, X11.out, K11.out⟩
          case measure => simp [intOf]; omega
        · go_simp
          go_at_call 67
          refine (HAL.out _ oP cP HID.out).mono ?_
          rintro e wx ⟨rfl, rfl⟩
          refine hK _ _ ?_
          clear hK K
          try simp only [Act.put, List.setIfInBounds_toArray, List.set_cons_zero, List.set_cons_succ]
          refine wpAny_ready (rs := [1]) (by kernel_rfl) (by simp) ?_
          refine AllReady.cons rfl (fun K hK => ?_) AllReady.nil
          go_simp
          refine hK _ _ ?_
          clear hK K
          try simp only [Act.put, List.setIfInBounds_toArray, List.set_cons_zero, List.set_cons_succ]
          refine wpAny_take (i := 4) (v := ?_) rfl (by kernel_rfl) (by kernel_rfl) (by kernel_rfl) (fun _ _ _ h => h) (Or.inl ⟨by rfl, ?hy29⟩) ?_
          case hy29 => (intro w; go_simp; try with_reducible rfl)
          try simp only [Act.put, List.setIfInBounds_toArray, List.set_cons_zero, List.set_cons_succ]
          refine wpAny_take (i := 5) (v := ?_) rfl (by kernel_rfl) (by kernel_rfl) (by kernel_rfl) (fun _ _ _ h => h) (Or.inl ⟨by rfl, ?hy30⟩) ?_
          case hy30 => (intro w; go_simp; try with_reducible rfl)
          try simp only [Act.put, List.setIfInBounds_toArray, List.set_cons_zero, List.set_cons_succ]
          refine wpAny_ready (rs := [6]) (by kernel_rfl) (by simp) ?_
          refine AllReady.cons rfl (fun K hK => ?_) AllReady.nil
          go_simp
          refine hK _ _ ?_
          clear hK K
          try simp only [Act.put, List.setIfInBounds_toArray, List.set_cons_zero, List.set_cons_succ]
          refine wpAny_done (by kernel_rfl) ?_ _
          refine NoPanic.normal ?_
          obtain ⟨w11, e11, x11, k11, _⟩ := XE.out.set5 (dk ++ mk (flat ps))
          rw [e11]
          have X11 : Hid (Bx w11 w3.heap.size ⟨0, 0, ((ss.length : Nat) : Int), mk vd, mk (E (k + 1)), mk (D (k + 1)), []⟩ none 0) := by rw [HSK.out, ← app_mk, hdk]; exact x11
          have K11 : Hid (Kept (fun q => q = w3.heap.size) w7 w11) := k11 _ _ rfl KD.out
          clear e11 x11 k11 d5 d5b f5 f5b
          go_wp2
          go_roundw
          case rel => exact ⟨k + 1, by omega, by go_num, X11.out, K11.out⟩
          case measure => simp [intOf]; omega
      · go_simp
        refine hK _ _ ?_
        clear hK K
        try simp only [Act.put, List.setIfInBounds_toArray, List.set_cons_zero, List.set_cons_succ]
        refine wpAny_take (i := 4) (v := ?_) rfl (by kernel_rfl) (by kernel_rfl) (by kernel_rfl) (fun _ _ _ h => h) (Or.inl ⟨by rfl, ?hy20⟩) ?_
        case hy20 => (intro w; go_simp; try with_reducible rfl)
        try simp only [Act.put, List.setIfInBounds_toArray, List.set_cons_zero, List.set_cons_succ]
        refine wpAny_ready (rs := [1, 5]) (by kernel_rfl) (by simp) ?_
        refine AllReady.cons rfl (fun K hK => ?_) (AllReady.cons rfl (fun K hK => ?_) AllReady.nil)
        · go_simp
          refine hK _ _ ?_
          clear hK K
          try simp only [Act.put, List.setIfInBounds_toArray, List.set_cons_zero, List.set_cons_succ]
          refine wpAny_ready (rs := [5]) (by kernel_rfl) (by simp) ?_
          refine AllReady.cons rfl (fun K hK => ?_) AllReady.nil
          go_simp
          go_at_call 49
          refine (HLW.out _).mono ?_
          rintro e w9 ⟨rfl, b9⟩
          have X9 : Hid (Bx w9 w3.heap.size ⟨0, 0, ((ss.length : Nat) : Int), mk vd, ek, dk, []⟩ none 0) := XD.out.later b9
          have K9 : Hid (Kept (fun q => q = w3.heap.size) w7 w9) := K8.out.below (bel2 (drewN_below _ 1) b9)
          have d49 := X9.out.c4
          have f49 := X9.out.fz 4
          have d59 := X9.out.c5
          have B9 : Hid (Below w8.heap.size w8 w9) := bel2 (drewN_below _ 1) b9
          clear b9
          refine hK _ _ ?_
          clear hK K
          try simp only [Act.put, List.setIfInBounds_toArray, List.set_cons_zero, List.set_cons_succ]
          refine wpAny_take (i := 6) (v := ?_) rfl (by kernel_rfl) (by kernel_rfl) (by kernel_rfl) (fun _ _ _ h => h) (Or.inl ⟨by rfl, ?hy21⟩) ?_
          case hy21 => (intro w; go_simp; try with_reducible rfl)
          try simp only [Act.put, List.setIfInBounds_toArray, List.set_cons_zero, List.set_cons_succ]
          refine wpAny_take (i := 7) (v := ?_) rfl (by kernel_rfl) (by kernel_rfl) (by kernel_rfl) (fun _ _ _ h => h) (Or.inl ⟨by rfl, ?hy22⟩) ?_
          case hy22 => (intro w; go_simp; try with_reducible rfl)
          try simp only [Act.put, List.setIfInBounds_toArray, List.set_cons_zero, List.set_cons_succ]
          refine wpAny_ready (rs := [8]) (by kernel_rfl) (by simp) ?_
          refine AllReady.cons rfl (fun K hK => ?_) AllReady.nil
          go_simp
          refine hK _ _ ?_
          clear hK K
          try simp only [Act.put, List.setIfInBounds_toArray, List.set_cons_zero, List.set_cons_succ]
          refine wpAny_done (by kernel_rfl) ?_ _
          refine NoPanic.normal ?_
          obtain ⟨w10, e10, x10, k10, h10⟩ := X9.out.set4 (ek ++ mk (Plain.low dl 4))
          rw [e10]
          have X10 : Hid (Bx w10 w3.heap.size ⟨0, 0, ((ss.length : Nat) : Int), mk vd, ek ++ mk (Plain.low dl 4), dk, []⟩ none 0) := x10
          have K10 : Hid (Kept (fun q => q = w3.heap.size) w7 w10) := k10 _ _ (by simp) K9.out
          have H10 : Hid (∀ b, b ≠ w3.heap.size → w10.heap[b]? = w9.heap[b]?) := h10
          have KS10 : Hid (Kept (fun q => q = w3.heap.size) w9 w10) := k10 _ _ rfl (Kept.refl _ _)
          clear e10 x10 k10 h10 d4 d4b d5 d5b d49 f49 d59
          have XA : Hid (Bx w10 w3.heap.size ⟨0, 0, ((ss.length : Nat) : Int), mk vd, mk (E (k + 1)), dk, []⟩ none 0) := by rw [HSE.out, ← app_mk, hek]; exact X10.out
          have HIA : Hid (Texts.IsTx w10 oP ps) := Texts.own_texts (KS10.out.row (row_later HOP.out B9.out) (fun g hg c => by have c2 : g = w3.heap.size := c; have := ((row_later HOP.out B9.out).lt g hg).1; have := XB.out.lt; omega))
          go_wp2_with fail
          refine wp_region_noPanic ?_
          refine wp_region_any (by kernel_rfl) ?_
          try (change wpAny _ _ _ _ _ _ _ (World.drew _))
          have XE : Hid (Bx w10.drew w3.heap.size ⟨0, 0, ((ss.length : Nat) : Int), mk vd, mk (E (k + 1)), dk, []⟩ none 0) := XA.out.later (drewN_below _ 1)
          have d5 := XE.out.c5
          have d5b : w10.cell? ⟨w3.heap.size, 5, none⟩ = some (.string dk) := d5
          have f5 := XE.out.fz 5
          have f5b : w10.frozen? ⟨w3.heap.size, 5, none⟩ = false := f5
          have HID : Hid (Texts.IsTx w10.drew oP ps) := HIA.out.later (drewN_below _ 1)
          have KD : Hid (Kept (fun q => q = w3.heap.size) w7 w10.drew) := K10.out.below (drewN_below _ 1)
          generalize w10.drew = wd at *
          refine wpAny_take (i := 0) (v := ?_) rfl (by kernel_rfl) (by kernel_rfl) (by kernel_rfl) (fun _ _ _ h => h) (Or.inl ⟨by rfl, ?hy31⟩) ?_
          case hy31 => (intro w; go_simp; try with_reducible rfl)
          try simp only [Act.put, List.setIfInBounds_toArray, List.set_cons_zero, List.set_cons_succ]
          refine wpAny_take (i := 2) (v := ?_) rfl (by kernel_rfl) (by kernel_rfl) (by kernel_rfl) (fun _ _ _ h => h) (Or.inl ⟨by rfl, ?hy32⟩) ?_
          case hy32 => (intro w; go_simp; try with_reducible rfl)
          try simp only [Act.put, List.setIfInBounds_toArray, List.set_cons_zero, List.set_cons_succ]
          refine wpAny_ready (rs := [1, 3]) (by kernel_rfl) (by simp) ?_
          refine AllReady.cons rfl (fun K hK => ?_) (AllReady.cons rfl (fun K hK => ?_) AllReady.nil)
          · go_simp
            refine hK _ _ ?_
            clear hK K
            try simp only [Act.put, List.setIfInBounds_toArray, List.set_cons_zero, List.set_cons_succ]
            refine wpAny_ready (rs := [3]) (by kernel_rfl) (by simp) ?_
            refine AllReady.cons rfl (fun K hK => ?_) AllReady.nil
            go_simp
            go_at_call 67
            refine (HAL.out _ oP cP HID.out).mono ?_
            rintro e wx ⟨rfl, rfl⟩
            refine hK _ _ ?_
            clear hK K
            try simp only [Act.put, List.setIfInBounds_toArray, List.set_cons_zero, List.set_cons_succ]
            refine wpAny_take (i := 4) (v := ?_) rfl (by kernel_rfl) (by kernel_rfl) (by kernel_rfl) (fun _ _ _ h => h) (Or.inl ⟨by rfl, ?hy33⟩) ?_
            case hy33 => (intro w; go_simp; try with_reducible rfl)
            try simp only [Act.put, List.setIfInBounds_toArray, List.set_cons_zero, List.set_cons_succ]
            refine wpAny_take (i := 5) (v := ?_) rfl (by kernel_rfl) (by kernel_rfl) (by kernel_rfl) (fun _ _ _ h => h) (Or.inl ⟨by rfl, ?hy34⟩) ?_
            case hy34 => (intro w; go_simp; try with_reducible rfl)
            try simp only [Act.put, List.setIfInBounds_toArray, List.set_cons_zero, List.set_cons_succ]
            refine wpAny_ready (rs := [6]) (by kernel_rfl) (by simp) ?_
            refine AllReady.cons rfl (fun K hK => ?_) AllReady.nil
            go_simp
            refine hK _ _ ?_
            clear hK K
            try simp only [Act.put, List.setIfInBounds_toArray, List.set_cons_zero, List.set_cons_succ]
            refine wpAny_done (by kernel_rfl) ?_ _
            refine NoPanic.normal ?_
            obtain ⟨w11, e11, x11, k11, _⟩ := XE.out.set5 (dk ++ mk (flat ps))
            rw [e11]
            have X11 : Hid (Bx w11 w3.heap.size ⟨0, 0, ((ss.length : Nat) : Int), mk vd, mk (E (k + 1)), mk (D (k + 1)), []⟩ none 0) := by rw [HSK.out, ← app_mk, hdk]; exact x11
            have K11 : Hid (Kept (fun q => q = w3.heap.size) w7 w11) := k11 _ _ rfl KD.out
            clear e11 x11 k11 d5 d5b f5 f5b
            go_wp2
            go_roundw
            case rel => exact ⟨k + 1, by omega, by go_num, X11.out, K11.out⟩
            case measure => simp [intOf]; omega
          · go_simp
            go_at_call 67
            refine (HAL.out _ oP cP HID.out).mono ?_
            rintro e wx ⟨rfl, rfl⟩
            refine hK _ _ ?_
            clear hK K
            try simp only [Act.put, List.setIfInBounds_toArray, List.set_cons_zero, List.set_cons_succ]
            refine wpAny_ready (rs := [1]) (by kernel_rfl) (by simp) ?_
            refine AllReady.cons rfl (fun K hK => ?_) AllReady.nil
            go_simp
            refine hK _ _ ?_
            clear hK K
            try simp only [Act.put, List.setIfInBounds_toArray, List.set_cons_zero, List.set_cons_succ]
            refine wpAny_take (i := 4) (v := ?_) rfl (by kernel_rfl) (by kernel_rfl) (by kernel_rfl) (fun _ _ _ h => h) (Or.inl ⟨by rfl, ?hy35⟩) ?_
            case hy35 => (intro w; go_simp; try with_reducible rfl)
            try simp only [Act.put, List.setIfInBounds_toArray, List.set_cons_zero, List.set_cons_succ]
            refine wpAny_take (i := 5) (v := ?_) rfl (by kernel_rfl) (by kernel_rfl) (by kernel_rfl) (fun _ _ _ h => h) (Or.inl ⟨by rfl, ?hy36⟩) ?_
            case hy36 => (intro w; go_simp; try with_reducible rfl)
            try simp only [Act.put, List.setIfInBounds_toArray, List.set_cons_zero, List.set_cons_succ]
            refine wpAny_ready (rs := [6]) (by kernel_rfl) (by simp) ?_
            refine AllReady.cons rfl (fun K hK => ?_) AllReady.nil
            go_simp
            refine hK _ _ ?_
            clear hK K
            try simp only [Act.put, List.setIfInBounds_toArray, List.set_cons_zero, List.set_cons_succ]
            refine wpAny_done (by kernel_rfl) ?_ _
            refine NoPanic.normal ?_
            obtain ⟨w11, e11, x11, k11, _⟩ := XE.out.set5 (dk ++ mk (flat ps))
            rw [e11]
            have X11 : Hid (Bx w11 w3.heap.size ⟨0, 0, ((ss.length : Nat) : Int), mk vd, mk (E (k + 1)), mk (D (k + 1)), []⟩ none 0) := by rw [HSK.out, ← app_mk, hdk]; exact x11
            have K11 : Hid (Kept (fun q => q = w3.heap.size) w7 w11) := k11 _ _ rfl KD.out
            clear e11 x11 k11 d5 d5b f5 f5b
            go_wp2
            go_roundw
            case rel => exact ⟨k + 1, by omega, by go_num, X11.out, K11.out⟩
            case measure => simp [intOf]; omega
        · go_simp
          go_at_call 49
          refine (HLW.out _).mono ?_
          rintro e w9 ⟨rfl, b9⟩
          have X9 : Hid (Bx w9 w3.heap.size ⟨0, 0, ((ss.length : Nat) : Int), mk vd, ek, dk, []⟩ none 0) := XD.out.later b9
          have K9 : Hid (Kept (fun q => q = w3.heap.size) w7 w9) := K8.out.below (bel2 (drewN_below _ 1) b9)
          have d49 := X9.out.c4
          have f49 := X9.out.fz 4
          have d59 := X9.out.c5
          have B9 : Hid (Below w8.heap.size w8 w9) := bel2 (drewN_below _ 1) b9
          clear b9
          refine hK _ _ ?_
          clear hK K
          try simp only [Act.put, List.setIfInBounds_toArray, List.set_cons_zero, List.set_cons_succ]
          refine wpAny_ready (rs := [1]) (by kernel_rfl) (by simp) ?_
          refine AllReady.cons rfl (fun K hK => ?_) AllReady.nil
          go_simp
          refine hK _ _ ?_
          clear hK K
          try simp only [Act.put, List.setIfInBounds_toArray, List.set_cons_zero, List.set_cons_succ]
          refine wpAny_take (i := 6) (v := ?_) rfl (by kernel_rfl) (by kernel_rfl) (by kernel_rfl) (fun _ _ _ h => h) (Or.inl ⟨by rfl, ?hy23⟩) ?_
          case hy23 => (intro w; go_simp; try with_reducible rfl)
          try simp only [Act.put, List.setIfInBounds_toArray, List.set_cons_zero, List.set_cons_succ]
          refine wpAny_take (i := 7) (v := ?_) rfl (by kernel_rfl) (by kernel_rfl) (by kernel_rfl) (fun _ _ _ h => h) (Or.inl ⟨by rfl, ?hy24⟩) ?_
          case hy24 => (intro w; go_simp; try with_reducible rfl)
          try simp only [Act.put, List.setIfInBounds_toArray, List.set_cons_zero, List.set_cons_succ]
          refine wpAny_ready (rs := [8]) (by kernel_rfl) (by simp) ?_
          refine AllReady.cons rfl (fun K hK => ?_) AllReady.nil
          go_simp
          refine hK _ _ ?_
          clear hK K
          try simp only [Act.put, List.setIfInBounds_toArray, List.set_cons_zero, List.set_cons_succ]
          refine wpAny_done (by kernel_rfl) ?_ _
          refine NoPanic.normal ?_
          obtain ⟨w10, e10, x10, k10, h10⟩ := X9.out.set4 (ek ++ mk (Plain.low dl 4))
          rw [e10]
          have X10 : Hid (Bx w10 w3.heap.size ⟨0, 0, ((ss.length : Nat) : Int), mk vd, ek ++ mk (Plain.low dl 4), dk, []⟩ none 0) := x10
          have K10 : Hid (Kept (fun q => q = w3.heap.size) w7 w10) := k10 _ _ (by simp) K9.out
          have H10 : Hid (∀ b, b ≠ w3.heap.size → w10.heap[b]? = w9.heap[b]?) := h10
          have KS10 : Hid (Kept (fun q => q = w3.heap.size) w9 w10) := k10 _ _ rfl (Kept.refl _ _)
          clear e10 x10 k10 h10 d4 d4b d5 d5b d49 f49 d59
          have XA : Hid (Bx w10 w3.heap.size ⟨0, 0, ((ss.length : Nat) : Int), mk vd, mk (E (k + 1)), dk, []⟩ none 0) := by rw [HSE.out, ← app_mk, hek]; exact X10.out
          have HIA : Hid (Texts.IsTx w10 oP ps) := Texts.own_texts (KS10.out.row (row_later HOP.out B9.out) (fun g hg c => by have c2 : g = w3.heap.size := c; have := ((row_later HOP.out B9.out).lt g hg).1; have := XB.out.lt; omega))
          go_wp2_with fail
          refine wp_region_noPanic ?_
          refine wp_region_any (by kernel_rfl) ?_
          try (change wpAny _ _ _ _ _ _ _ (World.drew _))
          have XE : Hid (Bx w10.drew w3.heap.size ⟨0, 0, ((ss.length : Nat) : Int), mk vd, mk (E (k + 1)), dk, []⟩ none 0) := XA.out.later (drewN_below _ 1)
          have d5 := XE.out.c5
          have d5b : w10.cell? ⟨w3.heap.size, 5, none⟩ = some (.string dk) := d5
          have f5 := XE.out.fz 5
          have f5b : w10.frozen? ⟨w3.heap.size, 5, none⟩ = false := f5
          have HID : Hid (Texts.IsTx w10.drew oP ps) := HIA.out.later (drewN_below _ 1)
          have KD : Hid (Kept (fun q => q = w3.heap.size) w7 w10.drew) := K10.out.below (drewN_below _ 1)
          generalize w10.drew = wd at *
          refine wpAny_take (i := 0) (v := ?_) rfl (by kernel_rfl) (by kernel_rfl) (by kernel_rfl) (fun _ _ _ h => h) (Or.inl ⟨by rfl, ?hy37⟩) ?_
          case hy37 => (intro w; go_simp; try with_reducible rfl)
          try simp only [Act.put, List.setIfInBounds_toArray, List.set_cons_zero, List.set_cons_succ]
          refine wpAny_take (i := 2) (v := ?_) rfl (by kernel_rfl) (by kernel_rfl) (by kernel_rfl) (fun _ _ _ h => h) (Or.inl ⟨by rfl, ?hy38⟩) ?_
          case hy38 => (intro w; go_simp; try with_reducible rfl)
          try simp only [Act.put, List.setIfInBounds_toArray, List.set_cons_zero, List.set_cons_succ]
          refine wpAny_ready (rs := [1, 3]) (by kernel_rfl) (by simp) ?_
          refine AllReady.cons rfl (fun K hK => ?_) (AllReady.cons rfl (fun K hK => ?_) AllReady.nil)
          · go_simp
            refine hK _ _ ?_
            clear hK K
            try simp only [Act.put, List.setIfInBounds_toArray, List.set_cons_zero, List.set_cons_succ]
            refine wpAny_ready (rs := [3]) (by kernel_rfl) (by simp) ?_
            refine AllReady.cons rfl (fun K hK => ?_) AllReady.nil
            go_simp
            go_at_call 67
            refine (HAL.out _ oP cP HID.out).mono ?_
            rintro e wx ⟨rfl, rfl⟩
            refine hK _ _ ?_
            clear hK K
            try simp only [Act.put, List.setIfInBounds_toArray, List.set_cons_zero, List.set_cons_succ]
            refine wpAny_take (i := 4) (v := ?_) rfl (by kernel_rfl) (by kernel_rfl) (by kernel_rfl) (fun _ _ _ h => h) (Or.inl ⟨by rfl, ?hy39⟩) ?_
            case hy39 => (intro w; go_simp; try with_reducible rfl)
            try simp only [Act.put, List.setIfInBounds_toArray, List.set_cons_zero, List.set_cons_succ]
            refine wpAny_take (i := 5) (v := ?_) rfl (by kernel_rfl) (by kernel_rfl) (by kernel_rfl) (fun _ _ _ h => h) (Or.inl ⟨by rfl, ?hy40⟩) ?_
            case hy40 => (intro w; go_simp; try with_reducible rfl)
            try simp only [Act.put, List.setIfInBounds_toArray, List.set_cons_zero, List.set_cons_succ]
            refine wpAny_ready (rs := [6]) (by kernel_rfl) (by simp) ?_
            refine AllReady.cons rfl (fun K hK => ?_) AllReady.nil
            go_simp
            refine hK _ _ ?_
            clear hK K
            try simp only [Act.put, List.setIfInBounds_toArray, List.set_cons_zero, List.set_cons_succ]
            refine wpAny_done (by kernel_rfl) ?_ _
            refine NoPanic.normal ?_
            obtain ⟨w11, e11, x11, k11, _⟩ := XE.out.set5 (dk ++ mk (flat ps))
            rw [e11]
            have X11 : Hid (Bx w11 w3.heap.size ⟨0, 0, ((ss.length : Nat) : Int), mk vd, mk (E (k + 1)), mk (D (k + 1)), []⟩ none 0) := by rw [HSK.out, ← app_mk, hdk]; exact x11
            have K11 : Hid (Kept (fun q => q = w3.heap.size) w7 w11) := k11 _ _ rfl KD.out
            clear e11 x11 k11 d5 d5b f5 f5b
            go_wp2
            go_roundw
            case rel => exact ⟨k + 1, by omega, by go_num, X11.out, K11.out⟩
            case measure => simp [intOf]; omega
          · go_simp
            go_at_call 67
            refine (HAL.out _ oP cP HID.out).mono ?_
            rintro e wx ⟨rfl, rfl⟩
            refine hK _ _ ?_
            clear hK K
            try simp only [Act.put, List.setIfInBounds_toArray, List.set_cons_zero, List.set_cons_succ]
            refine wpAny_ready (rs := [1]) (by kernel_rfl) (by simp) ?_
            refine AllReady.cons rfl (fun K hK => ?_) AllReady.nil
            go_simp
            refine hK _ _ ?_
            clear hK K
            try simp only [Act.put, List.setIfInBounds_toArray, List.set_cons_zero, List.set_cons_succ]
            refine wpAny_take (i := 4) (v := ?_) rfl (by kernel_rfl) (by kernel_rfl) (by kernel_rfl) (fun _ _ _ h => h) (Or.inl ⟨by rfl, ?hy41⟩) ?_
            case hy41 => (intro w; go_simp; try with_reducible rfl)
            try simp only [Act.put, List.setIfInBounds_toArray, List.set_cons_zero, List.set_cons_succ]
            refine wpAny_take (i := 5) (v := ?_) rfl (by kernel_rfl) (by kernel_rfl) (by kernel_rfl) (fun _ _ _ h => h) (Or.inl ⟨by rfl, ?hy42⟩) ?_
            case hy42 => (intro w; go_simp; try with_reducible rfl)
            try simp only [Act.put, List.setIfInBounds_toArray, List.set_cons_zero, List.set_cons_succ]
            refine wpAny_ready (rs := [6]) (by kernel_rfl) (by simp) ?_
            refine AllReady.cons rfl (fun K hK => ?_) AllReady.nil
            go_simp
            refine hK _ _ ?_
            clear hK K
            try simp only [Act.put, List.setIfInBounds_toArray, List.set_cons_zero, List.set_cons_succ]
            refine wpAny_done (by kernel_rfl) ?_ _
            refine NoPanic.normal ?_
            obtain ⟨w11, e11, x11, k11, _⟩ := XE.out.set5 (dk ++ mk (flat ps))
            rw [e11]
            have X11 : Hid (Bx w11 w3.heap.size ⟨0, 0, ((ss.length : Nat) : Int), mk vd, mk (E (k + 1)), mk (D (k + 1)), []⟩ none 0) := by rw [HSK.out, ← app_mk, hdk]; exact x11
            have K11 : Hid (Kept (fun q => q = w3.heap.size) w7 w11) := k11 _ _ rfl KD.out
            clear e11 x11 k11 d5 d5b f5 f5b
            go_wp2
            go_roundw
            case rel => exact ⟨k + 1, by omega, by go_num, X11.out, K11.out⟩
            case measure => simp [intOf]; omega

    · obtain rfl : k = ss.length := by omega
      have i3 : ((ss.length : Nat) : Int) ≤ 64 := by omega
      have cT := HCR.out
      have n0 := cell_later BR.out HN0.out
      have hlD := HDL.out _ hk2
      have hlE := HEL.out _ hk2
      have z1 : (mk (D ss.length)).size ≤ 1024 := by rw [size_mk]; omega
      have z4 : (mk (E ss.length)).size ≤ 256 := by rw [size_mk]; omega
      have HLW : Hid (∀ v, Calls Tryz.prog 49 #[.int .i64 (((mk (D ss.length)).size : Nat) : Int), .int .i64 4] v fun r w' => r = .returned (.string (mk (Plain.low (D ss.length).length 4))) ∧ Below v.heap.size v w') := fun v => Fix.refLow4 _ (D ss.length).length (by rw [size_mk]; simp [IntKind.wrap, IntKind.bits, IntKind.signed]; omega) v
      have zl : (mk (Plain.low (D ss.length).length 4)).size ≤ 4 := by rw [size_mk, Plain.length_low]; exact Nat.le_refl _
      have z5 : ¬ (9223372036854775807 < (mk (E ss.length)).size + (mk (Plain.low (D ss.length).length 4)).size) := by omega
      generalize (D ss.length).length = dl at *
      generalize hdk : mk (D ss.length) = dk at *
      generalize hek : mk (E ss.length) = ek at *
      go_wp2_with fail
      refine wp_region_noPanic ?_
      refine wp_region_any (by kernel_rfl) ?_
      try (change wpAny _ _ _ _ _ _ _ (World.drew _))
      have XD : Hid (Bx wr.drew w3.heap.size ⟨0, 0, ((ss.length : Nat) : Int), mk vd, ek, dk, []⟩ none 0) := XB.out.later (drewN_below _ 1)
      have d4 := XD.out.c4
      have d4b : wr.cell? ⟨w3.heap.size, 4, none⟩ = some (.string ek) := d4
      have d5 := XD.out.c5
      have d5b : wr.cell? ⟨w3.heap.size, 5, none⟩ = some (.string dk) := d5
      refine wpAny_take (i := 0) (v := ?_) rfl (by kernel_rfl) (by kernel_rfl) (by kernel_rfl) (fun _ _ _ h => h) (Or.inl ⟨by rfl, ?hy43⟩) ?_
      case hy43 => (intro w; go_simp; try with_reducible rfl)
      try simp only [Act.put, List.setIfInBounds_toArray, List.set_cons_zero, List.set_cons_succ]
      refine wpAny_take (i := 2) (v := ?_) rfl (by kernel_rfl) (by kernel_rfl) (by kernel_rfl) (fun _ _ _ h => h) (Or.inl ⟨by rfl, ?hy44⟩) ?_
      case hy44 => (intro w; go_simp; try with_reducible rfl)
      try simp only [Act.put, List.setIfInBounds_toArray, List.set_cons_zero, List.set_cons_succ]
      refine wpAny_ready (rs := [1, 3]) (by kernel_rfl) (by simp) ?_
      refine AllReady.cons rfl (fun K hK => ?_) (AllReady.cons rfl (fun K hK => ?_) AllReady.nil)
      · go_simp
        refine hK _ _ ?_
        clear hK K
        try simp only [Act.put, List.setIfInBounds_toArray, List.set_cons_zero, List.set_cons_succ]
        refine wpAny_ready (rs := [3]) (by kernel_rfl) (by simp) ?_
        refine AllReady.cons rfl (fun K hK => ?_) AllReady.nil
        go_simp
        refine hK _ _ ?_
        clear hK K
        try simp only [Act.put, List.setIfInBounds_toArray, List.set_cons_zero, List.set_cons_succ]
        refine wpAny_take (i := 4) (v := ?_) rfl (by kernel_rfl) (by kernel_rfl) (by kernel_rfl) (fun _ _ _ h => h) (Or.inl ⟨by rfl, ?hy45⟩) ?_
        case hy45 => (intro w; go_simp; try with_reducible rfl)
        try simp only [Act.put, List.setIfInBounds_toArray, List.set_cons_zero, List.set_cons_succ]
        refine wpAny_ready (rs := [5]) (by kernel_rfl) (by simp) ?_
        refine AllReady.cons rfl (fun K hK => ?_) AllReady.nil
        go_simp
        go_at_call 49
        refine (HLW.out _).mono ?_
        rintro e w9 ⟨rfl, b9⟩
        have X9 : Hid (Bx w9 w3.heap.size ⟨0, 0, ((ss.length : Nat) : Int), mk vd, ek, dk, []⟩ none 0) := XD.out.later b9
        have K9 : Hid (Kept (fun q => q = w3.heap.size) w7 w9) := KP.out.below (bel2 (drewN_below _ 1) b9)
        have d49 := X9.out.c4
        have f49 := X9.out.fz 4
        have d59 := X9.out.c5
        have B9 : Hid (Below wr.heap.size wr w9) := bel2 (drewN_below _ 1) b9
        clear b9
        refine hK _ _ ?_
        clear hK K
        try simp only [Act.put, List.setIfInBounds_toArray, List.set_cons_zero, List.set_cons_succ]
        refine wpAny_take (i := 6) (v := ?_) rfl (by kernel_rfl) (by kernel_rfl) (by kernel_rfl) (fun _ _ _ h => h) (Or.inl ⟨by rfl, ?hy46⟩) ?_
        case hy46 => (intro w; go_simp; try with_reducible rfl)
        try simp only [Act.put, List.setIfInBounds_toArray, List.set_cons_zero, List.set_cons_succ]
        refine wpAny_take (i := 7) (v := ?_) rfl (by kernel_rfl) (by kernel_rfl) (by kernel_rfl) (fun _ _ _ h => h) (Or.inl ⟨by rfl, ?hy47⟩) ?_
        case hy47 => (intro w; go_simp; try with_reducible rfl)
        try simp only [Act.put, List.setIfInBounds_toArray, List.set_cons_zero, List.set_cons_succ]
        refine wpAny_ready (rs := [8]) (by kernel_rfl) (by simp) ?_
        refine AllReady.cons rfl (fun K hK => ?_) AllReady.nil
        go_simp
        refine hK _ _ ?_
        clear hK K
        try simp only [Act.put, List.setIfInBounds_toArray, List.set_cons_zero, List.set_cons_succ]
        refine wpAny_done (by kernel_rfl) ?_ _
        refine NoPanic.normal ?_
        obtain ⟨w10, e10, x10, k10, h10⟩ := X9.out.set4 (ek ++ mk (Plain.low dl 4))
        rw [e10]
        have X10 : Hid (Bx w10 w3.heap.size ⟨0, 0, ((ss.length : Nat) : Int), mk vd, ek ++ mk (Plain.low dl 4), dk, []⟩ none 0) := x10
        have K10 : Hid (Kept (fun q => q = w3.heap.size) w7 w10) := k10 _ _ (by simp) K9.out
        have H10 : Hid (∀ b, b ≠ w3.heap.size → w10.heap[b]? = w9.heap[b]?) := h10
        have KS10 : Hid (Kept (fun q => q = w3.heap.size) w9 w10) := k10 _ _ rfl (Kept.refl _ _)
        clear e10 x10 k10 h10 d4 d4b d5 d5b d49 f49 d59
        have XF : Hid (Bx w10 w3.heap.size ⟨0, 0, ((ss.length : Nat) : Int), mk vd, mk (E ss.length ++ Plain.low dl 4), dk, []⟩ none 0) := by rw [← app_mk, hek]; exact X10.out
        have XRF : Hid (Bx w10 w1.heap.size nil none 0) := ⟨(H10.out _ (by omega)).trans (XRR.out.later B9.out).blk⟩
        have BF : Hid (Below w.heap.size w w10) := K10.out.down B7.out (fun q hq => by rw [hq]; omega)
        have zD : (dk.size : Int) ≤ 4096 := by omega
        have zE : ((mk (E ss.length ++ Plain.low dl 4)).size : Int) ≤ 4096 := by rw [size_mk, List.length_append, Plain.length_low]; omega
        go_wp2_with fail
        refine wp_loop_rounds 1 ?_
        rw [rounds_succ]
        go_wp2_with fail
        have XD : Hid (Bx w10.drew w3.heap.size (⟨0, 0, ((ss.length : Nat) : Int), mk vd, mk (E ss.length ++ Plain.low dl 4), dk, []⟩) none 0) := XF.out.later (drewN_below _ 1)
        have XRD : Hid (Bx w10.drew w1.heap.size nil none 0) := XRF.out.later (drewN_below _ 1)
        have KR : Hid (w10.drew.cell? ⟨w3.heap.size, 0, none⟩ = some (.int .i64 0) ∧ w10.drew.cell? ⟨w3.heap.size, 1, none⟩ = some (.int .i64 0) ∧ w10.drew.cell? ⟨w3.heap.size, 2, none⟩ = some (.int .i64 ((ss.length : Nat) : Int)) ∧ w10.drew.cell? ⟨w3.heap.size, 3, none⟩ = some (.string (mk vd)) ∧ w10.drew.cell? ⟨w3.heap.size, 4, none⟩ = some (.string (mk (E ss.length ++ Plain.low dl 4))) ∧ w10.drew.cell? ⟨w3.heap.size, 5, none⟩ = some (.string dk) ∧ w10.drew.cell? ⟨w3.heap.size, 6, none⟩ = some (.slice none 0 0)) := ⟨XD.out.c0, XD.out.c1, XD.out.c2, XD.out.c3, XD.out.c4, XD.out.c5, XD.out.c6⟩
        have HBD : Hid (Below w.heap.size w w10.drew) := bel2 BF.out (drewN_below _ 1)
        have HWD : Hid (∀ b : Nat, w10.drew.heap[b]? = w10.heap[b]?) := fun _ => rfl
        refine wp_region_noPanic ?_
        refine wp_region_held_drew (S := fun W : World => W.cell? ⟨w3.heap.size, 0, none⟩ = some (.int .i64 0) ∧ W.cell? ⟨w3.heap.size, 1, none⟩ = some (.int .i64 0) ∧ W.cell? ⟨w3.heap.size, 2, none⟩ = some (.int .i64 ((ss.length : Nat) : Int)) ∧ W.cell? ⟨w3.heap.size, 3, none⟩ = some (.string (mk vd)) ∧ W.cell? ⟨w3.heap.size, 4, none⟩ = some (.string (mk (E ss.length ++ Plain.low dl 4))) ∧ W.cell? ⟨w3.heap.size, 5, none⟩ = some (.string dk) ∧ W.cell? ⟨w3.heap.size, 6, none⟩ = some (.slice none 0 0)) (by kernel_rfl) KR.out (fun h0 => ?_)
        generalize w10.drew = wd at *
        refine take_at (i := 0) (d := some 211) (v := ?v0t53) rfl rfl (by kernel_rfl) (by kernel_rfl) (by kernel_rfl) (fun _ _ _ h => h) (Or.inl ⟨by rfl, ?y0t53⟩) h0 ?r0t53
        case y0t53 => (intro w' hSw; (try dsimp only at hSw); go_simp; try with_reducible rfl)
        try simp only [Act.put, List.setIfInBounds_toArray, List.set_cons_zero, List.set_cons_succ]
        refine take_at (i := 1) (d := some 212) (v := ?v1t53) rfl rfl (by kernel_rfl) (by kernel_rfl) (by kernel_rfl) (fun _ _ _ h => h) (Or.inl ⟨by rfl, ?y1t53⟩) h0 ?r1t53
        case y1t53 => (intro w' hSw; (try dsimp only at hSw); go_simp; try with_reducible rfl)
        try simp only [Act.put, List.setIfInBounds_toArray, List.set_cons_zero, List.set_cons_succ]
        refine take_at (i := 2) (d := some 213) (v := ?v2t53) rfl rfl (by kernel_rfl) (by kernel_rfl) (by kernel_rfl) (fun _ _ _ h => h) (Or.inl ⟨by rfl, ?y2t53⟩) h0 ?r2t53
        case y2t53 => (intro w' hSw; (try dsimp only at hSw); go_simp; try with_reducible rfl)
        try simp only [Act.put, List.setIfInBounds_toArray, List.set_cons_zero, List.set_cons_succ]
        refine take_at (i := 3) (d := some 214) (v := ?v3t53) rfl rfl (by kernel_rfl) (by kernel_rfl) (by kernel_rfl) (fun _ _ _ h => h) (Or.inl ⟨by rfl, ?y3t53⟩) h0 ?r3t53
        case y3t53 => (intro w' hSw; (try dsimp only at hSw); go_simp; try with_reducible rfl)
        try simp only [Act.put, List.setIfInBounds_toArray, List.set_cons_zero, List.set_cons_succ]
        refine take_at (i := 4) (d := some 215) (v := ?v4t53) rfl rfl (by kernel_rfl) (by kernel_rfl) (by kernel_rfl) (fun _ _ _ h => h) (Or.inl ⟨by rfl, ?y4t53⟩) h0 ?r4t53
        case y4t53 => (intro w' hSw; (try dsimp only at hSw); go_simp; try with_reducible rfl)
        try simp only [Act.put, List.setIfInBounds_toArray, List.set_cons_zero, List.set_cons_succ]
        refine take_at (i := 5) (d := some 216) (v := ?v5t53) rfl rfl (by kernel_rfl) (by kernel_rfl) (by kernel_rfl) (fun _ _ _ h => h) (Or.inl ⟨by rfl, ?y5t53⟩) h0 ?r5t53
        case y5t53 => (intro w' hSw; (try dsimp only at hSw); go_simp; try with_reducible rfl)
        try simp only [Act.put, List.setIfInBounds_toArray, List.set_cons_zero, List.set_cons_succ]
        refine take_at (i := 6) (d := some 217) (v := ?v6t53) rfl rfl (by kernel_rfl) (by kernel_rfl) (by kernel_rfl) (fun _ _ _ h => h) (Or.inl ⟨by rfl, ?y6t53⟩) h0 ?r6t53
        case y6t53 => (intro w' hSw; (try dsimp only at hSw); go_simp; try with_reducible rfl)
        try simp only [Act.put, List.setIfInBounds_toArray, List.set_cons_zero, List.set_cons_succ]
        refine take_at (i := 7) (d := some 218) (v := ?v7t53) rfl rfl (by kernel_rfl) (by kernel_rfl) (by kernel_rfl) (fun _ _ _ h => h) (Or.inl ⟨by rfl, ?y7t53⟩) h0 ?r7t53
        case y7t53 => (intro w' hSw; (try dsimp only at hSw); go_simp; try with_reducible rfl)
        try simp only [Act.put, List.setIfInBounds_toArray, List.set_cons_zero, List.set_cons_succ]
        refine take_at (i := 8) (d := some 219) (v := ?v8t53) rfl rfl (by kernel_rfl) (by kernel_rfl) (by kernel_rfl) (fun _ _ _ h => h) (Or.inl ⟨by rfl, ?y8t53⟩) h0 ?r8t53
        case y8t53 => (intro w' hSw; (try dsimp only at hSw); go_simp; try with_reducible rfl)
        try simp only [Act.put, List.setIfInBounds_toArray, List.set_cons_zero, List.set_cons_succ]
        refine take_at (i := 9) (d := some 220) (v := ?v9t53) rfl rfl (by kernel_rfl) (by kernel_rfl) (by kernel_rfl) (fun _ _ _ h => h) (Or.inl ⟨by rfl, ?y9t53⟩) h0 ?r9t53
        case y9t53 => (intro w' hSw; (try dsimp only at hSw); go_simp; try with_reducible rfl)
        try simp only [Act.put, List.setIfInBounds_toArray, List.set_cons_zero, List.set_cons_succ]
        refine take_at (i := 10) (d := some 221) (v := ?v10t53) rfl rfl (by kernel_rfl) (by kernel_rfl) (by kernel_rfl) (fun _ _ _ h => h) (Or.inl ⟨by rfl, ?y10t53⟩) h0 ?r10t53
        case y10t53 => (intro w' hSw; (try dsimp only at hSw); go_simp; try with_reducible rfl)
        try simp only [Act.put, List.setIfInBounds_toArray, List.set_cons_zero, List.set_cons_succ]
        refine wpAnyH_ready (rs := [11]) (by kernel_rfl) (by simp) ?_
        refine AllReadyH.cons rfl (fun K hK => ?_) AllReadyH.nil
        have g0 := XRD.out.fz 0
        have r0 := XRD.out.c0
        have g1 := XRD.out.fz 1
        have r1 := XRD.out.c1
        have g2 := XRD.out.fz 2
        have r2 := XRD.out.c2
        have g3 := XRD.out.fz 3
        have r3 := XRD.out.c3
        have g4 := XRD.out.fz 4
        have r4 := XRD.out.c4
        have g5 := XRD.out.fz 5
        have r5 := XRD.out.c5
        have g6 := XRD.out.fz 6
        have r6 := XRD.out.c6
        go_simp
        obtain ⟨w9, e9, x9, h9, b9⟩ := set7 XRD.out (⟨0, 0, ((ss.length : Nat) : Int), mk vd, mk (E ss.length ++ Plain.low dl 4), dk, []⟩) none 0
        have e9b : (((((((wd).setCell ⟨w1.heap.size, 0, none⟩ (.int .i64 0)).setCell ⟨w1.heap.size, 1, none⟩ (.int .i64 0)).setCell ⟨w1.heap.size, 2, none⟩ (.int .i64 ((ss.length : Nat) : Int))).setCell ⟨w1.heap.size, 3, none⟩ (.string (mk vd))).setCell ⟨w1.heap.size, 4, none⟩ (.string (mk (E ss.length ++ Plain.low dl 4)))).setCell ⟨w1.heap.size, 5, none⟩ (.string dk)).setCell ⟨w1.heap.size, 6, none⟩ (.slice none 0 0) = w9 := e9
        rw [e9b]
        have X9 : Hid (Bx w9 w3.heap.size (⟨0, 0, ((ss.length : Nat) : Int), mk vd, mk (E ss.length ++ Plain.low dl 4), dk, []⟩) none 0) := ⟨(h9 _ (by omega)).trans XD.out.blk⟩
        have XR9 : Hid (Bx w9 w1.heap.size (⟨0, 0, ((ss.length : Nat) : Int), mk vd, mk (E ss.length ++ Plain.low dl 4), dk, []⟩) none 0) := x9
        have KE : Hid (w9.cell? ⟨w3.heap.size, 0, none⟩ = some (.int .i64 0) ∧ w9.cell? ⟨w3.heap.size, 1, none⟩ = some (.int .i64 0) ∧ w9.cell? ⟨w3.heap.size, 2, none⟩ = some (.int .i64 ((ss.length : Nat) : Int)) ∧ w9.cell? ⟨w3.heap.size, 3, none⟩ = some (.string (mk vd)) ∧ w9.cell? ⟨w3.heap.size, 4, none⟩ = some (.string (mk (E ss.length ++ Plain.low dl 4))) ∧ w9.cell? ⟨w3.heap.size, 5, none⟩ = some (.string dk) ∧ w9.cell? ⟨w3.heap.size, 6, none⟩ = some (.slice none 0 0)) := ⟨X9.out.c0, X9.out.c1, X9.out.c2, X9.out.c3, X9.out.c4, X9.out.c5, X9.out.c6⟩
        have HB9 : Hid (Below w.heap.size w w9) := HBD.out.trans (b9 w.heap.size (by omega))
        have HH9 : Hid (∀ b, b ≠ w1.heap.size → w9.heap[b]? = w10.heap[b]?) := fun b hb => (h9 b hb).trans (HWD.out b)
        clear e9 e9b x9 h9 b9 KR h0
        refine hK.out _ _ KE.out (fun h1 => ?_)
        clear hK K
        try simp only [Act.put, List.setIfInBounds_toArray, List.set_cons_zero, List.set_cons_succ]
        refine take_at (i := 12) (d := some 7) (v := ?v12t53) rfl rfl (by kernel_rfl) (by kernel_rfl) (by kernel_rfl) (fun _ _ _ h => h) (Or.inl ⟨by rfl, ?y12t53⟩) h1 ?r12t53
        case y12t53 => (intro w' hSw; (try dsimp only at hSw); go_simp; try with_reducible rfl)
        try simp only [Act.put, List.setIfInBounds_toArray, List.set_cons_zero, List.set_cons_succ]
        refine wpAnyH_done (by kernel_rfl) ?_ _
        refine NoPanic.normal ?_
        have q0 := XR9.out.c0
        have q1 := XR9.out.c1
        have q2 := XR9.out.c2
        have q3 := XR9.out.c3
        have q4 := XR9.out.c4
        have q5 := XR9.out.c5
        have q6 := XR9.out.c6
        have HFIN : Hid (BuildQ B (f + 1) ns n (ss.map bl) w (.returned (.tuple #[.agg #[.int .i64 0, .int .i64 0, .int .i64 ((ss.length : Nat) : Int), .string (mk vd), .string (mk (E ss.length ++ Plain.low dl 4)), .string dk, .slice none 0 0], .bool true])) w9) := leaf_done hB HBU.out rfl HB9.out
        go_wp2
        exact bodyPost_ret (v := .tuple #[.agg #[.int .i64 0, .int .i64 0, .int .i64 ((ss.length : Nat) : Int), .string (mk vd), .string (mk (E ss.length ++ Plain.low dl 4)), .string dk, .slice none 0 0], .bool true]) (by simp [results, Tryz.results62, go_sem, q0, q1, q2, q3, q4, q5, q6]) rfl HFIN.out
      · go_simp
        refine hK _ _ ?_
        clear hK K
        try simp only [Act.put, List.setIfInBounds_toArray, List.set_cons_zero, List.set_cons_succ]
        refine wpAny_take (i := 4) (v := ?_) rfl (by kernel_rfl) (by kernel_rfl) (by kernel_rfl) (fun _ _ _ h => h) (Or.inl ⟨by rfl, ?hy48⟩) ?_
        case hy48 => (intro w; go_simp; try with_reducible rfl)
        try simp only [Act.put, List.setIfInBounds_toArray, List.set_cons_zero, List.set_cons_succ]
        refine wpAny_ready (rs := [1, 5]) (by kernel_rfl) (by simp) ?_
        refine AllReady.cons rfl (fun K hK => ?_) (AllReady.cons rfl (fun K hK => ?_) AllReady.nil)
        · go_simp
          refine hK _ _ ?_
          clear hK K
          try simp only [Act.put, List.setIfInBounds_toArray, List.set_cons_zero, List.set_cons_succ]
          refine wpAny_ready (rs := [5]) (by kernel_rfl) (by simp) ?_
          refine AllReady.cons rfl (fun K hK => ?_) AllReady.nil
          go_simp
          go_at_call 49
          refine (HLW.out _).mono ?_
          rintro e w9 ⟨rfl, b9⟩
          have X9 : Hid (Bx w9 w3.heap.size ⟨0, 0, ((ss.length : Nat) : Int), mk vd, ek, dk, []⟩ none 0) := XD.out.later b9
          have K9 : Hid (Kept (fun q => q = w3.heap.size) w7 w9) := KP.out.below (bel2 (drewN_below _ 1) b9)
          have d49 := X9.out.c4
          have f49 := X9.out.fz 4
          have d59 := X9.out.c5
          have B9 : Hid (Below wr.heap.size wr w9) := bel2 (drewN_below _ 1) b9
          clear b9
          refine hK _ _ ?_
          clear hK K
          try simp only [Act.put, List.setIfInBounds_toArray, List.set_cons_zero, List.set_cons_succ]
          refine wpAny_take (i := 6) (v := ?_) rfl (by kernel_rfl) (by kernel_rfl) (by kernel_rfl) (fun _ _ _ h => h) (Or.inl ⟨by rfl, ?hy49⟩) ?_
          case hy49 => (intro w; go_simp; try with_reducible rfl)
          try simp only [Act.put, List.setIfInBounds_toArray, List.set_cons_zero, List.set_cons_succ]
          refine wpAny_take (i := 7) (v := ?_) rfl (by kernel_rfl) (by kernel_rfl) (by kernel_rfl) (fun _ _ _ h => h) (Or.inl ⟨by rfl, ?hy50⟩) ?_
          case hy50 => (intro w; go_simp; try with_reducible rfl)
          try simp only [Act.put, List.setIfInBounds_toArray, List.set_cons_zero, List.set_cons_succ]
          refine wpAny_ready (rs := [8]) (by kernel_rfl) (by simp) ?_
          refine AllReady.cons rfl (fun K hK => ?_) AllReady.nil
          go_simp
          refine hK _ _ ?_
          clear hK K
          try simp only [Act.put, List.setIfInBounds_toArray, List.set_cons_zero, List.set_cons_succ]
          refine wpAny_done (by kernel_rfl) ?_ _
          refine NoPanic.normal ?_
          obtain ⟨w10, e10, x10, k10, h10⟩ := X9.out.set4 (ek ++ mk (Plain.low dl 4))
          rw [e10]
          have X10 : Hid (Bx w10 w3.heap.size ⟨0, 0, ((ss.length : Nat) : Int), mk vd, ek ++ mk (Plain.low dl 4), dk, []⟩ none 0) := x10
          have K10 : Hid (Kept (fun q => q = w3.heap.size) w7 w10) := k10 _ _ (by simp) K9.out
          have H10 : Hid (∀ b, b ≠ w3.heap.size → w10.heap[b]? = w9.heap[b]?) := h10
          have KS10 : Hid (Kept (fun q => q = w3.heap.size) w9 w10) := k10 _ _ rfl (Kept.refl _ _)
          clear e10 x10 k10 h10 d4 d4b d5 d5b d49 f49 d59
          have XF : Hid (Bx w10 w3.heap.size ⟨0, 0, ((ss.length : Nat) : Int), mk vd, mk (E ss.length ++ Plain.low dl 4), dk, []⟩ none 0) := by rw [← app_mk, hek]; exact X10.out
          have XRF : Hid (Bx w10 w1.heap.size nil none 0) := ⟨(H10.out _ (by omega)).trans (XRR.out.later B9.out).blk⟩
          have BF : Hid (Below w.heap.size w w10) := K10.out.down B7.out (fun q hq => by rw [hq]; omega)
          have zD : (dk.size : Int) ≤ 4096 := by omega
          have zE : ((mk (E ss.length ++ Plain.low dl 4)).size : Int) ≤ 4096 := by rw [size_mk, List.length_append, Plain.length_low]; omega
          go_wp2_with fail
          refine wp_loop_rounds 1 ?_
          rw [rounds_succ]
          go_wp2_with fail
          have XD : Hid (Bx w10.drew w3.heap.size (⟨0, 0, ((ss.length : Nat) : Int), mk vd, mk (E ss.length ++ Plain.low dl 4), dk, []⟩) none 0) := XF.out.later (drewN_below _ 1)
          have XRD : Hid (Bx w10.drew w1.heap.size nil none 0) := XRF.out.later (drewN_below _ 1)
          have KR : Hid (w10.drew.cell? ⟨w3.heap.size, 0, none⟩ = some (.int .i64 0) ∧ w10.drew.cell? ⟨w3.heap.size, 1, none⟩ = some (.int .i64 0) ∧ w10.drew.cell? ⟨w3.heap.size, 2, none⟩ = some (.int .i64 ((ss.length : Nat) : Int)) ∧ w10.drew.cell? ⟨w3.heap.size, 3, none⟩ = some (.string (mk vd)) ∧ w10.drew.cell? ⟨w3.heap.size, 4, none⟩ = some (.string (mk (E ss.length ++ Plain.low dl 4))) ∧ w10.drew.cell? ⟨w3.heap.size, 5, none⟩ = some (.string dk) ∧ w10.drew.cell? ⟨w3.heap.size, 6, none⟩ = some (.slice none 0 0)) := ⟨XD.out.c0, XD.out.c1, XD.out.c2, XD.out.c3, XD.out.c4, XD.out.c5, XD.out.c6⟩
          have HBD : Hid (Below w.heap.size w w10.drew) := bel2 BF.out (drewN_below _ 1)
          have HWD : Hid (∀ b : Nat, w10.drew.heap[b]? = w10.heap[b]?) := fun _ => rfl
          refine wp_region_noPanic ?_
          refine wp_region_held_drew (S := fun W : World => W.cell? ⟨w3.heap.size, 0, none⟩ = some (.int .i64 0) ∧ W.cell? ⟨w3.heap.size, 1, none⟩ = some (.int .i64 0) ∧ W.cell? ⟨w3.heap.size, 2, none⟩ = some (.int .i64 ((ss.length : Nat) : Int)) ∧ W.cell? ⟨w3.heap.size, 3, none⟩ = some (.string (mk vd)) ∧ W.cell? ⟨w3.heap.size, 4, none⟩ = some (.string (mk (E ss.length ++ Plain.low dl 4))) ∧ W.cell? ⟨w3.heap.size, 5, none⟩ = some (.string dk) ∧ W.cell? ⟨w3.heap.size, 6, none⟩ = some (.slice none 0 0)) (by kernel_rfl) KR.out (fun h0 => ?_)
          generalize w10.drew = wd at *
          refine take_at (i := 0) (d := some 211) (v := ?v0t54) rfl rfl (by kernel_rfl) (by kernel_rfl) (by kernel_rfl) (fun _ _ _ h => h) (Or.inl ⟨by rfl, ?y0t54⟩) h0 ?r0t54
          case y0t54 => (intro w' hSw; (try dsimp only at hSw); go_simp; try with_reducible rfl)
          try simp only [Act.put, List.setIfInBounds_toArray, List.set_cons_zero, List.set_cons_succ]
          refine take_at (i := 1) (d := some 212) (v := ?v1t54) rfl rfl (by kernel_rfl) (by kernel_rfl) (by kernel_rfl) (fun _ _ _ h => h) (Or.inl ⟨by rfl, ?y1t54⟩) h0 ?r1t54
          case y1t54 => (intro w' hSw; (try dsimp only at hSw); go_simp; try with_reducible rfl)
          try simp only [Act.put, List.setIfInBounds_toArray, List.set_cons_zero, List.set_cons_succ]
          refine take_at (i := 2) (d := some 213) (v := ?v2t54) rfl rfl (by kernel_rfl) (by kernel_rfl) (by kernel_rfl) (fun _ _ _ h => h) (Or.inl ⟨by rfl, ?y2t54⟩) h0 ?r2t54
          case y2t54 => (intro w' hSw; (try dsimp only at hSw); go_simp; try with_reducible rfl)
          try simp only [Act.put, List.setIfInBounds_toArray, List.set_cons_zero, List.set_cons_succ]
          refine take_at (i := 3) (d := some 214) (v := ?v3t54) rfl rfl (by kernel_rfl) (by kernel_rfl) (by kernel_rfl) (fun _ _ _ h => h) (Or.inl ⟨by rfl, ?y3t54⟩) h0 ?r3t54
          case y3t54 => (intro w' hSw; (try dsimp only at hSw); go_simp; try with_reducible rfl)
          try simp only [Act.put, List.setIfInBounds_toArray, List.set_cons_zero, List.set_cons_succ]
          refine take_at (i := 4) (d := some 215) (v := ?v4t54) rfl rfl (by kernel_rfl) (by kernel_rfl) (by kernel_rfl) (fun _ _ _ h => h) (Or.inl ⟨by rfl, ?y4t54⟩) h0 ?r4t54
          case y4t54 => (intro w' hSw; (try dsimp only at hSw); go_simp; try with_reducible rfl)
          try simp only [Act.put, List.setIfInBounds_toArray, List.set_cons_zero, List.set_cons_succ]
          refine take_at (i := 5) (d := some 216) (v := ?v5t54) rfl rfl (by kernel_rfl) (by kernel_rfl) (by kernel_rfl) (fun _ _ _ h => h) (Or.inl ⟨by rfl, ?y5t54⟩) h0 ?r5t54
          case y5t54 => (intro w' hSw; (try dsimp only at hSw); go_simp; try with_reducible rfl)
          try simp only [Act.put, List.setIfInBounds_toArray, List.set_cons_zero, List.set_cons_succ]
          refine take_at (i := 6) (d := some 217) (v := ?v6t54) rfl rfl (by kernel_rfl) (by kernel_rfl) (by kernel_rfl) (fun _ _ _ h => h) (Or.inl ⟨by rfl, ?y6t54⟩) h0 ?r6t54
          case y6t54 => (intro w' hSw; (try dsimp only at hSw); go_simp; try with_reducible rfl)
          try simp only [Act.put, List.setIfInBounds_toArray, List.set_cons_zero, List.set_cons_succ]
          refine take_at (i := 7) (d := some 218) (v := ?v7t54) rfl rfl (by kernel_rfl) (by kernel_rfl) (by kernel_rfl) (fun _ _ _ h => h) (Or.inl ⟨by rfl, ?y7t54⟩) h0 ?r7t54
          case y7t54 => (intro w' hSw; (try dsimp only at hSw); go_simp; try with_reducible rfl)
          try simp only [Act.put, List.setIfInBounds_toArray, List.set_cons_zero, List.set_cons_succ]
          refine take_at (i := 8) (d := some 219) (v := ?v8t54) rfl rfl (by kernel_rfl) (by kernel_rfl) (by kernel_rfl) (fun _ _ _ h => h) (Or.inl ⟨by rfl, ?y8t54⟩) h0 ?r8t54
          case y8t54 => (intro w' hSw; (try dsimp only at hSw); go_simp; try with_reducible rfl)
          try simp only [Act.put, List.setIfInBounds_toArray, List.set_cons_zero, List.set_cons_succ]
          refine take_at (i := 9) (d := some 220) (v := ?v9t54) rfl rfl (by kernel_rfl) (by kernel_rfl) (by kernel_rfl) (fun _ _ _ h => h) (Or.inl ⟨by rfl, ?y9t54⟩) h0 ?r9t54
          case y9t54 => (intro w' hSw; (try dsimp only at hSw); go_simp; try with_reducible rfl)
          try simp only [Act.put, List.setIfInBounds_toArray, List.set_cons_zero, List.set_cons_succ]
          refine take_at (i := 10) (d := some 221) (v := ?v10t54) rfl rfl (by kernel_rfl) (by kernel_rfl) (by kernel_rfl) (fun _ _ _ h => h) (Or.inl ⟨by rfl, ?y10t54⟩) h0 ?r10t54
          case y10t54 => (intro w' hSw; (try dsimp only at hSw); go_simp; try with_reducible rfl)
          try simp only [Act.put, List.setIfInBounds_toArray, List.set_cons_zero, List.set_cons_succ]
          refine wpAnyH_ready (rs := [11]) (by kernel_rfl) (by simp) ?_
          refine AllReadyH.cons rfl (fun K hK => ?_) AllReadyH.nil
          have g0 := XRD.out.fz 0
          have r0 := XRD.out.c0
          have g1 := XRD.out.fz 1
          have r1 := XRD.out.c1
          have g2 := XRD.out.fz 2
          have r2 := XRD.out.c2
          have g3 := XRD.out.fz 3
          have r3 := XRD.out.c3
          have g4 := XRD.out.fz 4
          have r4 := XRD.out.c4
          have g5 := XRD.out.fz 5
          have r5 := XRD.out.c5
          have g6 := XRD.out.fz 6
          have r6 := XRD.out.c6
          go_simp
          obtain ⟨w9, e9, x9, h9, b9⟩ := set7 XRD.out (⟨0, 0, ((ss.length : Nat) : Int), mk vd, mk (E ss.length ++ Plain.low dl 4), dk, []⟩) none 0
          have e9b : (((((((wd).setCell ⟨w1.heap.size, 0, none⟩ (.int .i64 0)).setCell ⟨w1.heap.size, 1, none⟩ (.int .i64 0)).setCell ⟨w1.heap.size, 2, none⟩ (.int .i64 ((ss.length : Nat) : Int))).setCell ⟨w1.heap.size, 3, none⟩ (.string (mk vd))).setCell ⟨w1.heap.size, 4, none⟩ (.string (mk (E ss.length ++ Plain.low dl 4)))).setCell ⟨w1.heap.size, 5, none⟩ (.string dk)).setCell ⟨w1.heap.size, 6, none⟩ (.slice none 0 0) = w9 := e9
          rw [e9b]
          have X9 : Hid (Bx w9 w3.heap.size (⟨0, 0, ((ss.length : Nat) : Int), mk vd, mk (E ss.length ++ Plain.low dl 4), dk, []⟩) none 0) := ⟨(h9 _ (by omega)).trans XD.out.blk⟩
          have XR9 : Hid (Bx w9 w1.heap.size (⟨0, 0, ((ss.length : Nat) : Int), mk vd, mk (E ss.length ++ Plain.low dl 4), dk, []⟩) none 0) := x9
          have KE : Hid (w9.cell? ⟨w3.heap.size, 0, none⟩ = some (.int .i64 0) ∧ w9.cell? ⟨w3.heap.size, 1, none⟩ = some (.int .i64 0) ∧ w9.cell? ⟨w3.heap.size, 2, none⟩ = some (.int .i64 ((ss.length : Nat) : Int)) ∧ w9.cell? ⟨w3.heap.size, 3, none⟩ = some (.string (mk vd)) ∧ w9.cell? ⟨w3.heap.size, 4, none⟩ = some (.string (mk (E ss.length ++ Plain.low dl 4))) ∧ w9.cell? ⟨w3.heap.size, 5, none⟩ = some (.string dk) ∧ w9.cell? ⟨w3.heap.size, 6, none⟩ = some (.slice none 0 0)) := ⟨X9.out.c0, X9.out.c1, X9.out.c2, X9.out.c3, X9.out.c4, X9.out.c5, X9.out.c6⟩
          have HB9 : Hid (Below w.heap.size w w9) := HBD.out.trans (b9 w.heap.size (by omega))
          have HH9 : Hid (∀ b, b ≠ w1.heap.size → w9.heap[b]? = w10.heap[b]?) := fun b hb => (h9 b hb).trans (HWD.out b)
          clear e9 e9b x9 h9 b9 KR h0
          refine hK.out _ _ KE.out (fun h1 => ?_)
          clear hK K
          try simp only [Act.put, List.setIfInBounds_toArray, List.set_cons_zero, List.set_cons_succ]
          refine take_at (i := 12) (d := some 7) (v := ?v12t54) rfl rfl (by kernel_rfl) (by kernel_rfl) (by kernel_rfl) (fun _ _ _ h => h) (Or.inl ⟨by rfl, ?y12t54⟩) h1 ?r12t54
          case y12t54 => (intro w' hSw; (try dsimp only at hSw); go_simp; try with_reducible rfl)
          try simp only [Act.put, List.setIfInBounds_toArray, List.set_cons_zero, List.set_cons_succ]
          refine wpAnyH_done (by kernel_rfl) ?_ _
          refine NoPanic.normal ?_
          have q0 := XR9.out.c0
          have q1 := XR9.out.c1
          have q2 := XR9.out.c2
          have q3 := XR9.out.c3
          have q4 := XR9.out.c4
          have q5 := XR9.out.c5
          have q6 := XR9.out.c6
          have HFIN : Hid (BuildQ B (f + 1) ns n (ss.map bl) w (.returned (.tuple #[.agg #[.int .i64 0, .int .i64 0, .int .i64 ((ss.length : Nat) : Int), .string (mk vd), .string (mk (E ss.length ++ Plain.low dl 4)), .string dk, .slice none 0 0], .bool true])) w9) := leaf_done hB HBU.out rfl HB9.out
          go_wp2
          exact bodyPost_ret (v := .tuple #[.agg #[.int .i64 0, .int .i64 0, .int .i64 ((ss.length : Nat) : Int), .string (mk vd), .string (mk (E ss.length ++ Plain.low dl 4)), .string dk, .slice none 0 0], .bool true]) (by simp [results, Tryz.results62, go_sem, q0, q1, q2, q3, q4, q5, q6]) rfl HFIN.out
        · go_simp
          go_at_call 49
          refine (HLW.out _).mono ?_
          rintro e w9 ⟨rfl, b9⟩
          have X9 : Hid (Bx w9 w3.heap.size ⟨0, 0, ((ss.length : Nat) : Int), mk vd, ek, dk, []⟩ none 0) := XD.out.later b9
          have K9 : Hid (Kept (fun q => q = w3.heap.size) w7 w9) := KP.out.below (bel2 (drewN_below _ 1) b9)
          have d49 := X9.out.c4
          have f49 := X9.out.fz 4
          have d59 := X9.out.c5
          have B9 : Hid (Below wr.heap.size wr w9) := bel2 (drewN_below _ 1) b9
          clear b9
          refine hK _ _ ?_
          clear hK K
          try simp only [Act.put, List.setIfInBounds_toArray, List.set_cons_zero, List.set_cons_succ]
          refine wpAny_ready (rs := [1]) (by kernel_rfl) (by simp) ?_
          refine AllReady.cons rfl (fun K hK => ?_) AllReady.nil
          go_simp
          refine hK _ _ ?_
          clear hK K
          try simp only [Act.put, List.setIfInBounds_toArray, List.set_cons_zero, List.set_cons_succ]
          refine wpAny_take (i := 6) (v := ?_) rfl (by kernel_rfl) (by kernel_rfl) (by kernel_rfl) (fun _ _ _ h => h) (Or.inl ⟨by rfl, ?hy51⟩) ?_
          case hy51 => (intro w; go_simp; try with_reducible rfl)
          try simp only [Act.put, List.setIfInBounds_toArray, List.set_cons_zero, List.set_cons_succ]
          refine wpAny_take (i := 7) (v := ?_) rfl (by kernel_rfl) (by kernel_rfl) (by kernel_rfl) (fun _ _ _ h => h) (Or.inl ⟨by rfl, ?hy52⟩) ?_
          case hy52 => (intro w; go_simp; try with_reducible rfl)
          try simp only [Act.put, List.setIfInBounds_toArray, List.set_cons_zero, List.set_cons_succ]
          refine wpAny_ready (rs := [8]) (by kernel_rfl) (by simp) ?_
          refine AllReady.cons rfl (fun K hK => ?_) AllReady.nil
          go_simp
          refine hK _ _ ?_
          clear hK K
          try simp only [Act.put, List.setIfInBounds_toArray, List.set_cons_zero, List.set_cons_succ]
          refine wpAny_done (by kernel_rfl) ?_ _
          refine NoPanic.normal ?_
          obtain ⟨w10, e10, x10, k10, h10⟩ := X9.out.set4 (ek ++ mk (Plain.low dl 4))
          rw [e10]
          have X10 : Hid (Bx w10 w3.heap.size ⟨0, 0, ((ss.length : Nat) : Int), mk vd, ek ++ mk (Plain.low dl 4), dk, []⟩ none 0) := x10
          have K10 : Hid (Kept (fun q => q = w3.heap.size) w7 w10) := k10 _ _ (by simp) K9.out
          have H10 : Hid (∀ b, b ≠ w3.heap.size → w10.heap[b]? = w9.heap[b]?) := h10
          have KS10 : Hid (Kept (fun q => q = w3.heap.size) w9 w10) := k10 _ _ rfl (Kept.refl _ _)
          clear e10 x10 k10 h10 d4 d4b d5 d5b d49 f49 d59
          have XF : Hid (Bx w10 w3.heap.size ⟨0, 0, ((ss.length : Nat) : Int), mk vd, mk (E ss.length ++ Plain.low dl 4), dk, []⟩ none 0) := by rw [← app_mk, hek]; exact X10.out
          have XRF : Hid (Bx w10 w1.heap.size nil none 0) := ⟨(H10.out _ (by omega)).trans (XRR.out.later B9.out).blk⟩
          have BF : Hid (Below w.heap.size w w10) := K10.out.down B7.out (fun q hq => by rw [hq]; omega)
          have zD : (dk.size : Int) ≤ 4096 := by omega
          have zE : ((mk (E ss.length ++ Plain.low dl 4)).size : Int) ≤ 4096 := by rw [size_mk, List.length_append, Plain.length_low]; omega
          go_wp2_with fail
          refine wp_loop_rounds 1 ?_
          rw [rounds_succ]
          go_wp2_with fail
          have XD : Hid (Bx w10.drew w3.heap.size (⟨0, 0, ((ss.length : Nat) : Int), mk vd, mk (E ss.length ++ Plain.low dl 4), dk, []⟩) none 0) := XF.out.later (drewN_below _ 1)
          have XRD : Hid (Bx w10.drew w1.heap.size nil none 0) := XRF.out.later (drewN_below _ 1)
          have KR : Hid (w10.drew.cell? ⟨w3.heap.size, 0, none⟩ = some (.int .i64 0) ∧ w10.drew.cell? ⟨w3.heap.size, 1, none⟩ = some (.int .i64 0) ∧ w10.drew.cell? ⟨w3.heap.size, 2, none⟩ = some (.int .i64 ((ss.length : Nat) : Int)) ∧ w10.drew.cell? ⟨w3.heap.size, 3, none⟩ = some (.string (mk vd)) ∧ w10.drew.cell? ⟨w3.heap.size, 4, none⟩ = some (.string (mk (E ss.length ++ Plain.low dl 4))) ∧ w10.drew.cell? ⟨w3.heap.size, 5, none⟩ = some (.string dk) ∧ w10.drew.cell? ⟨w3.heap.size, 6, none⟩ = some (.slice none 0 0)) := ⟨XD.out.c0, XD.out.c1, XD.out.c2, XD.out.c3, XD.out.c4, XD.out.c5, XD.out.c6⟩
          have HBD : Hid (Below w.heap.size w w10.drew) := bel2 BF.out (drewN_below _ 1)
          have HWD : Hid (∀ b : Nat, w10.drew.heap[b]? = w10.heap[b]?) := fun _ => rfl
          refine wp_region_noPanic ?_
          refine wp_region_held_drew (S := fun W : World => W.cell? ⟨w3.heap.size, 0, none⟩ = some (.int .i64 0) ∧ W.cell? ⟨w3.heap.size, 1, none⟩ = some (.int .i64 0) ∧ W.cell? ⟨w3.heap.size, 2, none⟩ = some (.int .i64 ((ss.length : Nat) : Int)) ∧ W.cell? ⟨w3.heap.size, 3, none⟩ = some (.string (mk vd)) ∧ W.cell? ⟨w3.heap.size, 4, none⟩ = some (.string (mk (E ss.length ++ Plain.low dl 4))) ∧ W.cell? ⟨w3.heap.size, 5, none⟩ = some (.string dk) ∧ W.cell? ⟨w3.heap.size, 6, none⟩ = some (.slice none 0 0)) (by kernel_rfl) KR.out (fun h0 => ?_)
          generalize w10.drew = wd at *
          refine take_at (i := 0) (d := some 211) (v := ?v0t55) rfl rfl (by kernel_rfl) (by kernel_rfl) (by kernel_rfl) (fun _ _ _ h => h) (Or.inl ⟨by rfl, ?y0t55⟩) h0 ?r0t55
          case y0t55 => (intro w' hSw; (try dsimp only at hSw); go_simp; try with_reducible rfl)
          try simp only [Act.put, List.setIfInBounds_toArray, List.set_cons_zero, List.set_cons_succ]
          refine take_at (i := 1) (d := some 212) (v := ?v1t55) rfl rfl (by kernel_rfl) (by kernel_rfl) (by kernel_rfl) (fun _ _ _ h => h) (Or.inl ⟨by rfl, ?y1t55⟩) h0 ?r1t55
          case y1t55 => (intro w' hSw; (try dsimp only at hSw); go_simp; try with_reducible rfl)
          try simp only [Act.put, List.setIfInBounds_toArray, List.set_cons_zero, List.set_cons_succ]
          refine take_at (i := 2) (d := some 213) (v := ?v2t55) rfl rfl (by kernel_rfl) (by kernel_rfl) (by kernel_rfl) (fun _ _ _ h => h) (Or.inl ⟨by rfl, ?y2t55⟩) h0 ?r2t55
          case y2t55 => (intro w' hSw; (try dsimp only at hSw); go_simp; try with_reducible rfl)
          try simp only [Act.put, List.setIfInBounds_toArray, List.set_cons_zero, List.set_cons_succ]
          refine take_at (i := 3) (d := some 214) (v := ?v3t55) rfl rfl (by kernel_rfl) (by kernel_rfl) (by kernel_rfl) (fun _ _ _ h => h) (Or.inl ⟨by rfl, ?y3t55⟩) h0 ?r3t55
          case y3t55 => (intro w' hSw; (try dsimp only at hSw); go_simp; try with_reducible rfl)
          try simp only [Act.put, List.setIfInBounds_toArray, List.set_cons_zero, List.set_cons_succ]
          refine take_at (i := 4) (d := some 215) (v := ?v4t55) rfl rfl (by kernel_rfl) (by kernel_rfl) (by kernel_rfl) (fun _ _ _ h => h) (Or.inl ⟨by rfl, ?y4t55⟩) h0 ?r4t55
          case y4t55 => (intro w' hSw; (try dsimp only at hSw); go_simp; try with_reducible rfl)
          try simp only [Act.put, List.setIfInBounds_toArray, List.set_cons_zero, List.set_cons_succ]
          refine take_at (i := 5) (d := some 216) (v := ?v5t55) rfl rfl (by kernel_rfl) (by kernel_rfl) (by kernel_rfl) (fun _ _ _ h => h) (Or.inl ⟨by rfl, ?y5t55⟩) h0 ?r5t55
          case y5t55 => (intro w' hSw; (try dsimp only at hSw); go_simp; try with_reducible rfl)
          try simp only [Act.put, List.setIfInBounds_toArray, List.set_cons_zero, List.set_cons_succ]
          refine take_at (i := 6) (d := some 217) (v := ?v6t55) rfl rfl (by kernel_rfl) (by kernel_rfl) (by kernel_rfl) (fun _ _ _ h => h) (Or.inl ⟨by rfl, ?y6t55⟩) h0 ?r6t55
          case y6t55 => (intro w' hSw; (try dsimp only at hSw); go_simp; try with_reducible rfl)
          try simp only [Act.put, List.setIfInBounds_toArray, List.set_cons_zero, List.set_cons_succ]
          refine take_at (i := 7) (d := some 218) (v := ?v7t55) rfl rfl (by kernel_rfl) (by kernel_rfl) (by kernel_rfl) (fun _ _ _ h => h) (Or.inl ⟨by rfl, ?y7t55⟩) h0 ?r7t55
          case y7t55 => (intro w' hSw; (try dsimp only at hSw); go_simp; try with_reducible rfl)
          try simp only [Act.put, List.setIfInBounds_toArray, List.set_cons_zero, List.set_cons_succ]
          refine take_at (i := 8) (d := some 219) (v := ?v8t55) rfl rfl (by kernel_rfl) (by kernel_rfl) (by kernel_rfl) (fun _ _ _ h => h) (Or.inl ⟨by rfl, ?y8t55⟩) h0 ?r8t55
          case y8t55 => (intro w' hSw; (try dsimp only at hSw); go_simp; try with_reducible rfl)
          try simp only [Act.put, List.setIfInBounds_toArray, List.set_cons_zero, List.set_cons_succ]
          refine take_at (i := 9) (d := some 220) (v := ?v9t55) rfl rfl (by kernel_rfl) (by kernel_rfl) (by kernel_rfl) (fun _ _ _ h => h) (Or.inl ⟨by rfl, ?y9t55⟩) h0 ?r9t55
          case y9t55 => (intro w' hSw; (try dsimp only at hSw); go_simp; try with_reducible rfl)
          try simp only [Act.put, List.setIfInBounds_toArray, List.set_cons_zero, List.set_cons_succ]
          refine take_at (i := 10) (d := some 221) (v := ?v10t55) rfl rfl (by kernel_rfl) (by kernel_rfl) (by kernel_rfl) (fun _ _ _ h => h) (Or.inl ⟨by rfl, ?y10t55⟩) h0 ?r10t55
          case y10t55 => (intro w' hSw; (try dsimp only at hSw); go_simp; try with_reducible rfl)
          try simp only [Act.put, List.setIfInBounds_toArray, List.set_cons_zero, List.set_cons_succ]
          refine wpAnyH_ready (rs := [11]) (by kernel_rfl) (by simp) ?_
          refine AllReadyH.cons rfl (fun K hK => ?_) AllReadyH.nil
          have g0 := XRD.out.fz 0
          have r0 := XRD.out.c0
          have g1 := XRD.out.fz 1
          have r1 := XRD.out.c1
          have g2 := XRD.out.fz 2
          have r2 := XRD.out.c2
          have g3 := XRD.out.fz 3
          have r3 := XRD.out.c3
          have g4 := XRD.out.fz 4
          have r4 := XRD.out.c4
          have g5 := XRD.out.fz 5
          have r5 := XRD.out.c5
          have g6 := XRD.out.fz 6
          have r6 := XRD.out.c6
          go_simp
          obtain ⟨w9, e9, x9, h9, b9⟩ := set7 XRD.out (⟨0, 0, ((ss.length : Nat) : Int), mk vd, mk (E ss.length ++ Plain.low dl 4), dk, []⟩) none 0
          have e9b : (((((((wd).setCell ⟨w1.heap.size, 0, none⟩ (.int .i64 0)).setCell ⟨w1.heap.size, 1, none⟩ (.int .i64 0)).setCell ⟨w1.heap.size, 2, none⟩ (.int .i64 ((ss.length : Nat) : Int))).setCell ⟨w1.heap.size, 3, none⟩ (.string (mk vd))).setCell ⟨w1.heap.size, 4, none⟩ (.string (mk (E ss.length ++ Plain.low dl 4)))).setCell ⟨w1.heap.size, 5, none⟩ (.string dk)).setCell ⟨w1.heap.size, 6, none⟩ (.slice none 0 0) = w9 := e9
          rw [e9b]
          have X9 : Hid (Bx w9 w3.heap.size (⟨0, 0, ((ss.length : Nat) : Int), mk vd, mk (E ss.length ++ Plain.low dl 4), dk, []⟩) none 0) := ⟨(h9 _ (by omega)).trans XD.out.blk⟩
          have XR9 : Hid (Bx w9 w1.heap.size (⟨0, 0, ((ss.length : Nat) : Int), mk vd, mk (E ss.length ++ Plain.low dl 4), dk, []⟩) none 0) := x9
          have KE : Hid (w9.cell? ⟨w3.heap.size, 0, none⟩ = some (.int .i64 0) ∧ w9.cell? ⟨w3.heap.size, 1, none⟩ = some (.int .i64 0) ∧ w9.cell? ⟨w3.heap.size, 2, none⟩ = some (.int .i64 ((ss.length : Nat) : Int)) ∧ w9.cell? ⟨w3.heap.size, 3, none⟩ = some (.string (mk vd)) ∧ w9.cell? ⟨w3.heap.size, 4, none⟩ = some (.string (mk (E ss.length ++ Plain.low dl 4))) ∧ w9.cell? ⟨w3.heap.size, 5, none⟩ = some (.string dk) ∧ w9.cell? ⟨w3.heap.size, 6, none⟩ = some (.slice none 0 0)) := ⟨X9.out.c0, X9.out.c1, X9.out.c2, X9.out.c3, X9.out.c4, X9.out.c5, X9.out.c6⟩
          have HB9 : Hid (Below w.heap.size w w9) := HBD.out.trans (b9 w.heap.size (by omega))
          have HH9 : Hid (∀ b, b ≠ w1.heap.size → w9.heap[b]? = w10.heap[b]?) := fun b hb => (h9 b hb).trans (HWD.out b)
          clear e9 e9b x9 h9 b9 KR h0
          refine hK.out _ _ KE.out (fun h1 => ?_)
          clear hK K
          try simp only [Act.put, List.setIfInBounds_toArray, List.set_cons_zero, List.set_cons_succ]
          refine take_at (i := 12) (d := some 7) (v := ?v12t55) rfl rfl (by kernel_rfl) (by kernel_rfl) (by kernel_rfl) (fun _ _ _ h => h) (Or.inl ⟨by rfl, ?y12t55⟩) h1 ?r12t55
          case y12t55 => (intro w' hSw; (try dsimp only at hSw); go_simp; try with_reducible rfl)
          try simp only [Act.put, List.setIfInBounds_toArray, List.set_cons_zero, List.set_cons_succ]
          refine wpAnyH_done (by kernel_rfl) ?_ _
          refine NoPanic.normal ?_
          have q0 := XR9.out.c0
          have q1 := XR9.out.c1
          have q2 := XR9.out.c2
          have q3 := XR9.out.c3
          have q4 := XR9.out.c4
          have q5 := XR9.out.c5
          have q6 := XR9.out.c6
          have HFIN : Hid (BuildQ B (f + 1) ns n (ss.map bl) w (.returned (.tuple #[.agg #[.int .i64 0, .int .i64 0, .int .i64 ((ss.length : Nat) : Int), .string (mk vd), .string (mk (E ss.length ++ Plain.low dl 4)), .string dk, .slice none 0 0], .bool true])) w9) := leaf_done hB HBU.out rfl HB9.out
          go_wp2
          exact bodyPost_ret (v := .tuple #[.agg #[.int .i64 0, .int .i64 0, .int .i64 ((ss.length : Nat) : Int), .string (mk vd), .string (mk (E ss.length ++ Plain.low dl 4)), .string dk, .slice none 0 0], .bool true]) (by simp [results, Tryz.results62, go_sem, q0, q1, q2, q3, q4, q5, q6]) rfl HFIN.out

end Go.Proofs.YtcpfhfdgfcilaaaGreatDoor.Arr
