/-
  What shapeOf makes: contract.
-/
import Derived.Test.YtejgjipmnmfkcaaGreatDoorTree
import Derived.Test.YtejgjipmnmfkcaaGreatDoorOpen
import Derived.Test.YtejgjipmnmfkcaaGreatDoorMem
import Derived.Test.YtejgjipmnmfkcaaGreatDoorUp
import Derived.Test.YtejgjipmnmfkcaaGreatDoorMay
import Derived.Test.YtejgjipmnmfkcaaGreatDoorTk
import Derived.Test.YtejgjipmnmfkcaaGreatDoorBehind
import Derived.Test.YtejgjipmnmfkcaaGreatDoorShape
import Derived.Deep.RegionHeld3
import Derived.Deep.AppendLies
import Derived.Laws.OwnMore
namespace Go.Proofs.YtejgjipmnmfkcaaGreatDoor.Val
open Go.ChangeShapes Go.WideShapes Go.ChangeAt Go.RowKit
open Tree

theorem ShInv.first {w : World} {g : Nat} {ns : List Nd} {m : Nat} {vs : Nat → Value} (h : ShInv w g ns m 0 vs) : ShInv w g ns m 1 vs :=
  ⟨h.row, fun j hj => by rw [kidsTo_one]; exact h.own j hj, h.apart⟩
theorem grow_first {w v u : World} {row : Option Nat} (h : Below w.heap.size w v) (k : v.grownBy u row) : w.grownBy u row :=
  ⟨k.os.trans h.os, k.tape.trans h.tape, k.output.trans h.output, Nat.le_trans h.size k.size, fun i hi hr => (k.block i (Nat.lt_of_lt_of_le hi h.size) hr).trans (h.block i hi)⟩
theorem box_node (w : World) (n : Nd) : ∃ w1, w.alloc (.cells #[.int .i64 n.kind, .int .i64 n.par, .bool n.null] 59) = w1 ∧ Below w.heap.size w w1 ∧ w1.cell? ⟨w.heap.size, 0, none⟩ = some (.int .i64 n.kind) ∧ w1.cell? ⟨w.heap.size, 1, none⟩ = some (.int .i64 n.par) ∧ w1.cell? ⟨w.heap.size, 2, none⟩ = some (.bool n.null) :=
  ⟨_, rfl, (Below.refl _ _).alloc (Nat.le_refl _) _, by simp, by simp, by simp⟩
set_option maxRecDepth 20000 in
set_option maxHeartbeats 3200000 in
theorem shapeOfC (x : Addr) (cap : Nat) (ns : List Nd) (a : Nat) (ha : a < ns.length) (hm : Hid (May ns)) (w : World) (hl : Hid (Lies w x ns)) :
    Calls Tryz.prog 38 #[.agg #[.slice (some x) ns.length cap], .int .i64 (a : Int)] w fun r w' => ∃ g vs, r = .returned (.pointer (some ⟨g, a * 4, none⟩)) ∧ ShInv w' g ns ns.length ns.length vs ∧ w.heap.size ≤ g ∧ Below w.heap.size w w' := by
  have h8 : ns.length ≤ 8 := hm.out.most
  obtain ⟨w1, e1, hs1, hc1, hb1⟩ := boxed w (.slice (some x) ns.length cap) 25
  obtain ⟨w2, e2, hr2, hb2⟩ := make_shapes ns.length h8 w1
  have hc2 := cell_later hb2 hc1
  have HI2 : Hid (ShInv w2 w1.heap.size ns 0 0 (fun _ => .slice none 0 0)) := shInv_zero ns hr2
  have HB2 : Hid (Below w.heap.size w w2) := bel hb1 hb2
  have HG : Hid (w.heap.size ≤ w1.heap.size) := hb1.size
  clear hr2 hb2 hb1 hs1
  obtain ⟨i55, hi, hz0, hz1, hz2⟩ := info_parts info55
  go_enter Tryz.func38, Tryz.ntmps38
  go_wp2_with fail
  clear e1 e2 hc1 hc2
  generalize w1.heap.size = g at *
  go_loopw [16] (fun t wr => ∃ (i : Nat) (vs : Nat → Value), i ≤ ns.length ∧ t = .int .i64 (i : Int) ∧ ShInv wr g ns i i vs ∧ Below w.heap.size w wr) (fun t _ => ns.length - (intOf t).toNat)
  case atStart => exact ⟨0, _, Nat.zero_le _, rfl, HI2.out, HB2.out⟩
  case round =>
    obtain ⟨i, vs, hil, rfl, hinv, hbl⟩ := hrel
    by_cases hlt : i < ns.length
    · have hl2 := hl.out.later hbl
      have p0 := hl2.kind' i hlt
      have p1 := hl2.par' i hlt
      have p2 := hl2.null' i hlt
      obtain ⟨w3, e3, b3, d0, d1, d2⟩ := box_node wr (nd ns i)
      have hinv3 := hinv.later b3
      have f0 := hinv3.row.fz (i * 4) (by omega)
      have f1 := hinv3.row.fz (i * 4 + 1) (by omega)
      have f2 := hinv3.row.fz (i * 4 + 2) (by omega)
      have g0 := hinv3.row.cell (i * 4) (by omega)
      have g1 := hinv3.row.cell (i * 4 + 1) (by omega)
      have g2 := hinv3.row.cell (i * 4 + 2) (by omega)
      obtain ⟨w4, e4, hinv4, m4⟩ := hinv3.node hlt
      have HINV4 : Hid (ShInv w4 g ns (i + 1) i vs) := hinv4
      have HM4 : Hid (Mv g w3 w4) := m4
      have HB4 : Hid (Below w.heap.size w w4) := (hbl.trans (b3.mono hbl.size)).trans (m4.below HG.out (Nat.le_trans hbl.size b3.size))
      have d4 : w4.cell? ⟨wr.heap.size, 1, none⟩ = some (.int .i64 (nd ns i).par) := by
        rw [World.cell?_of_block (w := w3) (a := ⟨wr.heap.size, 1, none⟩) (m4.block wr.heap.size (World.block_lt_of_cell? _ _ d1) (by have := hinv.row.lt; omega))]
        exact d1
      have HG4 : Hid (g < w4.heap.size) := hinv4.row.lt
      by_cases hi0 : i = 0
      · have HI0 : Hid (i = 0) := hi0
        have hi1 : ¬ (0 : Int) < (i : Int) := by omega
        clear hinv hinv3 hinv4 m4 hl2 hi0
        generalize nd ns i = n at *
        go_wp2
        go_roundw
        case rel =>
          refine ⟨i + 1, vs, by omega, by go_num, ?_, HB4.out⟩
          have := HINV4.out
          rw [HI0.out] at this ⊢
          exact this.first
        case measure => simp [intOf]; omega
      · obtain ⟨hp0, hp1⟩ := hm.out.par i (by omega) hlt
        obtain ⟨p, hp⟩ := Int.eq_ofNat_of_zero_le hp0
        rw [hp] at hp1
        have HP : Hid (∀ q, q = i → (nd ns q).par = (p : Int)) := fun q e => by rw [e]; exact hp
        have hpi : p < i := by omega
        have hi1 : 1 ≤ i := by omega
        have c3 := hinv4.row.cell (p * 4 + 3) (by omega)
        have z3 := hinv4.row.fz (p * 4 + 3) (by omega)
        rw [shC_kids] at c3
        obtain ⟨u, hu⟩ : ∃ u, u = vs p := ⟨_, rfl⟩
        rw [← hu] at c3
        have HU : Hid (u = vs p) := hu
        obtain ⟨L, hL⟩ : ∃ L, L = (kidsTo ns p i).length := ⟨_, rfl⟩
        have HL : Hid (L = (kidsTo ns p i).length) := hL
        have hL8 : L ≤ 8 := by have := length_kidsTo ns p i; omega
        have HOWN : Hid (w4.ownsRow (g + 1) 54 1 u L (ptrs g (kidsTo ns p i))) := by
          have := hinv4.own p (by omega)
          unfold Hid
          rw [hu, hL]
          exact this
        have HFAR : Hid (u.ownBlock ≠ some g) := fun e => by have := (HOWN.out.lt g e).1; omega
        clear hinv hinv3 hinv4 m4 hl2 hu hL hi0 hp0 hp1
        generalize nd ns i = n at *
        obtain ⟨nk, np, nn⟩ := n
        obtain rfl : np = (p : Int) := hp
        have j0 : (0 : Int) ≤ (p : Int) := Int.natCast_nonneg _
        have j1 : (p : Int) < (ns.length : Int) := by omega
        have j2 : (i : Int) < (ns.length : Int) := by omega
        have j3 : (0 : Int) < (i : Int) := by omega
        go_wp2_with fail
        clear p0 p1 p2 e3 d0 d1 d2 f0 f1 f2 g0 g1 g2 e4 d4
        refine wp_region_noPanic ?_
        refine wp_region_any (by kernel_rfl) ?_
        try (change wpAny _ _ _ _ _ _ _ (World.drew _))
        refine wpAny_take (i := 0) (v := ?_) rfl (by kernel_rfl) (by kernel_rfl) (by kernel_rfl) (fun _ _ _ h => h) (Or.inl ⟨by rfl, ?hy⟩) ?_
        case hy => (intro w; go_simp; try with_reducible rfl)
        refine wpAny_take (i := 1) (v := ?_) rfl (by kernel_rfl) (by kernel_rfl) (by kernel_rfl) (fun _ _ _ h => h) (Or.inl ⟨by rfl, ?hy⟩) ?_
        case hy => (intro w; go_simp; try with_reducible rfl)
        refine wpAny_take (i := 2) (v := ?_) rfl (by kernel_rfl) (by kernel_rfl) (by kernel_rfl) (fun _ _ _ h => h) (Or.inl ⟨by rfl, ?hy⟩) ?_
        case hy => (intro w; go_simp; try with_reducible rfl)
        refine wpAny_take (i := 3) (v := ?_) rfl (by kernel_rfl) (by kernel_rfl) (by kernel_rfl) (fun _ _ _ h => h) (Or.inl ⟨by rfl, ?hy⟩) ?_
        case hy => (intro w; go_simp; try with_reducible rfl)
        refine wpAny_take (i := 5) (v := ?_) rfl (by kernel_rfl) (by kernel_rfl) (by kernel_rfl) (fun _ _ _ h => h) (Or.inl ⟨by rfl, ?hy⟩) ?_
        case hy => (intro w; go_simp; try with_reducible rfl)
        refine wpAny_take (i := 6) (v := ?_) rfl (by kernel_rfl) (by kernel_rfl) (by kernel_rfl) (fun _ _ _ h => h) (Or.inl ⟨by rfl, ?hy⟩) ?_
        case hy => (intro w; go_simp; try with_reducible rfl)
        refine wpAny_take (i := 7) (v := ?_) rfl (by kernel_rfl) (by kernel_rfl) (by kernel_rfl) (fun _ _ _ h => h) (Or.inl ⟨by rfl, ?hy⟩) ?_
        case hy => (intro w; go_simp; try with_reducible rfl)
        refine wpAny_ready (rs := [4, 8]) (by kernel_rfl) (by simp) ?_
        refine AllReady.cons rfl (fun K hK => ?_) (AllReady.cons rfl (fun K hK => ?_) AllReady.nil)
        · go_simp
          refine hK _ _ ?_
          clear hK K
          refine wpAny_ready (rs := [8]) (by kernel_rfl) (by simp) ?_
          refine AllReady.cons rfl (fun K hK => ?_) AllReady.nil
          go_simp
          refine hK _ _ ?_
          clear hK K
          refine wpAny_ready (rs := [9]) (by kernel_rfl) (by simp) ?_
          refine AllReady.cons rfl (fun K hK => ?_) AllReady.nil
          refine step_append_lies _ (by rfl) _ _ _ (by rfl) (g + 1) 54 i55 _ 1 8 Tryz.underlying87 hi hz0 hz1 hz2 rfl (by omega) u L (ptrs g (kidsTo ns p i)) (by rfl) (((HOWN.out).alloc _).drew) ⟨w4.heap.size, 0, none⟩ 1 1 [.pointer (some ⟨g, i * 4, none⟩)] (by rfl) (by rfl) (World.news_of_block (cs := #[.pointer (some ⟨g, i * 4, none⟩)]) (t := 54) (fr := (0, 0)) (heap_alloc_new w4 _)) (by simp [Value.oneCell']) (by omega) (by unfold maxLen; omega) (by omega) (by have := HG4.out; simp; omega) (w4.heap.size + 1) (by simp) ?_
          intro g' cp w5 hown5 hgrow hg' _
          have b4a : Below w4.heap.size w4 (w4.alloc (.cells #[.pointer (some ⟨g, i * 4, none⟩)] 54)).drew := ((Below.refl _ _).alloc (Nat.le_refl _) _).drew
          have hgr : w4.grownBy w5 u.ownBlock := grow_first b4a hgrow
          have c5 : w5.cell? ⟨g, p * 4 + 3, none⟩ = some u := (hgr.cell_far ⟨g, p * 4 + 3, none⟩ HG4.out (Ne.symm HFAR.out)).trans c3
          have z5 : w5.frozen? ⟨g, p * 4 + 3, none⟩ = false := (hgr.frozen_far ⟨g, p * 4 + 3, none⟩ HG4.out (Ne.symm HFAR.out)).trans z3
          have H5 : Hid (ShInv (w5.setCell ⟨g, p * 4 + 3, none⟩ (.slice (some ⟨g', 0, none⟩) (L + 1) cp)) g ns (i + 1) (i + 1) (fun j => if j = p then .slice (some ⟨g', 0, none⟩) (L + 1) cp else vs j)) := by
            have hl := HL.out
            have hu := HU.out
            unfold Hid
            rw [hl] at hown5 ⊢
            rw [hu] at hgr hg'
            exact HINV4.out.kid (by omega) hi1 (HP.out i rfl) hown5 hgr (hg'.imp id (fun e => by omega))
          have HB5 : Hid (Below w.heap.size w (w5.setCell ⟨g, p * 4 + 3, none⟩ (.slice (some ⟨g', 0, none⟩) (L + 1) cp))) := (HB4.out.grown hgr HB4.out.size (fun k hk => by have := (HOWN.out.lt k hk).1; have := HG.out; omega)).setCell HG.out _
          refine hK _ _ ?_
          clear hK K hown5 hgrow hgr hg' b4a
          refine wpAny_take (i := 10) (v := ?_) rfl (by kernel_rfl) (by kernel_rfl) (by kernel_rfl) (fun _ _ _ h => h) (Or.inl ⟨by rfl, ?hy⟩) ?_
          case hy => (intro w; go_simp; try with_reducible rfl)
          refine wpAny_take (i := 11) (v := ?_) rfl (by kernel_rfl) (by kernel_rfl) (by kernel_rfl) (fun _ _ _ h => h) (Or.inl ⟨by rfl, ?hy⟩) ?_
          case hy => (intro w; go_simp; try with_reducible rfl)
          refine wpAny_ready (rs := [12]) (by kernel_rfl) (by simp) ?_
          refine AllReady.cons rfl (fun K hK => ?_) AllReady.nil
          go_simp
          refine hK _ _ ?_
          clear hK K
          refine wpAny_done (by kernel_rfl) ?_ _
          refine NoPanic.normal ?_
          go_wp2
          go_roundw
          case rel => exact ⟨i + 1, _, by omega, by go_num, H5.out, HB5.out⟩
          case measure => simp [intOf]; omega
        · go_simp
          refine hK _ _ ?_
          clear hK K
          refine wpAny_ready (rs := [4]) (by kernel_rfl) (by simp) ?_
          refine AllReady.cons rfl (fun K hK => ?_) AllReady.nil
          have c3a : ((w4.alloc (.cells #[.pointer (some ⟨g, i * 4, none⟩)] 54)).drew).cell? ⟨g, p * 4 + 3, none⟩ = some u := cell_later (((Below.refl w4.heap.size w4).alloc (Nat.le_refl _) _).drew) c3
          go_simp
          refine hK _ _ ?_
          clear hK K c3a
          refine wpAny_ready (rs := [9]) (by kernel_rfl) (by simp) ?_
          refine AllReady.cons rfl (fun K hK => ?_) AllReady.nil
          refine step_append_lies _ (by rfl) _ _ _ (by rfl) (g + 1) 54 i55 _ 1 8 Tryz.underlying87 hi hz0 hz1 hz2 rfl (by omega) u L (ptrs g (kidsTo ns p i)) (by rfl) (((HOWN.out).alloc _).drew) ⟨w4.heap.size, 0, none⟩ 1 1 [.pointer (some ⟨g, i * 4, none⟩)] (by rfl) (by rfl) (World.news_of_block (cs := #[.pointer (some ⟨g, i * 4, none⟩)]) (t := 54) (fr := (0, 0)) (heap_alloc_new w4 _)) (by simp [Value.oneCell']) (by omega) (by unfold maxLen; omega) (by omega) (by have := HG4.out; simp; omega) (w4.heap.size + 1) (by simp) ?_
          intro g' cp w5 hown5 hgrow hg' _
          have b4a : Below w4.heap.size w4 (w4.alloc (.cells #[.pointer (some ⟨g, i * 4, none⟩)] 54)).drew := ((Below.refl _ _).alloc (Nat.le_refl _) _).drew
          have hgr : w4.grownBy w5 u.ownBlock := grow_first b4a hgrow
          have c5 : w5.cell? ⟨g, p * 4 + 3, none⟩ = some u := (hgr.cell_far ⟨g, p * 4 + 3, none⟩ HG4.out (Ne.symm HFAR.out)).trans c3
          have z5 : w5.frozen? ⟨g, p * 4 + 3, none⟩ = false := (hgr.frozen_far ⟨g, p * 4 + 3, none⟩ HG4.out (Ne.symm HFAR.out)).trans z3
          have H5 : Hid (ShInv (w5.setCell ⟨g, p * 4 + 3, none⟩ (.slice (some ⟨g', 0, none⟩) (L + 1) cp)) g ns (i + 1) (i + 1) (fun j => if j = p then .slice (some ⟨g', 0, none⟩) (L + 1) cp else vs j)) := by
            have hl := HL.out
            have hu := HU.out
            unfold Hid
            rw [hl] at hown5 ⊢
            rw [hu] at hgr hg'
            exact HINV4.out.kid (by omega) hi1 (HP.out i rfl) hown5 hgr (hg'.imp id (fun e => by omega))
          have HB5 : Hid (Below w.heap.size w (w5.setCell ⟨g, p * 4 + 3, none⟩ (.slice (some ⟨g', 0, none⟩) (L + 1) cp))) := (HB4.out.grown hgr HB4.out.size (fun k hk => by have := (HOWN.out.lt k hk).1; have := HG.out; omega)).setCell HG.out _
          refine hK _ _ ?_
          clear hK K hown5 hgrow hgr hg' b4a
          refine wpAny_take (i := 10) (v := ?_) rfl (by kernel_rfl) (by kernel_rfl) (by kernel_rfl) (fun _ _ _ h => h) (Or.inl ⟨by rfl, ?hy⟩) ?_
          case hy => (intro w; go_simp; try with_reducible rfl)
          refine wpAny_take (i := 11) (v := ?_) rfl (by kernel_rfl) (by kernel_rfl) (by kernel_rfl) (fun _ _ _ h => h) (Or.inl ⟨by rfl, ?hy⟩) ?_
          case hy => (intro w; go_simp; try with_reducible rfl)
          refine wpAny_ready (rs := [12]) (by kernel_rfl) (by simp) ?_
          refine AllReady.cons rfl (fun K hK => ?_) AllReady.nil
          go_simp
          refine hK _ _ ?_
          clear hK K
          refine wpAny_done (by kernel_rfl) ?_ _
          refine NoPanic.normal ?_
          go_wp2
          go_roundw
          case rel => exact ⟨i + 1, _, by omega, by go_num, H5.out, HB5.out⟩
          case measure => simp [intOf]; omega
    · obtain rfl : i = ns.length := by omega
      have HINV : Hid (ShInv wr g ns ns.length ns.length vs) := hinv
      clear hinv
      have j0 : (0 : Int) ≤ (a : Int) := Int.natCast_nonneg _
      have j1 : (a : Int) < (ns.length : Int) := by omega
      go_wp2
      go_ret
      exact ⟨g, vs, rfl, HINV.out, HG.out, hbl⟩
end Go.Proofs.YtejgjipmnmfkcaaGreatDoor.Val
