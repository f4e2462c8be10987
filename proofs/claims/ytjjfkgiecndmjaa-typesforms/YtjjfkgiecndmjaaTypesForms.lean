/-
  TypesForms: types that may not be, one thing at a time.
-/
import Derived.Test.YtjjfkgiecndmjaaRows
import Derived.WalkKit
import Derived.ProofKit
import Derived.OpenShut
import Derived.ShutString
import Derived.ChangeOld
import Derived.Below
import Derived.Deep.QuietTactic
import Derived.WalkSmall
import Derived.BigQuiet
import Derived.Deep.RegionWith
import Derived.OwnWalk
import Derived.RegionTactic
import Derived.ChangeAlike
import Derived.Deep.CutBlock
import Derived.Maps.AppendAt
import Derived.OneCell
import Derived.SizedLaws
import Derived.Test.YtjjfkgiecndmjaaTree
import Derived.Test.YtjjfkgiecndmjaaOpen
import Derived.Test.YtjjfkgiecndmjaaMem
import Derived.Test.YtjjfkgiecndmjaaUp
import Derived.Test.YtjjfkgiecndmjaaWay
import Derived.Test.YtjjfkgiecndmjaaMay
import Derived.Test.YtjjfkgiecndmjaaPro
import Derived.Test.YtjjfkgiecndmjaaLev
import Derived.Test.YtjjfkgiecndmjaaRefMay
import Derived.Test.YtjjfkgiecndmjaaHelp
import Derived.Test.YtjjfkgiecndmjaaCopy
import Derived.Test.YtjjfkgiecndmjaaAwake
import Derived.Test.YtjjfkgiecndmjaaMask
import Derived.Test.YtjjfkgiecndmjaaNo
namespace Go.Proofs.Ytjjfkgiecndmjaa.typesForms
open Go.ChangeShapes Go.WideShapes Go.ChangeAt Go.RowKit
open Go.ChangeMaps (open_string shut_string)
set_option linter.unusedVariables false

theorem own : ownKnob Try.prog.godebug = none := by kernel_rfl

open Tree
def g0 : List Nd := [⟨4, -1, false⟩, ⟨3, 0, false⟩, ⟨0, 1, false⟩, ⟨2, 0, false⟩]
theorem g0_may : may g0 = true := by decide
theorem g0_low (z : Int) (h : z < 0) : hasB g0 z = false := by unfold hasB; rw [decide_eq_false (fun c => by omega), Bool.false_and]
theorem g0_high (z : Int) (h : 4 ≤ z) : hasB g0 z = false := by unfold hasB; rw [decide_eq_false (fun c => by have : (g0.length : Int) = 4 := rfl; omega), Bool.false_and]
/-- A type that may not be is held in block bb. -/
def Bad (wl : World) (bb : Nat) (wx : World) : Prop := ∃ (o : Option Addr) (c : Nat) (L : List Nd), wx.cell? ⟨bb, 0, none⟩ = some (.slice o L.length c) ∧ IsT wx o L ∧ may L = false ∧ Below wl.heap.size wl wx
theorem bad_set {wl w3 : World} {bb gb c : Nat} (hc : w3.cell? ⟨bb, 0, none⟩ = some (.slice (some ⟨gb, 0, none⟩) 4 c)) (hown : w3.ownsRow wl.heap.size 46 3 (.slice (some ⟨gb, 0, none⟩) 4 c) 4 (cellsN g0)) (hne : gb ≠ bb) (hB : Below wl.heap.size wl w3)
    (j : Nat) (u : Value) (L : List Nd) (hL : (cellsN g0).set j u = cellsN L) (hlen : L.length = 4) (hm : may L = false) : Bad wl bb (w3.setCell ⟨gb, j, none⟩ u) := by
  have hs := (hown.stored j u).1
  rw [hL] at hs
  refine ⟨some ⟨gb, 0, none⟩, c, L, ?_, ?_, hm, hB.setCell (hown.lt gb rfl).1 _⟩
  · rw [World.cell?_setCell_other _ _ _ _ (by intro c; injection c with c; exact hne c), hc, hlen]
  · rw [← hlen] at hs
    exact own_lies hs
theorem bad_nil {wl w3 : World} {bb : Nat} {v : Value} (hc : w3.cell? ⟨bb, 0, none⟩ = some v) (hB : Below wl.heap.size wl w3) (hbb : wl.heap.size ≤ bb) : Bad wl bb (w3.setCell ⟨bb, 0, none⟩ (.slice none 0 0)) :=
  ⟨none, 0, [], World.cell?_setCell_same _ _ _ hc, ⟨Nat.zero_le _, .inl rfl⟩, nil_may, hB.setCell hbb _⟩
theorem may_par (z : Int) (h : z < 0) : may [⟨4, -1, false⟩, ⟨3, 0, false⟩, ⟨0, z, false⟩, ⟨2, 0, false⟩] = false :=
  may_at (k := 2) (by show 2 < 4; decide) (okAt_par (kd := 0) (pr := z) (nl := false) rfl (by decide) (.inl (fun c => by omega)))
theorem may_kind (z : Int) (h : z < 0 ∨ 4 < z) : may [⟨4, -1, false⟩, ⟨3, 0, false⟩, ⟨z, 1, false⟩, ⟨2, 0, false⟩] = false :=
  may_at (k := 2) (by show 2 < 4; decide) (okAt_kind (kd := z) (pr := 1) (nl := false) rfl (fun c => by omega))
/-- The good one, with so many nodes more. -/
def padTo : Nat → List Nd
  | 0 => g0
  | j + 1 => padTo j ++ [⟨0, 0, false⟩]
theorem length_padTo (j : Nat) : (padTo j).length = 4 + j := by
  induction j with
  | zero => rfl
  | succ j ih => rw [padTo, List.length_append, ih]; rfl
/-- The literal. -/
def litG (w : World) : World := (w.alloc (Obj.cells #[.int .i64 4, .int .i64 (-1), .bool false, .int .i64 3, .int .i64 0, .bool false, .int .i64 0, .int .i64 1, .bool false, .int .i64 2, .int .i64 0, .bool false] 46)).alloc (Obj.cells #[.slice (some ⟨w.heap.size, 0, none⟩) 4 4] 24)
theorem litG_is (w : World) : Lies (litG w) ⟨w.heap.size, 0, none⟩ g0 ∧ (litG w).cell? ⟨w.heap.size + 1, 0, none⟩ = some (.slice (some ⟨w.heap.size, 0, none⟩) 4 4) ∧ Below w.heap.size w (litG w) := by
  refine ⟨?_, ?_, ((Below.refl _ _).alloc (Nat.le_refl _) _).alloc (by simp) _⟩
  · have hb : Below (w.alloc (Obj.cells #[.int .i64 4, .int .i64 (-1), .bool false, .int .i64 3, .int .i64 0, .bool false, .int .i64 0, .int .i64 1, .bool false, .int .i64 2, .int .i64 0, .bool false] 46)).heap.size _ (litG w) := (Below.refl _ _).alloc (Nat.le_refl _) _
    refine Lies.later ?_ hb
    constructor
    all_goals
      intro i hi
      match i, hi with
      | 0, _ => simp [g0, Addr.add]
      | 1, _ => simp [g0, Addr.add]
      | 2, _ => simp [g0, Addr.add]
      | 3, _ => simp [g0, Addr.add]
  · unfold litG
    simp
theorem copyG {w : World} {x : Addr} (h : Lies w x g0) :
    Calls Try.prog 9 #[.agg #[.slice (some x) 4 4]] w fun r w' => ∃ g c, r = .returned (.agg #[.slice (some ⟨g, 0, none⟩) 4 c]) ∧ w'.ownsRow w.heap.size 46 3 (.slice (some ⟨g, 0, none⟩) 4 c) 4 (cellsN g0) ∧ Below w.heap.size w w' := by
  refine (copyT x 4 g0 w h (by decide)).mono ?_
  rintro r w' ⟨o, c, rfl, hown, hb⟩
  have hown' : w'.ownsRow w.heap.size 46 3 (.slice o 4 c) 4 (cellsN g0) := hown
  rcases hown'.2 with ⟨_, h1⟩ | ⟨g, cap, cur, h0, _⟩
  · cases h1
  · injection h0 with h2 h3 h4
    subst h2
    exact ⟨g, c, rfl, hown', hb⟩
set_option maxRecDepth 20000 in
set_option maxHeartbeats 4000000 in
theorem walk (a0 : Int) (a1 : Int) (w : World) (w0 : (Lit.int .i64 a0).wf = true) (w1 : (Lit.int .i64 a1).wf = true) :
    Calls Try.prog 5 #[.int .i64 a0, .int .i64 a1] w fun e w' => e = .returned (.bool true) ∧ Below w.heap.size w w' := by
  obtain ⟨i46, hi, hz0, hz1, hz2⟩ := info_parts info46
  obtain ⟨d, hd, hd8⟩ := and10 a1
  obtain ⟨k, hk, hk0, hk14⟩ := rest a0 14 (by decide)
  go_enter Try.func5, Try.ntmps5
  go_wp2_with fail
  refine (awake w).mono ?_
  rintro e w1 ⟨rfl, hb1⟩
  obtain ⟨hLG, hcG, hbG⟩ := litG_is w1
  go_wp2_with fail
  show Calls _ _ _ (litG w1) _
  have hBL := bel hb1 hbG
  generalize litG w1 = wl at *
  generalize w1.heap.size = g1 at *
  clear hb1 hbG
  refine (copyG hLG).mono ?_
  rintro e w2 ⟨gb, c, rfl, hown2, hb2⟩
  obtain ⟨w3, e3, hs3, hc3, hb3⟩ := boxed w2 (.slice (some ⟨gb, 0, none⟩) 4 c) 24
  have hf3 : w3.frozen? ⟨w2.heap.size, 0, none⟩ = false := by rw [← e3]; simp
  have hown3 : w3.ownsRow wl.heap.size 46 3 (.slice (some ⟨gb, 0, none⟩) 4 c) 4 (cellsN g0) := by rw [← e3]; exact hown2.alloc _
  have hne : gb ≠ w2.heap.size := by have := (hown2.lt gb rfl).2; omega
  have hB3 : Below wl.heap.size wl w3 := hb2.trans (hb3.mono hb2.size)
  have hbb : wl.heap.size ≤ w2.heap.size := hb2.size
  go_upto_block 0 with fail
  clear e3 hb3 hb2 hown2
  generalize w2.heap.size = bb at *
  go_cut [] from 21 (fun wx => Bad wl bb wx)
  case rest =>
    obtain ⟨o, cc, L, hcL, hTL, hmL, hBx⟩ := hcut
    have HML : Hid (may L = false) := hmL
    clear hmL hc3 hf3 hne hown3 hB3 hs3 hi hz0 hz1 hz2 hk
    have hT0 : IsT wl (some ⟨g1, 0, none⟩) g0 := ⟨by decide, .inr ⟨_, rfl, hLG⟩⟩
    go_wp2_with fail
    refine (kidsN o cc L 0 _ hTL (has_no HML.out 0)).mono ?_
    rintro e v1 ⟨x1, n1, y1, rfl, hb1⟩
    have hc1 := cell_later hb1 hcL
    have hT1 := hTL.later hb1
    have hB1 := bel hBx hb1
    clear hcL hTL hBx hb1
    go_wp2_with fail
    refine (leavesN o cc L _ hT1 HML.out).mono ?_
    rintro e v2 ⟨x2, n2, y2, rfl, hb2⟩
    have hc2 := cell_later hb2 hc1
    have hT2 := hT1.later hb2
    have hB2 := bel hB1 hb2
    clear hc1 hT1 hB1 hb2
    go_wp2_with fail
    refine (lvlsN o cc L 0 _ hT2 (has_no HML.out 0)).mono ?_
    rintro e v3 ⟨rfl, hb3⟩
    have hc3 := cell_later hb3 hc2
    have hT3 := hT2.later hb3
    have hB3 := bel hB2 hb3
    have hcg3 := cell_later hB3 hcG
    clear hc2 hT2 hB2 hb3
    go_wp2_with fail
    refine (kidsN (some ⟨g1, 0, none⟩) 4 g0 _ _ (hT0.later hB3) (g0_low _ (by omega))).mono ?_
    rintro e v4 ⟨x4, n4, y4, rfl, hb4⟩
    have hc4 := cell_later hb4 hc3
    have hT4 := hT3.later hb4
    have hB4 := bel hB3 hb4
    have hcg4 := cell_later hB4 hcG
    clear hc3 hT3 hB3 hb4 hcg3
    go_wp2_with fail
    refine (lvlsN (some ⟨g1, 0, none⟩) 4 g0 _ _ (hT0.later hB4) (g0_high _ (by omega))).mono ?_
    rintro e v5 ⟨rfl, hb5⟩
    have hc5 := cell_later hb5 hc4
    have hT5 := hT4.later hb5
    have hB5 := bel hB4 hb5
    have hcg5 := cell_later hB5 hcG
    clear hc4 hT4 hB4 hb5 hcg4
    go_wp2_with fail
    refine (mayC (some ⟨g1, 0, none⟩) 4 g0 _ (hT0.later hB5)).mono ?_
    rintro e v6 ⟨rfl, hb6⟩
    rw [g0_may]
    have hc6 := cell_later hb6 hc5
    have hT6 := hT5.later hb6
    have hB6 := bel hB5 hb6
    clear hc5 hT5 hB5 hb6 hcg5
    go_wp2_with fail
    refine (mayN o cc L _ hT6 HML.out).mono ?_
    rintro e v7 ⟨rfl, hb7⟩
    have hB7 := bel hB6 hb7
    clear hc6 hT6 hB6 hb7
    go_wp2_with fail
    refine (num _ _).mono ?_
    rintro e w' ⟨rfl, rfl⟩
    go_wp2_with fail
    refine (num _ _).mono ?_
    rintro e w' ⟨rfl, rfl⟩
    go_wp2_with fail
    refine (num _ _).mono ?_
    rintro e w' ⟨rfl, rfl⟩
    go_wp2_with fail
    refine (num _ _).mono ?_
    rintro e w' ⟨rfl, rfl⟩
    go_wp2_with fail
    refine (num _ _).mono ?_
    rintro e w' ⟨rfl, rfl⟩
    go_wp2
    go_ret
    exact ⟨rfl, bel hBL hB7⟩
  case first =>
    have cl : ∀ j, j < 12 → w3.cell? ⟨gb, j, none⟩ = (cellsN g0)[j]? := fun j hj => hown3.cellAt j hj
    have fz : ∀ j, w3.frozen? ⟨gb, j, none⟩ = false := fun j => hown3.frozenAt j
    have k0 : w3.cell? ⟨gb, 0, none⟩ = some (.int .i64 4) := cl 0 (by decide)
    have k1 : w3.cell? ⟨gb, 1, none⟩ = some (.int .i64 (-1)) := cl 1 (by decide)
    have k6 : w3.cell? ⟨gb, 6, none⟩ = some (.int .i64 0) := cl 6 (by decide)
    have k7 : w3.cell? ⟨gb, 7, none⟩ = some (.int .i64 1) := cl 7 (by decide)
    have k9 : w3.cell? ⟨gb, 9, none⟩ = some (.int .i64 2) := cl 9 (by decide)
    have k10 : w3.cell? ⟨gb, 10, none⟩ = some (.int .i64 0) := cl 10 (by decide)
    have f0 := fz 0
    have f1 := fz 1
    have f6 := fz 6
    have f7 := fz 7
    have f9 := fz 9
    have f10 := fz 10
    clear cl fz hk
    have hcase : k = 0 ∨ k = 1 ∨ k = 2 ∨ k = 3 ∨ k = 4 ∨ k = 5 ∨ k = 6 ∨ k = 7 ∨ k = 8 ∨ k = 9 ∨ k = 10 ∨ k = 11 ∨ k = 12 ∨ k = 13 := by omega
    rcases hcase with rfl | rfl | rfl | rfl | rfl | rfl | rfl | rfl | rfl | rfl | rfl | rfl | rfl | rfl
    · go_wp2
      go_meet
      case rel => exact bad_nil hc3 hB3 hbb
    · go_wp2
      go_meet
      case rel => exact bad_set hc3 hown3 hne hB3 1 _ [⟨4, 0, false⟩, ⟨3, 0, false⟩, ⟨0, 1, false⟩, ⟨2, 0, false⟩] rfl rfl (by decide)
    · go_wp2
      go_meet
      case rel =>
        refine bad_set hc3 hown3 hne hB3 7 _ [⟨4, -1, false⟩, ⟨3, 0, false⟩, ⟨0, -(1 + (d : Int)), false⟩, ⟨2, 0, false⟩] rfl rfl (may_par _ ?_)
        omega
    · go_wp2
      go_meet
      case rel => exact bad_set hc3 hown3 hne hB3 7 _ [⟨4, -1, false⟩, ⟨3, 0, false⟩, ⟨0, 2, false⟩, ⟨2, 0, false⟩] rfl rfl (by decide)
    · go_wp2
      go_meet
      case rel => exact bad_set hc3 hown3 hne hB3 7 _ [⟨4, -1, false⟩, ⟨3, 0, false⟩, ⟨0, 3, false⟩, ⟨2, 0, false⟩] rfl rfl (by decide)
    · go_wp2
      go_meet
      case rel =>
        refine bad_set hc3 hown3 hne hB3 6 _ [⟨4, -1, false⟩, ⟨3, 0, false⟩, ⟨_, 1, false⟩, ⟨2, 0, false⟩] rfl rfl (may_kind _ ?_)
        omega
    · go_wp2
      go_meet
      case rel =>
        refine bad_set hc3 hown3 hne hB3 6 _ [⟨4, -1, false⟩, ⟨3, 0, false⟩, ⟨_, 1, false⟩, ⟨2, 0, false⟩] rfl rfl (may_kind _ ?_)
        omega
    · go_wp2
      go_meet
      case rel => exact bad_set hc3 hown3 hne hB3 7 _ [⟨4, -1, false⟩, ⟨3, 0, false⟩, ⟨0, 0, false⟩, ⟨2, 0, false⟩] rfl rfl (by decide)
    · go_wp2
      go_meet
      case rel => exact bad_set hc3 hown3 hne hB3 10 _ [⟨4, -1, false⟩, ⟨3, 0, false⟩, ⟨0, 1, false⟩, ⟨2, 1, false⟩] rfl rfl (by decide)
    · go_wp2
      go_meet
      case rel => exact bad_set hc3 hown3 hne hB3 9 _ [⟨4, -1, false⟩, ⟨3, 0, false⟩, ⟨0, 1, false⟩, ⟨4, 0, false⟩] rfl rfl (by decide)
    · go_wp2
      go_meet
      case rel => exact bad_set hc3 hown3 hne hB3 9 _ [⟨4, -1, false⟩, ⟨3, 0, false⟩, ⟨0, 1, false⟩, ⟨3, 0, false⟩] rfl rfl (by decide)
    · go_wp2
      go_meet
      case rel => exact bad_set hc3 hown3 hne hB3 0 _ [⟨0, -1, false⟩, ⟨3, 0, false⟩, ⟨0, 1, false⟩, ⟨2, 0, false⟩] rfl rfl (by decide)
    · go_wp2_with fail
      go_loopw [8] (fun t wr => ∃ (j : Nat) (o : Option Addr) (c' : Nat), j ≤ 5 ∧ t = .int .i64 (j : Int) ∧ wr.cell? ⟨bb, 0, none⟩ = some (.slice o (4 + j) c') ∧ wr.frozen? ⟨bb, 0, none⟩ = false ∧ wr.ownsRow wl.heap.size 46 3 (.slice o (4 + j) c') (4 + j) (cellsN (padTo j)) ∧ (Value.slice o (4 + j) c').ownBlock ≠ some bb ∧ Below wl.heap.size wl wr) (fun t _ => 5 - (intOf t).toNat)
      case atStart => exact ⟨0, _, _, Nat.zero_le _, rfl, hc3, hf3, hown3, fun c => hne (by injection c), hB3⟩
      case round =>
        obtain ⟨j, o, c', hj, rfl, hc, hf, hown, hnb, hbl⟩ := hrel
        have hsz : bb < wr.heap.size := World.block_lt_of_cell? _ _ hc
        clear hc3 hf3 hown3 hB3 k0 k1 k6 k7 k9 k10 f0 f1 f6 f7 f9 f10
        by_cases hlt : j < 5
        · go_wp2_with (at_builtin; refine wpList_append_own_at _ rfl (.tmp 123) (.tmp 125) 22 rfl wl.heap.size 46 i46 (.agg #[.int .i64 0, .int .i64 0, .bool false]) 3 24 Try.underlying22 hi hz0 hz1 hz2 rfl (by decide) _ (4 + j) _ rfl (hown.alloc _) ⟨wr.heap.size, 0, none⟩ 1 1 [.int .i64 0, .int .i64 0, .bool false] rfl rfl ?c1 ?c2 ?c3 ?c4 ?c5 ?_)
          case c1 =>
            intro i u hi
            match i, hi with
            | 0, hi => simp at hi; subst hi; simp [Addr.add]
            | 1, hi => simp at hi; subst hi; simp [Addr.add]
            | 2, hi => simp at hi; subst hi; simp [Addr.add]
          case c2 => intro u hu; simp at hu; rcases hu with rfl | rfl <;> rfl
          case c3 => unfold maxLen; omega
          case c4 => omega
          case c5 => have := hbl.size; simp; omega
          intro v' w4 hown' hgrow _ hblk
          have hB4 : Below wl.heap.size wl w4 := (hbl.alloc hbl.size _).grown hgrow (by have := hbl.size; simp; omega) (fun i hi => (hown.lt i hi).1)
          have hown4 : w4.ownsRow wl.heap.size 46 3 v' (4 + (j + 1)) (cellsN (padTo (j + 1))) := by
            rw [padTo, cellsN_snoc]
            exact hown'
          have hnb4 : v'.ownBlock ≠ some bb := by
            rcases hblk with e | e
            · rw [e]; exact hnb
            · rw [e]
              intro c
              injection c with c
              omega
          have hc4 : w4.cell? ⟨bb, 0, none⟩ = some (.slice o (4 + j) c') := hgrow.cell (a := ⟨bb, 0, none⟩) (cell_later ((Below.refl wr.heap.size wr).alloc (Nat.le_refl _) _) hc) (fun e => hnb e.symm)
          have hf4 : w4.frozen? ⟨bb, 0, none⟩ = false := (World.frozen?_of_block (a := ⟨bb, 0, none⟩) (hgrow.block bb (by simp; omega) (fun e => hnb e.symm))).trans ((((Below.refl wr.heap.size wr).alloc (Nat.le_refl _) _).frozen (p := ⟨bb, 0, none⟩) hsz).trans hf)
          obtain ⟨o4, c4, rfl⟩ := own_slice hown4
          clear hown hgrow hown' hc hf hbl hblk hnb
          go_wp2
          go_roundw
          case rel => exact ⟨j + 1, o4, c4, by omega, by go_num, World.cell?_setCell_same _ _ _ hc4, by rw [World.frozen?_setCell]; exact hf4, ownsRow_setCell_other hown4 hnb4 _, hnb4, hB4.setCell hbb _⟩
          case measure => simp [intOf]; omega
        · obtain rfl : j = 5 := by omega
          go_wp2
          go_meet
          case rel => exact ⟨o, c', padTo 5, hc, own_lies hown, by decide, hbl⟩
    · go_wp2
      go_meet
      case rel => exact bad_set hc3 hown3 hne hB3 10 _ [⟨4, -1, false⟩, ⟨3, 0, false⟩, ⟨0, 1, false⟩, ⟨2, 2, false⟩] rfl rfl (by decide)

set_option maxRecDepth 100000 in
theorem lifted (os : Os) (started : os.Started) (H : Type) (enc : TypeId × Value → H) :
    ReturnsInHanded {} Try.checked os 5 .any (Rows.typesFormsSpec.pre6 enc Try.prog Try.f5 Rows.typesFormsRow.domain false) (Rows.typesFormsSpec.post enc Try.prog Try.f5 false true false false) := by
  refine returnsInHanded_of_change (C := Try.checked) own started (by kernel_rfl) Try.func5
    (ChangeSpec.witness6 (enc := enc) (C := Try.checked) false ⟨#[], #[.int .i64 0, .int .i64 0], []⟩ 8 (by kernel_rfl) (by kernel_rfl) (by kernel_rfl) (by kernel_rfl)) ?_
  intro W base args ds gs before hval0 hW hcnd _
  have hval : ∀ (j : Nat) t v, Try.f5.params[j]? = some t → args[j]? = some v → Value.okWide Try.prog W .any base t v := hval0
  have hW' := hW
  obtain ⟨p, q, hA0, hV, rfl, hfz, hnd⟩ := hW
  have hA : DataW.TrodAll enc Try.prog W 0 (fun _ => true) true Try.f5.params.toList args.toList ds p := hA0
  rw [Try.params5] at hA hval
  obtain ⟨v0, vs0, d0, ds0, p0, q0, hargs, rfl, rfl, h0, r0⟩ := trodAll_cons hA
  obtain ⟨v1, vs1, d1, ds1, p1, q1, rfl, rfl, rfl, h1, r1⟩ := trodAll_cons r0
  obtain ⟨rfl, rfl, rfl⟩ := trodAll_nil r1
  obtain rfl : args = #[v0, v1] := by cases args; simp_all
  obtain ⟨rfl, rfl⟩ := trodVars_none hV
  obtain ⟨a0, rfl, rfl, rfl, w0⟩ := open_int Try.underlying3 (hval 0 3 v0 rfl rfl) h0
  obtain ⟨a1, rfl, rfl, rfl, w1⟩ := open_int Try.underlying3 (hval 1 3 v1 rfl rfl) h1
  clear hA0 hval0
  refine (walk a0 a1 W w0 w1).mono fun e W' ⟨he, bel⟩ => ?_
  subst he
  exact ⟨_, rfl, _, _, _, [], _, [], hW', trodAll_mk1 (shut_bool Try.underlying4 _), (trodAll_cons_mk (shut_int Try.underlying3 w0) (trodAll_cons_mk (shut_int Try.underlying3 w1) trodAll_mk0)), rfl, bel.frame _, fun h => by cases h⟩

theorem over : Rows.typesFormsRow.holds Try.pinned (OpenSpec.ofChange Rows.typesFormsSpec) :=
  OpenClaim.holds_of_wide 5 Try.f5 rfl rfl rfl rfl rfl rfl rfl ⟨rfl, rfl, rfl, rfl, rfl⟩ rfl rfl rfl rfl rfl (by kernel_rfl) Try.func5 (by kernel_rfl)
    (of_decide_eq_true (by kernel_rfl)) (by unfold Func.isWrapper; first | (rw [if_pos (by decide +kernel)]; kernel_rfl) | (rw [if_neg (by decide +kernel)]; exact ⟨rfl, rfl⟩))
    (fun os started H enc _ => lifted os started H enc)

end Go.Proofs.Ytjjfkgiecndmjaa.typesForms
namespace Go.Proofs.Ytjjfkgiecndmjaa
theorem typesForms_holds : Rows.TypesFormsSaid := typesForms.over
#print axioms typesForms_holds
end Go.Proofs.Ytjjfkgiecndmjaa
