/-
  What the document's own GetSchema computes, of any text: contracts.
-/
import Derived.Test.YtnnbeicfbcgcbaaRows
import Derived.Test.YtnnbeicfbcgcbaaTree
import Derived.Test.YtnnbeicfbcgcbaaText
import Derived.Test.YtnnbeicfbcgcbaaOpen
import Derived.Test.YtnnbeicfbcgcbaaMem
import Derived.Test.YtnnbeicfbcgcbaaMay
import Derived.Test.YtnnbeicfbcgcbaaLev
import Derived.Test.YtnnbeicfbcgcbaaRefMay
import Derived.Test.YtnnbeicfbcgcbaaHelp
import Derived.Test.YtnnbeicfbcgcbaaCopy
import Derived.Test.YtnnbeicfbcgcbaaPut
import Derived.Test.YtnnbeicfbcgcbaaGet
import Derived.Test.YtnnbeicfbcgcbaaTold
import Derived.WalkKit
import Derived.ProofKit
import Derived.OpenShut
import Derived.Below
import Derived.RegionTactic
import Derived.ChangeAlike
import Derived.OwnWalk
import Derived.Laws.IdiomStrings
import Derived.Laws.OwnMore
import Derived.Deep.RegionHeld3
import Derived.Deep.AppendLies
namespace Go.Proofs.Ytnnbeicfbcgcbaa.Tree
open Go.ChangeShapes Go.WideShapes Go.ChangeAt Go.RowKit

theorem bytes_at (s : ByteArray) (i : Nat) (h : i < s.size) : s[i] = s.data.toList.getD i 0 := by
  have h' : i < s.data.toList.length := by simpa using h
  rw [List.getD_eq_getElem?_getD, List.getElem?_eq_getElem h']
  rfl
theorem dec_bytes (s : ByteArray) (k : Nat) (hk : k < (s.data.toList.getD 0 0).toNat) (i : Nat) (hi : i = 1 + 3 * k) (q0 : i < s.size) (q1 : i + 1 < s.size) (q2 : i + 2 < s.size) :
    ∃ (a d : Nat) (b : Bool), nd (decL s.data.toList) k = ⟨(a : Int), (d : Int) - 1, b⟩ ∧ a ≤ 255 ∧ d ≤ 255 ∧ ((s[i].toNat : Nat) : Int) = (a : Int) ∧ ((s[i + 1].toNat : Nat) : Int) = (d : Int) ∧ (((s[i + 2].toNat : Nat) : Int) == 1) = b := by
  subst hi
  have h0 := byte_lt (s.data.toList.getD (1 + 3 * k) 0)
  have h1 := byte_lt (s.data.toList.getD (1 + 3 * k + 1) 0)
  refine ⟨(s.data.toList.getD (1 + 3 * k) 0).toNat, (s.data.toList.getD (1 + 3 * k + 1) 0).toNat, decide (s.data.toList.getD (1 + 3 * k + 2) 0 = 1), ?_, by omega, by omega, ?_, ?_, ?_⟩
  · rw [nd_decL _ _ hk]; rfl
  · rw [bytes_at s _ q0]
  · rw [bytes_at s _ q1]
  · rw [bytes_at s _ q2]
    generalize s.data.toList.getD (1 + 3 * k + 2) 0 = x
    rw [Bool.eq_iff_iff]
    simp only [beq_iff_eq, decide_eq_true_eq]
    constructor
    · intro h
      exact UInt8.toNat_inj.1 (by show x.toNat = 1; omega)
    · rintro rfl
      rfl

theorem texts_part {u s : ByteArray} (h : u ≠ s) : (u.toList == s.toList) = false := by
  rw [Go.ByteArray.toList_eq, Go.ByteArray.toList_eq]
  cases c : (u.data.toList == s.data.toList)
  · rfl
  · have e : u.data.toList = s.data.toList := by simpa using c
    refine absurd ?_ h
    have e2 : u.data = s.data := Array.toList_inj.1 e
    cases u
    cases s
    simp only at e2
    rw [e2]
set_option maxRecDepth 20000 in
set_option maxHeartbeats 3200000 in
theorem getG (l L : List Nd) (E : Int) (s u : ByteArray) (HL : Hid (l = decL s.data.toList)) (HU : Hid (u = ⟨(enc l).toArray⟩)) (HA : Hid ((may l = true ∧ u = s → L = l ∧ E = 0) ∧ (¬ (may l = true ∧ u = s) → L = [] ∧ E = 600))) (w : World) (hsz : s.size = 1 + 3 * l.length) :
    Calls Try.prog 12 #[.string s] w fun r w' => ∃ o c, r = .returned (.tuple #[.agg #[.slice o L.length c], .int .i64 E]) ∧ IsT w' o L ∧ Below w.heap.size w w' := by
  obtain ⟨i46, hi, hz0, hz1, hz2⟩ := info_parts info46
  have hl0 : (s.data.toList.getD 0 0).toNat = l.length := by rw [HL.out, length_decL]
  have HL0 : Hid ((s.data.toList.getD 0 0).toNat = l.length) := hl0
  have h255 : l.length ≤ 255 := by have := byte_lt (s.data.toList.getD 0 0); omega
  have h0 : 0 < s.size := by omega
  have hb0 : ((s[0].toNat : Nat) : Int) = (l.length : Int) := by rw [bytes_at s 0 h0, hl0]
  have HSZ : Hid (s.size = 1 + 3 * l.length) := hsz
  have hel : ¬ (s.toList = []) := by
    intro c
    rw [Go.ByteArray.toList_eq] at c
    have : s.size = 0 := by
      show s.data.size = 0
      rw [← Array.length_toList, c]
      rfl
    omega
  have hnb : s.toList.isEmpty = false := by
    cases c : s.toList with
    | nil => exact absurd c hel
    | cons _ _ => rfl
  have hsI : (s.size : Int) = 1 + 3 * (l.length : Int) := by omega
  clear hsz hl0
  go_enter Try.func12, Try.ntmps12
  go_wp2_with fail
  have hcr : ((w.alloc (Obj.cells #[.slice none 0 0] 24)).alloc (Obj.cells #[.slice none 0 0] 24)).cell? ⟨w.heap.size, 0, none⟩ = some (.slice none 0 0) := (laid2 _ _ rfl _ _ _).1
  have hfr : ((w.alloc (Obj.cells #[.slice none 0 0] 24)).alloc (Obj.cells #[.slice none 0 0] 24)).frozen? ⟨w.heap.size, 0, none⟩ = false := (laid2 _ _ rfl _ _ _).2
  obtain ⟨w1, e1, hw1, hw2⟩ : ∃ w1, w.alloc (Obj.cells #[.slice none 0 0] 24) = w1 ∧ w1.heap.size = w.heap.size + 1 ∧ Below w.heap.size w w1 := ⟨_, rfl, by simp, (Below.refl _ _).alloc (Nat.le_refl _) _⟩
  have hr1 : w1.cell? ⟨w.heap.size, 0, none⟩ = some (.slice none 0 0) := by rw [← e1]; simp
  have hr2 : w1.frozen? ⟨w.heap.size, 0, none⟩ = false := by rw [← e1]; simp
  rw [e1] at hcr hfr ⊢
  obtain ⟨w2, e2, hs2, hc2, hb2⟩ := boxed w1 (.slice none 0 0) 24
  have hf2 : w2.frozen? ⟨w1.heap.size, 0, none⟩ = false := by rw [← e2]; simp
  rw [e2] at hcr hfr ⊢
  rw [hw1] at hc2 hf2
  have HW1 : Hid (w1.heap.size = w.heap.size + 1) := hw1
  clear e1 e2 hw1
  generalize hbt : w.heap.size + 1 = bt at *
  have HBT : Hid (w.heap.size + 1 = bt) := hbt
  clear hbt
  go_loopw [5] (fun t wr => ∃ (k i : Nat) (o : Option Addr) (c : Nat), k ≤ l.length ∧ i = 1 + 3 * k ∧ t = .int .i64 (i : Int) ∧ wr.cell? ⟨bt, 0, none⟩ = some (.slice o k c) ∧ wr.frozen? ⟨bt, 0, none⟩ = false ∧ wr.ownsRow (bt + 1) 41 3 (.slice o k c) k (cellsN (l.take k)) ∧ Below w1.heap.size w1 wr) (fun t _ => s.size - (intOf t).toNat)
  case atStart => exact ⟨0, 1, none, 0, Nat.zero_le _, rfl, rfl, hc2, hf2, World.ownsRow_nil _ _ _ _, hb2⟩
  case round =>
    obtain ⟨k, i, o, c, hk, hik, rfl, hc, hf, hown, hbl⟩ := hrel
    have HIK : Hid (i = 1 + 3 * k) := hik
    have hszw : bt < wr.heap.size := World.block_lt_of_cell? _ _ hc
    have hag : (Value.slice o k c).ownBlock ≠ some bt := fun e => by have := (hown.lt bt e).1; omega
    by_cases hlt : k < l.length
    · have hsn := HSZ.out
      have q0 : i < s.size := by omega
      have q1 : i + 1 < s.size := by omega
      have q2 : i + 2 < s.size := by omega
      obtain ⟨a, d, b, hn, ha, hd, e0, e1, ez⟩ := dec_bytes s k (by rw [HL0.out]; exact hlt) i hik q0 q1 q2
      rw [← HL.out] at hn
      have HT : Hid (l.take (k + 1) = l.take k ++ [⟨(a : Int), (d : Int) - 1, b⟩]) := by unfold Hid; rw [take_snoc l k hlt, hn]
      clear hn hsn hik
      have HAG : Hid ((Value.slice o k c).ownBlock ≠ some bt) := hag
      have hi25 : i ≤ 800 := by have := HIK.out; omega
      have HWB : Hid (w1.heap.size ≤ bt) := by unfold Hid; rw [HW1.out]; exact Nat.le_refl _
      have i0 : (0 : Int) ≤ (i : Int) := Int.natCast_nonneg _
      have j1 : (0 : Int) ≤ (i : Int) + 1 := by omega
      have j2 : (0 : Int) ≤ (i : Int) + 2 := by omega
      have i1 : (i : Int) < (s.size : Int) := by omega
      have i2 : (i : Int) + 1 < (s.size : Int) := by omega
      have i3 : (i : Int) + 2 < (s.size : Int) := by omega
      have x0 : IntKind.i64.wrap (d : Int) = (d : Int) := by rw [IntKind.wrap_i64]; omega
      have xa : IntKind.i64.wrap (a : Int) = (a : Int) := by rw [IntKind.wrap_i64]; omega
      have q2' : ((i : Int) + 2).toNat < s.size := by omega
      have ez' : ((((s[((i : Int) + 2).toNat]'q2').toNat : Nat) : Int) == 1) = b := by
        rw [← ez]
        have y2 : ((i : Int) + 2).toNat = i + 2 := by omega
        simp only [y2]
      have x1 : IntKind.i64.wrap ((i : Int) + 1) = (i : Int) + 1 := by rw [IntKind.wrap_i64]; omega
      have x2 : IntKind.i64.wrap ((i : Int) + 2) = (i : Int) + 2 := by rw [IntKind.wrap_i64]; omega
      have x3 : IntKind.i64.wrap ((d : Int) - 1) = (d : Int) - 1 := by rw [IntKind.wrap_i64]; omega
      clear hcr hfr hc2 hf2 hb2 hs2 hw2 hel hnb hb0 hsI hag
      go_wp2_with fail
      refine wp_region_noPanic ?_
      refine wp_region_any (by kernel_rfl) ?_
      try (change wpAny _ _ _ _ _ _ _ (World.drew _))
      refine wpAny_take (i := 0) (v := ?_) rfl (by kernel_rfl) (by kernel_rfl) (by kernel_rfl) (fun _ _ _ h => h) (Or.inl ⟨by rfl, ?hy⟩) ?_
      case hy => (intro w; go_simp; try with_reducible rfl)
      refine wpAny_take (i := 2) (v := ?_) rfl (by kernel_rfl) (by kernel_rfl) (by kernel_rfl) (fun _ _ _ h => h) (Or.inl ⟨by rfl, ?hy⟩) ?_
      case hy => (intro w; go_simp; try with_reducible rfl)
      refine wpAny_take (i := 3) (v := ?_) rfl (by kernel_rfl) (by kernel_rfl) (by kernel_rfl) (fun _ _ _ h => h) (Or.inl ⟨by rfl, ?hy⟩) ?_
      case hy => (intro w; go_simp; try with_reducible rfl)
      refine wpAny_take (i := 4) (v := ?_) rfl (by kernel_rfl) (by kernel_rfl) (by kernel_rfl) (fun _ _ _ h => h) (Or.inl ⟨by rfl, ?hy⟩) ?_
      case hy => (intro w; go_simp; try with_reducible rfl)
      refine wpAny_take (i := 5) (v := ?_) rfl (by kernel_rfl) (by kernel_rfl) (by kernel_rfl) (fun _ _ _ h => h) (Or.inl ⟨by rfl, ?hy⟩) ?_
      case hy => (intro w; go_simp; try with_reducible rfl)
      refine wpAny_take (i := 6) (v := ?_) rfl (by kernel_rfl) (by kernel_rfl) (by kernel_rfl) (fun _ _ _ h => h) (Or.inl ⟨by rfl, ?hy⟩) ?_
      case hy => (intro w; go_simp; try with_reducible rfl)
      refine wpAny_take (i := 7) (v := ?_) rfl (by kernel_rfl) (by kernel_rfl) (by kernel_rfl) (fun _ _ _ h => h) (Or.inl ⟨by rfl, ?hy⟩) ?_
      case hy => (intro w; go_simp; try with_reducible rfl)
      refine wpAny_take (i := 8) (v := ?_) rfl (by kernel_rfl) (by kernel_rfl) (by kernel_rfl) (fun _ _ _ h => h) (Or.inl ⟨by rfl, ?hy⟩) ?_
      case hy => (intro w; go_simp; try with_reducible rfl)
      refine wpAny_take (i := 9) (v := ?_) rfl (by kernel_rfl) (by kernel_rfl) (by kernel_rfl) (fun _ _ _ h => h) (Or.inl ⟨by rfl, ?hy⟩) ?_
      case hy => (intro w; go_simp; try with_reducible rfl)
      refine wpAny_take (i := 10) (v := ?_) rfl (by kernel_rfl) (by kernel_rfl) (by kernel_rfl) (fun _ _ _ h => h) (Or.inl ⟨by rfl, ?hy⟩) ?_
      case hy => (intro w; go_simp; try with_reducible rfl)
      refine wpAny_take (i := 11) (v := ?_) rfl (by kernel_rfl) (by kernel_rfl) (by kernel_rfl) (fun _ _ _ h => h) (Or.inl ⟨by rfl, ?hy⟩) ?_
      case hy => (intro w; go_simp; try with_reducible rfl)
      refine wpAny_take (i := 12) (v := ?_) rfl (by kernel_rfl) (by kernel_rfl) (by kernel_rfl) (fun _ _ _ h => h) (Or.inl ⟨by rfl, ?hy⟩) ?_
      case hy => (intro w; go_simp; try with_reducible rfl)
      refine wpAny_take (i := 13) (v := ?_) rfl (by kernel_rfl) (by kernel_rfl) (by kernel_rfl) (fun _ _ _ h => h) (Or.inl ⟨by rfl, ?hy⟩) ?_
      case hy => (intro w; go_simp; try with_reducible rfl)
      refine wpAny_take (i := 14) (v := ?_) rfl (by kernel_rfl) (by kernel_rfl) (by kernel_rfl) (fun _ _ _ h => h) (Or.inl ⟨by rfl, ?hy⟩) ?_
      case hy => (intro w; go_simp; try with_reducible rfl)
      refine wpAny_take (i := 15) (v := ?_) rfl (by kernel_rfl) (by kernel_rfl) (by kernel_rfl) (fun _ _ _ h => h) (Or.inl ⟨by rfl, ?hy⟩) ?_
      case hy => (intro w; go_simp; try with_reducible rfl)
      refine wpAny_take (i := 16) (v := ?_) rfl (by kernel_rfl) (by kernel_rfl) (by kernel_rfl) (fun _ _ _ h => h) (Or.inl ⟨by rfl, ?hy⟩) ?_
      case hy => (intro w; go_simp; try with_reducible rfl)
      refine wpAny_take (i := 17) (v := ?_) rfl (by kernel_rfl) (by kernel_rfl) (by kernel_rfl) (fun _ _ _ h => h) (Or.inl ⟨by rfl, ?hy⟩) ?_
      case hy => (intro w; go_simp; try with_reducible rfl)
      refine wpAny_ready (rs := [1, 18]) (by kernel_rfl) (by simp) ?_
      refine AllReady.cons rfl (fun K hK => ?_) (AllReady.cons rfl (fun K hK => ?_) AllReady.nil)
      · go_simp
        refine hK _ _ ?_
        clear hK K
        refine wpAny_ready (rs := [18]) (by kernel_rfl) (by simp) ?_
        refine AllReady.cons rfl (fun K hK => ?_) AllReady.nil
        go_simp
        refine hK _ _ ?_
        clear hK K
        refine wpAny_ready (rs := [19]) (by kernel_rfl) (by simp) ?_
        refine AllReady.cons rfl (fun K hK => ?_) AllReady.nil
        refine step_append_lies _ (by rfl) _ _ _ (by rfl) (bt + 1) 41 i46 _ 3 24 Try.underlying22 hi hz0 hz1 hz2 rfl (by omega) (.slice o k c) k (cellsN (l.take k)) (by rfl) ((hown.alloc _).drew) ⟨wr.heap.size, 0, none⟩ 1 1 [.int .i64 (a : Int), .int .i64 ((d : Int) - 1), .bool b] (by rfl) (by rfl) (World.news_of_block (cs := #[.int .i64 (a : Int), .int .i64 ((d : Int) - 1), .bool b]) (t := 41) (fr := (0, 0)) (heap_alloc_new wr _)) (by simp [Value.oneCell']) (by omega) (by unfold maxLen; omega) (by omega) (by simp; omega) (wr.heap.size + 1) (by simp) ?_
        intro g cp w4 hown4 hgrow _ _
        have hc4 : w4.cell? ⟨bt, 0, none⟩ = some (.slice o k c) := (hgrow.cell_far ⟨bt, 0, none⟩ (by simp; omega) (Ne.symm HAG.out)).trans ((((Below.refl wr.heap.size wr).alloc (Nat.le_refl _) _).drew.cell (p := ⟨bt, 0, none⟩) hszw).trans hc)
        have hf4 : w4.frozen? ⟨bt, 0, none⟩ = false := (hgrow.frozen_far ⟨bt, 0, none⟩ (by simp; omega) (Ne.symm HAG.out)).trans ((((Below.refl wr.heap.size wr).alloc (Nat.le_refl _) _).drew.frozen (p := ⟨bt, 0, none⟩) hszw).trans hf)
        have hB4 : Below w1.heap.size w1 w4 := (hbl.alloc hbl.size _).drew.grown hgrow (by have := hbl.size; simp; omega) (fun j hj => by have := (hown.lt j hj).1; have := HWB.out; omega)
        have hown5 : w4.ownsRow (bt + 1) 41 3 (.slice (some ⟨g, 0, none⟩) (k + 1) cp) (k + 1) (cellsN (l.take (k + 1))) := by
          rw [HT.out, cellsN_snoc]
          exact hown4
        refine hK _ _ ?_
        clear hK K hown4 hgrow
        refine wpAny_take (i := 20) (v := ?_) rfl (by kernel_rfl) (by kernel_rfl) (by kernel_rfl) (fun _ _ _ h => h) (Or.inl ⟨by rfl, ?hy⟩) ?_
        case hy => (intro w; go_simp; try with_reducible rfl)
        refine wpAny_ready (rs := [21]) (by kernel_rfl) (by simp) ?_
        refine AllReady.cons rfl (fun K hK => ?_) AllReady.nil
        go_simp
        refine hK _ _ ?_
        clear hK K
        refine wpAny_done (by kernel_rfl) ?_ _
        refine NoPanic.normal ?_
        go_wp2
        go_roundw
        case rel => exact ⟨k + 1, i + 3, some ⟨g, 0, none⟩, cp, by omega, by have := HIK.out; omega, by go_num, World.cell?_setCell_same _ _ _ hc4, by rw [World.frozen?_setCell]; exact hf4, ownsRow_setCell_below hown5 (Nat.lt_succ_self _) _, hB4.setCell HWB.out _⟩
        case measure => simp [intOf]; omega
      · go_simp
        refine hK _ _ ?_
        clear hK K
        refine wpAny_ready (rs := [1]) (by kernel_rfl) (by simp) ?_
        refine AllReady.cons rfl (fun K hK => ?_) AllReady.nil
        go_simp
        refine hK _ _ ?_
        clear hK K
        refine wpAny_ready (rs := [19]) (by kernel_rfl) (by simp) ?_
        refine AllReady.cons rfl (fun K hK => ?_) AllReady.nil
        refine step_append_lies _ (by rfl) _ _ _ (by rfl) (bt + 1) 41 i46 _ 3 24 Try.underlying22 hi hz0 hz1 hz2 rfl (by omega) (.slice o k c) k (cellsN (l.take k)) (by rfl) ((hown.alloc _).drew) ⟨wr.heap.size, 0, none⟩ 1 1 [.int .i64 (a : Int), .int .i64 ((d : Int) - 1), .bool b] (by rfl) (by rfl) (World.news_of_block (cs := #[.int .i64 (a : Int), .int .i64 ((d : Int) - 1), .bool b]) (t := 41) (fr := (0, 0)) (heap_alloc_new wr _)) (by simp [Value.oneCell']) (by omega) (by unfold maxLen; omega) (by omega) (by simp; omega) (wr.heap.size + 1) (by simp) ?_
        intro g cp w4 hown4 hgrow _ _
        have hc4 : w4.cell? ⟨bt, 0, none⟩ = some (.slice o k c) := (hgrow.cell_far ⟨bt, 0, none⟩ (by simp; omega) (Ne.symm HAG.out)).trans ((((Below.refl wr.heap.size wr).alloc (Nat.le_refl _) _).drew.cell (p := ⟨bt, 0, none⟩) hszw).trans hc)
        have hf4 : w4.frozen? ⟨bt, 0, none⟩ = false := (hgrow.frozen_far ⟨bt, 0, none⟩ (by simp; omega) (Ne.symm HAG.out)).trans ((((Below.refl wr.heap.size wr).alloc (Nat.le_refl _) _).drew.frozen (p := ⟨bt, 0, none⟩) hszw).trans hf)
        have hB4 : Below w1.heap.size w1 w4 := (hbl.alloc hbl.size _).drew.grown hgrow (by have := hbl.size; simp; omega) (fun j hj => by have := (hown.lt j hj).1; have := HWB.out; omega)
        have hown5 : w4.ownsRow (bt + 1) 41 3 (.slice (some ⟨g, 0, none⟩) (k + 1) cp) (k + 1) (cellsN (l.take (k + 1))) := by
          rw [HT.out, cellsN_snoc]
          exact hown4
        refine hK _ _ ?_
        clear hK K hown4 hgrow
        refine wpAny_take (i := 20) (v := ?_) rfl (by kernel_rfl) (by kernel_rfl) (by kernel_rfl) (fun _ _ _ h => h) (Or.inl ⟨by rfl, ?hy⟩) ?_
        case hy => (intro w; go_simp; try with_reducible rfl)
        refine wpAny_ready (rs := [21]) (by kernel_rfl) (by simp) ?_
        refine AllReady.cons rfl (fun K hK => ?_) AllReady.nil
        go_simp
        refine hK _ _ ?_
        clear hK K
        refine wpAny_done (by kernel_rfl) ?_ _
        refine NoPanic.normal ?_
        go_wp2
        go_roundw
        case rel => exact ⟨k + 1, i + 3, some ⟨g, 0, none⟩, cp, by omega, by have := HIK.out; omega, by go_num, World.cell?_setCell_same _ _ _ hc4, by rw [World.frozen?_setCell]; exact hf4, ownsRow_setCell_below hown5 (Nat.lt_succ_self _) _, hB4.setCell HWB.out _⟩
        case measure => simp [intOf]; omega
    · obtain rfl : k = l.length := by omega
      have hsn := HSZ.out
      obtain rfl : i = s.size := by omega
      rw [List.take_length] at hown
      have hT := own_lies hown
      have HTT : Hid (IsT wr o l) := hT
      have hres : wr.cell? ⟨w.heap.size, 0, none⟩ = some (.slice none 0 0) := (hbl.cell (p := ⟨w.heap.size, 0, none⟩) (by rw [HW1.out]; have := HBT.out; show w.heap.size < bt; omega)).trans hr1
      have hrfz : wr.frozen? ⟨w.heap.size, 0, none⟩ = false := (hbl.frozen (p := ⟨w.heap.size, 0, none⟩) (by rw [HW1.out]; have := HBT.out; show w.heap.size < bt; omega)).trans hr2
      have hBW : Below w.heap.size w wr := hw2.trans (hbl.mono hw2.size)
      have HXB : Hid (∀ x, o = some x → x.block ≠ w.heap.size) := by
        intro x e
        have h3 := (hown.lt x.block (by rw [e]; rfl)).1
        have h4 := HBT.out
        omega
      clear hown hT hbl hcr hfr hc2 hf2 hb2 hs2 hel hnb hb0 hsI hag hik HIK hsn hf hr1 hr2 hw2
      cases hm : may l
      · have HM : Hid (may l = false) := hm
        clear hm
        go_wp2_with fail
        refine (putN o c l wr HTT.out HM.out).mono ?_
        rintro e w5 ⟨rfl, hb5⟩
        have hr5 := cell_later hb5 hres
        have hz5 : w5.frozen? ⟨w.heap.size, 0, none⟩ = false := (hb5.frozen (p := ⟨w.heap.size, 0, none⟩) (World.block_lt_of_cell? _ _ hres)).trans hrfz
        have hB5 := bel hBW hb5
        clear hb5 hBW hres hrfz hc HTT
        go_wp2
        obtain ⟨rfl, rfl⟩ := HA.out.2 (fun h => by rw [HM.out] at h; cases h.1)
        have hcs := World.cell?_setCell_same w5 ⟨w.heap.size, 0, none⟩ (.slice none 0 0) hr5
        exact bodyPost_ret (v := .tuple #[.agg #[.slice none 0 0], .int .i64 600]) (by simp [results, Try.results12, go_sem, hcs]) rfl ⟨none, 0, rfl, ⟨Nat.zero_le _, .inl rfl⟩, hB5.setCell (Nat.le_refl _) _⟩
      · have HM : Hid (may l = true) := hm
        have h1 := (may_of hm).one
        have h8 := (may_of hm).most
        obtain ⟨x, rfl, hlx⟩ := HTT.out.some h1
        have HLX : Hid (Lies wr x l) := hlx
        clear hm hlx
        by_cases hus : u = s
        · go_wp2_with fail
          refine (putY x c l wr HLX.out HM.out).mono ?_
          rintro e w5 ⟨rfl, hb5⟩
          rw [← HU.out, hus]
          have hc5 := cell_later hb5 hc
          have hr5 := cell_later hb5 hres
          have hz5 : w5.frozen? ⟨w.heap.size, 0, none⟩ = false := (hb5.frozen (p := ⟨w.heap.size, 0, none⟩) (World.block_lt_of_cell? _ _ hres)).trans hrfz
          have HL5 : Hid (Lies w5 x l) := HLX.out.later hb5
          have hB5 := bel hBW hb5
          have HUS : Hid (u = s) := hus
          clear hb5 hBW hres hrfz hc HLX HTT hus
          go_wp2
          obtain ⟨rfl, rfl⟩ := HA.out.1 ⟨HM.out, HUS.out⟩
          have hcs := World.cell?_setCell_same w5 ⟨w.heap.size, 0, none⟩ (.slice (some x) L.length c) hr5
          exact bodyPost_ret (v := .tuple #[.agg #[.slice (some x) L.length c], .int .i64 0]) (by simp [results, Try.results12, go_sem, hcs]) rfl ⟨some x, c, rfl, ⟨by unfold maxLen; omega, .inr ⟨x, rfl, HL5.out.aside (HXB.out x rfl) _⟩⟩, hB5.setCell (Nat.le_refl _) _⟩
        · go_wp2_with fail
          refine (putY x c l wr HLX.out HM.out).mono ?_
          rintro e w5 ⟨rfl, hb5⟩
          rw [← HU.out]
          have hul : (u.toList == s.toList) = false := texts_part hus
          have HUS : Hid (u ≠ s) := hus
          have hc5 := cell_later hb5 hc
          have hr5 := cell_later hb5 hres
          have hz5 : w5.frozen? ⟨w.heap.size, 0, none⟩ = false := (hb5.frozen (p := ⟨w.heap.size, 0, none⟩) (World.block_lt_of_cell? _ _ hres)).trans hrfz
          have hB5 := bel hBW hb5
          clear hb5 hBW hres hrfz hc HLX HTT hus
          go_wp2
          obtain ⟨rfl, rfl⟩ := HA.out.2 (fun h => HUS.out h.2)
          have hcs := World.cell?_setCell_same w5 ⟨w.heap.size, 0, none⟩ (.slice none 0 0) hr5
          exact bodyPost_ret (v := .tuple #[.agg #[.slice none 0 0], .int .i64 600]) (by simp [results, Try.results12, go_sem, hcs]) rfl ⟨none, 0, rfl, ⟨Nat.zero_le _, .inl rfl⟩, hB5.setCell (Nat.le_refl _) _⟩
set_option maxRecDepth 20000 in
set_option maxHeartbeats 800000 in
theorem getH (s : ByteArray) (w : World) (hs : s.size ≤ 140737488355327) (hh : ¬ headS s) :
    Calls Try.prog 12 #[.string s] w fun r w' => r = .returned (.tuple #[.agg #[.slice none 0 0], .int .i64 600]) ∧ Below w.heap.size w w' := by
  have hb : Below w.heap.size w (w.alloc (Obj.cells #[.slice none 0 0] 24)) := (Below.refl _ _).alloc (Nat.le_refl _) _
  by_cases h0 : 0 < s.size
  · have hel : ¬ (s.toList = []) := by
      intro c
      rw [Go.ByteArray.toList_eq] at c
      have : s.size = 0 := by
        show s.data.size = 0
        rw [← Array.length_toList, c]
        rfl
      omega
    have hnb : s.toList.isEmpty = false := by
      cases c : s.toList with
      | nil => exact absurd c hel
      | cons _ _ => rfl
    have hb0 : ((s[0].toNat : Nat) : Int) = (((s.data.toList.getD 0 0).toNat : Nat) : Int) := by rw [bytes_at s 0 h0]
    have h255 := byte_lt (s.data.toList.getD 0 0)
    unfold headS at hh
    generalize (s.data.toList.getD 0 0).toNat = n at *
    have hne : ((s.size : Int) != 1 + 3 * (n : Int)) = true := by
      rw [bne_iff_ne]
      omega
    go_enter Try.func12, Try.ntmps12
    go_wp2
    exact bodyPost_ret (v := .tuple #[.agg #[.slice none 0 0], .int .i64 600]) (by simp [results, Try.results12, go_sem]) rfl ⟨rfl, hb⟩
  · have hel : s.toList = [] := by
      rw [Go.ByteArray.toList_eq]
      apply List.eq_nil_of_length_eq_zero
      rw [Array.length_toList]
      show s.size = 0
      omega
    clear hh
    go_enter Try.func12, Try.ntmps12
    go_wp2
    exact bodyPost_ret (v := .tuple #[.agg #[.slice none 0 0], .int .i64 600]) (by simp [results, Try.results12, go_sem]) rfl ⟨rfl, hb⟩
/-- What is told of any text: a type's nodes and no error; or nothing and the error. -/
theorem getR (L : List Nd) (E : Int) (s : ByteArray) (hs : s.size ≤ 140737488355327) (HA : Hid ((isText s → L = decL s.data.toList ∧ E = 0) ∧ (¬ isText s → L = [] ∧ E = 600))) (w : World) :
    Calls Try.prog 12 #[.string s] w fun r w' => ∃ o c, r = .returned (.tuple #[.agg #[.slice o L.length c], .int .i64 E]) ∧ IsT w' o L ∧ Below w.heap.size w w' := by
  by_cases hh : headS s
  · refine getG (decL s.data.toList) L E s _ rfl rfl ⟨fun h => HA.out.1 ⟨hh, h⟩, fun h => HA.out.2 (fun c => h c.2)⟩ w ?_
    rw [length_decL]
    exact hh
  · obtain ⟨rfl, rfl⟩ := HA.out.2 (fun c => hh c.1)
    refine (getH s w hs hh).mono ?_
    rintro r w' ⟨rfl, hb⟩
    exact ⟨none, 0, rfl, ⟨Nat.zero_le _, .inl rfl⟩, hb⟩
end Go.Proofs.Ytnnbeicfbcgcbaa.Tree
