/-
  What the program's own schema.Get computes, of any text: its contract.
-/
import Derived.Test.YtnnbeicfbcgcbaaRows
import Derived.Test.YtnnbeicfbcgcbaaTree
import Derived.Test.YtnnbeicfbcgcbaaText
import Derived.Test.YtnnbeicfbcgcbaaOpen
import Derived.Test.YtnnbeicfbcgcbaaMem
import Derived.Test.YtnnbeicfbcgcbaaMay
import Derived.Test.YtnnbeicfbcgcbaaLev
import Derived.Test.YtnnbeicfbcgcbaaRefMay
import Derived.Test.YtnnbeicfbcgcbaaHelp
import Derived.Test.YtnnbeicfbcgcbaaCopy
import Derived.Test.YtnnbeicfbcgcbaaPut
import Derived.Test.YtnnbeicfbcgcbaaSPut
import Derived.Test.YtnnbeicfbcgcbaaGet
import Derived.Test.YtnnbeicfbcgcbaaTold
import Derived.Test.YtnnbeicfbcgcbaaGetAny
import Derived.Test.YtnnbeicfbcgcbaaCut
import Derived.WalkKit
import Derived.ProofKit
import Derived.OpenShut
import Derived.Below
import Derived.RegionTactic
import Derived.ChangeAlike
import Derived.OwnWalk
import Derived.Laws.IdiomStrings
import Derived.Laws.OwnMore
import Derived.Deep.RegionHeld3
import Derived.Deep.AppendLies
namespace Go.Proofs.Ytnnbeicfbcgcbaa.Tree
open Go.ChangeShapes Go.WideShapes Go.ChangeAt Go.RowKit

set_option maxRecDepth 20000 in
set_option maxHeartbeats 3200000 in
theorem nodes (l : List Nd) (s : ByteArray) (HL : Hid (l = cutL s.data.toList)) (hs : s.size ≤ 140737488355327) (w : World) :
    Calls Try.prog 20 #[.string s] w fun r w' => ∃ o c, r = .returned (.slice o l.length c) ∧ w'.ownsRow w.heap.size 41 3 (.slice o l.length c) l.length (cellsN l) ∧ Below w.heap.size w w' := by
  obtain ⟨i46, hi, hz0, hz1, hz2⟩ := info_parts info46
  have HN : Hid (l.length = cutN s.size) := by unfold Hid; rw [HL.out, length_cutL, size_toList]
  have h8 : l.length ≤ 8 := by rw [HN.out]; exact cutN_le _
  go_enter Try.func20, Try.ntmps20
  go_wp2_with fail
  go_loopw [3, 4] (fun v t wr => ∃ (k i : Nat) (o : Option Addr) (c : Nat), k ≤ l.length ∧ i = 1 + 3 * k ∧ t = .int .i64 (i : Int) ∧ v = .slice o k c ∧ wr.ownsRow w.heap.size 41 3 (.slice o k c) k (cellsN (l.take k)) ∧ Below w.heap.size w wr) (fun _ t _ => 100 - (intOf t).toNat)
  case atStart => exact ⟨0, 1, none, 0, Nat.zero_le _, rfl, rfl, rfl, World.ownsRow_nil _ _ _ _, Below.refl _ _⟩
  case round =>
    obtain ⟨k, i, o, c, hk, hik, rfl, rfl, hown, hbl⟩ := hrel
    have HIK : Hid (i = 1 + 3 * k) := hik
    have hmore := cutN_more s.size k
    rw [← HN.out] at hmore
    have hi25 : i ≤ 25 := by omega
    by_cases hlt : k < l.length
    · obtain ⟨hm1, hm2⟩ := hmore.1 hlt
      have q0 : i < s.size := by omega
      have q1 : i + 1 < s.size := by omega
      have q2 : i + 2 < s.size := by omega
      obtain ⟨a, d, b, hn, ha, hd, e0, e1, ez⟩ := cut_bytes s k i hik q0 q1 q2
      have HT : Hid (l.take (k + 1) = l.take k ++ [⟨(a : Int), (d : Int) - 1, b⟩]) := by unfold Hid; rw [take_snoc l k hlt, ← hn, HL.out, nd_cutL _ _ (by rw [← HL.out]; exact hlt)]
      have hge : decide (3 ≤ (s.size : Int) - (i : Int)) = true := decide_eq_true (by omega)
      have h3 : (3 : Int) ≤ (s.size : Int) - (i : Int) := by omega
      clear hn hik hmore hm1
      have i0 : (0 : Int) ≤ (i : Int) := Int.natCast_nonneg _
      have j1 : (0 : Int) ≤ (i : Int) + 1 := by omega
      have j2 : (0 : Int) ≤ (i : Int) + 2 := by omega
      have i1 : (i : Int) < (s.size : Int) := by omega
      have i2 : (i : Int) + 1 < (s.size : Int) := by omega
      have i3 : (i : Int) + 2 < (s.size : Int) := by omega
      have x0 : IntKind.i64.wrap (d : Int) = (d : Int) := by rw [IntKind.wrap_i64]; omega
      have xa : IntKind.i64.wrap (a : Int) = (a : Int) := by rw [IntKind.wrap_i64]; omega
      have q2' : ((i : Int) + 2).toNat < s.size := by omega
      have ez' : ((((s[((i : Int) + 2).toNat]'q2').toNat : Nat) : Int) == 1) = b := by
        rw [← ez]
        have y2 : ((i : Int) + 2).toNat = i + 2 := by omega
        simp only [y2]
      have x1 : IntKind.i64.wrap ((i : Int) + 1) = (i : Int) + 1 := by rw [IntKind.wrap_i64]; omega
      have x2 : IntKind.i64.wrap ((i : Int) + 2) = (i : Int) + 2 := by rw [IntKind.wrap_i64]; omega
      have x3 : IntKind.i64.wrap ((d : Int) - 1) = (d : Int) - 1 := by rw [IntKind.wrap_i64]; omega
      go_wp2_with fail
      refine wp_region_noPanic ?_
      refine wp_region_any (by kernel_rfl) ?_
      try (change wpAny _ _ _ _ _ _ _ (World.drew _))
      refine wpAny_take (i := 0) (v := ?_) rfl (by kernel_rfl) (by kernel_rfl) (by kernel_rfl) (fun _ _ _ h => h) (Or.inl ⟨by rfl, ?hy⟩) ?_
      case hy => (intro w; go_simp; try with_reducible rfl)
      refine wpAny_take (i := 1) (v := ?_) rfl (by kernel_rfl) (by kernel_rfl) (by kernel_rfl) (fun _ _ _ h => h) (Or.inl ⟨by rfl, ?hy⟩) ?_
      case hy => (intro w; go_simp; try with_reducible rfl)
      refine wpAny_take (i := 2) (v := ?_) rfl (by kernel_rfl) (by kernel_rfl) (by kernel_rfl) (fun _ _ _ h => h) (Or.inl ⟨by rfl, ?hy⟩) ?_
      case hy => (intro w; go_simp; try with_reducible rfl)
      refine wpAny_take (i := 3) (v := ?_) rfl (by kernel_rfl) (by kernel_rfl) (by kernel_rfl) (fun _ _ _ h => h) (Or.inl ⟨by rfl, ?hy⟩) ?_
      case hy => (intro w; go_simp; try with_reducible rfl)
      refine wpAny_take (i := 4) (v := ?_) rfl (by kernel_rfl) (by kernel_rfl) (by kernel_rfl) (fun _ _ _ h => h) (Or.inl ⟨by rfl, ?hy⟩) ?_
      case hy => (intro w; go_simp; try with_reducible rfl)
      refine wpAny_take (i := 5) (v := ?_) rfl (by kernel_rfl) (by kernel_rfl) (by kernel_rfl) (fun _ _ _ h => h) (Or.inl ⟨by rfl, ?hy⟩) ?_
      case hy => (intro w; go_simp; try with_reducible rfl)
      refine wpAny_take (i := 6) (v := ?_) rfl (by kernel_rfl) (by kernel_rfl) (by kernel_rfl) (fun _ _ _ h => h) (Or.inl ⟨by rfl, ?hy⟩) ?_
      case hy => (intro w; go_simp; try with_reducible rfl)
      refine wpAny_take (i := 7) (v := ?_) rfl (by kernel_rfl) (by kernel_rfl) (by kernel_rfl) (fun _ _ _ h => h) (Or.inl ⟨by rfl, ?hy⟩) ?_
      case hy => (intro w; go_simp; try with_reducible rfl)
      refine wpAny_take (i := 8) (v := ?_) rfl (by kernel_rfl) (by kernel_rfl) (by kernel_rfl) (fun _ _ _ h => h) (Or.inl ⟨by rfl, ?hy⟩) ?_
      case hy => (intro w; go_simp; try with_reducible rfl)
      refine wpAny_take (i := 9) (v := ?_) rfl (by kernel_rfl) (by kernel_rfl) (by kernel_rfl) (fun _ _ _ h => h) (Or.inl ⟨by rfl, ?hy⟩) ?_
      case hy => (intro w; go_simp; try with_reducible rfl)
      refine wpAny_take (i := 10) (v := ?_) rfl (by kernel_rfl) (by kernel_rfl) (by kernel_rfl) (fun _ _ _ h => h) (Or.inl ⟨by rfl, ?hy⟩) ?_
      case hy => (intro w; go_simp; try with_reducible rfl)
      refine wpAny_take (i := 11) (v := ?_) rfl (by kernel_rfl) (by kernel_rfl) (by kernel_rfl) (fun _ _ _ h => h) (Or.inl ⟨by rfl, ?hy⟩) ?_
      case hy => (intro w; go_simp; try with_reducible rfl)
      refine wpAny_take (i := 12) (v := ?_) rfl (by kernel_rfl) (by kernel_rfl) (by kernel_rfl) (fun _ _ _ h => h) (Or.inl ⟨by rfl, ?hy⟩) ?_
      case hy => (intro w; go_simp; try with_reducible rfl)
      refine wpAny_take (i := 13) (v := ?_) rfl (by kernel_rfl) (by kernel_rfl) (by kernel_rfl) (fun _ _ _ h => h) (Or.inl ⟨by rfl, ?hy⟩) ?_
      case hy => (intro w; go_simp; try with_reducible rfl)
      refine wpAny_take (i := 14) (v := ?_) rfl (by kernel_rfl) (by kernel_rfl) (by kernel_rfl) (fun _ _ _ h => h) (Or.inl ⟨by rfl, ?hy⟩) ?_
      case hy => (intro w; go_simp; try with_reducible rfl)
      refine wpAny_take (i := 15) (v := ?_) rfl (by kernel_rfl) (by kernel_rfl) (by kernel_rfl) (fun _ _ _ h => h) (Or.inl ⟨by rfl, ?hy⟩) ?_
      case hy => (intro w; go_simp; try with_reducible rfl)
      refine wpAny_take (i := 16) (v := ?_) rfl (by kernel_rfl) (by kernel_rfl) (by kernel_rfl) (fun _ _ _ h => h) (Or.inl ⟨by rfl, ?hy⟩) ?_
      case hy => (intro w; go_simp; try with_reducible rfl)
      refine wpAny_ready (rs := [17]) (by kernel_rfl) (by simp) ?_
      refine AllReady.cons rfl (fun K hK => ?_) AllReady.nil
      go_simp
      refine hK _ _ ?_
      clear hK K
      refine wpAny_ready (rs := [18]) (by kernel_rfl) (by simp) ?_
      refine AllReady.cons rfl (fun K hK => ?_) AllReady.nil
      refine step_append_lies _ (by rfl) _ _ _ (by rfl) w.heap.size 41 i46 _ 3 24 Try.underlying22 hi hz0 hz1 hz2 rfl (by omega) (.slice o k c) k (cellsN (l.take k)) (by rfl) ((hown.alloc _).drew) ⟨wr.heap.size, 0, none⟩ 1 1 [.int .i64 (a : Int), .int .i64 ((d : Int) - 1), .bool b] (by rfl) (by rfl) (World.news_of_block (cs := #[.int .i64 (a : Int), .int .i64 ((d : Int) - 1), .bool b]) (t := 41) (fr := (0, 0)) (heap_alloc_new wr _)) (by simp [Value.oneCell']) (by omega) (by unfold maxLen; omega) (by omega) (by have := hbl.size; simp; omega) (wr.heap.size + 1) (by simp) ?_
      intro g cp w4 hown4 hgrow _ _
      have hB4 : Below w.heap.size w w4 := (hbl.alloc hbl.size _).drew.grown hgrow (by have := hbl.size; simp; omega) (fun j hj => (hown.lt j hj).1)
      have hown5 : w4.ownsRow w.heap.size 41 3 (.slice (some ⟨g, 0, none⟩) (k + 1) cp) (k + 1) (cellsN (l.take (k + 1))) := by
        rw [HT.out, cellsN_snoc]
        exact hown4
      refine hK _ _ ?_
      clear hK K hown4 hgrow
      refine wpAny_take (i := 19) (v := ?_) rfl (by kernel_rfl) (by kernel_rfl) (by kernel_rfl) (fun _ _ _ h => h) (Or.inl ⟨by rfl, ?hy⟩) ?_
      case hy => (intro w; go_simp; try with_reducible rfl)
      refine wpAny_done (by kernel_rfl) ?_ _
      refine NoPanic.normal ?_
      go_wp2
      go_roundw
      case rel => exact ⟨k + 1, i + 3, some ⟨g, 0, none⟩, cp, by omega, by have := HIK.out; omega, by go_num, rfl, hown5, hB4⟩
      case measure => simp [intOf]; omega
    · obtain rfl : k = l.length := by omega
      rw [List.take_length] at hown
      by_cases hge : 3 ≤ (s.size : Int) - (i : Int)
      · have hk8 : l.length = 8 := by
          have : ¬ l.length < 8 := fun h => hlt (hmore.2 ⟨by omega, h⟩)
          omega
        have HK : Hid (l.length = 8) := hk8
        have HO : Hid (wr.ownsRow w.heap.size 41 3 (.slice o l.length c) l.length (cellsN l)) := hown
        clear hmore hown
        go_wp2
        go_ret
        exact ⟨o, c, by rw [HK.out]; rfl, HO.out, hbl⟩
      · clear hmore
        go_wp2
        go_ret
        exact ⟨o, c, rfl, hown, hbl⟩
/-- What a call owns still stands behind a later one. -/
theorem own_later {w w' : World} {b n : Nat} {e : TypeId} {k : Nat} {v : Value} {xs : List Value} (h : w.ownsRow b e k v n xs) (hb : Below w.heap.size w w') : w'.ownsRow b e k v n xs := by
  have hlt := h.lt
  refine ⟨h.1, ?_⟩
  rcases h.2 with h | ⟨g, cap, cur, h0, h1, h2, h3⟩
  · exact .inl h
  · subst h0
    exact .inr ⟨g, cap, cur, rfl, h1, (hb.block g (hlt g rfl).2).trans h2, h3⟩
set_option maxRecDepth 20000 in
set_option maxHeartbeats 3200000 in
theorem sgetG (l L : List Nd) (E : Int) (s u : ByteArray) (HL : Hid (l = cutL s.data.toList)) (HU : Hid (u = ⟨(enc l).toArray⟩)) (HA : Hid ((may l = true ∧ u = s → L = l ∧ E = 0) ∧ (¬ (may l = true ∧ u = s) → L = [] ∧ E = 600))) (hs : s.size ≤ 140737488355327) (w : World) :
    Calls Try.prog 11 #[.string s] w fun r w' => ∃ o c, r = .returned (.tuple #[.agg #[.slice o L.length c], .int .i64 E]) ∧ w'.ownsRow w.heap.size 41 3 (.slice o L.length c) L.length (cellsN L) ∧ Below w.heap.size w w' := by
  obtain ⟨w1, e1, hw1, hw2⟩ : ∃ w1, w.alloc (Obj.cells #[.slice none 0 0] 24) = w1 ∧ w1.heap.size = w.heap.size + 1 ∧ Below w.heap.size w w1 := ⟨_, rfl, by simp, (Below.refl _ _).alloc (Nat.le_refl _) _⟩
  have hr1 : w1.cell? ⟨w.heap.size, 0, none⟩ = some (.slice none 0 0) := by rw [← e1]; simp
  have hr2 : w1.frozen? ⟨w.heap.size, 0, none⟩ = false := by rw [← e1]; simp
  have HW1 : Hid (w1.heap.size = w.heap.size + 1) := hw1
  clear hw1
  go_enter Try.func11, Try.ntmps11
  go_wp2_with fail
  clear e1
  refine (nodes l s HL hs w1).mono ?_
  rintro e w2 ⟨o, c, rfl, hown, hb2⟩
  have hr3 := cell_later hb2 hr1
  have hr4 : w2.frozen? ⟨w.heap.size, 0, none⟩ = false := (hb2.frozen (p := ⟨w.heap.size, 0, none⟩) (World.block_lt_of_cell? _ _ hr1)).trans hr2
  have HTT : Hid (IsT w2 o l) := own_lies hown
  have HO2 : Hid (w2.ownsRow w1.heap.size 41 3 (.slice o l.length c) l.length (cellsN l)) := hown
  have HB2 : Hid (Below w.heap.size w w2) := bel hw2 hb2
  obtain ⟨w3, e3, hs3, hc3, hb3⟩ := boxed w2 (.slice o l.length c) 24
  have hr5 := cell_later hb3 hr3
  have hr6 : w3.frozen? ⟨w.heap.size, 0, none⟩ = false := (hb3.frozen (p := ⟨w.heap.size, 0, none⟩) (World.block_lt_of_cell? _ _ hr3)).trans hr4
  have HT3 : Hid (IsT w3 o l) := HTT.out.later hb3
  have HO3 : Hid (w3.ownsRow (w.heap.size + 1) 41 3 (.slice o l.length c) l.length (cellsN l)) := by rw [← HW1.out]; exact own_later HO2.out hb3
  have HB3 : Hid (Below w.heap.size w w3) := bel HB2.out hb3
  clear hown hb2 hb3 hr1 hr2 hr3 hr4 hw2 HTT HB2 HO2
  cases hm : may l
  · have HM : Hid (may l = false) := hm
    clear hm
    go_wp2_with fail
    clear e3
    refine (sputN o c l w3 HT3.out HM.out).mono ?_
    rintro e w5 ⟨rfl, hb5⟩
    have hr7 := cell_later hb5 hr5
    have hr8 : w5.frozen? ⟨w.heap.size, 0, none⟩ = false := (hb5.frozen (p := ⟨w.heap.size, 0, none⟩) (World.block_lt_of_cell? _ _ hr5)).trans hr6
    have hB5 := bel HB3.out hb5
    clear hb5 hr5 hr6 hc3 HT3
    go_wp2
    obtain ⟨rfl, rfl⟩ := HA.out.2 (fun h => by rw [HM.out] at h; cases h.1)
    have hcs := World.cell?_setCell_same w5 ⟨w.heap.size, 0, none⟩ (.slice none 0 0) hr7
    exact bodyPost_ret (v := .tuple #[.agg #[.slice none 0 0], .int .i64 600]) (by simp [results, Try.results11, go_sem, hcs]) rfl ⟨none, 0, rfl, World.ownsRow_nil _ _ _ _, hB5.setCell (Nat.le_refl _) _⟩
  · have HM : Hid (may l = true) := hm
    have h1 := (may_of hm).one
    have h8 := (may_of hm).most
    obtain ⟨x, rfl, hlx⟩ := HT3.out.some h1
    have HLX : Hid (Lies w3 x l) := hlx
    clear hm hlx
    by_cases hus : u = s
    · go_wp2_with fail
      clear e3
      refine (sputY x c l w3 HLX.out HM.out).mono ?_
      rintro e w5 ⟨rfl, hb5⟩
      rw [← HU.out, hus]
      have hc5 := cell_later hb5 hc3
      have hr7 := cell_later hb5 hr5
      have hr8 : w5.frozen? ⟨w.heap.size, 0, none⟩ = false := (hb5.frozen (p := ⟨w.heap.size, 0, none⟩) (World.block_lt_of_cell? _ _ hr5)).trans hr6
      have HO5 : Hid (w5.ownsRow (w.heap.size + 1) 41 3 (.slice (some x) l.length c) l.length (cellsN l)) := own_later HO3.out hb5
      have hB5 := bel HB3.out hb5
      have HUS : Hid (u = s) := hus
      clear hb5 hr5 hr6 hc3 HLX HT3 hus
      go_wp2
      obtain ⟨rfl, rfl⟩ := HA.out.1 ⟨HM.out, HUS.out⟩
      have hcs := World.cell?_setCell_same w5 ⟨w.heap.size, 0, none⟩ (.slice (some x) L.length c) hr7
      exact bodyPost_ret (v := .tuple #[.agg #[.slice (some x) L.length c], .int .i64 0]) (by simp [results, Try.results11, go_sem, hcs]) rfl ⟨some x, c, rfl, own_mono (ownsRow_setCell_below HO5.out (Nat.lt_succ_self _) _) (Nat.le_succ _), hB5.setCell (Nat.le_refl _) _⟩
    · go_wp2_with fail
      clear e3
      refine (sputY x c l w3 HLX.out HM.out).mono ?_
      rintro e w5 ⟨rfl, hb5⟩
      rw [← HU.out]
      have hul : (u.toList == s.toList) = false := texts_part hus
      have HUS : Hid (u ≠ s) := hus
      have hr7 := cell_later hb5 hr5
      have hr8 : w5.frozen? ⟨w.heap.size, 0, none⟩ = false := (hb5.frozen (p := ⟨w.heap.size, 0, none⟩) (World.block_lt_of_cell? _ _ hr5)).trans hr6
      have hB5 := bel HB3.out hb5
      clear hb5 hr5 hr6 hc3 HLX HT3 hus
      go_wp2
      obtain ⟨rfl, rfl⟩ := HA.out.2 (fun h => HUS.out h.2)
      have hcs := World.cell?_setCell_same w5 ⟨w.heap.size, 0, none⟩ (.slice none 0 0) hr7
      exact bodyPost_ret (v := .tuple #[.agg #[.slice none 0 0], .int .i64 600]) (by simp [results, Try.results11, go_sem, hcs]) rfl ⟨none, 0, rfl, World.ownsRow_nil _ _ _ _, hB5.setCell (Nat.le_refl _) _⟩
/-- What is told of any text: a type's nodes and no error; or nothing and the error. -/
theorem sgetR (L : List Nd) (E : Int) (s : ByteArray) (hs : s.size ≤ 140737488355327) (HA : Hid ((isText s → L = decL s.data.toList ∧ E = 0) ∧ (¬ isText s → L = [] ∧ E = 600))) (w : World) :
    Calls Try.prog 11 #[.string s] w fun r w' => ∃ o c, r = .returned (.tuple #[.agg #[.slice o L.length c], .int .i64 E]) ∧ w'.ownsRow w.heap.size 41 3 (.slice o L.length c) L.length (cellsN L) ∧ Below w.heap.size w w' := by
  refine sgetG (cutL s.data.toList) L E s _ rfl rfl ⟨fun h => ?_, fun h => ?_⟩ hs w
  · have ht := (isText_iff s).2 h
    rw [ht.cut]
    exact HA.out.1 ht
  · exact HA.out.2 (fun c => h ((isText_iff s).1 c))
end Go.Proofs.Ytnnbeicfbcgcbaa.Tree
