/-
  What the document's own GetSchema computes, of a text that PutSchema told: its contract.
-/
import Derived.Test.YtnnbeicfbcgcbaaRows
import Derived.Test.YtnnbeicfbcgcbaaTree
import Derived.Test.YtnnbeicfbcgcbaaText
import Derived.Test.YtnnbeicfbcgcbaaOpen
import Derived.Test.YtnnbeicfbcgcbaaMem
import Derived.Test.YtnnbeicfbcgcbaaMay
import Derived.Test.YtnnbeicfbcgcbaaLev
import Derived.Test.YtnnbeicfbcgcbaaRefMay
import Derived.Test.YtnnbeicfbcgcbaaHelp
import Derived.Test.YtnnbeicfbcgcbaaCopy
import Derived.Test.YtnnbeicfbcgcbaaPut
import Derived.WalkKit
import Derived.ProofKit
import Derived.OpenShut
import Derived.Below
import Derived.RegionTactic
import Derived.ChangeAlike
import Derived.OwnWalk
import Derived.Laws.IdiomStrings
import Derived.Laws.OwnMore
import Derived.Deep.RegionHeld3
import Derived.Deep.AppendLies
namespace Go.Proofs.Ytnnbeicfbcgcbaa.Tree
open Go.ChangeShapes Go.WideShapes Go.ChangeAt Go.RowKit

theorem text_at (l : List UInt8) (i : Nat) (h : i < (ByteArray.mk l.toArray).size) : (ByteArray.mk l.toArray)[i] = l.getD i 0 := by
  have h' : i < l.length := by simpa [ByteArray.size] using h
  rw [List.getD_eq_getElem?_getD, List.getElem?_eq_getElem h']
  rfl
theorem text_size (l : List UInt8) : (ByteArray.mk l.toArray).size = l.length := by simp [ByteArray.size]
/-- The three bytes of a node. -/
theorem node_bytes {l : List Nd} (h : May l) {k : Nat} (hk : k < l.length) (s : ByteArray) (hs : s = ⟨(enc l).toArray⟩) (i : Nat) (hi : i = 1 + 3 * k) (h0 : i < s.size) (h1 : i + 1 < s.size) (h2 : i + 2 < s.size) :
    ((s[i].toNat : Nat) : Int) = (nd l k).kind ∧ ((s[i + 1].toNat : Nat) : Int) = (nd l k).par + 1 ∧ ((s[i + 2].toNat : Nat) : Int) = if (nd l k).null then 1 else 0 := by
  subst hs hi
  have hd := h.dec hk
  have e2 := encTo_at l l.length k 2 hk (by decide)
  rw [text_at, text_at, text_at]
  unfold decN at hd
  refine ⟨?_, ?_, ?_⟩
  · rw [← hd]
  · rw [← hd]
    show _ = ((((enc l).getD (1 + 3 * k + 1) 0).toNat : Nat) : Int) - 1 + 1
    omega
  · rw [show (enc l).getD (1 + 3 * k + 2) 0 = nullB (nd l k).null from e2]
    cases (nd l k).null <;> rfl
theorem first_byte {l : List Nd} (h : May l) (s : ByteArray) (hs : s = ⟨(enc l).toArray⟩) (h0 : 0 < s.size) : ((s[0].toNat : Nat) : Int) = (l.length : Int) := by
  subst hs
  rw [text_at, show (enc l).getD 0 0 = UInt8.ofNat l.length from encTo_first l l.length]
  have := h.most
  simp
  omega

theorem Lies.aside {w : World} {x : Addr} {l : List Nd} (h : Lies w x l) {b j : Nat} (hb : x.block ≠ b) (u : Value) : Lies (w.setCell ⟨b, j, none⟩ u) x l := by
  have hx : ∀ n, x.add n ≠ ⟨b, j, none⟩ := by
    intro n c
    have : (x.add n).block = x.block := by unfold Addr.add; split <;> rfl
    rw [c] at this
    exact hb this.symm
  refine ⟨fun i hi => ?_, fun i hi => ?_, fun i hi => ?_⟩
  · rw [World.cell?_setCell_other _ _ _ _ (Ne.symm (hx _))]; exact h.kind i hi
  · rw [World.cell?_setCell_other _ _ _ _ (Ne.symm (hx _))]; exact h.par i hi
  · rw [World.cell?_setCell_other _ _ _ _ (Ne.symm (hx _))]; exact h.null i hi
set_option maxRecDepth 20000 in
set_option maxHeartbeats 3200000 in
theorem getY (l : List Nd) (s : ByteArray) (hs : s = ⟨(enc l).toArray⟩) (w : World) (hm : may l = true) :
    Calls Try.prog 12 #[.string s] w fun r w' => ∃ o c, r = .returned (.tuple #[.agg #[.slice o l.length c], .int .i64 0]) ∧ IsT w' o l ∧ Below w.heap.size w w' := by
  obtain ⟨i46, hi, hz0, hz1, hz2⟩ := info_parts info46
  have HM : Hid (may l = true) := hm
  have HMay : Hid (May l) := may_of hm
  have h8 := (may_of hm).most
  have h1 := (may_of hm).one
  have HS : Hid (s = ⟨(enc l).toArray⟩) := hs
  have hsz : s.size = 1 + 3 * l.length := by rw [hs, text_size, length_enc]
  have h0 : 0 < s.size := by omega
  have hb0 := first_byte (may_of hm) s hs h0
  clear hm hs
  have HSZ : Hid (s.size = 1 + 3 * l.length) := hsz
  have hel : ¬ (s.toList = []) := by
    intro c
    rw [Go.ByteArray.toList_eq] at c
    have : s.size = 0 := by
      show s.data.size = 0
      rw [← Array.length_toList, c]
      rfl
    omega
  have hnb : s.toList.isEmpty = false := by
    cases c : s.toList with
    | nil => exact absurd c hel
    | cons _ _ => rfl
  have hsI : (s.size : Int) = 1 + 3 * (l.length : Int) := by omega
  clear hsz
  go_enter Try.func12, Try.ntmps12
  go_wp2_with fail
  have hcr : ((w.alloc (Obj.cells #[.slice none 0 0] 24)).alloc (Obj.cells #[.slice none 0 0] 24)).cell? ⟨w.heap.size, 0, none⟩ = some (.slice none 0 0) := (laid2 _ _ rfl _ _ _).1
  have hfr : ((w.alloc (Obj.cells #[.slice none 0 0] 24)).alloc (Obj.cells #[.slice none 0 0] 24)).frozen? ⟨w.heap.size, 0, none⟩ = false := (laid2 _ _ rfl _ _ _).2
  obtain ⟨w1, e1, hw1, hw2⟩ : ∃ w1, w.alloc (Obj.cells #[.slice none 0 0] 24) = w1 ∧ w1.heap.size = w.heap.size + 1 ∧ Below w.heap.size w w1 := ⟨_, rfl, by simp, (Below.refl _ _).alloc (Nat.le_refl _) _⟩
  have hr1 : w1.cell? ⟨w.heap.size, 0, none⟩ = some (.slice none 0 0) := by rw [← e1]; simp
  have hr2 : w1.frozen? ⟨w.heap.size, 0, none⟩ = false := by rw [← e1]; simp
  rw [e1] at hcr hfr ⊢
  obtain ⟨w2, e2, hs2, hc2, hb2⟩ := boxed w1 (.slice none 0 0) 24
  have hf2 : w2.frozen? ⟨w1.heap.size, 0, none⟩ = false := by rw [← e2]; simp
  rw [e2] at hcr hfr ⊢
  rw [hw1] at hc2 hf2
  have HW1 : Hid (w1.heap.size = w.heap.size + 1) := hw1
  clear e1 e2 hw1
  generalize hbt : w.heap.size + 1 = bt at *
  have HBT : Hid (w.heap.size + 1 = bt) := hbt
  clear hbt
  go_loopw [5] (fun t wr => ∃ (k i : Nat) (o : Option Addr) (c : Nat), k ≤ l.length ∧ i = 1 + 3 * k ∧ t = .int .i64 (i : Int) ∧ wr.cell? ⟨bt, 0, none⟩ = some (.slice o k c) ∧ wr.frozen? ⟨bt, 0, none⟩ = false ∧ wr.ownsRow (bt + 1) 41 3 (.slice o k c) k (cellsN (l.take k)) ∧ Below w1.heap.size w1 wr) (fun t _ => s.size - (intOf t).toNat)
  case atStart => exact ⟨0, 1, none, 0, Nat.zero_le _, rfl, rfl, hc2, hf2, World.ownsRow_nil _ _ _ _, hb2⟩
  case round =>
    obtain ⟨k, i, o, c, hk, hik, rfl, hc, hf, hown, hbl⟩ := hrel
    have HIK : Hid (i = 1 + 3 * k) := hik
    have hszw : bt < wr.heap.size := World.block_lt_of_cell? _ _ hc
    have hag : (Value.slice o k c).ownBlock ≠ some bt := fun e => by have := (hown.lt bt e).1; omega
    by_cases hlt : k < l.length
    · have hsn := HSZ.out
      have q0 : i < s.size := by omega
      have q1 : i + 1 < s.size := by omega
      have q2 : i + 2 < s.size := by omega
      obtain ⟨e0, e1, e2⟩ := node_bytes HMay.out hlt s HS.out i hik q0 q1 q2
      obtain ⟨a, d, hn, ha, hd⟩ := may_nums HMay.out hlt
      generalize hbn : (nd l k).null = b at *
      rw [hn] at e0 e1
      simp only at e0 e1
      have e1' : ((s[i + 1].toNat : Nat) : Int) = (d : Int) := by omega
      have HT : Hid (l.take (k + 1) = l.take k ++ [⟨(a : Int), (d : Int) - 1, b⟩]) := by unfold Hid; rw [take_snoc l k hlt, hn]
      clear e1 hn hbn hsn hik
      have HAG : Hid ((Value.slice o k c).ownBlock ≠ some bt) := hag
      have hi25 : i ≤ 25 := by have := HIK.out; omega
      have HWB : Hid (w1.heap.size ≤ bt) := by unfold Hid; rw [HW1.out]; exact Nat.le_refl _
      have i0 : (0 : Int) ≤ (i : Int) := Int.natCast_nonneg _
      have j1 : (0 : Int) ≤ (i : Int) + 1 := by omega
      have j2 : (0 : Int) ≤ (i : Int) + 2 := by omega
      have i1 : (i : Int) < (s.size : Int) := by omega
      have i2 : (i : Int) + 1 < (s.size : Int) := by omega
      have i3 : (i : Int) + 2 < (s.size : Int) := by omega
      have x0 : IntKind.i64.wrap (d : Int) = (d : Int) := by rw [IntKind.wrap_i64]; omega
      have xa : IntKind.i64.wrap (a : Int) = (a : Int) := by rw [IntKind.wrap_i64]; omega
      have y2 : ((i : Int) + 2).toNat = i + 2 := by omega
      have q2' : ((i : Int) + 2).toNat < s.size := by omega
      have e2' : (((s[((i : Int) + 2).toNat]'q2').toNat : Nat) : Int) = if b then 1 else 0 := by
        rw [← e2]
        simp only [y2]
      have x1 : IntKind.i64.wrap ((i : Int) + 1) = (i : Int) + 1 := by rw [IntKind.wrap_i64]; omega
      have x2 : IntKind.i64.wrap ((i : Int) + 2) = (i : Int) + 2 := by rw [IntKind.wrap_i64]; omega
      have x3 : IntKind.i64.wrap ((d : Int) - 1) = (d : Int) - 1 := by rw [IntKind.wrap_i64]; omega
      clear hcr hfr hc2 hf2 hb2 hs2 hw2 hel hnb hb0 hsI hag
      cases b
      · simp only [if_false, Bool.false_eq_true] at e2 e2'
        have ez : (((s[i + 2].toNat : Nat) : Int) == 1) = false := by rw [e2]; rfl
        have ez' : ((((s[((i : Int) + 2).toNat]'q2').toNat : Nat) : Int) == 1) = false := by rw [e2']; rfl
        clear y2 e2 e2'
        go_wp2_with fail
        refine wp_region_noPanic ?_
        refine wp_region_any (by kernel_rfl) ?_
        try (change wpAny _ _ _ _ _ _ _ (World.drew _))
        refine wpAny_take (i := 0) (v := ?_) rfl (by kernel_rfl) (by kernel_rfl) (by kernel_rfl) (fun _ _ _ h => h) (Or.inl ⟨by rfl, ?hy⟩) ?_
        case hy => (intro w; go_simp; try with_reducible rfl)
        refine wpAny_take (i := 2) (v := ?_) rfl (by kernel_rfl) (by kernel_rfl) (by kernel_rfl) (fun _ _ _ h => h) (Or.inl ⟨by rfl, ?hy⟩) ?_
        case hy => (intro w; go_simp; try with_reducible rfl)
        refine wpAny_take (i := 3) (v := ?_) rfl (by kernel_rfl) (by kernel_rfl) (by kernel_rfl) (fun _ _ _ h => h) (Or.inl ⟨by rfl, ?hy⟩) ?_
        case hy => (intro w; go_simp; try with_reducible rfl)
        refine wpAny_take (i := 4) (v := ?_) rfl (by kernel_rfl) (by kernel_rfl) (by kernel_rfl) (fun _ _ _ h => h) (Or.inl ⟨by rfl, ?hy⟩) ?_
        case hy => (intro w; go_simp; try with_reducible rfl)
        refine wpAny_take (i := 5) (v := ?_) rfl (by kernel_rfl) (by kernel_rfl) (by kernel_rfl) (fun _ _ _ h => h) (Or.inl ⟨by rfl, ?hy⟩) ?_
        case hy => (intro w; go_simp; try with_reducible rfl)
        refine wpAny_take (i := 6) (v := ?_) rfl (by kernel_rfl) (by kernel_rfl) (by kernel_rfl) (fun _ _ _ h => h) (Or.inl ⟨by rfl, ?hy⟩) ?_
        case hy => (intro w; go_simp; try with_reducible rfl)
        refine wpAny_take (i := 7) (v := ?_) rfl (by kernel_rfl) (by kernel_rfl) (by kernel_rfl) (fun _ _ _ h => h) (Or.inl ⟨by rfl, ?hy⟩) ?_
        case hy => (intro w; go_simp; try with_reducible rfl)
        refine wpAny_take (i := 8) (v := ?_) rfl (by kernel_rfl) (by kernel_rfl) (by kernel_rfl) (fun _ _ _ h => h) (Or.inl ⟨by rfl, ?hy⟩) ?_
        case hy => (intro w; go_simp; try with_reducible rfl)
        refine wpAny_take (i := 9) (v := ?_) rfl (by kernel_rfl) (by kernel_rfl) (by kernel_rfl) (fun _ _ _ h => h) (Or.inl ⟨by rfl, ?hy⟩) ?_
        case hy => (intro w; go_simp; try with_reducible rfl)
        refine wpAny_take (i := 10) (v := ?_) rfl (by kernel_rfl) (by kernel_rfl) (by kernel_rfl) (fun _ _ _ h => h) (Or.inl ⟨by rfl, ?hy⟩) ?_
        case hy => (intro w; go_simp; try with_reducible rfl)
        refine wpAny_take (i := 11) (v := ?_) rfl (by kernel_rfl) (by kernel_rfl) (by kernel_rfl) (fun _ _ _ h => h) (Or.inl ⟨by rfl, ?hy⟩) ?_
        case hy => (intro w; go_simp; try with_reducible rfl)
        refine wpAny_take (i := 12) (v := ?_) rfl (by kernel_rfl) (by kernel_rfl) (by kernel_rfl) (fun _ _ _ h => h) (Or.inl ⟨by rfl, ?hy⟩) ?_
        case hy => (intro w; go_simp; try with_reducible rfl)
        refine wpAny_take (i := 13) (v := ?_) rfl (by kernel_rfl) (by kernel_rfl) (by kernel_rfl) (fun _ _ _ h => h) (Or.inl ⟨by rfl, ?hy⟩) ?_
        case hy => (intro w; go_simp; try with_reducible rfl)
        refine wpAny_take (i := 14) (v := ?_) rfl (by kernel_rfl) (by kernel_rfl) (by kernel_rfl) (fun _ _ _ h => h) (Or.inl ⟨by rfl, ?hy⟩) ?_
        case hy => (intro w; go_simp; try with_reducible rfl)
        refine wpAny_take (i := 15) (v := ?_) rfl (by kernel_rfl) (by kernel_rfl) (by kernel_rfl) (fun _ _ _ h => h) (Or.inl ⟨by rfl, ?hy⟩) ?_
        case hy => (intro w; go_simp; try with_reducible rfl)
        refine wpAny_take (i := 16) (v := ?_) rfl (by kernel_rfl) (by kernel_rfl) (by kernel_rfl) (fun _ _ _ h => h) (Or.inl ⟨by rfl, ?hy⟩) ?_
        case hy => (intro w; go_simp; try with_reducible rfl)
        refine wpAny_take (i := 17) (v := ?_) rfl (by kernel_rfl) (by kernel_rfl) (by kernel_rfl) (fun _ _ _ h => h) (Or.inl ⟨by rfl, ?hy⟩) ?_
        case hy => (intro w; go_simp; try with_reducible rfl)
        refine wpAny_ready (rs := [1, 18]) (by kernel_rfl) (by simp) ?_
        refine AllReady.cons rfl (fun K hK => ?_) (AllReady.cons rfl (fun K hK => ?_) AllReady.nil)
        · go_simp
          refine hK _ _ ?_
          clear hK K
          refine wpAny_ready (rs := [18]) (by kernel_rfl) (by simp) ?_
          refine AllReady.cons rfl (fun K hK => ?_) AllReady.nil
          go_simp
          refine hK _ _ ?_
          clear hK K
          refine wpAny_ready (rs := [19]) (by kernel_rfl) (by simp) ?_
          refine AllReady.cons rfl (fun K hK => ?_) AllReady.nil
          refine step_append_lies _ (by rfl) _ _ _ (by rfl) (bt + 1) 41 i46 _ 3 24 Try.underlying22 hi hz0 hz1 hz2 rfl (by omega) (.slice o k c) k (cellsN (l.take k)) (by rfl) ((hown.alloc _).drew) ⟨wr.heap.size, 0, none⟩ 1 1 [.int .i64 (a : Int), .int .i64 ((d : Int) - 1), .bool false] (by rfl) (by rfl) (World.news_of_block (cs := #[.int .i64 (a : Int), .int .i64 ((d : Int) - 1), .bool false]) (t := 41) (fr := (0, 0)) (heap_alloc_new wr _)) (by simp [Value.oneCell']) (by omega) (by unfold maxLen; omega) (by omega) (by simp; omega) (wr.heap.size + 1) (by simp) ?_
          intro g cp w4 hown4 hgrow _ _
          have hc4 : w4.cell? ⟨bt, 0, none⟩ = some (.slice o k c) := (hgrow.cell_far ⟨bt, 0, none⟩ (by simp; omega) (Ne.symm HAG.out)).trans ((((Below.refl wr.heap.size wr).alloc (Nat.le_refl _) _).drew.cell (p := ⟨bt, 0, none⟩) hszw).trans hc)
          have hf4 : w4.frozen? ⟨bt, 0, none⟩ = false := (hgrow.frozen_far ⟨bt, 0, none⟩ (by simp; omega) (Ne.symm HAG.out)).trans ((((Below.refl wr.heap.size wr).alloc (Nat.le_refl _) _).drew.frozen (p := ⟨bt, 0, none⟩) hszw).trans hf)
          have hB4 : Below w1.heap.size w1 w4 := (hbl.alloc hbl.size _).drew.grown hgrow (by have := hbl.size; simp; omega) (fun j hj => by have := (hown.lt j hj).1; have := HWB.out; omega)
          have hown5 : w4.ownsRow (bt + 1) 41 3 (.slice (some ⟨g, 0, none⟩) (k + 1) cp) (k + 1) (cellsN (l.take (k + 1))) := by
            rw [HT.out, cellsN_snoc]
            exact hown4
          refine hK _ _ ?_
          clear hK K hown4 hgrow
          refine wpAny_take (i := 20) (v := ?_) rfl (by kernel_rfl) (by kernel_rfl) (by kernel_rfl) (fun _ _ _ h => h) (Or.inl ⟨by rfl, ?hy⟩) ?_
          case hy => (intro w; go_simp; try with_reducible rfl)
          refine wpAny_ready (rs := [21]) (by kernel_rfl) (by simp) ?_
          refine AllReady.cons rfl (fun K hK => ?_) AllReady.nil
          go_simp
          refine hK _ _ ?_
          clear hK K
          refine wpAny_done (by kernel_rfl) ?_ _
          refine NoPanic.normal ?_
          go_wp2
          go_roundw
          case rel => exact ⟨k + 1, i + 3, some ⟨g, 0, none⟩, cp, by omega, by have := HIK.out; omega, by go_num, World.cell?_setCell_same _ _ _ hc4, by rw [World.frozen?_setCell]; exact hf4, ownsRow_setCell_below hown5 (Nat.lt_succ_self _) _, hB4.setCell HWB.out _⟩
          case measure => simp [intOf]; omega
        · go_simp
          refine hK _ _ ?_
          clear hK K
          refine wpAny_ready (rs := [1]) (by kernel_rfl) (by simp) ?_
          refine AllReady.cons rfl (fun K hK => ?_) AllReady.nil
          go_simp
          refine hK _ _ ?_
          clear hK K
          refine wpAny_ready (rs := [19]) (by kernel_rfl) (by simp) ?_
          refine AllReady.cons rfl (fun K hK => ?_) AllReady.nil
          refine step_append_lies _ (by rfl) _ _ _ (by rfl) (bt + 1) 41 i46 _ 3 24 Try.underlying22 hi hz0 hz1 hz2 rfl (by omega) (.slice o k c) k (cellsN (l.take k)) (by rfl) ((hown.alloc _).drew) ⟨wr.heap.size, 0, none⟩ 1 1 [.int .i64 (a : Int), .int .i64 ((d : Int) - 1), .bool false] (by rfl) (by rfl) (World.news_of_block (cs := #[.int .i64 (a : Int), .int .i64 ((d : Int) - 1), .bool false]) (t := 41) (fr := (0, 0)) (heap_alloc_new wr _)) (by simp [Value.oneCell']) (by omega) (by unfold maxLen; omega) (by omega) (by simp; omega) (wr.heap.size + 1) (by simp) ?_
          intro g cp w4 hown4 hgrow _ _
          have hc4 : w4.cell? ⟨bt, 0, none⟩ = some (.slice o k c) := (hgrow.cell_far ⟨bt, 0, none⟩ (by simp; omega) (Ne.symm HAG.out)).trans ((((Below.refl wr.heap.size wr).alloc (Nat.le_refl _) _).drew.cell (p := ⟨bt, 0, none⟩) hszw).trans hc)
          have hf4 : w4.frozen? ⟨bt, 0, none⟩ = false := (hgrow.frozen_far ⟨bt, 0, none⟩ (by simp; omega) (Ne.symm HAG.out)).trans ((((Below.refl wr.heap.size wr).alloc (Nat.le_refl _) _).drew.frozen (p := ⟨bt, 0, none⟩) hszw).trans hf)
          have hB4 : Below w1.heap.size w1 w4 := (hbl.alloc hbl.size _).drew.grown hgrow (by have := hbl.size; simp; omega) (fun j hj => by have := (hown.lt j hj).1; have := HWB.out; omega)
          have hown5 : w4.ownsRow (bt + 1) 41 3 (.slice (some ⟨g, 0, none⟩) (k + 1) cp) (k + 1) (cellsN (l.take (k + 1))) := by
            rw [HT.out, cellsN_snoc]
            exact hown4
          refine hK _ _ ?_
          clear hK K hown4 hgrow
          refine wpAny_take (i := 20) (v := ?_) rfl (by kernel_rfl) (by kernel_rfl) (by kernel_rfl) (fun _ _ _ h => h) (Or.inl ⟨by rfl, ?hy⟩) ?_
          case hy => (intro w; go_simp; try with_reducible rfl)
          refine wpAny_ready (rs := [21]) (by kernel_rfl) (by simp) ?_
          refine AllReady.cons rfl (fun K hK => ?_) AllReady.nil
          go_simp
          refine hK _ _ ?_
          clear hK K
          refine wpAny_done (by kernel_rfl) ?_ _
          refine NoPanic.normal ?_
          go_wp2
          go_roundw
          case rel => exact ⟨k + 1, i + 3, some ⟨g, 0, none⟩, cp, by omega, by have := HIK.out; omega, by go_num, World.cell?_setCell_same _ _ _ hc4, by rw [World.frozen?_setCell]; exact hf4, ownsRow_setCell_below hown5 (Nat.lt_succ_self _) _, hB4.setCell HWB.out _⟩
          case measure => simp [intOf]; omega
      · simp only [if_true] at e2 e2'
        have ez : (((s[i + 2].toNat : Nat) : Int) == 1) = true := by rw [e2]; rfl
        have ez' : ((((s[((i : Int) + 2).toNat]'q2').toNat : Nat) : Int) == 1) = true := by rw [e2']; rfl
        clear y2 e2 e2'
        go_wp2_with fail
        refine wp_region_noPanic ?_
        refine wp_region_any (by kernel_rfl) ?_
        try (change wpAny _ _ _ _ _ _ _ (World.drew _))
        refine wpAny_take (i := 0) (v := ?_) rfl (by kernel_rfl) (by kernel_rfl) (by kernel_rfl) (fun _ _ _ h => h) (Or.inl ⟨by rfl, ?hy⟩) ?_
        case hy => (intro w; go_simp; try with_reducible rfl)
        refine wpAny_take (i := 2) (v := ?_) rfl (by kernel_rfl) (by kernel_rfl) (by kernel_rfl) (fun _ _ _ h => h) (Or.inl ⟨by rfl, ?hy⟩) ?_
        case hy => (intro w; go_simp; try with_reducible rfl)
        refine wpAny_take (i := 3) (v := ?_) rfl (by kernel_rfl) (by kernel_rfl) (by kernel_rfl) (fun _ _ _ h => h) (Or.inl ⟨by rfl, ?hy⟩) ?_
        case hy => (intro w; go_simp; try with_reducible rfl)
        refine wpAny_take (i := 4) (v := ?_) rfl (by kernel_rfl) (by kernel_rfl) (by kernel_rfl) (fun _ _ _ h => h) (Or.inl ⟨by rfl, ?hy⟩) ?_
        case hy => (intro w; go_simp; try with_reducible rfl)
        refine wpAny_take (i := 5) (v := ?_) rfl (by kernel_rfl) (by kernel_rfl) (by kernel_rfl) (fun _ _ _ h => h) (Or.inl ⟨by rfl, ?hy⟩) ?_
        case hy => (intro w; go_simp; try with_reducible rfl)
        refine wpAny_take (i := 6) (v := ?_) rfl (by kernel_rfl) (by kernel_rfl) (by kernel_rfl) (fun _ _ _ h => h) (Or.inl ⟨by rfl, ?hy⟩) ?_
        case hy => (intro w; go_simp; try with_reducible rfl)
        refine wpAny_take (i := 7) (v := ?_) rfl (by kernel_rfl) (by kernel_rfl) (by kernel_rfl) (fun _ _ _ h => h) (Or.inl ⟨by rfl, ?hy⟩) ?_
        case hy => (intro w; go_simp; try with_reducible rfl)
        refine wpAny_take (i := 8) (v := ?_) rfl (by kernel_rfl) (by kernel_rfl) (by kernel_rfl) (fun _ _ _ h => h) (Or.inl ⟨by rfl, ?hy⟩) ?_
        case hy => (intro w; go_simp; try with_reducible rfl)
        refine wpAny_take (i := 9) (v := ?_) rfl (by kernel_rfl) (by kernel_rfl) (by kernel_rfl) (fun _ _ _ h => h) (Or.inl ⟨by rfl, ?hy⟩) ?_
        case hy => (intro w; go_simp; try with_reducible rfl)
        refine wpAny_take (i := 10) (v := ?_) rfl (by kernel_rfl) (by kernel_rfl) (by kernel_rfl) (fun _ _ _ h => h) (Or.inl ⟨by rfl, ?hy⟩) ?_
        case hy => (intro w; go_simp; try with_reducible rfl)
        refine wpAny_take (i := 11) (v := ?_) rfl (by kernel_rfl) (by kernel_rfl) (by kernel_rfl) (fun _ _ _ h => h) (Or.inl ⟨by rfl, ?hy⟩) ?_
        case hy => (intro w; go_simp; try with_reducible rfl)
        refine wpAny_take (i := 12) (v := ?_) rfl (by kernel_rfl) (by kernel_rfl) (by kernel_rfl) (fun _ _ _ h => h) (Or.inl ⟨by rfl, ?hy⟩) ?_
        case hy => (intro w; go_simp; try with_reducible rfl)
        refine wpAny_take (i := 13) (v := ?_) rfl (by kernel_rfl) (by kernel_rfl) (by kernel_rfl) (fun _ _ _ h => h) (Or.inl ⟨by rfl, ?hy⟩) ?_
        case hy => (intro w; go_simp; try with_reducible rfl)
        refine wpAny_take (i := 14) (v := ?_) rfl (by kernel_rfl) (by kernel_rfl) (by kernel_rfl) (fun _ _ _ h => h) (Or.inl ⟨by rfl, ?hy⟩) ?_
        case hy => (intro w; go_simp; try with_reducible rfl)
        refine wpAny_take (i := 15) (v := ?_) rfl (by kernel_rfl) (by kernel_rfl) (by kernel_rfl) (fun _ _ _ h => h) (Or.inl ⟨by rfl, ?hy⟩) ?_
        case hy => (intro w; go_simp; try with_reducible rfl)
        refine wpAny_take (i := 16) (v := ?_) rfl (by kernel_rfl) (by kernel_rfl) (by kernel_rfl) (fun _ _ _ h => h) (Or.inl ⟨by rfl, ?hy⟩) ?_
        case hy => (intro w; go_simp; try with_reducible rfl)
        refine wpAny_take (i := 17) (v := ?_) rfl (by kernel_rfl) (by kernel_rfl) (by kernel_rfl) (fun _ _ _ h => h) (Or.inl ⟨by rfl, ?hy⟩) ?_
        case hy => (intro w; go_simp; try with_reducible rfl)
        refine wpAny_ready (rs := [1, 18]) (by kernel_rfl) (by simp) ?_
        refine AllReady.cons rfl (fun K hK => ?_) (AllReady.cons rfl (fun K hK => ?_) AllReady.nil)
        · go_simp
          refine hK _ _ ?_
          clear hK K
          refine wpAny_ready (rs := [18]) (by kernel_rfl) (by simp) ?_
          refine AllReady.cons rfl (fun K hK => ?_) AllReady.nil
          go_simp
          refine hK _ _ ?_
          clear hK K
          refine wpAny_ready (rs := [19]) (by kernel_rfl) (by simp) ?_
          refine AllReady.cons rfl (fun K hK => ?_) AllReady.nil
          refine step_append_lies _ (by rfl) _ _ _ (by rfl) (bt + 1) 41 i46 _ 3 24 Try.underlying22 hi hz0 hz1 hz2 rfl (by omega) (.slice o k c) k (cellsN (l.take k)) (by rfl) ((hown.alloc _).drew) ⟨wr.heap.size, 0, none⟩ 1 1 [.int .i64 (a : Int), .int .i64 ((d : Int) - 1), .bool true] (by rfl) (by rfl) (World.news_of_block (cs := #[.int .i64 (a : Int), .int .i64 ((d : Int) - 1), .bool true]) (t := 41) (fr := (0, 0)) (heap_alloc_new wr _)) (by simp [Value.oneCell']) (by omega) (by unfold maxLen; omega) (by omega) (by simp; omega) (wr.heap.size + 1) (by simp) ?_
          intro g cp w4 hown4 hgrow _ _
          have hc4 : w4.cell? ⟨bt, 0, none⟩ = some (.slice o k c) := (hgrow.cell_far ⟨bt, 0, none⟩ (by simp; omega) (Ne.symm HAG.out)).trans ((((Below.refl wr.heap.size wr).alloc (Nat.le_refl _) _).drew.cell (p := ⟨bt, 0, none⟩) hszw).trans hc)
          have hf4 : w4.frozen? ⟨bt, 0, none⟩ = false := (hgrow.frozen_far ⟨bt, 0, none⟩ (by simp; omega) (Ne.symm HAG.out)).trans ((((Below.refl wr.heap.size wr).alloc (Nat.le_refl _) _).drew.frozen (p := ⟨bt, 0, none⟩) hszw).trans hf)
          have hB4 : Below w1.heap.size w1 w4 := (hbl.alloc hbl.size _).drew.grown hgrow (by have := hbl.size; simp; omega) (fun j hj => by have := (hown.lt j hj).1; have := HWB.out; omega)
          have hown5 : w4.ownsRow (bt + 1) 41 3 (.slice (some ⟨g, 0, none⟩) (k + 1) cp) (k + 1) (cellsN (l.take (k + 1))) := by
            rw [HT.out, cellsN_snoc]
            exact hown4
          refine hK _ _ ?_
          clear hK K hown4 hgrow
          refine wpAny_take (i := 20) (v := ?_) rfl (by kernel_rfl) (by kernel_rfl) (by kernel_rfl) (fun _ _ _ h => h) (Or.inl ⟨by rfl, ?hy⟩) ?_
          case hy => (intro w; go_simp; try with_reducible rfl)
          refine wpAny_ready (rs := [21]) (by kernel_rfl) (by simp) ?_
          refine AllReady.cons rfl (fun K hK => ?_) AllReady.nil
          go_simp
          refine hK _ _ ?_
          clear hK K
          refine wpAny_done (by kernel_rfl) ?_ _
          refine NoPanic.normal ?_
          go_wp2
          go_roundw
          case rel => exact ⟨k + 1, i + 3, some ⟨g, 0, none⟩, cp, by omega, by have := HIK.out; omega, by go_num, World.cell?_setCell_same _ _ _ hc4, by rw [World.frozen?_setCell]; exact hf4, ownsRow_setCell_below hown5 (Nat.lt_succ_self _) _, hB4.setCell HWB.out _⟩
          case measure => simp [intOf]; omega
        · go_simp
          refine hK _ _ ?_
          clear hK K
          refine wpAny_ready (rs := [1]) (by kernel_rfl) (by simp) ?_
          refine AllReady.cons rfl (fun K hK => ?_) AllReady.nil
          go_simp
          refine hK _ _ ?_
          clear hK K
          refine wpAny_ready (rs := [19]) (by kernel_rfl) (by simp) ?_
          refine AllReady.cons rfl (fun K hK => ?_) AllReady.nil
          refine step_append_lies _ (by rfl) _ _ _ (by rfl) (bt + 1) 41 i46 _ 3 24 Try.underlying22 hi hz0 hz1 hz2 rfl (by omega) (.slice o k c) k (cellsN (l.take k)) (by rfl) ((hown.alloc _).drew) ⟨wr.heap.size, 0, none⟩ 1 1 [.int .i64 (a : Int), .int .i64 ((d : Int) - 1), .bool true] (by rfl) (by rfl) (World.news_of_block (cs := #[.int .i64 (a : Int), .int .i64 ((d : Int) - 1), .bool true]) (t := 41) (fr := (0, 0)) (heap_alloc_new wr _)) (by simp [Value.oneCell']) (by omega) (by unfold maxLen; omega) (by omega) (by simp; omega) (wr.heap.size + 1) (by simp) ?_
          intro g cp w4 hown4 hgrow _ _
          have hc4 : w4.cell? ⟨bt, 0, none⟩ = some (.slice o k c) := (hgrow.cell_far ⟨bt, 0, none⟩ (by simp; omega) (Ne.symm HAG.out)).trans ((((Below.refl wr.heap.size wr).alloc (Nat.le_refl _) _).drew.cell (p := ⟨bt, 0, none⟩) hszw).trans hc)
          have hf4 : w4.frozen? ⟨bt, 0, none⟩ = false := (hgrow.frozen_far ⟨bt, 0, none⟩ (by simp; omega) (Ne.symm HAG.out)).trans ((((Below.refl wr.heap.size wr).alloc (Nat.le_refl _) _).drew.frozen (p := ⟨bt, 0, none⟩) hszw).trans hf)
          have hB4 : Below w1.heap.size w1 w4 := (hbl.alloc hbl.size _).drew.grown hgrow (by have := hbl.size; simp; omega) (fun j hj => by have := (hown.lt j hj).1; have := HWB.out; omega)
          have hown5 : w4.ownsRow (bt + 1) 41 3 (.slice (some ⟨g, 0, none⟩) (k + 1) cp) (k + 1) (cellsN (l.take (k + 1))) := by
            rw [HT.out, cellsN_snoc]
            exact hown4
          refine hK _ _ ?_
          clear hK K hown4 hgrow
          refine wpAny_take (i := 20) (v := ?_) rfl (by kernel_rfl) (by kernel_rfl) (by kernel_rfl) (fun _ _ _ h => h) (Or.inl ⟨by rfl, ?hy⟩) ?_
          case hy => (intro w; go_simp; try with_reducible rfl)
          refine wpAny_ready (rs := [21]) (by kernel_rfl) (by simp) ?_
          refine AllReady.cons rfl (fun K hK => ?_) AllReady.nil
          go_simp
          refine hK _ _ ?_
          clear hK K
          refine wpAny_done (by kernel_rfl) ?_ _
          refine NoPanic.normal ?_
          go_wp2
          go_roundw
          case rel => exact ⟨k + 1, i + 3, some ⟨g, 0, none⟩, cp, by omega, by have := HIK.out; omega, by go_num, World.cell?_setCell_same _ _ _ hc4, by rw [World.frozen?_setCell]; exact hf4, ownsRow_setCell_below hown5 (Nat.lt_succ_self _) _, hB4.setCell HWB.out _⟩
          case measure => simp [intOf]; omega
    · obtain rfl : k = l.length := by omega
      have hsn := HSZ.out
      obtain rfl : i = s.size := by omega
      rw [List.take_length] at hown
      have hT := own_lies hown
      obtain ⟨x, rfl, hlx⟩ := hT.some h1
      have HL : Hid (Lies wr x l) := hlx
      have HXB : Hid (x.block ≠ w.heap.size) := by
        have h3 := (hown.lt x.block rfl).1
        have h4 := HBT.out
        unfold Hid
        omega
      have hres : wr.cell? ⟨w.heap.size, 0, none⟩ = some (.slice none 0 0) := (hbl.cell (p := ⟨w.heap.size, 0, none⟩) (by rw [HW1.out]; have := HBT.out; show w.heap.size < bt; omega)).trans hr1
      have hrfz : wr.frozen? ⟨w.heap.size, 0, none⟩ = false := (hbl.frozen (p := ⟨w.heap.size, 0, none⟩) (by rw [HW1.out]; have := HBT.out; show w.heap.size < bt; omega)).trans hr2
      have hBW : Below w.heap.size w wr := hw2.trans (hbl.mono hw2.size)
      clear hown hlx hT hbl hcr hfr hc2 hf2 hb2 hs2 hel hnb hb0 hsI hag hik HIK hsn hf
      go_wp2_with fail
      refine (putY x c l wr HL.out HM.out).mono ?_
      rintro e w5 ⟨rfl, hb5⟩
      rw [← HS.out]
      have hc5 := cell_later hb5 hc
      have hr5 := cell_later hb5 hres
      have hz5 : w5.frozen? ⟨w.heap.size, 0, none⟩ = false := (hb5.frozen (p := ⟨w.heap.size, 0, none⟩) (World.block_lt_of_cell? _ _ hres)).trans hrfz
      have HL5 : Hid (Lies w5 x l) := HL.out.later hb5
      have hB5 := bel hBW hb5
      clear hb5 hBW hres hrfz hc HL
      go_wp2
      have hcs := World.cell?_setCell_same w5 ⟨w.heap.size, 0, none⟩ (.slice (some x) l.length c) hr5
      refine bodyPost_ret (v := .tuple #[.agg #[.slice (some x) l.length c], .int .i64 0]) (by simp [results, Try.results12, go_sem, hcs]) rfl ⟨some x, c, rfl, ?_, hB5.setCell (Nat.le_refl _) _⟩
      exact ⟨by unfold maxLen; omega, .inr ⟨x, rfl, HL5.out.aside HXB.out _⟩⟩
end Go.Proofs.Ytnnbeicfbcgcbaa.Tree
