/-
  Texts lent, kept, written over: contracts.
-/
import Derived.Test.YtejgjipmnmfkcaaGreatDoorOpenTexts
import Derived.Test.YtejgjipmnmfkcaaGreatDoorMem
import Derived.Test.YtejgjipmnmfkcaaGreatDoorMake
import Derived.Test.YtejgjipmnmfkcaaGreatDoorPartsC
import Derived.Test.YtejgjipmnmfkcaaGreatDoorRefParts
import Derived.Laws.OwnMore
import Derived.Laws.AppendOwnNone
namespace Go.Proofs.YtejgjipmnmfkcaaGreatDoor.Val
open Go.ChangeShapes Go.WideShapes Go.ChangeAt Go.RowKit
open Tree (own_slice own_mono)
open Texts

/-- A list of texts that came in: nil, or its texts lie somewhere. -/
def CoT (w : World) (a : Option Addr) (cap : Nat) (ss : List ByteArray) : Prop := a = none ∧ ss = [] ∧ cap = 0 ∨ ∃ x, a = some x ∧ LiesT w x ss
theorem CoT.later {w w' : World} {a : Option Addr} {cap : Nat} {ss : List ByteArray} (h : CoT w a cap ss) (hb : Below w.heap.size w w') : CoT w' a cap ss :=
  h.imp id fun ⟨x, e, hl⟩ => ⟨x, e, fun i hi => Tree.cell_later hb (hl i hi)⟩
theorem coT_of {w : World} {a : Option Addr} {len cap : Nat} {z : List ByteArray} (h : IsTexts w a len cap z) : CoT w a cap (z.take len) := by
  rcases h with ⟨rfl, rfl, rfl, rfl⟩ | ⟨x, rfl, h1, h2, h3, h4, h5⟩
  · exact .inl ⟨rfl, rfl, rfl⟩
  · have hl : (z.take len).length = len := by rw [List.length_take, h3, Nat.min_eq_left h1]
    refine .inr ⟨x, rfl, fun i hi => ?_⟩
    rw [hl] at hi
    rw [getD_takeT z len i hi]
    exact h4 i (by omega)
theorem cellsT_one (ss : List ByteArray) : ∀ u ∈ cellsT ss, u.oneCell' = true := by
  intro u hu
  obtain ⟨s, _, rfl⟩ := List.mem_map.1 hu
  rfl
theorem liesT_cells {w : World} {x : Addr} {ss : List ByteArray} (h : LiesT w x ss) : ∀ j u, (cellsT ss)[j]? = some u → w.cell? (x.add j) = some u := by
  intro j u hj
  have hjl : j < ss.length := by
    have := (List.getElem?_eq_some_iff.1 hj).1
    simpa [cellsT] using this
  rw [cellsT_at ss j hjl] at hj
  rw [h j hjl]
  exact hj
theorem length_cellsT (ss : List ByteArray) : (cellsT ss).length = ss.length * 1 := by simp [cellsT]
theorem own_none (w : World) : (w.alloc (.cells #[] 9)).ownsRow w.heap.size 9 1 (.slice (some ⟨w.heap.size, 0, none⟩) 0 0) 0 (cellsT []) := by
  have := World.ownsRow_lit (base := w.heap.size) (e := 9) (size := 1) w #[] 0 (Nat.le_refl _) (Nat.zero_le _) rfl
  simpa [cellsT] using this
set_option maxRecDepth 20000 in
set_option maxHeartbeats 800000 in
theorem copyTexts (a : Option Addr) (cap : Nat) (ss : List ByteArray) (hn : ss.length ≤ 1048576) (w : World) (h : Hid (CoT w a cap ss)) :
    Calls Tryz.prog 27 #[.slice a ss.length cap] w fun r w' => ∃ o c, r = .returned (.slice o ss.length c) ∧ w'.ownsRow w.heap.size 9 1 (.slice o ss.length c) ss.length (cellsT ss) ∧ Below w.heap.size w w' := by
  obtain ⟨i9, hi, hz0, hz1, hz2⟩ := info_parts info9
  rcases h.out with ⟨rfl, rfl, rfl⟩ | ⟨x, rfl, hx⟩
  · clear h
    go_enter Tryz.func27, Tryz.ntmps27
    go_wp2_with (at_builtin; refine wpList_append_own_none rfl (.tmp 3) (.tmp 4) 22 rfl w.heap.size 9 i9 1 Tryz.underlying22 hi _ 0 _ rfl (own_none w) rfl ?_)
    go_wp2
    go_ret
    exact ⟨_, _, rfl, own_none w, (Below.refl _ _).alloc (Nat.le_refl _) _⟩
  · have HX : Hid (LiesT (w.alloc (.cells #[] 9)) x ss) := fun i hi => Tree.cell_later ((Below.refl _ _).alloc (Nat.le_refl _) _) (hx i hi)
    clear h hx
    go_enter Tryz.func27, Tryz.ntmps27
    go_wp2_with (at_builtin; refine wpList_append_own _ rfl (.tmp 3) (.tmp 4) 22 rfl w.heap.size 9 i9 (.string ⟨#[]⟩) 1 16 Tryz.underlying22 hi hz0 hz1 hz2 rfl (by decide) _ 0 _ rfl (own_none w) x ss.length cap (cellsT ss) rfl (length_cellsT ss) (liesT_cells HX.out) (cellsT_one ss) ?c3 ?c4 ?c5 ?_)
    case c3 => unfold maxLen; omega
    case c4 => omega
    case c5 => simp
    intro v' w3 hown' hgrow _
    have hown3 : w3.ownsRow w.heap.size 9 1 v' ss.length (cellsT ss) := hown'
    have hb3 : Below w.heap.size w w3 := ((Below.refl _ _).alloc (Nat.le_refl _) _).grown hgrow (by simp) (fun j hj => ((own_none w).lt j hj).1)
    obtain ⟨o3, c3, rfl⟩ := own_slice hown3
    have H3 : Hid (w3.ownsRow w.heap.size 9 1 (.slice o3 ss.length c3) ss.length (cellsT ss) ∧ Below w.heap.size w w3) := ⟨hown3, hb3⟩
    clear hown' hown3 hb3 hgrow HX
    go_wp2
    go_ret
    exact ⟨o3, c3, rfl, H3.out⟩
def roomT : ByteArray := ⟨#[126, 114, 111, 111, 109]⟩
def behindT : ByteArray := ⟨#[126, 98, 101, 104, 105, 110, 100]⟩
theorem own_at {w : World} {b n : Nat} {v : Value} {xs : List Value} (h : w.ownsRow b 9 1 v n xs) (h0 : 0 < n) : ∃ g c, v = .slice (some ⟨g, 0, none⟩) n c ∧ n ≤ c := by
  rcases h.2 with ⟨_, hn⟩ | ⟨g, cap, cur, rfl, _, _, hle, _⟩
  · omega
  · exact ⟨g, cap, rfl, hle⟩
set_option maxRecDepth 20000 in
set_option maxHeartbeats 800000 in
theorem lendTexts (a : Option Addr) (cap : Nat) (ss : List ByteArray) (hn : ss.length ≤ 1048576) (w : World) (h : Hid (CoT w a cap ss)) :
    Calls Tryz.prog 4 #[.slice a ss.length cap] w fun r w' => ∃ g c, r = .returned (.slice (some ⟨g, 0, none⟩) ss.length c) ∧ ss.length + 2 ≤ c ∧ w'.ownsRow w.heap.size 9 1 (.slice (some ⟨g, 0, none⟩) (ss.length + 2) c) (ss.length + 2) (cellsT ss ++ [.string roomT, .string behindT]) ∧ Below w.heap.size w w' := by
  obtain ⟨i9, hi, hz0, hz1, hz2⟩ := info_parts info9
  go_enter Tryz.func4, Tryz.ntmps4
  go_wp2_with fail
  refine (copyTexts a cap ss hn w h).mono ?_
  rintro e w1 ⟨o, c, rfl, hown, b1⟩
  clear h
  go_wp2_with (at_builtin; refine wpList_append_own _ rfl (.tmp 5) (.tmp 6) 22 rfl w.heap.size 9 i9 (.string ⟨#[]⟩) 1 16 Tryz.underlying22 hi hz0 hz1 hz2 rfl (by decide) _ ss.length _ rfl (hown.alloc _) ⟨w1.heap.size, 0, none⟩ 2 2 [.string roomT, .string behindT] rfl rfl ?c1 ?c2 ?c3 ?c4 ?c5 ?_)
  case c1 =>
    intro j u hj
    match j, hj with
    | 0, hj => simp at hj; subst hj; simp [Addr.add]; rfl
    | 1, hj => simp at hj; subst hj; simp [Addr.add]; rfl
  case c2 => intro u hu; simp at hu; rcases hu with rfl | rfl <;> rfl
  case c3 => unfold maxLen; omega
  case c4 => omega
  case c5 => have := b1.size; simp; omega
  intro v' w3 hown' hgrow _
  have hb3 : Below w.heap.size w w3 := (b1.alloc b1.size _).grown hgrow (by have := b1.size; simp; omega) (fun j hj => (hown.lt j hj).1)
  obtain ⟨g, c3, rfl, hc3⟩ := own_at hown' (by omega)
  have H3 : Hid (w3.ownsRow w.heap.size 9 1 (.slice (some ⟨g, 0, none⟩) (ss.length + 2) c3) (ss.length + 2) (cellsT ss ++ [.string roomT, .string behindT]) ∧ Below w.heap.size w w3) := ⟨hown', hb3⟩
  clear hown' hgrow hb3 hown b1
  have i0 : (0 : Int) ≤ ((ss.length : Nat) : Int) := by omega
  have i1 : ((ss.length : Nat) : Int) ≤ ((c3 : Nat) : Int) := by omega
  go_wp2
  go_ret
  exact ⟨g, c3, rfl, hc3, H3.out⟩
/-- Texts that were lent, with the marked room behind them. -/
structure Lent (w : World) (g c : Nat) (ss : List ByteArray) : Prop where
  cap : ss.length + 2 ≤ c
  max : ss.length ≤ 1048576
  at' : ∀ i, i < ss.length → w.cell? ⟨g, i, none⟩ = some (.string (ss.getD i ByteArray.empty))
  room : w.cell? ⟨g, ss.length, none⟩ = some (.string roomT)
  behind : w.cell? ⟨g, ss.length + 1, none⟩ = some (.string behindT)
theorem Lent.later {w w' : World} {g c : Nat} {ss : List ByteArray} (h : Lent w g c ss) (hb : Below w.heap.size w w') : Lent w' g c ss :=
  ⟨h.cap, h.max, fun i hi => Tree.cell_later hb (h.at' i hi), Tree.cell_later hb h.room, Tree.cell_later hb h.behind⟩
theorem lent_of {w : World} {B g c : Nat} {ss : List ByteArray} (hc : ss.length + 2 ≤ c) (hn : ss.length ≤ 1048576) (h : w.ownsRow B 9 1 (.slice (some ⟨g, 0, none⟩) (ss.length + 2) c) (ss.length + 2) (cellsT ss ++ [.string roomT, .string behindT])) : Lent w g c ss := by
  have hl : (cellsT ss).length = ss.length := by simp [cellsT]
  refine ⟨hc, hn, fun i hi => ?_, ?_, ?_⟩
  · rw [h.cellAt i (by omega), List.getElem?_append_left (by omega), cellsT_at ss i hi]
  · rw [h.cellAt _ (by omega), List.getElem?_append_right (by omega), hl, Nat.sub_self]
    rfl
  · rw [h.cellAt _ (by omega), List.getElem?_append_right (by omega), hl, Nat.add_sub_cancel_left]
    rfl
theorem Lent.tx {w : World} {g c : Nat} {ss : List ByteArray} (h : Lent w g c ss) : IsTx w (some ⟨g, 0, none⟩) ss :=
  ⟨by have := h.max; unfold maxLen; omega, .inr ⟨_, rfl, fun i hi => by rw [Addr.add_lit, Nat.zero_add]; exact h.at' i hi⟩⟩
set_option maxRecDepth 20000 in
set_option maxHeartbeats 800000 in
theorem keptTexts (g c : Nat) (a : Option Addr) (cap : Nat) (ss : List ByteArray) (w : World) (h : Hid (Lent w g c ss)) (ha : Hid (IsTx w a ss)) :
    Calls Tryz.prog 24 #[.slice (some ⟨g, 0, none⟩) ss.length c, .slice a ss.length cap] w fun r w' => r = .returned (.bool true) ∧ Below w.heap.size w w' := by
  have hn := h.out.max
  have hc := h.out.cap
  have i0 : (0 : Int) ≤ ((ss.length : Nat) : Int) + 2 := by omega
  have i1 : ((ss.length : Nat) : Int) + 2 ≤ ((c : Nat) : Int) := by omega
  have HX : Hid (IsTx w (some ⟨g, 0, none⟩) ss) := h.out.tx
  go_enter Tryz.func24, Tryz.ntmps24
  go_wp2_with fail
  refine (sameTexts (some ⟨g, 0, none⟩) a c cap ss (by omega) w HX ha).mono ?_
  rintro e w1 ⟨rfl, b1⟩
  have d1 := Tree.cell_later b1 h.out.room
  have d2 := Tree.cell_later b1 h.out.behind
  have j0 : (0 : Int) ≤ ((ss.length : Nat) : Int) := by omega
  have q1 : (roomT.toList == [126, 114, 111, 111, 109]) = true := by decide +kernel
  have q2 : (behindT.toList == [126, 98, 101, 104, 105, 110, 100]) = true := by decide +kernel
  generalize roomT = rT at *
  generalize behindT = bT at *
  go_wp2
  go_ret
  exact ⟨rfl, b1⟩
set_option maxRecDepth 20000 in
set_option maxHeartbeats 800000 in
theorem spoilTexts (o : Option Addr) (c B : Nat) (ps : List ByteArray) (hn : ps.length ≤ 65536) (hz : Hid (∀ i, (ps.getD i ByteArray.empty).size ≤ 65536)) (w : World) (h : Hid (w.ownsRow B 9 1 (.slice o ps.length c) ps.length (cellsT ps))) :
    Calls Tryz.prog 10 #[.slice o ps.length c] w fun r w' => r = .returned (.tuple #[]) ∧ Below B w w' := by
  by_cases h0 : 0 < ps.length
  · obtain ⟨g, c', e, hc⟩ := own_at h.out h0
    injection e with e1 _ e3
    subst e1 e3
    have hB : B ≤ g := (h.out.lt g rfl).1
    go_enter Tryz.func10, Tryz.ntmps10
    go_wp2_with fail
    go_loopw [2] (fun t wr => ∃ (k : Nat) (qs : List ByteArray), k ≤ ps.length ∧ t = .int .i64 (k : Int) ∧ qs.length = ps.length ∧ (∀ i, k ≤ i → (qs.getD i ByteArray.empty).size ≤ 65536) ∧ wr.ownsRow B 9 1 (.slice (some ⟨g, 0, none⟩) ps.length c) ps.length (cellsT qs) ∧ Below B w wr) (fun t _ => ps.length - (intOf t).toNat)
    case atStart => exact ⟨0, ps, Nat.zero_le _, rfl, rfl, fun i _ => hz.out i, h.out, Below.refl _ _⟩
    case round =>
      obtain ⟨k, qs, hk, rfl, hq, hsz, hown, hbl⟩ := hrel
      have HO : Hid (wr.ownsRow B 9 1 (.slice (some ⟨g, 0, none⟩) ps.length c) ps.length (cellsT qs)) := hown
      have HB : Hid (Below B w wr) := hbl
      have HSZ : Hid (∀ i, k ≤ i → (qs.getD i ByteArray.empty).size ≤ 65536) := hsz
      have HQ : Hid (qs.length = ps.length) := hq
      clear hsz hown hbl h
      by_cases hlt : k < ps.length
      · have c1 : wr.cell? ⟨g, k, none⟩ = some (.string (qs.getD k ByteArray.empty)) := by rw [HO.out.cellAt k (by omega), cellsT_at qs k (by omega)]
        have f1 : wr.frozen? ⟨g, k, none⟩ = false := HO.out.frozenAt k
        have z1 := HSZ.out k (Nat.le_refl _)
        have j0 : (0 : Int) ≤ (k : Int) := by omega
        have j1 : (k : Int) < ((ps.length : Nat) : Int) := by omega
        clear hq
        generalize hu : qs.getD k ByteArray.empty = u at *
        clear hu
        go_wp2
        go_roundw
        case rel =>
          refine ⟨k + 1, qs.set k (⟨#[126]⟩ ++ u), by omega, by go_num, by rw [List.length_set]; exact HQ.out, fun i hi => ?_, ?_, HB.out.setCell hB _⟩
          · rw [List.getD_eq_getElem?_getD, List.getElem?_set_ne (by omega), ← List.getD_eq_getElem?_getD]
            exact HSZ.out i (by omega)
          · have := (HO.out.stored k (.string (⟨#[126]⟩ ++ u))).1
            rw [show cellsT (qs.set k (⟨#[126]⟩ ++ u)) = (cellsT qs).set k (.string (⟨#[126]⟩ ++ u)) from by unfold cellsT; rw [List.map_set]]
            exact this
        case measure => simp [intOf]; omega
      · obtain rfl : k = ps.length := by omega
        clear hq
        go_wp2
        go_end0
        exact ⟨rfl, HB.out⟩
  · have e0 : ps.length = 0 := by omega
    clear h hz
    rw [e0]
    go_enter Tryz.func10, Tryz.ntmps10
    go_wp2_with fail
    go_loopw [2] (fun t wr => t = .int .i64 0 ∧ wr = w) (fun _ _ => 0)
    case atStart => exact ⟨rfl, rfl⟩
    case round =>
      obtain ⟨rfl, rfl⟩ := hrel
      go_wp2
      go_end0
      exact ⟨rfl, Below.refl _ _⟩
end Go.Proofs.YtejgjipmnmfkcaaGreatDoor.Val
