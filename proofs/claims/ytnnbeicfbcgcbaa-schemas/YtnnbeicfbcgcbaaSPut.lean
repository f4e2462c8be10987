/-
  What the program's own schema.Put computes: its contract.
-/
import Derived.Test.YtnnbeicfbcgcbaaRows
import Derived.Test.YtnnbeicfbcgcbaaTree
import Derived.Test.YtnnbeicfbcgcbaaText
import Derived.Test.YtnnbeicfbcgcbaaOpen
import Derived.Test.YtnnbeicfbcgcbaaMem
import Derived.Test.YtnnbeicfbcgcbaaMay
import Derived.Test.YtnnbeicfbcgcbaaRefMay
import Derived.Test.YtnnbeicfbcgcbaaPut
import Derived.WalkKit
import Derived.ProofKit
import Derived.OpenShut
import Derived.Below
import Derived.RegionTactic
import Derived.ChangeAlike
import Derived.OwnWalk
import Derived.Laws.IdiomStrings
import Derived.Laws.OwnMore
import Derived.Laws.MakeOwn
import Derived.Deep.RegionHeld3
import Derived.Deep.AppendLies
namespace Go.Proofs.Ytnnbeicfbcgcbaa.Tree
open Go.ChangeShapes Go.WideShapes Go.ChangeAt Go.RowKit

theorem truth (b : Bool) (w : World) : Calls Try.prog 18 #[.bool b] w fun r w' => r = .returned (.int .u8 (if b then 1 else 0)) ∧ w' = w := by
  cases b
  · go_enter Try.func18, Try.ntmps18
    go_wp2
    go_ret
    exact ⟨rfl, rfl⟩
  · go_enter Try.func18, Try.ntmps18
    go_wp2
    go_ret
    exact ⟨rfl, rfl⟩
theorem truthZ (b : Bool) (z : Int) (HZ : Hid (z = if b then 1 else 0)) (w : World) : Calls Try.prog 18 #[.bool b] w fun r w' => r = .returned (.int .u8 z) ∧ w' = w := by
  rw [HZ.out]
  exact truth b w
theorem three (w : World) (x y z : Value) (t : TypeId) : ∃ w1, w.alloc (.cells #[x, y, z] t) = w1 ∧ w1.heap.size = w.heap.size + 1 ∧ w1.cell? ⟨w.heap.size, 0, none⟩ = some x ∧ w1.cell? ⟨w.heap.size, 1, none⟩ = some y ∧ w1.cell? ⟨w.heap.size, 2, none⟩ = some z ∧ Below w.heap.size w w1 :=
  ⟨_, rfl, by simp, by simp, by simp, by simp, (Below.refl _ _).alloc (Nat.le_refl _) _⟩
set_option maxRecDepth 20000 in
set_option maxHeartbeats 800000 in
theorem sputN (a : Option Addr) (cap : Nat) (l : List Nd) (w : World) (h : IsT w a l) (hm : may l = false) :
    Calls Try.prog 9 #[.agg #[.slice a l.length cap]] w fun r w' => r = .returned (.tuple #[.string ⟨#[]⟩, .int .i64 600]) ∧ Below w.heap.size w w' := by
  have HM : Hid (may l = false) := hm
  clear hm
  have hb : Below w.heap.size w (w.alloc (Obj.cells #[.slice a l.length cap] 24)) := (Below.refl _ _).alloc (Nat.le_refl _) _
  go_enter Try.func9, Try.ntmps9
  go_wp2_with fail
  refine (mayC a cap l _ (h.later hb)).mono ?_
  rintro e w1 ⟨rfl, hb1⟩
  rw [HM.out]
  go_wp2
  go_ret2
  exact ⟨rfl, bel hb hb1⟩
theorem make_text (w : World) (n : Nat) (hn : n ≤ 8) : ∃ w1, (Instr.makeSlice 48 (.int .i64 0) (.int .i64 (1 + 3 * (n : Int)))).run Try.prog w = .ok (.slice (some ⟨w.heap.size, 0, none⟩) 0 (1 + 3 * n)) w1 ∧ w1.ownsRow w.heap.size 5 1 (.slice (some ⟨w.heap.size, 0, none⟩) 0 (1 + 3 * n)) 0 [] ∧ Below w.heap.size w w1 := by
  obtain ⟨i, hi, hz0, hz1, hz2⟩ := info_parts info5
  have e : (1 + 3 * (n : Int)) = ((1 + 3 * n : Nat) : Int) := by omega
  rw [e]
  obtain ⟨w1, h1, h2, h3⟩ := run_makeSlice_owned (P := Try.prog) w w.heap.size 48 5 i (.int .u8 0) 1 Try.underlying48 hi hz0 hz1 .i64 .i64 (1 + 3 * n) (by omega) (by rw [hz2]; omega) (by unfold maxLen; omega) (Nat.le_refl _)
  exact ⟨w1, h1, h2, (Below.refl _ _).grown h3 (Nat.le_refl _) (fun j hj => by cases hj)⟩
set_option maxRecDepth 20000 in
set_option maxHeartbeats 1600000 in
theorem sputY (x : Addr) (cap : Nat) (l : List Nd) (w : World) (hl : Lies w x l) (hm : may l = true) :
    Calls Try.prog 9 #[.agg #[.slice (some x) l.length cap]] w fun r w' => r = .returned (.tuple #[.string ⟨(enc l).toArray⟩, .int .i64 0]) ∧ Below w.heap.size w w' := by
  obtain ⟨i5, hi, hz0, hz1, hz2⟩ := info_parts info5
  have HM : Hid (may l = true) := hm
  have HMay : Hid (May l) := may_of hm
  have h8 := (may_of hm).most
  have h1 := (may_of hm).one
  have HT : Hid (IsT w (some x) l) := ⟨by unfold maxLen; omega, .inr ⟨x, rfl, hl⟩⟩
  have HL : Hid (Lies w x l) := hl
  clear hl hm
  go_enter Try.func9, Try.ntmps9
  go_wp2_with fail
  obtain ⟨wb, eb, hsb, hcb, hbb⟩ := boxed w (.slice (some x) l.length cap) 24
  rw [eb]
  clear eb
  refine (mayC (some x) cap l wb (HT.out.later hbb)).mono ?_
  rintro e w1 ⟨rfl, hb1⟩
  rw [HM.out]
  have hc1 := cell_later hb1 hcb
  have hB1 := bel hbb hb1
  have hmod : (l.length : Int) % 256 = (l.length : Int) := by omega
  obtain ⟨w2, hmk, hown, hb2⟩ := make_text w1 l.length h8
  have hc2 := cell_later hb2 hc1
  clear hcb hbb hb1 HT
  go_wp2_with (at_builtin; refine wpList_append_own _ rfl (.tmp 16) (.tmp 21) 48 rfl w1.heap.size 5 i5 (.int .u8 0) 1 1 Try.underlying48 hi hz0 hz1 hz2 rfl (by decide) _ 0 _ rfl (hown.alloc _) ⟨w2.heap.size, 0, none⟩ 1 1 [.int .u8 (l.length : Int)] rfl rfl ?c1 ?c2 ?c3 ?c4 ?c5 ?_)
  case c1 =>
    intro j u hj
    match j, hj with
    | 0, hj => simp at hj; subst hj; simp [Addr.add]
  case c2 => intro u hu; simp at hu; subst hu; rfl
  case c3 => unfold maxLen; omega
  case c4 => omega
  case c5 => have := hb2.size; simp; omega
  intro v' w3 hown' hgrow _
  have hb3 : Below w1.heap.size w1 w3 := (hb2.alloc hb2.size _).grown hgrow (by have := hb2.size; simp; omega) (fun j hj => (hown.lt j hj).1)
  have hown3 : w3.ownsRow w1.heap.size 5 1 v' 1 (cellsB (encTo l 0)) := by
    have e : cellsB (encTo l 0) = [.int .u8 (l.length : Int)] := by
      show [Value.int .u8 (((UInt8.ofNat l.length).toNat : Nat) : Int)] = _
      rw [show (((UInt8.ofNat l.length).toNat : Nat) : Int) = (l.length : Int) from by simp; omega]
    rw [e]
    exact hown'
  obtain ⟨o3, c3, rfl⟩ := own_slice hown3
  have hc3 := cell_later hb3 hc1
  have HL1 : Hid (Lies w1 x l) := HL.out.later hB1
  clear hown hgrow hown' hmk hb2 hc2 HL
  go_wp2_with fail
  go_loopw [4, 26] (fun v t wr => ∃ (k : Nat) (o : Option Addr) (c : Nat), k ≤ l.length ∧ t = .int .i64 (k : Int) ∧ v = .slice o (1 + 3 * k) c ∧ wr.ownsRow w1.heap.size 5 1 (.slice o (1 + 3 * k) c) (1 + 3 * k) (cellsB (encTo l k)) ∧ Below w1.heap.size w1 wr) (fun _ t _ => l.length - (intOf t).toNat)
  case atStart => exact ⟨0, _, _, Nat.zero_le _, rfl, rfl, hown3, hb3⟩
  case round =>
    obtain ⟨k, o, c, hk, rfl, rfl, hown, hbl⟩ := hrel
    have hl2 := HL1.out.later hbl
    clear hown3 hb3 hc3
    by_cases hlt : k < l.length
    · have hp := hl2.par' k hlt
      have hq := hl2.kind' k hlt
      have hr := hl2.null' k hlt
      obtain ⟨a, d, hn, ha, hd⟩ := may_nums HMay.out hlt
      generalize (nd l k).null = b at *
      have HE : Hid (cellsB (encTo l (k + 1)) = cellsB (encTo l k) ++ [.int .u8 (a : Int), .int .u8 (d : Int), .int .u8 (if b then 1 else 0)]) := by
        unfold Hid
        rw [encTo, cellsB_app, hn, encN_cells a d b ha hd]
      rw [hn] at hp hq
      simp only at hp hq
      have x1 : IntKind.i64.wrap (d : Int) = (d : Int) := by rw [IntKind.wrap_i64]; omega
      have x2 : IntKind.u8.wrap (d : Int) = (d : Int) := by rw [IntKind.wrap_u8]; omega
      have x3 : IntKind.u8.wrap (a : Int) = (a : Int) := by rw [IntKind.wrap_u8]; omega
      clear hl2 hn
      generalize cellsB (encTo l k) = q at *
      go_wp2_with fail
      obtain ⟨wn, en, hsn, n0, n1, n2, hbn⟩ := three wr (.int .i64 (a : Int)) (.int .i64 ((d : Int) - 1)) (.bool b) 41
      have hownN : wn.ownsRow w1.heap.size 5 1 (Value.slice o (1 + 3 * k) c) (1 + 3 * k) q := by rw [← en]; exact hown.alloc _
      have hblN : Below w1.heap.size w1 wn := by rw [← en]; exact hbl.alloc hbl.size _
      have HW : Hid (w1.heap.size ≤ wn.heap.size) := hblN.size
      rw [en]
      obtain ⟨z, HZ⟩ : ∃ z : Int, Hid (z = if b then 1 else 0) := ⟨_, rfl⟩
      rw [← HZ.out] at HE
      have HN : Hid (wn.heap.size = wr.heap.size + 1) := hsn
      have hbw : wr.heap.size < wn.heap.size := by omega
      have HAG : Hid ((Value.slice o (1 + 3 * k) c).ownBlock ≠ some wr.heap.size) := fun e => by have := (hown.lt wr.heap.size e).2; omega
      clear hown
      generalize wr.heap.size = B at *
      have hbs : w1.heap.size ≤ wn.heap.size + 1 := by have := HW.out; omega
      clear en hbn hp hq hr hbl hsn hmod hc1
      go_region_held3 (fun w' => w'.cell? ⟨B, 0, none⟩ = some (.int .i64 (a : Int)) ∧ w'.cell? ⟨B, 1, none⟩ = some (.int .i64 ((d : Int) - 1)) ∧ w'.cell? ⟨B, 2, none⟩ = some (.bool b)) (first | go_keep | (go_split_ands; refine ⟨?_, ?_, ?_⟩ <;> (rw [hgrow.cell_far _ (by simp; omega) (Ne.symm HAG.out)]; assumption)))
        (first | (go_at_call 18; refine (truthZ b z HZ _).mono ?_; rintro e w' ⟨rfl, rfl⟩) | (refine step_append_lies _ (by rfl) _ _ _ (by rfl) w1.heap.size 5 i5 (.int .u8 0) 1 1 Try.underlying48 hi hz0 hz1 hz2 rfl (by omega) (.slice o (1 + 3 * k) c) (1 + 3 * k) q (by rfl) ((hownN.alloc _).drew) ⟨wn.heap.size, 0, none⟩ 3 3 [.int .u8 (a : Int), .int .u8 (d : Int), .int .u8 z] (by rfl) (by rfl) (World.news_of_block (cs := #[.int .u8 (a : Int), .int .u8 (d : Int), .int .u8 z]) (t := 5) (fr := (0, 0)) (heap_alloc_new wn _)) (by simp [Value.oneCell']) (by omega) (by unfold maxLen; omega) (by omega) (by simp; omega) (wn.heap.size + 1) (by simp) ?_; intro g cp w4 hown4 hgrow hat hlg))
      have hb4 : Below w1.heap.size w1 w4 := (hblN.alloc hblN.size _).drew.grown hgrow (by simp; omega) (fun j hj => (hownN.lt j hj).1)
      have hown5 : w4.ownsRow w1.heap.size 5 1 (.slice (some ⟨g, 0, none⟩) (1 + 3 * (k + 1)) cp) (1 + 3 * (k + 1)) (cellsB (encTo l (k + 1))) := by
        rw [HE.out]
        exact hown4
      rw [show 1 + 3 * k + 3 = 1 + 3 * (k + 1) from by omega]
      clear hown4 hgrow hat hlg hblN hownN
      go_wp2
      go_roundw
      case rel => exact ⟨k + 1, some ⟨g, 0, none⟩, cp, by omega, by go_num, rfl, hown5, hb4⟩
      case measure => simp [intOf]; omega
    · obtain rfl : k = l.length := by omega
      have hbk := own_text hown (by omega)
      rw [show encTo l l.length = enc l from rfl] at hbk
      clear hown
      go_wp2
      go_ret2
      exact ⟨rfl, bel hB1 hbl⟩
end Go.Proofs.Ytnnbeicfbcgcbaa.Tree
