/-
  ArrayMore: longer buffers turn nothing of what may be.
-/
import Derived.Test.YtbekelnhlfghlaaRows
import Derived.WalkKit
import Derived.ProofKit
import Derived.OpenShut
import Derived.ShutString
import Derived.ChangeOld
import Derived.Below
import Derived.SizedLaws
import Derived.Deep.QuietTactic
import Derived.WalkSmall
import Derived.BigQuiet
import Derived.Deep.RegionWith
import Derived.OwnWalk
import Derived.RegionTactic
import Derived.ChangeAlike
import Derived.Deep.CutBlock
import Derived.Maps.AppendAt
import Derived.OneCell
import Derived.Test.YtbekelnhlfghlaaB01
import Derived.Test.YtbekelnhlfghlaaB02
import Derived.Test.YtbekelnhlfghlaaB09
import Derived.Test.YtbekelnhlfghlaaB13
import Derived.Test.YtbekelnhlfghlaaB14
import Derived.Test.YtbekelnhlfghlaaB19
import Derived.Test.YtbekelnhlfghlaaB15
namespace Go.Proofs.Ytbekelnhlfghlaa.arrayMore
open Go.ChangeShapes Go.WideShapes Go.ChangeAt Go.RowKit
open Go.ChangeMaps (open_string shut_string)
set_option linter.unusedVariables false

theorem own : ownKnob Try.prog.godebug = none := by kernel_rfl
theorem laidOut : laidOutB Try.prog = true := by kernel_rfl

open Tree Arr
theorem arr_eta (a : Arr.Arr) : (⟨a.layout, a.offset, a.length, a.valid, a.ends, a.data, a.kids⟩ : Arr.Arr) = a := by cases a; rfl
theorem set_data {w : World} {g : Nat} {a : Arr.Arr} {o : Option Addr} {c : Nat} (h : Bx w g a o c) (s : ByteArray) :
    ∃ w', w.setCell ⟨g, 5, none⟩ (.string s) = w' ∧ Bx w' g { a with data := s } o c ∧ (∀ b, b ≠ g → w'.heap[b]? = w.heap[b]?) ∧ (∀ B, B ≤ g → Below B w w') := by
  refine ⟨_, rfl, ⟨?_⟩, fun b hb => Below.heap_setCell _ _ _ b hb, fun B hB => (Below.refl _ _).setCell hB _⟩
  rw [blk_set h.blk 5 _]
  rfl
theorem set_ends {w : World} {g : Nat} {a : Arr.Arr} {o : Option Addr} {c : Nat} (h : Bx w g a o c) (s : ByteArray) :
    ∃ w', w.setCell ⟨g, 4, none⟩ (.string s) = w' ∧ Bx w' g { a with ends := s } o c ∧ (∀ b, b ≠ g → w'.heap[b]? = w.heap[b]?) ∧ (∀ B, B ≤ g → Below B w w') := by
  refine ⟨_, rfl, ⟨?_⟩, fun b hb => Below.heap_setCell _ _ _ b hb, fun B hB => (Below.refl _ _).setCell hB _⟩
  rw [blk_set h.blk 4 _]
  rfl
theorem long_holds {B : Nat} {w : World} {f : Nat} {a : Arr.Arr} {o : Option Addr} {c : Nat} (ns : List Nd) (n : Nat) (m : ByteArray) (hB : 4096 ≤ B) (h1 : a.data.size + m.size ≤ 4096) (h2 : a.ends.size + m.size ≤ 4096) (h : HoldsF B 96 w (f + 1) (a.cells o c) a) : HoldsF B 96 w (f + 1) ((longA ns n a m).cells o c) (longA ns n a m) := by
  obtain ⟨o2, c2, e, hk, h3, h4, h5, h6⟩ := h
  have eo : o = o2 ∧ c = c2 := by
    unfold Arr.cells at e
    simp only [List.cons.injEq, Value.slice.injEq, and_true, true_and] at e
    exact e
  obtain ⟨rfl, rfl⟩ := eo
  refine ⟨o, c, rfl, ⟨hk.layout, hk.offset, hk.length, hk.valid, ?_, ?_⟩, h3, h4, h5, h6⟩
  · show (if a.ends.size = 0 then a.ends else a.ends ++ m).size ≤ B
    split
    · exact hk.ends
    · rw [size_app]; omega
  · show (if (nd ns n).kind < 3 then a.data ++ m else a.data).size ≤ B
    split
    · rw [size_app]; omega
    · exact hk.data
theorem vals_long {ns : List Nd} (hm : may ns = true) {f n : Nat} (hn : n < ns.length) {a : Arr.Arr} {m : ByteArray} (h : mayF ns (f + 1) n a = true) (hl : a.layout = 0) (h2 : mayF ns (f + 1) n (longA ns n a m) = true) : valsA ns (n : Int) (f + 1) (longA ns n a m) = valsA ns (n : Int) (f + 1) a := by
  unfold valsA
  rw [mayZ_kid hm hn, mayZ_kid hm hn, h, h2, if_pos rfl, if_pos rfl, Int.toNat_natCast]
  show told (rowF ns (f + 1) n (longA ns n a m)) a.length.toNat = _
  unfold told
  refine List.map_congr_left fun j hj => congrArg mk ?_
  exact row_long (may_of hm) hn h hl (by have := List.mem_range.1 hj; omega)
theorem vals_error {ns : List Nd} (hm : may ns = true) {f n : Nat} (hn : n < ns.length) {a : Arr.Arr} (h : mayF ns (f + 1) n a = true) : valsE ns (n : Int) (f + 1) a = 0 := by
  unfold valsE
  rw [mayZ_kid hm hn, h, if_pos rfl]
set_option maxRecDepth 20000 in
set_option maxHeartbeats 4000000 in
theorem walk (a0 : Option Addr) (len0 cap0 : Nat) (z0 : List Tree.Nd) (a1 : Int) (fq2 : Nat) (a2 : Arr.Arr) (oq2 : Option Addr) (cq2 : Nat) (a3 : ByteArray) (w : World) (hp0 : Tree.IsNodes w a0 len0 cap0 z0) (hs0 : cap0 * 24 ≤ 140737488351232) (hp1 : (Lit.int .i64 a1).wf = true) (hp2 : Hid (Arr.HoldsF 140737488351232 96 w (fq2 + 1) (a2.cells oq2 cq2) a2)) (hp3 : a3.size ≤ maxLen) (hs3 : a3.size ≤ 140737488351232) :
    Calls Try.prog 5 #[.agg #[.slice a0 len0 cap0], .int .i64 a1, a2.val oq2 cq2, .string a3] w fun e w' => e = .returned (.bool true) ∧ Below w.heap.size w w' := by
  obtain ⟨ns, rfl, hT, hlc, hco⟩ := isT_of hp0
  have HR : Hid (∀ v, Below w.heap.size w v → Calls Try.prog 10 #[.agg #[.slice a0 ns.length cap0], .int .i64 a1, a2.val oq2 cq2] v fun r w' => r = .returned (.bool (mayZ ns a1 (fq2 + 1) a2)) ∧ Below v.heap.size v w') := fun v hv => refA 140737488351232 96 (fq2 + 1) ns a0 cap0 a1 a2 oq2 cq2 v (hT.later hv) (hp2.out.later hv)
  have HC : Hid (∀ v, Below w.heap.size w v → Calls Try.prog 8 #[a2.val oq2 cq2] v fun r w' => ∃ o' cap', r = .returned (a2.val o' cap') ∧ HoldsO 140737488351232 w' (fq2 + 1) (fun b => v.heap.size ≤ b) (a2.cells o' cap') a2 ∧ Below v.heap.size v w') := fun v hv => Arr.copyA 140737488351232 (by decide) (fq2 + 1) a2 oq2 cq2 v (hp2.out.later hv)
  have HT : Hid (IsT w a0 ns) := hT
  have HP : Hid (∀ v (b : Arr.Arr) o c, Below w.heap.size w v → HoldsF (upB 140737488351232) 96 v (fq2 + 1) (b.cells o c) b → Calls Try.prog 9 #[.agg #[.slice a0 ns.length cap0], .int .i64 a1, b.val o c] v fun r w' => r = .returned (.bool (mayZ ns a1 (fq2 + 1) b)) ∧ Below v.heap.size v w') := fun v b o c hv hb => mayA (upB 140737488351232) 96 (fq2 + 1) ns a0 cap0 a1 b o c v (HT.out.later hv) hb
  have HZ : Hid (mayZ ns a1 (fq2 + 1) a2 = true → ∃ n : Nat, a1 = (n : Int) ∧ n < ns.length ∧ may ns = true ∧ mayF ns (fq2 + 1) n a2 = true ∧ Head ns n a2) := may_head
  obtain ⟨w2, e2, hs2, c2, b2⟩ := boxed w (.slice a0 ns.length cap0) 24
  obtain ⟨w3, e3, x3, b3, z3⟩ := box7 w2 a2 oq2 cq2
  have hs2' : w.heap.size < w2.heap.size := hs2
  have B3 : Hid (Below w.heap.size w w3) := bel2 b2 b3
  have X3 : Hid (Bx w3 w2.heap.size a2 oq2 cq2) := x3
  have C3 : Hid (w3.cell? ⟨w.heap.size, 0, none⟩ = some (.slice a0 ns.length cap0)) := cell_later b3 c2
  have HH : Hid (HoldsF 140737488351232 96 w (fq2 + 1) (a2.cells oq2 cq2) a2) := hp2
  clear hp0 hco hT b2 b3 x3 hs2 z3 c2 hp2
  unfold Arr.val at HR HC ⊢
  generalize mayZ ns a1 (fq2 + 1) a2 = M at *
  go_enter Try.func5, Try.ntmps5
  go_wp2_with fail
  refine (awake _).mono ?_
  rintro e w4 ⟨rfl, b4⟩
  have B4 : Hid (Below w.heap.size w w4) := bel2 B3.out b4
  have X4 : Hid (Bx w4 w2.heap.size a2 oq2 cq2) := X3.out.later b4
  have C4 : Hid (w4.cell? ⟨w.heap.size, 0, none⟩ = some (.slice a0 ns.length cap0)) := cell_later b4 C3.out
  clear b4 e3 e2
  have c0 := C4.out
  have d0 := X4.out.c0
  have d1 := X4.out.c1
  have d2 := X4.out.c2
  have d3 := X4.out.c3
  have d4 := X4.out.c4
  have d5 := X4.out.c5
  have d6 := X4.out.c6
  go_wp2_with fail
  refine (HR.out w4 B4.out).mono ?_
  rintro e w5 ⟨rfl, b5⟩
  have B5 : Hid (Below w.heap.size w w5) := bel2 B4.out b5
  have X5 : Hid (Bx w5 w2.heap.size a2 oq2 cq2) := X4.out.later b5
  have C5 : Hid (w5.cell? ⟨w.heap.size, 0, none⟩ = some (.slice a0 ns.length cap0)) := cell_later b5 C4.out
  clear b5 c0 d0 d1 d2 d3 d4 d5 d6
  have c0 := C5.out
  have d0 := X5.out.c0
  have d1 := X5.out.c1
  have d2 := X5.out.c2
  have d3 := X5.out.c3
  have d4 := X5.out.c4
  have d5 := X5.out.c5
  have d6 := X5.out.c6
  cases M
  · go_wp2
    go_ret
    exact ⟨rfl, B5.out⟩
  obtain ⟨n, rfl, hn, hm, hF, hH⟩ := HZ.out rfl
  have HF : Hid (mayF ns (fq2 + 1) n a2 = true) := hF
  have HMY : Hid (may ns = true) := hm
  have hsd := hH.data
  have hse := hH.ends
  by_cases hL : a2.layout = 0
  rotate_left
  · have g1 : (a2.layout != 0) = true := by rw [bne_iff_ne]; exact hL
    clear hF hH hm hL
    go_wp2
    go_ret
    exact ⟨rfl, B5.out⟩
  have HL : Hid (a2.layout = 0) := hL
  have g1 : (a2.layout != 0) = false := by rw [bne_eq_false_iff_eq]; exact hL
  clear hF hH hm hL
  by_cases hD : a2.data.size + a3.size ≤ 4096
  rotate_left
  · have g2 : decide (4096 < (a2.data.size : Int) + (a3.size : Int)) = true := decide_eq_true (by omega)
    go_wp2
    go_ret
    exact ⟨rfl, B5.out⟩
  by_cases hE : a2.ends.size + a3.size ≤ 4096
  rotate_left
  · have g2 : decide (4096 < (a2.data.size : Int) + (a3.size : Int)) = false := decide_eq_false (by omega)
    have g3 : decide (4096 < (a2.ends.size : Int) + (a3.size : Int)) = true := decide_eq_true (by omega)
    go_wp2
    go_ret
    exact ⟨rfl, B5.out⟩
  have g2 : decide (4096 < (a2.data.size : Int) + (a3.size : Int)) = false := decide_eq_false (by omega)
  have g3 : decide (4096 < (a2.ends.size : Int) + (a3.size : Int)) = false := decide_eq_false (by omega)
  go_wp2_with fail
  refine (HC.out w5 B5.out).mono ?_
  rintro e w6 ⟨o6, c6, rfl, ho6, b6⟩
  obtain ⟨w7, e7, x7, b7, z7⟩ := box7 w6 a2 o6 c6
  have B7 : Hid (Below w.heap.size w w7) := bel2 B5.out (bel2 b6 b7)
  have X7 : Hid (Bx w7 w2.heap.size a2 oq2 cq2) := X5.out.later (bel2 b6 b7)
  have C7 : Hid (w7.cell? ⟨w.heap.size, 0, none⟩ = some (.slice a0 ns.length cap0)) := cell_later (bel2 b6 b7) C5.out
  have Y7 : Hid (Bx w7 w6.heap.size a2 o6 c6) := x7
  have HO7 : Hid (HoldsO 140737488351232 w7 (fq2 + 1) (fun b => b < w6.heap.size) (a2.cells o6 c6) a2) := ho6.lt.stays (fun b hb => b7.block b hb.2) (fun b hb => hb.2)
  have hle : w.heap.size ≤ w6.heap.size := Nat.le_trans B5.out.size b6.size
  have hlt2 : w2.heap.size < w6.heap.size := Nat.lt_of_lt_of_le X5.out.lt b6.size
  obtain ⟨x, hx, hl⟩ := HT.out.some (by omega)
  have HLI : Hid (Lies w7 x ns) := hl.later B7.out
  have HBX : Hid (w.heap.size < w6.heap.size) := by unfold Hid; omega
  clear ho6 b6 b7 x7 z7 c0 d0 d1 d2 d3 d4 d5 d6 g1 g2 g3
  subst hx
  have c0 := C7.out
  have n0 := HLI.out.kind' n hn
  have j0 : (0 : Int) ≤ (n : Int) := Int.natCast_nonneg _
  have j1 : (n : Int) < (ns.length : Int) := by omega
  have y4 := Y7.out.c4
  have y5 := Y7.out.c5
  have f4 := Y7.out.fz 4
  have f5 := Y7.out.fz 5
  have d0 := X7.out.c0
  have d1 := X7.out.c1
  have d2 := X7.out.c2
  have d3 := X7.out.c3
  have d4 := X7.out.c4
  have d5 := X7.out.c5
  have d6 := X7.out.c6
  have q1 : ¬ w2.heap.size = w6.heap.size := by omega
  have q2 : ¬ w6.heap.size = w2.heap.size := by omega
  have q3 : ¬ w.heap.size = w6.heap.size := by omega
  have q4 : ¬ w6.heap.size = w.heap.size := by omega
  by_cases hk : (nd ns n).kind < 3
  · have g3 : decide ((nd ns n).kind < 3) = true := decide_eq_true hk
    by_cases he : a2.ends.size = 0
    · have HEV : Hid (a2.ends = ⟨#[]⟩) := empty_of he
      rw [HEV.out] at y4
      go_wp2_with fail
      obtain ⟨w8, e8, x8, h8, b8⟩ := set_data Y7.out (a2.data ++ a3)
      rw [e8]
      rw [show ({ a2 with data := a2.data ++ a3 } : Arr.Arr) = longA ns n a2 a3 from by unfold longA; rw [if_pos hk, if_pos he]] at x8
      clear e8 hk he g3
      have B8 : Hid (Below w.heap.size w w8) := B7.out.trans (b8 w.heap.size hle)
      have HO8 : Hid (HoldsF (upB 140737488351232) 96 w8 (fq2 + 1) ((longA ns n a2 a3).cells o6 c6) (longA ns n a2 a3)) := long_holds ns n a3 (by unfold upB; omega) hD hE (HO7.out.stays (fun b hb => h8 b (by omega)) (fun b hb => hb)).holds
      have C8 : Hid (w8.cell? ⟨w.heap.size, 0, none⟩ = some (.slice (some x) ns.length cap0)) := by
        unfold Hid
        rw [World.cell?_of_block (a := ⟨w.heap.size, 0, none⟩) (h8 w.heap.size (by omega))]
        exact C7.out
      have X8 : Hid (Bx w8 w2.heap.size a2 oq2 cq2) := ⟨(h8 w2.heap.size (by omega)).trans X7.out.blk⟩
      have Y8 : Hid (Bx w8 w6.heap.size (longA ns n a2 a3) o6 c6) := x8
      have HM2 : Hid (mayF ns (fq2 + 1) n (longA ns n a2 a3) = true) := may_long (may_of HMY.out) hn HF.out HL.out hD hE
      have HV : Hid (∀ v, Below w8.heap.size w8 v → Calls Try.prog 16 #[.agg #[.slice (some x) ns.length cap0], .int .i64 (n : Int), a2.val oq2 cq2] v fun r w' => ∃ ov cv, r = .returned (.tuple #[.slice ov (valsA ns (n : Int) (fq2 + 1) a2).length cv, .int .i64 0]) ∧ w'.ownsRow v.heap.size 9 1 (.slice ov (valsA ns (n : Int) (fq2 + 1) a2).length cv) (valsA ns (n : Int) (fq2 + 1) a2).length (Texts.cellsT (valsA ns (n : Int) (fq2 + 1) a2)) ∧ Below v.heap.size v w') := fun v hv => by
        have := valuesA 140737488351232 fq2 ns (some x) cap0 (n : Int) a2 oq2 cq2 v (HT.out.later (bel2 B8.out hv)) (HH.out.later (bel2 B8.out hv))
        rw [vals_error HMY.out hn HF.out] at this
        exact this
      have HV2 : Hid (∀ v, Below w8.heap.size w8 v → Calls Try.prog 16 #[.agg #[.slice (some x) ns.length cap0], .int .i64 (n : Int), (longA ns n a2 a3).val o6 c6] v fun r w' => ∃ ov cv, r = .returned (.tuple #[.slice ov (valsA ns (n : Int) (fq2 + 1) a2).length cv, .int .i64 0]) ∧ w'.ownsRow v.heap.size 9 1 (.slice ov (valsA ns (n : Int) (fq2 + 1) a2).length cv) (valsA ns (n : Int) (fq2 + 1) a2).length (Texts.cellsT (valsA ns (n : Int) (fq2 + 1) a2)) ∧ Below v.heap.size v w') := fun v hv => by
        have := valuesA (upB 140737488351232) fq2 ns (some x) cap0 (n : Int) (longA ns n a2 a3) o6 c6 v (HT.out.later (bel2 B8.out hv)) (HO8.out.later hv)
        rw [vals_error HMY.out hn HM2.out, vals_long HMY.out hn HF.out HL.out HM2.out] at this
        exact this
      have HP8 : Hid (∀ v, Below w8.heap.size w8 v → Calls Try.prog 9 #[.agg #[.slice (some x) ns.length cap0], .int .i64 (n : Int), (longA ns n a2 a3).val o6 c6] v fun r w' => r = .returned (.bool true) ∧ Below v.heap.size v w') := fun v hv => by
        have := HP.out v (longA ns n a2 a3) o6 c6 (bel2 B8.out hv) (HO8.out.later hv)
        rw [mayZ_kid HMY.out hn, HM2.out] at this
        exact this
      have hvn : (valsA ns (n : Int) (fq2 + 1) a2).length ≤ 140737488355328 := by
        unfold valsA
        split
        · rw [length_told]
          have h1 := (mayF_cases HF.out).1.rows
          have h2 := (mayF_cases HF.out).1.off
          omega
        · exact Nat.zero_le _
      clear c0 n0 y4 y5 f4 f5 x8 h8 b8 d0 d1 d2 d3 d4 d5 d6 q1 q2 q3 q4
      generalize longA ns n a2 a3 = lb at *
      generalize valsA ns (n : Int) (fq2 + 1) a2 = vs at *
      unfold Arr.val at HV HV2 HP8
      refine (HV.out w8 (Below.refl _ _)).mono ?_
      rintro e w9 ⟨ov, cv, rfl, hov, b9⟩
      have HTX9 : Hid (Texts.IsTx w9 ov vs) := Texts.own_texts hov
      have B9 : Hid (Below w8.heap.size w8 w9) := b9
      have Y9 : Hid (Bx w9 w6.heap.size lb o6 c6) := Y8.out.later b9
      have C9 : Hid (w9.cell? ⟨w.heap.size, 0, none⟩ = some (.slice (some x) ns.length cap0)) := cell_later b9 C8.out
      clear hov b9
      have c0 := C9.out
      have d0 := Y9.out.c0
      have d1 := Y9.out.c1
      have d2 := Y9.out.c2
      have d3 := Y9.out.c3
      have d4 := Y9.out.c4
      have d5 := Y9.out.c5
      have d6 := Y9.out.c6
      go_wp2_with fail
      refine (HV2.out w9 B9.out).mono ?_
      rintro e w10 ⟨ov2, cv2, rfl, hov, b10⟩
      have HTXa : Hid (Texts.IsTx w10 ov vs) := HTX9.out.later b10
      have HTXb : Hid (Texts.IsTx w10 ov2 vs) := Texts.own_texts hov
      have B10 : Hid (Below w8.heap.size w8 w10) := bel2 B9.out b10
      have Y10 : Hid (Bx w10 w6.heap.size lb o6 c6) := Y9.out.later b10
      have C10 : Hid (w10.cell? ⟨w.heap.size, 0, none⟩ = some (.slice (some x) ns.length cap0)) := cell_later b10 C9.out
      clear c0 d0 d1 d2 d3 d4 d5 d6 hov b10
      have c0 := C10.out
      have d0 := Y10.out.c0
      have d1 := Y10.out.c1
      have d2 := Y10.out.c2
      have d3 := Y10.out.c3
      have d4 := Y10.out.c4
      have d5 := Y10.out.c5
      have d6 := Y10.out.c6
      go_wp2_with fail
      refine (HP8.out w10 B10.out).mono ?_
      rintro e w11 ⟨rfl, b11⟩
      have HTXc : Hid (Texts.IsTx w11 ov vs) := HTXa.out.later b11
      have HTXd : Hid (Texts.IsTx w11 ov2 vs) := HTXb.out.later b11
      have B11 : Hid (Below w.heap.size w w11) := bel2 B8.out (bel2 B10.out b11)
      clear c0 d0 d1 d2 d3 d4 d5 d6 b11
      go_wp2_with fail
      refine (Val.sameTexts ov ov2 cv cv2 vs hvn w11 HTXc.out HTXd.out).mono ?_
      rintro e w12 ⟨rfl, b12⟩
      go_wp2
      go_ret
      exact ⟨rfl, bel2 B11.out b12⟩
    · have hev := ne_empty he
      go_wp2_with fail
      obtain ⟨w7b, e8, x8b, h8b, b8b⟩ := set_data Y7.out (a2.data ++ a3)
      rw [e8]
      obtain ⟨w8, e9, x8, h8c, b8c⟩ := set_ends x8b (a2.ends ++ a3)
      rw [e9]
      have h8 : ∀ b, b ≠ w6.heap.size → w8.heap[b]? = w7.heap[b]? := fun b hb => (h8c b hb).trans (h8b b hb)
      have b8 : ∀ B, B ≤ w6.heap.size → Below B w7 w8 := fun B hB => (b8b B hB).trans (b8c B hB)
      rw [show ({ ({ a2 with data := a2.data ++ a3 } : Arr.Arr) with ends := a2.ends ++ a3 } : Arr.Arr) = longA ns n a2 a3 from by unfold longA; rw [if_pos hk, if_neg he]] at x8
      clear e8 e9 hk he g3 hev x8b h8b h8c b8b b8c
      have B8 : Hid (Below w.heap.size w w8) := B7.out.trans (b8 w.heap.size hle)
      have HO8 : Hid (HoldsF (upB 140737488351232) 96 w8 (fq2 + 1) ((longA ns n a2 a3).cells o6 c6) (longA ns n a2 a3)) := long_holds ns n a3 (by unfold upB; omega) hD hE (HO7.out.stays (fun b hb => h8 b (by omega)) (fun b hb => hb)).holds
      have C8 : Hid (w8.cell? ⟨w.heap.size, 0, none⟩ = some (.slice (some x) ns.length cap0)) := by
        unfold Hid
        rw [World.cell?_of_block (a := ⟨w.heap.size, 0, none⟩) (h8 w.heap.size (by omega))]
        exact C7.out
      have X8 : Hid (Bx w8 w2.heap.size a2 oq2 cq2) := ⟨(h8 w2.heap.size (by omega)).trans X7.out.blk⟩
      have Y8 : Hid (Bx w8 w6.heap.size (longA ns n a2 a3) o6 c6) := x8
      have HM2 : Hid (mayF ns (fq2 + 1) n (longA ns n a2 a3) = true) := may_long (may_of HMY.out) hn HF.out HL.out hD hE
      have HV : Hid (∀ v, Below w8.heap.size w8 v → Calls Try.prog 16 #[.agg #[.slice (some x) ns.length cap0], .int .i64 (n : Int), a2.val oq2 cq2] v fun r w' => ∃ ov cv, r = .returned (.tuple #[.slice ov (valsA ns (n : Int) (fq2 + 1) a2).length cv, .int .i64 0]) ∧ w'.ownsRow v.heap.size 9 1 (.slice ov (valsA ns (n : Int) (fq2 + 1) a2).length cv) (valsA ns (n : Int) (fq2 + 1) a2).length (Texts.cellsT (valsA ns (n : Int) (fq2 + 1) a2)) ∧ Below v.heap.size v w') := fun v hv => by
        have := valuesA 140737488351232 fq2 ns (some x) cap0 (n : Int) a2 oq2 cq2 v (HT.out.later (bel2 B8.out hv)) (HH.out.later (bel2 B8.out hv))
        rw [vals_error HMY.out hn HF.out] at this
        exact this
      have HV2 : Hid (∀ v, Below w8.heap.size w8 v → Calls Try.prog 16 #[.agg #[.slice (some x) ns.length cap0], .int .i64 (n : Int), (longA ns n a2 a3).val o6 c6] v fun r w' => ∃ ov cv, r = .returned (.tuple #[.slice ov (valsA ns (n : Int) (fq2 + 1) a2).length cv, .int .i64 0]) ∧ w'.ownsRow v.heap.size 9 1 (.slice ov (valsA ns (n : Int) (fq2 + 1) a2).length cv) (valsA ns (n : Int) (fq2 + 1) a2).length (Texts.cellsT (valsA ns (n : Int) (fq2 + 1) a2)) ∧ Below v.heap.size v w') := fun v hv => by
        have := valuesA (upB 140737488351232) fq2 ns (some x) cap0 (n : Int) (longA ns n a2 a3) o6 c6 v (HT.out.later (bel2 B8.out hv)) (HO8.out.later hv)
        rw [vals_error HMY.out hn HM2.out, vals_long HMY.out hn HF.out HL.out HM2.out] at this
        exact this
      have HP8 : Hid (∀ v, Below w8.heap.size w8 v → Calls Try.prog 9 #[.agg #[.slice (some x) ns.length cap0], .int .i64 (n : Int), (longA ns n a2 a3).val o6 c6] v fun r w' => r = .returned (.bool true) ∧ Below v.heap.size v w') := fun v hv => by
        have := HP.out v (longA ns n a2 a3) o6 c6 (bel2 B8.out hv) (HO8.out.later hv)
        rw [mayZ_kid HMY.out hn, HM2.out] at this
        exact this
      have hvn : (valsA ns (n : Int) (fq2 + 1) a2).length ≤ 140737488355328 := by
        unfold valsA
        split
        · rw [length_told]
          have h1 := (mayF_cases HF.out).1.rows
          have h2 := (mayF_cases HF.out).1.off
          omega
        · exact Nat.zero_le _
      clear c0 n0 y4 y5 f4 f5 x8 h8 b8 d0 d1 d2 d3 d4 d5 d6 q1 q2 q3 q4
      generalize longA ns n a2 a3 = lb at *
      generalize valsA ns (n : Int) (fq2 + 1) a2 = vs at *
      unfold Arr.val at HV HV2 HP8
      refine (HV.out w8 (Below.refl _ _)).mono ?_
      rintro e w9 ⟨ov, cv, rfl, hov, b9⟩
      have HTX9 : Hid (Texts.IsTx w9 ov vs) := Texts.own_texts hov
      have B9 : Hid (Below w8.heap.size w8 w9) := b9
      have Y9 : Hid (Bx w9 w6.heap.size lb o6 c6) := Y8.out.later b9
      have C9 : Hid (w9.cell? ⟨w.heap.size, 0, none⟩ = some (.slice (some x) ns.length cap0)) := cell_later b9 C8.out
      clear hov b9
      have c0 := C9.out
      have d0 := Y9.out.c0
      have d1 := Y9.out.c1
      have d2 := Y9.out.c2
      have d3 := Y9.out.c3
      have d4 := Y9.out.c4
      have d5 := Y9.out.c5
      have d6 := Y9.out.c6
      go_wp2_with fail
      refine (HV2.out w9 B9.out).mono ?_
      rintro e w10 ⟨ov2, cv2, rfl, hov, b10⟩
      have HTXa : Hid (Texts.IsTx w10 ov vs) := HTX9.out.later b10
      have HTXb : Hid (Texts.IsTx w10 ov2 vs) := Texts.own_texts hov
      have B10 : Hid (Below w8.heap.size w8 w10) := bel2 B9.out b10
      have Y10 : Hid (Bx w10 w6.heap.size lb o6 c6) := Y9.out.later b10
      have C10 : Hid (w10.cell? ⟨w.heap.size, 0, none⟩ = some (.slice (some x) ns.length cap0)) := cell_later b10 C9.out
      clear c0 d0 d1 d2 d3 d4 d5 d6 hov b10
      have c0 := C10.out
      have d0 := Y10.out.c0
      have d1 := Y10.out.c1
      have d2 := Y10.out.c2
      have d3 := Y10.out.c3
      have d4 := Y10.out.c4
      have d5 := Y10.out.c5
      have d6 := Y10.out.c6
      go_wp2_with fail
      refine (HP8.out w10 B10.out).mono ?_
      rintro e w11 ⟨rfl, b11⟩
      have HTXc : Hid (Texts.IsTx w11 ov vs) := HTXa.out.later b11
      have HTXd : Hid (Texts.IsTx w11 ov2 vs) := HTXb.out.later b11
      have B11 : Hid (Below w.heap.size w w11) := bel2 B8.out (bel2 B10.out b11)
      clear c0 d0 d1 d2 d3 d4 d5 d6 b11
      go_wp2_with fail
      refine (Val.sameTexts ov ov2 cv cv2 vs hvn w11 HTXc.out HTXd.out).mono ?_
      rintro e w12 ⟨rfl, b12⟩
      go_wp2
      go_ret
      exact ⟨rfl, bel2 B11.out b12⟩
  · have g3 : decide ((nd ns n).kind < 3) = false := decide_eq_false hk
    have HK : Hid (¬ (nd ns n).kind < 3) := hk
    clear hk
    by_cases he : a2.ends.size = 0
    · have HEV : Hid (a2.ends = ⟨#[]⟩) := empty_of he
      rw [HEV.out] at y4
      go_wp2_with fail
      obtain ⟨w8, e8, x8, h8, b8⟩ : ∃ w8, w7 = w8 ∧ Bx w8 w6.heap.size (longA ns n a2 a3) o6 c6 ∧ (∀ b, b ≠ w6.heap.size → w8.heap[b]? = w7.heap[b]?) ∧ (∀ B, B ≤ w6.heap.size → Below B w7 w8) := ⟨w7, rfl, by
        rw [show longA ns n a2 a3 = a2 from by unfold longA; rw [if_neg (show ¬ (nd ns n).kind < 3 from by have := HK.out; omega), if_pos he]; exact arr_eta a2]
        exact Y7.out, fun b hb => rfl, fun B hB => Below.refl _ _⟩
      rw [e8]
      clear e8 he g3
      have B8 : Hid (Below w.heap.size w w8) := B7.out.trans (b8 w.heap.size hle)
      have HO8 : Hid (HoldsF (upB 140737488351232) 96 w8 (fq2 + 1) ((longA ns n a2 a3).cells o6 c6) (longA ns n a2 a3)) := long_holds ns n a3 (by unfold upB; omega) hD hE (HO7.out.stays (fun b hb => h8 b (by omega)) (fun b hb => hb)).holds
      have C8 : Hid (w8.cell? ⟨w.heap.size, 0, none⟩ = some (.slice (some x) ns.length cap0)) := by
        unfold Hid
        rw [World.cell?_of_block (a := ⟨w.heap.size, 0, none⟩) (h8 w.heap.size (by omega))]
        exact C7.out
      have X8 : Hid (Bx w8 w2.heap.size a2 oq2 cq2) := ⟨(h8 w2.heap.size (by omega)).trans X7.out.blk⟩
      have Y8 : Hid (Bx w8 w6.heap.size (longA ns n a2 a3) o6 c6) := x8
      have HM2 : Hid (mayF ns (fq2 + 1) n (longA ns n a2 a3) = true) := may_long (may_of HMY.out) hn HF.out HL.out hD hE
      have HV : Hid (∀ v, Below w8.heap.size w8 v → Calls Try.prog 16 #[.agg #[.slice (some x) ns.length cap0], .int .i64 (n : Int), a2.val oq2 cq2] v fun r w' => ∃ ov cv, r = .returned (.tuple #[.slice ov (valsA ns (n : Int) (fq2 + 1) a2).length cv, .int .i64 0]) ∧ w'.ownsRow v.heap.size 9 1 (.slice ov (valsA ns (n : Int) (fq2 + 1) a2).length cv) (valsA ns (n : Int) (fq2 + 1) a2).length (Texts.cellsT (valsA ns (n : Int) (fq2 + 1) a2)) ∧ Below v.heap.size v w') := fun v hv => by
        have := valuesA 140737488351232 fq2 ns (some x) cap0 (n : Int) a2 oq2 cq2 v (HT.out.later (bel2 B8.out hv)) (HH.out.later (bel2 B8.out hv))
        rw [vals_error HMY.out hn HF.out] at this
        exact this
      have HV2 : Hid (∀ v, Below w8.heap.size w8 v → Calls Try.prog 16 #[.agg #[.slice (some x) ns.length cap0], .int .i64 (n : Int), (longA ns n a2 a3).val o6 c6] v fun r w' => ∃ ov cv, r = .returned (.tuple #[.slice ov (valsA ns (n : Int) (fq2 + 1) a2).length cv, .int .i64 0]) ∧ w'.ownsRow v.heap.size 9 1 (.slice ov (valsA ns (n : Int) (fq2 + 1) a2).length cv) (valsA ns (n : Int) (fq2 + 1) a2).length (Texts.cellsT (valsA ns (n : Int) (fq2 + 1) a2)) ∧ Below v.heap.size v w') := fun v hv => by
        have := valuesA (upB 140737488351232) fq2 ns (some x) cap0 (n : Int) (longA ns n a2 a3) o6 c6 v (HT.out.later (bel2 B8.out hv)) (HO8.out.later hv)
        rw [vals_error HMY.out hn HM2.out, vals_long HMY.out hn HF.out HL.out HM2.out] at this
        exact this
      have HP8 : Hid (∀ v, Below w8.heap.size w8 v → Calls Try.prog 9 #[.agg #[.slice (some x) ns.length cap0], .int .i64 (n : Int), (longA ns n a2 a3).val o6 c6] v fun r w' => r = .returned (.bool true) ∧ Below v.heap.size v w') := fun v hv => by
        have := HP.out v (longA ns n a2 a3) o6 c6 (bel2 B8.out hv) (HO8.out.later hv)
        rw [mayZ_kid HMY.out hn, HM2.out] at this
        exact this
      have hvn : (valsA ns (n : Int) (fq2 + 1) a2).length ≤ 140737488355328 := by
        unfold valsA
        split
        · rw [length_told]
          have h1 := (mayF_cases HF.out).1.rows
          have h2 := (mayF_cases HF.out).1.off
          omega
        · exact Nat.zero_le _
      clear c0 n0 y4 y5 f4 f5 x8 h8 b8 d0 d1 d2 d3 d4 d5 d6 q1 q2 q3 q4
      generalize longA ns n a2 a3 = lb at *
      generalize valsA ns (n : Int) (fq2 + 1) a2 = vs at *
      unfold Arr.val at HV HV2 HP8
      refine (HV.out w8 (Below.refl _ _)).mono ?_
      rintro e w9 ⟨ov, cv, rfl, hov, b9⟩
      have HTX9 : Hid (Texts.IsTx w9 ov vs) := Texts.own_texts hov
      have B9 : Hid (Below w8.heap.size w8 w9) := b9
      have Y9 : Hid (Bx w9 w6.heap.size lb o6 c6) := Y8.out.later b9
      have C9 : Hid (w9.cell? ⟨w.heap.size, 0, none⟩ = some (.slice (some x) ns.length cap0)) := cell_later b9 C8.out
      clear hov b9
      have c0 := C9.out
      have d0 := Y9.out.c0
      have d1 := Y9.out.c1
      have d2 := Y9.out.c2
      have d3 := Y9.out.c3
      have d4 := Y9.out.c4
      have d5 := Y9.out.c5
      have d6 := Y9.out.c6
      go_wp2_with fail
      refine (HV2.out w9 B9.out).mono ?_
      rintro e w10 ⟨ov2, cv2, rfl, hov, b10⟩
      have HTXa : Hid (Texts.IsTx w10 ov vs) := HTX9.out.later b10
      have HTXb : Hid (Texts.IsTx w10 ov2 vs) := Texts.own_texts hov
      have B10 : Hid (Below w8.heap.size w8 w10) := bel2 B9.out b10
      have Y10 : Hid (Bx w10 w6.heap.size lb o6 c6) := Y9.out.later b10
      have C10 : Hid (w10.cell? ⟨w.heap.size, 0, none⟩ = some (.slice (some x) ns.length cap0)) := cell_later b10 C9.out
      clear c0 d0 d1 d2 d3 d4 d5 d6 hov b10
      have c0 := C10.out
      have d0 := Y10.out.c0
      have d1 := Y10.out.c1
      have d2 := Y10.out.c2
      have d3 := Y10.out.c3
      have d4 := Y10.out.c4
      have d5 := Y10.out.c5
      have d6 := Y10.out.c6
      go_wp2_with fail
      refine (HP8.out w10 B10.out).mono ?_
      rintro e w11 ⟨rfl, b11⟩
      have HTXc : Hid (Texts.IsTx w11 ov vs) := HTXa.out.later b11
      have HTXd : Hid (Texts.IsTx w11 ov2 vs) := HTXb.out.later b11
      have B11 : Hid (Below w.heap.size w w11) := bel2 B8.out (bel2 B10.out b11)
      clear c0 d0 d1 d2 d3 d4 d5 d6 b11
      go_wp2_with fail
      refine (Val.sameTexts ov ov2 cv cv2 vs hvn w11 HTXc.out HTXd.out).mono ?_
      rintro e w12 ⟨rfl, b12⟩
      go_wp2
      go_ret
      exact ⟨rfl, bel2 B11.out b12⟩
    · have hev := ne_empty he
      go_wp2_with fail
      obtain ⟨w8, e8, x8, h8, b8⟩ := set_ends Y7.out (a2.ends ++ a3)
      rw [e8]
      rw [show ({ a2 with ends := a2.ends ++ a3 } : Arr.Arr) = longA ns n a2 a3 from by unfold longA; rw [if_neg (show ¬ (nd ns n).kind < 3 from by have := HK.out; omega), if_neg he]] at x8
      clear e8 he g3 hev
      have B8 : Hid (Below w.heap.size w w8) := B7.out.trans (b8 w.heap.size hle)
      have HO8 : Hid (HoldsF (upB 140737488351232) 96 w8 (fq2 + 1) ((longA ns n a2 a3).cells o6 c6) (longA ns n a2 a3)) := long_holds ns n a3 (by unfold upB; omega) hD hE (HO7.out.stays (fun b hb => h8 b (by omega)) (fun b hb => hb)).holds
      have C8 : Hid (w8.cell? ⟨w.heap.size, 0, none⟩ = some (.slice (some x) ns.length cap0)) := by
        unfold Hid
        rw [World.cell?_of_block (a := ⟨w.heap.size, 0, none⟩) (h8 w.heap.size (by omega))]
        exact C7.out
      have X8 : Hid (Bx w8 w2.heap.size a2 oq2 cq2) := ⟨(h8 w2.heap.size (by omega)).trans X7.out.blk⟩
      have Y8 : Hid (Bx w8 w6.heap.size (longA ns n a2 a3) o6 c6) := x8
      have HM2 : Hid (mayF ns (fq2 + 1) n (longA ns n a2 a3) = true) := may_long (may_of HMY.out) hn HF.out HL.out hD hE
      have HV : Hid (∀ v, Below w8.heap.size w8 v → Calls Try.prog 16 #[.agg #[.slice (some x) ns.length cap0], .int .i64 (n : Int), a2.val oq2 cq2] v fun r w' => ∃ ov cv, r = .returned (.tuple #[.slice ov (valsA ns (n : Int) (fq2 + 1) a2).length cv, .int .i64 0]) ∧ w'.ownsRow v.heap.size 9 1 (.slice ov (valsA ns (n : Int) (fq2 + 1) a2).length cv) (valsA ns (n : Int) (fq2 + 1) a2).length (Texts.cellsT (valsA ns (n : Int) (fq2 + 1) a2)) ∧ Below v.heap.size v w') := fun v hv => by
        have := valuesA 140737488351232 fq2 ns (some x) cap0 (n : Int) a2 oq2 cq2 v (HT.out.later (bel2 B8.out hv)) (HH.out.later (bel2 B8.out hv))
        rw [vals_error HMY.out hn HF.out] at this
        exact this
      have HV2 : Hid (∀ v, Below w8.heap.size w8 v → Calls Try.prog 16 #[.agg #[.slice (some x) ns.length cap0], .int .i64 (n : Int), (longA ns n a2 a3).val o6 c6] v fun r w' => ∃ ov cv, r = .returned (.tuple #[.slice ov (valsA ns (n : Int) (fq2 + 1) a2).length cv, .int .i64 0]) ∧ w'.ownsRow v.heap.size 9 1 (.slice ov (valsA ns (n : Int) (fq2 + 1) a2).length cv) (valsA ns (n : Int) (fq2 + 1) a2).length (Texts.cellsT (valsA ns (n : Int) (fq2 + 1) a2)) ∧ Below v.heap.size v w') := fun v hv => by
        have := valuesA (upB 140737488351232) fq2 ns (some x) cap0 (n : Int) (longA ns n a2 a3) o6 c6 v (HT.out.later (bel2 B8.out hv)) (HO8.out.later hv)
        rw [vals_error HMY.out hn HM2.out, vals_long HMY.out hn HF.out HL.out HM2.out] at this
        exact this
      have HP8 : Hid (∀ v, Below w8.heap.size w8 v → Calls Try.prog 9 #[.agg #[.slice (some x) ns.length cap0], .int .i64 (n : Int), (longA ns n a2 a3).val o6 c6] v fun r w' => r = .returned (.bool true) ∧ Below v.heap.size v w') := fun v hv => by
        have := HP.out v (longA ns n a2 a3) o6 c6 (bel2 B8.out hv) (HO8.out.later hv)
        rw [mayZ_kid HMY.out hn, HM2.out] at this
        exact this
      have hvn : (valsA ns (n : Int) (fq2 + 1) a2).length ≤ 140737488355328 := by
        unfold valsA
        split
        · rw [length_told]
          have h1 := (mayF_cases HF.out).1.rows
          have h2 := (mayF_cases HF.out).1.off
          omega
        · exact Nat.zero_le _
      clear c0 n0 y4 y5 f4 f5 x8 h8 b8 d0 d1 d2 d3 d4 d5 d6 q1 q2 q3 q4
      generalize longA ns n a2 a3 = lb at *
      generalize valsA ns (n : Int) (fq2 + 1) a2 = vs at *
      unfold Arr.val at HV HV2 HP8
      refine (HV.out w8 (Below.refl _ _)).mono ?_
      rintro e w9 ⟨ov, cv, rfl, hov, b9⟩
      have HTX9 : Hid (Texts.IsTx w9 ov vs) := Texts.own_texts hov
      have B9 : Hid (Below w8.heap.size w8 w9) := b9
      have Y9 : Hid (Bx w9 w6.heap.size lb o6 c6) := Y8.out.later b9
      have C9 : Hid (w9.cell? ⟨w.heap.size, 0, none⟩ = some (.slice (some x) ns.length cap0)) := cell_later b9 C8.out
      clear hov b9
      have c0 := C9.out
      have d0 := Y9.out.c0
      have d1 := Y9.out.c1
      have d2 := Y9.out.c2
      have d3 := Y9.out.c3
      have d4 := Y9.out.c4
      have d5 := Y9.out.c5
      have d6 := Y9.out.c6
      go_wp2_with fail
      refine (HV2.out w9 B9.out).mono ?_
      rintro e w10 ⟨ov2, cv2, rfl, hov, b10⟩
      have HTXa : Hid (Texts.IsTx w10 ov vs) := HTX9.out.later b10
      have HTXb : Hid (Texts.IsTx w10 ov2 vs) := Texts.own_texts hov
      have B10 : Hid (Below w8.heap.size w8 w10) := bel2 B9.out b10
      have Y10 : Hid (Bx w10 w6.heap.size lb o6 c6) := Y9.out.later b10
      have C10 : Hid (w10.cell? ⟨w.heap.size, 0, none⟩ = some (.slice (some x) ns.length cap0)) := cell_later b10 C9.out
      clear c0 d0 d1 d2 d3 d4 d5 d6 hov b10
      have c0 := C10.out
      have d0 := Y10.out.c0
      have d1 := Y10.out.c1
      have d2 := Y10.out.c2
      have d3 := Y10.out.c3
      have d4 := Y10.out.c4
      have d5 := Y10.out.c5
      have d6 := Y10.out.c6
      go_wp2_with fail
      refine (HP8.out w10 B10.out).mono ?_
      rintro e w11 ⟨rfl, b11⟩
      have HTXc : Hid (Texts.IsTx w11 ov vs) := HTXa.out.later b11
      have HTXd : Hid (Texts.IsTx w11 ov2 vs) := HTXb.out.later b11
      have B11 : Hid (Below w.heap.size w w11) := bel2 B8.out (bel2 B10.out b11)
      clear c0 d0 d1 d2 d3 d4 d5 d6 b11
      go_wp2_with fail
      refine (Val.sameTexts ov ov2 cv cv2 vs hvn w11 HTXc.out HTXd.out).mono ?_
      rintro e w12 ⟨rfl, b12⟩
      go_wp2
      go_ret
      exact ⟨rfl, bel2 B11.out b12⟩

set_option maxRecDepth 100000 in
theorem lifted (os : Os) (started : os.Started) (H : Type) (enc : TypeId × Value → H) :
    ReturnsInHanded {} Try.checked os 5 .any (Rows.arrayMoreSpec.pre6 enc Try.prog Try.f5 Rows.arrayMoreRow.domain false) (Rows.arrayMoreSpec.post enc Try.prog Try.f5 false true false false) := by
  refine returnsInHanded_of_change_sized (C := Try.checked) own started (by kernel_rfl) Try.func5
    (ChangeSpec.witness6 (enc := enc) (C := Try.checked) false ⟨#[], #[.agg #[.slice none 0 0], .int .i64 0, .agg #[.int .i64 0, .int .i64 0, .int .i64 0, .string ByteArray.empty, .string ByteArray.empty, .string ByteArray.empty, .slice none 0 0], .string ByteArray.empty], []⟩ 8 (by kernel_rfl) (by kernel_rfl) (by kernel_rfl) (by kernel_rfl)) ?_
  intro W base args ds gs before hval0 hW hcnd hsz0 _
  have hsz : (DataW.weightsEach Try.prog (Try.f5.params.toList ++ Rows.arrayMoreSpec.plain.varTypes Try.prog) (ds ++ gs)).all (· ≤ reachBytes) = true := hsz0
  clear hsz0
  have hval : ∀ (j : Nat) t v, Try.f5.params[j]? = some t → args[j]? = some v → Value.okWide Try.prog W .any base t v := hval0
  have hW' := hW
  obtain ⟨p, q, hA0, hV, rfl, hfz, hnd⟩ := hW
  have hA : DataW.TrodAll enc Try.prog W 0 (fun _ => true) true Try.f5.params.toList args.toList ds p := hA0
  rw [Try.params5] at hA hval hsz
  obtain ⟨v0, vs0, d0, ds0, p0, q0, hargs, rfl, rfl, h0, r0⟩ := trodAll_cons hA
  obtain ⟨v1, vs1, d1, ds1, p1, q1, rfl, rfl, rfl, h1, r1⟩ := trodAll_cons r0
  obtain ⟨v2, vs2, d2, ds2, p2, q2, rfl, rfl, rfl, h2, r2⟩ := trodAll_cons r1
  obtain ⟨v3, vs3, d3, ds3, p3, q3, rfl, rfl, rfl, h3, r3⟩ := trodAll_cons r2
  obtain ⟨rfl, rfl, rfl⟩ := trodAll_nil r3
  obtain rfl : args = #[v0, v1, v2, v3] := by cases args; simp_all
  obtain ⟨rfl, rfl⟩ := trodVars_none hV
  have k0 := h0
  have lt0 : ∀ x ∈ p0, x.block < W.heap.size := by obtain ⟨m, hm⟩ := k0; exact DataW.trod_lt m _ _ _ hm
  obtain ⟨a0, len0, cap0, z0, rfl, hp0, y0, dy0, hy0⟩ := Tree.open_type Try.underlying24 rfl rfl (by kernel_rfl) (by kernel_rfl) Try.underlying22 Try.underlying35 (by kernel_rfl) rfl rfl rfl (by kernel_rfl) (by kernel_rfl) (by kernel_rfl) Try.underlying3 Try.underlying3 Try.underlying4 (hval 0 24 v0 rfl rfl) h0
  have hs0 : cap0 * 24 ≤ 140737488351232 := by
    have := Tree.sized_type hsz (j := 0) rfl (congrArg some dy0) Try.underlying24 Try.underlying22 hy0
    rw [show Try.prog.bytesOf 35 = 24 from by kernel_rfl] at this
    unfold reachBytes at this
    omega
  obtain ⟨a1, rfl, rfl, rfl, hp1⟩ := open_int Try.underlying3 (hval 1 3 v1 rfl rfl) h1
  have k2 := h2
  have lt2 : ∀ x ∈ p2, x.block < W.heap.size := by obtain ⟨m, hm⟩ := k2; exact DataW.trod_lt m _ _ _ hm
  obtain ⟨fq2, a2, oq2, cq2, rfl, hp2⟩ := Arr.open_array (P := Try.prog) (T := 27) (S := 25) ⟨Try.underlying27, Try.underlying25, rfl, (by kernel_rfl), rfl, rfl, rfl, rfl, rfl, rfl, rfl, (by kernel_rfl), (by kernel_rfl), (by kernel_rfl), (by kernel_rfl), (by kernel_rfl), (by kernel_rfl), (by kernel_rfl), Try.underlying3, Try.underlying3, Try.underlying3, Try.underlying9, Try.underlying9, Try.underlying9⟩ (hval 2 27 v2 rfl rfl) h2 (Arr.sized_array hsz (j := 2) rfl rfl)
  rw [show Try.prog.bytesOf 27 = 96 from by kernel_rfl] at hp2
  obtain ⟨a3, rfl, rfl, rfl, hp3⟩ := open_string Try.underlying9 (hval 3 9 v3 rfl rfl) h3
  have hs3 : a3.size ≤ 140737488351232 := by have := sized_string hsz (j := 3) (t := 9) rfl rfl; simpa [reachBytes] using this
  clear hA0 hval0
  refine (walk a0 len0 cap0 z0 a1 fq2 a2 oq2 cq2 a3 W hp0 hs0 hp1 hp2 hp3 hs3).mono fun e W' ⟨he, bel⟩ => ?_
  subst he
  exact ⟨_, rfl, _, _, _, [], _, [], hW', trodAll_mk1 (shut_bool Try.underlying4 _), (trodAll_cons_mk (Below.trod laidOut (by kernel_rfl) (of_decide_eq_true (by kernel_rfl)) k0 bel lt0) (trodAll_cons_mk (shut_int Try.underlying3 hp1) (trodAll_cons_mk (Below.trod laidOut (by kernel_rfl) (of_decide_eq_true (by kernel_rfl)) k2 bel lt2) (trodAll_cons_mk (shut_string Try.underlying9 hp3) trodAll_mk0)))), rfl, bel.frame _, fun h => by cases h⟩

theorem over : Rows.arrayMoreRow.holds Try.pinned (OpenSpec.ofChange Rows.arrayMoreSpec) :=
  OpenClaim.holds_of_wide 5 Try.f5 rfl rfl rfl rfl rfl rfl rfl ⟨rfl, rfl, rfl, rfl, rfl⟩ rfl rfl rfl rfl rfl (by kernel_rfl) Try.func5 (by kernel_rfl)
    (of_decide_eq_true (by kernel_rfl)) (by unfold Func.isWrapper; first | (rw [if_pos (by decide +kernel)]; kernel_rfl) | (rw [if_neg (by decide +kernel)]; exact ⟨rfl, rfl⟩))
    (fun os started H enc _ => lifted os started H enc)

end Go.Proofs.Ytbekelnhlfghlaa.arrayMore
namespace Go.Proofs.Ytbekelnhlfghlaa
theorem arrayMore_holds : Rows.ArrayMoreSaid := arrayMore.over
#print axioms arrayMore_holds
end Go.Proofs.Ytbekelnhlfghlaa
