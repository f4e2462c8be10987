/-
  SliceRows: a slice's values are those rows'; a slice of a slice is one slice.
-/
import Derived.Test.YthbjeedmhgnnaaaGreatRows
import Derived.WalkKit
import Derived.ProofKit
import Derived.OpenShut
import Derived.ShutString
import Derived.ChangeOld
import Derived.Below
import Derived.SizedLaws
import Derived.Deep.QuietTactic
import Derived.WalkSmall
import Derived.BigQuiet
import Derived.Deep.RegionWith
import Derived.OwnWalk
import Derived.RegionTactic
import Derived.ChangeAlike
import Derived.Deep.CutBlock
import Derived.Maps.AppendAt
import Derived.OneCell
import Derived.Test.YthbjeedmhgnnaaaGreatB01
import Derived.Test.YthbjeedmhgnnaaaGreatB02
import Derived.Test.YthbjeedmhgnnaaaGreatB09
import Derived.Test.YthbjeedmhgnnaaaGreatB13
import Derived.Test.YthbjeedmhgnnaaaGreatB22
import Derived.Test.YthbjeedmhgnnaaaGreatB23
import Derived.Test.YthbjeedmhgnnaaaGreatB19
import Derived.Test.YthbjeedmhgnnaaaGreatB15
import Derived.Test.YthbjeedmhgnnaaaGreatB14
namespace Go.Proofs.YthbjeedmhgnnaaaGreat.sliceRows
open Go.ChangeShapes Go.WideShapes Go.ChangeAt Go.RowKit
open Go.ChangeMaps (open_string shut_string)
set_option linter.unusedVariables false

theorem own : ownKnob Tryz.prog.godebug = none := by kernel_rfl
theorem laidOut : laidOutB Tryz.prog = true := by kernel_rfl

open Tree Arr
theorem and10 (x : Int) : ∃ d : Nat, bits .and .i64 x 1023 = (d : Int) ∧ d < 1024 := ⟨(x % 1024).toNat, by rw [BitP.and10]; omega, by omega⟩
/-- A part's box, written over by the whole's numbers. -/
theorem back_box {w : World} {g : Nat} {a : Arr.Arr} {i j : Nat} {o : Option Addr} {c : Nat} (h : Bx w g (cutA a i j) o c) :
    ∃ w', (w.setCell ⟨g, 1, none⟩ (.int .i64 a.offset)).setCell ⟨g, 2, none⟩ (.int .i64 a.length) = w' ∧ Bx w' g a o c ∧ (∀ b, b ≠ g → w'.heap[b]? = w.heap[b]?) ∧ (∀ B, B ≤ g → Below B w w') := by
  refine ⟨_, rfl, ⟨?_⟩, fun b hb => ?_, fun B hB => ?_⟩
  · rw [blk_set (blk_set h.blk 1 _) 2 _]
    rfl
  · have q := fun (w : World) (j : Nat) (u : Value) => Below.heap_setCell w ⟨g, j, none⟩ u b hb
    rw [q, q]
  · exact ((Below.refl _ _).setCell hB _).setCell hB _
theorem uncut {B : Nat} {w : World} {f : Nat} {a : Arr.Arr} {o : Option Addr} {c : Nat} {i l : Nat} {ok : Nat → Prop} (h : HoldsO B w (f + 1) ok ((cutA a i l).cells o c) (cutA a i l)) (hk : a.ok B) : HoldsO B w (f + 1) ok (a.cells o c) a := by
  obtain ⟨o2, c2, e, _, h3, h4, h5⟩ := h
  have eo : o = o2 ∧ c = c2 := by
    unfold Arr.cells at e
    simp only [List.cons.injEq, Value.slice.injEq, and_true, true_and] at e
    exact e
  obtain ⟨rfl, rfl⟩ := eo
  exact ⟨o, c, rfl, hk, h3, h4, h5⟩
theorem cut_all {a : Arr.Arr} (h : 0 ≤ a.length) : cutA a 0 a.length.toNat = a := by
  cases a with
  | mk l o n v e d k =>
    have h' : 0 ≤ n := h
    unfold cutA
    simp only [Int.toNat_of_nonneg h', Int.natCast_zero, Int.add_zero]
theorem cut_cut (a : Arr.Arr) (i k j l : Nat) : cutA (cutA a i k) j l = cutA a (i + j) l := by
  unfold cutA
  simp only [Int.natCast_add, Int.add_assoc]
theorem up_le (B : Nat) : B ≤ upB B := by unfold upB; omega
/-- Spoiling what lies behind a world turns nothing of it. -/
theorem spd_below {n0 : Nat} {w5 w w' : World} (h : Spd (fun b => n0 ≤ b) w w') (hn : n0 = w5.heap.size) (hb : Below w5.heap.size w5 w) : Below w5.heap.size w5 w' := h.kept.down hb (fun k hk => by omega)
theorem told_part (G : Nat → List UInt8) (i k n : Nat) (h : i + k ≤ n) : ((told G n).drop i).take k = told (fun r => G (i + r)) k := by
  unfold told
  refine List.ext_getElem? fun r => ?_
  by_cases hr : r < k
  · rw [List.getElem?_take, if_pos hr, List.getElem?_drop, List.getElem?_map, List.getElem?_range (by omega), List.getElem?_map, List.getElem?_range hr]
    rfl
  · rw [List.getElem?_take, if_neg hr, List.getElem?_eq_none (by simp; omega)]
/-- A part of a list of texts. -/
theorem tx_part {w : World} {g i k : Nat} {ss : List ByteArray} (h : Texts.IsTx w (some ⟨g, 0, none⟩) ss) (hk : i + k ≤ ss.length) : Texts.IsTx w (some ⟨g, i, none⟩) ((ss.drop i).take k) := by
  have hlen : ((ss.drop i).take k).length = k := by rw [List.length_take, List.length_drop]; omega
  refine ⟨by rw [hlen]; have := h.1; omega, ?_⟩
  rcases h.2 with e | ⟨x, e, hl⟩
  · subst e
    simp at hk
    exact .inl (by simp)
  · obtain rfl : x = ⟨g, 0, none⟩ := by injection e with e; exact e.symm
    refine .inr ⟨_, rfl, fun r hr => ?_⟩
    rw [hlen] at hr
    have := hl (i + r) (by omega)
    have e2 : (⟨g, i, none⟩ : Addr).add r = (⟨g, 0, none⟩ : Addr).add (i + r) := by
      rw [add0]
      by_cases e : r = 0
      · subst e; simp [Addr.add]
      · simp [Addr.add, e]
    have e3 : ((ss.drop i).take k).getD r ByteArray.empty = ss.getD (i + r) ByteArray.empty := by rw [List.getD_eq_getElem?_getD, List.getD_eq_getElem?_getD, List.getElem?_take, if_pos hr, List.getElem?_drop]
    rw [e2, e3]
    exact this
set_option maxRecDepth 20000 in
set_option maxHeartbeats 4000000 in
theorem walk (a0 : Option Addr) (len0 cap0 : Nat) (z0 : List Tree.Nd) (a1 : Int) (fq2 : Nat) (a2 : Arr.Arr) (oq2 : Option Addr) (cq2 : Nat) (a3 : Int) (a4 : Int) (a5 : Int) (w : World) (hp0 : Tree.IsNodes w a0 len0 cap0 z0) (hs0 : cap0 * 24 ≤ 140737488351232) (hp1 : (Lit.int .i64 a1).wf = true) (hp2 : Hid (Arr.HoldsF 140737488351232 96 w (fq2 + 1) (a2.cells oq2 cq2) a2)) (hp3 : (Lit.int .i64 a3).wf = true) (hp4 : (Lit.int .i64 a4).wf = true) (hp5 : (Lit.int .i64 a5).wf = true) :
    Calls Tryz.prog 5 #[.agg #[.slice a0 len0 cap0], .int .i64 a1, a2.val oq2 cq2, .int .i64 a3, .int .i64 a4, .int .i64 a5] w fun e w' => e = .returned (.bool true) ∧ Below w.heap.size w w' := by
  obtain ⟨ns, rfl, hT, hlc, hco⟩ := isT_of hp0
  have HT : Hid (IsT w a0 ns) := hT
  obtain ⟨w1, e1, s1, c1, b1⟩ := boxed w (.slice a0 ns.length cap0) 27
  obtain ⟨w2, e2, x2, b2, z2⟩ := box7 w1 a2 oq2 cq2
  have HC2 : Hid (w2.cell? ⟨w.heap.size, 0, none⟩ = some (.slice a0 ns.length cap0)) := cell_later b2 c1
  have X2 : Hid (Bx w2 w1.heap.size a2 oq2 cq2) := x2
  have B2 : Hid (Below w.heap.size w w2) := bel2 b1 b2
  have HH : Hid (HoldsF 140737488351232 96 w (fq2 + 1) (a2.cells oq2 cq2) a2) := hp2
  have HZ : Hid (w.heap.size < w1.heap.size ∧ w1.heap.size < w2.heap.size) := ⟨s1, z2⟩
  clear hp0 hlc hco hT c1 b1 b2 x2 s1 z2 hp2
  have HVS : Hid (∀ v, Below w.heap.size w v → Calls Tryz.prog 20 #[.agg #[.slice a0 ns.length cap0], .int .i64 a1, a2.val oq2 cq2] v fun r w' => ∃ ov cv, r = .returned (.tuple #[.slice ov (valsA ns a1 (fq2 + 1) a2).length cv, .int .i64 (valsE ns a1 (fq2 + 1) a2)]) ∧ w'.ownsRow v.heap.size 9 1 (.slice ov (valsA ns a1 (fq2 + 1) a2).length cv) (valsA ns a1 (fq2 + 1) a2).length (Texts.cellsT (valsA ns a1 (fq2 + 1) a2)) ∧ Below v.heap.size v w') := fun v hv => valuesA 140737488351232 fq2 ns a0 cap0 a1 a2 oq2 cq2 v (HT.out.later hv) (HH.out.later hv)
  have HVA : Hid (valsA ns a1 (fq2 + 1) a2 = if mayZ ns a1 (fq2 + 1) a2 = true then told (rowF ns (fq2 + 1) a1.toNat a2) a2.length.toNat else []) := rfl
  have HVE : Hid (valsE ns a1 (fq2 + 1) a2 = if mayZ ns a1 (fq2 + 1) a2 = true then 0 else 900) := rfl
  have HZM : Hid (mayZ ns a1 (fq2 + 1) a2 = true → ∃ n : Nat, a1 = (n : Int) ∧ n < ns.length ∧ may ns = true ∧ mayF ns (fq2 + 1) n a2 = true ∧ Head ns n a2) := may_head
  have hb3 := bounds_i64 hp3
  have hb4 := bounds_i64 hp4
  have hb5 := bounds_i64 hp5
  unfold Arr.val at HVS ⊢
  go_enter Tryz.func5, Tryz.ntmps5
  go_wp2_with fail
  refine (awakeS w2).mono ?_
  rintro e w3 ⟨rfl, b3⟩
  have B3 : Hid (Below w.heap.size w w3) := bel2 B2.out b3
  have X3 : Hid (Bx w3 w1.heap.size a2 oq2 cq2) := X2.out.later b3
  have HC3 : Hid (w3.cell? ⟨w.heap.size, 0, none⟩ = some (.slice a0 ns.length cap0)) := cell_later b3 HC2.out
  clear b3 e1 e2
  have c3 := HC3.out
  have d0 := X3.out.c0
  have d1 := X3.out.c1
  have d2 := X3.out.c2
  have d3 := X3.out.c3
  have d4 := X3.out.c4
  have d5 := X3.out.c5
  have d6 := X3.out.c6
  by_cases hM : mayZ ns a1 (fq2 + 1) a2 = true
  rotate_left
  · have h1 := HVE.out
    rw [if_neg hM] at h1
    rw [h1] at HVS
    clear h1 hM HVE HVA HZM
    generalize valsA ns a1 (fq2 + 1) a2 = V at *
    go_wp2_with fail
    refine (HVS.out w3 B3.out).mono ?_
    rintro e w4 ⟨ov, cv, rfl, _, b4⟩
    go_wp2
    go_ret
    exact ⟨rfl, bel2 B3.out b4⟩
  obtain ⟨n, rfl, hn, hm, hF, hHd⟩ := HZM.out hM
  have HMZ : Hid (mayZ ns (n : Int) (fq2 + 1) a2 = true) := hM
  have HMF : Hid (May ns ∧ mayF ns (fq2 + 1) n a2 = true ∧ may ns = true) := ⟨may_of hm, hF, hm⟩
  have hq0 := hHd.len
  have hq1 := hHd.off
  have hq2 := hHd.rows
  obtain ⟨L, hL⟩ : ∃ L : Nat, a2.length = (L : Int) := ⟨a2.length.toNat, by omega⟩
  have HLL : Hid (a2.length = (L : Int)) := hL
  have HL64 : Hid (L ≤ 64) := by unfold Hid; omega
  have hoff2 : a2.offset + (L : Int) ≤ 64 := by omega
  have h1 := HVE.out
  rw [if_pos hM] at h1
  have h2 := HVA.out
  rw [if_pos hM, Int.toNat_natCast, hL, Int.toNat_natCast] at h2
  have hlen : (valsA ns (n : Int) (fq2 + 1) a2).length = L := by rw [h2, length_told]
  have HV2 : Hid (valsA ns (n : Int) (fq2 + 1) a2 = told (rowF ns (fq2 + 1) n a2) L) := h2
  rw [h1, hlen] at HVS
  have hlen2 : Hid ((valsA ns (n : Int) (fq2 + 1) a2).length = L) := hlen
  have HIN : Hid (∀ (A : Arr.Arr) (i c : Int), mayZ ns (n : Int) (fq2 + 1) A = true → inRange A i c → slE ns (n : Int) (fq2 + 1) A i c = 0 ∧ slA ns (n : Int) (fq2 + 1) A i c = cutA A i.toNat c.toNat) := fun A i c h h' => by
    have e : slE ns (n : Int) (fq2 + 1) A i c = 0 := by unfold slE; rw [if_neg (by rw [h]; simp), if_pos h']
    exact ⟨e, by unfold slA; rw [if_pos e]⟩
  clear h1 h2 hlen hM hF hHd hm HVE HVA HZM hL hq0 hq2
  generalize valsA ns (n : Int) (fq2 + 1) a2 = V at *
  have hl64 : (L : Int) ≤ 64 := by have := HL64.out; omega
  have hl0 : (0 : Int) ≤ (L : Int) := Int.natCast_nonneg _
  go_wp2_with fail
  refine (HVS.out w3 B3.out).mono ?_
  rintro e w4 ⟨ov, cv, rfl, hown, b4⟩
  have HOW : Hid (w4.ownsRow w3.heap.size 9 1 (.slice ov L cv) L (Texts.cellsT V)) := hown
  have B4 : Hid (Below w.heap.size w w4) := bel2 B3.out b4
  have X4 : Hid (Bx w4 w1.heap.size a2 oq2 cq2) := X3.out.later b4
  have HC4 : Hid (w4.cell? ⟨w.heap.size, 0, none⟩ = some (.slice a0 ns.length cap0)) := cell_later b4 HC3.out
  clear hown b4 c3 d0 d1 d2 d3 d4 d5 d6 HVS
  obtain ⟨i, hi, hi0, hi1⟩ := BitP.rest a3 ((L : Int) + 1) (by omega)
  obtain ⟨i, rfl⟩ := Int.eq_ofNat_of_zero_le hi0
  obtain ⟨k, hk, hk0, hk1⟩ := BitP.rest a4 ((L : Int) - (i : Int) + 1) (by omega)
  obtain ⟨k, rfl⟩ := Int.eq_ofNat_of_zero_le hk0
  obtain ⟨j, hj, hj0, hj1⟩ := BitP.rest a5 ((k : Int) + 1) (by omega)
  obtain ⟨j, rfl⟩ := Int.eq_ofNat_of_zero_le hj0
  obtain ⟨m, hm⟩ : ∃ m : Nat, (k : Int) - (j : Int) = (m : Int) := ⟨k - j, by omega⟩
  have HIK : Hid (i + k ≤ L ∧ j + m = k) := by unfold Hid; omega
  have HMX : Hid (mayF ns (fq2 + 1) n (cutA a2 i k) = true) := may_part HMF.out.2.1 i k (by have := HLL.out; have := HIK.out; omega)
  have HMXZ : Hid (mayZ ns (n : Int) (fq2 + 1) (cutA a2 i k) = true) := by unfold Hid; rw [mayZ_kid HMF.out.2.2 hn]; exact HMX.out
  have HSX : Hid (Calls Tryz.prog 15 #[.agg #[.slice a0 ns.length cap0], .int .i64 (n : Int), a2.val oq2 cq2, .int .i64 (i : Int), .int .i64 (k : Int)] w4 fun r w' => ∃ o' c', r = .returned (.tuple #[(cutA a2 i k).val o' c', .int .i64 0]) ∧ HoldsO 140737488351232 w' (fq2 + 1) (fun b => w4.heap.size ≤ b) ((cutA a2 i k).cells o' c') (cutA a2 i k) ∧ Below w4.heap.size w4 w') := by
    have := sliceP 140737488351232 fq2 ns a0 cap0 n a2 oq2 cq2 i k (WalkArith.wf_i64 (by omega)) (WalkArith.wf_i64 (by omega)) w4 (HT.out.later B4.out) (HH.out.later B4.out)
    obtain ⟨q1, q2⟩ := HIN.out a2 i k HMZ.out ⟨by omega, by omega, by have := HLL.out; omega⟩
    unfold SlQ at this
    rw [q2, q1] at this
    exact this
  have HSY : Hid (∀ v o c, Below w.heap.size w v → HoldsF (upB 140737488351232) 96 v (fq2 + 1) ((cutA a2 i k).cells o c) (cutA a2 i k) → Calls Tryz.prog 15 #[.agg #[.slice a0 ns.length cap0], .int .i64 (n : Int), (cutA a2 i k).val o c, .int .i64 (j : Int), .int .i64 (m : Int)] v fun r w' => ∃ o' c', r = .returned (.tuple #[(cutA a2 (i + j) m).val o' c', .int .i64 0]) ∧ HoldsO (upB 140737488351232) w' (fq2 + 1) (fun b => v.heap.size ≤ b) ((cutA a2 (i + j) m).cells o' c') (cutA a2 (i + j) m) ∧ Below v.heap.size v w') := fun v o c hv h => by
    have := sliceP _ fq2 ns a0 cap0 n (cutA a2 i k) o c j m (WalkArith.wf_i64 (by omega)) (WalkArith.wf_i64 (by omega)) v (HT.out.later hv) h
    obtain ⟨q1, q2⟩ := HIN.out (cutA a2 i k) j m HMXZ.out ⟨by omega, by omega, by show (m : Int) ≤ (k : Int) - (j : Int); omega⟩
    unfold SlQ at this
    rw [q2, q1, Int.toNat_natCast, Int.toNat_natCast, cut_cut] at this
    exact this
  have HSZ : Hid (∀ v, Below w.heap.size w v → Calls Tryz.prog 15 #[.agg #[.slice a0 ns.length cap0], .int .i64 (n : Int), a2.val oq2 cq2, .int .i64 ((i : Int) + (j : Int)), .int .i64 (m : Int)] v fun r w' => ∃ o' c', r = .returned (.tuple #[(cutA a2 (i + j) m).val o' c', .int .i64 0]) ∧ HoldsO 140737488351232 w' (fq2 + 1) (fun b => v.heap.size ≤ b) ((cutA a2 (i + j) m).cells o' c') (cutA a2 (i + j) m) ∧ Below v.heap.size v w') := fun v hv => by
    have := sliceP 140737488351232 fq2 ns a0 cap0 n a2 oq2 cq2 ((i : Int) + (j : Int)) m (WalkArith.wf_i64 (by omega)) (WalkArith.wf_i64 (by omega)) v (HT.out.later hv) (HH.out.later hv)
    obtain ⟨q1, q2⟩ := HIN.out a2 ((i : Int) + (j : Int)) m HMZ.out ⟨by omega, by omega, by have := HLL.out; omega⟩
    unfold SlQ at this
    rw [q2, q1, show ((i : Int) + (j : Int)).toNat = i + j from by omega, Int.toNat_natCast] at this
    exact this
  have HWV : Hid (∀ v o c, Below w.heap.size w v → HoldsF (upB 140737488351232) 96 v (fq2 + 1) ((cutA a2 i k).cells o c) (cutA a2 i k) → Calls Tryz.prog 20 #[.agg #[.slice a0 ns.length cap0], .int .i64 (n : Int), (cutA a2 i k).val o c] v fun r w' => ∃ ov cv, r = .returned (.tuple #[.slice ov k cv, .int .i64 0]) ∧ Texts.IsTx w' ov ((V.drop i).take k) ∧ Below v.heap.size v w') := fun v o c hv h => by
    have := valuesA _ fq2 ns a0 cap0 n (cutA a2 i k) o c v (HT.out.later hv) h
    have e1 : valsE ns (n : Int) (fq2 + 1) (cutA a2 i k) = 0 := by unfold valsE; rw [if_pos HMXZ.out]
    have e2 : valsA ns (n : Int) (fq2 + 1) (cutA a2 i k) = (V.drop i).take k := by
      unfold valsA
      rw [if_pos HMXZ.out, HV2.out, told_part _ i k L HIK.out.1, Int.toNat_natCast]
      show told _ ((k : Int).toNat) = _
      rw [Int.toNat_natCast]
      congr 1
      funext r
      exact row_part hq1 i k r
    have e3 : ((V.drop i).take k).length = k := by rw [List.length_take, List.length_drop, hlen2.out]; have := HIK.out; omega
    rw [e1, e2] at this
    rw [e3] at this
    refine this.mono ?_
    rintro e w' ⟨ov, cv, h1, h2, h3⟩
    have h4 : w'.ownsRow v.heap.size 9 1 (.slice ov ((V.drop i).take k).length cv) ((V.drop i).take k).length (Texts.cellsT ((V.drop i).take k)) := by rw [e3]; exact h2
    exact ⟨ov, cv, h1, Texts.own_texts h4, h3⟩
  generalize hX : cutA a2 i k = X at *
  generalize cutA a2 (i + j) m = Q at *
  clear hX HIN HMX HMXZ HMZ HLL
  unfold Arr.val at HSX HSY HSZ HWV
  have c4 := HC4.out
  have d0 := X4.out.c0
  have d1 := X4.out.c1
  have d2 := X4.out.c2
  have d3 := X4.out.c3
  have d4 := X4.out.c4
  have d5 := X4.out.c5
  have d6 := X4.out.c6
  go_wp2_with fail
  refine HSX.out.mono ?_
  rintro e u1 ⟨o1, c1, rfl, hkp, bb⟩
  have HK1 : Hid (HoldsO 140737488351232 u1 (fq2 + 1) (fun b => w4.heap.size ≤ b) (X.cells o1 c1) X) := hkp
  have BU1 : Hid (Below w4.heap.size w4 u1) := bb
  clear hkp bb c4 d0 d1 d2 d3 d4 d5 d6 HSX hi hk hj
  obtain ⟨wal, eal', xal, bal, zal⟩ := box7 u1 nil none 0
  have eal : u1.alloc (.cells #[.int .i64 0, .int .i64 0, .int .i64 0, .string ⟨#[]⟩, .string ⟨#[]⟩, .string ⟨#[]⟩, .slice none 0 0] 30) = wal := eal'
  have m0 := xal.c0
  have m1 := xal.c1
  have m2 := xal.c2
  have m3 := xal.c3
  have m4 := xal.c4
  have m5 := xal.c5
  have m6 := xal.c6
  have f0 := xal.fz 0
  have f1 := xal.fz 1
  have f2 := xal.fz 2
  have f3 := xal.fz 3
  have f4 := xal.fz 4
  have f5 := xal.fz 5
  have f6 := xal.fz 6
  obtain ⟨t1, efl, xfl, hfl, bfl⟩ := set7 xal X o1 c1
  have YX1 : Hid (Bx t1 u1.heap.size X o1 c1) := xfl
  have BV1 : Hid (Below u1.heap.size u1 t1) := bal.trans (bfl _ (Nat.le_refl _))
  unfold nil at m0 m1 m2 m3 m4 m5 m6
  clear eal' xal bal zal xfl hfl bfl
  go_upto_region 10 with fail
  try rw [efl]
  clear efl eal m0 m1 m2 m3 m4 m5 m6 f0 f1 f2 f3 f4 f5 f6
  have BT1 : Hid (Below w4.heap.size w4 t1) := bel2 BU1.out BV1.out
  have BW1 : Hid (Below w.heap.size w t1) := bel2 B4.out BT1.out
  have HX1 : Hid (HoldsF (upB 140737488351232) 96 t1 (fq2 + 1) (X.cells o1 c1) X) := HK1.out.holds.later BV1.out
  have c4 := cell_later BT1.out HC4.out
  have d0 := YX1.out.c0
  have d1 := YX1.out.c1
  have d2 := YX1.out.c2
  have d3 := YX1.out.c3
  have d4 := YX1.out.c4
  have d5 := YX1.out.c5
  have d6 := YX1.out.c6
  go_wp2_with fail
  refine (HSY.out t1 o1 c1 BW1.out HX1.out).mono ?_
  rintro e u2 ⟨o2, c2, rfl, hkp, bb⟩
  have HK2 : Hid (HoldsO (upB 140737488351232) u2 (fq2 + 1) (fun b => t1.heap.size ≤ b) (Q.cells o2 c2) Q) := hkp
  have BU2 : Hid (Below t1.heap.size t1 u2) := bb
  clear hkp bb c4 d0 d1 d2 d3 d4 d5 d6 HSY
  obtain ⟨wal, eal', xal, bal, zal⟩ := box7 u2 nil none 0
  have eal : u2.alloc (.cells #[.int .i64 0, .int .i64 0, .int .i64 0, .string ⟨#[]⟩, .string ⟨#[]⟩, .string ⟨#[]⟩, .slice none 0 0] 30) = wal := eal'
  have m0 := xal.c0
  have m1 := xal.c1
  have m2 := xal.c2
  have m3 := xal.c3
  have m4 := xal.c4
  have m5 := xal.c5
  have m6 := xal.c6
  have f0 := xal.fz 0
  have f1 := xal.fz 1
  have f2 := xal.fz 2
  have f3 := xal.fz 3
  have f4 := xal.fz 4
  have f5 := xal.fz 5
  have f6 := xal.fz 6
  obtain ⟨t2, efl, xfl, hfl, bfl⟩ := set7 xal Q o2 c2
  have YX2 : Hid (Bx t2 u2.heap.size Q o2 c2) := xfl
  have BV2 : Hid (Below u2.heap.size u2 t2) := bal.trans (bfl _ (Nat.le_refl _))
  unfold nil at m0 m1 m2 m3 m4 m5 m6
  clear eal' xal bal zal xfl hfl bfl
  go_upto_region 11 with fail
  try rw [efl]
  clear efl eal m0 m1 m2 m3 m4 m5 m6 f0 f1 f2 f3 f4 f5 f6
  have BT2 : Hid (Below t1.heap.size t1 t2) := bel2 BU2.out BV2.out
  have BW2 : Hid (Below w.heap.size w t2) := bel2 BW1.out BT2.out
  have B42 : Hid (Below w4.heap.size w4 t2) := bel2 BT1.out BT2.out
  have c4 := cell_later B42.out HC4.out
  have XA2 : Hid (Bx t2 w1.heap.size a2 oq2 cq2) := X4.out.later B42.out
  have d0 := XA2.out.c0
  have d1 := XA2.out.c1
  have d2 := XA2.out.c2
  have d3 := XA2.out.c3
  have d4 := XA2.out.c4
  have d5 := XA2.out.c5
  have d6 := XA2.out.c6
  go_wp2_with fail
  refine (HSZ.out t2 BW2.out).mono ?_
  rintro e u3 ⟨o3, c3, rfl, hkp, bb⟩
  have HK3 : Hid (HoldsO 140737488351232 u3 (fq2 + 1) (fun b => t2.heap.size ≤ b) (Q.cells o3 c3) Q) := hkp
  have BU3 : Hid (Below t2.heap.size t2 u3) := bb
  clear hkp bb c4 d0 d1 d2 d3 d4 d5 d6 HSZ
  obtain ⟨wal, eal', xal, bal, zal⟩ := box7 u3 nil none 0
  have eal : u3.alloc (.cells #[.int .i64 0, .int .i64 0, .int .i64 0, .string ⟨#[]⟩, .string ⟨#[]⟩, .string ⟨#[]⟩, .slice none 0 0] 30) = wal := eal'
  have m0 := xal.c0
  have m1 := xal.c1
  have m2 := xal.c2
  have m3 := xal.c3
  have m4 := xal.c4
  have m5 := xal.c5
  have m6 := xal.c6
  have f0 := xal.fz 0
  have f1 := xal.fz 1
  have f2 := xal.fz 2
  have f3 := xal.fz 3
  have f4 := xal.fz 4
  have f5 := xal.fz 5
  have f6 := xal.fz 6
  obtain ⟨t3, efl, xfl, hfl, bfl⟩ := set7 xal Q o3 c3
  have YX3 : Hid (Bx t3 u3.heap.size Q o3 c3) := xfl
  have BV3 : Hid (Below u3.heap.size u3 t3) := bal.trans (bfl _ (Nat.le_refl _))
  unfold nil at m0 m1 m2 m3 m4 m5 m6
  clear eal' xal bal zal xfl hfl bfl
  go_upto_region 12 with fail
  try rw [efl]
  clear efl eal m0 m1 m2 m3 m4 m5 m6 f0 f1 f2 f3 f4 f5 f6
  have BT3 : Hid (Below t2.heap.size t2 t3) := bel2 BU3.out BV3.out
  have BW3 : Hid (Below w.heap.size w t3) := bel2 BW2.out BT3.out
  have B13 : Hid (Below t1.heap.size t1 t3) := bel2 BT2.out BT3.out
  have B43 : Hid (Below w4.heap.size w4 t3) := bel2 B42.out BT3.out
  have c4 := cell_later B43.out HC4.out
  have XX3 : Hid (Bx t3 u1.heap.size X o1 c1) := YX1.out.later B13.out
  have d0 := XX3.out.c0
  have d1 := XX3.out.c1
  have d2 := XX3.out.c2
  have d3 := XX3.out.c3
  have d4 := XX3.out.c4
  have d5 := XX3.out.c5
  have d6 := XX3.out.c6
  go_wp2_with fail
  refine (HWV.out t3 o1 c1 BW3.out (HX1.out.later B13.out)).mono ?_
  rintro e t4 ⟨ow, cw, rfl, htx, bb⟩
  have HTX : Hid (Texts.IsTx t4 ow ((V.drop i).take k)) := htx
  have BT4 : Hid (Below t3.heap.size t3 t4) := bb
  have BW4 : Hid (Below w.heap.size w t4) := bel2 BW3.out bb
  have B44 : Hid (Below w4.heap.size w4 t4) := bel2 B43.out bb
  clear htx bb c4 d0 d1 d2 d3 d4 d5 d6 HWV
  go_wp2_with fail
  refine (Tree.num _ _).mono ?_
  rintro e wx ⟨rfl, hv⟩
  subst wx
  go_wp2_with fail
  refine (Tree.num _ _).mono ?_
  rintro e wx ⟨rfl, hv⟩
  subst wx
  go_wp2_with fail
  refine (Tree.num _ _).mono ?_
  rintro e wx ⟨rfl, hv⟩
  subst wx
  have HPL : Hid (((V.drop i).take k).length = k) := by unfold Hid; rw [List.length_take, List.length_drop, hlen2.out]; have := HIK.out; omega
  have HSAM : Hid (∀ v o' c', Below t4.heap.size t4 v → Texts.IsTx v o' ((V.drop i).take k) → Calls Tryz.prog 21 #[.slice ow k cw, .slice o' k c'] v fun r w' => r = .returned (.bool true) ∧ Below v.heap.size v w') := fun v o' c' hv h => by
    have := Val.sameTexts ow o' cw c' ((V.drop i).take k) (by rw [HPL.out]; have := HIK.out; have := HL64.out; omega) v (HTX.out.later hv) h
    rw [HPL.out] at this
    exact this
  have HQQ : Hid (∀ v, Below t4.heap.size t4 v → Calls Tryz.prog 17 #[Q.val o2 c2, Q.val o3 c3] v fun r w' => r = .returned (.bool true) ∧ Below v.heap.size v w') := fun v hv => sameA _ 96 (fq2 + 1) Q o2 c2 o3 c3 v (HK2.out.holds.later (bel2 BV2.out (bel2 BT3.out (bel2 BT4.out hv)))) (HoldsF.up (up_le _) (HK3.out.holds.later (bel2 BV3.out (bel2 BT4.out hv))))
  unfold Arr.val at HQQ
  have Y2 : Hid (∀ v, Below t4.heap.size t4 v → Bx v u2.heap.size Q o2 c2) := fun v hv => YX2.out.later (bel2 BT3.out (bel2 BT4.out hv))
  have Y3 : Hid (∀ v, Below t4.heap.size t4 v → Bx v u3.heap.size Q o3 c3) := fun v hv => YX3.out.later (bel2 BT4.out hv)
  have i0 : (0 : Int) ≤ (i : Int) := Int.natCast_nonneg _
  have k0 : (0 : Int) ≤ (k : Int) := Int.natCast_nonneg _
  have ik : (i : Int) + (k : Int) ≤ (L : Int) := by have := HIK.out; omega
  have HEND : Hid (∀ v, Below t4.heap.size t4 v → Below w.heap.size w v) := fun v hv => bel2 BW4.out hv
  rcases HOW.out.2 with ⟨e1, e0⟩ | ⟨g, cap, cur, e1, _, hblk, hle, hmx, _⟩
  · injection e1 with q1 q2 q3
    subst q1 q3
    have HL0 : Hid (L = 0) := e0
    obtain ⟨rfl, rfl⟩ : i = 0 ∧ k = 0 := by omega
    have HT0 : Hid (Texts.IsTx t4 none ((V.drop 0).take 0)) := ⟨by simp, .inl (by simp)⟩
    clear HOW
    subst e0
    go_wp2_with fail
    refine (HSAM.out t4 none _ (Below.refl _ _) HT0.out).mono ?_
    rintro e w10 ⟨rfl, b10⟩
    have BX : Hid (Below t4.heap.size t4 w10) := b10
    have d0 := (Y2.out w10 b10).c0
    have d1 := (Y2.out w10 b10).c1
    have d2 := (Y2.out w10 b10).c2
    have d3 := (Y2.out w10 b10).c3
    have d4 := (Y2.out w10 b10).c4
    have d5 := (Y2.out w10 b10).c5
    have d6 := (Y2.out w10 b10).c6
    have gg0 := (Y3.out w10 b10).c0
    have gg1 := (Y3.out w10 b10).c1
    have gg2 := (Y3.out w10 b10).c2
    have gg3 := (Y3.out w10 b10).c3
    have gg4 := (Y3.out w10 b10).c4
    have gg5 := (Y3.out w10 b10).c5
    have gg6 := (Y3.out w10 b10).c6
    clear b10
    go_wp2_with fail
    refine (HQQ.out w10 BX.out).mono ?_
    rintro e w11 ⟨rfl, b11⟩
    have BY : Hid (Below t4.heap.size t4 w11) := bel2 BX.out b11
    clear b11
    go_wp2
    go_ret
    exact ⟨rfl, HEND.out _ BY.out⟩
  · injection e1 with q1 q2 q3
    subst q1 q3
    have HTV : Hid (Texts.IsTx w4 (some ⟨g, 0, none⟩) V) := by
      have h := HOW.out
      rw [← hlen2.out] at h
      exact Texts.own_texts h
    have HT1 : Hid (Texts.IsTx t4 (some ⟨g, i, none⟩) ((V.drop i).take k)) := (tx_part HTV.out (by rw [hlen2.out]; exact HIK.out.1)).later B44.out
    have hcl : (L : Int) ≤ (cv : Int) := by omega
    have hcm : (cv : Int) ≤ 9223372036854775807 := by unfold maxLen at hmx; omega
    clear HOW hblk
    by_cases hic : i = cv
    · have hk00 : k = 0 := by omega
      subst hk00
      have HT0 : Hid (Texts.IsTx t4 (some ⟨g, 0, none⟩) ((V.drop i).take 0)) := ⟨by simp, .inl (by simp)⟩
      subst hic
      go_wp2_with fail
      refine (HSAM.out t4 _ _ (Below.refl _ _) HT0.out).mono ?_
      rintro e w10 ⟨rfl, b10⟩
      have BX : Hid (Below t4.heap.size t4 w10) := b10
      have d0 := (Y2.out w10 b10).c0
      have d1 := (Y2.out w10 b10).c1
      have d2 := (Y2.out w10 b10).c2
      have d3 := (Y2.out w10 b10).c3
      have d4 := (Y2.out w10 b10).c4
      have d5 := (Y2.out w10 b10).c5
      have d6 := (Y2.out w10 b10).c6
      have gg0 := (Y3.out w10 b10).c0
      have gg1 := (Y3.out w10 b10).c1
      have gg2 := (Y3.out w10 b10).c2
      have gg3 := (Y3.out w10 b10).c3
      have gg4 := (Y3.out w10 b10).c4
      have gg5 := (Y3.out w10 b10).c5
      have gg6 := (Y3.out w10 b10).c6
      clear b10
      go_wp2_with fail
      refine (HQQ.out w10 BX.out).mono ?_
      rintro e w11 ⟨rfl, b11⟩
      have BY : Hid (Below t4.heap.size t4 w11) := bel2 BX.out b11
      clear b11
      go_wp2
      go_ret
      exact ⟨rfl, HEND.out _ BY.out⟩
    · have hil : (i : Int) < (cv : Int) := by omega
      go_wp2_with fail
      refine (HSAM.out t4 _ _ (Below.refl _ _) HT1.out).mono ?_
      rintro e w10 ⟨rfl, b10⟩
      have BX : Hid (Below t4.heap.size t4 w10) := b10
      have d0 := (Y2.out w10 b10).c0
      have d1 := (Y2.out w10 b10).c1
      have d2 := (Y2.out w10 b10).c2
      have d3 := (Y2.out w10 b10).c3
      have d4 := (Y2.out w10 b10).c4
      have d5 := (Y2.out w10 b10).c5
      have d6 := (Y2.out w10 b10).c6
      have gg0 := (Y3.out w10 b10).c0
      have gg1 := (Y3.out w10 b10).c1
      have gg2 := (Y3.out w10 b10).c2
      have gg3 := (Y3.out w10 b10).c3
      have gg4 := (Y3.out w10 b10).c4
      have gg5 := (Y3.out w10 b10).c5
      have gg6 := (Y3.out w10 b10).c6
      clear b10
      go_wp2_with fail
      refine (HQQ.out w10 BX.out).mono ?_
      rintro e w11 ⟨rfl, b11⟩
      have BY : Hid (Below t4.heap.size t4 w11) := bel2 BX.out b11
      clear b11
      go_wp2
      go_ret
      exact ⟨rfl, HEND.out _ BY.out⟩

set_option maxRecDepth 100000 in
theorem lifted (os : Os) (started : os.Started) (H : Type) (enc : TypeId × Value → H) :
    ReturnsInHanded {} Tryz.checked os 5 .any (Rows.sliceRowsSpec.pre6 enc Tryz.prog Tryz.f5 Rows.sliceRowsRow.domain false) (Rows.sliceRowsSpec.post enc Tryz.prog Tryz.f5 false true false false) := by
  refine returnsInHanded_of_change_sized (C := Tryz.checked) own started (by kernel_rfl) Tryz.func5
    (ChangeSpec.witness6 (enc := enc) (C := Tryz.checked) false ⟨#[], #[.agg #[.slice none 0 0], .int .i64 0, .agg #[.int .i64 0, .int .i64 0, .int .i64 0, .string ByteArray.empty, .string ByteArray.empty, .string ByteArray.empty, .slice none 0 0], .int .i64 0, .int .i64 0, .int .i64 0], []⟩ 8 (by kernel_rfl) (by kernel_rfl) (by kernel_rfl) (by kernel_rfl)) ?_
  intro W base args ds gs before hval0 hW hcnd hsz0 _
  have hsz : (DataW.weightsEach Tryz.prog (Tryz.f5.params.toList ++ Rows.sliceRowsSpec.plain.varTypes Tryz.prog) (ds ++ gs)).all (· ≤ reachBytes) = true := hsz0
  clear hsz0
  have hval : ∀ (j : Nat) t v, Tryz.f5.params[j]? = some t → args[j]? = some v → Value.okWide Tryz.prog W .any base t v := hval0
  have hW' := hW
  obtain ⟨p, q, hA0, hV, rfl, hfz, hnd⟩ := hW
  have hA : DataW.TrodAll enc Tryz.prog W 0 (fun _ => true) true Tryz.f5.params.toList args.toList ds p := hA0
  rw [Tryz.params5] at hA hval hsz
  obtain ⟨v0, vs0, d0, ds0, p0, q0, hargs, rfl, rfl, h0, r0⟩ := trodAll_cons hA
  obtain ⟨v1, vs1, d1, ds1, p1, q1, rfl, rfl, rfl, h1, r1⟩ := trodAll_cons r0
  obtain ⟨v2, vs2, d2, ds2, p2, q2, rfl, rfl, rfl, h2, r2⟩ := trodAll_cons r1
  obtain ⟨v3, vs3, d3, ds3, p3, q3, rfl, rfl, rfl, h3, r3⟩ := trodAll_cons r2
  obtain ⟨v4, vs4, d4, ds4, p4, q4, rfl, rfl, rfl, h4, r4⟩ := trodAll_cons r3
  obtain ⟨v5, vs5, d5, ds5, p5, q5, rfl, rfl, rfl, h5, r5⟩ := trodAll_cons r4
  obtain ⟨rfl, rfl, rfl⟩ := trodAll_nil r5
  obtain rfl : args = #[v0, v1, v2, v3, v4, v5] := by cases args; simp_all
  obtain ⟨rfl, rfl⟩ := trodVars_none hV
  have k0 := h0
  have lt0 : ∀ x ∈ p0, x.block < W.heap.size := by obtain ⟨m, hm⟩ := k0; exact DataW.trod_lt m _ _ _ hm
  obtain ⟨a0, len0, cap0, z0, rfl, hp0, y0, dy0, hy0⟩ := Tree.open_type Tryz.underlying27 rfl rfl (by kernel_rfl) (by kernel_rfl) Tryz.underlying25 Tryz.underlying24 (by kernel_rfl) rfl rfl rfl (by kernel_rfl) (by kernel_rfl) (by kernel_rfl) Tryz.underlying3 Tryz.underlying3 Tryz.underlying4 (hval 0 27 v0 rfl rfl) h0
  have hs0 : cap0 * 24 ≤ 140737488351232 := by
    have := Tree.sized_type hsz (j := 0) rfl (congrArg some dy0) Tryz.underlying27 Tryz.underlying25 hy0
    rw [show Tryz.prog.bytesOf 24 = 24 from by kernel_rfl] at this
    unfold reachBytes at this
    omega
  obtain ⟨a1, rfl, rfl, rfl, hp1⟩ := open_int Tryz.underlying3 (hval 1 3 v1 rfl rfl) h1
  have k2 := h2
  have lt2 : ∀ x ∈ p2, x.block < W.heap.size := by obtain ⟨m, hm⟩ := k2; exact DataW.trod_lt m _ _ _ hm
  obtain ⟨fq2, a2, oq2, cq2, rfl, hp2⟩ := Arr.open_array (P := Tryz.prog) (T := 30) (S := 28) ⟨Tryz.underlying30, Tryz.underlying28, rfl, (by kernel_rfl), rfl, rfl, rfl, rfl, rfl, rfl, rfl, (by kernel_rfl), (by kernel_rfl), (by kernel_rfl), (by kernel_rfl), (by kernel_rfl), (by kernel_rfl), (by kernel_rfl), Tryz.underlying3, Tryz.underlying3, Tryz.underlying3, Tryz.underlying9, Tryz.underlying9, Tryz.underlying9⟩ (hval 2 30 v2 rfl rfl) h2 (Arr.sized_array hsz (j := 2) rfl rfl)
  rw [show Tryz.prog.bytesOf 30 = 96 from by kernel_rfl] at hp2
  obtain ⟨a3, rfl, rfl, rfl, hp3⟩ := open_int Tryz.underlying3 (hval 3 3 v3 rfl rfl) h3
  obtain ⟨a4, rfl, rfl, rfl, hp4⟩ := open_int Tryz.underlying3 (hval 4 3 v4 rfl rfl) h4
  obtain ⟨a5, rfl, rfl, rfl, hp5⟩ := open_int Tryz.underlying3 (hval 5 3 v5 rfl rfl) h5
  clear hA0 hval0
  refine (walk a0 len0 cap0 z0 a1 fq2 a2 oq2 cq2 a3 a4 a5 W hp0 hs0 hp1 hp2 hp3 hp4 hp5).mono fun e W' ⟨he, bel⟩ => ?_
  subst he
  exact ⟨_, rfl, _, _, _, [], _, [], hW', trodAll_mk1 (shut_bool Tryz.underlying4 _), (trodAll_cons_mk (Below.trod laidOut (by kernel_rfl) (of_decide_eq_true (by kernel_rfl)) k0 bel lt0) (trodAll_cons_mk (shut_int Tryz.underlying3 hp1) (trodAll_cons_mk (Below.trod laidOut (by kernel_rfl) (of_decide_eq_true (by kernel_rfl)) k2 bel lt2) (trodAll_cons_mk (shut_int Tryz.underlying3 hp3) (trodAll_cons_mk (shut_int Tryz.underlying3 hp4) (trodAll_cons_mk (shut_int Tryz.underlying3 hp5) trodAll_mk0)))))), rfl, bel.frame _, fun h => by cases h⟩

theorem over : Rows.sliceRowsRow.holds Tryz.pinned (OpenSpec.ofChange Rows.sliceRowsSpec) :=
  OpenClaim.holds_of_wide 5 Tryz.f5 rfl rfl rfl rfl rfl rfl rfl ⟨rfl, rfl, rfl, rfl, rfl⟩ rfl rfl rfl rfl rfl (by kernel_rfl) Tryz.func5 (by kernel_rfl)
    (of_decide_eq_true (by kernel_rfl)) (by unfold Func.isWrapper; first | (rw [if_pos (by decide +kernel)]; kernel_rfl) | (rw [if_neg (by decide +kernel)]; exact ⟨rfl, rfl⟩))
    (fun os started H enc _ => lifted os started H enc)

end Go.Proofs.YthbjeedmhgnnaaaGreat.sliceRows
namespace Go.Proofs.YthbjeedmhgnnaaaGreat
theorem sliceRows_holds : Rows.SliceRowsSaid := sliceRows.over
#print axioms sliceRows_holds
end Go.Proofs.YthbjeedmhgnnaaaGreat
