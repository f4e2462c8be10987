/-
  ArrayParts: each part of an array that may be may be.
-/
import Derived.Test.YtbekelnhlfghlaaRows
import Derived.WalkKit
import Derived.ProofKit
import Derived.OpenShut
import Derived.ShutString
import Derived.ChangeOld
import Derived.Below
import Derived.SizedLaws
import Derived.Deep.QuietTactic
import Derived.WalkSmall
import Derived.BigQuiet
import Derived.Deep.RegionWith
import Derived.OwnWalk
import Derived.RegionTactic
import Derived.ChangeAlike
import Derived.Deep.CutBlock
import Derived.Maps.AppendAt
import Derived.OneCell
import Derived.Test.YtbekelnhlfghlaaB01
import Derived.Test.YtbekelnhlfghlaaB02
import Derived.Test.YtbekelnhlfghlaaB09
import Derived.Test.YtbekelnhlfghlaaB13
import Derived.Test.YtbekelnhlfghlaaB14
namespace Go.Proofs.Ytbekelnhlfghlaa.arrayParts
open Go.ChangeShapes Go.WideShapes Go.ChangeAt Go.RowKit
open Go.ChangeMaps (open_string shut_string)
set_option linter.unusedVariables false

theorem own : ownKnob Try.prog.godebug = none := by kernel_rfl
theorem laidOut : laidOutB Try.prog = true := by kernel_rfl

open Tree Val Arr
/-- What is told of an array that may be. -/
theorem may_head {ns : List Nd} {x : Int} {f : Nat} {a : Arr.Arr} (h : mayZ ns x (f + 1) a = true) : ∃ n : Nat, x = (n : Int) ∧ n < ns.length ∧ may ns = true ∧ mayF ns (f + 1) n a = true ∧ Head ns n a := by
  unfold mayZ at h
  rw [Bool.and_eq_true] at h
  obtain ⟨n, rfl, hn, hM⟩ := has_of h.1
  have hm : may ns = true := by have := h.1; unfold hasB at this; rw [Bool.and_eq_true] at this; exact this.2
  exact ⟨n, rfl, hn, hm, h.2, (mayF_cases h.2).1⟩
theorem cut_holds {B : Nat} {w : World} {f : Nat} {a : Arr.Arr} {o : Option Addr} {c : Nat} (h : HoldsF B 96 w (f + 1) (a.cells o c) a) {i l : Nat} (hi : 0 ≤ a.offset) (h2 : a.offset + i + l ≤ 64) : HoldsF B 96 w (f + 1) ((cutA a i l).cells o c) (cutA a i l) := by
  obtain ⟨o2, c2, e, hk, h3, h4, h5, h6⟩ := h
  have eo : o = o2 ∧ c = c2 := by
    unfold Arr.cells at e
    simp only [List.cons.injEq, Value.slice.injEq, and_true, true_and] at e
    exact e
  obtain ⟨rfl, rfl⟩ := eo
  refine ⟨o, c, rfl, ⟨hk.layout, ?_, ?_, hk.valid, hk.ends, hk.data⟩, h3, h4, h5, h6⟩
  · show (Lit.int .i64 (a.offset + i)).wf = true
    exact WalkArith.wf_i64 (by omega)
  · show (Lit.int .i64 (l : Int)).wf = true
    exact WalkArith.wf_i64 (by omega)
theorem cut_box {w : World} {g : Nat} {a : Arr.Arr} {o : Option Addr} {c : Nat} (h : Bx w g a o c) (i j : Nat) :
    ∃ w', (w.setCell ⟨g, 1, none⟩ (.int .i64 (a.offset + (i : Int)))).setCell ⟨g, 2, none⟩ (.int .i64 (j : Int)) = w' ∧ Bx w' g (cutA a i j) o c ∧ (∀ b, b ≠ g → w'.heap[b]? = w.heap[b]?) ∧ (∀ B, B ≤ g → Below B w w') := by
  refine ⟨_, rfl, ⟨?_⟩, fun b hb => ?_, fun B hB => ?_⟩
  · rw [blk_set (blk_set h.blk 1 _) 2 _]
    rfl
  · have q := fun (w : World) (j : Nat) (u : Value) => Below.heap_setCell w ⟨g, j, none⟩ u b hb
    rw [q, q]
  · exact ((Below.refl _ _).setCell hB _).setCell hB _
set_option maxRecDepth 20000 in
set_option maxHeartbeats 4000000 in
theorem walk (a0 : Option Addr) (len0 cap0 : Nat) (z0 : List Tree.Nd) (a1 : Int) (fq2 : Nat) (a2 : Arr.Arr) (oq2 : Option Addr) (cq2 : Nat) (a3 : Int) (a4 : Int) (w : World) (hp0 : Tree.IsNodes w a0 len0 cap0 z0) (hs0 : cap0 * 24 ≤ 140737488351232) (hp1 : (Lit.int .i64 a1).wf = true) (hp2 : Hid (Arr.HoldsF 140737488351232 96 w (fq2 + 1) (a2.cells oq2 cq2) a2)) (hp3 : (Lit.int .i64 a3).wf = true) (hp4 : (Lit.int .i64 a4).wf = true) :
    Calls Try.prog 6 #[.agg #[.slice a0 len0 cap0], .int .i64 a1, a2.val oq2 cq2, .int .i64 a3, .int .i64 a4] w fun e w' => e = .returned (.bool true) ∧ Below w.heap.size w w' := by
  obtain ⟨ns, rfl, hT, hlc, hco⟩ := isT_of hp0
  have HM : Hid (∀ v, Below w.heap.size w v → Calls Try.prog 9 #[.agg #[.slice a0 ns.length cap0], .int .i64 a1, a2.val oq2 cq2] v fun r w' => r = .returned (.bool (mayZ ns a1 (fq2 + 1) a2)) ∧ Below v.heap.size v w') := fun v hv => mayA 140737488351232 96 (fq2 + 1) ns a0 cap0 a1 a2 oq2 cq2 v (hT.later hv) (hp2.out.later hv)
  have HR : Hid (∀ v, Below w.heap.size w v → Calls Try.prog 10 #[.agg #[.slice a0 ns.length cap0], .int .i64 a1, a2.val oq2 cq2] v fun r w' => r = .returned (.bool (mayZ ns a1 (fq2 + 1) a2)) ∧ Below v.heap.size v w') := fun v hv => refA 140737488351232 96 (fq2 + 1) ns a0 cap0 a1 a2 oq2 cq2 v (hT.later hv) (hp2.out.later hv)
  have HC : Hid (∀ v, Below w.heap.size w v → Calls Try.prog 8 #[a2.val oq2 cq2] v fun r w' => ∃ o' cap', r = .returned (a2.val o' cap') ∧ HoldsO 140737488351232 w' (fq2 + 1) (fun b => v.heap.size ≤ b) (a2.cells o' cap') a2 ∧ Below v.heap.size v w') := fun v hv => Arr.copyA 140737488351232 (by decide) (fq2 + 1) a2 oq2 cq2 v (hp2.out.later hv)
  have HT : Hid (IsT w a0 ns) := hT
  have HP : Hid (∀ v (b : Arr.Arr) o c, Below w.heap.size w v → HoldsF (upB 140737488351232) 96 v (fq2 + 1) (b.cells o c) b → Calls Try.prog 9 #[.agg #[.slice a0 ns.length cap0], .int .i64 a1, b.val o c] v fun r w' => r = .returned (.bool (mayZ ns a1 (fq2 + 1) b)) ∧ Below v.heap.size v w') := fun v b o c hv hb => mayA (upB 140737488351232) 96 (fq2 + 1) ns a0 cap0 a1 b o c v (HT.out.later hv) hb
  have HZ : Hid (mayZ ns a1 (fq2 + 1) a2 = true → ∃ n : Nat, a1 = (n : Int) ∧ n < ns.length ∧ may ns = true ∧ mayF ns (fq2 + 1) n a2 = true ∧ Head ns n a2) := may_head
  obtain ⟨w2, e2, hs2, c2, b2⟩ := boxed w (.slice a0 ns.length cap0) 24
  obtain ⟨w3, e3, x3, b3, z3⟩ := box7 w2 a2 oq2 cq2
  have B3 : Hid (Below w.heap.size w w3) := bel2 b2 b3
  have X3 : Hid (Bx w3 w2.heap.size a2 oq2 cq2) := x3
  have hs2' : w.heap.size < w2.heap.size := hs2
  have C3 : Hid (w3.cell? ⟨w.heap.size, 0, none⟩ = some (.slice a0 ns.length cap0)) := cell_later b3 c2
  clear hp0 hco hT b2 b3 x3 hs2 z3 c2 hp2
  unfold Arr.val at HM HR HC ⊢
  generalize mayZ ns a1 (fq2 + 1) a2 = M at *
  go_enter Try.func6, Try.ntmps6
  go_wp2_with fail
  refine (awake _).mono ?_
  rintro e w4 ⟨rfl, b4⟩
  have B4 : Hid (Below w.heap.size w w4) := bel2 B3.out b4
  have X4 : Hid (Bx w4 w2.heap.size a2 oq2 cq2) := X3.out.later b4
  have C4 : Hid (w4.cell? ⟨w.heap.size, 0, none⟩ = some (.slice a0 ns.length cap0)) := cell_later b4 C3.out
  clear b4 e3 e2
  have c0 := C4.out
  have d0 := X4.out.c0
  have d1 := X4.out.c1
  have d2 := X4.out.c2
  have d3 := X4.out.c3
  have d4 := X4.out.c4
  have d5 := X4.out.c5
  have d6 := X4.out.c6
  go_wp2_with fail
  refine (HM.out w4 B4.out).mono ?_
  rintro e w5 ⟨rfl, b5⟩
  have B5 : Hid (Below w.heap.size w w5) := bel2 B4.out b5
  have X5 : Hid (Bx w5 w2.heap.size a2 oq2 cq2) := X4.out.later b5
  have C5 : Hid (w5.cell? ⟨w.heap.size, 0, none⟩ = some (.slice a0 ns.length cap0)) := cell_later b5 C4.out
  clear b5 c0 d0 d1 d2 d3 d4 d5 d6
  have c0 := C5.out
  have d0 := X5.out.c0
  have d1 := X5.out.c1
  have d2 := X5.out.c2
  have d3 := X5.out.c3
  have d4 := X5.out.c4
  have d5 := X5.out.c5
  have d6 := X5.out.c6
  cases M
  · go_wp2_with fail
    refine (HR.out w5 B5.out).mono ?_
    rintro e w6 ⟨rfl, b6⟩
    go_wp2
    go_ret
    exact ⟨rfl, bel2 B5.out b6⟩
  · obtain ⟨n, rfl, hn, hm, hF, hH⟩ := HZ.out rfl
    obtain ⟨i, hi, hi0, hi1⟩ := BitP.rest a3 (a2.length + 1) (by have := hH.len; omega)
    obtain ⟨i, rfl⟩ := Int.eq_ofNat_of_zero_le hi0
    obtain ⟨j, hj, hj0, hj1⟩ := BitP.rest a4 (a2.length - (i : Int) + 1) (by omega)
    obtain ⟨j, rfl⟩ := Int.eq_ofNat_of_zero_le hj0
    have hq0 := hH.len
    have hp0 := hH.off
    have hpq := hH.rows
    have g1 : decide (a2.length < 0) = false := decide_eq_false (by omega)
    have g2 : decide (64 < a2.length) = false := decide_eq_false (by omega)
    have HF : Hid (mayF ns (fq2 + 1) n a2 = true) := hF
    have HB : Hid (hasB ns (n : Int) = true) := by unfold Hid hasB; rw [hm, decide_eq_true (by omega)]; rfl
    clear hF hH hm HZ HM HR
    go_wp2_with fail
    refine (HC.out w5 B5.out).mono ?_
    rintro e w6 ⟨o6, c6, rfl, ho6, b6⟩
    obtain ⟨w7, e7, x7, b7, z7⟩ := box7 w6 a2 o6 c6
    have B7 : Hid (Below w.heap.size w w7) := bel2 B5.out (bel2 b6 b7)
    have X7 : Hid (Bx w7 w2.heap.size a2 oq2 cq2) := X5.out.later (bel2 b6 b7)
    have C7 : Hid (w7.cell? ⟨w.heap.size, 0, none⟩ = some (.slice a0 ns.length cap0)) := cell_later (bel2 b6 b7) C5.out
    have Y7 : Hid (Bx w7 w6.heap.size a2 o6 c6) := x7
    have HO7 : Hid (HoldsO 140737488351232 w7 (fq2 + 1) (fun b => b < w6.heap.size) (a2.cells o6 c6) a2) := ho6.lt.stays (fun b hb => b7.block b hb.2) (fun b hb => hb.2)
    have hle : w.heap.size ≤ w6.heap.size := Nat.le_trans B5.out.size b6.size
    have hlt2 : w2.heap.size < w6.heap.size := Nat.lt_of_lt_of_le X5.out.lt b6.size
    clear ho6 b6 b7 x7 z7 c0 d0 d1 d2 d3 d4 d5 d6
    have c0 := C7.out
    have d2 := X7.out.c2
    have y1 := Y7.out.c1
    have y2 := Y7.out.c2
    have y3 := Y7.out.c3
    have f1 := Y7.out.fz 1
    have f2 := Y7.out.fz 2
    have k1 : 0 ≤ (i : Int) := hi0
    have hab : a2.offset + (i : Int) + (j : Int) ≤ 64 := by omega
    go_wp2_with fail
    refine (num _ _).mono ?_
    rintro e wx ⟨rfl, rfl⟩
    obtain ⟨w8, e8, x8, h8, b8⟩ := cut_box Y7.out i j
    rw [e8]
    have HO8 : Hid (HoldsF (upB 140737488351232) 96 w8 (fq2 + 1) ((cutA a2 i j).cells o6 c6) (cutA a2 i j)) := cut_holds (HO7.out.stays (fun b hb => h8 b (by omega)) (fun b hb => hb)).holds hp0 (by omega)
    have B8 : Hid (Below w.heap.size w w8) := B7.out.trans (b8 w.heap.size hle)
    have C8 : Hid (w8.cell? ⟨w.heap.size, 0, none⟩ = some (.slice a0 ns.length cap0)) := by
      have e := h8 w.heap.size (by have := World.block_lt_of_cell? _ _ C5.out; have := X5.out.lt; have := b8 0 (Nat.zero_le _); have hh := Y7.out.lt; have := hs2'; omega)
      unfold Hid
      rw [World.cell?_of_block (a := ⟨w.heap.size, 0, none⟩) e]
      exact C7.out
    clear c0 d2 y1 y2 y3 f1 f2 e8
    have c0 := C8.out
    have y0 := x8.c0
    have y1 := x8.c1
    have y2 := x8.c2
    have y3 := x8.c3
    have y4 := x8.c4
    have y5 := x8.c5
    have y6 := x8.c6
    clear x8 h8 b8
    have HP8 : Hid (Calls Try.prog 9 #[.agg #[.slice a0 ns.length cap0], .int .i64 (n : Int), (cutA a2 i j).val o6 c6] w8 fun r w' => r = .returned (.bool (mayZ ns (n : Int) (fq2 + 1) (cutA a2 i j))) ∧ Below w8.heap.size w8 w') := HP.out w8 (cutA a2 i j) o6 c6 B8.out HO8.out
    have HV : Hid (mayZ ns (n : Int) (fq2 + 1) (cutA a2 i j) = true) := by
      unfold Hid mayZ
      rw [HB.out, Bool.true_and]
      exact may_part HF.out i j (by omega)
    unfold Arr.val at HP8
    generalize cutA a2 i j = b at *
    go_wp2_with fail
    refine HP8.out.mono ?_
    rintro e w9 ⟨rfl, b9⟩
    rw [HV.out]
    go_wp2
    go_ret
    exact ⟨rfl, bel2 B8.out b9⟩

set_option maxRecDepth 100000 in
theorem lifted (os : Os) (started : os.Started) (H : Type) (enc : TypeId × Value → H) :
    ReturnsInHanded {} Try.checked os 6 .any (Rows.arrayPartsSpec.pre6 enc Try.prog Try.f6 Rows.arrayPartsRow.domain false) (Rows.arrayPartsSpec.post enc Try.prog Try.f6 false true false false) := by
  refine returnsInHanded_of_change_sized (C := Try.checked) own started (by kernel_rfl) Try.func6
    (ChangeSpec.witness6 (enc := enc) (C := Try.checked) false ⟨#[], #[.agg #[.slice none 0 0], .int .i64 0, .agg #[.int .i64 0, .int .i64 0, .int .i64 0, .string ByteArray.empty, .string ByteArray.empty, .string ByteArray.empty, .slice none 0 0], .int .i64 0, .int .i64 0], []⟩ 8 (by kernel_rfl) (by kernel_rfl) (by kernel_rfl) (by kernel_rfl)) ?_
  intro W base args ds gs before hval0 hW hcnd hsz0 _
  have hsz : (DataW.weightsEach Try.prog (Try.f6.params.toList ++ Rows.arrayPartsSpec.plain.varTypes Try.prog) (ds ++ gs)).all (· ≤ reachBytes) = true := hsz0
  clear hsz0
  have hval : ∀ (j : Nat) t v, Try.f6.params[j]? = some t → args[j]? = some v → Value.okWide Try.prog W .any base t v := hval0
  have hW' := hW
  obtain ⟨p, q, hA0, hV, rfl, hfz, hnd⟩ := hW
  have hA : DataW.TrodAll enc Try.prog W 0 (fun _ => true) true Try.f6.params.toList args.toList ds p := hA0
  rw [Try.params6] at hA hval hsz
  obtain ⟨v0, vs0, d0, ds0, p0, q0, hargs, rfl, rfl, h0, r0⟩ := trodAll_cons hA
  obtain ⟨v1, vs1, d1, ds1, p1, q1, rfl, rfl, rfl, h1, r1⟩ := trodAll_cons r0
  obtain ⟨v2, vs2, d2, ds2, p2, q2, rfl, rfl, rfl, h2, r2⟩ := trodAll_cons r1
  obtain ⟨v3, vs3, d3, ds3, p3, q3, rfl, rfl, rfl, h3, r3⟩ := trodAll_cons r2
  obtain ⟨v4, vs4, d4, ds4, p4, q4, rfl, rfl, rfl, h4, r4⟩ := trodAll_cons r3
  obtain ⟨rfl, rfl, rfl⟩ := trodAll_nil r4
  obtain rfl : args = #[v0, v1, v2, v3, v4] := by cases args; simp_all
  obtain ⟨rfl, rfl⟩ := trodVars_none hV
  have k0 := h0
  have lt0 : ∀ x ∈ p0, x.block < W.heap.size := by obtain ⟨m, hm⟩ := k0; exact DataW.trod_lt m _ _ _ hm
  obtain ⟨a0, len0, cap0, z0, rfl, hp0, y0, dy0, hy0⟩ := Tree.open_type Try.underlying24 rfl rfl (by kernel_rfl) (by kernel_rfl) Try.underlying22 Try.underlying35 (by kernel_rfl) rfl rfl rfl (by kernel_rfl) (by kernel_rfl) (by kernel_rfl) Try.underlying3 Try.underlying3 Try.underlying4 (hval 0 24 v0 rfl rfl) h0
  have hs0 : cap0 * 24 ≤ 140737488351232 := by
    have := Tree.sized_type hsz (j := 0) rfl (congrArg some dy0) Try.underlying24 Try.underlying22 hy0
    rw [show Try.prog.bytesOf 35 = 24 from by kernel_rfl] at this
    unfold reachBytes at this
    omega
  obtain ⟨a1, rfl, rfl, rfl, hp1⟩ := open_int Try.underlying3 (hval 1 3 v1 rfl rfl) h1
  have k2 := h2
  have lt2 : ∀ x ∈ p2, x.block < W.heap.size := by obtain ⟨m, hm⟩ := k2; exact DataW.trod_lt m _ _ _ hm
  obtain ⟨fq2, a2, oq2, cq2, rfl, hp2⟩ := Arr.open_array (P := Try.prog) (T := 27) (S := 25) ⟨Try.underlying27, Try.underlying25, rfl, (by kernel_rfl), rfl, rfl, rfl, rfl, rfl, rfl, rfl, (by kernel_rfl), (by kernel_rfl), (by kernel_rfl), (by kernel_rfl), (by kernel_rfl), (by kernel_rfl), (by kernel_rfl), Try.underlying3, Try.underlying3, Try.underlying3, Try.underlying9, Try.underlying9, Try.underlying9⟩ (hval 2 27 v2 rfl rfl) h2 (Arr.sized_array hsz (j := 2) rfl rfl)
  rw [show Try.prog.bytesOf 27 = 96 from by kernel_rfl] at hp2
  obtain ⟨a3, rfl, rfl, rfl, hp3⟩ := open_int Try.underlying3 (hval 3 3 v3 rfl rfl) h3
  obtain ⟨a4, rfl, rfl, rfl, hp4⟩ := open_int Try.underlying3 (hval 4 3 v4 rfl rfl) h4
  clear hA0 hval0
  refine (walk a0 len0 cap0 z0 a1 fq2 a2 oq2 cq2 a3 a4 W hp0 hs0 hp1 hp2 hp3 hp4).mono fun e W' ⟨he, bel⟩ => ?_
  subst he
  exact ⟨_, rfl, _, _, _, [], _, [], hW', trodAll_mk1 (shut_bool Try.underlying4 _), (trodAll_cons_mk (Below.trod laidOut (by kernel_rfl) (of_decide_eq_true (by kernel_rfl)) k0 bel lt0) (trodAll_cons_mk (shut_int Try.underlying3 hp1) (trodAll_cons_mk (Below.trod laidOut (by kernel_rfl) (of_decide_eq_true (by kernel_rfl)) k2 bel lt2) (trodAll_cons_mk (shut_int Try.underlying3 hp3) (trodAll_cons_mk (shut_int Try.underlying3 hp4) trodAll_mk0))))), rfl, bel.frame _, fun h => by cases h⟩

theorem over : Rows.arrayPartsRow.holds Try.pinned (OpenSpec.ofChange Rows.arrayPartsSpec) :=
  OpenClaim.holds_of_wide 6 Try.f6 rfl rfl rfl rfl rfl rfl rfl ⟨rfl, rfl, rfl, rfl, rfl⟩ rfl rfl rfl rfl rfl (by kernel_rfl) Try.func6 (by kernel_rfl)
    (of_decide_eq_true (by kernel_rfl)) (by unfold Func.isWrapper; first | (rw [if_pos (by decide +kernel)]; kernel_rfl) | (rw [if_neg (by decide +kernel)]; exact ⟨rfl, rfl⟩))
    (fun os started H enc _ => lifted os started H enc)

end Go.Proofs.Ytbekelnhlfghlaa.arrayParts
namespace Go.Proofs.Ytbekelnhlfghlaa
theorem arrayParts_holds : Rows.ArrayPartsSaid := arrayParts.over
#print axioms arrayParts_holds
end Go.Proofs.Ytbekelnhlfghlaa
