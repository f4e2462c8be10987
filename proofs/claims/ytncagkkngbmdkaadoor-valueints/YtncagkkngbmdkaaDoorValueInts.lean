/-
  ValueInts: each whole number comes back from its digits.
-/
import Derived.Test.YtncagkkngbmdkaaDoorRows
import Derived.WalkKit
import Derived.ProofKit
import Derived.OpenShut
import Derived.ShutString
import Derived.ChangeOld
import Derived.Below
import Derived.LaidMore
import Derived.Stop.Joined
import Derived.Deep.QuietTactic
import Derived.WalkSmall
import Derived.BigQuiet
import Derived.Deep.RegionWith
import Derived.OwnWalk
import Derived.RegionTactic
import Derived.ChangeAlike
import Derived.Deep.CutBlock
import Derived.SevenTiedAt
import Derived.Test.YtncagkkngbmdkaaDoorCards
import Derived.Test.YtncagkkngbmdkaaDoorTie
import Derived.SizedLaws
import Derived.Test.YtncagkkngbmdkaaDoorTree
import Derived.Test.YtncagkkngbmdkaaDoorMem
import Derived.Test.YtncagkkngbmdkaaDoorWhole
import Derived.Test.YtncagkkngbmdkaaDoorOpenTexts
import Derived.Test.YtncagkkngbmdkaaDoorHome
import Derived.Test.YtncagkkngbmdkaaDoorDoor
import Derived.Test.YtncagkkngbmdkaaDoorRow
import Derived.Test.YtncagkkngbmdkaaDoorDigLib
import Derived.Test.YtncagkkngbmdkaaDoorPartsC
import Derived.Test.YtncagkkngbmdkaaDoorMake
import Derived.Test.YtncagkkngbmdkaaDoorAwake
namespace Go.Proofs.YtncagkkngbmdkaaDoor.valueInts
open Go.ChangeShapes Go.WideShapes Go.ChangeAt Go.RowKit
open Go.ChangeMaps (open_string shut_string)
set_option linter.unusedVariables false

theorem own : ownKnob Tryd.prog.godebug = none := by kernel_rfl

open Val Texts
theorem parts_intS (x : Int) (h : in64 x) : partsS (mk (intM x)) = some (0, [mk (intD x)]) := by
  unfold partsS
  rw [bl_mk', parts_int x h]
  rfl
theorem intM_apart {x y : Int} (hx : in64 x) (hy : in64 y) (h : x ≠ y) : mk (intM x) ≠ mk (intM y) := by
  intro e
  have e1 : intM x = intM y := by rw [← bl_mk' (intM x), e, bl_mk']
  unfold intM at e1
  injection e1 with _ e1
  exact h (intD_inj x y hx hy (List.append_cancel_right e1))
theorem mk_at (l : List UInt8) (i : Nat) (h : i < (mk l).size) : (mk l)[i] = l.getD i 0 := by
  rw [bl_at, bl_mk']
theorem fold_take (n : Nat) (hn : n < 10 ^ 20) (j : Nat) (hj : j < (dig n).length) : foldN 0 ((dig n).take (j + 1)) = 10 * foldN 0 ((dig n).take j) + (((dig n).getD j 0).toNat - 48) ∧ foldN 0 ((dig n).take (j + 1)) ≤ n := by
  have h1 : (dig n).take (j + 1) = (dig n).take j ++ [(dig n).getD j 0] := by
    rw [List.take_succ_eq_append_getElem hj, List.getD_eq_getElem?_getD, List.getElem?_eq_getElem hj]
    rfl
  constructor
  · rw [h1, foldN_snoc, Nat.mul_comm]
  · have h2 := foldN_dig n hn
    rw [show dig n = (dig n).take (j + 1) ++ (dig n).drop (j + 1) from (List.take_append_drop _ _).symm] at h2
    have h3 : foldN 0 ((dig n).take (j + 1) ++ (dig n).drop (j + 1)) = foldN (foldN 0 ((dig n).take (j + 1))) ((dig n).drop (j + 1)) := by unfold foldN; rw [List.foldl_append]
    have h4 := foldN_le ((dig n).drop (j + 1)) (foldN 0 ((dig n).take (j + 1)))
    rw [← h3] at h4
    omega
theorem dig_at (n j : Nat) (hj : j < (dig n).length) : 48 ≤ ((dig n).getD j 0).toNat ∧ ((dig n).getD j 0).toNat ≤ 57 := by
  refine dig_digit n _ ?_
  rw [List.getD_eq_getElem?_getD, List.getElem?_eq_getElem hj]
  exact List.getElem_mem hj
/-- What is read of a number's digits, place by place. -/
structure Reads (x : Int) (t : ByteArray) (a : Nat) (L : Nat → Nat) : Prop where
  some : 0 < t.size
  few : t.size ≤ 20
  from' : a ≤ t.size
  first : L a = 0
  last : ((L t.size : Nat) : Int) = if x < 0 then -x else x
  step : ∀ i (h : i < t.size), a ≤ i → ∃ d : Nat, t[i].toNat = d + 48 ∧ d ≤ 9 ∧ L (i + 1) = 10 * L i + d ∧ L (i + 1) ≤ 9223372036854775808
theorem reads_plus (x : Int) (h : in64 x) (h0 : 0 ≤ x) : ∃ L, Reads x (mk (intD x)) 0 L ∧ ∀ h : 0 < (mk (intD x)).size, ((((mk (intD x))[0].toNat : Nat) : Int) == 45) = false := by
  have e : intD x = dig x.toNat := by unfold intD; rw [if_pos h0]
  have hl := length_intD x h
  unfold in64 at h
  refine ⟨fun j => foldN 0 ((dig x.toNat).take j), ⟨by rw [mk_size']; omega, by rw [mk_size']; omega, Nat.zero_le _, rfl, ?_, fun i hi _ => ?_⟩, fun hz => ?_⟩
  · rw [mk_size', e, List.take_length, foldN_dig _ (by omega), if_neg (by omega)]
    omega
  · rw [mk_size', e] at hi
    have h1 := dig_at x.toNat i hi
    obtain ⟨h2, h3⟩ := fold_take x.toNat (by omega) i hi
    refine ⟨((dig x.toNat).getD i 0).toNat - 48, ?_, by omega, h2, by omega⟩
    rw [mk_at, e]
    omega
  · rw [mk_at, e, beq_eq_false_iff_ne]
    have h1 := dig_at x.toNat 0 (by rw [← e]; omega)
    omega
theorem reads_minus (x : Int) (h : in64 x) (h0 : x < 0) : ∃ L, Reads x (mk (intD x)) 1 L ∧ ∀ h : 0 < (mk (intD x)).size, ((((mk (intD x))[0].toNat : Nat) : Int) == 45) = true := by
  have e : intD x = 45 :: dig (-x).toNat := by unfold intD; rw [if_neg (by omega)]
  have hl := length_intD x h
  have hz : (mk (intD x)).size = (dig (-x).toNat).length + 1 := by rw [mk_size', e]; rfl
  unfold in64 at h
  refine ⟨fun j => foldN 0 ((dig (-x).toNat).take (j - 1)), ⟨by rw [mk_size']; omega, by rw [mk_size']; omega, by rw [mk_size']; omega, rfl, ?_, fun i hi hi1 => ?_⟩, fun hz => ?_⟩
  · rw [hz, Nat.add_sub_cancel, List.take_length, foldN_dig _ (by omega), if_pos h0]
    omega
  · obtain ⟨j, rfl⟩ : ∃ j, i = j + 1 := ⟨i - 1, by omega⟩
    have hj : j < (dig (-x).toNat).length := by omega
    have h1 := dig_at (-x).toNat j hj
    obtain ⟨h2, h3⟩ := fold_take (-x).toNat (by omega) j hj
    refine ⟨((dig (-x).toNat).getD j 0).toNat - 48, ?_, by omega, h2, ?_⟩
    · rw [mk_at, e, List.getD_cons_succ]
      omega
    · show foldN 0 ((dig (-x).toNat).take (j + 1)) ≤ _
      omega
  · rw [mk_at, e]
    rfl
theorem parts_of_int (x : Int) (h : in64 x) (w : World) (hw : Home w) :
    Calls Tryd.prog 10 #[.string (mk (intM x))] w fun r w' => ∃ y cap, r = .returned (.tuple #[.int .i64 0, .slice (some y) 1 cap, .int .i64 0]) ∧ w'.cell? y = some (.string (mk (intD x))) ∧ Below w.heap.size w w' := by
  refine (partsC (mk (intM x)) 0 [mk (intD x)] 0 (by rw [mk_size']; have := length_intD x h; simp [intM]; omega) (.inl ⟨parts_intS x h, rfl⟩) w hw).mono ?_
  rintro e w' ⟨o, cap, rfl, hown, hb⟩
  obtain ⟨y, rfl, hy⟩ := tx_at (own_texts hown) (Nat.le_refl _)
  have := hy 0 Nat.one_pos
  rw [show y.add 0 = y from by unfold Addr.add; split <;> simp_all] at this
  exact ⟨y, cap, rfl, this, hb⟩
theorem wf64 {x : Int} (h : (Lit.int .i64 x).wf = true) : in64 x := by
  simp only [Lit.wf, IntKind.min, IntKind.max, IntKind.signed, IntKind.bits, Bool.and_eq_true, decide_eq_true_eq, if_true] at h
  unfold in64
  omega
set_option maxRecDepth 20000 in
set_option maxHeartbeats 4000000 in
theorem walk (a0 : Int) (a1 : Int) (w : World) (hw : Hid (Val.Home w)) (w0 : (Lit.int .i64 a0).wf = true) (w1 : (Lit.int .i64 a1).wf = true) :
    Calls Tryd.prog 8 #[.int .i64 a0, .int .i64 a1] w fun e w' => e = .returned (.bool true) ∧ Below w.heap.size w w' := by
  have hx := wf64 w0
  have hy := wf64 w1
  have HX : Hid (in64 a0) := hx
  have HY : Hid (in64 a1) := hy
  have HV : Hid (((mk (intM a0)).toList == (mk (intM a1)).toList) = (a0 == a1)) := by
    unfold Hid
    by_cases e : a0 = a1
    · rw [e, beq_self_eq_true, beq_self_eq_true]
    · rw [texts_part (intM_apart hx hy e), beq_eq_false_iff_ne.2 e]
  clear w0 w1
  by_cases h0 : a0 < 0
  · obtain ⟨L, hR, hF⟩ := reads_minus a0 hx h0
    obtain ⟨r1, r2, r3, r4, r5, r6⟩ := hR
    have hF0 := hF r1
    have HL0 : Hid (L 1 = 0) := r4
    have HLZ : Hid (((L (mk (intD a0)).size : Nat) : Int) = if a0 < 0 then -a0 else a0) := r5
    have HST : Hid (∀ i (h : i < (mk (intD a0)).size), 1 ≤ i → ∃ d : Nat, (mk (intD a0))[i].toNat = d + 48 ∧ d ≤ 9 ∧ L (i + 1) = 10 * L i + d ∧ L (i + 1) ≤ 9223372036854775808) := r6
    have HP : Hid (∀ v : World, Home v → Calls Tryd.prog 10 #[.string (mk (intM a0))] v fun r w' => ∃ y cap, r = .returned (.tuple #[.int .i64 0, .slice (some y) 1 cap, .int .i64 0]) ∧ w'.cell? y = some (.string (mk (intD a0))) ∧ Below v.heap.size v w') := fun v hv => parts_of_int a0 HX.out v hv
    have HI0 : Hid (∀ v : World, Home v → Calls Tryd.prog 18 #[.int .i64 a0] v fun r w' => r = .returned (.string (mk (intM a0))) ∧ Below v.heap.size v w') := fun v hv => intC a0 HX.out v hv
    have HI1 : Hid (∀ v : World, Home v → Calls Tryd.prog 18 #[.int .i64 a1] v fun r w' => r = .returned (.string (mk (intM a1))) ∧ Below v.heap.size v w') := fun v hv => intC a1 HY.out v hv
    have j1 : (1 : Int) ≤ ((mk (intD a0)).size : Int) := by omega
    clear r4 r5 r6 hF hx hy
    generalize mk (intD a0) = t at *
    generalize mk (intM a0) = v0 at *
    generalize mk (intM a1) = v1 at *
    have hv := HV.out
    go_enter Tryd.func8, Tryd.ntmps8
    go_wp2_with fail
    refine (awake w hw).mono ?_
    rintro e w1 ⟨rfl, b1⟩
    go_wp2_with fail
    refine (HI0.out w1 (hw.out.later b1)).mono ?_
    rintro e w2 ⟨rfl, b2⟩
    have B2 : Hid (Below w.heap.size w w2) := bel2 b1 b2
    clear b1 b2
    go_wp2_with fail
    refine (HI1.out w2 (hw.out.later B2.out)).mono ?_
    rintro e w3 ⟨rfl, b3⟩
    have B3 : Hid (Below w.heap.size w w3) := bel2 B2.out b3
    clear b3
    go_wp2_with fail
    refine (HP.out w3 (hw.out.later B3.out)).mono ?_
    rintro e w4 ⟨y, cap, rfl, cy, b4⟩
    have B4 : Hid (Below w.heap.size w w4) := bel2 B3.out b4
    clear b4
    go_wp2_with fail
    refine (numC _ _).mono ?_
    rintro e wx ⟨rfl, rfl⟩
    go_wp2_with fail
    go_loop [11, 12] (fun u q => ∃ i : Nat, 1 ≤ i ∧ i ≤ t.size ∧ u = .int .u64 ((L i : Nat) : Int) ∧ q = .int .i64 (i : Int)) (fun _ q => t.size - (intOf q).toNat)
    case atStart => exact ⟨1, Nat.le_refl _, r3, by rw [HL0.out]; rfl, rfl⟩
    case round =>
      obtain ⟨i, h1, h2, rfl, rfl⟩ := hrel
      by_cases hlt : i < t.size
      · obtain ⟨d, q1, q2, q3, q4⟩ := HST.out i hlt h1
        have q1' : ((t[i].toNat : Nat) : Int) = (d : Int) + 48 := by omega
        have i0 : (0 : Int) ≤ (i : Int) := Int.natCast_nonneg _
        have i1 : (i : Int) < (t.size : Int) := by omega
        have y1 : IntKind.u64.wrap (10 * ((L i : Nat) : Int)) = 10 * ((L i : Nat) : Int) := by rw [IntKind.wrap_u64]; omega
        have y2 : IntKind.u8.wrap ((d : Int) + 48 - 48) = (d : Int) := by rw [IntKind.wrap_u8]; omega
        have y3 : IntKind.u64.wrap (d : Int) = (d : Int) := by rw [IntKind.wrap_u64]; omega
        have y4 : IntKind.u64.wrap (10 * ((L i : Nat) : Int) + (d : Int)) = 10 * ((L i : Nat) : Int) + (d : Int) := by rw [IntKind.wrap_u64]; omega
        have HQ : Hid (L (i + 1) = 10 * L i + d) := q3
        clear q1 q3 q4
        go_wp2
        go_round
        case rel => exact ⟨i + 1, by omega, by omega, by rw [HQ.out]; go_num, by go_num⟩
        case measure => simp [intOf]; omega
      · obtain rfl : i = t.size := by omega
        obtain ⟨N, hN⟩ : ∃ N, N = L t.size := ⟨_, rfl⟩
        rw [← hN] at HLZ ⊢
        have hn : (N : Int) = -a0 := by rw [HLZ.out, if_pos h0]
        have hb := HX.out.1
        have z1 : IntKind.u64.wrap (-(N : Int)) = 18446744073709551616 - (N : Int) := by rw [IntKind.wrap_u64]; omega
        have z2 : IntKind.i64.wrap (18446744073709551616 - (N : Int)) = a0 := by rw [IntKind.wrap_i64]; omega
        clear hn hb hN h2 hlt
        go_wp2
        go_ret
        exact ⟨by simp, B4.out⟩
  · obtain ⟨L, hR, hF⟩ := reads_plus a0 hx (by omega)
    obtain ⟨r1, r2, r3, r4, r5, r6⟩ := hR
    have hF0 := hF r1
    have HL0 : Hid (L 0 = 0) := r4
    have HLZ : Hid (((L (mk (intD a0)).size : Nat) : Int) = if a0 < 0 then -a0 else a0) := r5
    have HST : Hid (∀ i (h : i < (mk (intD a0)).size), 0 ≤ i → ∃ d : Nat, (mk (intD a0))[i].toNat = d + 48 ∧ d ≤ 9 ∧ L (i + 1) = 10 * L i + d ∧ L (i + 1) ≤ 9223372036854775808) := r6
    have HP : Hid (∀ v : World, Home v → Calls Tryd.prog 10 #[.string (mk (intM a0))] v fun r w' => ∃ y cap, r = .returned (.tuple #[.int .i64 0, .slice (some y) 1 cap, .int .i64 0]) ∧ w'.cell? y = some (.string (mk (intD a0))) ∧ Below v.heap.size v w') := fun v hv => parts_of_int a0 HX.out v hv
    have HI0 : Hid (∀ v : World, Home v → Calls Tryd.prog 18 #[.int .i64 a0] v fun r w' => r = .returned (.string (mk (intM a0))) ∧ Below v.heap.size v w') := fun v hv => intC a0 HX.out v hv
    have HI1 : Hid (∀ v : World, Home v → Calls Tryd.prog 18 #[.int .i64 a1] v fun r w' => r = .returned (.string (mk (intM a1))) ∧ Below v.heap.size v w') := fun v hv => intC a1 HY.out v hv
    have j1 : (1 : Int) ≤ ((mk (intD a0)).size : Int) := by omega
    clear r4 r5 r6 hF hx hy
    generalize mk (intD a0) = t at *
    generalize mk (intM a0) = v0 at *
    generalize mk (intM a1) = v1 at *
    have hv := HV.out
    go_enter Tryd.func8, Tryd.ntmps8
    go_wp2_with fail
    refine (awake w hw).mono ?_
    rintro e w1 ⟨rfl, b1⟩
    go_wp2_with fail
    refine (HI0.out w1 (hw.out.later b1)).mono ?_
    rintro e w2 ⟨rfl, b2⟩
    have B2 : Hid (Below w.heap.size w w2) := bel2 b1 b2
    clear b1 b2
    go_wp2_with fail
    refine (HI1.out w2 (hw.out.later B2.out)).mono ?_
    rintro e w3 ⟨rfl, b3⟩
    have B3 : Hid (Below w.heap.size w w3) := bel2 B2.out b3
    clear b3
    go_wp2_with fail
    refine (HP.out w3 (hw.out.later B3.out)).mono ?_
    rintro e w4 ⟨y, cap, rfl, cy, b4⟩
    have B4 : Hid (Below w.heap.size w w4) := bel2 B3.out b4
    clear b4
    go_wp2_with fail
    refine (numC _ _).mono ?_
    rintro e wx ⟨rfl, rfl⟩
    go_wp2_with fail
    go_loop [11, 12] (fun u q => ∃ i : Nat, 0 ≤ i ∧ i ≤ t.size ∧ u = .int .u64 ((L i : Nat) : Int) ∧ q = .int .i64 (i : Int)) (fun _ q => t.size - (intOf q).toNat)
    case atStart => exact ⟨0, Nat.le_refl _, r3, by rw [HL0.out]; rfl, rfl⟩
    case round =>
      obtain ⟨i, h1, h2, rfl, rfl⟩ := hrel
      by_cases hlt : i < t.size
      · obtain ⟨d, q1, q2, q3, q4⟩ := HST.out i hlt h1
        have q1' : ((t[i].toNat : Nat) : Int) = (d : Int) + 48 := by omega
        have i0 : (0 : Int) ≤ (i : Int) := Int.natCast_nonneg _
        have i1 : (i : Int) < (t.size : Int) := by omega
        have y1 : IntKind.u64.wrap (10 * ((L i : Nat) : Int)) = 10 * ((L i : Nat) : Int) := by rw [IntKind.wrap_u64]; omega
        have y2 : IntKind.u8.wrap ((d : Int) + 48 - 48) = (d : Int) := by rw [IntKind.wrap_u8]; omega
        have y3 : IntKind.u64.wrap (d : Int) = (d : Int) := by rw [IntKind.wrap_u64]; omega
        have y4 : IntKind.u64.wrap (10 * ((L i : Nat) : Int) + (d : Int)) = 10 * ((L i : Nat) : Int) + (d : Int) := by rw [IntKind.wrap_u64]; omega
        have HQ : Hid (L (i + 1) = 10 * L i + d) := q3
        clear q1 q3 q4
        go_wp2
        go_round
        case rel => exact ⟨i + 1, by omega, by omega, by rw [HQ.out]; go_num, by go_num⟩
        case measure => simp [intOf]; omega
      · obtain rfl : i = t.size := by omega
        obtain ⟨N, hN⟩ : ∃ N, N = L t.size := ⟨_, rfl⟩
        rw [← hN] at HLZ ⊢
        have hn : (N : Int) = a0 := by rw [HLZ.out, if_neg (by omega)]
        have hb := HX.out.2
        have z2 : IntKind.i64.wrap (N : Int) = a0 := by rw [IntKind.wrap_i64]; omega
        have h00 : decide (a0 < 0) = false := decide_eq_false (by omega)
        clear hn hb hN h2 hlt h0
        go_wp2
        go_ret
        exact ⟨by simp, B4.out⟩

set_option maxRecDepth 100000 in
theorem lifted (os : Os) (started : os.Started) (H : Type) (enc : TypeId × Value → H) :
    ReturnsInHanded {} Tryd.checked os 8 .any (fun w args => (Rows.valueIntsSpec.pre enc Tryd.prog Tryd.f8 [] false w args ∧ laidMetH Tryd.prog Val.laidV w) ∧ sizedMet enc Tryd.prog Tryd.f8 (OpenSpec.ofChange Rows.valueIntsSpec) false w args) (Rows.valueIntsSpec.post enc Tryd.prog Tryd.f8 false true false false) := by
  refine returnsInHanded_of_change_and (C := Tryd.checked) (X := fun w _ => laidMetH Tryd.prog Val.laidV w) (fun _ _ _ hh h => h.of_heap hh) own started (by kernel_rfl) Tryd.func8
    (ChangeSpec.witness_shaped (enc := enc) (C := Tryd.checked) (os := os) (X := fun w _ => laidMetH Tryd.prog Val.laidV w) false (World.doorLaid Tryd.prog 400 os) #[.int .i64 0, .int .i64 0] 8 rfl (World.shaped_of_RefB (by kernel_rfl) (by kernel_rfl)) (by kernel_rfl) (by kernel_rfl) (by kernel_rfl) (Val.door_met os _)) ?_
  intro W base args ds gs before hval0 hW hcnd _ hL _
  have hval : ∀ (j : Nat) t v, Tryd.f8.params[j]? = some t → args[j]? = some v → Value.okWide Tryd.prog W .any base t v := hval0
  have hW' := hW
  obtain ⟨p, q, hA0, hV, rfl, hfz, hnd⟩ := hW
  have hA : DataW.TrodAll enc Tryd.prog W 0 (fun _ => true) true Tryd.f8.params.toList args.toList ds p := hA0
  rw [Tryd.params8] at hA hval
  obtain ⟨v0, vs0, d0, ds0, p0, q0, hargs, rfl, rfl, h0, r0⟩ := trodAll_cons hA
  obtain ⟨v1, vs1, d1, ds1, p1, q1, rfl, rfl, rfl, h1, r1⟩ := trodAll_cons r0
  obtain ⟨rfl, rfl, rfl⟩ := trodAll_nil r1
  obtain rfl : args = #[v0, v1] := by cases args; simp_all
  obtain ⟨rfl, rfl⟩ := trodVars_none hV
  obtain ⟨a0, rfl, rfl, rfl, w0⟩ := open_int Tryd.underlying3 (hval 0 3 v0 rfl rfl) h0
  obtain ⟨a1, rfl, rfl, rfl, w1⟩ := open_int Tryd.underlying3 (hval 1 3 v1 rfl rfl) h1
  clear hA0 hval0
  refine (walk a0 a1 W (Val.home_of hL) w0 w1).mono fun e W' ⟨he, bel⟩ => ?_
  subst he
  exact ⟨_, rfl, _, _, _, [], _, [], hW', trodAll_mk1 (shut_bool Tryd.underlying4 _), (trodAll_cons_mk (shut_int Tryd.underlying3 w0) (trodAll_cons_mk (shut_int Tryd.underlying3 w1) trodAll_mk0)), rfl, bel.frame _, fun h => by cases h⟩

theorem over : Rows.valueIntsRow.holds Tryd.pinned (OpenSpec.ofChange Rows.valueIntsSpec) :=
  OpenClaim.holds_of_wide 8 Tryd.f8 rfl rfl rfl rfl rfl rfl rfl ⟨rfl, rfl, rfl, rfl, rfl⟩ rfl rfl rfl rfl rfl (by kernel_rfl) Tryd.func8 (by kernel_rfl)
    (of_decide_eq_true (by kernel_rfl)) (by unfold Func.isWrapper; first | (rw [if_pos (by decide +kernel)]; kernel_rfl) | (rw [if_neg (by decide +kernel)]; exact ⟨rfl, rfl⟩))
    (fun os started H enc _ => lifted os started H enc)

end Go.Proofs.YtncagkkngbmdkaaDoor.valueInts
namespace Go.Proofs.YtncagkkngbmdkaaDoor
theorem valueInts_holds : Rows.ValueIntsCardSaid :=
  Claim7.holds_tied_plain_at .later [] [.data, .data, .data, .sentinel, .sentinel] true (true, "144572b7fb924916b0d2afe7311542e541e51744ef72fae6c12f1363541a2b76") true
    valueInts.over (fun _ h => by cases h) (by kernel_rfl) (fun _ h => by cases h) valueInts_row_tie rfl ⟨rfl, rfl⟩ (by kernel_rfl) rfl
    (fun f fn hf hfn => by
      obtain rfl : f = 8 := Option.some.inj ((show Tryd.prog.funcNamed Rows.valueIntsRow.func = some 8 by kernel_rfl).symm.trans hf) |>.symm
      obtain rfl : fn = Tryd.f8 := (Option.some.inj (Tryd.func8.symm.trans hfn)).symm
      exact ⟨by kernel_rfl, fun j t ht => by
        rw [Tryd.params8] at ht
        have hm : t ∈ [3, 3] := by simpa using Array.mem_of_getElem? ht
        have hall : ([3, 3].all fun u => !Tryd.prog.wantsStandIn u) = true := by kernel_rfl
        exact (show Tryd.prog.wantsStandIn t = false by simpa using List.all_eq_true.1 hall t hm)⟩)
    (by kernel_rfl)
#print axioms valueInts_holds
end Go.Proofs.YtncagkkngbmdkaaDoor
