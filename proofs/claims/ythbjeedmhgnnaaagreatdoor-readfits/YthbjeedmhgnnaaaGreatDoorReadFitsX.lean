/-
  ReadFits: what is read fits its node, as many as rows, each the same alone.
-/
import Derived.Test.YthbjeedmhgnnaaaGreatDoorRows
import Derived.WalkKit
import Derived.ProofKit
import Derived.OpenShut
import Derived.ShutString
import Derived.ChangeOld
import Derived.Below
import Derived.SizedLaws
import Derived.Deep.QuietTactic
import Derived.WalkSmall
import Derived.BigQuiet
import Derived.Deep.RegionWith
import Derived.OwnWalk
import Derived.RegionTactic
import Derived.ChangeAlike
import Derived.Deep.CutBlock
import Derived.Maps.AppendAt
import Derived.OneCell
import Derived.LaidMore
import Derived.Stop.Joined
import Derived.SevenTiedAt
import Derived.Test.YthbjeedmhgnnaaaGreatDoorCards
import Derived.Test.YthbjeedmhgnnaaaGreatDoorTie
import Derived.Test.YthbjeedmhgnnaaaGreatDoorB01
import Derived.Test.YthbjeedmhgnnaaaGreatDoorB02
import Derived.Test.YthbjeedmhgnnaaaGreatDoorB09
import Derived.Test.YthbjeedmhgnnaaaGreatDoorB11
import Derived.Test.YthbjeedmhgnnaaaGreatDoorB12
import Derived.Test.YthbjeedmhgnnaaaGreatDoorB15
import Derived.Test.YthbjeedmhgnnaaaGreatDoorB13
import Derived.Test.YthbjeedmhgnnaaaGreatDoorB14
import Derived.Test.YthbjeedmhgnnaaaGreatDoorB17
import Derived.Test.YthbjeedmhgnnaaaGreatDoorB21
namespace Go.Proofs.YthbjeedmhgnnaaaGreatDoor.readFits
open Go.ChangeShapes Go.WideShapes Go.ChangeAt Go.RowKit
open Go.ChangeMaps (open_string shut_string)
set_option linter.unusedVariables false

theorem own : ownKnob Tryz.prog.godebug = none := by kernel_rfl
theorem laidOut : laidOutB Tryz.prog = true := by kernel_rfl

open Tree Arr
theorem and10 (x : Int) : ∃ d : Nat, bits .and .i64 x 1023 = (d : Int) ∧ d < 1024 := ⟨(x % 1024).toNat, by rw [BitP.and10]; omega, by omega⟩
theorem up_le (B : Nat) : B ≤ upB B := by unfold upB; omega
set_option maxRecDepth 20000 in
set_option maxHeartbeats 4000000 in
theorem walk (a0 : Option Addr) (len0 cap0 : Nat) (z0 : List Tree.Nd) (a1 : Int) (fq2 : Nat) (a2 : Arr.Arr) (oq2 : Option Addr) (cq2 : Nat) (w : World) (hw : Hid (Val.Home w)) (hp0 : Tree.IsNodes w a0 len0 cap0 z0) (hs0 : cap0 * 24 ≤ 140737488351232) (hp1 : (Lit.int .i64 a1).wf = true) (hp2 : Hid (Arr.HoldsF 140737488351232 96 w (fq2 + 1) (a2.cells oq2 cq2) a2)) :
    Calls Tryz.prog 4 #[.agg #[.slice a0 len0 cap0], .int .i64 a1, a2.val oq2 cq2] w fun e w' => e = .returned (.bool true) ∧ Below w.heap.size w w' := by
  obtain ⟨ns, rfl, hT, hlc, hco⟩ := isT_of hp0
  have HT : Hid (IsT w a0 ns) := hT
  obtain ⟨w1, e1, s1, c1, b1⟩ := boxed w (.slice a0 ns.length cap0) 24
  obtain ⟨w2, e2, x2, b2, z2⟩ := box7 w1 a2 oq2 cq2
  have HC2 : Hid (w2.cell? ⟨w.heap.size, 0, none⟩ = some (.slice a0 ns.length cap0)) := cell_later b2 c1
  have X2 : Hid (Bx w2 w1.heap.size a2 oq2 cq2) := x2
  have B2 : Hid (Below w.heap.size w w2) := bel2 b1 b2
  have HH : Hid (HoldsF 140737488351232 96 w (fq2 + 1) (a2.cells oq2 cq2) a2) := hp2
  clear hp0 hlc hco hT c1 b1 b2 x2 s1 z2 hp2
  have HVS : Hid (∀ v, Below w.heap.size w v → Calls Tryz.prog 17 #[.agg #[.slice a0 ns.length cap0], .int .i64 a1, a2.val oq2 cq2] v fun r w' => ∃ ov cv, r = .returned (.tuple #[.slice ov (valsA ns a1 (fq2 + 1) a2).length cv, .int .i64 (valsE ns a1 (fq2 + 1) a2)]) ∧ w'.ownsRow v.heap.size 9 1 (.slice ov (valsA ns a1 (fq2 + 1) a2).length cv) (valsA ns a1 (fq2 + 1) a2).length (Texts.cellsT (valsA ns a1 (fq2 + 1) a2)) ∧ Below v.heap.size v w') := fun v hv => valuesP _ fq2 ns a0 cap0 a1 a2 oq2 cq2 v (hw.out.later hv) (HT.out.later hv) (HH.out.later hv)
  have HVA : Hid (valsA ns a1 (fq2 + 1) a2 = if mayZ ns a1 (fq2 + 1) a2 = true then told (rowF ns (fq2 + 1) a1.toNat a2) a2.length.toNat else []) := rfl
  have HVE : Hid (valsE ns a1 (fq2 + 1) a2 = if mayZ ns a1 (fq2 + 1) a2 = true then 0 else 900) := rfl
  unfold Arr.val at HVS ⊢
  go_enter Tryz.func4, Tryz.ntmps4
  go_wp2_with fail
  refine (awakeR w2 (hw.out.later B2.out)).mono ?_
  rintro e w3 ⟨rfl, bb⟩
  have B3 : Hid (Below w.heap.size w w3) := bel2 B2.out bb
  have B23 : Hid (Below w2.heap.size w2 w3) := bb
  clear bb e1 e2
  have c5 := cell_later B23.out HC2.out
  have d0 := (X2.out.later B23.out).c0
  have d1 := (X2.out.later B23.out).c1
  have d2 := (X2.out.later B23.out).c2
  have d3 := (X2.out.later B23.out).c3
  have d4 := (X2.out.later B23.out).c4
  have d5 := (X2.out.later B23.out).c5
  have d6 := (X2.out.later B23.out).c6
  by_cases hM : mayZ ns a1 (fq2 + 1) a2 = true
  rotate_left
  · have h1 := HVE.out
    have h2 := HVA.out
    rw [if_neg hM] at h1 h2
    rw [h1, h2] at HVS
    clear h1 h2 hM HVE HVA
    simp only [List.length_nil] at HVS
    go_wp2_with fail
    refine (HVS.out w3 B3.out).mono ?_
    rintro e w4 ⟨ov, cv, rfl, _, b4⟩
    have B4 : Hid (Below w.heap.size w w4) := bel2 B3.out b4
    clear b4
    go_wp2_with fail
    refine (Tree.num _ _).mono ?_
    rintro e wx ⟨rfl, hv⟩
    subst wx
    go_wp2
    go_ret
    exact ⟨rfl, B4.out⟩
  obtain ⟨n, rfl, hn, hm, hF, hHd⟩ := may_head hM
  have hlen := hHd.len
  have hoff := hHd.off
  have hrows := hHd.rows
  obtain ⟨L, hL⟩ : ∃ L : Nat, a2.length = (L : Int) := ⟨a2.length.toNat, by omega⟩
  have HL64 : Hid (L ≤ 64) := by unfold Hid; omega
  have h1 := HVE.out
  have h2 := HVA.out
  rw [if_pos hM] at h1 h2
  rw [hL, Int.toNat_natCast, Int.toNat_natCast] at h2
  have hVL : (told (rowF ns (fq2 + 1) n a2) L).length = L := length_told _ _
  rw [h1, h2, hVL] at HVS
  have HV1 : Hid (∀ v (k : Nat), Below w.heap.size w v → k < L → Calls Tryz.prog 15 #[.agg #[.slice a0 ns.length cap0], .int .i64 (n : Int), a2.val oq2 cq2, .int .i64 (k : Int)] v fun r w' => r = .returned (.tuple #[.string (Arr.mk (rowF ns (fq2 + 1) n a2 k)), .int .i64 0]) ∧ Below v.heap.size v w') := fun v k hv hk => by
    have hc : mayZ ns (n : Int) (fq2 + 1) a2 = true ∧ rowIn a2 (k : Int) := ⟨hM, by omega, by omega⟩
    have := valueP _ fq2 ns a0 cap0 n a2 oq2 cq2 k (WalkArith.wf_i64 (by have := HL64.out; omega)) v (hw.out.later hv) (HT.out.later hv) (HH.out.later hv)
    rw [show val1 ns (n : Int) (fq2 + 1) a2 (k : Int) = Arr.mk (rowF ns (fq2 + 1) n a2 k) from if_pos hc, show val1E ns (n : Int) (fq2 + 1) a2 (k : Int) = 0 from if_pos hc] at this
    exact this
  have HFT : Hid (∀ v (k : Nat), Below w.heap.size w v → k < L → Calls Tryz.prog 23 #[.agg #[.slice a0 ns.length cap0], .int .i64 (n : Int), .string (Arr.mk (rowF ns (fq2 + 1) n a2 k))] v fun r w' => r = .returned (.bool true) ∧ Below v.heap.size v w') := fun v k hv hk => by
    have hb : hasB ns (n : Int) = true := by unfold hasB; rw [hm, decide_eq_true (by omega)]; rfl
    have hmost := (may_of hm).most
    have := Val.fitsRZ a0 cap0 ns n (Arr.mk (rowF ns (fq2 + 1) n a2 k)) v (HT.out.later hv)
    rw [Val.fitsZ_yes hb, row_fits (may_of hm) (fq2 + 1) n 8 a2 hn hF (by omega) k (by omega)] at this
    exact this
  have HTA : Hid (∀ k, k < L → (told (rowF ns (fq2 + 1) n a2) L).getD k ByteArray.empty = Arr.mk (rowF ns (fq2 + 1) n a2 k)) := fun k hk => by
    unfold told
    rw [List.getD_eq_getElem?_getD, List.getElem?_map, List.getElem?_range hk]
    rfl
  have hl64 : (L : Int) ≤ 64 := by have := HL64.out; omega
  have hl0 : (0 : Int) ≤ (L : Int) := Int.natCast_nonneg _
  have hne0 : ((L : Int) != (L : Int)) = false := by rw [bne_eq_false_iff_eq]
  unfold Arr.val at HV1
  have HLL : Hid (a2.length = (L : Int)) := hL
  clear h1 h2 hM HVE HVA hF hm hHd hlen hoff hrows hL
  generalize rowF ns (fq2 + 1) n a2 = G at *
  go_wp2_with fail
  refine (HVS.out w3 B3.out).mono ?_
  rintro e w4 ⟨ov, cv, rfl, hown, b4⟩
  have HTX : Hid (Texts.IsTx w4 ov (told G L)) := by
    have h := hown
    have e := hVL
    exact Texts.own_texts (T := 9) (b := w3.heap.size) (c := cv) (by rw [e]; exact h)
  have B4 : Hid (Below w.heap.size w w4) := bel2 B3.out b4
  have B24 : Hid (Below w2.heap.size w2 w4) := bel2 B23.out b4
  have HVL : Hid ((told G L).length = L) := hVL
  clear b4 c5 d0 d1 d2 d3 d4 d5 d6 hown hVL HVS
  go_wp2_with fail
  refine (Tree.num _ _).mono ?_
  rintro e wx ⟨rfl, hv⟩
  subst wx
  have d2 := (X2.out.later B24.out).c2
  rw [HLL.out] at d2
  go_wp2_with fail
  go_loopw [9] (fun t wr => ∃ k : Nat, k ≤ L ∧ t = .int .i64 (k : Int) ∧ Below w4.heap.size w4 wr) (fun t _ => L - (intOf t).toNat)
  case atStart => exact ⟨0, Nat.zero_le _, rfl, Below.refl _ _⟩
  case round =>
    obtain ⟨k, hk, rfl, hbl⟩ := hrel
    have BL : Hid (Below w4.heap.size w4 wr) := hbl
    have BR : Hid (Below w.heap.size w wr) := bel2 B4.out hbl
    have B2R : Hid (Below w2.heap.size w2 wr) := bel2 B24.out hbl
    clear d2 hbl
    by_cases hlt : k < L
    · obtain ⟨y, rfl, hy⟩ : ∃ y, ov = some y ∧ Texts.LiesT w4 y (told G L) := by
        rcases HTX.out.2 with e | e
        · have := HVL.out
          rw [e] at this
          simp at this
          omega
        · exact e
      have HCK : Hid (∀ v, Below wr.heap.size wr v → v.cell? (y.add k) = some (.string (Arr.mk (G k)))) := fun v hv => by
        have := hy k (by rw [HVL.out]; exact hlt)
        rw [HTA.out k hlt] at this
        exact cell_later (bel2 BL.out hv) this
      have i1 : (k : Int) < (L : Int) := by omega
      have i0 : (0 : Int) ≤ (k : Int) := Int.natCast_nonneg _
      have HV : Hid (Calls Tryz.prog 15 #[.agg #[.slice a0 ns.length cap0], .int .i64 (n : Int), .agg #[.int .i64 a2.layout, .int .i64 a2.offset, .int .i64 a2.length, .string a2.valid, .string a2.ends, .string a2.data, .slice oq2 a2.kids.length cq2], .int .i64 (k : Int)] wr fun r w' => r = .returned (.tuple #[.string (Arr.mk (G k)), .int .i64 0]) ∧ Below wr.heap.size wr w') := HV1.out wr k BR.out hlt
      have HF : Hid (∀ v, Below w.heap.size w v → Calls Tryz.prog 23 #[.agg #[.slice a0 ns.length cap0], .int .i64 (n : Int), .string (Arr.mk (G k))] v fun r w' => r = .returned (.bool true) ∧ Below v.heap.size v w') := fun v hv => HFT.out v k hv hlt
      have c5 := cell_later B2R.out HC2.out
      have d0 := (X2.out.later B2R.out).c0
      have d1 := (X2.out.later B2R.out).c1
      have d2 := (X2.out.later B2R.out).c2
      have d3 := (X2.out.later B2R.out).c3
      have d4 := (X2.out.later B2R.out).c4
      have d5 := (X2.out.later B2R.out).c5
      have d6 := (X2.out.later B2R.out).c6
      generalize Arr.mk (G k) = U at *
      clear hy
      go_wp2_with fail
      refine HV.out.mono ?_
      rintro e w5 ⟨rfl, b5⟩
      have BL5 : Hid (Below w4.heap.size w4 w5) := bel2 BL.out b5
      have BR5 : Hid (Below w.heap.size w w5) := bel2 BR.out b5
      have hck := HCK.out w5 b5
      clear d0 d1 d2 d3 d4 d5 d6 c5
      have c5 := cell_later (bel2 B2R.out b5) HC2.out
      clear b5
      go_wp2_with fail
      refine (Tree.num _ _).mono ?_
      rintro e wx ⟨rfl, hv⟩
      subst wx
      go_wp2_with fail
      refine (HF.out w5 BR5.out).mono ?_
      rintro e w6 ⟨rfl, b6⟩
      have BL6 : Hid (Below w4.heap.size w4 w6) := bel2 BL5.out b6
      clear b6 hck c5
      go_wp2
      go_roundw
      case rel => exact ⟨k + 1, by omega, by go_num, BL6.out⟩
      case measure => simp [intOf]; omega
    · obtain rfl : k = L := by omega
      go_wp2
      go_ret
      exact ⟨rfl, BR.out⟩

set_option maxRecDepth 100000 in
theorem lifted (os : Os) (started : os.Started) (H : Type) (enc : TypeId × Value → H) :
    ReturnsInHanded {} Tryz.checked os 4 .any (fun w args => (Rows.readFitsSpec.pre enc Tryz.prog Tryz.f4 [] false w args ∧ laidMetH Tryz.prog Val.laidR w) ∧ sizedMet enc Tryz.prog Tryz.f4 (OpenSpec.ofChange Rows.readFitsSpec) false w args) (Rows.readFitsSpec.post enc Tryz.prog Tryz.f4 false true false false) := by
  refine returnsInHanded_of_change_and (C := Tryz.checked) (X := fun w _ => laidMetH Tryz.prog Val.laidR w) (fun _ _ _ hh h => h.of_heap hh) own started (by kernel_rfl) Tryz.func4
    (ChangeSpec.witness_shaped (enc := enc) (C := Tryz.checked) (os := os) (X := fun w _ => laidMetH Tryz.prog Val.laidR w) false (World.doorLaid Tryz.prog 400 os) #[.agg #[.slice none 0 0], .int .i64 0, .agg #[.int .i64 0, .int .i64 0, .int .i64 0, .string ByteArray.empty, .string ByteArray.empty, .string ByteArray.empty, .slice none 0 0]] 8 rfl (World.shaped_of_RefB (by kernel_rfl) (by kernel_rfl)) (by kernel_rfl) (by kernel_rfl) (by kernel_rfl) (Val.doorR_met os _)) ?_
  intro W base args ds gs before hval0 hW hcnd hsz0 hL _
  have hsz : (DataW.weightsEach Tryz.prog (Tryz.f4.params.toList ++ Rows.readFitsSpec.plain.varTypes Tryz.prog) (ds ++ gs)).all (· ≤ reachBytes) = true := hsz0
  clear hsz0
  have hval : ∀ (j : Nat) t v, Tryz.f4.params[j]? = some t → args[j]? = some v → Value.okWide Tryz.prog W .any base t v := hval0
  have hW' := hW
  obtain ⟨p, q, hA0, hV, rfl, hfz, hnd⟩ := hW
  have hA : DataW.TrodAll enc Tryz.prog W 0 (fun _ => true) true Tryz.f4.params.toList args.toList ds p := hA0
  rw [Tryz.params4] at hA hval hsz
  obtain ⟨v0, vs0, d0, ds0, p0, q0, hargs, rfl, rfl, h0, r0⟩ := trodAll_cons hA
  obtain ⟨v1, vs1, d1, ds1, p1, q1, rfl, rfl, rfl, h1, r1⟩ := trodAll_cons r0
  obtain ⟨v2, vs2, d2, ds2, p2, q2, rfl, rfl, rfl, h2, r2⟩ := trodAll_cons r1
  obtain ⟨rfl, rfl, rfl⟩ := trodAll_nil r2
  obtain rfl : args = #[v0, v1, v2] := by cases args; simp_all
  obtain ⟨rfl, rfl⟩ := trodVars_none hV
  have k0 := h0
  have lt0 : ∀ x ∈ p0, x.block < W.heap.size := by obtain ⟨m, hm⟩ := k0; exact DataW.trod_lt m _ _ _ hm
  obtain ⟨a0, len0, cap0, z0, rfl, hp0, y0, dy0, hy0⟩ := Tree.open_type Tryz.underlying24 rfl rfl (by kernel_rfl) (by kernel_rfl) Tryz.underlying22 Tryz.underlying50 (by kernel_rfl) rfl rfl rfl (by kernel_rfl) (by kernel_rfl) (by kernel_rfl) Tryz.underlying3 Tryz.underlying3 Tryz.underlying4 (hval 0 24 v0 rfl rfl) h0
  have hs0 : cap0 * 24 ≤ 140737488351232 := by
    have := Tree.sized_type hsz (j := 0) rfl (congrArg some dy0) Tryz.underlying24 Tryz.underlying22 hy0
    rw [show Tryz.prog.bytesOf 50 = 24 from by kernel_rfl] at this
    unfold reachBytes at this
    omega
  obtain ⟨a1, rfl, rfl, rfl, hp1⟩ := open_int Tryz.underlying3 (hval 1 3 v1 rfl rfl) h1
  have k2 := h2
  have lt2 : ∀ x ∈ p2, x.block < W.heap.size := by obtain ⟨m, hm⟩ := k2; exact DataW.trod_lt m _ _ _ hm
  obtain ⟨fq2, a2, oq2, cq2, rfl, hp2⟩ := Arr.open_array (P := Tryz.prog) (T := 27) (S := 25) ⟨Tryz.underlying27, Tryz.underlying25, rfl, (by kernel_rfl), rfl, rfl, rfl, rfl, rfl, rfl, rfl, (by kernel_rfl), (by kernel_rfl), (by kernel_rfl), (by kernel_rfl), (by kernel_rfl), (by kernel_rfl), (by kernel_rfl), Tryz.underlying3, Tryz.underlying3, Tryz.underlying3, Tryz.underlying9, Tryz.underlying9, Tryz.underlying9⟩ (hval 2 27 v2 rfl rfl) h2 (Arr.sized_array hsz (j := 2) rfl rfl)
  rw [show Tryz.prog.bytesOf 27 = 96 from by kernel_rfl] at hp2
  clear hA0 hval0
  refine (walk a0 len0 cap0 z0 a1 fq2 a2 oq2 cq2 W (Val.homeR_of hL) hp0 hs0 hp1 hp2).mono fun e W' ⟨he, bel⟩ => ?_
  subst he
  exact ⟨_, rfl, _, _, _, [], _, [], hW', trodAll_mk1 (shut_bool Tryz.underlying4 _), (trodAll_cons_mk (Below.trod laidOut (by kernel_rfl) (of_decide_eq_true (by kernel_rfl)) k0 bel lt0) (trodAll_cons_mk (shut_int Tryz.underlying3 hp1) (trodAll_cons_mk (Below.trod laidOut (by kernel_rfl) (of_decide_eq_true (by kernel_rfl)) k2 bel lt2) trodAll_mk0))), rfl, bel.frame _, fun h => by cases h⟩

theorem over : Rows.readFitsRow.holds Tryz.pinned (OpenSpec.ofChange Rows.readFitsSpec) :=
  OpenClaim.holds_of_wide 4 Tryz.f4 rfl rfl rfl rfl rfl rfl rfl ⟨rfl, rfl, rfl, rfl, rfl⟩ rfl rfl rfl rfl rfl (by kernel_rfl) Tryz.func4 (by kernel_rfl)
    (of_decide_eq_true (by kernel_rfl)) (by unfold Func.isWrapper; first | (rw [if_pos (by decide +kernel)]; kernel_rfl) | (rw [if_neg (by decide +kernel)]; exact ⟨rfl, rfl⟩))
    (fun os started H enc _ => lifted os started H enc)

end Go.Proofs.YthbjeedmhgnnaaaGreatDoor.readFits
namespace Go.Proofs.YthbjeedmhgnnaaaGreatDoor
theorem readFits_holds : Rows.ReadFitsCardSaid :=
  Claim7.holds_tied_plain_at .later [] [.data, .data, .data] true (true, "ede7692ed42ede84ee1f6f7d68d929b174eb1c55be7630c6b81b25a3e86c5bfe") true
    readFits.over (fun _ h => by cases h) (by kernel_rfl) (fun _ h => by cases h) readFits_row_tie rfl ⟨rfl, rfl⟩ (by kernel_rfl) rfl
    (fun f fn hf hfn => by
      obtain rfl : f = 4 := Option.some.inj ((show Tryz.prog.funcNamed Rows.readFitsRow.func = some 4 by kernel_rfl).symm.trans hf) |>.symm
      obtain rfl : fn = Tryz.f4 := (Option.some.inj (Tryz.func4.symm.trans hfn)).symm
      exact ⟨by kernel_rfl, fun j t ht => by
        rw [Tryz.params4] at ht
        have hm : t ∈ [24, 3, 27] := by simpa using Array.mem_of_getElem? ht
        have hall : ([24, 3, 27].all fun u => !Tryz.prog.wantsStandIn u) = true := by kernel_rfl
        exact (show Tryz.prog.wantsStandIn t = false by simpa using List.all_eq_true.1 hall t hm)⟩)
    (by kernel_rfl)
#print axioms readFits_holds
end Go.Proofs.YthbjeedmhgnnaaaGreatDoor
