/-
  ValueFits: each kind of value fits its own kind of node alone.
-/
import Derived.Test.YtncagkkngbmdkaaDoorRows
import Derived.WalkKit
import Derived.ProofKit
import Derived.OpenShut
import Derived.ShutString
import Derived.ChangeOld
import Derived.Below
import Derived.LaidMore
import Derived.Stop.Joined
import Derived.Deep.QuietTactic
import Derived.WalkSmall
import Derived.BigQuiet
import Derived.Deep.RegionWith
import Derived.OwnWalk
import Derived.RegionTactic
import Derived.ChangeAlike
import Derived.Deep.CutBlock
import Derived.Maps.AppendAt
import Derived.OneCell
import Derived.Laws.OwnMore
import Derived.SevenTiedAt
import Derived.Test.YtncagkkngbmdkaaDoorCards
import Derived.Test.YtncagkkngbmdkaaDoorTie
import Derived.SizedLaws
import Derived.Test.YtncagkkngbmdkaaDoorTree
import Derived.Test.YtncagkkngbmdkaaDoorMask
import Derived.Test.YtncagkkngbmdkaaDoorMem
import Derived.Test.YtncagkkngbmdkaaDoorMay
import Derived.Test.YtncagkkngbmdkaaDoorWay
import Derived.Test.YtncagkkngbmdkaaDoorQuiet
import Derived.Test.YtncagkkngbmdkaaDoorWhole
import Derived.Test.YtncagkkngbmdkaaDoorValTab
import Derived.Test.YtncagkkngbmdkaaDoorOpenTexts
import Derived.Test.YtncagkkngbmdkaaDoorHome
import Derived.Test.YtncagkkngbmdkaaDoorDoor
import Derived.Test.YtncagkkngbmdkaaDoorRow
import Derived.Test.YtncagkkngbmdkaaDoorFitsZ
import Derived.Test.YtncagkkngbmdkaaDoorMake
import Derived.Test.YtncagkkngbmdkaaDoorAwake
namespace Go.Proofs.YtncagkkngbmdkaaDoor.valueFits
open Go.ChangeShapes Go.WideShapes Go.ChangeAt Go.RowKit
open Go.ChangeMaps (open_string shut_string)
set_option linter.unusedVariables false

theorem own : ownKnob Tryd.prog.godebug = none := by kernel_rfl

open Val Texts
open Tree (Nd nd Lies IsT cell_later boxed cellsN cellsN_snoc BW region_in)
def fitV : List Value := fitTexts.map Value.string
theorem fitV_at (k : Nat) (h : k < 14) : fitV[k]? = some (.string (fitTexts.getD k ByteArray.empty)) := by
  have hk : k < fitTexts.length := h
  unfold fitV
  rw [List.getElem?_map, List.getElem?_eq_getElem hk, getD_text fitTexts k hk]
  rfl
def litFit (w : World) : World := w.alloc (.cells fitV.toArray 9)
theorem litFit_is (w : World) (k : Nat) (h : k < 14) : (litFit w).cell? ⟨w.heap.size, k, none⟩ = some (.string (fitTexts.getD k ByteArray.empty)) ∧ Below w.heap.size w (litFit w) := by
  refine ⟨?_, (Below.refl _ _).alloc (Nat.le_refl _) _⟩
  unfold litFit
  rw [cell_of_row _ _ _ _ _ _ (heap_alloc_new w _), List.getElem?_toArray]
  exact fitV_at k h
theorem fit_want (K I : Nat) (hK : K < 5) (hI : I < 14) (null : Bool) : fitsZ (fitType K null) 0 (fitTexts.getD I ByteArray.empty) = (((I : Int) == (K : Int)) || ((I : Int) == 5) && null || ((I : Int) == 13) && ((K : Int) == 3)) := by
  have := fit_all ⟨K, hK⟩ null ⟨I, hI⟩
  have e : ∀ m n : Nat, decide (m = n) = ((m : Int) == (n : Int)) := fun m n => by
    rw [Bool.eq_iff_iff, decide_eq_true_eq, beq_iff_eq]
    omega
  rw [show fitsZ (fitType K null) 0 (fitTexts.getD I ByteArray.empty) = _ from this]
  show (decide (I = K) || decide (I = 5) && null || decide (I = 13) && decide (K = 3)) = _
  rw [e I K, e I 5, e I 13, e K 3]
  rfl
theorem fit_size : ∀ i : Fin 14, (fitTexts.getD i.val ByteArray.empty).size ≤ 64 := by decide +kernel
theorem cellsN_at (p : List Nd) : ∀ i, i < p.length → (cellsN p)[i * 3]? = some (.int .i64 (nd p i).kind) ∧ (cellsN p)[i * 3 + 1]? = some (.int .i64 (nd p i).par) ∧ (cellsN p)[i * 3 + 2]? = some (.bool (nd p i).null) := by
  induction p with
  | nil => intro i hi; simp at hi
  | cons n p ih =>
    intro i hi
    cases i with
    | zero => exact ⟨rfl, rfl, rfl⟩
    | succ i =>
      have := ih i (by simpa using hi)
      have e : cellsN (n :: p) = .int .i64 n.kind :: .int .i64 n.par :: .bool n.null :: cellsN p := rfl
      rw [e, show (i + 1) * 3 = i * 3 + 3 from by omega]
      exact this
theorem own_lies {w : World} {b c : Nat} {o : Option Addr} {p : List Nd} (h : w.ownsRow b 37 3 (.slice o p.length c) p.length (cellsN p)) : IsT w o p := by
  rcases h.2 with ⟨h0, h1⟩ | ⟨g, cap, cur, h0, _, _, hle, hm, _⟩
  · exact ⟨by rw [h1]; exact Nat.zero_le _, .inl (List.eq_nil_of_length_eq_zero h1)⟩
  · refine ⟨by omega, .inr ⟨⟨g, 0, none⟩, by injection h0, ?_⟩⟩
    injection h0 with h2 h3 h4
    subst h2 h4
    have hc : ∀ j u, (cellsN p)[j]? = some u → w.cell? ((⟨g, 0, none⟩ : Addr).add j) = some u := h.cells rfl
    exact ⟨fun i hi => hc _ _ (cellsN_at p i hi).1, fun i hi => hc _ _ (cellsN_at p i hi).2.1, fun i hi => hc _ _ (cellsN_at p i hi).2.2⟩
/-- The type of the law, in its box. -/
def FitW (w : World) (bb K : Nat) (null : Bool) (wx : World) : Prop :=
  ∃ o c, wx.cell? ⟨bb, 0, none⟩ = some (.slice o (fitType K null).length c) ∧ IsT wx o (fitType K null) ∧ Below w.heap.size w wx
set_option maxRecDepth 20000 in
set_option maxHeartbeats 4000000 in
theorem walk (a0 : Int) (a1 : Int) (a2 : Bool) (w : World) (hw : Hid (Val.Home w)) (w0 : (Lit.int .i64 a0).wf = true) (w1 : (Lit.int .i64 a1).wf = true) :
    Calls Tryd.prog 6 #[.int .i64 a0, .int .i64 a1, .bool a2] w fun e w' => e = .returned (.bool true) ∧ Below w.heap.size w w' := by
  obtain ⟨k, hk, hk0, hk5⟩ := Tree.rest a0 5 (by decide)
  obtain ⟨q, hq, hq0, hq14⟩ := Tree.rest a1 14 (by decide)
  obtain ⟨K, rfl⟩ := Int.eq_ofNat_of_zero_le hk0
  obtain ⟨I, rfl⟩ := Int.eq_ofNat_of_zero_le hq0
  have hK : K < 5 := by omega
  have hI : I < 14 := by omega
  go_enter Tryd.func6, Tryd.ntmps6
  go_wp2_with fail
  refine (awake w hw).mono ?_
  rintro e w1 ⟨rfl, b1⟩
  have B1 : Hid (Below w.heap.size w w1) := b1
  clear b1
  go_upto_if 24 with fail
  obtain ⟨w2, e2⟩ : ∃ w2, w1.alloc (.cells #[.int .i64 (K : Int), .int .i64 (-1), .bool a2] 37) = w2 := ⟨_, rfl⟩
  have s2 : w2.heap.size = w1.heap.size + 1 := by rw [← e2]; simp
  have hown2 : w2.ownsRow w1.heap.size 37 3 (.slice (some ⟨w1.heap.size, 0, none⟩) 1 1) 1 (cellsN [⟨(K : Int), -1, a2⟩]) := by
    rw [← e2]
    exact World.ownsRow_lit w1 #[.int .i64 (K : Int), .int .i64 (-1), .bool a2] 1 (Nat.le_refl _) (by decide) rfl
  have b2 : Below w1.heap.size w1 w2 := by rw [← e2]; exact (Below.refl _ _).alloc (Nat.le_refl _) _
  rw [e2]
  rw [← s2]
  obtain ⟨w3, e3, s3, c3, b3⟩ := boxed w2 (.slice (some ⟨w1.heap.size, 0, none⟩) 1 1) 40
  have f3 : w3.frozen? ⟨w2.heap.size, 0, none⟩ = false := by rw [← e3]; simp
  have hown3 : w3.ownsRow w1.heap.size 37 3 (.slice (some ⟨w1.heap.size, 0, none⟩) 1 1) 1 (cellsN [⟨(K : Int), -1, a2⟩]) := by rw [← e3]; exact hown2.alloc _
  have B3 : Hid (Below w1.heap.size w1 w3) := bel2 b2 b3
  rw [e3]
  clear e2 e3 hown2 b2 b3
  have S2 : Hid (w2.heap.size = w1.heap.size + 1) := s2
  clear s2
  generalize w2.heap.size = bb at *
  go_cut [] from 12 (fun wx => FitW w bb K a2 wx)
  case first =>
    by_cases h3 : 3 ≤ K
    · have h3' : (3 : Int) ≤ (K : Int) := by omega
      have hF : fitType K a2 = [⟨(K : Int), -1, a2⟩] ++ [⟨0, 0, false⟩] := if_pos h3
      obtain ⟨i46, hi, hz0, hz1, hz2⟩ := info_parts Tree.info46
      go_wp2_with (at_builtin; refine wpList_append_own_at _ rfl (.tmp 26) (.tmp 28) 38 rfl w1.heap.size 37 i46 (.agg #[.int .i64 0, .int .i64 0, .bool false]) 3 24 Tryd.underlying38 hi hz0 hz1 hz2 rfl (by decide) _ 1 _ rfl (hown3.alloc _) ⟨w3.heap.size, 0, none⟩ 1 1 [.int .i64 0, .int .i64 0, .bool false] rfl rfl ?c1 ?c2 ?c3 ?c4 ?c5 ?_)
      case c1 =>
        intro i u hi
        match i, hi with
        | 0, hi => simp at hi; subst hi; simp [Addr.add]
        | 1, hi => simp at hi; subst hi; simp [Addr.add]
        | 2, hi => simp at hi; subst hi; simp [Addr.add]
      case c2 => intro u hu; simp at hu; rcases hu with rfl | rfl <;> rfl
      case c3 => decide
      case c4 => decide
      case c5 => have := B3.out.size; simp; omega
      intro v' w4 hown' hgrow _ hblk
      have hB4 : Below w1.heap.size w1 w4 := (B3.out.alloc B3.out.size _).grown hgrow (by have := B3.out.size; simp; omega) (fun i hi => (hown3.lt i hi).1)
      have hown4 : w4.ownsRow w1.heap.size 37 3 v' (fitType K a2).length (cellsN (fitType K a2)) := by
        rw [hF, cellsN_snoc]
        exact hown'
      have hnb : (Value.slice (some ⟨w1.heap.size, 0, none⟩) 1 1).ownBlock ≠ some bb := by
        intro c
        have := S2.out
        injection c with c
        have c : w1.heap.size = bb := c
        omega
      have hnb4 : v'.ownBlock ≠ some bb := by
        rcases hblk with e | e
        · rw [e]; exact hnb
        · rw [e]
          intro c
          injection c with c
          have c : w3.heap.size + 1 = bb := by simpa using c
          omega
      have hc4 : w4.cell? ⟨bb, 0, none⟩ = some (.slice (some ⟨w1.heap.size, 0, none⟩) 1 1) := hgrow.cell (a := ⟨bb, 0, none⟩) (cell_later ((Below.refl w3.heap.size w3).alloc (Nat.le_refl _) _) c3) (fun e => hnb e.symm)
      have hf4 : w4.frozen? ⟨bb, 0, none⟩ = false := (World.frozen?_of_block (a := ⟨bb, 0, none⟩) (hgrow.block bb (by simp; omega) (fun e => hnb e.symm))).trans ((((Below.refl w3.heap.size w3).alloc (Nat.le_refl _) _).frozen (p := ⟨bb, 0, none⟩) s3).trans f3)
      obtain ⟨o4, c4, rfl⟩ := Tree.own_slice hown4
      clear hgrow hown' hblk hown3 c3 f3
      go_wp2
      go_meet
      case rel =>
        refine ⟨o4, c4, ?_, own_lies (ownsRow_setCell_other hown4 hnb4 _), bel2 B1.out (hB4.setCell (show w1.heap.size ≤ bb by have := S2.out; omega) _)⟩
        rw [show (fitType K a2).length = 2 by rw [hF]; rfl]
        exact World.cell?_setCell_same _ _ _ hc4
    · have h3' : ¬ (3 : Int) ≤ (K : Int) := by omega
      have hF : fitType K a2 = [⟨(K : Int), -1, a2⟩] := if_neg h3
      go_wp2
      go_meet
      case rel =>
        refine ⟨some ⟨w1.heap.size, 0, none⟩, 1, ?_, ?_, bel2 B1.out B3.out⟩
        · rw [hF]; exact c3
        · rw [hF]; exact own_lies hown3
  case rest =>
    obtain ⟨o, c, hc, hT, hb⟩ := hcut
    have HT : Hid (IsT wc o (fitType K a2)) := hT
    have HB : Hid (Below w.heap.size w wc) := hb
    clear hT hb c3 f3 s3 hown3 B3 S2 B1 hk
    go_upto_region 9 with fail
    show Code.wp _ _ _ _ (litFit wc)
    obtain ⟨l1, l2⟩ := litFit_is wc I hI
    have hcl := cell_later l2 hc
    have HTL : Hid (IsT (litFit wc) o (fitType K a2)) := HT.out.later l2
    have HBL : Hid (Below w.heap.size w (litFit wc)) := bel2 HB.out l2
    generalize wc.heap.size = bl at *
    generalize litFit wc = wl at *
    clear hc HT HB l2
    obtain ⟨F1, F2⟩ := fit_no ⟨K, hK⟩ a2 ⟨I, hI⟩
    have F0 := fit_want K I hK hI a2
    have FS := fit_size ⟨I, hI⟩
    replace F1 : fitsZ (fitType K a2) (-1) (fitTexts.getD I ByteArray.empty) = false := F1
    replace F2 : fitsZ (fitType K a2) 2 (fitTexts.getD I ByteArray.empty) = false := F2
    replace FS : (fitTexts.getD I ByteArray.empty).size ≤ 64 := FS
    have H1 : Hid _ := F1
    have H2 : Hid _ := F2
    have HS : Hid _ := FS
    clear F1 F2 FS
    generalize fitTexts.getD I ByteArray.empty = S at *
    obtain ⟨W, hW⟩ : ∃ W, fitsZ (fitType K a2) 0 S = W := ⟨_, rfl⟩
    have H0 : Hid (fitsZ (fitType K a2) 0 S = W) := hW
    rw [hW] at F0
    clear hW
    go_cut [11] from 12 (fun t wx => t = .bool W ∧ wx = wl)
    case first =>
      obtain ⟨p, hp⟩ : ∃ p, ((I : Int) == (K : Int)) = p := ⟨_, rfl⟩
      obtain ⟨q, hq5⟩ : ∃ q, ((I : Int) == 5) = q := ⟨_, rfl⟩
      obtain ⟨r, hr⟩ : ∃ r, ((I : Int) == 13) = r := ⟨_, rfl⟩
      obtain ⟨t, ht⟩ : ∃ t, ((K : Int) == 3) = t := ⟨_, rfl⟩
      rw [hp, hq5, hr, ht] at F0
      have HF : Hid (W = (p || q && a2 || r && t)) := F0
      clear F0 hk0 hk5 hq0 hq14 hK hI
      cases p
      · cases q
        · cases r
          · go_wp2
            go_meet
            case rel => exact ⟨by rw [HF.out]; rfl, rfl⟩
          · go_wp2
            go_meet
            case rel => exact ⟨by rw [HF.out]; rfl, rfl⟩
        · cases a2
          · cases r
            · go_wp2
              go_meet
              case rel => exact ⟨by rw [HF.out]; rfl, rfl⟩
            · go_wp2
              go_meet
              case rel => exact ⟨by rw [HF.out]; rfl, rfl⟩
          · go_wp2
            go_meet
            case rel => exact ⟨by rw [HF.out]; rfl, rfl⟩
      · go_wp2
        go_meet
        case rel => exact ⟨by rw [HF.out]; rfl, rfl⟩
    case rest =>
      obtain ⟨rfl, rfl⟩ := hcut
      clear F0 w1 w2 w3
      have cB : ∀ s : BW wc, s.w.cell? ⟨bb, 0, none⟩ = some (.slice o (fitType K a2).length c) := fun s => cell_later s.ok hcl
      have cL : ∀ s : BW wc, s.w.cell? ⟨bl, I, none⟩ = some (.string S) := fun s => cell_later s.ok l1
      have hne := BW.some wc
      cases W
      all_goals
        go_upto_region 10 with fail
        refine region_in (C := fun w' => ∃ s : BW wc, w' = s.w) (by kernel_rfl) (by kernel_rfl) ⟨⟨wc.drew, (Below.refl _ _).drew⟩, rfl⟩ ?_
        repeat (go_big_quiet_step (first | (go_at_call 17; rename_i s; refine (fitsC o c (fitType K a2) _ S (by have := HS.out; omega) s.w (HTL.out.later s.ok) (hw.out.later (bel2 HBL.out s.ok))).mono ?_; (first | rw [H0.out] | rw [H1.out] | rw [H2.out]); rintro e wx ⟨rfl, hbx⟩; exact ⟨rfl, ⟨wx, bel2 s.ok hbx⟩, rfl⟩) | (go_at_call 11; rename_i s; refine (numC _ s.w).mono ?_; rintro e wx ⟨rfl, rfl⟩; exact ⟨rfl, s, rfl⟩)))
        refine wpQuiet_nil ?_
        intro _ hw'
        obtain ⟨s, hw''⟩ := hw'
        subst hw''
        have HE : Hid (Below w.heap.size w s.w) := bel2 HBL.out s.ok
        clear cB cL hne hcl l1
        go_wp2
        go_ret
        exact ⟨rfl, HE.out⟩

set_option maxRecDepth 100000 in
theorem lifted (os : Os) (started : os.Started) (H : Type) (enc : TypeId × Value → H) :
    ReturnsInHanded {} Tryd.checked os 6 .any (fun w args => (Rows.valueFitsSpec.pre enc Tryd.prog Tryd.f6 [] false w args ∧ laidMetH Tryd.prog Val.laidV w) ∧ sizedMet enc Tryd.prog Tryd.f6 (OpenSpec.ofChange Rows.valueFitsSpec) false w args) (Rows.valueFitsSpec.post enc Tryd.prog Tryd.f6 false true false false) := by
  refine returnsInHanded_of_change_and (C := Tryd.checked) (X := fun w _ => laidMetH Tryd.prog Val.laidV w) (fun _ _ _ hh h => h.of_heap hh) own started (by kernel_rfl) Tryd.func6
    (ChangeSpec.witness_shaped (enc := enc) (C := Tryd.checked) (os := os) (X := fun w _ => laidMetH Tryd.prog Val.laidV w) false (World.doorLaid Tryd.prog 400 os) #[.int .i64 0, .int .i64 0, .bool false] 8 rfl (World.shaped_of_RefB (by kernel_rfl) (by kernel_rfl)) (by kernel_rfl) (by kernel_rfl) (by kernel_rfl) (Val.door_met os _)) ?_
  intro W base args ds gs before hval0 hW hcnd _ hL _
  have hval : ∀ (j : Nat) t v, Tryd.f6.params[j]? = some t → args[j]? = some v → Value.okWide Tryd.prog W .any base t v := hval0
  have hW' := hW
  obtain ⟨p, q, hA0, hV, rfl, hfz, hnd⟩ := hW
  have hA : DataW.TrodAll enc Tryd.prog W 0 (fun _ => true) true Tryd.f6.params.toList args.toList ds p := hA0
  rw [Tryd.params6] at hA hval
  obtain ⟨v0, vs0, d0, ds0, p0, q0, hargs, rfl, rfl, h0, r0⟩ := trodAll_cons hA
  obtain ⟨v1, vs1, d1, ds1, p1, q1, rfl, rfl, rfl, h1, r1⟩ := trodAll_cons r0
  obtain ⟨v2, vs2, d2, ds2, p2, q2, rfl, rfl, rfl, h2, r2⟩ := trodAll_cons r1
  obtain ⟨rfl, rfl, rfl⟩ := trodAll_nil r2
  obtain rfl : args = #[v0, v1, v2] := by cases args; simp_all
  obtain ⟨rfl, rfl⟩ := trodVars_none hV
  obtain ⟨a0, rfl, rfl, rfl, w0⟩ := open_int Tryd.underlying3 (hval 0 3 v0 rfl rfl) h0
  obtain ⟨a1, rfl, rfl, rfl, w1⟩ := open_int Tryd.underlying3 (hval 1 3 v1 rfl rfl) h1
  obtain ⟨a2, rfl, rfl, rfl⟩ := open_bool Tryd.underlying4 (hval 2 4 v2 rfl rfl) h2
  clear hA0 hval0
  refine (walk a0 a1 a2 W (Val.home_of hL) w0 w1).mono fun e W' ⟨he, bel⟩ => ?_
  subst he
  exact ⟨_, rfl, _, _, _, [], _, [], hW', trodAll_mk1 (shut_bool Tryd.underlying4 _), (trodAll_cons_mk (shut_int Tryd.underlying3 w0) (trodAll_cons_mk (shut_int Tryd.underlying3 w1) (trodAll_cons_mk (shut_bool Tryd.underlying4 _) trodAll_mk0))), rfl, bel.frame _, fun h => by cases h⟩

theorem over : Rows.valueFitsRow.holds Tryd.pinned (OpenSpec.ofChange Rows.valueFitsSpec) :=
  OpenClaim.holds_of_wide 6 Tryd.f6 rfl rfl rfl rfl rfl rfl rfl ⟨rfl, rfl, rfl, rfl, rfl⟩ rfl rfl rfl rfl rfl (by kernel_rfl) Tryd.func6 (by kernel_rfl)
    (of_decide_eq_true (by kernel_rfl)) (by unfold Func.isWrapper; first | (rw [if_pos (by decide +kernel)]; kernel_rfl) | (rw [if_neg (by decide +kernel)]; exact ⟨rfl, rfl⟩))
    (fun os started H enc _ => lifted os started H enc)

end Go.Proofs.YtncagkkngbmdkaaDoor.valueFits
namespace Go.Proofs.YtncagkkngbmdkaaDoor
theorem valueFits_holds : Rows.ValueFitsCardSaid :=
  Claim7.holds_tied_plain_at .later [] [.data, .data, .data, .sentinel, .sentinel] true (true, "144572b7fb924916b0d2afe7311542e541e51744ef72fae6c12f1363541a2b76") true
    valueFits.over (fun _ h => by cases h) (by kernel_rfl) (fun _ h => by cases h) valueFits_row_tie rfl ⟨rfl, rfl⟩ (by kernel_rfl) rfl
    (fun f fn hf hfn => by
      obtain rfl : f = 6 := Option.some.inj ((show Tryd.prog.funcNamed Rows.valueFitsRow.func = some 6 by kernel_rfl).symm.trans hf) |>.symm
      obtain rfl : fn = Tryd.f6 := (Option.some.inj (Tryd.func6.symm.trans hfn)).symm
      exact ⟨by kernel_rfl, fun j t ht => by
        rw [Tryd.params6] at ht
        have hm : t ∈ [3, 3, 4] := by simpa using Array.mem_of_getElem? ht
        have hall : ([3, 3, 4].all fun u => !Tryd.prog.wantsStandIn u) = true := by kernel_rfl
        exact (show Tryd.prog.wantsStandIn t = false by simpa using List.all_eq_true.1 hall t hm)⟩)
    (by kernel_rfl)
#print axioms valueFits_holds
end Go.Proofs.YtncagkkngbmdkaaDoor
