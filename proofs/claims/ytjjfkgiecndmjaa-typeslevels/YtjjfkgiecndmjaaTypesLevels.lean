/-
  TypesLevels: a kid's levels are its parent's and its own.
-/
import Derived.Test.YtjjfkgiecndmjaaRows
import Derived.WalkKit
import Derived.ProofKit
import Derived.OpenShut
import Derived.ShutString
import Derived.ChangeOld
import Derived.Below
import Derived.Deep.QuietTactic
import Derived.WalkSmall
import Derived.BigQuiet
import Derived.Deep.RegionWith
import Derived.OwnWalk
import Derived.RegionTactic
import Derived.ChangeAlike
import Derived.SizedLaws
import Derived.Test.YtjjfkgiecndmjaaTree
import Derived.Test.YtjjfkgiecndmjaaOpen
import Derived.Test.YtjjfkgiecndmjaaMem
import Derived.Test.YtjjfkgiecndmjaaUp
import Derived.Test.YtjjfkgiecndmjaaMay
import Derived.Test.YtjjfkgiecndmjaaPro
import Derived.Test.YtjjfkgiecndmjaaLev
import Derived.Test.YtjjfkgiecndmjaaHelp
import Derived.Test.YtjjfkgiecndmjaaAwake
import Derived.Test.YtjjfkgiecndmjaaEnv
import Derived.Test.YtjjfkgiecndmjaaQuiet
namespace Go.Proofs.Ytjjfkgiecndmjaa.typesLevels
open Go.ChangeShapes Go.WideShapes Go.ChangeAt Go.RowKit
open Go.ChangeMaps (open_string shut_string)
set_option linter.unusedVariables false

theorem own : ownKnob Try.prog.godebug = none := by kernel_rfl
theorem laidOut : laidOutB Try.prog = true := by kernel_rfl

open Tree
theorem levelsY (a : Option Addr) (cap : Nat) (l : List Nd) (k : Nat) (w : World) (h : IsT w a l) (hm : may l = true) (hk : k < l.length) :
    Calls Try.prog 14 #[.agg #[.slice a l.length cap], .int .i64 (k : Int)] w fun r w' => r = .returned (.tuple #[.int .i64 (rep l k : Int), .int .i64 (dfn l k : Int), .int .i64 0]) ∧ Below w.heap.size w w' := by
  have hh : hasB l k = true := by unfold hasB; rw [hm, Bool.and_true, decide_eq_true_eq]; omega
  have := levelsP a cap l k w h
  unfold repA dfnA at this
  rw [hh, if_pos rfl, if_pos rfl, Int.toNat_natCast] at this
  exact this
theorem levelsN (a : Option Addr) (cap : Nat) (l : List Nd) (i : Int) (w : World) (h : IsT w a l) (hm : hasB l i = false) :
    Calls Try.prog 14 #[.agg #[.slice a l.length cap], .int .i64 i] w fun r w' => r = .returned (.tuple #[.int .i64 0, .int .i64 0, .int .i64 500]) ∧ Below w.heap.size w w' := by
  have := levelsP a cap l i w h
  unfold repA dfnA at this
  rw [hm, if_neg (by simp), if_neg (by simp)] at this
  exact this
set_option maxRecDepth 20000 in
set_option maxHeartbeats 4000000 in
theorem walk (a0 : Option Addr) (len0 cap0 : Nat) (z0 : List Tree.Nd) (w : World) (w0 : Tree.IsNodes w a0 len0 cap0 z0) (s0 : cap0 * 24 ≤ 140737488351232) :
    Calls Try.prog 4 #[.agg #[.slice a0 len0 cap0]] w fun e w' => e = .returned (.bool true) ∧ Below w.heap.size w w' := by
  obtain ⟨l, rfl, hT, hlc, _⟩ := isT_of w0
  have HT : Hid (IsT w a0 l) := hT
  clear w0 hT
  cases hm : may l
  · have HH : Hid (hasB l 0 = false) := by unfold Hid hasB; rw [hm, Bool.and_false]
    have HM : Hid (may l = false) := hm
    clear hm
    go_enter Try.func4, Try.ntmps4
    go_wp2_with fail
    obtain ⟨wb, eb, hsb, hcb, hbb⟩ := boxed w (.slice a0 l.length cap0) 24
    rw [eb]
    clear eb
    refine (awake wb).mono ?_
    rintro e w2 ⟨rfl, hb2⟩
    have hc2 := cell_later hb2 hcb
    have hB2 := bel hbb hb2
    clear hcb hbb hb2
    go_wp2_with fail
    refine (mayC a0 cap0 l w2 (HT.out.later hB2)).mono ?_
    rintro e w3 ⟨rfl, hb3⟩
    rw [HM.out]
    have hc3 := cell_later hb3 hc2
    have hB3 := bel hB2 hb3
    clear hc2 hB2 hb3
    go_wp2_with fail
    refine (levelsN a0 cap0 l 0 w3 (HT.out.later hB3) HH.out).mono ?_
    rintro e w4 ⟨rfl, hb4⟩
    go_wp2_with fail
    refine (num _ _).mono ?_
    rintro e w5 ⟨rfl, rfl⟩
    go_wp2
    go_ret
    exact ⟨rfl, bel hB3 hb4⟩
  · have HM : Hid (may l = true) := hm
    have HMay : Hid (May l) := may_of hm
    have h8 := (may_of hm).most
    have h1 := (may_of hm).one
    clear hm
    obtain ⟨x, rfl, hl⟩ := HT.out.some h1
    have HL : Hid (Lies w x l) := hl
    clear hl
    go_enter Try.func4, Try.ntmps4
    go_wp2_with fail
    obtain ⟨wb, eb, hsb, hcb, hbb⟩ := boxed w (.slice (some x) l.length cap0) 24
    rw [eb]
    clear eb
    refine (awake wb).mono ?_
    rintro e w2 ⟨rfl, hb2⟩
    have hc2 := cell_later hb2 hcb
    have hB2 := bel hbb hb2
    clear hcb hbb hb2
    go_wp2_with fail
    refine (mayC (some x) cap0 l w2 (HT.out.later hB2)).mono ?_
    rintro e w3 ⟨rfl, hb3⟩
    rw [HM.out]
    have hc3 := cell_later hb3 hc2
    have hB3 := bel hB2 hb3
    have HT3 : Hid (IsT w3 (some x) l) := HT.out.later hB3
    have HL3 : Hid (Lies w3 x l) := HL.out.later hB3
    clear hc2 hB2 hb3 HT HL
    go_wp2_with fail
    go_loopw [6] (fun t wr => ∃ k : Nat, k ≤ l.length ∧ t = .int .i64 (k : Int) ∧ Below w3.heap.size w3 wr) (fun t _ => l.length - (intOf t).toNat)
    case atStart => exact ⟨0, Nat.zero_le _, rfl, Below.refl _ _⟩
    case round =>
      obtain ⟨k, hk, rfl, hbl⟩ := hrel
      have hc4 := cell_later hbl hc3
      by_cases hlt : k < l.length
      · have hrk := HMay.out.rep_le k hlt
        have hp0 := HL3.out.par' k hlt
        have hq0 := HL3.out.kind' k hlt
        have hn0 := HL3.out.null' k hlt
        by_cases hk0 : k = 0
        · have hz : (k : Int) = 0 := by omega
          have HZ : Hid ((k : Int) = 0) := hz
          have HR : Hid (rep l k = rep1 (nd l k)) := by unfold Hid; rw [hk0, rep_first]
          have HD : Hid (dfn l k = def1 (nd l k)) := by unfold Hid; rw [hk0, dfn_first]
          clear hz hk0
          unfold rep1 at HR
          unfold def1 at HD
          generalize nd l k = n at *
          obtain ⟨kd, pr, nl⟩ := n
          simp only at hp0 hq0 hn0 HR HD
          cases nl
          all_goals
            by_cases hkd : kd = 3
            all_goals
              have HR2 := HR.out
              have HD2 := HD.out
              simp only [hkd, if_true, if_false, Nat.add_zero, Nat.zero_add, Bool.false_eq_true] at HR2 HD2
              have HR3 : Hid _ := HR2
              have HD3 : Hid _ := HD2
              clear HR HD HR2 HD2
              go_wp2_with fail
              refine (levelsY (some x) cap0 l k wr (HT3.out.later hbl) HM.out hlt).mono ?_
              rintro e w5 ⟨rfl, hb5⟩
              rw [HR3.out, HD3.out]
              have hB5 := bel hbl hb5
              have hc5 := cell_later hB5 hc3
              have hq5 := cell_later hB5 hq0
              have hn5 := cell_later hB5 hn0
              have hz := HZ.out
              have hz1 : ¬ (0 < (k : Int)) := by omega
              clear hz
              go_wp2_with fail
              refine (num _ _).mono ?_
              rintro e w7 ⟨rfl, rfl⟩
              go_wp2_with fail
              refine (num _ _).mono ?_
              rintro e w7 ⟨rfl, rfl⟩
              go_wp2
              go_roundw
              case rel => exact ⟨k + 1, by omega, by go_num, hB5⟩
              case measure => simp [intOf]; omega
        · have hp := HMay.out.par k (by omega) hlt
          have HR : Hid (rep l k = rep l (nd l k).par.toNat + if (nd l k).kind = 3 then 1 else 0) := (HMay.out.rep_up (by omega) hlt).trans (Nat.add_comm _ _)
          have HD : Hid (dfn l k = dfn l (nd l k).par.toNat + (if (nd l k).kind = 3 then 1 else 0) + if (nd l k).null then 1 else 0) := (HMay.out.dfn_up (by omega) hlt).trans ((Nat.add_comm _ _).trans (Nat.add_assoc _ _ _).symm)
          generalize nd l k = n at *
          obtain ⟨kd, pr, nl⟩ := n
          simp only at hp hp0 hq0 hn0 HR HD
          obtain ⟨q, rfl⟩ := Int.eq_ofNat_of_zero_le hp.1
          rw [Int.toNat_natCast] at HR HD
          have hqk : q < k := by omega
          have hrq := HMay.out.rep_le q (by omega)
          cases nl
          all_goals
            by_cases hkd : kd = 3
            all_goals
              have HR2 := HR.out
              have HD2 := HD.out
              simp only [hkd, if_true, if_false, Nat.add_zero, Bool.false_eq_true] at HR2 HD2
              have HR3 : Hid _ := HR2
              have HD3 : Hid _ := HD2
              clear HR HD HR2 HD2
              go_wp2_with fail
              refine (levelsY (some x) cap0 l k wr (HT3.out.later hbl) HM.out hlt).mono ?_
              rintro e w5 ⟨rfl, hb5⟩
              rw [HR3.out, HD3.out]
              have hB5 := bel hbl hb5
              have hc5 := cell_later hB5 hc3
              go_wp2_with fail
              have hcx : ∀ s : BW w3, s.w.cell? ⟨w.heap.size, 0, none⟩ = some (.slice (some x) l.length cap0) := fun s => cell_later s.ok hc3
              have hpx : ∀ s : BW w3, s.w.cell? { block := (x.add (k * 3)).block, off := (x.add (k * 3)).off + 1 } = some (.int .i64 (q : Int)) := fun s => cell_later s.ok hp0
              have hne := BW.some w3
              refine region_in (C := fun w' => ∃ s : BW w3, w' = s.w) (by kernel_rfl) (by kernel_rfl) ⟨⟨w5.drew, hB5.drew⟩, rfl⟩ ?_
              repeat (go_big_quiet_step ((go_at_call 14; rename_i s; refine (levelsY (some x) cap0 l q s.w (HT3.out.later s.ok) HM.out (by omega)).mono ?_; rintro e wx ⟨rfl, hbx⟩; exact ⟨rfl, ⟨wx, bel s.ok hbx⟩, rfl⟩)))
              refine wpQuiet_nil ?_
              intro _ hw'
              obtain ⟨s, hw''⟩ := hw'
              subst hw''
              clear hcx hpx hne hc5 hB5 hb5 hc4 HR3 HD3
              obtain ⟨w6, hB6⟩ := s
              have hc6 := cell_later hB6 hc3
              have hq6 := cell_later hB6 hq0
              have hn6 := cell_later hB6 hn0
              generalize rep l q = rq at *
              generalize dfn l q = dq at *
              go_wp2_with fail
              refine (num _ _).mono ?_
              rintro e w7 ⟨rfl, rfl⟩
              go_wp2_with fail
              refine (num _ _).mono ?_
              rintro e w7 ⟨rfl, rfl⟩
              go_wp2
              go_roundw
              case rel => exact ⟨k + 1, by omega, by go_num, hB6⟩
              case measure => simp [intOf]; omega
      · obtain rfl : k = l.length := by omega
        go_wp2
        go_ret
        exact ⟨rfl, bel hB3 hbl⟩

set_option maxRecDepth 100000 in
theorem lifted (os : Os) (started : os.Started) (H : Type) (enc : TypeId × Value → H) :
    ReturnsInHanded {} Try.checked os 4 .any (Rows.typesLevelsSpec.pre6 enc Try.prog Try.f4 Rows.typesLevelsRow.domain false) (Rows.typesLevelsSpec.post enc Try.prog Try.f4 false true false false) := by
  refine returnsInHanded_of_change_sized (C := Try.checked) own started (by kernel_rfl) Try.func4
    (ChangeSpec.witness6 (enc := enc) (C := Try.checked) false ⟨#[], #[.agg #[.slice none 0 0]], []⟩ 8 (by kernel_rfl) (by kernel_rfl) (by kernel_rfl) (by kernel_rfl)) ?_
  intro W base args ds gs before hval0 hW hcnd hsz0 _
  have hsz : (DataW.weightsEach Try.prog (Try.f4.params.toList ++ Rows.typesLevelsSpec.plain.varTypes Try.prog) (ds ++ gs)).all (· ≤ reachBytes) = true := hsz0
  clear hsz0
  have hval : ∀ (j : Nat) t v, Try.f4.params[j]? = some t → args[j]? = some v → Value.okWide Try.prog W .any base t v := hval0
  have hW' := hW
  obtain ⟨p, q, hA0, hV, rfl, hfz, hnd⟩ := hW
  have hA : DataW.TrodAll enc Try.prog W 0 (fun _ => true) true Try.f4.params.toList args.toList ds p := hA0
  rw [Try.params4] at hA hval hsz
  obtain ⟨v0, vs0, d0, ds0, p0, q0, hargs, rfl, rfl, h0, r0⟩ := trodAll_cons hA
  obtain ⟨rfl, rfl, rfl⟩ := trodAll_nil r0
  obtain rfl : args = #[v0] := by cases args; simp_all
  obtain ⟨rfl, rfl⟩ := trodVars_none hV
  have k0 := h0
  have lt0 : ∀ x ∈ p0, x.block < W.heap.size := by obtain ⟨m, hm⟩ := k0; exact DataW.trod_lt m _ _ _ hm
  obtain ⟨a0, len0, cap0, z0, rfl, w0, y0, dy0, hy0⟩ := Tree.open_type Try.underlying24 rfl rfl (by kernel_rfl) (by kernel_rfl) Try.underlying22 Try.underlying46 (by kernel_rfl) rfl rfl rfl (by kernel_rfl) (by kernel_rfl) (by kernel_rfl) Try.underlying3 Try.underlying3 Try.underlying4 (hval 0 24 v0 rfl rfl) h0
  have s0 : cap0 * 24 ≤ 140737488351232 := by
    have := Tree.sized_type hsz (j := 0) rfl (congrArg some dy0) Try.underlying24 Try.underlying22 hy0
    rw [show Try.prog.bytesOf 46 = 24 from by kernel_rfl] at this
    unfold reachBytes at this
    omega
  clear hA0 hval0
  refine (walk a0 len0 cap0 z0 W w0 s0).mono fun e W' ⟨he, bel⟩ => ?_
  subst he
  exact ⟨_, rfl, _, _, _, [], _, [], hW', trodAll_mk1 (shut_bool Try.underlying4 _), (trodAll_cons_mk (Below.trod laidOut (by kernel_rfl) (of_decide_eq_true (by kernel_rfl)) k0 bel lt0) trodAll_mk0), rfl, bel.frame _, fun h => by cases h⟩

theorem over : Rows.typesLevelsRow.holds Try.pinned (OpenSpec.ofChange Rows.typesLevelsSpec) :=
  OpenClaim.holds_of_wide 4 Try.f4 rfl rfl rfl rfl rfl rfl rfl ⟨rfl, rfl, rfl, rfl, rfl⟩ rfl rfl rfl rfl rfl (by kernel_rfl) Try.func4 (by kernel_rfl)
    (of_decide_eq_true (by kernel_rfl)) (by unfold Func.isWrapper; first | (rw [if_pos (by decide +kernel)]; kernel_rfl) | (rw [if_neg (by decide +kernel)]; exact ⟨rfl, rfl⟩))
    (fun os started H enc _ => lifted os started H enc)

end Go.Proofs.Ytjjfkgiecndmjaa.typesLevels
namespace Go.Proofs.Ytjjfkgiecndmjaa
theorem typesLevels_holds : Rows.TypesLevelsSaid := typesLevels.over
#print axioms typesLevels_holds
end Go.Proofs.Ytjjfkgiecndmjaa
