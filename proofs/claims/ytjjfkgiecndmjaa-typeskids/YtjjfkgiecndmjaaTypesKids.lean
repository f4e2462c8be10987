/-
  TypesKids: each node but the first is one's kid, once; leaves have none.
-/
import Derived.Test.YtjjfkgiecndmjaaRows
import Derived.WalkKit
import Derived.ProofKit
import Derived.OpenShut
import Derived.ShutString
import Derived.ChangeOld
import Derived.Below
import Derived.Deep.QuietTactic
import Derived.WalkSmall
import Derived.BigQuiet
import Derived.Deep.RegionWith
import Derived.OwnWalk
import Derived.RegionTactic
import Derived.ChangeAlike
import Derived.Deep.CutBlock
import Derived.Maps.AppendAt
import Derived.OneCell
import Derived.SizedLaws
import Derived.Test.YtjjfkgiecndmjaaTree
import Derived.Test.YtjjfkgiecndmjaaOpen
import Derived.Test.YtjjfkgiecndmjaaMem
import Derived.Test.YtjjfkgiecndmjaaUp
import Derived.Test.YtjjfkgiecndmjaaMay
import Derived.Test.YtjjfkgiecndmjaaPro
import Derived.Test.YtjjfkgiecndmjaaLev
import Derived.Test.YtjjfkgiecndmjaaRefMay
import Derived.Test.YtjjfkgiecndmjaaHelp
import Derived.Test.YtjjfkgiecndmjaaAwake
import Derived.Test.YtjjfkgiecndmjaaEnv
import Derived.Test.YtjjfkgiecndmjaaQuiet
namespace Go.Proofs.Ytjjfkgiecndmjaa.typesKids
open Go.ChangeShapes Go.WideShapes Go.ChangeAt Go.RowKit
open Go.ChangeMaps (open_string shut_string)
set_option linter.unusedVariables false

theorem own : ownKnob Try.prog.godebug = none := by kernel_rfl
theorem laidOut : laidOutB Try.prog = true := by kernel_rfl

open Tree
/-- How often a node has been seen, when the kids of the first k nodes have been. -/
def seenF (l : List Nd) (k x : Nat) : Nat := if 1 ≤ x ∧ (nd l x).par < k then 1 else 0
def innerF (l : List Nd) (k j x : Nat) : Nat := seenF l k x + if x ∈ (kids l k).take j then 1 else 0
theorem seenF_zero {l : List Nd} (h : May l) (x : Nat) (hx : x < l.length) : seenF l 0 x = 0 := by
  unfold seenF
  rw [if_neg]
  rintro ⟨h1, h2⟩
  have := h.par x h1 hx
  omega
theorem innerF_zero (l : List Nd) (k x : Nat) : innerF l k 0 x = seenF l k x := by
  unfold innerF
  rw [List.take_zero, if_neg (by simp), Nat.add_zero]
theorem innerF_all (l : List Nd) (k x : Nat) (hx : x < l.length) : innerF l k (kids l k).length x = seenF l (k + 1) x := by
  unfold innerF seenF
  rw [List.take_length]
  have hm := mem_kidsTo l k l.length x
  rw [show kidsTo l k l.length = kids l k from rfl] at hm
  by_cases h : x ∈ kids l k
  · rw [if_pos h]
    have := hm.1 h
    rw [if_neg (by omega), if_pos (by omega)]
  · rw [if_neg h, Nat.add_zero]
    have hn : ¬ (1 ≤ x ∧ x < l.length ∧ (nd l x).par = k) := fun c => h (hm.2 c)
    by_cases c : 1 ≤ x ∧ (nd l x).par < k
    · rw [if_pos c, if_pos (by omega)]
    · rw [if_neg c, if_neg (by omega)]
theorem kid_at {l : List Nd} (h : May l) (k j : Nat) (hj : j < (kids l k).length) : k < (kids l k).getD j 0 ∧ (kids l k).getD j 0 < l.length ∧ (nd l ((kids l k).getD j 0)).par = k := by
  have hm : (kids l k).getD j 0 ∈ kids l k := by
    rw [List.getD_eq_getElem?_getD, List.getElem?_eq_getElem hj]
    exact List.getElem_mem hj
  exact h.kid hm
theorem kid_up (l : List Nd) (k i j : Nat) (hij : i < j) (hj : j < (kids l k).length) : (kids l k).getD i 0 < (kids l k).getD j 0 := by
  have := List.pairwise_iff_getElem.1 (rising_kidsTo l k l.length) i j (by show i < (kids l k).length; omega) hj hij
  rw [List.getD_eq_getElem?_getD, List.getD_eq_getElem?_getD, List.getElem?_eq_getElem hj, List.getElem?_eq_getElem (by omega)]
  exact this
theorem kid_new (l : List Nd) (k j : Nat) (hj : j < (kids l k).length) : (kids l k).getD j 0 ∉ (kids l k).take j := by
  intro c
  obtain ⟨i, hi, e⟩ := List.mem_iff_getElem.1 c
  rw [List.length_take] at hi
  have h1 := kid_up l k i j (by omega) hj
  have h2 : (kids l k).getD i 0 = (kids l k).getD j 0 := by
    rw [← e, List.getElem_take, List.getD_eq_getElem?_getD, List.getElem?_eq_getElem (by omega)]
    rfl
  omega
theorem innerF_new {l : List Nd} (h : May l) (k j : Nat) (hj : j < (kids l k).length) : innerF l k j ((kids l k).getD j 0) = 0 := by
  unfold innerF seenF
  have := kid_at h k j hj
  rw [if_neg (kid_new l k j hj), if_neg (by omega)]
theorem innerF_step {l : List Nd} (h : May l) (k j : Nat) (hj : j < (kids l k).length) (x : Nat) : innerF l k (j + 1) x = if x = (kids l k).getD j 0 then 1 else innerF l k j x := by
  have ht : (kids l k).take (j + 1) = (kids l k).take j ++ [(kids l k).getD j 0] := by
    rw [List.take_succ_eq_append_getElem hj, List.getD_eq_getElem?_getD, List.getElem?_eq_getElem hj]
    rfl
  by_cases e : x = (kids l k).getD j 0
  · rw [if_pos e]
    have h0 := innerF_new h k j hj
    rw [← e] at h0
    unfold innerF at h0 ⊢
    rw [ht, if_pos (by rw [List.mem_append, e]; exact .inr (List.mem_singleton.2 rfl))]
    omega
  · rw [if_neg e]
    unfold innerF
    rw [ht]
    by_cases c : x ∈ (kids l k).take j
    · rw [if_pos c, if_pos (List.mem_append.2 (.inl c))]
    · rw [if_neg c, if_neg]
      intro c'
      rcases List.mem_append.1 c' with c' | c'
      · exact c c'
      · exact e (List.mem_singleton.1 c')
theorem isI_set {w : World} {b gs : Nat} {o : Option Addr} {p : List Nat} (h : IsI w b o p) (hb : gs < b) (j : Nat) (u : Value) : IsI (w.setCell ⟨gs, j, none⟩ u) b o p :=
  h.imp id fun ⟨g, e, hg, hr⟩ => ⟨g, e, hg, fun i hi => by rw [World.cell?_setCell_other _ _ _ _ (by intro c; injection c with c; omega)]; exact hr.cell i hi, fun i hi => by rw [World.frozen?_setCell]; exact hr.free i hi⟩
theorem leavesY (a : Option Addr) (cap : Nat) (l : List Nd) (w : World) (h : IsT w a l) (hm : may l = true) :
    Calls Try.prog 12 #[.agg #[.slice a l.length cap]] w fun r w' => ∃ o c, r = .returned (.tuple #[.slice o (leaves l).length c, .int .i64 0]) ∧ IsI w' w.heap.size o (leaves l) ∧ Below w.heap.size w w' := by
  have := leavesP a cap l w h
  unfold leavesA at this
  rw [hm, if_pos rfl] at this
  refine this.mono ?_
  rintro r w' ⟨o, c, rfl, hown, hb⟩
  exact ⟨o, c, rfl, own_ints hown, hb⟩
theorem kidsY (a : Option Addr) (cap : Nat) (l : List Nd) (k : Nat) (w : World) (h : IsT w a l) (hm : may l = true) (hk : k < l.length) :
    Calls Try.prog 10 #[.agg #[.slice a l.length cap], .int .i64 (k : Int)] w fun r w' => ∃ o c, r = .returned (.tuple #[.slice o (kids l k).length c, .int .i64 0]) ∧ IsI w' w.heap.size o (kids l k) ∧ Below w.heap.size w w' := by
  have hh : hasB l k = true := by unfold hasB; rw [hm, Bool.and_true, decide_eq_true_eq]; omega
  have := kidsP a cap l k w h
  unfold kidsA at this
  rw [hh, if_pos rfl] at this
  refine this.mono ?_
  rintro r w' ⟨o, c, rfl, hown, hb⟩
  exact ⟨o, c, rfl, own_ints hown, hb⟩
set_option maxRecDepth 20000 in
set_option maxHeartbeats 4000000 in
theorem walk (a0 : Option Addr) (len0 cap0 : Nat) (z0 : List Tree.Nd) (w : World) (w0 : Tree.IsNodes w a0 len0 cap0 z0) (s0 : cap0 * 24 ≤ 140737488351232) :
    Calls Try.prog 7 #[.agg #[.slice a0 len0 cap0]] w fun e w' => e = .returned (.bool true) ∧ Below w.heap.size w w' := by
  obtain ⟨l, rfl, hT, hlc, _⟩ := isT_of w0
  have HT : Hid (IsT w a0 l) := hT
  clear w0 hT
  cases hm : may l
  · have HM : Hid (may l = false) := hm
    clear hm
    go_enter Try.func7, Try.ntmps7
    go_wp2_with fail
    obtain ⟨wb, eb, hsb, hcb, hbb⟩ := boxed w (.slice a0 l.length cap0) 24
    rw [eb]
    clear eb
    refine (awake wb).mono ?_
    rintro e w2 ⟨rfl, hb2⟩
    have hc2 := cell_later hb2 hcb
    have hB2 := bel hbb hb2
    clear hcb hbb hb2
    go_wp2_with fail
    refine (mayC a0 cap0 l w2 (HT.out.later hB2)).mono ?_
    rintro e w3 ⟨rfl, hb3⟩
    rw [HM.out]
    go_wp2
    go_ret
    exact ⟨rfl, bel hB2 hb3⟩
  · have HM : Hid (may l = true) := hm
    have HMay : Hid (May l) := may_of hm
    have h8 := (may_of hm).most
    have h1 := (may_of hm).one
    clear hm
    obtain ⟨x, rfl, hl⟩ := HT.out.some h1
    have HL : Hid (Lies w x l) := hl
    clear hl
    go_enter Try.func7, Try.ntmps7
    go_wp2_with fail
    obtain ⟨wb, eb, hsb, hcb, hbb⟩ := boxed w (.slice (some x) l.length cap0) 24
    rw [eb]
    clear eb
    refine (awake wb).mono ?_
    rintro e w2 ⟨rfl, hb2⟩
    have hc2 := cell_later hb2 hcb
    have hB2 := bel hbb hb2
    clear hcb hbb hb2
    go_wp2_with fail
    refine (mayC (some x) cap0 l w2 (HT.out.later hB2)).mono ?_
    rintro e w3 ⟨rfl, hb3⟩
    rw [HM.out]
    have hc3 := cell_later hb3 hc2
    have hB3 := bel hB2 hb3
    clear hc2 hB2 hb3
    go_wp2_with fail
    refine (leavesY (some x) cap0 l w3 (HT.out.later hB3) HM.out).mono ?_
    rintro e w4 ⟨ol, cl, rfl, hil, hb4⟩
    have hc4 := cell_later hb4 hc3
    have hB4 := bel hB3 hb4
    have HT4 : Hid (IsT w4 (some x) l) := HT.out.later hB4
    have HL4 : Hid (Lies w4 x l) := HL.out.later hB4
    clear hc3 hb4 hB3 HT HL
    obtain ⟨gl, rfl, _, hrl⟩ := hil.resolve_left (fun c => by have := HMay.out.some_leaf; rw [c] at this; simp at this)
    have HRL : Hid (Row w4 gl (leaves l).length (fun i => (leaves l).getD i 0)) := hrl
    have hll : (leaves l).length ≤ l.length := length_leavesTo l l.length
    clear hrl hil
    obtain ⟨w5, hmk, hrow, hbm⟩ := make_row l.length h8 w4
    go_wp2_with fail
    clear hmk
    go_loopw [6, 7] (fun u t wr => ∃ k : Nat, k ≤ l.length ∧ t = .int .i64 (k : Int) ∧ u = .int .i64 ((leavesTo l k).length : Int) ∧ Row wr w4.heap.size l.length (seenF l k) ∧ Below w4.heap.size w4 wr) (fun _ t _ => l.length - (intOf t).toNat)
    case atStart => exact ⟨0, Nat.zero_le _, rfl, rfl, hrow.as (fun i hi => (seenF_zero HMay.out i hi).symm), hbm⟩
    case round =>
      obtain ⟨k, hk, rfl, rfl, hrw, hbl⟩ := hrel
      have HRW : Hid (Row wr w4.heap.size l.length (seenF l k)) := hrw
      have hc5 := cell_later hbl hc4
      have hkl := length_leavesTo l k
      clear hrw hrow
      by_cases hlt : k < l.length
      · go_wp2_with fail
        refine (kidsY (some x) cap0 l k wr (HT4.out.later hbl) HM.out hlt).mono ?_
        rintro e w6 ⟨ok, ck, rfl, hik, hb6⟩
        have hB6 := bel hbl hb6
        have hc6 := cell_later hB6 hc4
        have HRW6 : Hid (Row w6 w4.heap.size l.length (seenF l k)) := HRW.out.later hb6
        have hgs : w4.heap.size < wr.heap.size := World.block_lt_of_cell? _ _ (HRW.out.cell 0 h1)
        have HIK : Hid (IsI w6 wr.heap.size ok (kids l k)) := hik
        clear hik hb6 hbl hc5 HRW
        go_wp2_with fail
        refine (num _ _).mono ?_
        rintro e w7 ⟨rfl, rfl⟩
        by_cases hp0 : kids l k = []
        · have hlf := (HMay.out.leaf_iff hlt).2 hp0
          have hla := leaf_at l k hlt hlf
          have HNX : Hid ((leavesTo l (k + 1)).length = (leavesTo l k).length + 1) := by unfold Hid; rw [leavesTo, if_pos hlf, List.length_append]; rfl
          have HSN : Hid (∀ y, y < l.length → seenF l k y = seenF l (k + 1) y) := by
            intro y hy
            have := innerF_all l k y hy
            rw [hp0, List.length_nil, innerF_zero] at this
            exact this
          have hcl := (HRL.out.later hB6).cell (leavesTo l k).length hla.1
          rw [hla.2] at hcl
          have hl1 := hla.1
          have hp1 : (kids l k).length = 0 := by rw [hp0]; rfl
          clear hla hlf hp0
          generalize (leavesTo l k).length = n at *
          go_wp2_with fail
          go_loopw [10] (fun t wr => t = .int .i64 0 ∧ wr = w7) (fun _ _ => 0)
          case atStart => exact ⟨rfl, rfl⟩
          case round =>
            obtain ⟨rfl, rfl⟩ := hrel
            go_wp2
            go_roundw
            case rel => exact ⟨k + 1, by omega, by go_num, by rw [HNX.out]; go_num, HRW6.out.as HSN.out, hB6⟩
            case measure => simp [intOf]; omega
        · obtain ⟨gk, rfl, _, _⟩ := HIK.out.resolve_left hp0
          have hlf : isLeaf (nd l k).kind = false := by
            cases c : isLeaf (nd l k).kind
            · rfl
            · exact absurd ((HMay.out.leaf_iff hlt).1 c) hp0
          have HNX : Hid (leavesTo l (k + 1) = leavesTo l k) := by unfold Hid; rw [leavesTo, if_neg (by rw [hlf]; simp)]
          have hp1 : ¬ (((kids l k).length : Int) = 0) := by
            intro c
            exact hp0 (List.eq_nil_of_length_eq_zero (by omega))
          have hpl : (kids l k).length ≤ l.length := length_kidsTo l k l.length
          have HSA : Hid (∀ y, y < l.length → innerF l k (kids l k).length y = seenF l (k + 1) y) := innerF_all l k
          have HSZ : Hid (∀ y, y < l.length → seenF l k y = innerF l k 0 y) := fun y _ => (innerF_zero l k y).symm
          have HST : Hid (∀ j, j < (kids l k).length → ∀ y, innerF l k (j + 1) y = if y = (kids l k).getD j 0 then 1 else innerF l k j y) := fun j hj => innerF_step HMay.out k j hj
          have HNW : Hid (∀ j, j < (kids l k).length → innerF l k j ((kids l k).getD j 0) = 0) := innerF_new HMay.out k
          have HKA : Hid (∀ j, j < (kids l k).length → k < (kids l k).getD j 0 ∧ (kids l k).getD j 0 < l.length ∧ (nd l ((kids l k).getD j 0)).par = k) := kid_at HMay.out k
          have HKU : Hid (∀ i j, i < j → j < (kids l k).length → (kids l k).getD i 0 < (kids l k).getD j 0) := kid_up l k
          clear hlf hp0
          generalize kids l k = p at *
          generalize wr.heap.size = bk at *
          go_wp2_with fail
          go_loopw [10] (fun t wq => ∃ j : Nat, j ≤ p.length ∧ t = .int .i64 (j : Int) ∧ Row wq w4.heap.size l.length (innerF l k j) ∧ IsI wq bk (some ⟨gk, 0, none⟩) p ∧ Below w4.heap.size w4 wq) (fun t _ => p.length - (intOf t).toNat)
          case atStart => exact ⟨0, Nat.zero_le _, rfl, HRW6.out.as HSZ.out, HIK.out, hB6⟩
          case round =>
            obtain ⟨j, hj, rfl, hrj, hij, hbj⟩ := hrel
            have HRJ : Hid (Row wr w4.heap.size l.length (innerF l k j)) := hrj
            have HIJ : Hid (IsI wr bk (some ⟨gk, 0, none⟩) p) := hij
            have hcj := cell_later hbj hc4
            clear hrj hij
            by_cases hlt2 : j < p.length
            · obtain ⟨hv1, hv2, hv3⟩ := HKA.out j hlt2
              have hpv := (HL4.out.later hbj).par' (p.getD j 0) hv2
              rw [hv3] at hpv
              have hsv := HRJ.out.cell (p.getD j 0) hv2
              rw [HNW.out j hlt2] at hsv
              have hfv := HRJ.out.free (p.getD j 0) hv2
              have hne : p ≠ [] := by intro c; rw [c] at hlt2; simp at hlt2
              obtain ⟨gk', ek, hgk, hrk⟩ := HIJ.out.resolve_left hne
              have hkj : wr.cell? ⟨gk, j, none⟩ = some (.int .i64 ((p.getD j 0 : Nat) : Int)) := by
                injection ek with ek
                injection ek with ek
                rw [ek]
                exact hrk.cell j hlt2
              have HKJ : Hid (1 ≤ j → wr.cell? ⟨gk, j - 1, none⟩ = some (.int .i64 ((p.getD (j - 1) 0 : Nat) : Int))) := by
                intro _
                injection ek with ek
                injection ek with ek
                rw [ek]
                exact hrk.cell (j - 1) (by omega)
              have HUP : Hid (1 ≤ j → p.getD (j - 1) 0 < p.getD j 0) := fun _ => HKU.out (j - 1) j (by omega) hlt2
              have HSJ : Hid (∀ y, innerF l k (j + 1) y = if y = p.getD j 0 then 1 else innerF l k j y) := HST.out j hlt2
              clear hv3 hrk ek hne HKA HNW HST HKU
              generalize p.getD j 0 = v at *
              have g1 : decide ((v : Int) ≤ (k : Int)) = false := decide_eq_false (by omega)
              have g2 : decide (v ≤ k) = false := decide_eq_false (by omega)
              have g3 : decide ((l.length : Int) ≤ (v : Int)) = false := decide_eq_false (by omega)
              have g4 : decide (l.length ≤ v) = false := decide_eq_false (by omega)
              by_cases hj0 : j = 0
              · have hd1 : decide (0 < (j : Int)) = false := decide_eq_false (by omega)
                have hd2 : decide (0 < j) = false := decide_eq_false (by omega)
                clear hj0
                go_wp2_with fail
                go_quiet (fail)
                have hbq := below_drewN (Below.refl wr.heap.size wr) nq
                have HRQ : Hid (Row (wr.drewN nq) w4.heap.size l.length (innerF l k j)) := HRJ.out.later hbq
                have HIQ : Hid (IsI (wr.drewN nq) bk (some ⟨gk, 0, none⟩) p) := HIJ.out.later hbq
                have hbQ : Below w4.heap.size w4 (wr.drewN nq) := below_drewN hbj nq
                have hsq := cell_later hbq hsv
                have hkq := cell_later hbq hkj
                have hfq : (wr.drewN nq).frozen? ⟨w4.heap.size, v, none⟩ = false := (hbq.frozen (p := ⟨w4.heap.size, v, none⟩) (World.block_lt_of_cell? _ _ hsv)).trans hfv
                generalize wr.drewN nq = wq at *
                clear hsv hkj hfv hbq hbj hcj hpv g1 g2 g3 g4 hd1 hd2
                go_wp2
                go_roundw
                case rel => exact ⟨j + 1, by omega, by go_num, (HRQ.out.set v hv2 1).as (fun y _ => (HSJ.out y).symm), isI_set HIQ.out hgs _ _, hbQ.setCell (Nat.le_refl _) _⟩
                case measure => simp [intOf]; omega
              · have hkp := HKJ.out (by omega)
                have hup := HUP.out (by omega)
                generalize p.getD (j - 1) 0 = u at *
                have hd1 : decide (0 < (j : Int)) = true := decide_eq_true (by omega)
                have hd2 : decide (0 < j) = true := decide_eq_true (by omega)
                have g5 : decide ((v : Int) ≤ (u : Int)) = false := decide_eq_false (by omega)
                have g6 : decide (v ≤ u) = false := decide_eq_false (by omega)
                go_wp2_with fail
                go_quiet (fail)
                have hbq := below_drewN (Below.refl wr.heap.size wr) nq
                have HRQ : Hid (Row (wr.drewN nq) w4.heap.size l.length (innerF l k j)) := HRJ.out.later hbq
                have HIQ : Hid (IsI (wr.drewN nq) bk (some ⟨gk, 0, none⟩) p) := HIJ.out.later hbq
                have hbQ : Below w4.heap.size w4 (wr.drewN nq) := below_drewN hbj nq
                have hsq := cell_later hbq hsv
                have hkq := cell_later hbq hkj
                have hfq : (wr.drewN nq).frozen? ⟨w4.heap.size, v, none⟩ = false := (hbq.frozen (p := ⟨w4.heap.size, v, none⟩) (World.block_lt_of_cell? _ _ hsv)).trans hfv
                generalize wr.drewN nq = wq at *
                clear hsv hkj hfv hbq hbj hcj hpv g1 g2 g3 g4 hd1 hd2
                go_wp2
                go_roundw
                case rel => exact ⟨j + 1, by omega, by go_num, (HRQ.out.set v hv2 1).as (fun y _ => (HSJ.out y).symm), isI_set HIQ.out hgs _ _, hbQ.setCell (Nat.le_refl _) _⟩
                case measure => simp [intOf]; omega
            · obtain rfl : j = p.length := by omega
              go_wp2
              go_roundw
              case rel => exact ⟨k + 1, by omega, by go_num, by rw [HNX.out], HRJ.out.as HSA.out, hbj⟩
              case measure => simp [intOf]; omega
      · obtain rfl : k = l.length := by omega
        go_wp2_with fail
        go_loopw [11] (fun t wq => ∃ i : Nat, 1 ≤ i ∧ i ≤ l.length ∧ t = .int .i64 (i : Int) ∧ Row wq w4.heap.size l.length (seenF l l.length) ∧ Below w4.heap.size w4 wq) (fun t _ => l.length - (intOf t).toNat)
        case atStart => exact ⟨1, Nat.le_refl _, h1, rfl, HRW.out, hbl⟩
        case round =>
          obtain ⟨i, hi1, hiL, rfl, hrq, hbq⟩ := hrel
          have HRQ : Hid (Row wr w4.heap.size l.length (seenF l l.length)) := hrq
          clear hrq
          by_cases hlt : i < l.length
          · have hci := HRQ.out.cell i hlt
            have hpi := HMay.out.par i hi1 hlt
            rw [show seenF l l.length i = 1 from if_pos ⟨hi1, by omega⟩] at hci
            clear hpi
            go_wp2
            go_roundw
            case rel => exact ⟨i + 1, by omega, by omega, by go_num, HRQ.out, hbq⟩
            case measure => simp [intOf]; omega
          · have hci := HRQ.out.cell 0 h1
            rw [show seenF l l.length 0 = 0 from if_neg (by omega)] at hci
            rw [show (leavesTo l l.length).length = (leaves l).length from rfl] at *
            go_wp2_with fail
            refine (num _ _).mono ?_
            rintro e w7 ⟨rfl, rfl⟩
            go_wp2
            go_ret
            exact ⟨rfl, bel hB4 hbq⟩

set_option maxRecDepth 100000 in
theorem lifted (os : Os) (started : os.Started) (H : Type) (enc : TypeId × Value → H) :
    ReturnsInHanded {} Try.checked os 7 .any (Rows.typesKidsSpec.pre6 enc Try.prog Try.f7 Rows.typesKidsRow.domain false) (Rows.typesKidsSpec.post enc Try.prog Try.f7 false true false false) := by
  refine returnsInHanded_of_change_sized (C := Try.checked) own started (by kernel_rfl) Try.func7
    (ChangeSpec.witness6 (enc := enc) (C := Try.checked) false ⟨#[], #[.agg #[.slice none 0 0]], []⟩ 8 (by kernel_rfl) (by kernel_rfl) (by kernel_rfl) (by kernel_rfl)) ?_
  intro W base args ds gs before hval0 hW hcnd hsz0 _
  have hsz : (DataW.weightsEach Try.prog (Try.f7.params.toList ++ Rows.typesKidsSpec.plain.varTypes Try.prog) (ds ++ gs)).all (· ≤ reachBytes) = true := hsz0
  clear hsz0
  have hval : ∀ (j : Nat) t v, Try.f7.params[j]? = some t → args[j]? = some v → Value.okWide Try.prog W .any base t v := hval0
  have hW' := hW
  obtain ⟨p, q, hA0, hV, rfl, hfz, hnd⟩ := hW
  have hA : DataW.TrodAll enc Try.prog W 0 (fun _ => true) true Try.f7.params.toList args.toList ds p := hA0
  rw [Try.params7] at hA hval hsz
  obtain ⟨v0, vs0, d0, ds0, p0, q0, hargs, rfl, rfl, h0, r0⟩ := trodAll_cons hA
  obtain ⟨rfl, rfl, rfl⟩ := trodAll_nil r0
  obtain rfl : args = #[v0] := by cases args; simp_all
  obtain ⟨rfl, rfl⟩ := trodVars_none hV
  have k0 := h0
  have lt0 : ∀ x ∈ p0, x.block < W.heap.size := by obtain ⟨m, hm⟩ := k0; exact DataW.trod_lt m _ _ _ hm
  obtain ⟨a0, len0, cap0, z0, rfl, w0, y0, dy0, hy0⟩ := Tree.open_type Try.underlying24 rfl rfl (by kernel_rfl) (by kernel_rfl) Try.underlying22 Try.underlying46 (by kernel_rfl) rfl rfl rfl (by kernel_rfl) (by kernel_rfl) (by kernel_rfl) Try.underlying3 Try.underlying3 Try.underlying4 (hval 0 24 v0 rfl rfl) h0
  have s0 : cap0 * 24 ≤ 140737488351232 := by
    have := Tree.sized_type hsz (j := 0) rfl (congrArg some dy0) Try.underlying24 Try.underlying22 hy0
    rw [show Try.prog.bytesOf 46 = 24 from by kernel_rfl] at this
    unfold reachBytes at this
    omega
  clear hA0 hval0
  refine (walk a0 len0 cap0 z0 W w0 s0).mono fun e W' ⟨he, bel⟩ => ?_
  subst he
  exact ⟨_, rfl, _, _, _, [], _, [], hW', trodAll_mk1 (shut_bool Try.underlying4 _), (trodAll_cons_mk (Below.trod laidOut (by kernel_rfl) (of_decide_eq_true (by kernel_rfl)) k0 bel lt0) trodAll_mk0), rfl, bel.frame _, fun h => by cases h⟩

theorem over : Rows.typesKidsRow.holds Try.pinned (OpenSpec.ofChange Rows.typesKidsSpec) :=
  OpenClaim.holds_of_wide 7 Try.f7 rfl rfl rfl rfl rfl rfl rfl ⟨rfl, rfl, rfl, rfl, rfl⟩ rfl rfl rfl rfl rfl (by kernel_rfl) Try.func7 (by kernel_rfl)
    (of_decide_eq_true (by kernel_rfl)) (by unfold Func.isWrapper; first | (rw [if_pos (by decide +kernel)]; kernel_rfl) | (rw [if_neg (by decide +kernel)]; exact ⟨rfl, rfl⟩))
    (fun os started H enc _ => lifted os started H enc)

end Go.Proofs.Ytjjfkgiecndmjaa.typesKids
namespace Go.Proofs.Ytjjfkgiecndmjaa
theorem typesKids_holds : Rows.TypesKidsSaid := typesKids.over
#print axioms typesKids_holds
end Go.Proofs.Ytjjfkgiecndmjaa
