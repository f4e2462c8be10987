/-
  What the document's own functions over types compute: contracts.
-/
import Derived.Test.YtjjfkgiecndmjaaRows
import Derived.Test.YtjjfkgiecndmjaaTree
import Derived.Test.YtjjfkgiecndmjaaOpen
import Derived.Test.YtjjfkgiecndmjaaMem
import Derived.Test.YtjjfkgiecndmjaaUp
import Derived.Test.YtjjfkgiecndmjaaMay
import Derived.Test.YtjjfkgiecndmjaaPro
import Derived.Test.YtjjfkgiecndmjaaRefMay
import Derived.Test.YtjjfkgiecndmjaaLev
import Derived.WalkKit
import Derived.ProofKit
import Derived.OpenShut
import Derived.Below
import Derived.RegionTactic
import Derived.ChangeAlike
import Derived.OwnWalk
namespace Go.Proofs.Ytjjfkgiecndmjaa.Tree
open Go.ChangeShapes Go.WideShapes Go.ChangeAt Go.RowKit

set_option maxRecDepth 20000 in
set_option maxHeartbeats 800000 in
theorem nodeMay (a : Option Addr) (cap : Nat) (l : List Nd) (i : Int) (w : World) (h : IsT w a l) :
    Calls Try.prog 27 #[.agg #[.slice a l.length cap], .int .i64 i] w fun r w' => r = .returned (.bool (hasB l i)) ∧ Below w.heap.size w w' := by
  have hlen := h.1
  unfold maxLen at hlen
  have hb : Below w.heap.size w (w.alloc (Obj.cells #[.slice a l.length cap] 24)) := (Below.refl _ _).alloc (Nat.le_refl _) _
  have hc : (w.alloc (Obj.cells #[.slice a l.length cap] 24)).cell? ⟨w.heap.size, 0, none⟩ = some (.slice a l.length cap) := by simp
  cases hm : may l
  · have HB : hasB l i = false := by unfold hasB; rw [hm, Bool.and_false]
    rw [HB]
    have HM : Hid (may l = false) := hm
    clear HB hm
    go_enter Try.func27, Try.ntmps27
    go_wp2_with fail
    refine (refMay a cap l _ (h.later hb)).mono ?_
    rintro e w' ⟨rfl, hb'⟩
    rw [HM.out]
    go_wp2
    go_ret
    exact ⟨rfl, bel hb hb'⟩
  · have HB : hasB l i = decide (0 ≤ i ∧ i < l.length) := by unfold hasB; rw [hm, Bool.and_true]
    rw [HB]
    have HM : Hid (may l = true) := hm
    clear HB hm
    by_cases h0 : 0 ≤ i
    · go_enter Try.func27, Try.ntmps27
      go_wp2_with fail
      refine (refMay a cap l _ (h.later hb)).mono ?_
      rintro e w' ⟨rfl, hb'⟩
      rw [HM.out]
      have hc2 := cell_later hb' hc
      go_wp2
      go_ret
      exact ⟨ret_bool (by simp [h0]), bel hb hb'⟩
    · rw [decide_eq_false (fun h => h0 h.1)]
      go_enter Try.func27, Try.ntmps27
      go_wp2_with fail
      refine (refMay a cap l _ (h.later hb)).mono ?_
      rintro e w' ⟨rfl, hb'⟩
      rw [HM.out]
      have hc2 := cell_later hb' hc
      go_wp2
      go_ret
      exact ⟨rfl, bel hb hb'⟩
set_option maxRecDepth 20000 in
set_option maxHeartbeats 800000 in
theorem kidsR (a : Option Addr) (cap : Nat) (l : List Nd) (i : Int) (w : World) (h : IsT w a l) :
    Calls Try.prog 11 #[.agg #[.slice a l.length cap], .int .i64 i] w fun r w' => ∃ o c, r = .returned (.tuple #[.slice o (kidsA l i).length c, .int .i64 (errA (hasB l i))]) ∧ w'.ownsRow w.heap.size 3 1 (.slice o (kidsA l i).length c) (kidsA l i).length (ints (kidsA l i)) ∧ Below w.heap.size w w' := by
  unfold kidsA errA
  have hb : Below w.heap.size w (w.alloc (Obj.cells #[.slice a l.length cap] 24)) := (Below.refl _ _).alloc (Nat.le_refl _) _
  have hc : (w.alloc (Obj.cells #[.slice a l.length cap] 24)).cell? ⟨w.heap.size, 0, none⟩ = some (.slice a l.length cap) := by simp
  cases hh : hasB l i
  · rw [if_neg (by simp), if_neg (by simp)]
    have HH : Hid (hasB l i = false) := hh
    clear hh
    go_enter Try.func11, Try.ntmps11
    go_wp2_with fail
    refine (nodeMay a cap l i _ (h.later hb)).mono ?_
    rintro e w' ⟨rfl, hb'⟩
    rw [HH.out]
    go_wp2
    go_ret2
    exact ⟨none, 0, rfl, World.ownsRow_nil _ _ _ _, bel hb hb'⟩
  · rw [if_pos rfl, if_pos rfl]
    obtain ⟨k, rfl, hk, hm⟩ := has_of hh
    have HH : Hid (hasB l k = true) := hh
    have HM : Hid (May l) := hm
    clear hh hm
    obtain ⟨x, rfl, hl⟩ := h.some (by omega)
    go_enter Try.func11, Try.ntmps11
    go_wp2_with fail
    refine (nodeMay _ cap l k _ (h.later hb)).mono ?_
    rintro e w' ⟨rfl, hb'⟩
    rw [HH.out]
    have hc2 := cell_later hb' hc
    go_wp2_with fail
    refine (refKids x cap l HM.out.one HM.out.most k _ (hl.later (bel hb hb'))).mono ?_
    rintro e w3 ⟨o, c, rfl, hown, hb3⟩
    go_wp2
    go_ret2
    exact ⟨o, c, rfl, own_mono hown (bel hb hb').size, bel (bel hb hb') hb3⟩
set_option maxRecDepth 20000 in
set_option maxHeartbeats 800000 in
theorem leavesR (a : Option Addr) (cap : Nat) (l : List Nd) (w : World) (h : IsT w a l) :
    Calls Try.prog 13 #[.agg #[.slice a l.length cap]] w fun r w' => ∃ o c, r = .returned (.tuple #[.slice o (leavesA l).length c, .int .i64 (errA (may l))]) ∧ w'.ownsRow w.heap.size 3 1 (.slice o (leavesA l).length c) (leavesA l).length (ints (leavesA l)) ∧ Below w.heap.size w w' := by
  obtain ⟨i3, hi, hz0, hz1, hz2⟩ := info_parts info3
  unfold leavesA errA
  have hb : Below w.heap.size w (w.alloc (Obj.cells #[.slice a l.length cap] 24)) := (Below.refl _ _).alloc (Nat.le_refl _) _
  have hc : (w.alloc (Obj.cells #[.slice a l.length cap] 24)).cell? ⟨w.heap.size, 0, none⟩ = some (.slice a l.length cap) := by simp
  have hz : w.heap.size < (w.alloc (Obj.cells #[.slice a l.length cap] 24)).heap.size := by simp
  cases hh : may l
  · rw [if_neg (by simp), if_neg (by simp)]
    have HH : Hid (may l = false) := hh
    clear hh
    go_enter Try.func13, Try.ntmps13
    go_wp2_with fail
    refine (refMay a cap l _ (h.later hb)).mono ?_
    rintro e w' ⟨rfl, hb'⟩
    rw [HH.out]
    go_wp2
    go_ret2
    exact ⟨none, 0, rfl, World.ownsRow_nil _ _ _ _, bel hb hb'⟩
  · rw [if_pos rfl, if_pos rfl]
    have hm := may_of hh
    have HH : Hid (may l = true) := hh
    have h8 := hm.most
    obtain ⟨x, rfl, hl⟩ := h.some hm.one
    clear hh hm
    go_enter Try.func13, Try.ntmps13
    go_wp2_with fail
    refine (refMay _ cap l _ (h.later hb)).mono ?_
    rintro e w1 ⟨rfl, hb'⟩
    rw [HH.out]
    have hc1 := cell_later hb' hc
    have hb1 := bel hb hb'
    have hl1 := hl.later hb1
    have hs1 : w.heap.size < w1.heap.size := Nat.lt_of_lt_of_le hz hb'.size
    clear hb hb' hl hc hz h
    go_wp2_with fail
    go_loopw [4, 5] (fun v t wr => ∃ (k : Nat) (o : Option Addr) (c : Nat), t = .int .i64 (k : Int) ∧ k ≤ l.length ∧ v = .slice o (leavesTo l k).length c ∧ wr.ownsRow w1.heap.size 3 1 (.slice o (leavesTo l k).length c) (leavesTo l k).length (ints (leavesTo l k)) ∧ Below w1.heap.size w1 wr) (fun _ t _ => l.length - (intOf t).toNat)
    case atStart =>
      refine ⟨0, none, 0, rfl, Nat.zero_le _, rfl, World.ownsRow_nil _ _ _ _, Below.refl _ _⟩
    case round =>
      obtain ⟨k, o, c, rfl, hk, rfl, hown, hbl⟩ := hrel
      have hc2 := cell_later hbl hc1
      have hl2 := hl1.later hbl
      have hkl := length_leavesTo l k
      by_cases hlt : k < l.length
      · have hq := hl2.kind' k (by omega)
        have HK : Hid (leavesTo l (k + 1) = if isLeaf (nd l k).kind then leavesTo l k ++ [k] else leavesTo l k) := rfl
        have hl3 : Hid (Lies w1 x l) := hl1
        generalize nd l k = n at *
        clear hl2 hl1
        go_wp2_with fail
        refine (refLeaf _ _).mono ?_
        rintro e w' ⟨rfl, rfl⟩
        cases he : isLeaf n.kind
        · rw [he] at HK
          have HN : Hid (leavesTo l (k + 1) = leavesTo l k) := by unfold Hid; rw [HK.out, if_neg (by simp)]
          clear HK he
          go_wp2
          go_roundw
          case rel => exact ⟨k + 1, o, c, by go_num, by omega, by rw [HN.out], by rw [HN.out]; exact hown, hbl⟩
          case measure => simp [intOf]; omega
        · rw [he] at HK
          have HN : Hid (leavesTo l (k + 1) = leavesTo l k ++ [k]) := by unfold Hid; rw [HK.out, if_pos rfl]
          clear HK he
          generalize leavesTo l k = p at *
          go_wp2_with (at_builtin; refine wpList_append_own _ rfl (.tmp 23) (.tmp 25) 26 rfl w1.heap.size 3 i3 (.int .i64 0) 1 8 Try.underlying26 hi hz0 hz1 hz2 rfl (by decide) _ p.length _ rfl (hown.alloc _) ⟨w'.heap.size, 0, none⟩ 1 1 [.int .i64 (k : Int)] rfl rfl ?c1 ?c2 ?c3 ?c4 ?c5 ?_)
          case c1 =>
            intro j u hj
            match j, hj with
            | 0, hj => simp at hj; subst hj; simp [Addr.add]
          case c2 => intro u hu; simp at hu; subst hu; rfl
          case c3 => unfold maxLen; omega
          case c4 => omega
          case c5 => have := hbl.size; simp; omega
          intro v' w3 hown' hgrow _
          have hb3 : Below w1.heap.size w1 w3 := (hbl.alloc hbl.size _).grown hgrow (by have := hbl.size; simp; omega) (fun j hj => (hown.lt j hj).1)
          have hown3 : w3.ownsRow w1.heap.size 3 1 v' (p ++ [k]).length (ints (p ++ [k])) := by
            rw [ints_snoc, List.length_append]
            exact hown'
          obtain ⟨o3, c3, rfl⟩ := own_slice hown3
          clear hown hgrow hbl hown'
          go_wp2
          go_roundw
          case rel => exact ⟨k + 1, o3, c3, by go_num, by omega, by rw [HN.out], by rw [HN.out]; exact hown3, hb3⟩
          case measure => simp [intOf]; omega
      · obtain rfl : k = l.length := by omega
        go_wp2
        go_ret2
        exact ⟨o, c, rfl, own_mono hown (by omega), bel hb1 hbl⟩
/-- What has been counted on the way from a up, when z is asked next. -/
def LevInv (l : List Nd) (a r d : Nat) (z : Int) : Prop :=
  (z = -1 ∧ r = rep l a ∧ d = dfn l a) ∨ ∃ k : Nat, k ≤ a ∧ z = k ∧ r + rep l k = rep l a ∧ d + dfn l k = dfn l a
theorem LevInv.start (l : List Nd) (a : Nat) : LevInv l a 0 0 a := .inr ⟨a, Nat.le_refl _, rfl, by omega, by omega⟩
theorem LevInv.more {l : List Nd} {a k r d : Nat} (hu : Up l a) (h : LevInv l a r d k) : k ≤ a ∧ LevInv l a (r + rep1 (nd l k)) (d + def1 (nd l k)) (nd l k).par ∧ -1 ≤ (nd l k).par ∧ (nd l k).par < k ∧ r ≤ rep l a ∧ d ≤ dfn l a := by
  rcases h with h | ⟨k', h1, h2, h4, h5⟩
  · omega
  obtain rfl : k = k' := by omega
  refine ⟨h1, ?_, ?_⟩
  · by_cases e : k = 0
    · subst e
      rw [rep_first] at h4
      rw [dfn_first] at h5
      exact .inl ⟨hu.first, h4, h5⟩
    · have hp := hu.par k (by omega) h1
      rw [hu.rep_up (by omega) h1] at h4
      rw [hu.dfn_up (by omega) h1] at h5
      exact .inr ⟨(nd l k).par.toNat, by omega, by omega, by omega, by omega⟩
  · by_cases e : k = 0
    · subst e; rw [hu.first]; omega
    · have hp := hu.par k (by omega) h1
      omega
theorem LevInv.done {l : List Nd} {a r d : Nat} {z : Int} (h : LevInv l a r d z) (hz : z < 0) : r = rep l a ∧ d = dfn l a := by
  rcases h with h | ⟨k', h1, h2, h3, h4⟩
  · exact h.2
  · omega
set_option maxRecDepth 20000 in
set_option maxHeartbeats 800000 in
theorem levelsR (a : Option Addr) (cap : Nat) (l : List Nd) (i : Int) (w : World) (h : IsT w a l) :
    Calls Try.prog 15 #[.agg #[.slice a l.length cap], .int .i64 i] w fun r w' => r = .returned (.tuple #[.int .i64 (repA l i : Int), .int .i64 (dfnA l i : Int), .int .i64 (errA (hasB l i))]) ∧ Below w.heap.size w w' := by
  unfold repA dfnA errA
  have hb : Below w.heap.size w (w.alloc (Obj.cells #[.slice a l.length cap] 24)) := (Below.refl _ _).alloc (Nat.le_refl _) _
  have hc : (w.alloc (Obj.cells #[.slice a l.length cap] 24)).cell? ⟨w.heap.size, 0, none⟩ = some (.slice a l.length cap) := by simp
  cases hh : hasB l i
  · rw [if_neg (by simp), if_neg (by simp), if_neg (by simp)]
    have HH : Hid (hasB l i = false) := hh
    clear hh
    go_enter Try.func15, Try.ntmps15
    go_wp2_with fail
    refine (nodeMay a cap l i _ (h.later hb)).mono ?_
    rintro e w' ⟨rfl, hb'⟩
    rw [HH.out]
    go_wp2
    go_ret3
    exact ⟨rfl, bel hb hb'⟩
  · rw [if_pos rfl, if_pos rfl, if_pos rfl]
    obtain ⟨m, rfl, hm0, hm⟩ := has_of hh
    rw [Int.toNat_natCast]
    have HH : Hid (hasB l m = true) := hh
    have HU : Hid (Up l m) := hm.up hm0
    have h8 := hm.most
    have hrl := (hm.rep_le m hm0).1
    have hdl := (hm.rep_le m hm0).2
    clear hh hm
    obtain ⟨x, rfl, hl⟩ := h.some (by omega)
    go_enter Try.func15, Try.ntmps15
    go_wp2_with fail
    refine (nodeMay _ cap l m _ (h.later hb)).mono ?_
    rintro e w1 ⟨rfl, hb'⟩
    rw [HH.out]
    have hc1 := cell_later hb' hc
    have hb1 := bel hb hb'
    have hl1 := hl.later hb1
    clear hb hb' hl hc h HH
    go_wp2_with fail
    go_loopw [1, 7, 8] (fun t u v wr => ∃ (z : Int) (r d : Nat), t = .int .i64 z ∧ u = .int .i64 (r : Int) ∧ v = .int .i64 (d : Int) ∧ Below w1.heap.size w1 wr ∧ LevInv l m r d z) (fun t _ _ _ => (intOf t + 1).toNat)
    case atStart => exact ⟨m, 0, 0, rfl, rfl, rfl, Below.refl _ _, LevInv.start l m⟩
    case round =>
      obtain ⟨z, r, d, rfl, rfl, rfl, hbl, hinv⟩ := hrel
      have hc2 := cell_later hbl hc1
      have hl2 := hl1.later hbl
      by_cases hlt : 0 ≤ z
      · obtain ⟨k, rfl⟩ := Int.eq_ofNat_of_zero_le hlt
        obtain ⟨hka, hinv', hlo, hhi, hr2, hd2⟩ := hinv.more HU.out
        have HI : Hid (LevInv l m (r + rep1 (nd l k)) (d + def1 (nd l k)) (nd l k).par) := hinv'
        have hp := hl2.par' k (by omega)
        have hq := hl2.kind' k (by omega)
        have hr := hl2.null' k (by omega)
        clear hinv hinv' hl1 hl2
        unfold rep1 def1 at HI
        generalize nd l k = n at *
        cases hn : n.null
        all_goals
          rw [hn] at hr HI
          by_cases hkd : n.kind = 3
          all_goals
            have HI2 := HI.out
            simp only [hkd, if_true, if_false, Nat.add_zero, Nat.zero_add, Bool.false_eq_true] at HI2
            have HI3 : Hid _ := HI2
            clear HI HI2
            go_wp2
            go_roundw
            case rel => exact ⟨n.par, _, _, rfl, by go_num, by go_num, hbl, HI3.out⟩
            case measure => simp [intOf]; omega
      · obtain ⟨h1, h2⟩ := hinv.done (by omega)
        have H1 : Hid (r = rep l m) := h1
        have H2 : Hid (d = dfn l m) := h2
        clear h1 h2
        go_wp2
        go_ret3
        exact ⟨ret3_int (by rw [H1.out]) (by rw [H2.out]), bel hb1 hbl⟩
end Go.Proofs.Ytjjfkgiecndmjaa.Tree
