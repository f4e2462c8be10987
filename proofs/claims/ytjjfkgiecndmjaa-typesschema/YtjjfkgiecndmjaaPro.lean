/-
  What the functions of package types compute: contracts.
-/
import Derived.Test.YtjjfkgiecndmjaaRows
import Derived.Test.YtjjfkgiecndmjaaTree
import Derived.Test.YtjjfkgiecndmjaaOpen
import Derived.Test.YtjjfkgiecndmjaaMem
import Derived.Test.YtjjfkgiecndmjaaUp
import Derived.Test.YtjjfkgiecndmjaaWay
import Derived.Test.YtjjfkgiecndmjaaMay
import Derived.WalkKit
import Derived.ProofKit
import Derived.OpenShut
import Derived.Below
import Derived.RegionTactic
import Derived.ChangeAlike
import Derived.OwnWalk
namespace Go.Proofs.Ytjjfkgiecndmjaa.Tree
open Go.ChangeShapes Go.WideShapes Go.ChangeAt Go.RowKit

/-- Is a a node of a type that may be? -/
def hasB (l : List Nd) (a : Int) : Bool := decide (0 ≤ a ∧ a < l.length) && may l
/-- The error that is told. -/
def errA (b : Bool) : Int := if b then 0 else 500
def kidsA (l : List Nd) (a : Int) : List Nat := if hasB l a then kids l a else []
def leavesA (l : List Nd) : List Nat := if may l then leaves l else []
def repA (l : List Nd) (a : Int) : Nat := if hasB l a then rep l a.toNat else 0
def dfnA (l : List Nd) (a : Int) : Nat := if hasB l a then dfn l a.toNat else 0
theorem has_of {l : List Nd} {a : Int} (h : hasB l a = true) : ∃ k : Nat, a = k ∧ k < l.length ∧ May l := by
  unfold hasB at h
  rw [Bool.and_eq_true, decide_eq_true_eq] at h
  exact ⟨a.toNat, by omega, by omega, may_of h.2⟩
theorem May.up {l : List Nd} (h : May l) {k : Nat} (hk : k < l.length) : Up l k := ⟨h.first, fun i h1 h2 => h.par i h1 (by omega)⟩
set_option maxRecDepth 20000 in
set_option maxHeartbeats 800000 in
theorem has (a : Option Addr) (cap : Nat) (l : List Nd) (i : Int) (w : World) (h : IsT w a l) :
    Calls Try.prog 25 #[.agg #[.slice a l.length cap], .int .i64 i] w fun r w' => r = .returned (.bool (hasB l i)) ∧ Below w.heap.size w w' := by
  have hlen := h.1
  unfold maxLen at hlen
  have hb : Below w.heap.size w (w.alloc (Obj.cells #[.slice a l.length cap] 24)) := (Below.refl _ _).alloc (Nat.le_refl _) _
  by_cases h0 : 0 ≤ i
  · by_cases h1 : i < l.length
    · have HB : Hid (hasB l i = may l) := by unfold Hid hasB; rw [decide_eq_true ⟨h0, h1⟩, Bool.true_and]
      rw [HB.out]
      go_enter Try.func25, Try.ntmps25
      go_wp2_with fail
      refine (mayC a cap l _ (h.later hb)).mono ?_
      rintro e w' ⟨rfl, hb'⟩
      go_wp2
      go_ret
      exact ⟨rfl, bel hb hb'⟩
    · have HB : hasB l i = false := by unfold hasB; rw [decide_eq_false (fun h => h1 h.2), Bool.false_and]
      rw [HB]
      clear HB
      go_enter Try.func25, Try.ntmps25
      go_wp2
      go_ret
      exact ⟨rfl, hb⟩
  · have HB : hasB l i = false := by unfold hasB; rw [decide_eq_false (fun h => h0 h.1), Bool.false_and]
    rw [HB]
    clear HB
    go_enter Try.func25, Try.ntmps25
    go_wp2
    go_ret
    exact ⟨rfl, hb⟩
set_option maxRecDepth 20000 in
set_option maxHeartbeats 800000 in
theorem kidsP (a : Option Addr) (cap : Nat) (l : List Nd) (i : Int) (w : World) (h : IsT w a l) :
    Calls Try.prog 10 #[.agg #[.slice a l.length cap], .int .i64 i] w fun r w' => ∃ o c, r = .returned (.tuple #[.slice o (kidsA l i).length c, .int .i64 (errA (hasB l i))]) ∧ w'.ownsRow w.heap.size 3 1 (.slice o (kidsA l i).length c) (kidsA l i).length (ints (kidsA l i)) ∧ Below w.heap.size w w' := by
  unfold kidsA errA
  have hb : Below w.heap.size w (w.alloc (Obj.cells #[.slice a l.length cap] 24)) := (Below.refl _ _).alloc (Nat.le_refl _) _
  have hc : (w.alloc (Obj.cells #[.slice a l.length cap] 24)).cell? ⟨w.heap.size, 0, none⟩ = some (.slice a l.length cap) := by simp
  cases hh : hasB l i
  · rw [if_neg (by simp), if_neg (by simp)]
    have HH : Hid (hasB l i = false) := hh
    clear hh
    go_enter Try.func10, Try.ntmps10
    go_wp2_with fail
    refine (has a cap l i _ (h.later hb)).mono ?_
    rintro e w' ⟨rfl, hb'⟩
    rw [HH.out]
    go_wp2
    go_ret2
    exact ⟨none, 0, rfl, World.ownsRow_nil _ _ _ _, bel hb hb'⟩
  · rw [if_pos rfl, if_pos rfl]
    obtain ⟨k, rfl, hk, hm⟩ := has_of hh
    have HH : Hid (hasB l k = true) := hh
    have HM : Hid (May l) := hm
    clear hh hm
    obtain ⟨x, rfl, hl⟩ := h.some (by omega)
    go_enter Try.func10, Try.ntmps10
    go_wp2_with fail
    refine (has _ cap l k _ (h.later hb)).mono ?_
    rintro e w' ⟨rfl, hb'⟩
    rw [HH.out]
    have hc2 := cell_later hb' hc
    go_wp2_with fail
    refine (kidsC x cap l HM.out.most k _ (hl.later (bel hb hb')) HM.out.first).mono ?_
    rintro e w3 ⟨o, c, rfl, hown, hb3⟩
    go_wp2
    go_ret2
    exact ⟨o, c, rfl, own_mono hown (bel hb hb').size, bel (bel hb hb') hb3⟩
theorem isNest (k : Int) (w : World) :
    Calls Try.prog 29 #[.int .i64 k] w fun r w' => r = .returned (.bool (!isLeaf k)) ∧ w' = w := by
  unfold isLeaf
  by_cases h : k = 3
  · go_enter Try.func29, Try.ntmps29
    go_wp2
    go_ret
    exact ⟨ret_bool (by simp [h]), rfl⟩
  · go_enter Try.func29, Try.ntmps29
    go_wp2
    go_ret
    exact ⟨ret_bool (by rw [Bool.eq_iff_iff]; simp [h]), rfl⟩
set_option maxRecDepth 20000 in
set_option maxHeartbeats 800000 in
theorem leavesP (a : Option Addr) (cap : Nat) (l : List Nd) (w : World) (h : IsT w a l) :
    Calls Try.prog 12 #[.agg #[.slice a l.length cap]] w fun r w' => ∃ o c, r = .returned (.tuple #[.slice o (leavesA l).length c, .int .i64 (errA (may l))]) ∧ w'.ownsRow w.heap.size 3 1 (.slice o (leavesA l).length c) (leavesA l).length (ints (leavesA l)) ∧ Below w.heap.size w w' := by
  obtain ⟨i3, hi, hz0, hz1, hz2⟩ := info_parts info3
  unfold leavesA errA
  have hb : Below w.heap.size w (w.alloc (Obj.cells #[.slice a l.length cap] 24)) := (Below.refl _ _).alloc (Nat.le_refl _) _
  have hc : (w.alloc (Obj.cells #[.slice a l.length cap] 24)).cell? ⟨w.heap.size, 0, none⟩ = some (.slice a l.length cap) := by simp
  have hz : w.heap.size < (w.alloc (Obj.cells #[.slice a l.length cap] 24)).heap.size := by simp
  cases hh : may l
  · rw [if_neg (by simp), if_neg (by simp)]
    have HH : Hid (may l = false) := hh
    clear hh
    go_enter Try.func12, Try.ntmps12
    go_wp2_with fail
    refine (mayC a cap l _ (h.later hb)).mono ?_
    rintro e w' ⟨rfl, hb'⟩
    rw [HH.out]
    go_wp2
    go_ret2
    exact ⟨none, 0, rfl, World.ownsRow_nil _ _ _ _, bel hb hb'⟩
  · rw [if_pos rfl, if_pos rfl]
    have hm := may_of hh
    have HH : Hid (may l = true) := hh
    have h8 := hm.most
    obtain ⟨x, rfl, hl⟩ := h.some hm.one
    clear hh hm
    go_enter Try.func12, Try.ntmps12
    go_wp2_with fail
    refine (mayC _ cap l _ (h.later hb)).mono ?_
    rintro e w1 ⟨rfl, hb'⟩
    rw [HH.out]
    have hc1 := cell_later hb' hc
    have hb1 := bel hb hb'
    have hl1 := hl.later hb1
    have hs1 : w.heap.size < w1.heap.size := Nat.lt_of_lt_of_le hz hb'.size
    clear hb hb' hl hc hz h
    go_wp2_with fail
    go_loopw [4, 13] (fun v t wr => ∃ (k : Nat) (o : Option Addr) (c : Nat), t = .int .i64 (k : Int) ∧ k ≤ l.length ∧ v = .slice o (leavesTo l k).length c ∧ wr.ownsRow w1.heap.size 3 1 (.slice o (leavesTo l k).length c) (leavesTo l k).length (ints (leavesTo l k)) ∧ Below w1.heap.size w1 wr) (fun _ t _ => l.length - (intOf t).toNat)
    case atStart =>
      refine ⟨0, none, 0, rfl, Nat.zero_le _, rfl, World.ownsRow_nil _ _ _ _, Below.refl _ _⟩
    case round =>
      obtain ⟨k, o, c, rfl, hk, rfl, hown, hbl⟩ := hrel
      have hc2 := cell_later hbl hc1
      have hl2 := hl1.later hbl
      have hkl := length_leavesTo l k
      by_cases hlt : k < l.length
      · have hp := hl2.par' k (by omega)
        have hq := hl2.kind' k (by omega)
        have hr := hl2.null' k (by omega)
        have HK : Hid (leavesTo l (k + 1) = if isLeaf (nd l k).kind then leavesTo l k ++ [k] else leavesTo l k) := rfl
        have hl3 : Hid (Lies w1 x l) := hl1
        generalize nd l k = n at *
        clear hl2 hl1
        go_wp2_with fail
        refine (isNest _ _).mono ?_
        rintro e w' ⟨rfl, rfl⟩
        cases he : isLeaf n.kind
        · rw [he] at HK
          have HN : Hid (leavesTo l (k + 1) = leavesTo l k) := by unfold Hid; rw [HK.out, if_neg (by simp)]
          clear HK he
          go_wp2
          go_roundw
          case rel => exact ⟨k + 1, o, c, by go_num, by omega, by rw [HN.out], by rw [HN.out]; exact hown.alloc _, hbl.alloc hbl.size _⟩
          case measure => simp [intOf]; omega
        · rw [he] at HK
          have HN : Hid (leavesTo l (k + 1) = leavesTo l k ++ [k]) := by unfold Hid; rw [HK.out, if_pos rfl]
          clear HK he
          generalize leavesTo l k = p at *
          go_wp2_with (at_builtin; refine wpList_append_own _ rfl (.tmp 22) (.tmp 24) 26 rfl w1.heap.size 3 i3 (.int .i64 0) 1 8 Try.underlying26 hi hz0 hz1 hz2 rfl (by decide) _ p.length _ rfl ((hown.alloc _).alloc _) ⟨wr.heap.size + 1, 0, none⟩ 1 1 [.int .i64 (k : Int)] rfl rfl ?c1 ?c2 ?c3 ?c4 ?c5 ?_)
          case c1 =>
            intro j u hj
            match j, hj with
            | 0, hj => simp at hj; subst hj; simp [Addr.add]
          case c2 => intro u hu; simp at hu; subst hu; rfl
          case c3 => unfold maxLen; omega
          case c4 => omega
          case c5 => have := hbl.size; simp; omega
          intro v' w3 hown' hgrow _
          have hb3 : Below w1.heap.size w1 w3 := ((hbl.alloc hbl.size _).alloc (by have := hbl.size; simp; omega) _).grown hgrow (by have := hbl.size; simp; omega) (fun j hj => (hown.lt j hj).1)
          have hown3 : w3.ownsRow w1.heap.size 3 1 v' (p ++ [k]).length (ints (p ++ [k])) := by
            rw [ints_snoc, List.length_append]
            exact hown'
          obtain ⟨o3, c3, rfl⟩ := own_slice hown3
          clear hown hgrow hbl hown'
          go_wp2
          go_roundw
          case rel => exact ⟨k + 1, o3, c3, by go_num, by omega, by rw [HN.out], by rw [HN.out]; exact hown3, hb3⟩
          case measure => simp [intOf]; omega
      · obtain rfl : k = l.length := by omega
        go_wp2
        go_ret2
        exact ⟨o, c, rfl, own_mono hown (by omega), bel hb1 hbl⟩
end Go.Proofs.Ytjjfkgiecndmjaa.Tree
