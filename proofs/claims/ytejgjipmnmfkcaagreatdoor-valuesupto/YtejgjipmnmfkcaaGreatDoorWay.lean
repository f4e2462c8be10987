/-
  What the program's own way, hangs, isMany and May compute: contracts.
-/
import Derived.Test.YtejgjipmnmfkcaaGreatDoorRows
import Derived.Test.YtejgjipmnmfkcaaGreatDoorTree
import Derived.Test.YtejgjipmnmfkcaaGreatDoorOpen
import Derived.Test.YtejgjipmnmfkcaaGreatDoorMem
import Derived.Test.YtejgjipmnmfkcaaGreatDoorUp
import Derived.WalkKit
import Derived.ProofKit
import Derived.OpenShut
import Derived.Below
import Derived.RegionTactic
import Derived.ChangeAlike
import Derived.OwnWalk
namespace Go.Proofs.YtejgjipmnmfkcaaGreatDoor.Tree
open Go.ChangeShapes Go.WideShapes Go.ChangeAt Go.RowKit

/-- Nodes, as cells. -/
def cellsN (l : List Nd) : List Value := l.flatMap fun n => [.int .i64 n.kind, .int .i64 n.par, .bool n.null]
theorem cellsN_snoc (l : List Nd) (n : Nd) : cellsN (l ++ [n]) = cellsN l ++ [.int .i64 n.kind, .int .i64 n.par, .bool n.null] := by simp [cellsN]

set_option maxRecDepth 20000 in
set_option maxHeartbeats 800000 in
theorem wayC (x : Addr) (cap : Nat) (l : List Nd) (h8 : l.length ≤ 8) (a : Nat) (ha : a < l.length) (w : World) (hl : Lies w x l) (hu : Up l a) :
    Calls Tryz.prog 72 #[.agg #[.slice (some x) l.length cap], .int .i64 (a : Int)] w fun r w' => ∃ (p : List Nd) (o : Option Addr) (c : Nat), r = .returned (.slice o p.length c) ∧ w'.ownsRow w.heap.size 59 3 (.slice o p.length c) p.length (cellsN p) ∧ Below w.heap.size w w' ∧ p.length = depth l a + 1 ∧ sumR p = rep l a ∧ sumR p + sumN p = dfn l a := by
  obtain ⟨i46, hi, hz0, hz1, hz2⟩ := info_parts info46
  have HU : Hid (Up l a) := hu
  clear hu
  go_enter Tryz.func72, Tryz.ntmps72
  go_wp2_with fail
  obtain ⟨w1, e1, hs1, hc1, hb1⟩ := boxed w (.slice (some x) l.length cap) 25
  rw [e1]
  have hl1 := hl.later hb1
  clear e1 hl
  go_loopw [1, 5] (fun t v wr => ∃ (z : Int) (p : List Nd) (o : Option Addr) (c : Nat), t = .int .i64 z ∧ v = .slice o p.length c ∧ wr.ownsRow w1.heap.size 59 3 (.slice o p.length c) p.length (cellsN p) ∧ Below w1.heap.size w1 wr ∧ WayInv l a p z) (fun t _ _ => (intOf t + 1).toNat)
  case atStart =>
    exact ⟨a, [], none, 0, rfl, rfl, World.ownsRow_nil _ _ _ _, Below.refl _ _, WayInv.start l a⟩
  case round =>
    obtain ⟨z, p, o, c, rfl, rfl, hown, hbl, hinv⟩ := hrel
    have hc2 := cell_later hbl hc1
    have hl2 := hl1.later hbl
    by_cases hlt : 0 ≤ z
    · obtain ⟨k, rfl⟩ := Int.eq_ofNat_of_zero_le hlt
      obtain ⟨hka, hpl, hinv', hlo, hhi⟩ := hinv.more HU.out
      have HI : Hid (WayInv l a (p ++ [nd l k]) (nd l k).par) := hinv'
      have hp := hl2.par' k (by omega)
      have hq := hl2.kind' k (by omega)
      have hr := hl2.null' k (by omega)
      have hp0 := hl1.par' k (by omega)
      have hl3 : Hid (Lies w1 x l) := hl1
      generalize nd l k = n at *
      clear hl2 hl1 hinv hinv'
      go_wp2_with (at_builtin; refine wpList_append_own _ rfl (.tmp 14) (.tmp 20) 23 rfl w1.heap.size 59 i46 (.agg #[.int .i64 0, .int .i64 0, .bool false]) 3 24 Tryz.underlying23 hi hz0 hz1 hz2 rfl (by decide) _ p.length _ rfl (hown.alloc _) ⟨wr.heap.size, 0, none⟩ 1 1 [.int .i64 n.kind, .int .i64 n.par, .bool n.null] rfl rfl ?c1 ?c2 ?c3 ?c4 ?c5 ?_)
      case c1 =>
        intro j u hj
        match j, hj with
        | 0, hj => simp at hj; subst hj; simp [Addr.add]
        | 1, hj => simp at hj; subst hj; simp [Addr.add]
        | 2, hj => simp at hj; subst hj; simp [Addr.add]
      case c2 => intro u hu; simp at hu; rcases hu with rfl | rfl | rfl <;> rfl
      case c3 => unfold maxLen; omega
      case c4 => omega
      case c5 => have := hbl.size; simp; omega
      intro v' w3 hown' hgrow _
      have hb3 : Below w1.heap.size w1 w3 := (hbl.alloc hbl.size _).grown hgrow (by have := hbl.size; simp; omega) (fun j hj => (hown.lt j hj).1)
      have hown3 : w3.ownsRow w1.heap.size 59 3 v' (p ++ [n]).length (cellsN (p ++ [n])) := by
        rw [cellsN_snoc, List.length_append]
        exact hown'
      obtain ⟨o3, c3, rfl⟩ := own_slice hown3
      have hc3 := cell_later hb3 hc1
      have hp3 := cell_later hb3 hp0
      clear hown hgrow hbl hown' hp hq hr hp0 hc2
      generalize p ++ [n] = p3 at *
      go_wp2
      go_roundw
      case rel => exact ⟨n.par, p3, o3, c3, rfl, rfl, hown3, hb3, HI.out⟩
      case measure => simp [intOf]; omega
    · obtain ⟨h1, h2, h3⟩ := hinv.done (by omega)
      have H1 : Hid (p.length = depth l a + 1) := h1
      clear h1
      go_wp2
      go_ret
      exact ⟨p, o, c, rfl, own_mono hown (by omega), hb1.trans (hbl.mono (by omega)), H1.out, h2, h3⟩
theorem isKind (k : Int) (w : World) :
    Calls Tryz.prog 71 #[.int .i64 k] w fun r w' => r = .returned (.bool (decide (0 ≤ k ∧ k ≤ 4))) ∧ w' = w := by
  by_cases h : 0 ≤ k
  · go_enter Tryz.func71, Tryz.ntmps71
    go_wp2
    go_ret
    exact ⟨ret_bool (by simp [h]), rfl⟩
  · go_enter Tryz.func71, Tryz.ntmps71
    go_wp2
    go_ret
    exact ⟨ret_bool (by simp; omega), rfl⟩
theorem isMany (k : Int) (n : Nat) (w : World) :
    Calls Tryz.prog 58 #[.int .i64 k, .int .i64 (n : Int)] w fun r w' => r = .returned (.bool (manyB k n)) ∧ w' = w := by
  unfold manyB
  by_cases h : k = 3
  · rw [if_pos h]
    go_enter Tryz.func58, Tryz.ntmps58
    go_wp2
    go_ret
    exact ⟨ret_bool (by rw [Bool.eq_iff_iff]; simp; omega), rfl⟩
  · rw [if_neg h]
    by_cases h' : k = 4
    · rw [if_pos h']
      go_enter Tryz.func58, Tryz.ntmps58
      go_wp2
      go_ret
      exact ⟨ret_bool (by rw [Bool.eq_iff_iff]; simp; omega), rfl⟩
    · rw [if_neg h']
      go_enter Tryz.func58, Tryz.ntmps58
      go_wp2
      go_ret
      exact ⟨ret_bool (by rw [Bool.eq_iff_iff]; simp), rfl⟩
set_option maxRecDepth 20000 in
set_option maxHeartbeats 800000 in
theorem hangs (x : Addr) (cap : Nat) (l : List Nd) (h8 : l.length ≤ 8) (a : Nat) (ha : a < l.length) (w : World) (hl : Lies w x l) (hu : ∀ i, i < a → hangB l i = true) :
    Calls Tryz.prog 56 #[.agg #[.slice (some x) l.length cap], .int .i64 (a : Int)] w fun r w' => r = .returned (.bool (hangB l a)) ∧ Below w.heap.size w w' := by
  obtain ⟨w1, e1, hs1, hc1, hb1⟩ := boxed w (.slice (some x) l.length cap) 25
  have hp := (hl.later hb1).par' a ha
  have hq := (hl.later hb1).kind' a ha
  have hr := (hl.later hb1).null' a ha
  have HB1 : Hid (Below w.heap.size w w1) := hb1
  subst e1
  have HL : Hid (Lies w x l) := hl
  have HU : Hid (∀ i, i < a → hangB l i = true) := hu
  have HN : Hid (hangB l a = (decide (0 ≤ (nd l a).kind ∧ (nd l a).kind ≤ 4) && (if a = 0 then decide ((nd l a).par = -1) else decide (0 ≤ (nd l a).par ∧ (nd l a).par < a) && decide (depth l a + 1 ≤ 5)))) := by
    unfold Hid hangB
    by_cases e : a = 0
    · rw [e]
    · rw [if_neg e, if_neg e]
  have HC : Hid (a ≠ 0 → 0 ≤ (nd l a).par ∧ (nd l a).par < a → Up l a) := by
    intro e hc
    have := up_of_hang (l := l) (k := a) (by omega) HU.out
    refine ⟨this.first, fun i h1 h2 => ?_⟩
    by_cases e : i = a
    · rw [e]; exact hc
    · exact this.par i h1 (by omega)
  clear hl hu hb1 hs1 hc1
  generalize nd l a = n at *
  by_cases hk : 0 ≤ n.kind ∧ n.kind ≤ 4
  · have HK : Hid (decide (0 ≤ n.kind ∧ n.kind ≤ 4) = true) := decide_eq_true hk
    have H1 := HN.out
    rw [HK.out, Bool.true_and] at H1
    clear hk
    by_cases h0 : a = 0
    · rw [if_pos h0] at H1
      rw [H1]
      have H0 : Hid ((a : Int) = 0) := by unfold Hid; omega
      clear H1 HN h0
      go_enter Tryz.func56, Tryz.ntmps56
      go_wp2_with fail
      refine (isKind _ _).mono ?_
      rintro e w' ⟨rfl, rfl⟩
      rw [HK.out]
      have hz := H0.out
      go_wp2
      go_ret
      exact ⟨ret_bool (by rw [Bool.eq_iff_iff]; simp), bel HB1.out ((Below.refl _ _).alloc (Nat.le_refl _) _)⟩
    · rw [if_neg h0] at H1
      by_cases hc : 0 ≤ n.par
      · by_cases hd : n.par < a
        · have hup := HC.out h0 ⟨hc, hd⟩
          rw [decide_eq_true ⟨hc, hd⟩, Bool.true_and] at H1
          rw [H1]
          clear H1 HN
          have HUP : Hid (Up l a) := hup
          clear hup
          have hk0 : ¬ ((a : Int) = 0) := by omega
          go_enter Tryz.func56, Tryz.ntmps56
          go_wp2_with fail
          refine (isKind _ _).mono ?_
          rintro e w' ⟨rfl, rfl⟩
          rw [HK.out]
          go_wp2_with fail
          generalize e2 : (w.alloc (Obj.cells #[Value.slice (some x) l.length cap] 25)).alloc (Obj.cells #[Value.int IntKind.i64 n.kind, Value.int IntKind.i64 n.par, Value.bool n.null] 59) = w2
          have hb2 : Below w.heap.size w w2 := by
            rw [← e2]
            exact bel HB1.out ((Below.refl _ _).alloc (Nat.le_refl _) _)
          clear e2 hp hq hr
          refine (wayC x cap l h8 a ha w2 (HL.out.later hb2) HUP.out).mono ?_
          rintro e w3 ⟨p, o, c, rfl, hown, hb3, hlen, hsr, hsd⟩
          have HLEN : Hid (p.length = depth l a + 1) := hlen
          have HSR : Hid (sumR p = rep l a) := hsr
          have HSD : Hid (sumR p + sumN p = dfn l a) := hsd
          clear hlen hsr hsd
          go_wp2
          go_ret
          exact ⟨ret_bool (by rw [← HLEN.out, Bool.eq_iff_iff]; simp; omega), bel hb2 hb3⟩
        · rw [decide_eq_false (fun h => hd h.2), Bool.false_and] at H1
          rw [H1]
          clear H1 HN
          go_enter Tryz.func56, Tryz.ntmps56
          go_wp2_with fail
          refine (isKind _ _).mono ?_
          rintro e w' ⟨rfl, rfl⟩
          rw [HK.out]
          go_wp2
          go_ret
          exact ⟨rfl, bel HB1.out ((Below.refl _ _).alloc (Nat.le_refl _) _)⟩
      · rw [decide_eq_false (fun h => hc h.1), Bool.false_and] at H1
        rw [H1]
        clear H1 HN
        go_enter Tryz.func56, Tryz.ntmps56
        go_wp2_with fail
        refine (isKind _ _).mono ?_
        rintro e w' ⟨rfl, rfl⟩
        rw [HK.out]
        go_wp2
        go_ret
        exact ⟨rfl, bel HB1.out ((Below.refl _ _).alloc (Nat.le_refl _) _)⟩
  · have HK : Hid (decide (0 ≤ n.kind ∧ n.kind ≤ 4) = false) := decide_eq_false hk
    have H1 := HN.out
    rw [HK.out, Bool.false_and] at H1
    rw [H1]
    clear hk H1 HN
    go_enter Tryz.func56, Tryz.ntmps56
    go_wp2_with fail
    refine (isKind _ _).mono ?_
    rintro e w' ⟨rfl, rfl⟩
    rw [HK.out]
    go_wp2
    go_ret
    exact ⟨rfl, bel HB1.out ((Below.refl _ _).alloc (Nat.le_refl _) _)⟩
end Go.Proofs.YtejgjipmnmfkcaaGreatDoor.Tree
