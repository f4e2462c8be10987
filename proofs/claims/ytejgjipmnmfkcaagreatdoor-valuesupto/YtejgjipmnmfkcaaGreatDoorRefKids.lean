/-
  The kids of a node, as the document asks them: a contract.
-/
import Derived.Test.YtejgjipmnmfkcaaGreatDoorRows
import Derived.Test.YtejgjipmnmfkcaaGreatDoorTree
import Derived.Test.YtejgjipmnmfkcaaGreatDoorOpen
import Derived.Test.YtejgjipmnmfkcaaGreatDoorMem
import Derived.WalkKit
import Derived.ProofKit
import Derived.OpenShut
import Derived.Below
import Derived.RegionTactic
import Derived.ChangeAlike
import Derived.OwnWalk
namespace Go.Proofs.YtejgjipmnmfkcaaGreatDoor.Tree
open Go.ChangeShapes Go.WideShapes Go.ChangeAt Go.RowKit

set_option maxRecDepth 20000 in
set_option maxHeartbeats 800000 in
theorem refKids (x : Addr) (cap : Nat) (l : List Nd) (h1 : 1 ≤ l.length) (h8 : l.length ≤ 8) (a : Int) (w : World) (hl : Lies w x l) :
    Calls Tryz.prog 64 #[.agg #[.slice (some x) l.length cap], .int .i64 a] w fun r w' => ∃ o c, r = .returned (.slice o (kids l a).length c) ∧ w'.ownsRow w.heap.size 3 1 (.slice o (kids l a).length c) (kids l a).length (ints (kids l a)) ∧ Below w.heap.size w w' := by
  obtain ⟨i3, hi, hz0, hz1, hz2⟩ := info_parts info3
  go_enter Tryz.func64, Tryz.ntmps64
  go_wp2_with fail
  obtain ⟨w1, e1, hs1, hc1, hb1⟩ := boxed w (.slice (some x) l.length cap) 25
  rw [e1]
  have hl1 := hl.later hb1
  clear e1 hl
  go_loopw [5, 6] (fun v t wr => ∃ (k : Nat) (o : Option Addr) (c : Nat), t = .int .i64 (k : Int) ∧ k ≤ l.length ∧ v = .slice o (kidsTo l a k).length c ∧ wr.ownsRow w1.heap.size 3 1 (.slice o (kidsTo l a k).length c) (kidsTo l a k).length (ints (kidsTo l a k)) ∧ Below w1.heap.size w1 wr ∧ 1 ≤ k) (fun _ t _ => l.length - (intOf t).toNat)
  case atStart =>
    refine ⟨1, none, 0, rfl, h1, ?_, ?_, Below.refl _ _, Nat.le_refl _⟩
    · rw [kidsTo_one]; rfl
    · rw [kidsTo_one]; exact World.ownsRow_nil _ _ _ _
  case round =>
    obtain ⟨k, o, c, rfl, hk, rfl, hown, hbl, hk1⟩ := hrel
    have hc2 := cell_later hbl hc1
    have hl2 := hl1.later hbl
    have hkl := length_kidsTo l a k
    by_cases hlt : k < l.length
    · have hp := hl2.par' k (by omega)
      have HK : Hid (kidsTo l a (k + 1) = if 1 ≤ k ∧ (nd l k).par = a then kidsTo l a k ++ [k] else kidsTo l a k) := rfl
      have hl3 : Hid (Lies w1 x l) := hl1
      generalize nd l k = n at *
      clear hl2 hl1
      by_cases he : n.par = a
      · have HN : Hid (kidsTo l a (k + 1) = kidsTo l a k ++ [k]) := by unfold Hid; rw [HK.out, if_pos ⟨hk1, he⟩]
        clear HK
        generalize kidsTo l a k = p at *
        go_wp2_with (at_builtin; refine wpList_append_own _ rfl (.tmp 22) (.tmp 24) 60 rfl w1.heap.size 3 i3 (.int .i64 0) 1 8 Tryz.underlying60 hi hz0 hz1 hz2 rfl (by decide) _ p.length _ rfl (hown.alloc _) ⟨wr.heap.size, 0, none⟩ 1 1 [.int .i64 (k : Int)] rfl rfl ?c1 ?c2 ?c3 ?c4 ?c5 ?_)
        case c1 =>
          intro j u hj
          match j, hj with
          | 0, hj => simp at hj; subst hj; simp [Addr.add]
        case c2 => intro u hu; simp at hu; subst hu; rfl
        case c3 => unfold maxLen; omega
        case c4 => omega
        case c5 => have := hbl.size; simp; omega
        intro v' w3 hown' hgrow _
        have hb3 : Below w1.heap.size w1 w3 := (hbl.alloc hbl.size _).grown hgrow (by have := hbl.size; simp; omega) (fun j hj => (hown.lt j hj).1)
        have hown3 : w3.ownsRow w1.heap.size 3 1 v' (p ++ [k]).length (ints (p ++ [k])) := by
          rw [ints_snoc, List.length_append]
          exact hown'
        obtain ⟨o3, c3, rfl⟩ := own_slice hown3
        clear hown hgrow hbl hown'
        go_wp2
        go_roundw
        case rel => exact ⟨k + 1, o3, c3, by go_num, by omega, by rw [HN.out], by rw [HN.out]; exact hown3, hb3, by omega⟩
        case measure => simp [intOf]; omega
      · have HN : Hid (kidsTo l a (k + 1) = kidsTo l a k) := by unfold Hid; rw [HK.out, if_neg (fun h => he h.2)]
        clear HK
        go_wp2
        go_roundw
        case rel => exact ⟨k + 1, o, c, by go_num, by omega, by rw [HN.out], by rw [HN.out]; exact hown, hbl, by omega⟩
        case measure => simp [intOf]; omega
    · obtain rfl : k = l.length := by omega
      go_wp2
      go_ret
      exact ⟨o, c, rfl, own_mono hown (by omega), hb1.trans (hbl.mono (by omega))⟩
end Go.Proofs.YtejgjipmnmfkcaaGreatDoor.Tree
