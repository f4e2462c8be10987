/-
  What every.One and types.May compute: contracts.
-/
import Derived.Test.YtejgjipmnmfkcaaGreatDoorRows
import Derived.Test.YtejgjipmnmfkcaaGreatDoorTree
import Derived.Test.YtejgjipmnmfkcaaGreatDoorOpen
import Derived.Test.YtejgjipmnmfkcaaGreatDoorMem
import Derived.Test.YtejgjipmnmfkcaaGreatDoorUp
import Derived.Test.YtejgjipmnmfkcaaGreatDoorWay
import Derived.WalkKit
import Derived.ProofKit
import Derived.OpenShut
import Derived.Below
import Derived.RegionTactic
import Derived.ChangeAlike
import Derived.OwnWalk
import Derived.Deep.QuietTactic
import Derived.BigQuiet
import Derived.Deep.RegionWith
namespace Go.Proofs.YtejgjipmnmfkcaaGreatDoor.Tree
open Go.ChangeShapes Go.WideShapes Go.ChangeAt Go.RowKit

set_option maxRecDepth 20000 in
set_option maxHeartbeats 800000 in
theorem one (F : Nat) (hF : F = 55 ∨ F = 57) (b : Nat) (f : Nat → Bool) (x : Addr) (cap : Nat) (l : List Nd) (h8 : l.length ≤ 8) (w : World) (hl : Lies w x l)
    (hstep : Hid (∀ (k : Nat) (v : World), k < l.length → (∀ j, j < k → f j = true) → Below w.heap.size w v → Calls Tryz.prog F #[.int .i64 (k : Int), .agg #[.int .i64 (nd l k).kind, .int .i64 (nd l k).par, .bool (nd l k).null], .pointer (some ⟨b, 0, none⟩)] v fun r v' => r = .returned (.bool (f k)) ∧ Below v.heap.size v v')) :
    Calls Tryz.prog 54 #[.slice (some x) l.length cap, .func (.func F) #[] #[.pointer (some ⟨b, 0, none⟩)]] w fun r w' => r = .returned (.bool (allTo f l.length)) ∧ Below w.heap.size w w' := by
  rcases hF with rfl | rfl
  all_goals
    go_enter Tryz.func54, Tryz.ntmps54
    go_wp2_with fail
    go_loopw [9] (fun t wr => ∃ k : Nat, k ≤ l.length ∧ t = .int .i64 (k : Int) ∧ (∀ j, j < k → f j = true) ∧ Below w.heap.size w wr) (fun t _ => l.length - (intOf t).toNat)
    case atStart => exact ⟨0, Nat.zero_le _, rfl, fun j hj => by omega, Below.refl _ _⟩
    case round =>
      obtain ⟨k, hk, rfl, hall, hbl⟩ := hrel
      have HA : Hid (∀ j, j < k → f j = true) := hall
      clear hall
      have hl2 := hl.later hbl
      by_cases hlt : k < l.length
      · have hp := hl2.par' k hlt
        have hq := hl2.kind' k hlt
        have hr := hl2.null' k hlt
        have hst := hstep.out k
        have HS : Hid (∀ (v : World), k < l.length → (∀ j, j < k → f j = true) → Below w.heap.size w v → Calls Tryz.prog _ #[.int .i64 (k : Int), .agg #[.int .i64 (nd l k).kind, .int .i64 (nd l k).par, .bool (nd l k).null], .pointer (some ⟨b, 0, none⟩)] v fun r v' => r = .returned (.bool (f k)) ∧ Below v.heap.size v v') := hst
        have HL : Hid (Lies w x l) := hl
        clear hl2 hl hst hstep
        generalize nd l k = n at *
        go_wp2_with fail
        refine (HS.out _ hlt HA.out (hbl.alloc hbl.size _)).mono ?_
        rintro e w' ⟨rfl, hb'⟩
        cases hfk : f k
        · have HF : Hid (allTo f l.length = false) := allTo_no hlt hfk
          clear hfk
          go_wp2
          go_ret
          exact ⟨ret_bool HF.out.symm, (hbl.alloc hbl.size _).trans (hb'.mono (by have := hbl.size; simp; omega))⟩
        · have HF : Hid (f k = true) := hfk
          clear hfk
          go_wp2
          go_roundw
          case rel =>
            refine ⟨k + 1, by omega, by go_num, fun j hj => ?_, (hbl.alloc hbl.size _).trans (hb'.mono (by have := hbl.size; simp; omega))⟩
            by_cases e : j = k
            · rw [e]; exact HF.out
            · exact HA.out j (by omega)
          case measure => simp [intOf]; omega
      · obtain rfl : k = l.length := by omega
        have HF : Hid (allTo f l.length = true) := allTo_of HA.out
        go_wp2
        go_ret
        exact ⟨ret_bool HF.out.symm, hbl⟩
set_option maxRecDepth 20000 in
set_option maxHeartbeats 800000 in
theorem may1 (b : Nat) (x : Addr) (cap : Nat) (l : List Nd) (h8 : l.length ≤ 8) (n : Nd) (k : Nat) (w : World) (hl : Lies w x l) (hb : w.cell? ⟨b, 0, none⟩ = some (.slice (some x) l.length cap)) (hk : k < l.length) (hu : ∀ i, i < k → hangB l i = true) :
    Calls Tryz.prog 55 #[.int .i64 (k : Int), .agg #[.int .i64 n.kind, .int .i64 n.par, .bool n.null], .pointer (some ⟨b, 0, none⟩)] w fun r w' => r = .returned (.bool (hangB l k)) ∧ Below w.heap.size w w' := by
  have HU : Hid (∀ i, i < k → hangB l i = true) := hu
  clear hu
  have hb1 : Below w.heap.size w (w.alloc (Obj.cells #[.int .i64 n.kind, .int .i64 n.par, .bool n.null] 59)) := (Below.refl _ _).alloc (Nat.le_refl _) _
  have hc := cell_later hb1 hb
  go_enter Tryz.func55, Tryz.ntmps55
  go_wp2_with fail
  refine (hangs x cap l h8 k hk _ (hl.later hb1) HU.out).mono ?_
  rintro e w' ⟨rfl, hb2⟩
  go_wp2
  go_ret
  exact ⟨rfl, bel hb1 hb2⟩
set_option maxRecDepth 20000 in
set_option maxHeartbeats 800000 in
theorem may2 (b : Nat) (x : Addr) (cap : Nat) (l : List Nd) (h8 : l.length ≤ 8) (k : Nat) (w : World) (hl : Lies w x l) (hb : w.cell? ⟨b, 0, none⟩ = some (.slice (some x) l.length cap)) (h0 : (nd l 0).par = -1) :
    Calls Tryz.prog 57 #[.int .i64 (k : Int), .agg #[.int .i64 (nd l k).kind, .int .i64 (nd l k).par, .bool (nd l k).null], .pointer (some ⟨b, 0, none⟩)] w fun r w' => r = .returned (.bool (many l k)) ∧ Below w.heap.size w w' := by
  have H0 : Hid ((nd l 0).par = -1) := h0
  clear h0
  have HM : Hid (many l k = manyB (nd l k).kind (kids l k).length) := rfl
  generalize nd l k = n at *
  have hb1 : Below w.heap.size w (w.alloc (Obj.cells #[.int .i64 n.kind, .int .i64 n.par, .bool n.null] 59)) := (Below.refl _ _).alloc (Nat.le_refl _) _
  have hc := cell_later hb1 hb
  go_enter Tryz.func57, Tryz.ntmps57
  go_wp2_with fail
  have hb2 : Below w.heap.size w (w.alloc (Obj.cells #[.int .i64 n.kind, .int .i64 n.par, .bool n.null] 59)).drew := hb1.drew
  have hl2 : Lies (w.alloc (Obj.cells #[.int .i64 n.kind, .int .i64 n.par, .bool n.null] 59)).drew x l := hl.later hb2
  have hn2 : (w.alloc (Obj.cells #[.int .i64 n.kind, .int .i64 n.par, .bool n.null] 59)).drew.cell? ⟨w.heap.size, 0, none⟩ = some (.int .i64 n.kind) := by
    show (w.alloc _).cell? _ = _
    simp
  have HL2 : Hid _ := hl2
  have HB2 : Hid _ := hb2
  have HN2 : Hid _ := hn2
  clear hl2 hb2 hn2 hb1 hl hb
  go_region_with (first | (go_at_call 59; refine (kidsC x cap l h8 k _ HL2.out H0.out).mono ?_; rintro e w' ⟨o, c, rfl, hown, hb3⟩; have hn' := cell_later hb3 HN2.out; have HB3 : Hid _ := bel HB2.out hb3; clear hown hb3 hc) | (go_at_call 58; refine (isMany _ _ _).mono ?_; rintro e w' ⟨rfl, rfl⟩))
  all_goals
    go_wp2
    go_ret
    exact ⟨ret_bool HM.out.symm, HB3.out⟩
end Go.Proofs.YtejgjipmnmfkcaaGreatDoor.Tree
