/-
  Whether a value may be of a node of a type: Fits: contract.
-/
import Derived.Test.YtejgjipmnmfkcaaGreatDoorTree
import Derived.Test.YtejgjipmnmfkcaaGreatDoorOpen
import Derived.Test.YtejgjipmnmfkcaaGreatDoorMem
import Derived.Test.YtejgjipmnmfkcaaGreatDoorUp
import Derived.Test.YtejgjipmnmfkcaaGreatDoorMay
import Derived.Test.YtejgjipmnmfkcaaGreatDoorTk
import Derived.Test.YtejgjipmnmfkcaaGreatDoorBehind
import Derived.Test.YtejgjipmnmfkcaaGreatDoorOnly
import Derived.Test.YtejgjipmnmfkcaaGreatDoorShape
import Derived.Test.YtejgjipmnmfkcaaGreatDoorShapeOf
import Derived.Test.YtejgjipmnmfkcaaGreatDoorFitsP
import Derived.Test.YtejgjipmnmfkcaaGreatDoorFitsC
import Derived.Test.YtejgjipmnmfkcaaGreatDoorFits
import Derived.Deep.RegionWith
namespace Go.Proofs.YtejgjipmnmfkcaaGreatDoor.Val
open Go.ChangeShapes Go.WideShapes Go.ChangeAt Go.RowKit
open Tree

theorem fits_all (g : Nat) (ns : List Nd) (vs : Nat → Value) (hm : May ns) : ∀ f, f ≤ 5 → FitsC g ns vs f := by
  intro f
  induction f with
  | zero =>
    intro _ a v w _ _ h
    cases h
  | succ f ih => exact fun hf => fits_of g ns vs hm f (by omega) (ih (by omega))
set_option maxRecDepth 20000 in
set_option maxHeartbeats 3200000 in
theorem fitsC (o : Option Addr) (cap : Nat) (ns : List Nd) (at' : Int) (v : ByteArray) (hv : v.size ≤ 9223372036854775807) (w : World) (ht : Hid (IsT w o ns)) (hw : Hid (Home w)) :
    Calls Tryz.prog 22 #[.agg #[.slice o ns.length cap], .int .i64 at', .string v] w fun r w' => r = .returned (.bool (fitsZ ns at' v)) ∧ Below w.heap.size w w' := by
  obtain ⟨w1, e1, s1, c1, b1⟩ := boxed w (.slice o ns.length cap) 25
  have B1 : Hid (Below w.heap.size w w1) := b1
  have HT1 : Hid (IsT w1 o ns) := ht.out.later b1
  have HW1 : Hid (Home w1) := hw.out.later b1
  clear s1 b1
  by_cases h0 : 0 ≤ at' ∧ at' < (ns.length : Int)
  · obtain ⟨h1, h2⟩ := h0
    have HZ : Hid (fitsZ ns at' v = (may ns && fitsF ns 8 at'.toNat v)) := by unfold Hid fitsZ; rw [decide_eq_true ⟨h1, h2⟩, Bool.true_and]
    obtain ⟨a, rfl⟩ := Int.eq_ofNat_of_zero_le h1
    rw [Int.toNat_natCast] at HZ
    have ha : a < ns.length := by omega
    generalize fitsZ ns (a : Int) v = R at *
    go_enter Tryz.func22, Tryz.ntmps22
    go_wp2_with fail
    refine (mayC o cap ns w1 HT1.out).mono ?_
    rintro e w2 ⟨rfl, b2⟩
    have c2 := cell_later b2 c1
    have B2 : Hid (Below w.heap.size w w2) := bel2 B1.out b2
    have HT2 : Hid (IsT w2 o ns) := HT1.out.later b2
    have HW2 : Hid (Home w2) := HW1.out.later b2
    clear e1 c1 b2
    cases hmay : may ns
    · have HF : Hid (R = false) := by unfold Hid; rw [HZ.out, hmay, Bool.false_and]
      clear hmay
      go_wp2
      go_ret
      exact ⟨ret_bool HF.out.symm, B2.out⟩
    · have HMAY : Hid (May ns) := may_of hmay
      obtain ⟨x, rfl, hx⟩ := HT2.out.some (by omega)
      have HX2 : Hid (Lies w2 x ns) := hx
      have HF : Hid (R = fitsF ns 8 a v) := by unfold Hid; rw [HZ.out, hmay, Bool.true_and]
      clear hmay hx
      go_wp2_with fail
      refine (onlyC v hv w2 HW2).mono ?_
      rintro e w3 ⟨k, u, c, ok, rfl, b3, hok⟩
      have HOK : Hid (OnlyA v k u c ok) := hok
      have c3 := cell_later b3 c2
      obtain ⟨w4, e4, x4, b4, z4⟩ := box3 w3 k u c
      have c4 := cell_later b4 c3
      have b24 := bel2 b3 b4
      have B4 : Hid (Below w.heap.size w w4) := bel2 B2.out b24
      have HX4 : Hid (Lies w4 x ns) := HX2.out.later b24
      have HW4 : Hid (Home w4) := HW2.out.later b24
      have HB4 : Hid (Bx w4 w3.heap.size k u c) := x4
      have d0 := x4.c0
      have d1 := x4.c1
      have d2 := x4.c2
      clear hok c2 c3 b3 b4 b24 x4 z4
      cases ok
      · have HF2 : Hid (R = false) := by
          unfold Hid
          rw [HF.out]
          rcases HOK.out with ⟨c, _⟩ | ⟨_, c⟩
          · cases c
          · rw [fitsF_succ, partsS_none c]
        go_wp2_with fail
        go_quiet (fail)
        go_wp2
        go_ret
        exact ⟨ret_bool HF2.out.symm, bel2 B4.out (drewN_below _ _)⟩
      · obtain ⟨hval, rfl, hk, hb⟩ : isVal (bl v) ∧ u = v ∧ k = kindOf (bl v) ∧ bl c = bodyOf (bl v) := by
          rcases HOK.out with ⟨_, h⟩ | ⟨c, _⟩
          · exact h
          · cases c
        have hcs := bodyS_eq hb
        have hsz : u.size ≤ 65536 := by have := hval.1; rw [bl_length] at this; exact this
        have HF2 : Hid (R = fitsF ns 5 a u) := by
          unfold Hid
          rw [HF.out]
          exact fits_fuel 5 8 a u (by omega) (by omega) hsz (by have := hval.2; rw [bl_length] at this; exact this)
        have HCC : Hid (∀ g vs (y : World), ShInv y g ns ns.length ns.length vs → Home y → Calls Tryz.prog 39 #[.pointer (some ⟨g, a * 4, none⟩), .agg #[.int .i64 k, .string u, .string c]] y fun r w' => r = .returned (.bool R) ∧ Below y.heap.size y w') := by
          intro g vs y hy1 hy2
          rw [HF2.out, hk, hcs]
          exact fits_all g ns vs HMAY.out 5 (Nat.le_refl _) a u y ha hsz (by have := hval.2; rw [bl_length] at this; exact this) hy1 hy2
        clear hval hk hb hcs HF HZ HOK
        go_wp2_with fail
        go_region_with (first
          | (go_at_call 38; refine (shapeOfC x cap ns a ha HMAY _ (HX4.out.later (drewN_below _ 1))).mono ?_; rintro e w5 ⟨g, vs, rfl, hi5, hg5, b5⟩; have B5 : Hid (Below w4.heap.size w4 w5) := bel2 (drewN_below _ 1) b5; have HI5 : Hid (ShInv w5 g ns ns.length ns.length vs) := hi5; have X5 := HB4.out.later B5.out; have d3 := X5.c0; have d4 := X5.c1; have d5 := X5.c2; clear hi5 b5 X5)
          | (go_at_call 39; refine (HCC.out g vs _ HI5.out (HW4.out.later B5.out)).mono ?_; rintro e w6 ⟨rfl, b6⟩))
        all_goals
          go_wp2
          go_ret
          exact ⟨rfl, bel2 B4.out (bel2 B5.out b6)⟩
  · have HF : Hid (fitsZ ns at' v = false) := by unfold Hid fitsZ; rw [decide_eq_false h0, Bool.false_and]
    generalize fitsZ ns at' v = R at *
    by_cases h1 : at' < 0
    · clear h0
      go_enter Tryz.func22, Tryz.ntmps22
      go_wp2
      go_ret
      exact ⟨ret_bool HF.out.symm, B1.out⟩
    · have h2 : (ns.length : Int) ≤ at' := by omega
      clear h0
      go_enter Tryz.func22, Tryz.ntmps22
      go_wp2
      go_ret
      exact ⟨ret_bool HF.out.symm, B1.out⟩
end Go.Proofs.YtejgjipmnmfkcaaGreatDoor.Val
