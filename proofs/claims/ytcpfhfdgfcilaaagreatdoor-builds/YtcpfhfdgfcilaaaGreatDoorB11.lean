/-
  Several texts in one: The document's ArrayMay of arrays by a dictionary, by runs: contract. · The document's ArrayMay, of any array: contract. · The same array, wherever it lies: SameArray: contract.
-/
import Derived.Test.YtcpfhfdgfcilaaaGreatDoorB10
namespace Go.Proofs.YtcpfhfdgfcilaaaGreatDoor.Arr
open Go.ChangeShapes Go.WideShapes Go.ChangeAt Go.RowKit
open Tree Val

end Go.Proofs.YtcpfhfdgfcilaaaGreatDoor.Arr
namespace Go.Proofs.YtcpfhfdgfcilaaaGreatDoor.Arr
open Go.ChangeShapes Go.WideShapes Go.ChangeAt Go.RowKit
open Tree Val

end Go.Proofs.YtcpfhfdgfcilaaaGreatDoor.Arr
namespace Go.Proofs.YtcpfhfdgfcilaaaGreatDoor.Arr
open Go.ChangeShapes Go.WideShapes Go.ChangeAt Go.RowKit
open Tree Val

/-- What SameArray answers of one array at two places. -/
def SameC (B bytes f : Nat) : Prop := ∀ (a : Arr) (o : Option Addr) (cap : Nat) (o' : Option Addr) (cap' : Nat) (w : World), HoldsF B bytes w f (a.cells o cap) a → HoldsF B bytes w f (a.cells o' cap') a →
  Calls Tryz.prog 28 #[a.val o cap, a.val o' cap'] w fun r w' => r = .returned (.bool true) ∧ Below w.heap.size w w'
set_option maxRecDepth 20000 in
set_option maxHeartbeats 3200000 in
theorem same_step (B bytes f : Nat) (ih : Hid (SameC B bytes f)) : SameC B bytes (f + 1) := by
  intro a o cap o' cap' w hH hH'
  obtain ⟨w1, e1, x1, b1, z1⟩ := box7 w a o cap
  obtain ⟨w2, e2, x2, b2, z2⟩ := box7 w1 a o' cap'
  have B2 : Hid (Below w.heap.size w w2) := bel2 b1 b2
  have X1 : Hid (Bx w2 w.heap.size a o cap) := x1.later b2
  have X2 : Hid (Bx w2 w1.heap.size a o' cap') := x2
  have HH : Hid (HoldsF B bytes w (f + 1) (a.cells o cap) a) := hH
  have HH' : Hid (HoldsF B bytes w (f + 1) (a.cells o' cap') a) := hH'
  have hlen : a.kids.length ≤ 9223372036854775807 := by have := (hH.ok').2.1; unfold maxLen at this; omega
  have d0 := X1.out.c0
  have d1 := X1.out.c1
  have d2 := X1.out.c2
  have d3 := X1.out.c3
  have d4 := X1.out.c4
  have d5 := X1.out.c5
  have d6 := X1.out.c6
  have f0 := x2.c0
  have f1 := x2.c1
  have f2 := x2.c2
  have f3 := x2.c3
  have f4 := x2.c4
  have f5 := x2.c5
  have f6 := x2.c6
  unfold Arr.val
  clear x1 x2 b1 b2 z1 z2 hH hH'
  go_enter Tryz.func28, Tryz.ntmps28
  go_wp2_with fail
  go_loopw [5] (fun t wr => ∃ k : Nat, k ≤ a.kids.length ∧ t = .int .i64 (k : Int) ∧ Below w2.heap.size w2 wr) (fun t _ => a.kids.length - (intOf t).toNat)
  case atStart => exact ⟨0, Nat.zero_le _, rfl, Below.refl _ _⟩
  case round =>
    obtain ⟨k, hk, rfl, hbl⟩ := hrel
    have BL : Hid (Below w2.heap.size w2 wr) := hbl
    have Y1 := X1.out.later hbl
    have Y2 := X2.out.later hbl
    clear d0 d1 d2 d3 d4 d5 d6 f0 f1 f2 f3 f4 f5 f6 hbl
    have d6 := Y1.c6
    by_cases hlt : k < a.kids.length
    · obtain ⟨xk, ok, ck, rfl, hkid, hkh⟩ := HH.out.kid (i := k) hlt
      obtain ⟨xk', ok', ck', rfl, hkid', hkh'⟩ := HH'.out.kid (i := k) hlt
      have BR : Hid (Below w.heap.size w wr) := bel2 B2.out BL.out
      have hne := BW.some wr
      have KC := (hkid.later BR.out).cells
      have k0 := KC.k0
      have k1 := KC.k1
      have k2 := KC.k2
      have k3 := KC.k3
      have k4 := KC.k4
      have k5 := KC.k5
      have k6 := KC.k6
      have KC' := (hkid'.later BR.out).cells
      have m0 := KC'.k0
      have m1 := KC'.k1
      have m2 := KC'.k2
      have m3 := KC'.k3
      have m4 := KC'.k4
      have m5 := KC'.k5
      have m6 := KC'.k6
      have e6 : ∀ s : BW wr, s.w.cell? ⟨w.heap.size, 6, none⟩ = some (.slice (some xk) a.kids.length cap) := fun s => (Y1.later s.ok).c6
      have g6 : ∀ s : BW wr, s.w.cell? ⟨w1.heap.size, 6, none⟩ = some (.slice (some xk') a.kids.length cap') := fun s => (Y2.later s.ok).c6
      have HMM : Hid (∀ v, Below wr.heap.size wr v → Calls Tryz.prog 28 #[(kidAt a k).val ok ck, (kidAt a k).val ok' ck'] v fun r w' => r = .returned (.bool true) ∧ Below v.heap.size v w') := fun v hv => ih.out (kidAt a k) ok ck ok' ck' v (hkh.later (bel2 BR.out hv)) (hkh'.later (bel2 BR.out hv))
      have i1 : (k : Int) < ((a.kids.length : Nat) : Int) := by omega
      have i0 : (0 : Int) ≤ (k : Int) := Int.natCast_nonneg _
      unfold Arr.val at HMM
      clear KC KC' hkid hkid' hkh hkh' Y1 Y2
      generalize kidAt a k = kk at *
      go_wp2_with fail
      refine region_in (C := fun w' => ∃ s : BW wr, w' = s.w) (by kernel_rfl) (by kernel_rfl) ⟨⟨wr.drew, (Below.refl _ _).drew⟩, rfl⟩ ?_
      repeat (go_big_quiet_step (first
        | (go_at_call 28; rename_i s; refine (HMM.out s.w s.ok).mono ?_; rintro e wx ⟨rfl, hbx⟩; exact ⟨rfl, ⟨wx, bel2 s.ok hbx⟩, rfl⟩)))
      refine wpQuiet_nil ?_
      intro _ hw'
      obtain ⟨s, hw''⟩ := hw'
      subst hw''
      have HE : Hid (Below w2.heap.size w2 s.w) := bel2 BL.out s.ok
      clear hne d6 e6 g6 k0 k1 k2 k3 k4 k5 k6 m0 m1 m2 m3 m4 m5 m6
      go_wp2
      go_roundw
      case rel => exact ⟨k + 1, by omega, by go_num, HE.out⟩
      case measure => simp [intOf]; omega
    · obtain rfl : k = a.kids.length := by omega
      clear Y1 Y2
      go_wp2
      go_ret
      exact ⟨rfl, bel2 B2.out BL.out⟩
theorem sameA (B bytes : Nat) : ∀ f, SameC B bytes f := by
  intro f
  induction f with
  | zero => intro a o cap o' cap' w hH _; cases hH
  | succ f ih => exact same_step B bytes f ih
end Go.Proofs.YtcpfhfdgfcilaaaGreatDoor.Arr
