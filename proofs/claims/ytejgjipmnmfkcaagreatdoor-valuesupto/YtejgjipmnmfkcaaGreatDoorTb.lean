/-
  A taker's bytes: contracts.
-/
import Derived.Test.YtejgjipmnmfkcaaGreatDoorTk
namespace Go.Proofs.YtejgjipmnmfkcaaGreatDoor.Val
open Go.ChangeShapes Go.WideShapes Go.ChangeAt Go.RowKit

set_option maxRecDepth 20000 in
set_option maxHeartbeats 800000 in
theorem bytesY (b : Nat) (s : ByteArray) (p j n : Nat) (hs : s.size ≤ 65536) (hk : Hid (numAt 58 ((bl s).drop p) = some (j, (n : Int)))) (q : Nat) (HQ : Hid (q = p + j + 1)) (hn : q + n ≤ s.size) (w : World) (h : Hid (Tk w b s p)) (hw : Hid (Home w)) (h6 : Hid (6 ≤ b)) :
    Calls Tryz.prog 77 #[.pointer (some ⟨b, 0, none⟩)] w fun r w' => r = .returned (.tuple #[.string (s.extract q (q + n)), .bool true]) ∧ Tk w' b s (q + n) ∧ Mv b w w' := by
  obtain ⟨k1, k2⟩ := numAt_some.1 hk.out
  have k3 : Hid (FirstAt s p 58 (p + j)) := first_seek k1
  have k4 : Hid (numOf (bl (s.extract p (p + j))) = some (n : Int)) := by
    unfold Hid
    rw [← take_drop_extract, Nat.add_sub_cancel_left]
    exact k2
  clear k1 k2 hk
  go_enter Tryz.func77, Tryz.ntmps77
  go_wp2_with fail
  refine (upToY b s p 58 j hs k3 w h.out).mono ?_
  rintro e w1 ⟨rfl, t1, m1⟩
  go_wp2_with fail
  refine (numberY _ (n : Int) (extract_size _ _ _ hs) k4 w1 (hw.out.move m1 h6.out)).mono ?_
  rintro e w2 ⟨rfl, b2⟩
  have t2 := t1.later b2
  have m2 := m1.trans (Mv.of b2)
  have c0 := t2.text
  have c1 := t2.at
  have c2 := t2.fz
  rw [← HQ.out] at t2 c1
  obtain ⟨w3, e3, t3, m3⟩ := t2.go (q + n) ((q : Int) + (n : Int)) (by omega)
  have x2 : IntKind.i64.wrap ((q : Int) + (n : Int)) = (q : Int) + (n : Int) := by rw [IntKind.wrap_i64]; omega
  have i1 : (0 : Int) ≤ (q : Int) := Int.natCast_nonneg _
  have i2 : (n : Int) ≤ (s.size : Int) - (q : Int) := by omega
  have H3 : Hid (Tk w3 b s (q + n) ∧ Mv b w w3) := ⟨t3, m2.trans m3⟩
  clear t1 m1 b2 t2 m2 m3
  go_wp2_with fail
  clear c0 c1 c2 e3
  have c0 := t3.text
  have c1 := t3.at
  rw [show ((q + n : Nat) : Int) = (q : Int) + (n : Int) from by omega] at c1
  have q1 : (q : Int) ≤ (q : Int) + (n : Int) := by omega
  have q2 : (q : Int) + (n : Int) ≤ (s.size : Int) := by omega
  have q0 : (0 : Int) ≤ (q : Int) + (n : Int) := by omega
  have q3 : ((q : Int) + (n : Int)).toNat = q + n := by omega
  clear t3
  go_quiet (fail)
  go_wp2
  go_ret2
  exact ⟨rfl, H3.out.1.later (drewN_below _ _), H3.out.2.trans (Mv.of (drewN_below _ _))⟩
/-- No count, or one that is too much. -/
def NoBytes (s : ByteArray) (p : Nat) : Prop := ∀ (j n : Nat), numAt 58 ((bl s).drop p) = some (j, (n : Int)) → s.size < p + j + 1 + n
set_option maxRecDepth 20000 in
set_option maxHeartbeats 800000 in
theorem bytesN (b : Nat) (s : ByteArray) (p : Nat) (hp : p ≤ s.size) (hs : s.size ≤ 65536) (hk : Hid (NoBytes s p)) (w : World) (h : Hid (Tk w b s p)) (hw : Hid (Home w)) (h6 : Hid (6 ≤ b)) :
    Calls Tryz.prog 77 #[.pointer (some ⟨b, 0, none⟩)] w fun r w' => ∃ t q, r = .returned (.tuple #[.string t, .bool false]) ∧ p ≤ q ∧ q ≤ s.size ∧ Tk w' b s q ∧ Mv b w w' := by
  cases c : seek 58 ((bl s).drop p) with
  | none =>
    have C : Hid (seek 58 ((bl s).drop p) = none) := c
    clear c hk
    go_enter Tryz.func77, Tryz.ntmps77
    go_wp2_with fail
    refine (upToN b s p 58 hp C w h.out).mono ?_
    rintro e w1 ⟨rfl, t1, m1⟩
    have H2 : Hid (Tk w1 b s p ∧ Mv b w w1) := ⟨t1, m1⟩
    clear t1 m1
    go_wp2
    go_ret2
    exact ⟨_, p, rfl, Nat.le_refl _, hp, H2.out⟩
  | some j =>
    have k3 : Hid (FirstAt s p 58 (p + j)) := first_seek c
    have k5 : p + j < s.size := k3.out.2.1
    cases d : numOf (bl (s.extract p (p + j))) with
    | none =>
      have k4 : Hid (numOf (bl (s.extract p (p + j))) = none) := d
      clear c d hk
      go_enter Tryz.func77, Tryz.ntmps77
      go_wp2_with fail
      refine (upToY b s p 58 j hs k3 w h.out).mono ?_
      rintro e w1 ⟨rfl, t1, m1⟩
      go_wp2_with fail
      refine (numberN _ (extract_size _ _ _ hs) k4 w1 (hw.out.move m1 h6.out)).mono ?_
      rintro e w2 ⟨y, rfl, b2⟩
      have t2 := t1.later b2
      have c0 := t2.text
      have c1 := t2.at
      have H2 : Hid (Tk w2 b s (p + j + 1) ∧ Mv b w w2) := ⟨t2, m1.trans (Mv.of b2)⟩
      clear t1 m1 b2 t2
      go_wp2
      go_ret2
      exact ⟨_, p + j + 1, rfl, by omega, by omega, H2.out⟩
    | some x =>
      have k4 : Hid (numOf (bl (s.extract p (p + j))) = some x) := d
      obtain ⟨q, hq⟩ : ∃ q, q = p + j + 1 := ⟨_, rfl⟩
      have HQ : Hid (q = p + j + 1) := hq
      have hx : x < 0 ∨ (s.size : Int) - (q : Int) < x := by
        by_cases c0 : x < 0
        · exact .inl c0
        · obtain ⟨n, rfl⟩ : ∃ n : Nat, x = (n : Int) := ⟨x.toNat, by omega⟩
          have := hk.out j n (numAt_some.2 ⟨c, by
            have e := take_drop_extract s p (p + j)
            rw [Nat.add_sub_cancel_left] at e
            rw [e]
            exact d⟩)
          right
          omega
      have hqs : q ≤ s.size := by omega
      have hpq : p ≤ q := by omega
      clear c d hk hq k5
      go_enter Tryz.func77, Tryz.ntmps77
      go_wp2_with fail
      refine (upToY b s p 58 j hs k3 w h.out).mono ?_
      rintro e w1 ⟨rfl, t1, m1⟩
      go_wp2_with fail
      refine (numberY _ x (extract_size _ _ _ hs) k4 w1 (hw.out.move m1 h6.out)).mono ?_
      rintro e w2 ⟨rfl, b2⟩
      have t2 := t1.later b2
      rw [← HQ.out] at t2
      have c0 := t2.text
      have c1 := t2.at
      have H2 : Hid (Tk w2 b s q ∧ Mv b w w2) := ⟨t2, m1.trans (Mv.of b2)⟩
      clear t1 m1 b2 t2
      by_cases hx0 : x < 0
      · clear hx
        go_wp2
        go_ret2
        exact ⟨_, q, rfl, hpq, hqs, H2.out⟩
      · have hx1 : (s.size : Int) - (q : Int) < x := by omega
        clear hx
        go_wp2
        go_ret2
        exact ⟨_, q, rfl, hpq, hqs, H2.out⟩
end Go.Proofs.YtejgjipmnmfkcaaGreatDoor.Val
