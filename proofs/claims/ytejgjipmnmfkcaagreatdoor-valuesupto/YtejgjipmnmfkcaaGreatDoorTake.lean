/-
  What a taker takes: values, behind, take: contracts, by how deep a value stands.
-/
import Derived.Test.YtejgjipmnmfkcaaGreatDoorTk
import Derived.Test.YtejgjipmnmfkcaaGreatDoorTb
import Derived.Test.YtejgjipmnmfkcaaGreatDoorKind
namespace Go.Proofs.YtejgjipmnmfkcaaGreatDoor.Val
open Go.ChangeShapes Go.WideShapes Go.ChangeAt Go.RowKit

/-- What take answers of a value that stands within so many others. -/
def TakeC (i : Nat) : Prop := ∀ (b : Nat) (s : ByteArray) (p : Nat) (w : World), p ≤ s.size → s.size ≤ 65536 → Tk w b s p → Home w → 6 ≤ b →
  Calls Tryz.prog 44 #[.pointer (some ⟨b, 0, none⟩), .int .i64 (i : Int)] w fun r w' => ∃ k v c ok q, r = .returned (.tuple #[.agg #[.int .i64 k, .string v, .string c], .bool ok]) ∧ p ≤ q ∧ q ≤ s.size ∧ Tk w' b s q ∧ Mv b w w' ∧
    (ok = true ∧ below (5 - i) ((bl s).drop p) = some (q - p) ∧ v = s.extract p q ∧ k = kindOf (bl v) ∧ bl c = bodyOf (bl v) ∨ ok = false ∧ below (5 - i) ((bl s).drop p) = none)
def ValuesC (i : Nat) : Prop := ∀ (b : Nat) (s : ByteArray) (p c : Nat) (w : World), c < 256 → p ≤ s.size → s.size ≤ 65536 → Tk w b s p → Home w → 6 ≤ b →
  Calls Tryz.prog 78 #[.pointer (some ⟨b, 0, none⟩), .int .u8 (c : Int), .int .i64 (i : Int)] w fun r w' => ∃ t ok q, r = .returned (.tuple #[.string t, .bool ok]) ∧ p ≤ q ∧ q ≤ s.size ∧ Tk w' b s q ∧ Mv b w w' ∧
    (ok = true ∧ manyZ (below (4 - i)) (UInt8.ofNat c) s p = (q : Int) ∧ t = s.extract p (q - 1) ∨ ok = false ∧ manyZ (below (4 - i)) (UInt8.ofNat c) s p = -1)
/-- Where a taker stands. -/
def atOf (w : World) (b : Nat) : Nat := (intOf ((w.cell? ⟨b, 1, none⟩).getD (.bool false))).toNat
theorem Tk.atOf {w : World} {b : Nat} {s : ByteArray} {p : Nat} (h : Tk w b s p) : atOf w b = p := by
  unfold Val.atOf
  rw [h.at]
  rfl
theorem done_no (p n : Nat) (h : p < n) : ((p : Int) == (n : Int)) = false := by
  rw [beq_eq_false_iff_ne]
  omega
theorem byte_ne {s : ByteArray} {q c : Nat} (hq : q < s.size) (hc : c < 256) (h : s[q] ≠ UInt8.ofNat c) : (((s[q].toNat : Nat) : Int) != (c : Int)) = true := by
  rw [bne_iff_ne]
  intro e
  exact h ((byte_eq hc).1 e)
theorem byte_same {s : ByteArray} {q c : Nat} (hq : q < s.size) (hc : c < 256) (h : s[q] = UInt8.ofNat c) : (((s[q].toNat : Nat) : Int) != (c : Int)) = false := by
  rw [bne_eq_false_iff_eq]
  exact (byte_eq hc).2 h
set_option maxRecDepth 20000 in
set_option maxHeartbeats 1600000 in
theorem values_of (i : Nat) (hi : i ≤ 4) (ih : Hid (TakeC (i + 1))) : ValuesC i := by
  intro b s p c w hc hp hs ht hw h6
  have HT : Hid (Tk w b s p) := ht
  have HW : Hid (Home w) := hw
  have H6 : Hid (6 ≤ b) := h6
  have c0 := ht.text
  have c1 := ht.at
  clear ht hw h6
  go_enter Tryz.func78, Tryz.ntmps78
  go_wp2_with fail
  clear c0 c1
  go_loopw [] (fun wr => ∃ q, p ≤ q ∧ q ≤ s.size ∧ Tk wr b s q ∧ Mv b w wr ∧ manyZ (below (4 - i)) (UInt8.ofNat c) s q = manyZ (below (4 - i)) (UInt8.ofNat c) s p) (fun wr => s.size - atOf wr b)
  case atStart => exact ⟨p, Nat.le_refl _, hp, HT.out, Mv.refl _ _, rfl⟩
  case round =>
    obtain ⟨q, hpq, hqs, ht, hm, hz⟩ := hrel
    have HZ : Hid (manyZ (below (4 - i)) (UInt8.ofNat c) s q = manyZ (below (4 - i)) (UInt8.ofNat c) s p) := hz
    have c0 := ht.text
    have c1 := ht.at
    have i0 : (0 : Int) ≤ (q : Int) := Int.natCast_nonneg _
    clear hz
    by_cases hq : q < s.size
    · have i1 : (q : Int) < (s.size : Int) := by omega
      have hd := done_no q s.size hq
      by_cases hst : s[q] = UInt8.ofNat c
      · have hne := byte_same hq hc hst
        have HE : Hid (manyZ (below (4 - i)) (UInt8.ofNat c) s p = ((q + 1 : Nat) : Int)) := by
          unfold Hid
          rw [← HZ.out]
          exact manyZ_stop hq hst
        clear hst
        go_wp2_with fail
        go_quiet ((go_at_call 45; exact Calls.quiet_of (doneC b s q false hd _ (ht.later (drewN_below _ _)))))
        have hb1 := drewN_below wr nq
        have t1 := ht.later hb1
        have m1 := hm.trans (Mv.of hb1)
        generalize wr.drewN nq = w1 at *
        clear c0 c1 hb1 ht hm
        go_wp2_with fail
        refine (doneC b s q false hd w1 t1).mono ?_
        rintro e w2 ⟨rfl, m, hw2⟩
        have hb2 := drewN_below w1 m
        rw [← hw2] at hb2
        have t2 := t1.later hb2
        have m2 := m1.trans (Mv.of hb2)
        clear hw2 hb2 t1 m1
        have c1 := t2.at
        have c2 := t2.fz
        obtain ⟨w3, e3, t3, m3⟩ := t2.go (q + 1) ((q : Int) + 1) (by omega)
        go_wp2_with fail
        clear c1 c2 e3
        have c0 := t3.text
        have c1 := t3.at
        rw [show ((q + 1 : Nat) : Int) = (q : Int) + 1 from by omega] at c1
        have x1 : IntKind.i64.wrap ((q : Int) + 1 - 1) = (q : Int) := by rw [IntKind.wrap_i64]; omega
        have j0 : (0 : Int) ≤ (p : Int) := Int.natCast_nonneg _
        have j1 : (p : Int) ≤ (q : Int) := by omega
        have j2 : (q : Int) ≤ (s.size : Int) := by omega
        go_quiet (fail)
        have H3 : Hid (Tk (w3.drewN nq) b s (q + 1) ∧ Mv b w (w3.drewN nq)) := ⟨t3.later (drewN_below _ _), (m2.trans m3).trans (Mv.of (drewN_below _ _))⟩
        clear t2 m2 t3 m3
        go_wp2
        go_ret2
        exact ⟨_, true, q + 1, rfl, by omega, by omega, H3.out.1, H3.out.2, .inl ⟨rfl, HE.out, rfl⟩⟩
      · have hne := byte_ne hq hc hst
        have HS : Hid (s[q] ≠ UInt8.ofNat c) := hst
        clear hst
        go_wp2_with fail
        go_quiet ((go_at_call 45; exact Calls.quiet_of (doneC b s q false hd _ (ht.later (drewN_below _ _)))))
        have hb1 := drewN_below wr nq
        have t1 := ht.later hb1
        have m1 := hm.trans (Mv.of hb1)
        have HH := HW.out.move m1 H6.out
        generalize wr.drewN nq = w1 at *
        clear c0 c1 hb1 hm
        go_wp2_with fail
        have hcall := ih.out b s q w1 hqs hs t1 HH H6.out
        rw [show ((i + 1 : Nat) : Int) = (i : Int) + 1 from by omega, show 5 - (i + 1) = 4 - i from by omega] at hcall
        refine hcall.mono ?_
        rintro e w2 ⟨k, v, cc, ok, q2, rfl, h1, h2, t2, m2, hok⟩
        have m3 := m1.trans m2
        clear t1 m1 HH hcall m2
        rcases hok with ⟨rfl, hv, hrest⟩ | ⟨rfl, hv⟩
        · clear hrest
          have hlt : q < q2 := by
            have := ((fair_below (4 - i)).pos _ _ hv).1
            omega
          have HE : Hid (manyZ (below (4 - i)) (UInt8.ofNat c) s q2 = manyZ (below (4 - i)) (UInt8.ofNat c) s p) := by
            unfold Hid
            rw [← HZ.out]
            exact (manyZ_step (fair_below _) hq HS.out hlt h2 hv).symm
          obtain ⟨w4, e4, hb4⟩ : ∃ w4, w2.alloc (Obj.cells #[.int .i64 k, .string v, .string cc] 46) = w4 ∧ Below w2.heap.size w2 w4 := ⟨_, rfl, (Below.refl _ _).alloc (Nat.le_refl _) _⟩
          have H4 : Hid (Tk w4 b s q2 ∧ Mv b w w4) := ⟨t2.later hb4, m3.trans (Mv.of hb4)⟩
          have HA : Hid (atOf wr b = q) := ht.atOf
          clear hv t2 m3 hb4 ht
          go_wp2
          go_roundw
          case rel => exact ⟨q2, by omega, h2, H4.out.1, H4.out.2, HE.out⟩
          case measure =>
            rw [HA.out, H4.out.1.atOf]
            omega
        · have HE : Hid (manyZ (below (4 - i)) (UInt8.ofNat c) s p = -1) := by
            unfold Hid
            rw [← HZ.out]
            exact manyZ_bad hq HS.out hv
          obtain ⟨w4, e4, hb4⟩ : ∃ w4, w2.alloc (Obj.cells #[.int .i64 k, .string v, .string cc] 46) = w4 ∧ Below w2.heap.size w2 w4 := ⟨_, rfl, (Below.refl _ _).alloc (Nat.le_refl _) _⟩
          have H4 : Hid (Tk w4 b s q2 ∧ Mv b w w4) := ⟨t2.later hb4, m3.trans (Mv.of hb4)⟩
          clear hv t2 m3 hb4 ht
          go_wp2
          go_ret2
          exact ⟨_, false, q2, rfl, by omega, h2, H4.out.1, H4.out.2, .inr ⟨rfl, HE.out⟩⟩
    · obtain rfl : q = s.size := by omega
      have hd : (((s.size : Nat) : Int) == ((s.size : Nat) : Int)) = true := beq_self_eq_true _
      have HE : Hid (manyZ (below (4 - i)) (UInt8.ofNat c) s p = -1) := by
        unfold Hid
        rw [← HZ.out]
        exact manyZ_out (Nat.le_refl _)
      go_wp2_with fail
      go_quiet ((go_at_call 45; exact Calls.quiet_of (doneC b s s.size true hd _ (ht.later (drewN_below _ _)))))
      have hb1 := drewN_below wr nq
      have t1 := ht.later hb1
      have m1 := hm.trans (Mv.of hb1)
      generalize wr.drewN nq = w1 at *
      clear c0 c1 hb1 ht hm
      go_wp2_with fail
      refine (doneC b s s.size true hd w1 t1).mono ?_
      rintro e w2 ⟨rfl, m, hw2⟩
      have hb2 := drewN_below w1 m
      rw [← hw2] at hb2
      have H3 : Hid (Tk w2 b s s.size ∧ Mv b w w2) := ⟨t1.later hb2, m1.trans (Mv.of hb2)⟩
      clear hw2 hb2 t1 m1
      go_wp2
      go_ret2
      exact ⟨_, false, s.size, rfl, hp, Nat.le_refl _, H3.out.1, H3.out.2, .inr ⟨rfl, HE.out⟩⟩
end Go.Proofs.YtejgjipmnmfkcaaGreatDoor.Val
