/-
  Several texts in one: What a taker takes: values, behind, take: contracts, by how deep a value stands. · What stands behind a value's first sign; take, at every depth: contracts. · The one value that a text is: only: contract. · The values in a list or in a struct: within: contract. · A value's kind and parts: taken.parts, Parts: contracts. · Which values fit a node, a step down: plain facts. · Digits read one by one, round the corner of 64 bits: plain facts. · Where a value ends, as the document's own answer looks for it: contracts. · Where a value ends, as the document's own answer looks for it, at each depth: contracts.
-/
import Derived.Test.YtcpfhfdgfcilaaaGreatDoorB12
import Derived.Test.YtcpfhfdgfcilaaaGreatDoorB15
import Derived.Deep.RegionWith
import Derived.Test.YtcpfhfdgfcilaaaGreatDoorB01
import Derived.Test.YtcpfhfdgfcilaaaGreatDoorB13
import Derived.Test.YtcpfhfdgfcilaaaGreatDoorB03
import Derived.WalkKit
import Derived.Test.YtcpfhfdgfcilaaaGreatDoorB02
import Derived.Deep.CutBlock
namespace Go.Proofs.YtcpfhfdgfcilaaaGreatDoor.Val
open Go.ChangeShapes Go.WideShapes Go.ChangeAt Go.RowKit

/-- What take answers of a value that stands within so many others. -/
def TakeC (i : Nat) : Prop := ∀ (b : Nat) (s : ByteArray) (p : Nat) (w : World), p ≤ s.size → s.size ≤ 65536 → Tk w b s p → HomeE w → 4 ≤ b →
  Calls Tryz.prog 187 #[.pointer (some ⟨b, 0, none⟩), .int .i64 (i : Int)] w fun r w' => ∃ k v c ok q, r = .returned (.tuple #[.agg #[.int .i64 k, .string v, .string c], .bool ok]) ∧ p ≤ q ∧ q ≤ s.size ∧ Tk w' b s q ∧ Mv b w w' ∧
    (ok = true ∧ below (5 - i) ((bl s).drop p) = some (q - p) ∧ v = s.extract p q ∧ k = kindOf (bl v) ∧ bl c = bodyOf (bl v) ∨ ok = false ∧ below (5 - i) ((bl s).drop p) = none)
def ValuesC (i : Nat) : Prop := ∀ (b : Nat) (s : ByteArray) (p c : Nat) (w : World), c < 256 → p ≤ s.size → s.size ≤ 65536 → Tk w b s p → HomeE w → 4 ≤ b →
  Calls Tryz.prog 239 #[.pointer (some ⟨b, 0, none⟩), .int .u8 (c : Int), .int .i64 (i : Int)] w fun r w' => ∃ t ok q, r = .returned (.tuple #[.string t, .bool ok]) ∧ p ≤ q ∧ q ≤ s.size ∧ Tk w' b s q ∧ Mv b w w' ∧
    (ok = true ∧ manyZ (below (4 - i)) (UInt8.ofNat c) s p = (q : Int) ∧ t = s.extract p (q - 1) ∨ ok = false ∧ manyZ (below (4 - i)) (UInt8.ofNat c) s p = -1)
/-- Where a taker stands. -/
def atOf (w : World) (b : Nat) : Nat := (intOf ((w.cell? ⟨b, 1, none⟩).getD (.bool false))).toNat
theorem Tk.atOf {w : World} {b : Nat} {s : ByteArray} {p : Nat} (h : Tk w b s p) : atOf w b = p := by
  unfold Val.atOf
  rw [h.at]
  rfl
theorem done_no (p n : Nat) (h : p < n) : ((p : Int) == (n : Int)) = false := by
  rw [beq_eq_false_iff_ne]
  omega
theorem byte_ne {s : ByteArray} {q c : Nat} (hq : q < s.size) (hc : c < 256) (h : s[q] ≠ UInt8.ofNat c) : (((s[q].toNat : Nat) : Int) != (c : Int)) = true := by
  rw [bne_iff_ne]
  intro e
  exact h ((byte_eq hc).1 e)
theorem byte_same {s : ByteArray} {q c : Nat} (hq : q < s.size) (hc : c < 256) (h : s[q] = UInt8.ofNat c) : (((s[q].toNat : Nat) : Int) != (c : Int)) = false := by
  rw [bne_eq_false_iff_eq]
  exact (byte_eq hc).2 h
set_option maxRecDepth 20000 in
set_option maxHeartbeats 1600000 in
theorem values_of (i : Nat) (hi : i ≤ 4) (ih : Hid (TakeC (i + 1))) : ValuesC i := by
  intro b s p c w hc hp hs ht hw h6
  have HT : Hid (Tk w b s p) := ht
  have HW : Hid (HomeE w) := hw
  have H6 : Hid (4 ≤ b) := h6
  have c0 := ht.text
  have c1 := ht.at
  clear ht hw h6
  go_enter Tryz.func239, Tryz.ntmps239
  go_wp2_with fail
  clear c0 c1
  go_loopw [] (fun wr => ∃ q, p ≤ q ∧ q ≤ s.size ∧ Tk wr b s q ∧ Mv b w wr ∧ manyZ (below (4 - i)) (UInt8.ofNat c) s q = manyZ (below (4 - i)) (UInt8.ofNat c) s p) (fun wr => s.size - atOf wr b)
  case atStart => exact ⟨p, Nat.le_refl _, hp, HT.out, Mv.refl _ _, rfl⟩
  case round =>
    obtain ⟨q, hpq, hqs, ht, hm, hz⟩ := hrel
    have HZ : Hid (manyZ (below (4 - i)) (UInt8.ofNat c) s q = manyZ (below (4 - i)) (UInt8.ofNat c) s p) := hz
    have c0 := ht.text
    have c1 := ht.at
    have i0 : (0 : Int) ≤ (q : Int) := Int.natCast_nonneg _
    clear hz
    by_cases hq : q < s.size
    · have i1 : (q : Int) < (s.size : Int) := by omega
      have hd := done_no q s.size hq
      by_cases hst : s[q] = UInt8.ofNat c
      · have hne := byte_same hq hc hst
        have HE : Hid (manyZ (below (4 - i)) (UInt8.ofNat c) s p = ((q + 1 : Nat) : Int)) := by
          unfold Hid
          rw [← HZ.out]
          exact manyZ_stop hq hst
        clear hst
        go_wp2_with fail
        go_quiet ((go_at_call 188; exact Calls.quiet_of (doneC b s q false hd _ (ht.later (drewN_below _ _)))))
        have hb1 := drewN_below wr nq
        have t1 := ht.later hb1
        have m1 := hm.trans (Mv.of hb1)
        generalize wr.drewN nq = w1 at *
        clear c0 c1 hb1 ht hm
        go_wp2_with fail
        refine (doneC b s q false hd w1 t1).mono ?_
        rintro e w2 ⟨rfl, m, hw2⟩
        have hb2 := drewN_below w1 m
        rw [← hw2] at hb2
        have t2 := t1.later hb2
        have m2 := m1.trans (Mv.of hb2)
        clear hw2 hb2 t1 m1
        have c1 := t2.at
        have c2 := t2.fz
        obtain ⟨w3, e3, t3, m3⟩ := t2.go (q + 1) ((q : Int) + 1) (by omega)
        go_wp2_with fail
        clear c1 c2 e3
        have c0 := t3.text
        have c1 := t3.at
        rw [show ((q + 1 : Nat) : Int) = (q : Int) + 1 from by omega] at c1
        have x1 : IntKind.i64.wrap ((q : Int) + 1 - 1) = (q : Int) := by rw [IntKind.wrap_i64]; omega
        have j0 : (0 : Int) ≤ (p : Int) := Int.natCast_nonneg _
        have j1 : (p : Int) ≤ (q : Int) := by omega
        have j2 : (q : Int) ≤ (s.size : Int) := by omega
        go_quiet (fail)
        have H3 : Hid (Tk (w3.drewN nq) b s (q + 1) ∧ Mv b w (w3.drewN nq)) := ⟨t3.later (drewN_below _ _), (m2.trans m3).trans (Mv.of (drewN_below _ _))⟩
        clear t2 m2 t3 m3
        go_wp2
        go_ret2
        exact ⟨_, true, q + 1, rfl, by omega, by omega, H3.out.1, H3.out.2, .inl ⟨rfl, HE.out, rfl⟩⟩
      · have hne := byte_ne hq hc hst
        have HS : Hid (s[q] ≠ UInt8.ofNat c) := hst
        clear hst
        go_wp2_with fail
        go_quiet ((go_at_call 188; exact Calls.quiet_of (doneC b s q false hd _ (ht.later (drewN_below _ _)))))
        have hb1 := drewN_below wr nq
        have t1 := ht.later hb1
        have m1 := hm.trans (Mv.of hb1)
        have HH := HW.out.move m1 H6.out
        generalize wr.drewN nq = w1 at *
        clear c0 c1 hb1 hm
        go_wp2_with fail
        have hcall := ih.out b s q w1 hqs hs t1 HH H6.out
        rw [show ((i + 1 : Nat) : Int) = (i : Int) + 1 from by omega, show 5 - (i + 1) = 4 - i from by omega] at hcall
        refine hcall.mono ?_
        rintro e w2 ⟨k, v, cc, ok, q2, rfl, h1, h2, t2, m2, hok⟩
        have m3 := m1.trans m2
        clear t1 m1 HH hcall m2
        rcases hok with ⟨rfl, hv, hrest⟩ | ⟨rfl, hv⟩
        · clear hrest
          have hlt : q < q2 := by
            have := ((fair_below (4 - i)).pos _ _ hv).1
            omega
          have HE : Hid (manyZ (below (4 - i)) (UInt8.ofNat c) s q2 = manyZ (below (4 - i)) (UInt8.ofNat c) s p) := by
            unfold Hid
            rw [← HZ.out]
            exact (manyZ_step (fair_below _) hq HS.out hlt h2 hv).symm
          obtain ⟨w4, e4, hb4⟩ : ∃ w4, w2.alloc (Obj.cells #[.int .i64 k, .string v, .string cc] 154) = w4 ∧ Below w2.heap.size w2 w4 := ⟨_, rfl, (Below.refl _ _).alloc (Nat.le_refl _) _⟩
          have H4 : Hid (Tk w4 b s q2 ∧ Mv b w w4) := ⟨t2.later hb4, m3.trans (Mv.of hb4)⟩
          have HA : Hid (atOf wr b = q) := ht.atOf
          clear hv t2 m3 hb4 ht
          go_wp2
          go_roundw
          case rel => exact ⟨q2, by omega, h2, H4.out.1, H4.out.2, HE.out⟩
          case measure =>
            rw [HA.out, H4.out.1.atOf]
            omega
        · have HE : Hid (manyZ (below (4 - i)) (UInt8.ofNat c) s p = -1) := by
            unfold Hid
            rw [← HZ.out]
            exact manyZ_bad hq HS.out hv
          obtain ⟨w4, e4, hb4⟩ : ∃ w4, w2.alloc (Obj.cells #[.int .i64 k, .string v, .string cc] 154) = w4 ∧ Below w2.heap.size w2 w4 := ⟨_, rfl, (Below.refl _ _).alloc (Nat.le_refl _) _⟩
          have H4 : Hid (Tk w4 b s q2 ∧ Mv b w w4) := ⟨t2.later hb4, m3.trans (Mv.of hb4)⟩
          clear hv t2 m3 hb4 ht
          go_wp2
          go_ret2
          exact ⟨_, false, q2, rfl, by omega, h2, H4.out.1, H4.out.2, .inr ⟨rfl, HE.out⟩⟩
    · obtain rfl : q = s.size := by omega
      have hd : (((s.size : Nat) : Int) == ((s.size : Nat) : Int)) = true := beq_self_eq_true _
      have HE : Hid (manyZ (below (4 - i)) (UInt8.ofNat c) s p = -1) := by
        unfold Hid
        rw [← HZ.out]
        exact manyZ_out (Nat.le_refl _)
      go_wp2_with fail
      go_quiet ((go_at_call 188; exact Calls.quiet_of (doneC b s s.size true hd _ (ht.later (drewN_below _ _)))))
      have hb1 := drewN_below wr nq
      have t1 := ht.later hb1
      have m1 := hm.trans (Mv.of hb1)
      generalize wr.drewN nq = w1 at *
      clear c0 c1 hb1 ht hm
      go_wp2_with fail
      refine (doneC b s s.size true hd w1 t1).mono ?_
      rintro e w2 ⟨rfl, m, hw2⟩
      have hb2 := drewN_below w1 m
      rw [← hw2] at hb2
      have H3 : Hid (Tk w2 b s s.size ∧ Mv b w w2) := ⟨t1.later hb2, m1.trans (Mv.of hb2)⟩
      clear hw2 hb2 t1 m1
      go_wp2
      go_ret2
      exact ⟨_, false, s.size, rfl, hp, Nat.le_refl _, H3.out.1, H3.out.2, .inr ⟨rfl, HE.out⟩⟩
end Go.Proofs.YtcpfhfdgfcilaaaGreatDoor.Val
namespace Go.Proofs.YtcpfhfdgfcilaaaGreatDoor.Val
open Go.ChangeShapes Go.WideShapes Go.ChangeAt Go.RowKit

def BehindC (i : Nat) : Prop := ∀ (b : Nat) (s : ByteArray) (p c : Nat) (w : World) (hp : p < s.size), c < 256 → s[p] = UInt8.ofNat c → s.size ≤ 65536 → Tk w b s (p + 1) → HomeE w → 4 ≤ b →
  Calls Tryz.prog 217 #[.pointer (some ⟨b, 0, none⟩), .int .u8 (c : Int), .int .i64 (i : Int)] w fun r w' => ∃ k t ok q, r = .returned (.tuple #[.int .i64 k, .string t, .bool ok]) ∧ p + 1 ≤ q ∧ q ≤ s.size ∧ Tk w' b s q ∧ Mv b w w' ∧
    (ok = true ∧ val (4 - i) ((bl s).drop p) = some (q - p) ∧ k = kindOf (bl (s.extract p q)) ∧ bl t = bodyOf (bl (s.extract p q)) ∨ ok = false ∧ val (4 - i) ((bl s).drop p) = none)
set_option maxRecDepth 20000 in
set_option maxHeartbeats 1600000 in
theorem behind_of (i : Nat) (hv : Hid (ValuesC i)) : BehindC i := by
  intro b s p c w hp hc hb hs ht hw h6
  have HT : Hid (Tk w b s (p + 1)) := ht
  have HW : Hid (HomeE w) := hw
  have H6 : Hid (4 ≤ b) := h6
  have HB : Hid (s[p] = UInt8.ofNat c) := hb
  clear hb hw h6
  by_cases h1 : c = 110
  · subst h1
    have hy := take_word hp (.inl HB.out) (4 - i)
    have ho := one_byte hp
    rw [HB.out] at ho
    have HY : Hid (val (4 - i) ((bl s).drop p) = some 1 ∧ bl (s.extract p (p + 1)) = [110]) := ⟨hy, ho⟩
    clear hy ho ht
    go_enter Tryz.func217, Tryz.ntmps217
    go_wp2
    go_ret3
    refine ⟨_, _, true, p + 1, rfl, Nat.le_refl _, hp, HT.out, Mv.refl _ _, .inl ⟨rfl, ?_, ?_, ?_⟩⟩
    · rw [HY.out.1]; congr 1; omega
    · rw [HY.out.2]; rfl
    · rw [HY.out.2]; rfl
  by_cases h2 : c = 116 ∨ c = 102
  · have hy := take_word hp (by rcases h2 with rfl | rfl; exact .inr (.inl HB.out); exact .inr (.inr HB.out)) (4 - i)
    have ho := one_byte hp
    rw [HB.out] at ho
    have HY : Hid (val (4 - i) ((bl s).drop p) = some 1 ∧ bl (s.extract p (p + 1)) = [UInt8.ofNat c]) := ⟨hy, ho⟩
    have c0 := ht.text
    have c1 := ht.at
    rw [show ((p + 1 : Nat) : Int) = (p : Int) + 1 from by omega] at c1
    have x1 : IntKind.i64.wrap ((p : Int) + 1 - 1) = (p : Int) := by rw [IntKind.wrap_i64]; omega
    have j0 : (0 : Int) ≤ (p : Int) := Int.natCast_nonneg _
    have j1 : (p : Int) ≤ (p : Int) + 1 := by omega
    have j2 : (p : Int) + 1 ≤ (s.size : Int) := by omega
    have j3 : ((p : Int) + 1).toNat = p + 1 := by omega
    clear hy ho ht h1
    rcases h2 with rfl | rfl
    all_goals
      go_enter Tryz.func217, Tryz.ntmps217
      go_wp2_with fail
      go_quiet (fail)
      go_wp2
      go_ret3
      refine ⟨_, _, true, p + 1, rfl, Nat.le_refl _, hp, HT.out.later (drewN_below _ _), Mv.of (drewN_below _ _), .inl ⟨rfl, ?_, ?_, ?_⟩⟩
      · rw [HY.out.1]; congr 1; omega
      · rw [HY.out.2]; rfl
      · rw [HY.out.2]; rfl
  by_cases h3 : c = 105
  · subst h3
    clear h1 h2 ht
    cases hk : numAt 59 ((bl s).drop (p + 1)) with
    | none =>
      have HK : Hid (numAt 59 ((bl s).drop (p + 1)) = none) := hk
      clear hk
      go_enter Tryz.func217, Tryz.ntmps217
      go_wp2_with fail
      refine (digitsN b s (p + 1) hp hs HK w HT HW H6).mono ?_
      rintro e w1 ⟨t, q, rfl, q1, q2, t1, m1⟩
      have H1 : Hid (Tk w1 b s q ∧ Mv b w w1) := ⟨t1, m1⟩
      clear t1 m1
      go_wp2
      go_ret3
      exact ⟨_, _, false, q, rfl, q1, q2, H1.out.1, H1.out.2, .inr ⟨rfl, int_no hp HB.out HK.out _⟩⟩
    | some y =>
      obtain ⟨j, x⟩ := y
      have HK : Hid (numAt 59 ((bl s).drop (p + 1)) = some (j, x)) := hk
      clear hk
      go_enter Tryz.func217, Tryz.ntmps217
      go_wp2_with fail
      refine (digitsY b s (p + 1) j x hs HK w HT HW H6).mono ?_
      rintro e w1 ⟨rfl, t1, m1⟩
      have H1 : Hid (Tk w1 b s (p + 1 + j + 1) ∧ Mv b w w1) := ⟨t1, m1⟩
      clear t1 m1
      go_wp2
      go_ret3
      obtain ⟨y1, y2, y3, y4⟩ := int_yes hp HB.out HK.out (4 - i)
      exact ⟨_, _, true, p + 1 + j + 1, rfl, by omega, by omega, H1.out.1, H1.out.2, .inl ⟨rfl, y1, y2.symm, y3.symm⟩⟩
  by_cases h4 : c = 115
  · subst h4
    clear h1 h2 h3 ht
    by_cases hk : ∃ j n : Nat, numAt 58 ((bl s).drop (p + 1)) = some (j, (n : Int)) ∧ p + 1 + j + 1 + n ≤ s.size
    · obtain ⟨j, n, k1, k2⟩ := hk
      have HK : Hid (numAt 58 ((bl s).drop (p + 1)) = some (j, (n : Int))) := k1
      clear k1
      go_enter Tryz.func217, Tryz.ntmps217
      go_wp2_with fail
      refine (bytesY b s (p + 1) j n hs HK (p + 1 + j + 1) rfl k2 w HT HW H6).mono ?_
      rintro e w1 ⟨rfl, t1, m1⟩
      have H1 : Hid (Tk w1 b s (p + 1 + j + 1 + n) ∧ Mv b w w1) := ⟨t1, m1⟩
      clear t1 m1
      go_wp2
      go_ret3
      obtain ⟨y1, y2, y3⟩ := cnt_yes hp HB.out HK.out k2 (4 - i)
      exact ⟨_, _, true, p + 1 + j + 1 + n, rfl, by omega, by omega, H1.out.1, H1.out.2, .inl ⟨rfl, y1, y2.symm, y3.symm⟩⟩
    · have HK : Hid (NoBytes s (p + 1)) := fun j n e => by
        by_cases c : p + 1 + j + 1 + n ≤ s.size
        · exact absurd ⟨j, n, e, c⟩ hk
        · omega
      clear hk
      go_enter Tryz.func217, Tryz.ntmps217
      go_wp2_with fail
      refine (bytesN b s (p + 1) hp hs HK w HT HW H6).mono ?_
      rintro e w1 ⟨t, q, rfl, q1, q2, t1, m1⟩
      have H1 : Hid (Tk w1 b s q ∧ Mv b w w1) := ⟨t1, m1⟩
      clear t1 m1
      go_wp2
      go_ret3
      exact ⟨_, _, false, q, rfl, q1, q2, H1.out.1, H1.out.2, .inr ⟨rfl, cnt_no hp HB.out HK.out _⟩⟩
  by_cases h5 : c = 91 ∨ c = 123
  · clear h1 h2 h3 h4 ht
    have HN : Hid (s[p] = 91 ∨ s[p] = 123) := by rcases h5 with rfl | rfl; exact .inl HB.out; exact .inr HB.out
    rcases h5 with rfl | rfl
    · have HS : Hid (s[p] + 2 = UInt8.ofNat 93) := by unfold Hid; rw [HB.out]; rfl
      go_enter Tryz.func217, Tryz.ntmps217
      go_wp2_with fail
      refine (hv.out b s (p + 1) 93 w (by omega) hp hs HT.out HW.out H6.out).mono ?_
      rintro e w1 ⟨t, ok, q, rfl, q1, q2, t1, m1, hz⟩
      have H1 : Hid (Tk w1 b s q ∧ Mv b w w1) := ⟨t1, m1⟩
      have HZ : Hid (ok = true ∧ manyZ (below (4 - i)) (UInt8.ofNat 93) s (p + 1) = (q : Int) ∧ t = s.extract (p + 1) (q - 1) ∨ ok = false ∧ manyZ (below (4 - i)) (UInt8.ofNat 93) s (p + 1) = -1) := hz
      clear t1 m1 hz
      go_wp2
      go_ret3
      refine ⟨_, _, ok, q, rfl, q1, q2, H1.out.1, H1.out.2, ?_⟩
      rcases HZ.out with ⟨rfl, hz, rfl⟩ | ⟨rfl, hz⟩
      · rw [← HS.out] at hz
        obtain ⟨y1, _, _, y2, y3⟩ := nest_yes hp HN.out hz
        rw [if_pos (show s[p] = 91 from HB.out)] at y2
        exact .inl ⟨rfl, y1, y2.symm, y3.symm⟩
      · rw [← HS.out] at hz
        exact .inr ⟨rfl, nest_no hp HN.out hz⟩
    · have HS : Hid (s[p] + 2 = UInt8.ofNat 125) := by unfold Hid; rw [HB.out]; rfl
      go_enter Tryz.func217, Tryz.ntmps217
      go_wp2_with fail
      refine (hv.out b s (p + 1) 125 w (by omega) hp hs HT.out HW.out H6.out).mono ?_
      rintro e w1 ⟨t, ok, q, rfl, q1, q2, t1, m1, hz⟩
      have H1 : Hid (Tk w1 b s q ∧ Mv b w w1) := ⟨t1, m1⟩
      have HZ : Hid (ok = true ∧ manyZ (below (4 - i)) (UInt8.ofNat 125) s (p + 1) = (q : Int) ∧ t = s.extract (p + 1) (q - 1) ∨ ok = false ∧ manyZ (below (4 - i)) (UInt8.ofNat 125) s (p + 1) = -1) := hz
      clear t1 m1 hz
      go_wp2
      go_ret3
      refine ⟨_, _, ok, q, rfl, q1, q2, H1.out.1, H1.out.2, ?_⟩
      rcases HZ.out with ⟨rfl, hz, rfl⟩ | ⟨rfl, hz⟩
      · rw [← HS.out] at hz
        obtain ⟨y1, _, _, y2, y3⟩ := nest_yes hp HN.out hz
        rw [if_neg (by rw [HB.out]; decide)] at y2
        exact .inl ⟨rfl, y1, y2.symm, y3.symm⟩
      · rw [← HS.out] at hz
        exact .inr ⟨rfl, nest_no hp HN.out hz⟩
  · have HO : Hid (val (4 - i) ((bl s).drop p) = none) := by
      refine other_no hp ?_ _
      rw [HB.out]
      have key : ∀ n, n < 256 → c ≠ n → UInt8.ofNat c ≠ UInt8.ofNat n := fun n hn h e => h (by
        have := congrArg UInt8.toNat e
        rw [byte_nat c hc, byte_nat n hn] at this
        exact this)
      exact ⟨key 110 (by omega) h1, key 116 (by omega) (fun e => h2 (.inl e)), key 102 (by omega) (fun e => h2 (.inr e)), key 105 (by omega) h3, key 115 (by omega) h4, key 91 (by omega) (fun e => h5 (.inl e)), key 123 (by omega) (fun e => h5 (.inr e))⟩
    have n1 : ((c : Int) == 110) = false := by rw [beq_eq_false_iff_ne]; omega
    have n2 : ((c : Int) == 116) = false := by rw [beq_eq_false_iff_ne]; omega
    have n3 : ((c : Int) == 102) = false := by rw [beq_eq_false_iff_ne]; omega
    have n4 : ((c : Int) == 105) = false := by rw [beq_eq_false_iff_ne]; omega
    have n5 : ((c : Int) == 115) = false := by rw [beq_eq_false_iff_ne]; omega
    have n6 : ((c : Int) == 91) = false := by rw [beq_eq_false_iff_ne]; omega
    have n7 : ((c : Int) == 123) = false := by rw [beq_eq_false_iff_ne]; omega
    clear h1 h2 h3 h4 h5 ht
    go_enter Tryz.func217, Tryz.ntmps217
    go_wp2
    go_ret3
    exact ⟨_, _, false, p + 1, rfl, Nat.le_refl _, hp, HT.out, Mv.refl _ _, .inr ⟨rfl, HO.out⟩⟩
/-- A value that was taken, in a block. -/
structure Bx (w : World) (g : Nat) (k : Int) (v c : ByteArray) : Prop where
  blk : w.heap[g]? = some (.cells #[.int .i64 k, .string v, .string c] 154 (0, 0))
theorem Bx.lt {w : World} {g : Nat} {k : Int} {v c : ByteArray} (h : Bx w g k v c) : g < w.heap.size := by
  by_cases d : g < w.heap.size
  · exact d
  · have := h.blk
    rw [Array.getElem?_eq_none (by omega)] at this
    cases this
theorem Bx.c0 {w : World} {g : Nat} {k : Int} {v c : ByteArray} (h : Bx w g k v c) : w.cell? ⟨g, 0, none⟩ = some (.int .i64 k) := by simp [World.cell?, h.blk]
theorem Bx.c1 {w : World} {g : Nat} {k : Int} {v c : ByteArray} (h : Bx w g k v c) : w.cell? ⟨g, 1, none⟩ = some (.string v) := by simp [World.cell?, h.blk]
theorem Bx.c2 {w : World} {g : Nat} {k : Int} {v c : ByteArray} (h : Bx w g k v c) : w.cell? ⟨g, 2, none⟩ = some (.string c) := by simp [World.cell?, h.blk]
theorem Bx.fz {w : World} {g : Nat} {k : Int} {v c : ByteArray} (h : Bx w g k v c) (o : Nat) : w.frozen? ⟨g, o, none⟩ = false := by simp [World.frozen?, h.blk]
theorem Bx.later {w w' : World} {g : Nat} {k : Int} {v c : ByteArray} (h : Bx w g k v c) (hb : Below w.heap.size w w') : Bx w' g k v c := ⟨(hb.block g h.lt).trans h.blk⟩
theorem Bx.move {b : Nat} {w w' : World} {g : Nat} {k : Int} {v c : ByteArray} (h : Bx w g k v c) (hm : Mv b w w') (hg : g ≠ b) : Bx w' g k v c := ⟨(hm.block g h.lt hg).trans h.blk⟩
theorem Bx.put {w : World} {g : Nat} {k : Int} {v c : ByteArray} (h : Bx w g k v c) (k' : Int) (v' c' : ByteArray) :
    ∃ w1, ((w.setCell ⟨g, 0, none⟩ (.int .i64 k')).setCell ⟨g, 1, none⟩ (.string v')).setCell ⟨g, 2, none⟩ (.string c') = w1 ∧ Bx w1 g k' v' c' ∧ Mv g w w1 := by
  refine ⟨_, rfl, ⟨?_⟩, ((Mv.set g w 0 _).trans (Mv.set g _ 1 _)).trans (Mv.set g _ 2 _)⟩
  simp only [World.setCell, Array.getElem?_modify, if_true, h.blk, Option.map_some]
  rfl
theorem Mv.own {b g : Nat} {u v w : World} (h : Mv b u v) (k : Mv g v w) (hg : u.heap.size ≤ g) : Mv b u w :=
  ⟨k.os.trans h.os, k.tape.trans h.tape, k.output.trans h.output, Nat.le_trans h.size k.size, fun i hi hb => (k.block i (Nat.lt_of_lt_of_le hi h.size) (by omega)).trans (h.block i hi hb)⟩
theorem Tk.move {w w' : World} {b g : Nat} {s : ByteArray} {p : Nat} (h : Tk w b s p) (hm : Mv g w w') (hg : b ≠ g) : Tk w' b s p := ⟨(hm.block b h.lt hg).trans h.blk⟩
theorem box3 (w : World) (k : Int) (v c : ByteArray) : ∃ w1, w.alloc (.cells #[.int .i64 k, .string v, .string c] 154) = w1 ∧ Bx w1 w.heap.size k v c ∧ Below w.heap.size w w1 ∧ w1.heap.size = w.heap.size + 1 :=
  ⟨_, rfl, ⟨heap_alloc_new _ _⟩, (Below.refl _ _).alloc (Nat.le_refl _) _, by simp⟩
set_option maxRecDepth 20000 in
set_option maxHeartbeats 1600000 in
theorem take_five : TakeC 5 := by
  intro b s p w hp hs ht hw h6
  have HT : Hid (Tk w b s p) := ht
  clear ht hw h6
  have b1 : Below w.heap.size w (w.alloc (.cells #[.int .i64 0, .string ⟨#[]⟩, .string ⟨#[]⟩] 154)) := (Below.refl _ _).alloc (Nat.le_refl _) _
  go_enter Tryz.func187, Tryz.ntmps187
  go_wp2_with fail
  exact bodyPost_ret (v := .tuple #[.agg #[.int .i64 0, .string ⟨#[]⟩, .string ⟨#[]⟩], .bool false]) (by simp [results, Tryz.results187, go_sem]) rfl ⟨_, _, _, _, p, rfl, Nat.le_refl _, hp, HT.out.later b1, Mv.of b1, .inr ⟨rfl, rfl⟩⟩
set_option maxRecDepth 20000 in
set_option maxHeartbeats 1600000 in
theorem take_of (i : Nat) (hi : i ≤ 4) (hv : Hid (BehindC i)) : TakeC i := by
  intro b s p w hp hs ht hw h6
  have HT : Hid (Tk w b s p) := ht
  have HW : Hid (HomeE w) := hw
  have H6 : Hid (4 ≤ b) := h6
  clear ht hw h6
  have hi2 : ¬ (4 : Int) < (i : Int) := by omega
  have HG : Hid (w.heap.size ≠ b) := by have := HT.out.lt; unfold Hid; omega
  obtain ⟨w1, e1, x1, b1, z1⟩ := box3 w 0 ⟨#[]⟩ ⟨#[]⟩
  have t1 := HT.out.later b1
  by_cases hq : p < s.size
  · have hd := done_no p s.size hq
    go_enter Tryz.func187, Tryz.ntmps187
    go_wp2_with fail
    refine (doneC b s p false hd w1 t1).mono ?_
    rintro e w2 ⟨rfl, m, hw2⟩
    have hb2 := drewN_below w1 m
    rw [← hw2] at hb2
    have t2 := t1.later hb2
    have x2 := x1.later hb2
    have hb02 := bel2 b1 hb2
    clear hw2 hb2 t1 x1 e1 z1
    have c0 := t2.text
    have c1 := t2.at
    go_wp2_with fail
    clear c0 c1
    have HC : Hid (s[p] = UInt8.ofNat s[p].toNat) := by unfold Hid; simp
    have hc : s[p].toNat < 256 := s[p].toBitVec.isLt
    refine (signC b s p s[p].toNat hq hs rfl w2 t2).mono ?_
    rintro e w3 ⟨rfl, t3, m3⟩
    have x3 := x2.move m3 HG.out
    have m03 := (Mv.of hb02).trans m3
    clear m3 t2 x2 hb02
    generalize s[p].toNat = c at *
    go_wp2_with fail
    refine (hv.out b s p c w3 hq hc HC.out hs t3 (HW.out.move m03 H6.out) H6.out).mono ?_
    rintro e w4 ⟨k, t, ok, q, rfl, q1, q2, t4, m4, hok⟩
    have x4 := x3.move m4 HG.out
    have m04 := m03.trans m4
    have HOK : Hid (ok = true ∧ val (4 - i) ((bl s).drop p) = some (q - p) ∧ k = kindOf (bl (s.extract p q)) ∧ bl t = bodyOf (bl (s.extract p q)) ∨ ok = false ∧ val (4 - i) ((bl s).drop p) = none) := hok
    clear m4 t3 x3 m03 hok
    have c0 := t4.text
    have c1 := t4.at
    have d0 := x4.c0
    have d1 := x4.c1
    have d2 := x4.c2
    have f0 := x4.fz 0
    have f1 := x4.fz 1
    have f2 := x4.fz 2
    have j0 : (0 : Int) ≤ (p : Int) := Int.natCast_nonneg _
    have j1 : (p : Int) ≤ (q : Int) := by omega
    have j2 : (q : Int) ≤ (s.size : Int) := by omega
    have j3 : (0 : Int) ≤ (q : Int) := by omega
    obtain ⟨w5, e5, x5, m5⟩ := x4.put k (s.extract p q) t
    have t5 := t4.move m5 (fun e => HG.out e.symm)
    have m05 := m04.own m5 (Nat.le_refl _)
    clear x4 m5 t4 m04
    go_wp2_with fail
    go_region
    clear c0 c1 d0 d1 d2 f0 f1 f2 e5
    have d0 := x5.c0
    have d1 := x5.c1
    have d2 := x5.c2
    have hdr := drewN_below w5 1
    go_wp2
    refine bodyPost_ret (v := .tuple #[.agg #[.int .i64 k, .string (s.extract p q), .string t], .bool ok]) (by simp [results, Tryz.results187, go_sem, d0, d1, d2]) rfl ⟨_, _, _, ok, q, rfl, by omega, q2, t5.later hdr, m05.trans (Mv.of hdr), ?_⟩
    have hbe : below (5 - i) = val (4 - i) := by
      rw [show 5 - i = (4 - i) + 1 from by omega]
      rfl
    rw [hbe]
    rcases HOK.out with ⟨o1, o2, o3, o4⟩ | ⟨o1, o2⟩
    · exact .inl ⟨o1, o2, rfl, o3, o4⟩
    · exact .inr ⟨o1, o2⟩
  · obtain rfl : p = s.size := by omega
    have hd : (((s.size : Nat) : Int) == ((s.size : Nat) : Int)) = true := beq_self_eq_true _
    go_enter Tryz.func187, Tryz.ntmps187
    go_wp2_with fail
    refine (doneC b s s.size true hd w1 t1).mono ?_
    rintro e w2 ⟨rfl, m, hw2⟩
    have hb2 := drewN_below w1 m
    rw [← hw2] at hb2
    have t2 := t1.later hb2
    have x2 := x1.later hb2
    have hb02 := bel2 b1 hb2
    clear hw2 hb2 t1 x1 e1 z1
    have d0 := x2.c0
    have d1 := x2.c1
    have d2 := x2.c2
    have f0 := x2.fz 0
    have f1 := x2.fz 1
    have f2 := x2.fz 2
    obtain ⟨w5, e5, x5, m5⟩ := x2.put 0 ⟨#[]⟩ ⟨#[]⟩
    have t5 := t2.move m5 (fun e => HG.out e.symm)
    have m05 := (Mv.of (b := b) hb02).own m5 (Nat.le_refl _)
    clear x2 m5 t2 hb02
    go_wp2
    clear d0 d1 d2 f0 f1 f2 e5
    have d0 := x5.c0
    have d1 := x5.c1
    have d2 := x5.c2
    refine bodyPost_ret (v := .tuple #[.agg #[.int .i64 0, .string ⟨#[]⟩, .string ⟨#[]⟩], .bool false]) (by simp [results, Tryz.results187, go_sem, d0, d1, d2]) rfl ⟨_, _, _, false, s.size, rfl, Nat.le_refl _, Nat.le_refl _, t5, m05, .inr ⟨rfl, ?_⟩⟩
    rw [bl_drop_out s s.size (Nat.le_refl _), show 5 - i = (4 - i) + 1 from by omega]
    show val (4 - i) [] = none
    rw [val_below]
    rfl
theorem take_all : ∀ i, i ≤ 5 → TakeC i := by
  intro i hi
  obtain ⟨d, rfl⟩ : ∃ d, i = 5 - d := ⟨5 - i, by omega⟩
  have key : ∀ d, d ≤ 5 → TakeC (5 - d) := by
    intro d
    induction d with
    | zero => intro _; exact take_five
    | succ d ih =>
      intro h
      have h1 := ih (by omega)
      rw [show 5 - d = 5 - (d + 1) + 1 from by omega] at h1
      exact take_of _ (by omega) (behind_of _ (values_of _ (by omega) h1))
  by_cases h : d ≤ 5
  · exact key d h
  · rw [show 5 - d = 5 - 5 from by omega]
    exact key 5 (Nat.le_refl _)
end Go.Proofs.YtcpfhfdgfcilaaaGreatDoor.Val
namespace Go.Proofs.YtcpfhfdgfcilaaaGreatDoor.Val
open Go.ChangeShapes Go.WideShapes Go.ChangeAt Go.RowKit

theorem HomeE.six {w : World} (h : HomeE w) : 4 ≤ w.heap.size := by
  have hv : w.var? Tryz.prog "internal/strconv.uint64pow10" = some _ := h.tab
  unfold World.var? at hv
  rw [gTab, Option.bind_some] at hv
  by_cases c : 3 < w.heap.size
  · omega
  · rw [Array.getElem?_eq_none (by omega)] at hv
    cases hv
/-- A taker that is made. -/
theorem made (w : World) (s : ByteArray) : ∃ w1, w.alloc (.cells #[.string s, .int .i64 0] 187) = w1 ∧ Tk w1 w.heap.size s 0 ∧ Below w.heap.size w w1 ∧ w1.heap.size = w.heap.size + 1 :=
  ⟨_, rfl, ⟨heap_alloc_new _ _⟩, (Below.refl _ _).alloc (Nat.le_refl _) _, by simp⟩
/-- What is told of a text: one value, all of it; or none. -/
def OnlyA (s : ByteArray) (k : Int) (v c : ByteArray) (ok : Bool) : Prop := ok = true ∧ isVal (bl s) ∧ v = s ∧ k = kindOf (bl s) ∧ bl c = bodyOf (bl s) ∨ ok = false ∧ ¬ isVal (bl s)
theorem only_of {s : ByteArray} (hs : s.size ≤ 65536) {k : Int} {v c : ByteArray} {ok : Bool} {q : Nat} (hq : q ≤ s.size)
    (h : ok = true ∧ below (5 - 0) ((bl s).drop 0) = some (q - 0) ∧ v = s.extract 0 q ∧ k = kindOf (bl v) ∧ bl c = bodyOf (bl v) ∨ ok = false ∧ below (5 - 0) ((bl s).drop 0) = none) : OnlyA s k v c (ok && ((q : Int) == (s.size : Int))) := by
  rw [List.drop_zero] at h
  have hb : below (5 - 0) = val 4 := rfl
  rw [hb] at h
  rcases h with ⟨rfl, h1, h2, h3, h4⟩ | ⟨rfl, h1⟩
  · by_cases c : q = s.size
    · subst c
      have e : s.extract 0 s.size = s := by
        apply bl_inj
        rw [bl_extract, ← bl_length, List.take_length]
        rfl
      rw [e] at h2
      subst h2
      exact .inl ⟨by rw [Bool.true_and]; exact beq_self_eq_true _, ⟨by rw [bl_length]; exact hs, by rw [h1, bl_length]; rfl⟩, rfl, h3, h4⟩
    · refine .inr ⟨by rw [Bool.true_and, done_no q s.size (by omega)], fun hv => ?_⟩
      have := hv.2
      rw [h1, bl_length] at this
      injection this with this
      omega
  · refine .inr ⟨rfl, fun hv => ?_⟩
    rw [hv.2] at h1
    cases h1
set_option maxRecDepth 20000 in
set_option maxHeartbeats 1600000 in
theorem onlyC (s : ByteArray) (hs : s.size ≤ 9223372036854775807) (w : World) (hw : Hid (HomeE w)) :
    Calls Tryz.prog 153 #[.string s] w fun r w' => ∃ k v c ok, r = .returned (.tuple #[.agg #[.int .i64 k, .string v, .string c], .bool ok]) ∧ Below w.heap.size w w' ∧ OnlyA s k v c ok := by
  by_cases hs2 : s.size ≤ 65536
  · have hs3 : ¬ (65536 : Int) < (s.size : Int) := by omega
    obtain ⟨w1, e1, x1, b1, z1⟩ := box3 w 0 ⟨#[]⟩ ⟨#[]⟩
    obtain ⟨w2, e2, t2, b2, z2⟩ := made w1 s
    have Z1 : Hid (w1.heap.size = w.heap.size + 1) := z1
    have HX1 : Hid (Bx w1 w.heap.size 0 ⟨#[]⟩ ⟨#[]⟩) := x1
    have hh := hw.out.later (bel2 b1 b2)
    have h6 : 4 ≤ w1.heap.size := by have := hw.out.six; omega
    have E2 : Hid (w1.alloc (.cells #[.string s, .int .i64 0] 187) = w2) := e2
    clear z1 z2 x1 e2
    go_enter Tryz.func153, Tryz.ntmps153
    go_wp2_with fail
    rw [E2.out]
    have hcall := take_all 0 (by omega) w1.heap.size s 0 w2 (Nat.zero_le _) hs2 t2 hh h6
    refine hcall.mono ?_
    rintro e w3 ⟨k, v, c, ok, q, rfl, q1, q2, t3, m3, hok⟩
    have HA : Hid (OnlyA s k v c (ok && ((q : Int) == (s.size : Int)))) := only_of hs2 q2 hok
    have x3 := (HX1.out.later b2).move m3 (by have := Z1.out; omega)
    have hb3 : Below w.heap.size w w3 := (bel2 b1 b2).trans (m3.below (by have := Z1.out; omega) (by have := b2.size; have := Z1.out; omega))
    clear hcall hok e1 t2 m3 hh
    obtain ⟨w4, e4, x4, b4, z4⟩ := box3 w3 k v c
    have t4 := t3.later b4
    have x4r := x3.later b4
    have hb4 := bel2 hb3 b4
    have d0 := x4.c0
    have d1 := x4.c1
    have d2 := x4.c2
    have f0 := x4r.fz 0
    have f1 := x4r.fz 1
    have f2 := x4r.fz 2
    have g0 := x4r.c0
    have g1 := x4r.c1
    have g2 := x4r.c2
    obtain ⟨w5, e5, x5, m5⟩ := x4r.put k v c
    have t5 := t4.move m5 (by have := Z1.out; omega)
    have hb5 : Below w.heap.size w w5 := hb4.trans (m5.below (Nat.le_refl _) (by have := hb4.size; omega))
    have HT4 : Hid (Tk w4 w1.heap.size s q) := t4
    have HT5 : Hid (Tk w5 w1.heap.size s q) := t5
    have HX5 : Hid (Bx w5 w.heap.size k v c) := x5
    have HB5 : Hid (Below w.heap.size w w5) := hb5
    clear x4 x4r m5 t4 t3 x3 hb4 z4 t5 x5 hb5
    cases ok
    · go_wp2_with fail
      go_region
      clear d0 d1 d2 f0 f1 f2 g0 g1 g2 e5
      have d0 := HX5.out.c0
      have d1 := HX5.out.c1
      have d2 := HX5.out.c2
      go_wp2
      exact bodyPost_ret (v := .tuple #[.agg #[.int .i64 k, .string v, .string c], .bool false]) (by simp [results, Tryz.results153, go_sem, d0, d1, d2]) rfl ⟨k, v, c, false, rfl, bel2 HB5.out (drewN_below w5 1), HA.out⟩
    · obtain ⟨d, hd⟩ : ∃ d, ((q : Int) == (s.size : Int)) = d := ⟨_, rfl⟩
      rw [hd, Bool.true_and] at HA
      have HD : Hid (((q : Int) == (s.size : Int)) = d) := hd
      clear hd
      have hds : ∀ (y : World) (n : Nat) (a : Addr) (x : Value), (y.drewN n).setCell a x = (y.setCell a x).drewN n := fun _ _ _ _ => rfl
      go_wp2_with fail
      go_region_with (go_at_call 188; refine (doneC _ s q d HD.out _ (by first | exact HT4.out.later (drewN_below _ 1) | exact HT5.out.later (drewN_below _ 1))).mono ?_; rintro e w6 ⟨rfl, m6, rfl⟩)
      all_goals
        clear d0 d1 d2 f0 f1 f2 g0 g1 g2 e5
        have d0 := HX5.out.c0
        have d1 := HX5.out.c1
        have d2 := HX5.out.c2
        go_wp2
        exact bodyPost_ret (v := .tuple #[.agg #[.int .i64 k, .string v, .string c], .bool d]) (by simp [results, Tryz.results153, go_sem, d0, d1, d2]) rfl ⟨k, v, c, d, rfl, bel2 HB5.out (drewN_below w5 _), HA.out⟩
  · have hs3 : (65536 : Int) < (s.size : Int) := by omega
    have HA : Hid (OnlyA s 0 ⟨#[]⟩ ⟨#[]⟩ false) := .inr ⟨rfl, fun h => hs2 (by have := h.1; rw [bl_length] at this; exact this)⟩
    have b1 : Below w.heap.size w (w.alloc (.cells #[.int .i64 0, .string ⟨#[]⟩, .string ⟨#[]⟩] 154)) := (Below.refl _ _).alloc (Nat.le_refl _) _
    go_enter Tryz.func153, Tryz.ntmps153
    go_wp2_with fail
    exact bodyPost_ret (v := .tuple #[.agg #[.int .i64 0, .string ⟨#[]⟩, .string ⟨#[]⟩], .bool false]) (by simp [results, Tryz.results153, go_sem]) rfl ⟨0, _, _, false, rfl, b1, HA.out⟩
end Go.Proofs.YtcpfhfdgfcilaaaGreatDoor.Val
namespace Go.Proofs.YtcpfhfdgfcilaaaGreatDoor.Val
open Go.ChangeShapes Go.WideShapes Go.ChangeAt Go.RowKit
open Tree (own_slice own_mono)

theorem info49 : (Tryz.prog.info? 154).map (fun i => (i.zero, i.size, i.bytes)) = some (some (.agg #[.int .i64 0, .string ⟨#[]⟩, .string ⟨#[]⟩]), 3, 40) := by kernel_rfl
/-- A row of one's own stands while another block is written. -/
theorem own_move {w w' : World} {b B n : Nat} {e : TypeId} {k : Nat} {v : Value} {xs : List Value} (h : w.ownsRow B e k v n xs) (hm : Mv b w w') (hb : b < B) : w'.ownsRow B e k v n xs := by
  have hlt := h.lt
  refine ⟨h.1, ?_⟩
  rcases h.2 with h | ⟨g, cap, cur, h0, h1, h2, h3⟩
  · exact .inl h
  · subst h0
    exact .inr ⟨g, cap, cur, rfl, h1, (hm.block g (hlt g rfl).2 (by omega)).trans h2, h3⟩
theorem Mv.grown {b : Nat} {u v w : World} {row : Option Nat} (h : Mv b u v) (hg : v.grownBy w row) (hr : ∀ k, row = some k → u.heap.size ≤ k) : Mv b u w :=
  ⟨hg.os.trans h.os, hg.tape.trans h.tape, hg.output.trans h.output, Nat.le_trans h.size hg.size, fun k hk hb => (hg.block k (Nat.lt_of_lt_of_le hk h.size) (fun e => by have := hr k e.symm; omega)).trans (h.block k hk hb)⟩
theorem Tk.grown {w w' : World} {b : Nat} {s : ByteArray} {p : Nat} {row : Option Nat} (h : Tk w b s p) (hg : w.grownBy w' row) (hr : ∀ k, row = some k → b < k) : Tk w' b s p :=
  ⟨(hg.block b h.lt (fun e => by have := hr b e.symm; omega)).trans h.blk⟩
set_option maxRecDepth 20000 in
set_option maxHeartbeats 1600000 in
theorem withinC (k : Int) (v c : ByteArray) (vs : List ByteArray) (hc : c.size ≤ 65536) (hr : Hid (Row4 c vs)) (w : World) (hw : Hid (HomeE w)) :
    Calls Tryz.prog 189 #[.agg #[.int .i64 k, .string v, .string c]] w fun r w' => ∃ o cap, r = .returned (.slice o vs.length cap) ∧ w'.ownsRow w.heap.size 154 3 (.slice o vs.length cap) vs.length (cellsK vs) ∧ Below w.heap.size w w' := by
  obtain ⟨i49, hi, hz0, hz1, hz2⟩ := info_parts info49
  have hlen : vs.length ≤ 65536 := Nat.le_trans hr.out.len hc
  obtain ⟨w1, e1, x1, b1, z1⟩ := box3 w k v c
  obtain ⟨w2, e2, t2, b2, z2⟩ := made w1 c
  have hh := hw.out.later (bel2 b1 b2)
  have H6 : Hid (4 ≤ w1.heap.size) := by have := hw.out.six; unfold Hid; omega
  have Z1 : Hid (w1.heap.size = w.heap.size + 1) := z1
  have Z2 : Hid (w2.heap.size = w1.heap.size + 1) := z2
  have E2 : Hid (w1.alloc (.cells #[.string c, .int .i64 0] 187) = w2) := e2
  have c2 := x1.c2
  have HB : Hid (Below w.heap.size w w2) := bel2 b1 b2
  have HT2 : Hid (Tk w2 w1.heap.size c 0) := t2
  have HH : Hid (HomeE w2) := hh
  clear z1 z2 e2 x1 t2 hh b1 b2
  go_enter Tryz.func189, Tryz.ntmps189
  go_wp2_with fail
  clear c2 e1
  rw [E2.out]
  generalize w1.heap.size = b at *
  go_loopw [3] (fun u wr => ∃ (i : Nat) (o : Option Addr) (cap : Nat), i ≤ vs.length ∧ u = .slice o i cap ∧ wr.ownsRow w2.heap.size 154 3 (.slice o i cap) i (cellsK (vs.take i)) ∧ Tk wr b c (pos vs i) ∧ Mv b w2 wr) (fun _ wr => c.size - atOf wr b)
  case atStart => exact ⟨0, none, 0, Nat.zero_le _, rfl, World.ownsRow_nil _ _ _ _, HT2.out, Mv.refl _ _⟩
  case round =>
    obtain ⟨i, o, cap, hil, rfl, hown, ht, hm⟩ := hrel
    have HM : Hid (Mv b w2 wr) := hm
    have HO : Hid (wr.ownsRow w2.heap.size 154 3 (.slice o i cap) i (cellsK (vs.take i))) := hown
    have HT : Hid (Tk wr b c (pos vs i)) := ht
    clear hm hown ht
    go_wp2_with fail
    have hcall := take_all 0 (by omega) b c (pos vs i) wr (hr.out.pos_le i) hc HT.out (HH.out.move HM.out H6.out) H6.out
    refine hcall.mono ?_
    rintro e w3 ⟨k1, v1, c1, ok, q, rfl, q1, q2, t3, m3, hok⟩
    have hown3 := own_move HO.out m3 (by have := Z2.out; omega)
    have m03 := HM.out.trans m3
    clear hcall m3
    by_cases hlt : i < vs.length
    · obtain ⟨y1, y2⟩ := hr.out.at i hlt
      have y3 := pos_succ vs i hlt
      have y4 := size_pos (hr.out.each _ (getD_memT vs i hlt))
      obtain ⟨rfl, h1, h2, h3, h4⟩ : ok = true ∧ q = pos vs (i + 1) ∧ v1 = vs.getD i ByteArray.empty ∧ k1 = kindOf (bl v1) ∧ c1 = bodyS v1 := by
        rcases hok with ⟨o1, o2, o3, o4, o5⟩ | ⟨o1, o2⟩
        · rw [show below (5 - 0) = val 4 from rfl, y1] at o2
          injection o2 with o2
          have o6 : q = pos vs (i + 1) := by omega
          refine ⟨o1, o6, ?_, o4, bodyS_eq o5⟩
          rw [o3, o6, y3, y2]
        · rw [show below (5 - 0) = val 4 from rfl, y1] at o2
          cases o2
      have HV : Hid (vs.take (i + 1) = vs.take i ++ [v1]) := by unfold Hid; rw [h2]; exact take_text vs i hlt
      have HK : Hid (k1 = kindOf (bl v1) ∧ c1 = bodyS v1) := ⟨h3, h4⟩
      have HQ : Hid (q = pos vs (i + 1)) := h1
      have HP : Hid (pos vs i < q) := by unfold Hid; omega
      have HA : Hid (atOf wr b = pos vs i) := HT.out.atOf
      obtain ⟨w4, e4, x4, b4, z4⟩ := box3 w3 k1 v1 c1
      have t4 := t3.later b4
      have m04 := m03.trans (Mv.of b4)
      have hown4 := own_move hown3 (Mv.of (b := b) b4) (by have := Z2.out; omega)
      have d0 := x4.c0
      have d1 := x4.c1
      have d2 := x4.c2
      clear hok y1 y2 y3 y4 h1 h2 h3 h4 z4 t3 m03 hown3 x4 b4 HM HO HT
      go_wp2_with (at_builtin; refine wpList_append_own _ rfl (.tmp 17) (.tmp 19) 193 rfl w2.heap.size 154 i49 (.agg #[.int .i64 0, .string ⟨#[]⟩, .string ⟨#[]⟩]) 3 40 Tryz.underlying193 hi hz0 hz1 hz2 rfl (by decide) _ i _ rfl (hown4.alloc _) ⟨w4.heap.size, 0, none⟩ 1 1 [.int .i64 k1, .string v1, .string c1] rfl rfl ?c1 ?c2 ?c3 ?c4 ?c5 ?_)
      case c1 =>
        intro j u hj
        match j, hj with
        | 0, hj => simp at hj; subst hj; simp [Addr.add]
        | 1, hj => simp at hj; subst hj; simp [Addr.add]
        | 2, hj => simp at hj; subst hj; simp [Addr.add]
      case c2 => intro u hu; simp at hu; rcases hu with rfl | rfl | rfl <;> rfl
      case c3 => unfold maxLen; omega
      case c4 => omega
      case c5 => have := m04.size; simp; omega
      intro u5 w5 hown5 hgrow _
      have b4a : Below w4.heap.size w4 (w4.alloc (.cells #[.int .i64 k1, .string v1, .string c1] 154)) := (Below.refl _ _).alloc (Nat.le_refl _) _
      have m05 := (m04.trans (Mv.of b4a)).grown hgrow (fun j hj => (hown4.lt j hj).1)
      have t5 := (t4.later b4a).grown hgrow (fun j hj => by have := (hown4.lt j hj).1; have := Z2.out; omega)
      have hown5' : w5.ownsRow w2.heap.size 154 3 u5 (i + 1) (cellsK (vs.take (i + 1))) := by
        rw [HV.out, cellsK_snoc]
        rw [HK.out.1, HK.out.2] at hown5
        exact hown5
      obtain ⟨o5, cap5, rfl⟩ := own_slice hown5'
      have H5 : Hid (w5.ownsRow w2.heap.size 154 3 (.slice o5 (i + 1) cap5) (i + 1) (cellsK (vs.take (i + 1))) ∧ Tk w5 b c q ∧ Mv b w2 w5) := ⟨hown5', t5, m05⟩
      clear hown5 hown5' hgrow t5 m05 b4a t4 m04 hown4 d0 d1 d2 e4
      go_wp2
      go_roundw
      case rel => exact ⟨i + 1, o5, cap5, by omega, rfl, H5.out.1, by rw [← HQ.out]; exact H5.out.2.1, H5.out.2.2⟩
      case measure =>
        rw [HA.out, H5.out.2.1.atOf]
        have := HP.out
        omega
    · obtain rfl : i = vs.length := by omega
      obtain rfl : ok = false := by
        rcases hok with ⟨_, o2, _⟩ | ⟨o1, _⟩
        · exfalso
          rw [show below (5 - 0) = val 4 from rfl, bl_drop_out c _ (by rw [hr.out.last]; exact Nat.le_refl _), val_below] at o2
          cases o2
        · exact o1
      obtain ⟨w4, e4, x4, b4, z4⟩ := box3 w3 k1 v1 c1
      have H4 : Hid (w4.ownsRow w2.heap.size 154 3 (.slice o vs.length cap) vs.length (cellsK vs) ∧ Mv b w2 w4) := by
        refine ⟨?_, m03.trans (Mv.of b4)⟩
        rw [List.take_length] at hown3
        exact own_move hown3 (Mv.of (b := b) b4) (by have := Z2.out; omega)
      clear hok t3 m03 hown3 x4 b4 z4 HM HO HT
      go_wp2
      go_ret
      refine ⟨o, cap, rfl, own_mono H4.out.1 (by have := HB.out.size; omega), HB.out.trans (H4.out.2.below ?_ HB.out.size)⟩
      have := Z1.out
      omega
end Go.Proofs.YtcpfhfdgfcilaaaGreatDoor.Val
namespace Go.Proofs.YtcpfhfdgfcilaaaGreatDoor.Val
open Go.ChangeShapes Go.WideShapes Go.ChangeAt Go.RowKit
open Tree (own_slice own_mono)
open Texts (cellsT cellsT_snoc)

theorem info9 : (Tryz.prog.info? 9).map (fun i => (i.zero, i.size, i.bytes)) = some (some (.string ⟨#[]⟩), 1, 16) := by kernel_rfl
theorem cloneC (s : ByteArray) (hs : s.size ≤ 65536) (w : World) :
    Calls Tryz.prog 221 #[.string s] w fun r w' => r = .returned (.string s) ∧ Below w.heap.size w w' := by
  go_enter Tryz.func221, Tryz.ntmps221
  go_wp2_with fail
  refine (Tryz.stringslite_Clone s w (by omega)).mono ?_
  rintro e w1 ⟨rfl, b1⟩
  go_wp2
  go_ret
  exact ⟨rfl, b1⟩
/-- A row of one text. -/
theorem own_one (w : World) (s : ByteArray) : (w.alloc (.cells #[.string s] 9)).ownsRow w.heap.size 9 1 (.slice (some ⟨w.heap.size, 0, none⟩) 1 1) 1 (cellsT [s]) :=
  ⟨rfl, .inr ⟨w.heap.size, 1, #[.string s], rfl, Nat.le_refl _, heap_alloc_new _ _, Nat.le_refl _, by unfold maxLen; omega, rfl, rfl⟩⟩
/-- What a value that was taken is made of. -/
def PartsA (k : Int) (c : ByteArray) (ps : List ByteArray) : Prop := k = -1 ∧ ps = [] ∨ (k = 3 ∨ k = 4) ∧ Row4 c ps ∨ (k ≠ -1 ∧ k ≠ 3 ∧ k ≠ 4) ∧ ps = [c]
theorem Bx.one (w : World) (k : Int) (v c : ByteArray) : Bx (w.alloc (.cells #[.int .i64 k, .string v, .string c] 154)) w.heap.size k v c := ⟨heap_alloc_new _ _⟩
theorem cellsK_at : ∀ (vs : List ByteArray) (i : Nat), i < vs.length → (cellsK vs)[i * 3]? = some (.int .i64 (kindOf (bl (vs.getD i ByteArray.empty)))) ∧ (cellsK vs)[i * 3 + 1]? = some (.string (vs.getD i ByteArray.empty)) ∧ (cellsK vs)[i * 3 + 2]? = some (.string (bodyS (vs.getD i ByteArray.empty)))
  | [], i, h => absurd h (Nat.not_lt_zero _)
  | v :: vs, i, h => by
    have e : cellsK (v :: vs) = [.int .i64 (kindOf (bl v)), .string v, .string (bodyS v)] ++ cellsK vs := rfl
    cases i with
    | zero => exact ⟨rfl, rfl, rfl⟩
    | succ i =>
      obtain ⟨h1, h2, h3⟩ := cellsK_at vs i (Nat.lt_of_succ_lt_succ h)
      rw [e]
      refine ⟨?_, ?_, ?_⟩
      · rw [List.getElem?_append_right (by simp; omega)]
        rw [show (i + 1) * 3 - [Value.int .i64 (kindOf (bl v)), .string v, .string (bodyS v)].length = i * 3 from by simp; omega]
        exact h1
      · rw [List.getElem?_append_right (by simp; omega)]
        rw [show (i + 1) * 3 + 1 - [Value.int .i64 (kindOf (bl v)), .string v, .string (bodyS v)].length = i * 3 + 1 from by simp; omega]
        exact h2
      · rw [List.getElem?_append_right (by simp; omega)]
        rw [show (i + 1) * 3 + 2 - [Value.int .i64 (kindOf (bl v)), .string v, .string (bodyS v)].length = i * 3 + 2 from by simp; omega]
        exact h3
/-- Values that were taken, from an address on. -/
structure KLies (w : World) (x : Addr) (vs : List ByteArray) : Prop where
  kind : ∀ i, i < vs.length → w.cell? (x.add (i * 3)) = some (.int .i64 (kindOf (bl (vs.getD i ByteArray.empty))))
  all : ∀ i, i < vs.length → w.cell? (x.add (i * 3 + 1)) = some (.string (vs.getD i ByteArray.empty))
  body : ∀ i, i < vs.length → w.cell? (x.add (i * 3 + 2)) = some (.string (bodyS (vs.getD i ByteArray.empty)))
theorem KLies.later {w w' : World} {x : Addr} {vs : List ByteArray} (h : KLies w x vs) (hb : Below w.heap.size w w') : KLies w' x vs :=
  ⟨fun i hi => Tree.cell_later hb (h.kind i hi), fun i hi => Tree.cell_later hb (h.all i hi), fun i hi => Tree.cell_later hb (h.body i hi)⟩
theorem KLies.all' {w : World} {x : Addr} {vs : List ByteArray} (h : KLies w x vs) (i : Nat) (hi : i < vs.length) : w.cell? { block := (x.add (i * 3)).block, off := (x.add (i * 3)).off + 1 } = some (.string (vs.getD i ByteArray.empty)) :=
  Tree.add_at (i * 3) 1 (h.all i hi)
theorem KLies.body' {w : World} {x : Addr} {vs : List ByteArray} (h : KLies w x vs) (i : Nat) (hi : i < vs.length) : w.cell? { block := (x.add (i * 3)).block, off := (x.add (i * 3)).off + 2 } = some (.string (bodyS (vs.getD i ByteArray.empty))) :=
  Tree.add_at (i * 3) 2 (h.body i hi)
theorem row_lies {w : World} {B cap : Nat} {o : Option Addr} {vs : List ByteArray} (h : w.ownsRow B 154 3 (.slice o vs.length cap) vs.length (cellsK vs)) (h1 : 1 ≤ vs.length) : ∃ x, o = some x ∧ KLies w x vs := by
  rcases h.2 with ⟨_, e⟩ | ⟨g, cap', cur, h0, _, _, hle, hm, _⟩
  · omega
  · injection h0 with h2 h3 h4
    subst h2 h4
    have hc : ∀ j u, (cellsK vs)[j]? = some u → w.cell? ((⟨g, 0, none⟩ : Addr).add j) = some u := h.cells rfl
    exact ⟨_, rfl, fun i hi => hc _ _ (cellsK_at vs i hi).1, fun i hi => hc _ _ (cellsK_at vs i hi).2.1, fun i hi => hc _ _ (cellsK_at vs i hi).2.2⟩
set_option maxRecDepth 20000 in
set_option maxHeartbeats 1600000 in
theorem takenParts (k : Int) (v c : ByteArray) (ps : List ByteArray) (hc : c.size ≤ 65536) (hp : Hid (PartsA k c ps)) (w : World) (hw : Hid (HomeE w)) :
    Calls Tryz.prog 195 #[.agg #[.int .i64 k, .string v, .string c]] w fun r w' => ∃ o cap, r = .returned (.slice o ps.length cap) ∧ w'.ownsRow w.heap.size 9 1 (.slice o ps.length cap) ps.length (cellsT ps) ∧ Below w.heap.size w w' := by
  obtain ⟨w1, e1, x1, b1, z1⟩ := box3 w k v c
  have d0 := x1.c0
  have d1 := x1.c1
  have d2 := x1.c2
  have B1 : Hid (Below w.heap.size w w1) := b1
  rcases hp.out with ⟨rfl, rfl⟩ | ⟨hk, hr⟩ | ⟨⟨k1, k2, k3⟩, rfl⟩
  · clear z1 x1 b1
    go_enter Tryz.func195, Tryz.ntmps195
    go_wp2
    go_ret
    exact ⟨none, 0, rfl, World.ownsRow_nil _ _ _ _, B1.out⟩
  · have n1 : (k == -1) = false := by rw [beq_eq_false_iff_ne]; omega
    have HR : Hid (Row4 c ps) := hr
    have hlen : ps.length ≤ 65536 := Nat.le_trans hr.len hc
    have hsz : ∀ i, i < ps.length → (ps.getD i ByteArray.empty).size ≤ 65536 := fun i hi => by
      have := hr.pos_le (i + 1)
      rw [pos_succ ps i hi] at this
      omega
    have HSZ : Hid (∀ i, i < ps.length → (ps.getD i ByteArray.empty).size ≤ 65536) := hsz
    obtain ⟨i9, hi, hz0, hz1, hz2⟩ := info_parts info9
    have HW1 : Hid (HomeE w1) := hw.out.later b1
    clear z1 x1 b1 hr hsz
    rcases hk with rfl | rfl
    all_goals
      go_enter Tryz.func195, Tryz.ntmps195
      go_wp2_with fail
      clear d0 d1 d2 e1 n1
      refine (withinC _ v c ps hc HR w1 HW1).mono ?_
      rintro e w2 ⟨o, cap, rfl, hown2, b2⟩
      have HO2 : Hid (w2.ownsRow w1.heap.size 154 3 (.slice o ps.length cap) ps.length (cellsK ps)) := hown2
      have HB2 : Hid (Below w.heap.size w w2) := bel2 B1.out b2
      clear hown2 b2
      go_wp2_with fail
      go_loopw [3, 16] (fun u t wr => ∃ (i : Nat) (o3 : Option Addr) (cap3 : Nat), i ≤ ps.length ∧ t = .int .i64 (i : Int) ∧ u = .slice o3 i cap3 ∧ wr.ownsRow w2.heap.size 9 1 (.slice o3 i cap3) i (cellsT (ps.take i)) ∧ Below w2.heap.size w2 wr) (fun _ t _ => ps.length - (intOf t).toNat)
      case atStart => exact ⟨0, none, 0, Nat.zero_le _, rfl, rfl, World.ownsRow_nil _ _ _ _, Below.refl _ _⟩
      case round =>
        obtain ⟨i, o3, cap3, hil, rfl, rfl, hown, hbl⟩ := hrel
        by_cases hlt : i < ps.length
        · obtain ⟨x, rfl, hx⟩ := row_lies HO2.out (by omega)
          have hx2 := hx.later hbl
          have d0 := hx2.kind i hlt
          have d1 := hx2.all' i hlt
          have d2 := hx2.body' i hlt
          have hs := HSZ.out i hlt
          have HV : Hid (ps.take (i + 1) = ps.take i ++ [ps.getD i ByteArray.empty]) := take_text ps i hlt
          have HOWN : Hid (wr.ownsRow w2.heap.size 9 1 (.slice o3 i cap3) i (cellsT (ps.take i))) := hown
          have HBL : Hid (Below w2.heap.size w2 wr) := hbl
          clear hx hx2 hown
          generalize ps.getD i ByteArray.empty = t at *
          generalize bodyS t = tb at *
          generalize kindOf (bl t) = tk at *
          obtain ⟨w4, e4, x4, b4, z4⟩ := box3 wr tk t tb
          have f1 := x4.c1
          clear z4
          go_wp2_with fail
          refine (cloneC t hs w4).mono ?_
          rintro e w5 ⟨rfl, b5⟩
          have b45 := bel2 b4 b5
          have hown5 := own_move HOWN.out (Mv.of (b := 0) b45) (by have := HB2.out.size; have := hw.out.six; omega)
          have hbl5 : Below w2.heap.size w2 w5 := hbl.trans (b45.mono hbl.size)
          clear hbl HBL HOWN d0 d1 d2 e4 x4 b4 b5 f1 b45
          go_wp2_with (at_builtin; refine wpList_append_own _ rfl (.tmp 20) (.tmp 24) 29 rfl w2.heap.size 9 i9 (.string ⟨#[]⟩) 1 16 Tryz.underlying29 hi hz0 hz1 hz2 rfl (by decide) _ i _ rfl (hown5.alloc _) ⟨w5.heap.size, 0, none⟩ 1 1 [.string t] rfl rfl ?c1 ?c2 ?c3 ?c4 ?c5 ?_)
          case c1 =>
            intro j u hj
            match j, hj with
            | 0, hj => simp at hj; subst hj; simp [Addr.add]
          case c2 => intro u hu; simp at hu; subst hu; rfl
          case c3 => unfold maxLen; omega
          case c4 => omega
          case c5 => have := hbl5.size; simp; omega
          intro u6 w6 hown6 hgrow _
          have hb6 : Below w2.heap.size w2 w6 := (hbl5.alloc hbl5.size _).grown hgrow (by have := hbl5.size; simp; omega) (fun j hj => (hown5.lt j hj).1)
          have hown6' : w6.ownsRow w2.heap.size 9 1 u6 (i + 1) (cellsT (ps.take (i + 1))) := by
            rw [HV.out, cellsT_snoc]
            exact hown6
          obtain ⟨o6, cap6, rfl⟩ := own_slice hown6'
          have H6 : Hid (w6.ownsRow w2.heap.size 9 1 (.slice o6 (i + 1) cap6) (i + 1) (cellsT (ps.take (i + 1))) ∧ Below w2.heap.size w2 w6) := ⟨hown6', hb6⟩
          clear hown6 hown6' hgrow hb6 hown5 hbl5
          go_wp2
          go_roundw
          case rel => exact ⟨i + 1, o6, cap6, by omega, by go_num, rfl, H6.out.1, H6.out.2⟩
          case measure => simp [intOf]; omega
        · obtain rfl : i = ps.length := by omega
          rw [List.take_length] at hown
          have HOWN : Hid (wr.ownsRow w2.heap.size 9 1 (.slice o3 ps.length cap3) ps.length (cellsT ps)) := hown
          clear hown
          go_wp2
          go_ret
          exact ⟨o3, cap3, rfl, own_mono HOWN.out HB2.out.size, HB2.out.trans (hbl.mono HB2.out.size)⟩
  · have n1 : (k == -1) = false := by rw [beq_eq_false_iff_ne]; exact k1
    have n2 : (k == 3) = false := by rw [beq_eq_false_iff_ne]; exact k2
    have n3 : (k == 4) = false := by rw [beq_eq_false_iff_ne]; exact k3
    clear z1 x1 b1 k1 k2 k3
    go_enter Tryz.func195, Tryz.ntmps195
    go_wp2_with fail
    refine (cloneC c hc w1).mono ?_
    rintro e w2 ⟨rfl, b2⟩
    have H2 : Hid ((w2.alloc (.cells #[.string c] 9)).ownsRow w2.heap.size 9 1 (.slice (some ⟨w2.heap.size, 0, none⟩) 1 1) 1 (cellsT [c]) ∧ Below w.heap.size w w2) := ⟨own_one w2 c, bel2 B1.out b2⟩
    clear b2 d0 d1 d2 e1
    go_wp2
    go_ret
    exact ⟨some ⟨w2.heap.size, 0, none⟩, 1, rfl, own_mono H2.out.1 H2.out.2.size, H2.out.2.alloc H2.out.2.size _⟩
theorem mk_size (l : List UInt8) : (⟨l.toArray⟩ : ByteArray).size = l.length := by rw [← bl_length, bl_mk]
theorem flat_mk (ps : List (List UInt8)) : flat (ps.map fun l => (⟨l.toArray⟩ : ByteArray)) = ps.flatten := by
  unfold flat
  rw [List.map_map, show (bl ∘ fun l : List UInt8 => (⟨l.toArray⟩ : ByteArray)) = id from funext fun l => bl_mk l, List.map_id]
theorem row_mk {v : ByteArray} {ps : List (List UInt8)} (h1 : bodyOf (bl v) = ps.flatten) (h2 : ∀ p ∈ ps, val 3 p = some p.length) : Row4 (bodyS v) (ps.map fun l => (⟨l.toArray⟩ : ByteArray)) := by
  refine ⟨by rw [bl_bodyS, h1, flat_mk], fun u hu => ?_⟩
  obtain ⟨p, hp, rfl⟩ := List.mem_map.1 hu
  rw [bl_mk, mk_size]
  exact val_up 3 4 (by omega) _ _ (h2 p hp)
theorem parts_told {s : ByteArray} (hv : isVal (bl s)) : ∃ ps, partsS s = some (kindOf (bl s), ps) ∧ PartsA (kindOf (bl s)) (bodyS s) ps := by
  obtain ⟨k, ps, h, hm⟩ := parts_made hv
  have hs : partsS s = some (k, ps.map fun l => (⟨l.toArray⟩ : ByteArray)) := by
    unfold partsS
    rw [h]
    rfl
  rcases hm with ⟨rfl, rfl, e⟩ | ⟨x, _, rfl, rfl, e⟩ | ⟨b, rfl, rfl, e⟩ | ⟨t, rfl, rfl, e⟩ | ⟨rfl, e, hp⟩ | ⟨rfl, e, hp⟩
  · have hk : kindOf (bl s) = -1 := by rw [e]; rfl
    rw [hk]
    exact ⟨_, hs, .inl ⟨rfl, rfl⟩⟩
  · have hk : kindOf (bl s) = 0 := by rw [e]; rfl
    have hb : bodyOf (bl s) = intD x := by
      rw [e]
      show (intD x ++ [59]).dropLast = _
      rw [List.dropLast_concat]
    rw [hk]
    exact ⟨_, hs, .inr (.inr ⟨by decide, by unfold bodyS; rw [hb]; rfl⟩)⟩
  · have hk : kindOf (bl s) = 1 := by rw [e]; cases b <;> rfl
    have hb : bodyOf (bl s) = boolM b := by rw [e]; cases b <;> rfl
    rw [hk]
    exact ⟨_, hs, .inr (.inr ⟨by decide, by unfold bodyS; rw [hb]; rfl⟩)⟩
  · have hk : kindOf (bl s) = 2 := by rw [e]; rfl
    have hb : bodyOf (bl s) = t := by
      rw [e]
      unfold bytesM
      have hs2 : seek 58 (dig t.length ++ 58 :: t) = some (dig t.length).length := by
        refine seek_app _ _ fun b hb e => ?_
        have := dig_digit _ b hb
        rw [e] at this
        exact absurd this.2 (by decide)
      rw [bodyOf_s, hs2]
      show (dig t.length ++ 58 :: t).drop ((dig t.length).length + 1) = t
      rw [show dig t.length ++ 58 :: t = (dig t.length ++ [58]) ++ t from by simp, List.drop_append_of_le_length (by simp), List.drop_eq_nil_of_le (by simp)]
      rfl
    rw [hk]
    exact ⟨_, hs, .inr (.inr ⟨by decide, by unfold bodyS; rw [hb]; rfl⟩)⟩
  · have hk : kindOf (bl s) = 3 := by rw [e]; rfl
    have hb : bodyOf (bl s) = ps.flatten := by
      rw [e]
      show (ps.flatten ++ [93]).dropLast = _
      rw [List.dropLast_concat]
    rw [hk]
    exact ⟨_, hs, .inr (.inl ⟨.inl rfl, row_mk hb hp⟩)⟩
  · have hk : kindOf (bl s) = 4 := by rw [e]; rfl
    have hb : bodyOf (bl s) = ps.flatten := by
      rw [e]
      show (ps.flatten ++ [125]).dropLast = _
      rw [List.dropLast_concat]
    rw [hk]
    exact ⟨_, hs, .inr (.inl ⟨.inr rfl, row_mk hb hp⟩)⟩
theorem body_size (s : ByteArray) (hs : s.size ≤ 65536) : (bodyS s).size ≤ 65536 := by
  rw [← bl_length, bl_bodyS]
  rw [← bl_length] at hs
  cases h : bl s with
  | nil => exact Nat.zero_le _
  | cons b r =>
    rw [h] at hs
    have hr : r.length ≤ 65535 := by simpa using hs
    rw [bodyOf]
    split
    · exact Nat.zero_le _
    · split
      · rw [List.length_dropLast]
        omega
      · split
        · split
          · exact Nat.zero_le _
          · rw [List.length_drop]
            omega
        · simp
/-- What Parts tells of a text. -/
def TellA (s : ByteArray) (k : Int) (ps : List ByteArray) (E : Int) : Prop := partsS s = some (k, ps) ∧ E = 0 ∨ partsS s = none ∧ k = 0 ∧ ps = [] ∧ E = 700
set_option maxRecDepth 20000 in
set_option maxHeartbeats 1600000 in
theorem partsC (s : ByteArray) (k : Int) (ps : List ByteArray) (E : Int) (hs : s.size ≤ 9223372036854775807) (ha : Hid (TellA s k ps E)) (w : World) (hw : Hid (HomeE w)) :
    Calls Tryz.prog 157 #[.string s] w fun r w' => ∃ o cap, r = .returned (.tuple #[.int .i64 k, .slice o ps.length cap, .int .i64 E]) ∧ w'.ownsRow w.heap.size 9 1 (.slice o ps.length cap) ps.length (cellsT ps) ∧ Below w.heap.size w w' := by
  go_enter Tryz.func157, Tryz.ntmps157
  go_wp2_with fail
  refine (onlyC s hs w hw).mono ?_
  rintro e w1 ⟨k1, v, c, ok, rfl, b1, hok⟩
  obtain ⟨w2, e2, x2, b2, z2⟩ := box3 w1 k1 v c
  have B2 : Hid (Below w.heap.size w w2) := bel2 b1 b2
  have HW2 : Hid (HomeE w2) := hw.out.later B2.out
  rcases hok with ⟨rfl, hv, rfl, hk, hb⟩ | ⟨rfl, hv⟩
  · obtain ⟨qs, h1, h2⟩ := parts_told hv
    have hcs := bodyS_eq hb
    have hsz : c.size ≤ 65536 := by
      rw [hcs]
      exact body_size v (by have := hv.1; rw [bl_length] at this; exact this)
    obtain ⟨rfl, rfl, rfl⟩ : k = k1 ∧ ps = qs ∧ E = 0 := by
      rcases ha.out with ⟨a1, a2⟩ | ⟨a1, _⟩
      · rw [a1] at h1
        injection h1 with h1
        injection h1 with h1 h3
        exact ⟨by rw [hk]; exact h1, h3, a2⟩
      · rw [a1] at h1
        cases h1
    have HP : Hid (PartsA k c ps) := by
      unfold Hid
      rw [hcs, hk]
      exact h2
    have d0 := x2.c0
    have d1 := x2.c1
    have d2 := x2.c2
    have HX2 : Hid (Bx w2 w1.heap.size k v c) := x2
    clear hv h1 h2 hcs hk hb b1 b2 z2 x2
    go_wp2_with fail
    go_region_with (go_at_call 195; refine (takenParts k v c ps hsz HP _ (HW2.out.later (drewN_below _ 1))).mono ?_; rintro e w3 ⟨o3, cap3, rfl, hown3, b3⟩; have X3 := (HX2.out.later (drewN_below _ 1)).later b3; have d3 := X3.c0; have d4 := X3.c1; have d5 := X3.c2; clear X3; have H3 : Hid (w3.ownsRow w.heap.size 9 1 (.slice o3 ps.length cap3) ps.length (cellsT ps) ∧ Below w.heap.size w w3) := ⟨own_mono hown3 B2.out.size, bel2 B2.out (bel2 (drewN_below _ 1) b3)⟩; clear hown3 b3)
    all_goals
      go_wp2
      go_ret3
      exact ⟨o3, cap3, rfl, H3.out⟩
  · obtain ⟨rfl, rfl, rfl⟩ : k = 0 ∧ ps = [] ∧ E = 700 := by
      rcases ha.out with ⟨a1, a2⟩ | ⟨_, a1, a2, a3⟩
      · rw [partsS_none hv] at a1
        cases a1
      · exact ⟨a1, a2, a3⟩
    clear hv b1 b2 z2 x2
    go_wp2
    go_ret3
    exact ⟨none, 0, rfl, World.ownsRow_nil _ _ _ _, B2.out⟩
end Go.Proofs.YtcpfhfdgfcilaaaGreatDoor.Val
namespace Go.Proofs.YtcpfhfdgfcilaaaGreatDoor.Val
open Tree

theorem below_up {f : Nat} (hf : f ≤ 5) {l : List UInt8} {k : Nat} (h : below f l = some k) : val 4 l = some k := by
  cases f with
  | zero => cases h
  | succ f => exact val_up f 4 (by omega) _ _ h
theorem isVal_below {f : Nat} (hf : f ≤ 5) {v : ByteArray} (hs : v.size ≤ 65536) (h : below f (bl v) = some v.size) : isVal (bl v) :=
  ⟨by rw [bl_length]; exact hs, by rw [bl_length]; exact below_up hf h⟩
theorem nest_parts {f : Nat} (hf : f ≤ 4) {v : ByteArray} (hs : v.size ≤ 65536) (h : val f (bl v) = some v.size) (hk : kindOf (bl v) = 3 ∨ kindOf (bl v) = 4) :
    ∃ ps : List ByteArray, partsS v = some (kindOf (bl v), ps) ∧ Row4 (bodyS v) ps ∧ ∀ p ∈ ps, below f (bl p) = some p.size := by
  rw [← bl_length] at h
  obtain ⟨qs, h1, h2, h3, h4, h5⟩ := row_of_nest hf h hk
  have h6 : ∀ p ∈ qs, val 3 p = some p.length := by
    intro p hp
    have := h3 p hp
    cases f with
    | zero => cases this
    | succ f => exact val_up f 3 (by omega) _ _ this
  refine ⟨qs.map fun l => ⟨l.toArray⟩, ?_, row_mk h1 h6, fun p hp => ?_⟩
  · unfold partsS
    rcases hk with c | c
    · have e := h4 c
      have hl : (listM qs).length ≤ 65536 := by rw [← e, bl_length]; exact hs
      rw [c, e, parts_list qs h6 hl]
      rfl
    · have e := h5 c
      have hl : (structM qs).length ≤ 65536 := by rw [← e, bl_length]; exact hs
      rw [c, e, parts_struct qs h6 hl]
      rfl
  · obtain ⟨q, hq, rfl⟩ := List.mem_map.1 hp
    rw [bl_mk, mk_size]
    exact h3 q hq
theorem fitsF_succ (ns : List Nd) (f a : Nat) (v : ByteArray) : fitsF ns (f + 1) a v = match partsS v with
    | none => false
    | some (k, ps) =>
      if k < 0 then (nd ns a).null
      else if k ≠ (nd ns a).kind then false
      else if k = 2 then decide ((ps.getD 0 ByteArray.empty).size ≤ 16)
      else if k = 3 then decide (ps.length ≤ 64) && ps.all (fitsF ns f ((kids ns a).getD 0 0))
      else if k = 4 then decide (ps.length = (kids ns a).length) && ((kids ns a).zip ps).all fun q => fitsF ns f q.1 q.2
      else true := rfl
theorem kindOf_in (l : List UInt8) : -1 ≤ kindOf l ∧ kindOf l ≤ 4 := by
  cases l with
  | nil => exact ⟨by decide, by decide⟩
  | cons b r =>
    rw [kindOf]
    split
    · exact ⟨by decide, by decide⟩
    · split
      · exact ⟨by decide, by decide⟩
      · split
        · exact ⟨by decide, by decide⟩
        · split
          · exact ⟨by decide, by decide⟩
          · split
            · exact ⟨by decide, by decide⟩
            · exact ⟨by decide, by decide⟩
theorem fits_null {ns : List Nd} {f a : Nat} (hf : f ≤ 4) {v : ByteArray} (hs : v.size ≤ 65536) (h : val f (bl v) = some v.size) (hk : kindOf (bl v) = -1) : fitsF ns (f + 1) a v = (nd ns a).null := by
  obtain ⟨ps, h1, _⟩ := parts_told (isVal_below (f := f + 1) (by omega) hs h)
  rw [fitsF_succ, h1]
  show (if kindOf (bl v) < 0 then _ else _) = _
  rw [if_pos (by omega)]
theorem fits_other {ns : List Nd} {f a : Nat} (hf : f ≤ 4) {v : ByteArray} (hs : v.size ≤ 65536) (h : val f (bl v) = some v.size) (hk : kindOf (bl v) ≠ -1) (hn : kindOf (bl v) ≠ (nd ns a).kind) : fitsF ns (f + 1) a v = false := by
  obtain ⟨ps, h1, _⟩ := parts_told (isVal_below (f := f + 1) (by omega) hs h)
  have := kindOf_in (bl v)
  rw [fitsF_succ, h1]
  show (if kindOf (bl v) < 0 then _ else if kindOf (bl v) ≠ (nd ns a).kind then _ else _) = _
  rw [if_neg (by omega), if_pos hn]
theorem fits_bytes {ns : List Nd} {f a : Nat} (hf : f ≤ 4) {v : ByteArray} (hs : v.size ≤ 65536) (h : val f (bl v) = some v.size) (hk : kindOf (bl v) = 2) (hn : (nd ns a).kind = 2) : fitsF ns (f + 1) a v = decide ((bodyS v).size ≤ 16) := by
  obtain ⟨ps, h1, h2⟩ := parts_told (isVal_below (f := f + 1) (by omega) hs h)
  rw [hk] at h1 h2
  rw [fitsF_succ, h1]
  show (if (2 : Int) < 0 then _ else if (2 : Int) ≠ (nd ns a).kind then _ else if (2 : Int) = 2 then decide ((ps.getD 0 ByteArray.empty).size ≤ 16) else _) = _
  rw [if_neg (by decide), if_neg (by rw [hn]; decide), if_pos rfl]
  rcases h2 with ⟨c, _⟩ | ⟨c, _⟩ | ⟨_, rfl⟩
  · cases c
  · rcases c with c | c <;> cases c
  · rfl
theorem fits_leaf {ns : List Nd} {f a : Nat} (hf : f ≤ 4) {v : ByteArray} (hs : v.size ≤ 65536) (h : val f (bl v) = some v.size) (hk : kindOf (bl v) = 0 ∨ kindOf (bl v) = 1) (hn : kindOf (bl v) = (nd ns a).kind) : fitsF ns (f + 1) a v = true := by
  obtain ⟨ps, h1, h2⟩ := parts_told (isVal_below (f := f + 1) (by omega) hs h)
  rw [fitsF_succ, h1]
  show (if kindOf (bl v) < 0 then _ else if kindOf (bl v) ≠ (nd ns a).kind then _ else if kindOf (bl v) = 2 then _ else if kindOf (bl v) = 3 then _ else if kindOf (bl v) = 4 then _ else true) = _
  rw [if_neg (by omega), if_neg (by rw [hn]; exact fun c => c rfl), if_neg (by omega), if_neg (by omega), if_neg (by omega)]
theorem fits_list {ns : List Nd} {f a : Nat} {v : ByteArray} {ps : List ByteArray} (h1 : partsS v = some (kindOf (bl v), ps)) (hk : kindOf (bl v) = 3) (hn : (nd ns a).kind = 3) : fitsF ns (f + 1) a v = (decide (ps.length ≤ 64) && ps.all (fitsF ns f ((kids ns a).getD 0 0))) := by
  rw [hk] at h1
  rw [fitsF_succ, h1]
  show (if (3 : Int) < 0 then _ else if (3 : Int) ≠ (nd ns a).kind then _ else if (3 : Int) = 2 then _ else if (3 : Int) = 3 then _ else _) = _
  rw [if_neg (by decide), if_neg (by rw [hn]; decide), if_neg (by decide), if_pos rfl]
theorem fits_struct {ns : List Nd} {f a : Nat} {v : ByteArray} {ps : List ByteArray} (h1 : partsS v = some (kindOf (bl v), ps)) (hk : kindOf (bl v) = 4) (hn : (nd ns a).kind = 4) : fitsF ns (f + 1) a v = (decide (ps.length = (kids ns a).length) && ((kids ns a).zip ps).all fun q => fitsF ns f q.1 q.2) := by
  rw [hk] at h1
  rw [fitsF_succ, h1]
  show (if (4 : Int) < 0 then _ else if (4 : Int) ≠ (nd ns a).kind then _ else if (4 : Int) = 2 then _ else if (4 : Int) = 3 then _ else if (4 : Int) = 4 then _ else _) = _
  rw [if_neg (by decide), if_neg (by rw [hn]; decide), if_neg (by decide), if_neg (by decide), if_pos rfl]
theorem allTo_congr {p q : Nat → Bool} : ∀ {n : Nat}, (∀ i, i < n → p i = q i) → allTo p n = allTo q n
  | 0, _ => rfl
  | n + 1, h => by
    show (allTo p n && p n) = (allTo q n && q n)
    rw [allTo_congr (n := n) (fun i hi => h i (by omega)), h n (Nat.lt_succ_self _)]
/-- All of a list, by places. -/
theorem all_to (ps : List ByteArray) (q : ByteArray → Bool) : ps.all q = allTo (fun i => q (ps.getD i ByteArray.empty)) ps.length := by
  have key : ∀ k, k ≤ ps.length → (ps.take k).all q = allTo (fun i => q (ps.getD i ByteArray.empty)) k := by
    intro k
    induction k with
    | zero => intro _; rfl
    | succ k ih =>
      intro hk
      rw [take_text ps k hk, List.all_append, ih (by omega), allTo]
      simp
  have := key ps.length (Nat.le_refl _)
  rw [List.take_length] at this
  exact this
theorem zip_to (ks : List Nat) (ps : List ByteArray) (h : ps.length = ks.length) (q : Nat → ByteArray → Bool) : ((ks.zip ps).all fun x => q x.1 x.2) = allTo (fun i => q (ks.getD i 0) (ps.getD i ByteArray.empty)) ks.length := by
  have key : ∀ k, k ≤ ks.length → ((ks.take k).zip (ps.take k)).all (fun x => q x.1 x.2) = allTo (fun i => q (ks.getD i 0) (ps.getD i ByteArray.empty)) k := by
    intro k
    induction k with
    | zero => intro _; rfl
    | succ k ih =>
      intro hk
      have hkt : ks.take (k + 1) = ks.take k ++ [ks.getD k 0] := by rw [List.take_succ_eq_append_getElem hk, List.getD_eq_getElem?_getD, List.getElem?_eq_getElem hk]; rfl
      rw [take_text ps k (by omega), hkt, List.zip_append (by rw [List.length_take, List.length_take]; omega), List.all_append, ih (by omega), allTo]
      simp
  have := key ks.length (Nat.le_refl _)
  rw [List.take_length, ← h, List.take_length, h] at this
  exact this
/-- Enough is enough. -/
theorem fits_fuel {ns : List Nd} : ∀ (f g a : Nat) (v : ByteArray), f ≤ 5 → f ≤ g → v.size ≤ 65536 → below f (bl v) = some v.size → fitsF ns g a v = fitsF ns f a v := by
  intro f
  induction f with
  | zero => intro g a v _ _ _ h; cases h
  | succ f ih =>
    intro g a v hf hg hs h
    obtain ⟨g, rfl⟩ : ∃ x, g = x + 1 := ⟨g - 1, by omega⟩
    have hv : val f (bl v) = some v.size := h
    by_cases hk : kindOf (bl v) = 3 ∨ kindOf (bl v) = 4
    · obtain ⟨ps, h1, h2, h3⟩ := nest_parts (by omega) hs hv hk
      have hsz : ∀ p ∈ ps, p.size ≤ 65536 := fun p hp => by
        have hb := body_size v hs
        obtain ⟨i, hi, e⟩ := List.getElem_of_mem hp
        have := h2.pos_le (i + 1)
        rw [pos_succ ps i hi, getD_text ps i hi, e] at this
        omega
      rw [fitsF_succ, fitsF_succ, h1]
      simp only
      have e1 : ps.all (fitsF ns g ((kids ns a).getD 0 0)) = ps.all (fitsF ns f ((kids ns a).getD 0 0)) := by
        rw [all_to, all_to]
        refine allTo_congr fun i hi => ?_
        have hm := getD_memT ps i hi
        exact ih g _ _ (by omega) (by omega) (hsz _ hm) (h3 _ hm)
      have e2 : (((kids ns a).zip ps).all fun q => fitsF ns g q.1 q.2) = (((kids ns a).zip ps).all fun q => fitsF ns f q.1 q.2) := by
        rw [Bool.eq_iff_iff, List.all_eq_true, List.all_eq_true]
        constructor
        · intro hh q hq
          have hm := (List.of_mem_zip hq).2
          rw [← ih g q.1 q.2 (by omega) (by omega) (hsz _ hm) (h3 _ hm)]
          exact hh q hq
        · intro hh q hq
          have hm := (List.of_mem_zip hq).2
          rw [ih g q.1 q.2 (by omega) (by omega) (hsz _ hm) (h3 _ hm)]
          exact hh q hq
      rw [e1, e2]
    · obtain ⟨ps, h1, _⟩ := parts_told (isVal_below hf hs h)
      rw [fitsF_succ, fitsF_succ, h1]
      simp only
      have c3 : ¬ kindOf (bl v) = 3 := fun c => hk (.inl c)
      have c4 : ¬ kindOf (bl v) = 4 := fun c => hk (.inr c)
      rw [if_neg c3, if_neg c4, if_neg c3, if_neg c4]
end Go.Proofs.YtcpfhfdgfcilaaaGreatDoor.Val
namespace Go.Proofs.YtcpfhfdgfcilaaaGreatDoor.Val
open Go.RowKit

/-- What is read of digits up to a place, with the sign. -/
def evalW (l : List UInt8) (i : Nat) : Int := if l.getD 0 0 = 45 then - evalN ((l.drop 1).take (i - 1)) else evalN (l.take i)
theorem evalW_zero (l : List UInt8) : evalW l 0 = 0 := by
  unfold evalW
  split
  · simp [evalN_nil]
  · rw [List.take_zero, evalN_nil]
theorem evalW_one (l : List UInt8) (h : l.getD 0 0 = 45) : evalW l 1 = 0 := by
  unfold evalW
  rw [if_pos h]
  simp [evalN_nil]
theorem evalW_all (l : List UInt8) : evalW l l.length = evalZ l := by
  unfold evalW
  by_cases h : l.getD 0 0 = 45
  · rw [if_pos h]
    have hl : 0 < l.length := by
      cases l with
      | nil => exact absurd h (by decide)
      | cons b r => exact Nat.succ_pos _
    rw [evalZ_sign h hl, List.take_of_length_le (by rw [List.length_drop]; exact Nat.le_refl _)]
  · rw [if_neg h, evalZ_plain h, List.take_length]
theorem evalW_neg (l : List UInt8) (i : Nat) (h : l.getD 0 0 = 45) (h1 : 1 ≤ i) (hi : i < l.length) : evalW l (i + 1) = 10 * evalW l i - (((l.getD i 0).toNat : Int) - 48) := by
  unfold evalW
  rw [if_pos h, if_pos h]
  have hd : i - 1 < (l.drop 1).length := by rw [List.length_drop]; omega
  have := evalN_take_succ (l.drop 1) (i - 1) hd
  rw [show i + 1 - 1 = i - 1 + 1 from by omega, this]
  have e : (l.drop 1).getD (i - 1) 0 = l.getD i 0 := by
    rw [List.getD_eq_getElem?_getD, List.getElem?_drop, ← List.getD_eq_getElem?_getD, show 1 + (i - 1) = i from by omega]
  rw [e]
  omega
theorem evalW_pos (l : List UInt8) (i : Nat) (h : l.getD 0 0 ≠ 45) (hi : i < l.length) : evalW l (i + 1) = 10 * evalW l i + (((l.getD i 0).toNat : Int) - 48) := by
  unfold evalW
  rw [if_neg h, if_neg h]
  exact evalN_take_succ l i hi
/-- A number within 64 bits that is another round the corner. -/
def At64 (x e : Int) : Prop := in64 x ∧ (x - e) % 18446744073709551616 = 0
theorem At64.zero : At64 0 0 := ⟨⟨by omega, by omega⟩, rfl⟩
theorem At64.neg {x e d y f : Int} (h : At64 x e) (hy : y = wrap64 (wrap64 (10 * x) - d)) (hf : f = 10 * e - d) : At64 y f := by
  subst hy hf
  unfold At64 in64 wrap64 at *
  omega
theorem At64.pos {x e d y f : Int} (h : At64 x e) (hy : y = wrap64 (wrap64 (10 * x) + d)) (hf : f = 10 * e + d) : At64 y f := by
  subst hy hf
  unfold At64 in64 wrap64 at *
  omega
end Go.Proofs.YtcpfhfdgfcilaaaGreatDoor.Val
namespace Go.Proofs.YtcpfhfdgfcilaaaGreatDoor.Val
open Go.ChangeShapes Go.WideShapes Go.ChangeAt Go.RowKit

/-- Where a sign is, from a place on, near by. -/
def UptoA (s : ByteArray) (p : Nat) (c : UInt8) (r : Int) : Prop := (∃ k : Nat, r = (k : Int) ∧ FirstAt s p c k ∧ k < p + 22) ∨ r = -1 ∧ ∀ j, p ≤ j → j < s.size → j < p + 22 → (bl s).getD j 0 ≠ c
set_option maxRecDepth 20000 in
set_option maxHeartbeats 800000 in
theorem uptoR (s : ByteArray) (p : Nat) (c : UInt8) (hs : s.size ≤ 65536) (hp : p ≤ 65536) (w : World) :
    Calls Tryz.prog 170 #[.string s, .int .i64 (p : Int), .int .u8 ((c.toNat : Nat) : Int)] w fun r w' => ∃ z, r = .returned (.int .i64 z) ∧ UptoA s p c z ∧ w' = w := by
  go_enter Tryz.func170, Tryz.ntmps170
  go_wp2_with fail
  go_loop [7] (fun t => ∃ k : Nat, p ≤ k ∧ k ≤ p + 22 ∧ t = .int .i64 (k : Int) ∧ ∀ j, p ≤ j → j < k → (bl s).getD j 0 ≠ c) (fun t => p + 22 - (intOf t).toNat)
  case atStart => exact ⟨p, Nat.le_refl _, by omega, rfl, fun j h1 h2 => by omega⟩
  case round =>
    obtain ⟨k, h1, h2, rfl, hno⟩ := hrel
    have HNO : Hid (∀ j, p ≤ j → j < k → (bl s).getD j 0 ≠ c) := hno
    clear hno
    by_cases ha : k < s.size
    · by_cases hb : k < p + 22
      · have HAT : Hid (s[k] = (bl s).getD k 0) := bl_at s k ha
        by_cases hc : (bl s).getD k 0 = c
        · have he : (((s[k].toNat : Nat) : Int) == ((c.toNat : Nat) : Int)) = true := by rw [HAT.out, hc, beq_iff_eq]
          have H : Hid (UptoA s p c (k : Int)) := .inl ⟨k, rfl, ⟨h1, ha, hc, HNO.out⟩, hb⟩
          clear hc HNO HAT
          go_wp2
          go_ret
          exact ⟨_, rfl, H.out, rfl⟩
        · have he : (((s[k].toNat : Nat) : Int) == ((c.toNat : Nat) : Int)) = false := by
            rw [HAT.out, beq_eq_false_iff_ne]
            intro e
            exact hc (UInt8.toNat_inj.1 (by omega))
          have HN : Hid (∀ j, p ≤ j → j < k + 1 → (bl s).getD j 0 ≠ c) := fun j j1 j2 => by
            by_cases e : j = k
            · rw [e]; exact hc
            · exact HNO.out j j1 (by omega)
          clear hc HNO HAT
          go_wp2
          go_round
          case rel => exact ⟨k + 1, by omega, by omega, by go_num, HN.out⟩
          case measure => simp [intOf]; omega
      · have H : Hid (UptoA s p c (-1)) := .inr ⟨rfl, fun j j1 _ j3 => HNO.out j j1 (by omega)⟩
        go_wp2
        go_ret
        exact ⟨_, rfl, H.out, rfl⟩
    · have H : Hid (UptoA s p c (-1)) := .inr ⟨rfl, fun j j1 j2 _ => HNO.out j j1 (by omega)⟩
      go_wp2
      go_ret
      exact ⟨_, rfl, H.out, rfl⟩
/-- What is read of a text as a number. -/
def WholeA (s : ByteArray) (x : Int) : Prop := ∀ y, numOf (bl s) = some y → x = y
theorem wholeA_none {s : ByteArray} {x : Int} (h : numOf (bl s) = none) : WholeA s x := fun y c => by rw [h] at c; cases c
theorem wholeA_some {s : ByteArray} {x : Int} (h : numOf (bl s) = some x) : WholeA s x := fun y c => by rw [h] at c; injection c
theorem text_eq {l : List UInt8} {s : ByteArray} (h : l = bl s) : mk l = s := by rw [h]; exact mk_of s
set_option maxRecDepth 20000 in
set_option maxHeartbeats 1600000 in
theorem wholeR (s : ByteArray) (hs : s.size ≤ 65536) (w : World) :
    Calls Tryz.prog 113 #[.string s] w fun r w' => ∃ x, r = .returned (.tuple #[.int .i64 x, .bool (numOf (bl s)).isSome]) ∧ WholeA s x ∧ Below w.heap.size w w' := by
  have HLEN : Hid ((bl s).length = s.size) := bl_length s
  go_enter Tryz.func113, Tryz.ntmps113
  go_wp2_with fail
  go_loop [4, 5] (fun v t => ∃ (k : Nat) (x : Int), k ≤ s.size ∧ t = .int .i64 (k : Int) ∧ v = .int .i64 x ∧ At64 x (evalW (bl s) k)) (fun _ t => s.size - (intOf t).toNat)
  case atStart => exact ⟨0, 0, Nat.zero_le _, rfl, rfl, by rw [evalW_zero]; exact At64.zero⟩
  case round =>
    obtain ⟨k, x, hk, rfl, rfl, hx⟩ := hrel
    have HX : Hid (At64 x (evalW (bl s) k)) := hx
    clear hx
    by_cases hend : k < s.size ∧ s.size < 21
    · obtain ⟨ha, hb⟩ := hend
      have HAT : Hid (s[k] = (bl s).getD k 0) := bl_at s k ha
      have hpos : 0 < s.size := by omega
      have HAZ : Hid (s[0] = (bl s).getD 0 0) := bl_at s 0 hpos
      by_cases hsg : k = 0 ∧ (bl s).getD 0 0 = 45
      · obtain ⟨rfl, h45⟩ := hsg
        have he : ((s[0].toNat : Nat) : Int) = 45 := by rw [HAZ.out, h45]; rfl
        have HN : Hid (At64 x (evalW (bl s) 1)) := by
          have := HX.out
          rw [evalW_zero] at this
          unfold Hid
          rw [evalW_one _ h45]
          exact this
        clear h45 HAZ HAT HX
        go_wp2
        go_round
        case rel => exact ⟨1, x, by omega, by go_num, rfl, HN.out⟩
        case measure => simp [intOf]; omega
      · have HK0 : Hid (k = 0 → ((s[k].toNat : Nat) : Int) ≠ 45) := by
          rintro rfl c
          refine hsg ⟨rfl, ?_⟩
          rw [HAZ.out] at c
          exact UInt8.toNat_inj.1 (by show _ = 45; omega)
        by_cases hdg : 48 ≤ s[k].toNat ∧ s[k].toNat ≤ 57
        · obtain ⟨d1, d2⟩ := hdg
          have hne : ((s[k].toNat : Nat) : Int) ≠ 45 := by omega
          by_cases h45 : (bl s).getD 0 0 = 45
          · have h1 : 1 ≤ k := by
              rcases Nat.eq_zero_or_pos k with e | e
              · exact absurd ⟨e, h45⟩ hsg
              · exact e
            have HS : Hid (evalW (bl s) (k + 1) = 10 * evalW (bl s) k - (((s[k].toNat : Nat) : Int) - 48)) := by
              unfold Hid
              rw [HAT.out]
              exact evalW_neg _ k h45 h1 (by rw [HLEN.out]; exact ha)
            have he : ((s[0].toNat : Nat) : Int) = 45 := by rw [HAZ.out, h45]; rfl
            clear HAT HAZ hsg h45 HK0
            generalize hN : s[k].toNat = N at *
            go_wp2
            go_round
            case rel => exact ⟨k + 1, _, by omega, by go_num, rfl, HX.out.neg (d := (N : Int) - 48) rfl HS.out⟩
            case measure => simp [intOf]; omega
          · have HS : Hid (evalW (bl s) (k + 1) = 10 * evalW (bl s) k + (((s[k].toNat : Nat) : Int) - 48)) := by
              unfold Hid
              rw [HAT.out]
              exact evalW_pos _ k h45 (by rw [HLEN.out]; exact ha)
            have he : ((s[0].toNat : Nat) : Int) ≠ 45 := by
              rw [HAZ.out]
              intro c
              exact h45 (UInt8.toNat_inj.1 (by show _ = 45; omega))
            clear HAT HAZ hsg h45 HK0
            generalize hN : s[k].toNat = N at *
            go_wp2
            go_round
            case rel => exact ⟨k + 1, _, by omega, by go_num, rfl, HX.out.pos (d := (N : Int) - 48) rfl HS.out⟩
            case measure => simp [intOf]; omega
        · have HNO : Hid (numOf (bl s) = none) := by
            refine bad_sign (i := k) (by rw [HLEN.out]; exact ha) ?_ hsg
            rw [← HAT.out]
            omega
          clear hsg HAZ HAT
          by_cases e45 : s[k].toNat = 45
          · have h1 : 1 ≤ k := by
              rcases Nat.eq_zero_or_pos k with e | e
              · exact absurd (by omega) (HK0.out e)
              · exact e
            have he : ((s[k].toNat : Nat) : Int) = 45 := by omega
            clear HK0 e45 hdg
            go_wp2
            go_ret2
            exact ⟨0, by rw [HNO.out]; rfl, wholeA_none HNO.out, Below.refl _ _⟩
          · have he : ((s[k].toNat : Nat) : Int) ≠ 45 := by omega
            by_cases c : s[k].toNat < 48
            · clear HK0 e45 hdg
              go_wp2
              go_ret2
              exact ⟨0, by rw [HNO.out]; rfl, wholeA_none HNO.out, Below.refl _ _⟩
            · have c2 : 57 < s[k].toNat := by omega
              clear HK0 e45 hdg
              go_wp2
              go_ret2
              exact ⟨0, by rw [HNO.out]; rfl, wholeA_none HNO.out, Below.refl _ _⟩
    · have hx := HX.out.1
      have H : Hid ((intD x = bl s ∧ numOf (bl s) = some x) ∨ (intD x ≠ bl s ∧ numOf (bl s) = none)) := by
        by_cases h21 : s.size < 21
        · obtain rfl : k = s.size := by omega
          have h2 := HX.out.2
          rw [← HLEN.out, evalW_all] at h2
          rcases read_iff hx h2 with ⟨a, b⟩ | ⟨a, b⟩
          · exact .inl ⟨b, a⟩
          · exact .inr ⟨b, a⟩
        · refine .inr ⟨fun e => ?_, too_long (by rw [HLEN.out]; omega)⟩
          have := (length_intD x hx).2
          rw [e, HLEN.out] at this
          omega
      have hend' : (decide (((k : Nat) : Int) < ((s.size : Nat) : Int)) && decide (((s.size : Nat) : Int) < 21)) = false := by
        rw [Bool.and_eq_false_iff, decide_eq_false_iff_not, decide_eq_false_iff_not]
        by_cases e : k < s.size
        · exact .inr (fun c => hend ⟨e, by omega⟩)
        · exact .inl (by omega)
      rcases H.out with ⟨e, hn⟩ | ⟨e, hn⟩
      · have hm := text_eq e
        have HN : Hid (numOf (bl s) = some x) := hn
        clear hn e HX H
        by_cases c : k < s.size
        · have c2 : ¬ s.size < 21 := fun h => hend ⟨c, h⟩
          go_wp2_with fail
          refine (digitsC x hx w).mono ?_
          rintro e w1 ⟨rfl, b1⟩
          rw [hm]
          have hq : (s.toList == s.toList) = true := by rw [beq_iff_eq]
          go_wp2
          go_ret2
          exact ⟨x, by rw [HN.out]; rfl, wholeA_some HN.out, b1⟩
        · go_wp2_with fail
          refine (digitsC x hx w).mono ?_
          rintro e w1 ⟨rfl, b1⟩
          rw [hm]
          have hq : (s.toList == s.toList) = true := by rw [beq_iff_eq]
          go_wp2
          go_ret2
          exact ⟨x, by rw [HN.out]; rfl, wholeA_some HN.out, b1⟩
      · have HN : Hid (numOf (bl s) = none) := hn
        have hq : ((mk (intD x)).toList == s.toList) = false := texts_part (fun c => e (by rw [← bl_mk' (intD x), c]))
        clear hn e HX H
        by_cases c : k < s.size
        · have c2 : ¬ s.size < 21 := fun h => hend ⟨c, h⟩
          go_wp2_with fail
          refine (digitsC x hx w).mono ?_
          rintro e w1 ⟨rfl, b1⟩
          go_wp2
          go_ret2
          exact ⟨x, by rw [HN.out]; rfl, wholeA_none HN.out, b1⟩
        · go_wp2_with fail
          refine (digitsC x hx w).mono ?_
          rintro e w1 ⟨rfl, b1⟩
          go_wp2
          go_ret2
          exact ⟨x, by rw [HN.out]; rfl, wholeA_none HN.out, b1⟩
end Go.Proofs.YtcpfhfdgfcilaaaGreatDoor.Val
namespace Go.Proofs.YtcpfhfdgfcilaaaGreatDoor.Val
open Go.ChangeShapes Go.WideShapes Go.ChangeAt Go.RowKit

theorem ret_int {a b : Int} (h : a = b) : Ending.returned (.int .i64 a) = .returned (.int .i64 b) := by rw [h]
theorem byteR_ne {b c : UInt8} (h : b ≠ c) : ((b.toNat : Nat) : Int) ≠ ((c.toNat : Nat) : Int) := fun e => h (UInt8.toNat_inj.1 (by omega))
set_option maxRecDepth 20000 in
set_option maxHeartbeats 1600000 in
theorem endNest91 (d : Nat) (hd : d ≤ 4) (s : ByteArray) (p : Nat) (hs : s.size ≤ 65536) (hp : p < s.size) (hb0 : s[p] = 91)
    (hrec : Hid (∀ (q : Nat) (y : World), 1 ≤ d → q < s.size → Calls Tryz.prog 169 #[.string s, .int .i64 (q : Int), .int .i64 ((d : Int) - 1)] y fun r w' => r = .returned (.int .i64 (endO (below d) s q)) ∧ Below y.heap.size y w')) (w : World) :
    Calls Tryz.prog 169 #[.string s, .int .i64 (p : Int), .int .i64 (d : Int)] w fun r w' => r = .returned (.int .i64 (manyZ (below d) 93 s (p + 1))) ∧ Below w.heap.size w w' := by
  have hb : ((s[p].toNat : Nat) : Int) = 91 := by rw [hb0]; rfl
  clear hb0
  have hp1 : decide (s.size ≤ p) = false := decide_eq_false (by omega)
  have hp2 : decide (((s.size : Nat) : Int) ≤ ((p : Nat) : Int)) = false := decide_eq_false (by omega)
  generalize hZ : manyZ (below d) 93 s (p + 1) = Z
  have HZ0 : Hid (Z = manyZ (below d) 93 s (p + 1)) := hZ.symm
  clear hZ
  go_enter Tryz.func169, Tryz.ntmps169
  go_wp2_with fail
  go_loopw [1] (fun t wr => ∃ q : Nat, p + 1 ≤ q ∧ q ≤ s.size ∧ t = .int .i64 (q : Int) ∧ Z = manyZ (below d) 93 s q ∧ Below w.heap.size w wr) (fun t _ => s.size - (intOf t).toNat)
  case atStart => exact ⟨p + 1, Nat.le_refl _, by omega, by go_num, HZ0.out, Below.refl _ _⟩
  case round =>
    obtain ⟨q, h1, h2, rfl, hz, hbl⟩ := hrel
    have HZ : Hid (Z = manyZ (below d) 93 s q) := hz
    have HB : Hid (Below w.heap.size w wr) := hbl
    clear hz hbl HZ0
    by_cases hq : q < s.size
    · by_cases hst : s[q] = 93
      · have HE : Hid (Z = ((q + 1 : Nat) : Int)) := by unfold Hid; rw [HZ.out, manyZ_stop hq hst]
        have hc : ((s[q].toNat : Nat) : Int) = 93 := by rw [hst]; rfl
        clear hst HZ hrec
        rcases Nat.eq_zero_or_pos d with rfl | hd0
        all_goals
          go_wp2
          go_ret
          exact ⟨ret_int (by rw [HE.out]; omega), HB.out⟩
      · have hc : ((s[q].toNat : Nat) : Int) ≠ 93 := byteR_ne hst
        rcases Nat.eq_zero_or_pos d with rfl | hd0
        · have HE : Hid (Z = -1) := by unfold Hid; rw [HZ.out, manyZ_bad hq hst rfl]
          clear hst HZ hrec
          go_wp2
          go_ret
          exact ⟨ret_int HE.out.symm, HB.out⟩
        · have HST : Hid (s[q] ≠ 93) := hst
          clear hst
          go_wp2_with fail
          refine (hrec.out q wr hd0 hq).mono ?_
          rintro e w1 ⟨rfl, b1⟩
          have HB1 : Hid (Below w.heap.size w w1) := bel2 HB.out b1
          clear b1
          rcases endO_cases (fair_below d) s q hq with ⟨ho, hn⟩ | ⟨q', ho, hlt, hle, hn⟩
          · have HE : Hid (Z = -1) := by unfold Hid; rw [HZ.out, manyZ_bad hq HST.out hn]
            rw [ho]
            clear ho hn HZ HST
            go_wp2
            go_ret
            exact ⟨ret_int HE.out.symm, HB1.out⟩
          · have HE : Hid (Z = manyZ (below d) 93 s q') := by unfold Hid; rw [HZ.out, manyZ_step (fair_below d) hq HST.out hlt hle hn]
            rw [ho]
            clear ho hn HZ HST
            go_wp2
            go_roundw
            case rel => exact ⟨q', by omega, hle, rfl, HE.out, HB1.out⟩
            case measure => simp [intOf]; omega
    · have HE : Hid (Z = -1) := by unfold Hid; rw [HZ.out, manyZ_out (by omega)]
      clear HZ hrec
      rcases Nat.eq_zero_or_pos d with rfl | hd0
      all_goals
        go_wp2
        go_ret
        exact ⟨ret_int HE.out.symm, HB.out⟩
set_option maxRecDepth 20000 in
set_option maxHeartbeats 1600000 in
theorem endNest123 (d : Nat) (hd : d ≤ 4) (s : ByteArray) (p : Nat) (hs : s.size ≤ 65536) (hp : p < s.size) (hb0 : s[p] = 123)
    (hrec : Hid (∀ (q : Nat) (y : World), 1 ≤ d → q < s.size → Calls Tryz.prog 169 #[.string s, .int .i64 (q : Int), .int .i64 ((d : Int) - 1)] y fun r w' => r = .returned (.int .i64 (endO (below d) s q)) ∧ Below y.heap.size y w')) (w : World) :
    Calls Tryz.prog 169 #[.string s, .int .i64 (p : Int), .int .i64 (d : Int)] w fun r w' => r = .returned (.int .i64 (manyZ (below d) 125 s (p + 1))) ∧ Below w.heap.size w w' := by
  have hb : ((s[p].toNat : Nat) : Int) = 123 := by rw [hb0]; rfl
  clear hb0
  have hp1 : decide (s.size ≤ p) = false := decide_eq_false (by omega)
  have hp2 : decide (((s.size : Nat) : Int) ≤ ((p : Nat) : Int)) = false := decide_eq_false (by omega)
  generalize hZ : manyZ (below d) 125 s (p + 1) = Z
  have HZ0 : Hid (Z = manyZ (below d) 125 s (p + 1)) := hZ.symm
  clear hZ
  go_enter Tryz.func169, Tryz.ntmps169
  go_wp2_with fail
  go_loopw [1] (fun t wr => ∃ q : Nat, p + 1 ≤ q ∧ q ≤ s.size ∧ t = .int .i64 (q : Int) ∧ Z = manyZ (below d) 125 s q ∧ Below w.heap.size w wr) (fun t _ => s.size - (intOf t).toNat)
  case atStart => exact ⟨p + 1, Nat.le_refl _, by omega, by go_num, HZ0.out, Below.refl _ _⟩
  case round =>
    obtain ⟨q, h1, h2, rfl, hz, hbl⟩ := hrel
    have HZ : Hid (Z = manyZ (below d) 125 s q) := hz
    have HB : Hid (Below w.heap.size w wr) := hbl
    clear hz hbl HZ0
    by_cases hq : q < s.size
    · by_cases hst : s[q] = 125
      · have HE : Hid (Z = ((q + 1 : Nat) : Int)) := by unfold Hid; rw [HZ.out, manyZ_stop hq hst]
        have hc : ((s[q].toNat : Nat) : Int) = 125 := by rw [hst]; rfl
        clear hst HZ hrec
        rcases Nat.eq_zero_or_pos d with rfl | hd0
        all_goals
          go_wp2
          go_ret
          exact ⟨ret_int (by rw [HE.out]; omega), HB.out⟩
      · have hc : ((s[q].toNat : Nat) : Int) ≠ 125 := byteR_ne hst
        rcases Nat.eq_zero_or_pos d with rfl | hd0
        · have HE : Hid (Z = -1) := by unfold Hid; rw [HZ.out, manyZ_bad hq hst rfl]
          clear hst HZ hrec
          go_wp2
          go_ret
          exact ⟨ret_int HE.out.symm, HB.out⟩
        · have HST : Hid (s[q] ≠ 125) := hst
          clear hst
          go_wp2_with fail
          refine (hrec.out q wr hd0 hq).mono ?_
          rintro e w1 ⟨rfl, b1⟩
          have HB1 : Hid (Below w.heap.size w w1) := bel2 HB.out b1
          clear b1
          rcases endO_cases (fair_below d) s q hq with ⟨ho, hn⟩ | ⟨q', ho, hlt, hle, hn⟩
          · have HE : Hid (Z = -1) := by unfold Hid; rw [HZ.out, manyZ_bad hq HST.out hn]
            rw [ho]
            clear ho hn HZ HST
            go_wp2
            go_ret
            exact ⟨ret_int HE.out.symm, HB1.out⟩
          · have HE : Hid (Z = manyZ (below d) 125 s q') := by unfold Hid; rw [HZ.out, manyZ_step (fair_below d) hq HST.out hlt hle hn]
            rw [ho]
            clear ho hn HZ HST
            go_wp2
            go_roundw
            case rel => exact ⟨q', by omega, hle, rfl, HE.out, HB1.out⟩
            case measure => simp [intOf]; omega
    · have HE : Hid (Z = -1) := by unfold Hid; rw [HZ.out, manyZ_out (by omega)]
      clear HZ hrec
      rcases Nat.eq_zero_or_pos d with rfl | hd0
      all_goals
        go_wp2
        go_ret
        exact ⟨ret_int HE.out.symm, HB.out⟩
theorem firstAt_up {s : ByteArray} {p k : Nat} {c : UInt8} (h : FirstAt s p c k) (hp : p < s.size) (hb : s[p] ≠ c) : FirstAt s (p + 1) c k := by
  obtain ⟨h1, h2, h3, h4⟩ := h
  have hne : k ≠ p := by
    rintro rfl
    exact hb (by rw [bl_at]; exact h3)
  exact ⟨by omega, h2, h3, fun j j1 j2 => h4 j (by omega) j2⟩
theorem ex_size (s : ByteArray) (a b : Nat) (hs : s.size ≤ 65536) : (s.extract a b).size ≤ 65536 := by
  rw [ByteArray.size_extract]
  omega
set_option maxRecDepth 20000 in
set_option maxHeartbeats 1600000 in
theorem endIntR (d : Nat) (_hd : d ≤ 4) (s : ByteArray) (p : Nat) (hs : s.size ≤ 65536) (hp : p < s.size) (hb0 : s[p] = 105) (w : World) :
    Calls Tryz.prog 169 #[.string s, .int .i64 (p : Int), .int .i64 (d : Int)] w fun r w' => r = .returned (.int .i64 (endZ d s p)) ∧ Below w.heap.size w w' := by
  have hb : ((s[p].toNat : Nat) : Int) = 105 := by rw [hb0]; rfl
  have HF : Hid ((∀ j, p ≤ j → j < s.size → j < p + 22 → (bl s).getD j 0 ≠ 59) → endZ d s p = -1) := fun h => endZ_int_far hp hb0 fun j h1 h2 h3 => h j (by omega) h2 h3
  have HK : Hid (∀ k, FirstAt s p 59 k → p + 1 ≤ k ∧ k < s.size ∧ endZ d s p = if (numOf (bl (s.extract (p + 1) k))).isSome then ((k + 1 : Nat) : Int) else -1) := fun k hk => by
    have := firstAt_up hk hp (by rw [hb0]; decide)
    exact ⟨this.1, this.2.1, endZ_int hp hb0 this⟩
  clear hb0
  generalize endZ d s p = Z at *
  go_enter Tryz.func169, Tryz.ntmps169
  go_wp2_with fail
  refine (uptoR s p 59 hs (by omega) w).mono ?_
  rintro e w1 ⟨z, rfl, hu, hw1⟩
  subst w1
  rcases hu with ⟨k, rfl, hk, h22⟩ | ⟨rfl, hfar⟩
  · obtain ⟨k1, k2, hz⟩ := HK.out k hk
    have HZ : Hid (Z = if (numOf (bl (s.extract (p + 1) k))).isSome then ((k + 1 : Nat) : Int) else -1) := hz
    have hex := ex_size s (p + 1) k hs
    have i0 : (0 : Int) ≤ (p : Int) + 1 := by omega
    have i1 : (p : Int) + 1 ≤ (k : Int) := by omega
    have i2 : (k : Int) ≤ (s.size : Int) := by omega
    clear HK HF hz hk
    go_wp2_with fail
    refine (wholeR (s.extract (p + 1) k) hex w).mono ?_
    rintro e w1 ⟨x, rfl, hx, b1⟩
    have HB : Hid (Below w.heap.size w w1) := b1
    clear b1 hx
    generalize (numOf (bl (s.extract (p + 1) k))).isSome = is at *
    cases is
    all_goals
      go_wp2
      go_ret
      exact ⟨ret_int (by rw [HZ.out]; first | rfl | (show _ = ((k + 1 : Nat) : Int); omega)), HB.out⟩
  · have HZ : Hid (Z = -1) := HF.out hfar
    clear HK HF hfar
    go_wp2
    go_ret
    exact ⟨ret_int HZ.out.symm, Below.refl _ _⟩
set_option maxRecDepth 20000 in
set_option maxHeartbeats 1600000 in
theorem endBytesR (d : Nat) (_hd : d ≤ 4) (s : ByteArray) (p : Nat) (hs : s.size ≤ 65536) (hp : p < s.size) (hb0 : s[p] = 115) (w : World) :
    Calls Tryz.prog 169 #[.string s, .int .i64 (p : Int), .int .i64 (d : Int)] w fun r w' => r = .returned (.int .i64 (endZ d s p)) ∧ Below w.heap.size w w' := by
  have hb : ((s[p].toNat : Nat) : Int) = 115 := by rw [hb0]; rfl
  have HF : Hid ((∀ j, p ≤ j → j < s.size → j < p + 22 → (bl s).getD j 0 ≠ 58) → endZ d s p = -1) := fun h => endZ_bytes_far hp hb0 fun j h1 h2 h3 => h j (by omega) h2 h3
  have HK : Hid (∀ k, FirstAt s p 58 k → p + 1 ≤ k ∧ k < s.size ∧ endZ d s p = match numOf (bl (s.extract (p + 1) k)) with
    | none => -1
    | some x => if 0 ≤ x ∧ x ≤ (s.size : Int) - k - 1 then (k : Int) + 1 + x else -1) := fun k hk => by
    have := firstAt_up hk hp (by rw [hb0]; decide)
    exact ⟨this.1, this.2.1, endZ_bytes hp hb0 this⟩
  clear hb0
  generalize endZ d s p = Z at *
  go_enter Tryz.func169, Tryz.ntmps169
  go_wp2_with fail
  refine (uptoR s p 58 hs (by omega) w).mono ?_
  rintro e w1 ⟨z, rfl, hu, hw1⟩
  subst w1
  rcases hu with ⟨k, rfl, hk, h22⟩ | ⟨rfl, hfar⟩
  · obtain ⟨k1, k2, hz⟩ := HK.out k hk
    have hex := ex_size s (p + 1) k hs
    have i0 : (0 : Int) ≤ (p : Int) + 1 := by omega
    have i1 : (p : Int) + 1 ≤ (k : Int) := by omega
    have i2 : (k : Int) ≤ (s.size : Int) := by omega
    clear HK HF hk
    go_wp2_with fail
    refine (wholeR (s.extract (p + 1) k) hex w).mono ?_
    rintro e w1 ⟨x, rfl, hx, b1⟩
    have HB : Hid (Below w.heap.size w w1) := b1
    clear b1
    cases hn : numOf (bl (s.extract (p + 1) k)) with
    | none =>
      rw [hn] at hz
      have HZ : Hid (Z = -1) := hz
      clear hz hx hn
      rw [Option.isSome_none]
      go_wp2
      go_ret
      exact ⟨ret_int HZ.out.symm, HB.out⟩
    | some y =>
      obtain rfl := hx y hn
      have hin := (numOf_some.1 hn).1
      rw [hn] at hz
      have HZ : Hid (Z = if 0 ≤ x ∧ x ≤ (s.size : Int) - k - 1 then (k : Int) + 1 + x else -1) := hz
      obtain ⟨i1, i2⟩ := hin
      clear hz hx hn
      rw [Option.isSome_some]
      by_cases c : 0 ≤ x
      · by_cases c2 : x ≤ (s.size : Int) - k - 1
        · have HE : Hid (Z = (k : Int) + 1 + x) := by unfold Hid; rw [HZ.out, if_pos ⟨c, c2⟩]
          clear HZ
          go_wp2
          go_ret
          exact ⟨ret_int HE.out.symm, HB.out⟩
        · have HE : Hid (Z = -1) := by unfold Hid; rw [HZ.out, if_neg (fun h => c2 h.2)]
          clear HZ
          go_wp2
          go_ret
          exact ⟨ret_int HE.out.symm, HB.out⟩
      · have HE : Hid (Z = -1) := by unfold Hid; rw [HZ.out, if_neg (fun h => c h.1)]
        clear HZ
        go_wp2
        go_ret
        exact ⟨ret_int HE.out.symm, HB.out⟩
  · have HZ : Hid (Z = -1) := HF.out hfar
    clear HK HF hfar
    go_wp2
    go_ret
    exact ⟨ret_int HZ.out.symm, Below.refl _ _⟩
set_option maxRecDepth 20000 in
set_option maxHeartbeats 1600000 in
theorem endStep (d : Nat) (hd : d ≤ 4) (s : ByteArray) (p : Nat) (hs : s.size ≤ 65536) (hp : p ≤ s.size)
    (hrec : Hid (∀ (q : Nat) (y : World), 1 ≤ d → q < s.size → Calls Tryz.prog 169 #[.string s, .int .i64 (q : Int), .int .i64 ((d : Int) - 1)] y fun r w' => r = .returned (.int .i64 (endO (below d) s q)) ∧ Below y.heap.size y w')) (w : World) :
    Calls Tryz.prog 169 #[.string s, .int .i64 (p : Int), .int .i64 (d : Int)] w fun r w' => r = .returned (.int .i64 (endZ d s p)) ∧ Below w.heap.size w w' := by
  by_cases h0 : p < s.size
  · by_cases c1 : s[p] = 110 ∨ s[p] = 116 ∨ s[p] = 102
    · have HZ : Hid (endZ d s p = ((p + 1 : Nat) : Int)) := endZ_word h0 c1
      generalize endZ d s p = Z at *
      rcases c1 with c | c | c
      · have hb : ((s[p].toNat : Nat) : Int) = 110 := by rw [c]; rfl
        clear c hrec
        go_enter Tryz.func169, Tryz.ntmps169
        go_wp2
        go_ret
        exact ⟨ret_int (by rw [HZ.out]; omega), Below.refl _ _⟩
      · have hb : ((s[p].toNat : Nat) : Int) = 116 := by rw [c]; rfl
        clear c hrec
        go_enter Tryz.func169, Tryz.ntmps169
        go_wp2
        go_ret
        exact ⟨ret_int (by rw [HZ.out]; omega), Below.refl _ _⟩
      · have hb : ((s[p].toNat : Nat) : Int) = 102 := by rw [c]; rfl
        clear c hrec
        go_enter Tryz.func169, Tryz.ntmps169
        go_wp2
        go_ret
        exact ⟨ret_int (by rw [HZ.out]; omega), Below.refl _ _⟩
    · by_cases c2 : s[p] = 105
      · exact endIntR d hd s p hs h0 c2 w
      · by_cases c3 : s[p] = 115
        · exact endBytesR d hd s p hs h0 c3 w
        · by_cases c4 : s[p] = 91
          · rw [endZ_nest h0 (.inl c4), c4]
            exact endNest91 d hd s p hs h0 c4 hrec w
          · by_cases c5 : s[p] = 123
            · rw [endZ_nest h0 (.inr c5), c5]
              exact endNest123 d hd s p hs h0 c5 hrec w
            · have HZ : Hid (endZ d s p = -1) := endZ_other h0 ⟨fun c => c1 (.inl c), fun c => c1 (.inr (.inl c)), fun c => c1 (.inr (.inr c)), c2, c3, c4, c5⟩
              generalize endZ d s p = Z at *
              have e1 : ((s[p].toNat : Nat) : Int) ≠ 110 := byteR_ne fun c => c1 (.inl c)
              have e2 : ((s[p].toNat : Nat) : Int) ≠ 116 := byteR_ne fun c => c1 (.inr (.inl c))
              have e3 : ((s[p].toNat : Nat) : Int) ≠ 102 := byteR_ne fun c => c1 (.inr (.inr c))
              have e4 : ((s[p].toNat : Nat) : Int) ≠ 105 := byteR_ne c2
              have e5 : ((s[p].toNat : Nat) : Int) ≠ 115 := byteR_ne c3
              have e6 : ((s[p].toNat : Nat) : Int) ≠ 91 := byteR_ne c4
              have e7 : ((s[p].toNat : Nat) : Int) ≠ 123 := byteR_ne c5
              clear c1 c2 c3 c4 c5 hrec
              go_enter Tryz.func169, Tryz.ntmps169
              go_wp2
              go_ret
              exact ⟨ret_int HZ.out.symm, Below.refl _ _⟩
  · have HZ : Hid (endZ d s p = -1) := endZ_out (by omega)
    generalize endZ d s p = Z at *
    clear hrec
    go_enter Tryz.func169, Tryz.ntmps169
    go_wp2
    go_ret
    exact ⟨ret_int HZ.out.symm, Below.refl _ _⟩
set_option maxRecDepth 20000 in
set_option maxHeartbeats 1600000 in
theorem endR : ∀ (d : Nat), d ≤ 4 → ∀ (s : ByteArray) (p : Nat), s.size ≤ 65536 → p ≤ s.size → ∀ w : World,
    Calls Tryz.prog 169 #[.string s, .int .i64 (p : Int), .int .i64 (d : Int)] w fun r w' => r = .returned (.int .i64 (endZ d s p)) ∧ Below w.heap.size w w' := by
  intro d
  induction d with
  | zero =>
    intro hd s p hs hp w
    exact endStep 0 hd s p hs hp (fun q y h _ => absurd h (by decide)) w
  | succ d ih =>
    intro hd s p hs hp w
    refine endStep (d + 1) hd s p hs hp (fun q y _ hq => ?_) w
    have := ih (by omega) s q hs (by omega) y
    rw [show ((d + 1 : Nat) : Int) - 1 = (d : Int) from by omega]
    exact this
end Go.Proofs.YtcpfhfdgfcilaaaGreatDoor.Val
