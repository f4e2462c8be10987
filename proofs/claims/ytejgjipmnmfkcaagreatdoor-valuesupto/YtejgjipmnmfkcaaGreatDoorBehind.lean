/-
  What stands behind a value's first sign; take, at every depth: contracts.
-/
import Derived.Test.YtejgjipmnmfkcaaGreatDoorTk
import Derived.Test.YtejgjipmnmfkcaaGreatDoorTb
import Derived.Test.YtejgjipmnmfkcaaGreatDoorKind
import Derived.Test.YtejgjipmnmfkcaaGreatDoorTake
namespace Go.Proofs.YtejgjipmnmfkcaaGreatDoor.Val
open Go.ChangeShapes Go.WideShapes Go.ChangeAt Go.RowKit

def BehindC (i : Nat) : Prop := ∀ (b : Nat) (s : ByteArray) (p c : Nat) (w : World) (hp : p < s.size), c < 256 → s[p] = UInt8.ofNat c → s.size ≤ 65536 → Tk w b s (p + 1) → Home w → 6 ≤ b →
  Calls Tryz.prog 65 #[.pointer (some ⟨b, 0, none⟩), .int .u8 (c : Int), .int .i64 (i : Int)] w fun r w' => ∃ k t ok q, r = .returned (.tuple #[.int .i64 k, .string t, .bool ok]) ∧ p + 1 ≤ q ∧ q ≤ s.size ∧ Tk w' b s q ∧ Mv b w w' ∧
    (ok = true ∧ val (4 - i) ((bl s).drop p) = some (q - p) ∧ k = kindOf (bl (s.extract p q)) ∧ bl t = bodyOf (bl (s.extract p q)) ∨ ok = false ∧ val (4 - i) ((bl s).drop p) = none)
set_option maxRecDepth 20000 in
set_option maxHeartbeats 1600000 in
theorem behind_of (i : Nat) (hv : Hid (ValuesC i)) : BehindC i := by
  intro b s p c w hp hc hb hs ht hw h6
  have HT : Hid (Tk w b s (p + 1)) := ht
  have HW : Hid (Home w) := hw
  have H6 : Hid (6 ≤ b) := h6
  have HB : Hid (s[p] = UInt8.ofNat c) := hb
  clear hb hw h6
  by_cases h1 : c = 110
  · subst h1
    have hy := take_word hp (.inl HB.out) (4 - i)
    have ho := one_byte hp
    rw [HB.out] at ho
    have HY : Hid (val (4 - i) ((bl s).drop p) = some 1 ∧ bl (s.extract p (p + 1)) = [110]) := ⟨hy, ho⟩
    clear hy ho ht
    go_enter Tryz.func65, Tryz.ntmps65
    go_wp2
    go_ret3
    refine ⟨_, _, true, p + 1, rfl, Nat.le_refl _, hp, HT.out, Mv.refl _ _, .inl ⟨rfl, ?_, ?_, ?_⟩⟩
    · rw [HY.out.1]; congr 1; omega
    · rw [HY.out.2]; rfl
    · rw [HY.out.2]; rfl
  by_cases h2 : c = 116 ∨ c = 102
  · have hy := take_word hp (by rcases h2 with rfl | rfl; exact .inr (.inl HB.out); exact .inr (.inr HB.out)) (4 - i)
    have ho := one_byte hp
    rw [HB.out] at ho
    have HY : Hid (val (4 - i) ((bl s).drop p) = some 1 ∧ bl (s.extract p (p + 1)) = [UInt8.ofNat c]) := ⟨hy, ho⟩
    have c0 := ht.text
    have c1 := ht.at
    rw [show ((p + 1 : Nat) : Int) = (p : Int) + 1 from by omega] at c1
    have x1 : IntKind.i64.wrap ((p : Int) + 1 - 1) = (p : Int) := by rw [IntKind.wrap_i64]; omega
    have j0 : (0 : Int) ≤ (p : Int) := Int.natCast_nonneg _
    have j1 : (p : Int) ≤ (p : Int) + 1 := by omega
    have j2 : (p : Int) + 1 ≤ (s.size : Int) := by omega
    have j3 : ((p : Int) + 1).toNat = p + 1 := by omega
    clear hy ho ht h1
    rcases h2 with rfl | rfl
    all_goals
      go_enter Tryz.func65, Tryz.ntmps65
      go_wp2_with fail
      go_quiet (fail)
      go_wp2
      go_ret3
      refine ⟨_, _, true, p + 1, rfl, Nat.le_refl _, hp, HT.out.later (drewN_below _ _), Mv.of (drewN_below _ _), .inl ⟨rfl, ?_, ?_, ?_⟩⟩
      · rw [HY.out.1]; congr 1; omega
      · rw [HY.out.2]; rfl
      · rw [HY.out.2]; rfl
  by_cases h3 : c = 105
  · subst h3
    clear h1 h2 ht
    cases hk : numAt 59 ((bl s).drop (p + 1)) with
    | none =>
      have HK : Hid (numAt 59 ((bl s).drop (p + 1)) = none) := hk
      clear hk
      go_enter Tryz.func65, Tryz.ntmps65
      go_wp2_with fail
      refine (digitsN b s (p + 1) hp hs HK w HT HW H6).mono ?_
      rintro e w1 ⟨t, q, rfl, q1, q2, t1, m1⟩
      have H1 : Hid (Tk w1 b s q ∧ Mv b w w1) := ⟨t1, m1⟩
      clear t1 m1
      go_wp2
      go_ret3
      exact ⟨_, _, false, q, rfl, q1, q2, H1.out.1, H1.out.2, .inr ⟨rfl, int_no hp HB.out HK.out _⟩⟩
    | some y =>
      obtain ⟨j, x⟩ := y
      have HK : Hid (numAt 59 ((bl s).drop (p + 1)) = some (j, x)) := hk
      clear hk
      go_enter Tryz.func65, Tryz.ntmps65
      go_wp2_with fail
      refine (digitsY b s (p + 1) j x hs HK w HT HW H6).mono ?_
      rintro e w1 ⟨rfl, t1, m1⟩
      have H1 : Hid (Tk w1 b s (p + 1 + j + 1) ∧ Mv b w w1) := ⟨t1, m1⟩
      clear t1 m1
      go_wp2
      go_ret3
      obtain ⟨y1, y2, y3, y4⟩ := int_yes hp HB.out HK.out (4 - i)
      exact ⟨_, _, true, p + 1 + j + 1, rfl, by omega, by omega, H1.out.1, H1.out.2, .inl ⟨rfl, y1, y2.symm, y3.symm⟩⟩
  by_cases h4 : c = 115
  · subst h4
    clear h1 h2 h3 ht
    by_cases hk : ∃ j n : Nat, numAt 58 ((bl s).drop (p + 1)) = some (j, (n : Int)) ∧ p + 1 + j + 1 + n ≤ s.size
    · obtain ⟨j, n, k1, k2⟩ := hk
      have HK : Hid (numAt 58 ((bl s).drop (p + 1)) = some (j, (n : Int))) := k1
      clear k1
      go_enter Tryz.func65, Tryz.ntmps65
      go_wp2_with fail
      refine (bytesY b s (p + 1) j n hs HK (p + 1 + j + 1) rfl k2 w HT HW H6).mono ?_
      rintro e w1 ⟨rfl, t1, m1⟩
      have H1 : Hid (Tk w1 b s (p + 1 + j + 1 + n) ∧ Mv b w w1) := ⟨t1, m1⟩
      clear t1 m1
      go_wp2
      go_ret3
      obtain ⟨y1, y2, y3⟩ := cnt_yes hp HB.out HK.out k2 (4 - i)
      exact ⟨_, _, true, p + 1 + j + 1 + n, rfl, by omega, by omega, H1.out.1, H1.out.2, .inl ⟨rfl, y1, y2.symm, y3.symm⟩⟩
    · have HK : Hid (NoBytes s (p + 1)) := fun j n e => by
        by_cases c : p + 1 + j + 1 + n ≤ s.size
        · exact absurd ⟨j, n, e, c⟩ hk
        · omega
      clear hk
      go_enter Tryz.func65, Tryz.ntmps65
      go_wp2_with fail
      refine (bytesN b s (p + 1) hp hs HK w HT HW H6).mono ?_
      rintro e w1 ⟨t, q, rfl, q1, q2, t1, m1⟩
      have H1 : Hid (Tk w1 b s q ∧ Mv b w w1) := ⟨t1, m1⟩
      clear t1 m1
      go_wp2
      go_ret3
      exact ⟨_, _, false, q, rfl, q1, q2, H1.out.1, H1.out.2, .inr ⟨rfl, cnt_no hp HB.out HK.out _⟩⟩
  by_cases h5 : c = 91 ∨ c = 123
  · clear h1 h2 h3 h4 ht
    have HN : Hid (s[p] = 91 ∨ s[p] = 123) := by rcases h5 with rfl | rfl; exact .inl HB.out; exact .inr HB.out
    rcases h5 with rfl | rfl
    · have HS : Hid (s[p] + 2 = UInt8.ofNat 93) := by unfold Hid; rw [HB.out]; rfl
      go_enter Tryz.func65, Tryz.ntmps65
      go_wp2_with fail
      refine (hv.out b s (p + 1) 93 w (by omega) hp hs HT.out HW.out H6.out).mono ?_
      rintro e w1 ⟨t, ok, q, rfl, q1, q2, t1, m1, hz⟩
      have H1 : Hid (Tk w1 b s q ∧ Mv b w w1) := ⟨t1, m1⟩
      have HZ : Hid (ok = true ∧ manyZ (below (4 - i)) (UInt8.ofNat 93) s (p + 1) = (q : Int) ∧ t = s.extract (p + 1) (q - 1) ∨ ok = false ∧ manyZ (below (4 - i)) (UInt8.ofNat 93) s (p + 1) = -1) := hz
      clear t1 m1 hz
      go_wp2
      go_ret3
      refine ⟨_, _, ok, q, rfl, q1, q2, H1.out.1, H1.out.2, ?_⟩
      rcases HZ.out with ⟨rfl, hz, rfl⟩ | ⟨rfl, hz⟩
      · rw [← HS.out] at hz
        obtain ⟨y1, _, _, y2, y3⟩ := nest_yes hp HN.out hz
        rw [if_pos (show s[p] = 91 from HB.out)] at y2
        exact .inl ⟨rfl, y1, y2.symm, y3.symm⟩
      · rw [← HS.out] at hz
        exact .inr ⟨rfl, nest_no hp HN.out hz⟩
    · have HS : Hid (s[p] + 2 = UInt8.ofNat 125) := by unfold Hid; rw [HB.out]; rfl
      go_enter Tryz.func65, Tryz.ntmps65
      go_wp2_with fail
      refine (hv.out b s (p + 1) 125 w (by omega) hp hs HT.out HW.out H6.out).mono ?_
      rintro e w1 ⟨t, ok, q, rfl, q1, q2, t1, m1, hz⟩
      have H1 : Hid (Tk w1 b s q ∧ Mv b w w1) := ⟨t1, m1⟩
      have HZ : Hid (ok = true ∧ manyZ (below (4 - i)) (UInt8.ofNat 125) s (p + 1) = (q : Int) ∧ t = s.extract (p + 1) (q - 1) ∨ ok = false ∧ manyZ (below (4 - i)) (UInt8.ofNat 125) s (p + 1) = -1) := hz
      clear t1 m1 hz
      go_wp2
      go_ret3
      refine ⟨_, _, ok, q, rfl, q1, q2, H1.out.1, H1.out.2, ?_⟩
      rcases HZ.out with ⟨rfl, hz, rfl⟩ | ⟨rfl, hz⟩
      · rw [← HS.out] at hz
        obtain ⟨y1, _, _, y2, y3⟩ := nest_yes hp HN.out hz
        rw [if_neg (by rw [HB.out]; decide)] at y2
        exact .inl ⟨rfl, y1, y2.symm, y3.symm⟩
      · rw [← HS.out] at hz
        exact .inr ⟨rfl, nest_no hp HN.out hz⟩
  · have HO : Hid (val (4 - i) ((bl s).drop p) = none) := by
      refine other_no hp ?_ _
      rw [HB.out]
      have key : ∀ n, n < 256 → c ≠ n → UInt8.ofNat c ≠ UInt8.ofNat n := fun n hn h e => h (by
        have := congrArg UInt8.toNat e
        rw [byte_nat c hc, byte_nat n hn] at this
        exact this)
      exact ⟨key 110 (by omega) h1, key 116 (by omega) (fun e => h2 (.inl e)), key 102 (by omega) (fun e => h2 (.inr e)), key 105 (by omega) h3, key 115 (by omega) h4, key 91 (by omega) (fun e => h5 (.inl e)), key 123 (by omega) (fun e => h5 (.inr e))⟩
    have n1 : ((c : Int) == 110) = false := by rw [beq_eq_false_iff_ne]; omega
    have n2 : ((c : Int) == 116) = false := by rw [beq_eq_false_iff_ne]; omega
    have n3 : ((c : Int) == 102) = false := by rw [beq_eq_false_iff_ne]; omega
    have n4 : ((c : Int) == 105) = false := by rw [beq_eq_false_iff_ne]; omega
    have n5 : ((c : Int) == 115) = false := by rw [beq_eq_false_iff_ne]; omega
    have n6 : ((c : Int) == 91) = false := by rw [beq_eq_false_iff_ne]; omega
    have n7 : ((c : Int) == 123) = false := by rw [beq_eq_false_iff_ne]; omega
    clear h1 h2 h3 h4 h5 ht
    go_enter Tryz.func65, Tryz.ntmps65
    go_wp2
    go_ret3
    exact ⟨_, _, false, p + 1, rfl, Nat.le_refl _, hp, HT.out, Mv.refl _ _, .inr ⟨rfl, HO.out⟩⟩
/-- A value that was taken, in a block. -/
structure Bx (w : World) (g : Nat) (k : Int) (v c : ByteArray) : Prop where
  blk : w.heap[g]? = some (.cells #[.int .i64 k, .string v, .string c] 46 (0, 0))
theorem Bx.lt {w : World} {g : Nat} {k : Int} {v c : ByteArray} (h : Bx w g k v c) : g < w.heap.size := by
  by_cases d : g < w.heap.size
  · exact d
  · have := h.blk
    rw [Array.getElem?_eq_none (by omega)] at this
    cases this
theorem Bx.c0 {w : World} {g : Nat} {k : Int} {v c : ByteArray} (h : Bx w g k v c) : w.cell? ⟨g, 0, none⟩ = some (.int .i64 k) := by simp [World.cell?, h.blk]
theorem Bx.c1 {w : World} {g : Nat} {k : Int} {v c : ByteArray} (h : Bx w g k v c) : w.cell? ⟨g, 1, none⟩ = some (.string v) := by simp [World.cell?, h.blk]
theorem Bx.c2 {w : World} {g : Nat} {k : Int} {v c : ByteArray} (h : Bx w g k v c) : w.cell? ⟨g, 2, none⟩ = some (.string c) := by simp [World.cell?, h.blk]
theorem Bx.fz {w : World} {g : Nat} {k : Int} {v c : ByteArray} (h : Bx w g k v c) (o : Nat) : w.frozen? ⟨g, o, none⟩ = false := by simp [World.frozen?, h.blk]
theorem Bx.later {w w' : World} {g : Nat} {k : Int} {v c : ByteArray} (h : Bx w g k v c) (hb : Below w.heap.size w w') : Bx w' g k v c := ⟨(hb.block g h.lt).trans h.blk⟩
theorem Bx.move {b : Nat} {w w' : World} {g : Nat} {k : Int} {v c : ByteArray} (h : Bx w g k v c) (hm : Mv b w w') (hg : g ≠ b) : Bx w' g k v c := ⟨(hm.block g h.lt hg).trans h.blk⟩
theorem Bx.put {w : World} {g : Nat} {k : Int} {v c : ByteArray} (h : Bx w g k v c) (k' : Int) (v' c' : ByteArray) :
    ∃ w1, ((w.setCell ⟨g, 0, none⟩ (.int .i64 k')).setCell ⟨g, 1, none⟩ (.string v')).setCell ⟨g, 2, none⟩ (.string c') = w1 ∧ Bx w1 g k' v' c' ∧ Mv g w w1 := by
  refine ⟨_, rfl, ⟨?_⟩, ((Mv.set g w 0 _).trans (Mv.set g _ 1 _)).trans (Mv.set g _ 2 _)⟩
  simp only [World.setCell, Array.getElem?_modify, if_true, h.blk, Option.map_some]
  rfl
theorem Mv.own {b g : Nat} {u v w : World} (h : Mv b u v) (k : Mv g v w) (hg : u.heap.size ≤ g) : Mv b u w :=
  ⟨k.os.trans h.os, k.tape.trans h.tape, k.output.trans h.output, Nat.le_trans h.size k.size, fun i hi hb => (k.block i (Nat.lt_of_lt_of_le hi h.size) (by omega)).trans (h.block i hi hb)⟩
theorem Tk.move {w w' : World} {b g : Nat} {s : ByteArray} {p : Nat} (h : Tk w b s p) (hm : Mv g w w') (hg : b ≠ g) : Tk w' b s p := ⟨(hm.block b h.lt hg).trans h.blk⟩
theorem box3 (w : World) (k : Int) (v c : ByteArray) : ∃ w1, w.alloc (.cells #[.int .i64 k, .string v, .string c] 46) = w1 ∧ Bx w1 w.heap.size k v c ∧ Below w.heap.size w w1 ∧ w1.heap.size = w.heap.size + 1 :=
  ⟨_, rfl, ⟨heap_alloc_new _ _⟩, (Below.refl _ _).alloc (Nat.le_refl _) _, by simp⟩
set_option maxRecDepth 20000 in
set_option maxHeartbeats 1600000 in
theorem take_five : TakeC 5 := by
  intro b s p w hp hs ht hw h6
  have HT : Hid (Tk w b s p) := ht
  clear ht hw h6
  have b1 : Below w.heap.size w (w.alloc (.cells #[.int .i64 0, .string ⟨#[]⟩, .string ⟨#[]⟩] 46)) := (Below.refl _ _).alloc (Nat.le_refl _) _
  go_enter Tryz.func44, Tryz.ntmps44
  go_wp2_with fail
  exact bodyPost_ret (v := .tuple #[.agg #[.int .i64 0, .string ⟨#[]⟩, .string ⟨#[]⟩], .bool false]) (by simp [results, Tryz.results44, go_sem]) rfl ⟨_, _, _, _, p, rfl, Nat.le_refl _, hp, HT.out.later b1, Mv.of b1, .inr ⟨rfl, rfl⟩⟩
set_option maxRecDepth 20000 in
set_option maxHeartbeats 1600000 in
theorem take_of (i : Nat) (hi : i ≤ 4) (hv : Hid (BehindC i)) : TakeC i := by
  intro b s p w hp hs ht hw h6
  have HT : Hid (Tk w b s p) := ht
  have HW : Hid (Home w) := hw
  have H6 : Hid (6 ≤ b) := h6
  clear ht hw h6
  have hi2 : ¬ (4 : Int) < (i : Int) := by omega
  have HG : Hid (w.heap.size ≠ b) := by have := HT.out.lt; unfold Hid; omega
  obtain ⟨w1, e1, x1, b1, z1⟩ := box3 w 0 ⟨#[]⟩ ⟨#[]⟩
  have t1 := HT.out.later b1
  by_cases hq : p < s.size
  · have hd := done_no p s.size hq
    go_enter Tryz.func44, Tryz.ntmps44
    go_wp2_with fail
    refine (doneC b s p false hd w1 t1).mono ?_
    rintro e w2 ⟨rfl, m, hw2⟩
    have hb2 := drewN_below w1 m
    rw [← hw2] at hb2
    have t2 := t1.later hb2
    have x2 := x1.later hb2
    have hb02 := bel2 b1 hb2
    clear hw2 hb2 t1 x1 e1 z1
    have c0 := t2.text
    have c1 := t2.at
    go_wp2_with fail
    clear c0 c1
    have HC : Hid (s[p] = UInt8.ofNat s[p].toNat) := by unfold Hid; simp
    have hc : s[p].toNat < 256 := s[p].toBitVec.isLt
    refine (signC b s p s[p].toNat hq hs rfl w2 t2).mono ?_
    rintro e w3 ⟨rfl, t3, m3⟩
    have x3 := x2.move m3 HG.out
    have m03 := (Mv.of hb02).trans m3
    clear m3 t2 x2 hb02
    generalize s[p].toNat = c at *
    go_wp2_with fail
    refine (hv.out b s p c w3 hq hc HC.out hs t3 (HW.out.move m03 H6.out) H6.out).mono ?_
    rintro e w4 ⟨k, t, ok, q, rfl, q1, q2, t4, m4, hok⟩
    have x4 := x3.move m4 HG.out
    have m04 := m03.trans m4
    have HOK : Hid (ok = true ∧ val (4 - i) ((bl s).drop p) = some (q - p) ∧ k = kindOf (bl (s.extract p q)) ∧ bl t = bodyOf (bl (s.extract p q)) ∨ ok = false ∧ val (4 - i) ((bl s).drop p) = none) := hok
    clear m4 t3 x3 m03 hok
    have c0 := t4.text
    have c1 := t4.at
    have d0 := x4.c0
    have d1 := x4.c1
    have d2 := x4.c2
    have f0 := x4.fz 0
    have f1 := x4.fz 1
    have f2 := x4.fz 2
    have j0 : (0 : Int) ≤ (p : Int) := Int.natCast_nonneg _
    have j1 : (p : Int) ≤ (q : Int) := by omega
    have j2 : (q : Int) ≤ (s.size : Int) := by omega
    have j3 : (0 : Int) ≤ (q : Int) := by omega
    obtain ⟨w5, e5, x5, m5⟩ := x4.put k (s.extract p q) t
    have t5 := t4.move m5 (fun e => HG.out e.symm)
    have m05 := m04.own m5 (Nat.le_refl _)
    clear x4 m5 t4 m04
    go_wp2_with fail
    go_region
    clear c0 c1 d0 d1 d2 f0 f1 f2 e5
    have d0 := x5.c0
    have d1 := x5.c1
    have d2 := x5.c2
    have hdr := drewN_below w5 1
    go_wp2
    refine bodyPost_ret (v := .tuple #[.agg #[.int .i64 k, .string (s.extract p q), .string t], .bool ok]) (by simp [results, Tryz.results44, go_sem, d0, d1, d2]) rfl ⟨_, _, _, ok, q, rfl, by omega, q2, t5.later hdr, m05.trans (Mv.of hdr), ?_⟩
    have hbe : below (5 - i) = val (4 - i) := by
      rw [show 5 - i = (4 - i) + 1 from by omega]
      rfl
    rw [hbe]
    rcases HOK.out with ⟨o1, o2, o3, o4⟩ | ⟨o1, o2⟩
    · exact .inl ⟨o1, o2, rfl, o3, o4⟩
    · exact .inr ⟨o1, o2⟩
  · obtain rfl : p = s.size := by omega
    have hd : (((s.size : Nat) : Int) == ((s.size : Nat) : Int)) = true := beq_self_eq_true _
    go_enter Tryz.func44, Tryz.ntmps44
    go_wp2_with fail
    refine (doneC b s s.size true hd w1 t1).mono ?_
    rintro e w2 ⟨rfl, m, hw2⟩
    have hb2 := drewN_below w1 m
    rw [← hw2] at hb2
    have t2 := t1.later hb2
    have x2 := x1.later hb2
    have hb02 := bel2 b1 hb2
    clear hw2 hb2 t1 x1 e1 z1
    have d0 := x2.c0
    have d1 := x2.c1
    have d2 := x2.c2
    have f0 := x2.fz 0
    have f1 := x2.fz 1
    have f2 := x2.fz 2
    obtain ⟨w5, e5, x5, m5⟩ := x2.put 0 ⟨#[]⟩ ⟨#[]⟩
    have t5 := t2.move m5 (fun e => HG.out e.symm)
    have m05 := (Mv.of (b := b) hb02).own m5 (Nat.le_refl _)
    clear x2 m5 t2 hb02
    go_wp2
    clear d0 d1 d2 f0 f1 f2 e5
    have d0 := x5.c0
    have d1 := x5.c1
    have d2 := x5.c2
    refine bodyPost_ret (v := .tuple #[.agg #[.int .i64 0, .string ⟨#[]⟩, .string ⟨#[]⟩], .bool false]) (by simp [results, Tryz.results44, go_sem, d0, d1, d2]) rfl ⟨_, _, _, false, s.size, rfl, Nat.le_refl _, Nat.le_refl _, t5, m05, .inr ⟨rfl, ?_⟩⟩
    rw [bl_drop_out s s.size (Nat.le_refl _), show 5 - i = (4 - i) + 1 from by omega]
    show val (4 - i) [] = none
    rw [val_below]
    rfl
theorem take_all : ∀ i, i ≤ 5 → TakeC i := by
  intro i hi
  obtain ⟨d, rfl⟩ : ∃ d, i = 5 - d := ⟨5 - i, by omega⟩
  have key : ∀ d, d ≤ 5 → TakeC (5 - d) := by
    intro d
    induction d with
    | zero => intro _; exact take_five
    | succ d ih =>
      intro h
      have h1 := ih (by omega)
      rw [show 5 - d = 5 - (d + 1) + 1 from by omega] at h1
      exact take_of _ (by omega) (behind_of _ (values_of _ (by omega) h1))
  by_cases h : d ≤ 5
  · exact key d h
  · rw [show 5 - d = 5 - 5 from by omega]
    exact key 5 (Nat.le_refl _)
end Go.Proofs.YtejgjipmnmfkcaaGreatDoor.Val
