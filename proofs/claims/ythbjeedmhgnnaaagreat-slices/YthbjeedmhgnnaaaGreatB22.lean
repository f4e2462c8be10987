/-
  Several texts in one: What the library's functions compute that the program calls, at this seat's numbers: contracts of the library, laid. · An array copied as the document's kernels copy it (CopyArray), as slice does (copied): contracts. · A slice of an array: the program's, the document's: contracts.
-/
import Derived.Shelf.LaysM
import Derived.Shelf.Strconv.Clone
import Derived.Test.YthbjeedmhgnnaaaGreatProg
import Derived.Test.YthbjeedmhgnnaaaGreatB13
import Derived.Test.YthbjeedmhgnnaaaGreatB09
import Derived.Test.YthbjeedmhgnnaaaGreatB20
import Derived.Test.YthbjeedmhgnnaaaGreatB19
import Derived.Test.YthbjeedmhgnnaaaGreatB21
import Derived.Test.YthbjeedmhgnnaaaGreatB14
namespace Go.Proofs
open Go.Shelf
def Tryz.laysM316_ren : Go.Shelf.Ren := ⟨fun | 316 => 101 | n => n, fun | 9 => 9 | 3 => 3 | 4 => 4 | 37 => 37 | 0 => 0 | 127 => 126 | 5 => 5 | n => n, fun | n => n⟩
theorem Tryz.laysM316 : Go.Proofs.LaysM.n316 Tryz.prog Tryz.laysM316_ren := {
  mixed := by kernel_rfl
  f316 := Tryz.func101.trans (congrArg some (by kernel_rfl))
  t0 := Tryz.underlying0
  a0 := Tryz.isAgg0
  z0 := Tryz.sizeOf0
  v0 := Tryz.zeroValue0
  t3 := Tryz.underlying3
  a3 := Tryz.isAgg3
  z3 := Tryz.sizeOf3
  v3 := Tryz.zeroValue3
  t4 := Tryz.underlying4
  a4 := Tryz.isAgg4
  z4 := Tryz.sizeOf4
  v4 := Tryz.zeroValue4
  t9 := Tryz.underlying9
  a9 := Tryz.isAgg9
  z9 := Tryz.sizeOf9
  v9 := Tryz.zeroValue9
  t37 := Tryz.underlying37
  a37 := Tryz.isAgg37
  z37 := Tryz.sizeOf37
  v37 := Tryz.zeroValue37
  t127 := Tryz.underlying126
  a127 := Tryz.isAgg126
  z127 := Tryz.sizeOf126
  v127 := Tryz.zeroValue126
  t5 := Tryz.underlying5
  a5 := Tryz.isAgg5
  z5 := Tryz.sizeOf5
  v5 := Tryz.zeroValue5
  i0 := by kernel_rfl
  i3 := by kernel_rfl
  i4 := by kernel_rfl
  i5 := by kernel_rfl
  i9 := by kernel_rfl
  i37 := by kernel_rfl
  i127 := by kernel_rfl }
open Go.RowKit in
theorem Tryz.stringslite_Clone (s : ByteArray) (w : World) (hlim : s.size ≤ 281474976710656) :
    Calls Tryz.prog 101 #[.string s] w fun e w' => e = .returned (.string s) ∧ Below w.heap.size w w' := Any.stringslite_Clone Tryz.laysM316 s w hlim
end Go.Proofs
set_option linter.unusedVariables false
set_option linter.unusedSimpArgs false
namespace Go.Proofs.YthbjeedmhgnnaaaGreat.Arr
open Go.ChangeShapes Go.WideShapes Go.ChangeAt Go.RowKit
open Tree Val

/-- Not too much stands in it, at any depth. -/
def fewF : Nat → Arr → Prop
  | 0, _ => True
  | f + 1, a => a.kids.length * 96 ≤ 140737488355328 ∧ a.valid.size ≤ 140737488355328 ∧ a.ends.size ≤ 140737488355328 ∧ a.data.size ≤ 140737488355328 ∧ ∀ i, i < a.kids.length → fewF f (kidAt a i)
theorem few_of_may {ns : List Nd} (hm : May ns) : ∀ {f n : Nat} {a : Arr}, n < ns.length → mayF ns f n a = true → fewF f a := by
  intro f
  induction f with
  | zero => intro n a _ _; exact True.intro
  | succ f ih =>
    intro n a hn h
    obtain ⟨hh, hc⟩ := mayF_cases h
    have h1 := hh.valid
    have h2 := hh.ends
    have h3 := hh.data
    have hmost := hm.most
    rcases hc with ⟨hl, hp⟩ | ⟨hl, hf, hk1, hk0, hk, _⟩
    · have hkl : a.kids = [] ∨ (a.kids.length = (kids ns n).length ∧ ∀ i, i < (kids ns n).length → mayF ns f (kAt ns n i) (kidAt a i) = true) := by
        rcases kinds hm hn with e | e | e | e | e
        · refine .inl ?_
          unfold plainB at hp
          rw [if_pos e, Bool.and_eq_true] at hp
          have := hp.1
          unfold bare at this
          rw [Bool.and_eq_true, List.isEmpty_iff] at this
          exact this.2
        · refine .inl ?_
          unfold plainB at hp
          rw [if_neg (by omega), if_pos e, Bool.and_eq_true] at hp
          have := hp.1
          unfold bare at this
          rw [Bool.and_eq_true, List.isEmpty_iff] at this
          exact this.2
        · refine .inl ?_
          unfold plainB at hp
          rw [if_neg (by omega), if_neg (by omega), if_pos e, Bool.and_eq_true, List.isEmpty_iff] at hp
          exact hp.1
        · have hL := list_of e hp
          have h1k := hm.list n hn e
          have hk1 : a.kids.length = 1 := by
            unfold plainB at hp
            rw [if_neg (by omega), if_neg (by omega), if_neg (by omega), if_pos e] at hp
            simp only [Bool.and_eq_true, decide_eq_true_eq] at hp
            exact hp.1.1.2
          refine .inr ⟨by omega, fun i hi => ?_⟩
          obtain rfl : i = 0 := by omega
          exact hL.may
        · have hS := struct_of e hp
          have hks : a.kids.length = (kids ns n).length := by
            unfold plainB at hp
            rw [if_neg (by omega), if_neg (by omega), if_neg (by omega), if_neg (by omega)] at hp
            simp only [Bool.and_eq_true, decide_eq_true_eq] at hp
            exact hp.1.2
          exact .inr ⟨hks, fun i hi => hS.may i hi⟩
      rcases hkl with e | ⟨e, hkm⟩
      · refine ⟨by rw [e]; simp, by omega, by omega, by omega, fun i hi => ?_⟩
        rw [e] at hi; exact absurd hi (Nat.not_lt_zero _)
      · have hkn : (kids ns n).length ≤ ns.length := length_kidsTo ns n ns.length
        refine ⟨by omega, by omega, by omega, by omega, fun i hi => ih (kid_of hm (by omega)).2.1 (hkm i (by omega))⟩
    · refine ⟨by omega, by omega, by omega, by omega, fun i hi => ?_⟩
      obtain rfl : i = 0 := by omega
      exact ih hn hk
/-- What CopyArray answers. -/
def CopyF (B f : Nat) : Prop := ∀ (a : Arr) (o : Option Addr) (cap : Nat) (w : World), HoldsF B 96 w f (a.cells o cap) a → fewF f a →
  Calls Tryz.prog 12 #[a.val o cap] w fun r w' => ∃ o' cap', r = .returned (a.val o' cap') ∧ HoldsO B w' f (fun b => w.heap.size ≤ b) (a.cells o' cap') a ∧ Below w.heap.size w w'
set_option maxRecDepth 20000 in
set_option maxHeartbeats 3200000 in
theorem copyF_step (B f : Nat) (ih : Hid (CopyF B f)) : CopyF B (f + 1) := by
  intro a o cap w hH hW
  obtain ⟨i27, hi, hz0, hz1, hz2⟩ := info_parts info27
  obtain ⟨w1, e1, x1, b1, z1⟩ := box7 w a o cap
  obtain ⟨w2, e2', x2, b2, z2⟩ := box7 w1 nil none 0
  have e2 : w1.alloc (.cells #[.int .i64 0, .int .i64 0, .int .i64 0, .string ⟨#[]⟩, .string ⟨#[]⟩, .string ⟨#[]⟩, .slice none 0 0] 30) = w2 := e2'
  clear e2'
  have B2 : Hid (Below w.heap.size w w2) := bel2 b1 b2
  have X1 : Hid (Bx w2 w.heap.size a o cap) := x1.later b2
  have X2 : Hid (Bx w2 w1.heap.size nil none 0) := x2
  have HH : Hid (HoldsF B 96 w (f + 1) (a.cells o cap) a) := hH
  have hlen : a.kids.length ≤ 9223372036854775807 := by have := (hH.ok').2.1; unfold maxLen at this; omega
  have hmem : a.kids.length * 96 ≤ 140737488355328 := hW.1
  have HW : Hid (fewF (f + 1) a) := hW
  have d6 := X1.out.c6
  unfold Arr.val
  clear x1 x2 b1 b2 hH
  go_enter Tryz.func12, Tryz.ntmps12
  go_wp2_with fail
  go_loopw [3, 4] (fun v t wr => ∃ k : Nat, ∃ css, k ≤ a.kids.length ∧ t = .int .i64 (k : Int) ∧ Copied B f a w2.heap.size k v wr css ∧ Below w2.heap.size w2 wr) (fun _ t _ => a.kids.length - (intOf t).toNat)
  case atStart => exact ⟨0, [], Nat.zero_le _, rfl, copied0 _ _ _ _ _, Below.refl _ _⟩
  case round =>
    obtain ⟨k, css, hk, rfl, hcp, hbl⟩ := hrel
    have BL : Hid (Below w2.heap.size w2 wr) := hbl
    have CP : Hid (Copied B f a w2.heap.size k _ wr css) := hcp
    have Y1 := X1.out.later hbl
    have hown := hcp.own
    clear d6 hbl hcp
    have d6 := Y1.c6
    obtain ⟨ov, cv, rfl⟩ := ownsRow_len hown
    by_cases hlt : k < a.kids.length
    · obtain ⟨xk, ok, ck, rfl, hkid, hkh⟩ := HH.out.kid (i := k) hlt
      have BR : Hid (Below w.heap.size w wr) := bel2 B2.out BL.out
      have KC := hkid.later BR.out
      have k0 := KC.k0
      have k1 := KC.k1
      have k2 := KC.k2
      have k3 := KC.k3
      have k4 := KC.k4
      have k5 := KC.k5
      have k6 := KC.k6
      have HMM : Hid (Calls Tryz.prog 12 #[(kidAt a k).val ok ck] wr fun r w' => ∃ o' cap', r = .returned ((kidAt a k).val o' cap') ∧ HoldsO B w' f (fun b => wr.heap.size ≤ b) ((kidAt a k).cells o' cap') (kidAt a k) ∧ Below wr.heap.size wr w') := ih.out (kidAt a k) ok ck wr (hkh.later BR.out) (HW.out.2.2.2.2 k hlt)
      have i1 : (k : Int) < ((a.kids.length : Nat) : Int) := by omega
      have i0 : (0 : Int) ≤ (k : Int) := Int.natCast_nonneg _
      unfold Arr.val at HMM
      clear KC hkid hkh Y1 hown
      have HKK : Hid (∃ kk, kk = kidAt a k) := ⟨_, rfl⟩
      go_wp2_with fail
      refine HMM.out.mono ?_
      rintro e w4 ⟨ok', ck', rfl, hho, hb4⟩
      have HO4 : Hid (HoldsO B w4 f (fun b => wr.heap.size ≤ b) ((kidAt a k).cells ok' ck') (kidAt a k)) := hho
      have B4 : Hid (Below wr.heap.size wr w4) := hb4
      clear hho k0 k1 k2 k3 k4 k5 k6 hb4
      have hown4 : w4.ownsRow w2.heap.size 30 7 (.slice ov k cv) k css.flatten := ownsRow_grown CP.out.own B4.out
      have hsz : w2.heap.size ≤ w4.heap.size := Nat.le_trans BL.out.size B4.out.size
      go_wp2_with (at_builtin; refine wpList_append_own_at _ rfl (.tmp 12) (.tmp 19) 28 rfl w2.heap.size 30 i27 _ 7 96 Tryz.underlying28 hi hz0 hz1 hz2 rfl (by decide) _ k _ rfl (hown4.alloc _) ⟨w4.heap.size, 0, none⟩ 1 1 ((kidAt a k).cells ok' ck') rfl rfl ?c1 ?c2 ?c3 ?c4 ?c5 ?_)
      case c1 =>
        intro i u hi
        match i, hi with
        | 0, hi => simp [Arr.cells] at hi; subst hi; simp [Addr.add]
        | 1, hi => simp [Arr.cells] at hi; subst hi; simp [Addr.add]
        | 2, hi => simp [Arr.cells] at hi; subst hi; simp [Addr.add]
        | 3, hi => simp [Arr.cells] at hi; subst hi; simp [Addr.add]
        | 4, hi => simp [Arr.cells] at hi; subst hi; simp [Addr.add]
        | 5, hi => simp [Arr.cells] at hi; subst hi; simp [Addr.add]
        | 6, hi => simp [Arr.cells] at hi; subst hi; simp [Addr.add]
      case c2 => intro u hu; simp [Arr.cells] at hu; rcases hu with rfl | rfl | rfl | rfl | rfl | rfl | rfl <;> rfl
      case c3 => unfold maxLen; omega
      case c4 => omega
      case c5 => simp; omega
      intro v' w5 hown' hgrow _ hblk
      have HN : Hid (Copied B f a w2.heap.size (k + 1) v' w5 (css ++ [(kidAt a k).cells ok' ck'])) := 
        CP.out.step BL.out.size B4.out rfl ((HO4.out.lt)) hown' (grown_alloc hgrow) (n5 := w4.heap.size + 1) (Nat.le_succ _) (by simpa using hblk)
      have HB5 : Hid (Below w2.heap.size w2 w5) := (bel2 BL.out ((B4.out).alloc B4.out.size _)).grown hgrow (by simp; omega) (fun i hi => (hown4.lt i hi).1)
      clear hown4 hown' hgrow hblk d6
      go_wp2
      go_roundw
      case rel => exact ⟨k + 1, _, by omega, by go_num, HN.out, HB5.out⟩
      case measure => simp [intOf]; omega
    · obtain rfl : k = a.kids.length := by omega
      have HR : Hid (Bx wr w.heap.size a o cap) := Y1
      have HR2 : Hid (Bx wr w1.heap.size nil none 0) := X2.out.later BL.out
      have r0 := Y1.c0
      have r1 := Y1.c1
      have r2 := Y1.c2
      have r3 := Y1.c3
      have r4 := Y1.c4
      have r5 := Y1.c5
      have hf := Y1.fz 6
      have m0 := HR2.out.c0
      have m1 := HR2.out.c1
      have m2 := HR2.out.c2
      have m3 := HR2.out.c3
      have m4 := HR2.out.c4
      have m5 := HR2.out.c5
      have m6 := HR2.out.c6
      have n0 := HR2.out.fz 0
      have n1 := HR2.out.fz 1
      have n2 := HR2.out.fz 2
      have n3 := HR2.out.fz 3
      have n4 := HR2.out.fz 4
      have n5 := HR2.out.fz 5
      have n6 := HR2.out.fz 6
      have hp1 : ¬ w.heap.size = w1.heap.size := by omega
      have hp2 : ¬ w1.heap.size = w.heap.size := by omega
      clear Y1 hown
      go_wp2
      have hbx : Bx (wr.setCell ⟨w.heap.size, 6, none⟩ (.slice ov a.kids.length cv)) w1.heap.size nil none 0 := ⟨(Below.heap_setCell _ _ _ _ hp2).trans HR2.out.blk⟩
      obtain ⟨w9, e9, x9, h9, b9⟩ := set7 hbx a ov cv
      rw [e9]
      have HB9 : Hid (Below w.heap.size w w9) := ((bel2 B2.out BL.out).setCell (Nat.le_refl _) _).trans (b9 w.heap.size (by omega))
      have HO9 : Hid (HoldsO B w9 (f + 1) (fun b => w2.heap.size ≤ b) (a.cells ov cv) a) := CP.out.done HH.out.ok'.1 (fun b hb _ => (h9 b (by omega)).trans (Below.heap_setCell _ _ _ _ (by simp; omega)))
      have q0 := x9.c0
      have q1 := x9.c1
      have q2 := x9.c2
      have q3 := x9.c3
      have q4 := x9.c4
      have q5 := x9.c5
      have q6 := x9.c6
      exact bodyPost_ret (v := .agg #[.int .i64 a.layout, .int .i64 a.offset, .int .i64 a.length, .string a.valid, .string a.ends, .string a.data, .slice ov a.kids.length cv]) (by simp [results, Tryz.results12, go_sem, q0, q1, q2, q3, q4, q5, q6]) rfl ⟨ov, cv, rfl, HO9.out.stays (fun b _ => rfl) (fun b hb => by omega), HB9.out⟩
theorem copyF (B : Nat) : ∀ f, CopyF B f := by
  intro f
  induction f with
  | zero => intro a o cap w hH _; cases hH
  | succ f ih => exact copyF_step B f ih
/-- What CopyArray of the kernels answers. -/
def KopyC (B f : Nat) : Prop := ∀ (a : Arr) (o : Option Addr) (cap : Nat) (w : World), HoldsF B 96 w f (a.cells o cap) a → fewF f a →
  Calls Tryz.prog 38 #[a.val o cap] w fun r w' => ∃ o' cap', r = .returned (a.val o' cap') ∧ HoldsO B w' f (fun b => w.heap.size ≤ b) (a.cells o' cap') a ∧ Below w.heap.size w w'
set_option maxRecDepth 20000 in
set_option maxHeartbeats 3200000 in
theorem kopy_step (B f : Nat) (ih : Hid (KopyC B f)) : KopyC B (f + 1) := by
  intro a o cap w hH hW
  obtain ⟨i27, hi, hz0, hz1, hz2⟩ := info_parts info27
  obtain ⟨w1, e1, x1, b1, z1⟩ := box7 w a o cap
  obtain ⟨w2, e2', x2, b2, z2⟩ := box7 w1 nil none 0
  have e2 : w1.alloc (.cells #[.int .i64 0, .int .i64 0, .int .i64 0, .string ⟨#[]⟩, .string ⟨#[]⟩, .string ⟨#[]⟩, .slice none 0 0] 30) = w2 := e2'
  clear e2'
  have B2 : Hid (Below w.heap.size w w2) := bel2 b1 b2
  have X1 : Hid (Bx w2 w.heap.size a o cap) := x1.later b2
  have X2 : Hid (Bx w2 w1.heap.size nil none 0) := x2
  have HH : Hid (HoldsF B 96 w (f + 1) (a.cells o cap) a) := hH
  have hlen : a.kids.length ≤ 9223372036854775807 := by have := (hH.ok').2.1; unfold maxLen at this; omega
  have hmem : a.kids.length * 96 ≤ 140737488355328 := hW.1
  have HW : Hid (fewF (f + 1) a) := hW
  have d6 := X1.out.c6
  unfold Arr.val
  clear x1 x2 b1 b2 hH
  go_enter Tryz.func38, Tryz.ntmps38
  go_wp2_with fail
  go_loopw [3, 4] (fun v t wr => ∃ k : Nat, ∃ css, k ≤ a.kids.length ∧ t = .int .i64 (k : Int) ∧ Copied B f a w2.heap.size k v wr css ∧ Below w2.heap.size w2 wr) (fun _ t _ => a.kids.length - (intOf t).toNat)
  case atStart => exact ⟨0, [], Nat.zero_le _, rfl, copied0 _ _ _ _ _, Below.refl _ _⟩
  case round =>
    obtain ⟨k, css, hk, rfl, hcp, hbl⟩ := hrel
    have BL : Hid (Below w2.heap.size w2 wr) := hbl
    have CP : Hid (Copied B f a w2.heap.size k _ wr css) := hcp
    have Y1 := X1.out.later hbl
    have hown := hcp.own
    clear d6 hbl hcp
    have d6 := Y1.c6
    obtain ⟨ov, cv, rfl⟩ := ownsRow_len hown
    by_cases hlt : k < a.kids.length
    · obtain ⟨xk, ok, ck, rfl, hkid, hkh⟩ := HH.out.kid (i := k) hlt
      have BR : Hid (Below w.heap.size w wr) := bel2 B2.out BL.out
      have KC := hkid.later BR.out
      have k0 := KC.k0
      have k1 := KC.k1
      have k2 := KC.k2
      have k3 := KC.k3
      have k4 := KC.k4
      have k5 := KC.k5
      have k6 := KC.k6
      have HMM : Hid (Calls Tryz.prog 38 #[(kidAt a k).val ok ck] wr fun r w' => ∃ o' cap', r = .returned ((kidAt a k).val o' cap') ∧ HoldsO B w' f (fun b => wr.heap.size ≤ b) ((kidAt a k).cells o' cap') (kidAt a k) ∧ Below wr.heap.size wr w') := ih.out (kidAt a k) ok ck wr (hkh.later BR.out) (HW.out.2.2.2.2 k hlt)
      have i1 : (k : Int) < ((a.kids.length : Nat) : Int) := by omega
      have i0 : (0 : Int) ≤ (k : Int) := Int.natCast_nonneg _
      unfold Arr.val at HMM
      clear KC hkid hkh Y1 hown
      have HKK : Hid (∃ kk, kk = kidAt a k) := ⟨_, rfl⟩
      go_wp2_with fail
      refine HMM.out.mono ?_
      rintro e w4 ⟨ok', ck', rfl, hho, hb4⟩
      have HO4 : Hid (HoldsO B w4 f (fun b => wr.heap.size ≤ b) ((kidAt a k).cells ok' ck') (kidAt a k)) := hho
      have B4 : Hid (Below wr.heap.size wr w4) := hb4
      clear hho k0 k1 k2 k3 k4 k5 k6 hb4
      have hown4 : w4.ownsRow w2.heap.size 30 7 (.slice ov k cv) k css.flatten := ownsRow_grown CP.out.own B4.out
      have hsz : w2.heap.size ≤ w4.heap.size := Nat.le_trans BL.out.size B4.out.size
      go_wp2_with (at_builtin; refine wpList_append_own_at _ rfl (.tmp 12) (.tmp 19) 28 rfl w2.heap.size 30 i27 _ 7 96 Tryz.underlying28 hi hz0 hz1 hz2 rfl (by decide) _ k _ rfl (hown4.alloc _) ⟨w4.heap.size, 0, none⟩ 1 1 ((kidAt a k).cells ok' ck') rfl rfl ?c1 ?c2 ?c3 ?c4 ?c5 ?_)
      case c1 =>
        intro i u hi
        match i, hi with
        | 0, hi => simp [Arr.cells] at hi; subst hi; simp [Addr.add]
        | 1, hi => simp [Arr.cells] at hi; subst hi; simp [Addr.add]
        | 2, hi => simp [Arr.cells] at hi; subst hi; simp [Addr.add]
        | 3, hi => simp [Arr.cells] at hi; subst hi; simp [Addr.add]
        | 4, hi => simp [Arr.cells] at hi; subst hi; simp [Addr.add]
        | 5, hi => simp [Arr.cells] at hi; subst hi; simp [Addr.add]
        | 6, hi => simp [Arr.cells] at hi; subst hi; simp [Addr.add]
      case c2 => intro u hu; simp [Arr.cells] at hu; rcases hu with rfl | rfl | rfl | rfl | rfl | rfl | rfl <;> rfl
      case c3 => unfold maxLen; omega
      case c4 => omega
      case c5 => simp; omega
      intro v' w5 hown' hgrow _ hblk
      have HN : Hid (Copied B f a w2.heap.size (k + 1) v' w5 (css ++ [(kidAt a k).cells ok' ck'])) := 
        CP.out.step BL.out.size B4.out rfl ((HO4.out.lt)) hown' (grown_alloc hgrow) (n5 := w4.heap.size + 1) (Nat.le_succ _) (by simpa using hblk)
      have HB5 : Hid (Below w2.heap.size w2 w5) := (bel2 BL.out ((B4.out).alloc B4.out.size _)).grown hgrow (by simp; omega) (fun i hi => (hown4.lt i hi).1)
      clear hown4 hown' hgrow hblk d6
      go_wp2
      go_roundw
      case rel => exact ⟨k + 1, _, by omega, by go_num, HN.out, HB5.out⟩
      case measure => simp [intOf]; omega
    · obtain rfl : k = a.kids.length := by omega
      have HR : Hid (Bx wr w.heap.size a o cap) := Y1
      have HR2 : Hid (Bx wr w1.heap.size nil none 0) := X2.out.later BL.out
      have r0 := Y1.c0
      have r1 := Y1.c1
      have r2 := Y1.c2
      have r3 := Y1.c3
      have r4 := Y1.c4
      have r5 := Y1.c5
      have hf := Y1.fz 6
      have m0 := HR2.out.c0
      have m1 := HR2.out.c1
      have m2 := HR2.out.c2
      have m3 := HR2.out.c3
      have m4 := HR2.out.c4
      have m5 := HR2.out.c5
      have m6 := HR2.out.c6
      have n0 := HR2.out.fz 0
      have n1 := HR2.out.fz 1
      have n2 := HR2.out.fz 2
      have n3 := HR2.out.fz 3
      have n4 := HR2.out.fz 4
      have n5 := HR2.out.fz 5
      have n6 := HR2.out.fz 6
      have hp1 : ¬ w.heap.size = w1.heap.size := by omega
      have hp2 : ¬ w1.heap.size = w.heap.size := by omega
      clear Y1 hown
      go_wp2
      have hbx : Bx (wr.setCell ⟨w.heap.size, 6, none⟩ (.slice ov a.kids.length cv)) w1.heap.size nil none 0 := ⟨(Below.heap_setCell _ _ _ _ hp2).trans HR2.out.blk⟩
      obtain ⟨w9, e9, x9, h9, b9⟩ := set7 hbx a ov cv
      rw [e9]
      have HB9 : Hid (Below w.heap.size w w9) := ((bel2 B2.out BL.out).setCell (Nat.le_refl _) _).trans (b9 w.heap.size (by omega))
      have HO9 : Hid (HoldsO B w9 (f + 1) (fun b => w2.heap.size ≤ b) (a.cells ov cv) a) := CP.out.done HH.out.ok'.1 (fun b hb _ => (h9 b (by omega)).trans (Below.heap_setCell _ _ _ _ (by simp; omega)))
      have q0 := x9.c0
      have q1 := x9.c1
      have q2 := x9.c2
      have q3 := x9.c3
      have q4 := x9.c4
      have q5 := x9.c5
      have q6 := x9.c6
      exact bodyPost_ret (v := .agg #[.int .i64 a.layout, .int .i64 a.offset, .int .i64 a.length, .string a.valid, .string a.ends, .string a.data, .slice ov a.kids.length cv]) (by simp [results, Tryz.results38, go_sem, q0, q1, q2, q3, q4, q5, q6]) rfl ⟨ov, cv, rfl, HO9.out.stays (fun b _ => rfl) (fun b hb => by omega), HB9.out⟩
theorem kopyA (B : Nat) : ∀ f, KopyC B f := by
  intro f
  induction f with
  | zero => intro a o cap w hH _; cases hH
  | succ f ih => exact kopy_step B f ih
/-- A text cloned. -/
theorem clone (s : ByteArray) (hs : s.size ≤ 281474976710656) (w : World) : Calls Tryz.prog 75 #[.string s] w fun r w' => r = .returned (.string s) ∧ Below w.heap.size w w' := by
  go_enter Tryz.func75, Tryz.ntmps75
  go_wp2_with fail
  refine (Tryz.stringslite_Clone s w hs).mono ?_
  rintro e w' ⟨rfl, hb⟩
  go_wp2
  go_ret
  exact ⟨rfl, hb⟩
/-- A field written over by what it was. -/
theorem Bx.same3 {w : World} {g : Nat} {a : Arr} {o : Option Addr} {cap : Nat} (h : Bx w g a o cap) : ∃ w', w.setCell ⟨g, 3, none⟩ (.string a.valid) = w' ∧ Bx w' g a o cap ∧ (∀ b, b ≠ g → w'.heap[b]? = w.heap[b]?) ∧ (∀ B, B ≤ g → Below B w w') :=
  ⟨_, rfl, ⟨by rw [blk_set h.blk 3]; rfl⟩, fun b hb => Below.heap_setCell _ _ _ _ hb, fun B hB => (Below.refl _ _).setCell hB _⟩
theorem Bx.same4 {w : World} {g : Nat} {a : Arr} {o : Option Addr} {cap : Nat} (h : Bx w g a o cap) : ∃ w', w.setCell ⟨g, 4, none⟩ (.string a.ends) = w' ∧ Bx w' g a o cap ∧ (∀ b, b ≠ g → w'.heap[b]? = w.heap[b]?) ∧ (∀ B, B ≤ g → Below B w w') :=
  ⟨_, rfl, ⟨by rw [blk_set h.blk 4]; rfl⟩, fun b hb => Below.heap_setCell _ _ _ _ hb, fun B hB => (Below.refl _ _).setCell hB _⟩
theorem Bx.same5 {w : World} {g : Nat} {a : Arr} {o : Option Addr} {cap : Nat} (h : Bx w g a o cap) : ∃ w', w.setCell ⟨g, 5, none⟩ (.string a.data) = w' ∧ Bx w' g a o cap ∧ (∀ b, b ≠ g → w'.heap[b]? = w.heap[b]?) ∧ (∀ B, B ≤ g → Below B w w') :=
  ⟨_, rfl, ⟨by rw [blk_set h.blk 5]; rfl⟩, fun b hb => Below.heap_setCell _ _ _ _ hb, fun B hB => (Below.refl _ _).setCell hB _⟩
theorem Bx.kids6 {w : World} {g : Nat} {a : Arr} {o : Option Addr} {cap : Nat} (h : Bx w g a o cap) (o' : Option Addr) (cap' : Nat) : ∃ w', w.setCell ⟨g, 6, none⟩ (.slice o' a.kids.length cap') = w' ∧ Bx w' g a o' cap' ∧ (∀ b, b ≠ g → w'.heap[b]? = w.heap[b]?) ∧ (∀ B, B ≤ g → Below B w w') :=
  ⟨_, rfl, ⟨by rw [blk_set h.blk 6]; rfl⟩, fun b hb => Below.heap_setCell _ _ _ _ hb, fun B hB => (Below.refl _ _).setCell hB _⟩
/-- What copied answers. -/
def KopiedC (B f : Nat) : Prop := ∀ (a : Arr) (o : Option Addr) (cap : Nat) (w : World), HoldsF B 96 w f (a.cells o cap) a → fewF f a →
  Calls Tryz.prog 37 #[a.val o cap] w fun r w' => ∃ o' cap', r = .returned (a.val o' cap') ∧ HoldsO B w' f (fun b => w.heap.size ≤ b) (a.cells o' cap') a ∧ Below w.heap.size w w'
set_option maxRecDepth 20000 in
set_option maxHeartbeats 3200000 in
theorem kopied_step (B f : Nat) (ih : Hid (KopiedC B f)) : KopiedC B (f + 1) := by
  intro a o cap w hH hW
  obtain ⟨i27, hi, hz0, hz1, hz2⟩ := info_parts info27
  obtain ⟨w1, e1, x1, b1, z1⟩ := box7 w a o cap
  obtain ⟨w2, e2', x2, b2, z2⟩ := box7 w1 nil none 0
  have e2 : w1.alloc (.cells #[.int .i64 0, .int .i64 0, .int .i64 0, .string ⟨#[]⟩, .string ⟨#[]⟩, .string ⟨#[]⟩, .slice none 0 0] 30) = w2 := e2'
  clear e2'
  have B2 : Hid (Below w.heap.size w w2) := bel2 b1 b2
  have X1 : Hid (Bx w2 w.heap.size a o cap) := x1.later b2
  have X2 : Hid (Bx w2 w1.heap.size nil none 0) := x2
  have HH : Hid (HoldsF B 96 w (f + 1) (a.cells o cap) a) := hH
  have HSZ : Hid (a.valid.size ≤ 140737488355328 ∧ a.ends.size ≤ 140737488355328 ∧ a.data.size ≤ 140737488355328) := ⟨hW.2.1, hW.2.2.1, hW.2.2.2.1⟩
  have HZ12 : Hid (w.heap.size < w1.heap.size ∧ w1.heap.size < w2.heap.size) := ⟨z1, z2⟩
  have hlen : a.kids.length ≤ 9223372036854775807 := by have := (hH.ok').2.1; unfold maxLen at this; omega
  have hmem : a.kids.length * 96 ≤ 140737488355328 := hW.1
  have HW : Hid (fewF (f + 1) a) := hW
  have d6 := X1.out.c6
  unfold Arr.val
  clear x1 x2 b1 b2 hH
  go_enter Tryz.func37, Tryz.ntmps37
  go_wp2_with fail
  go_loopw [3, 9] (fun v t wr => ∃ k : Nat, ∃ css, k ≤ a.kids.length ∧ t = .int .i64 (k : Int) ∧ Copied B f a w2.heap.size k v wr css ∧ Below w2.heap.size w2 wr) (fun _ t _ => a.kids.length - (intOf t).toNat)
  case atStart => exact ⟨0, [], Nat.zero_le _, rfl, copied0 _ _ _ _ _, Below.refl _ _⟩
  case round =>
    obtain ⟨k, css, hk, rfl, hcp, hbl⟩ := hrel
    have BL : Hid (Below w2.heap.size w2 wr) := hbl
    have CP : Hid (Copied B f a w2.heap.size k _ wr css) := hcp
    have YL : Hid (Bx wr w.heap.size a o cap) := X1.out.later hbl
    have hown := hcp.own
    clear d6 hbl hcp
    obtain ⟨ov, cv, rfl⟩ := ownsRow_len hown
    by_cases hlt : k < a.kids.length
    · obtain ⟨xk, ok, ck, rfl, hkid, hkh⟩ := HH.out.kid (i := k) hlt
      have BR : Hid (Below w.heap.size w wr) := bel2 B2.out BL.out
      have KC := hkid.later BR.out
      have k0 := KC.k0
      have k1 := KC.k1
      have k2 := KC.k2
      have k3 := KC.k3
      have k4 := KC.k4
      have k5 := KC.k5
      have k6 := KC.k6
      obtain ⟨w4, e4', x4, b4, z4⟩ := box7 wr nil none 0
      have e4 : wr.alloc (.cells #[.int .i64 0, .int .i64 0, .int .i64 0, .string ⟨#[]⟩, .string ⟨#[]⟩, .string ⟨#[]⟩, .slice none 0 0] 30) = w4 := e4'
      have m0 := x4.c0
      have m1 := x4.c1
      have m2 := x4.c2
      have m3 := x4.c3
      have m4 := x4.c4
      have m5 := x4.c5
      have m6 := x4.c6
      have f0 := x4.fz 0
      have f1 := x4.fz 1
      have f2 := x4.fz 2
      have f3 := x4.fz 3
      have f4 := x4.fz 4
      have f5 := x4.fz 5
      have f6 := x4.fz 6
      obtain ⟨w5, e5, x5, h5, b5⟩ := set7 x4 (kidAt a k) ok ck
      have HX5 : Hid (Bx w5 wr.heap.size (kidAt a k) ok ck) := x5
      have B5 : Hid (Below wr.heap.size wr w5) := b4.trans (b5 _ (Nat.le_refl _))
      have HMM : Hid (Calls Tryz.prog 37 #[(kidAt a k).val ok ck] w5 fun r w' => ∃ o' cap', r = .returned ((kidAt a k).val o' cap') ∧ HoldsO B w' f (fun b => w5.heap.size ≤ b) ((kidAt a k).cells o' cap') (kidAt a k) ∧ Below w5.heap.size w5 w') := ih.out (kidAt a k) ok ck w5 (hkh.later (bel2 BR.out B5.out)) (HW.out.2.2.2.2 k hlt)
      have i1 : (k : Int) < ((a.kids.length : Nat) : Int) := by omega
      have i0 : (0 : Int) ≤ (k : Int) := Int.natCast_nonneg _
      unfold Arr.val at HMM
      clear KC hkid hkh hown e4' x4 b4 x5 h5 b5
      have HKK : Hid (∃ kk, kk = kidAt a k) := ⟨_, rfl⟩
      go_upto_region 5 with fail
      try rw [e5]
      clear e5 e4 m0 m1 m2 m3 m4 m5 m6 f0 f1 f2 f3 f4 f5 f6 k0 k1 k2 k3 k4 k5 k6
      have y0 := HX5.out.c0
      have y1 := HX5.out.c1
      have y2 := HX5.out.c2
      have y3 := HX5.out.c3
      have y4 := HX5.out.c4
      have y5 := HX5.out.c5
      have y6 := HX5.out.c6
      go_wp2_with fail
      refine HMM.out.mono ?_
      rintro e w6 ⟨ok', ck', rfl, hho, hb6⟩
      have HO6 : Hid (HoldsO B w6 f (fun b => w5.heap.size ≤ b) ((kidAt a k).cells ok' ck') (kidAt a k)) := hho
      have B6 : Hid (Below wr.heap.size wr w6) := bel2 B5.out hb6
      clear hho y0 y1 y2 y3 y4 y5 y6 hb6
      have hown6 : w6.ownsRow w2.heap.size 30 7 (.slice ov k cv) k css.flatten := ownsRow_grown CP.out.own B6.out
      have hsz : w2.heap.size ≤ w6.heap.size := Nat.le_trans BL.out.size B6.out.size
      have hs5 : wr.heap.size ≤ w5.heap.size := B5.out.size
      go_wp2_with (at_builtin; refine wpList_append_own_at _ rfl (.tmp 13) (.tmp 16) 28 rfl w2.heap.size 30 i27 _ 7 96 Tryz.underlying28 hi hz0 hz1 hz2 rfl (by decide) _ k _ rfl (hown6.alloc _) ⟨w6.heap.size, 0, none⟩ 1 1 ((kidAt a k).cells ok' ck') rfl rfl ?c1 ?c2 ?c3 ?c4 ?c5 ?_)
      case c1 =>
        intro i u hi
        match i, hi with
        | 0, hi => simp [Arr.cells] at hi; subst hi; simp [Addr.add]
        | 1, hi => simp [Arr.cells] at hi; subst hi; simp [Addr.add]
        | 2, hi => simp [Arr.cells] at hi; subst hi; simp [Addr.add]
        | 3, hi => simp [Arr.cells] at hi; subst hi; simp [Addr.add]
        | 4, hi => simp [Arr.cells] at hi; subst hi; simp [Addr.add]
        | 5, hi => simp [Arr.cells] at hi; subst hi; simp [Addr.add]
        | 6, hi => simp [Arr.cells] at hi; subst hi; simp [Addr.add]
      case c2 => intro u hu; simp [Arr.cells] at hu; rcases hu with rfl | rfl | rfl | rfl | rfl | rfl | rfl <;> rfl
      case c3 => unfold maxLen; omega
      case c4 => omega
      case c5 => simp; omega
      intro v' w7 hown' hgrow _ hblk
      have HN : Hid (Copied B f a w2.heap.size (k + 1) v' w7 (css ++ [(kidAt a k).cells ok' ck'])) := 
        CP.out.step BL.out.size B6.out rfl (HO6.out.lt.stays (fun b _ => rfl) (fun b hb => ⟨Nat.le_trans hs5 hb.1, hb.2⟩)) hown' (grown_alloc hgrow) (n5 := w6.heap.size + 1) (Nat.le_succ _) (by simpa using hblk)
      have HB7 : Hid (Below w2.heap.size w2 w7) := (bel2 BL.out ((B6.out).alloc B6.out.size _)).grown hgrow (by simp; omega) (fun i hi => (hown6.lt i hi).1)
      clear hown6 hown' hgrow hblk
      go_wp2
      go_roundw
      case rel => exact ⟨k + 1, _, by omega, by go_num, HN.out, HB7.out⟩
      case measure => simp [intOf]; omega
    · obtain rfl : k = a.kids.length := by omega
      have HLE : Hid (w.heap.size ≤ wr.heap.size) := Nat.le_trans B2.out.size BL.out.size
      have HR2 : Hid (Bx wr w1.heap.size nil none 0) := X2.out.later BL.out
      have HL1 : Hid (w1.heap.size < wr.heap.size) := HR2.out.lt
      clear hown
      go_wp2_with fail
      have KR : Hid (wr.drew.cell? ⟨w.heap.size, 3, none⟩ = some (.string a.valid) ∧ wr.drew.cell? ⟨w.heap.size, 4, none⟩ = some (.string a.ends) ∧ wr.drew.cell? ⟨w.heap.size, 5, none⟩ = some (.string a.data)) := by
        have Y := YL.out.later (drewN_below wr 1)
        exact ⟨Y.c3, Y.c4, Y.c5⟩
      refine wp_region_noPanic ?_
      refine wp_region_held_drew (S := fun W : World => W.cell? ⟨w.heap.size, 3, none⟩ = some (.string a.valid) ∧ W.cell? ⟨w.heap.size, 4, none⟩ = some (.string a.ends) ∧ W.cell? ⟨w.heap.size, 5, none⟩ = some (.string a.data)) (by kernel_rfl) KR.out (fun h0 => ?_)
      have XD : Hid (Bx wr.drew w.heap.size a o cap) := YL.out.later (drewN_below _ _)
      have BD : Hid (Below wr.heap.size wr wr.drew) := drewN_below _ _
      generalize wr.drew = wd at *
      refine take_at (i := 0) (d := some 19) (v := ?v0a) rfl rfl (by kernel_rfl) (by kernel_rfl) (by kernel_rfl) (fun _ _ _ h => h) (Or.inl ⟨by rfl, ?y0a⟩) h0 ?r0a
      case y0a => (intro w' hSw; (try dsimp only at hSw); go_simp; try with_reducible rfl)
      try simp only [Act.put, List.setIfInBounds_toArray, List.set_cons_zero, List.set_cons_succ]
      refine take_at (i := 3) (d := some 22) (v := ?v3a) rfl rfl (by kernel_rfl) (by kernel_rfl) (by kernel_rfl) (fun _ _ _ h => h) (Or.inl ⟨by rfl, ?y3a⟩) h0 ?r3a
      case y3a => (intro w' hSw; (try dsimp only at hSw); go_simp; try with_reducible rfl)
      try simp only [Act.put, List.setIfInBounds_toArray, List.set_cons_zero, List.set_cons_succ]
      refine take_at (i := 6) (d := some 25) (v := ?v6a) rfl rfl (by kernel_rfl) (by kernel_rfl) (by kernel_rfl) (fun _ _ _ h => h) (Or.inl ⟨by rfl, ?y6a⟩) h0 ?r6a
      case y6a => (intro w' hSw; (try dsimp only at hSw); go_simp; try with_reducible rfl)
      try simp only [Act.put, List.setIfInBounds_toArray, List.set_cons_zero, List.set_cons_succ]
      refine take_at (i := 9) (d := some 28) (v := ?v9a) rfl rfl (by kernel_rfl) (by kernel_rfl) (by kernel_rfl) (fun _ _ _ h => h) (Or.inl ⟨by rfl, ?y9a⟩) h0 ?r9a
      case y9a => (intro w' hSw; (try dsimp only at hSw); go_simp; try with_reducible rfl)
      try simp only [Act.put, List.setIfInBounds_toArray, List.set_cons_zero, List.set_cons_succ]
      refine take_at (i := 1) (d := some 20) (v := ?v1a) rfl rfl (by kernel_rfl) (by kernel_rfl) (by kernel_rfl) (fun _ _ _ h => h) (Or.inl ⟨by rfl, ?y1a⟩) h0 ?r1a
      case y1a => (intro w' hSw; (try dsimp only at hSw); go_simp; try with_reducible rfl)
      try simp only [Act.put, List.setIfInBounds_toArray, List.set_cons_zero, List.set_cons_succ]
      refine take_at (i := 4) (d := some 23) (v := ?v4a) rfl rfl (by kernel_rfl) (by kernel_rfl) (by kernel_rfl) (fun _ _ _ h => h) (Or.inl ⟨by rfl, ?y4a⟩) h0 ?r4a
      case y4a => (intro w' hSw; (try dsimp only at hSw); go_simp; try with_reducible rfl)
      try simp only [Act.put, List.setIfInBounds_toArray, List.set_cons_zero, List.set_cons_succ]
      refine take_at (i := 7) (d := some 26) (v := ?v7a) rfl rfl (by kernel_rfl) (by kernel_rfl) (by kernel_rfl) (fun _ _ _ h => h) (Or.inl ⟨by rfl, ?y7a⟩) h0 ?r7a
      case y7a => (intro w' hSw; (try dsimp only at hSw); go_simp; try with_reducible rfl)
      try simp only [Act.put, List.setIfInBounds_toArray, List.set_cons_zero, List.set_cons_succ]
      refine wpAnyH_ready (rs := [2]) (by kernel_rfl) (by simp) ?_
      refine AllReadyH.cons rfl (fun K hK => ?_) AllReadyH.nil
      go_simp
      go_at_call 75
      refine (clone a.valid (by have := HSZ.out.1; omega) wd).mono ?_
      rintro e wc0 ⟨rfl, bb0⟩
      have X0 : Hid (Bx wc0 w.heap.size a o cap) := XD.out.later bb0
      have B0c : Hid (Below wr.heap.size wr wc0) := bel2 BD.out bb0
      clear bb0
      refine hK.out _ _ (⟨X0.out.c3, X0.out.c4, X0.out.c5⟩) (fun h1 => ?_)
      clear hK K
      try simp only [Act.put, List.setIfInBounds_toArray, List.set_cons_zero, List.set_cons_succ]
      refine take_at (i := 10) (d := some 29) (v := ?v10b) rfl rfl (by kernel_rfl) (by kernel_rfl) (by kernel_rfl) (fun _ _ _ h => h) (Or.inl ⟨by rfl, ?y10b⟩) h1 ?r10b
      case y10b => (intro w' hSw; (try dsimp only at hSw); go_simp; try with_reducible rfl)
      try simp only [Act.put, List.setIfInBounds_toArray, List.set_cons_zero, List.set_cons_succ]
      refine wpAnyH_ready (rs := [5]) (by kernel_rfl) (by simp) ?_
      refine AllReadyH.cons rfl (fun K hK => ?_) AllReadyH.nil
      go_simp
      go_at_call 75
      refine (clone a.ends (by have := HSZ.out.2.1; omega) wc0).mono ?_
      rintro e wc1 ⟨rfl, bb1⟩
      have X1 : Hid (Bx wc1 w.heap.size a o cap) := X0.out.later bb1
      have B1c : Hid (Below wr.heap.size wr wc1) := bel2 B0c.out bb1
      clear bb1
      refine hK.out _ _ (⟨X1.out.c3, X1.out.c4, X1.out.c5⟩) (fun h2 => ?_)
      clear hK K
      try simp only [Act.put, List.setIfInBounds_toArray, List.set_cons_zero, List.set_cons_succ]
      refine wpAnyH_ready (rs := [8]) (by kernel_rfl) (by simp) ?_
      refine AllReadyH.cons rfl (fun K hK => ?_) AllReadyH.nil
      go_simp
      go_at_call 75
      refine (clone a.data (by have := HSZ.out.2.2; omega) wc1).mono ?_
      rintro e wc2 ⟨rfl, bb2⟩
      have X2 : Hid (Bx wc2 w.heap.size a o cap) := X1.out.later bb2
      have B2c : Hid (Below wr.heap.size wr wc2) := bel2 B1c.out bb2
      clear bb2
      refine hK.out _ _ (⟨X2.out.c3, X2.out.c4, X2.out.c5⟩) (fun h3 => ?_)
      clear hK K
      try simp only [Act.put, List.setIfInBounds_toArray, List.set_cons_zero, List.set_cons_succ]
      have gg0 := X2.out.c3
      have zz0 := X2.out.fz 3
      refine wpAnyH_ready (rs := [11]) (by kernel_rfl) (by simp) ?_
      refine AllReadyH.cons rfl (fun K hK => ?_) AllReadyH.nil
      go_simp
      obtain ⟨ws0, es0, xs0, hs0, bs0⟩ := X2.out.same3
      rw [es0]
      have Z0 : Hid (Bx ws0 w.heap.size a o cap) := xs0
      have Y0c : Hid (Below w.heap.size wr ws0 ∧ ∀ b, b ≠ w.heap.size → b < wr.heap.size → ws0.heap[b]? = wr.heap[b]?) := ⟨(B2c.out.mono HLE.out).trans (bs0 _ (Nat.le_refl _)), fun b hb hl => (hs0 b hb).trans (B2c.out.block b hl)⟩
      clear es0 xs0 hs0 bs0
      refine hK.out _ _ (⟨Z0.out.c3, Z0.out.c4, Z0.out.c5⟩) (fun hh1 => ?_)
      clear hK K
      try simp only [Act.put, List.setIfInBounds_toArray, List.set_cons_zero, List.set_cons_succ]
      clear gg0 zz0
      refine take_at (i := 12) (d := some 30) (v := ?v12c) rfl rfl (by kernel_rfl) (by kernel_rfl) (by kernel_rfl) (fun _ _ _ h => h) (Or.inl ⟨by rfl, ?y12c⟩) hh1 ?r12c
      case y12c => (intro w' hSw; (try dsimp only at hSw); go_simp; try with_reducible rfl)
      try simp only [Act.put, List.setIfInBounds_toArray, List.set_cons_zero, List.set_cons_succ]
      have gg1 := Z0.out.c4
      have zz1 := Z0.out.fz 4
      refine wpAnyH_ready (rs := [13]) (by kernel_rfl) (by simp) ?_
      refine AllReadyH.cons rfl (fun K hK => ?_) AllReadyH.nil
      go_simp
      obtain ⟨ws1, es1, xs1, hs1, bs1⟩ := Z0.out.same4
      rw [es1]
      have Z1 : Hid (Bx ws1 w.heap.size a o cap) := xs1
      have Y1c : Hid (Below w.heap.size wr ws1 ∧ ∀ b, b ≠ w.heap.size → b < wr.heap.size → ws1.heap[b]? = wr.heap[b]?) := ⟨Y0c.out.1.trans (bs1 _ (Nat.le_refl _)), fun b hb hl => (hs1 b hb).trans (Y0c.out.2 b hb hl)⟩
      clear es1 xs1 hs1 bs1
      refine hK.out _ _ (⟨Z1.out.c3, Z1.out.c4, Z1.out.c5⟩) (fun hh2 => ?_)
      clear hK K
      try simp only [Act.put, List.setIfInBounds_toArray, List.set_cons_zero, List.set_cons_succ]
      clear gg1 zz1
      refine take_at (i := 14) (d := some 31) (v := ?v14c) rfl rfl (by kernel_rfl) (by kernel_rfl) (by kernel_rfl) (fun _ _ _ h => h) (Or.inl ⟨by rfl, ?y14c⟩) hh2 ?r14c
      case y14c => (intro w' hSw; (try dsimp only at hSw); go_simp; try with_reducible rfl)
      try simp only [Act.put, List.setIfInBounds_toArray, List.set_cons_zero, List.set_cons_succ]
      have gg2 := Z1.out.c5
      have zz2 := Z1.out.fz 5
      refine wpAnyH_ready (rs := [15]) (by kernel_rfl) (by simp) ?_
      refine AllReadyH.cons rfl (fun K hK => ?_) AllReadyH.nil
      go_simp
      obtain ⟨ws2, es2, xs2, hs2, bs2⟩ := Z1.out.same5
      rw [es2]
      have Z2 : Hid (Bx ws2 w.heap.size a o cap) := xs2
      have Y2c : Hid (Below w.heap.size wr ws2 ∧ ∀ b, b ≠ w.heap.size → b < wr.heap.size → ws2.heap[b]? = wr.heap[b]?) := ⟨Y1c.out.1.trans (bs2 _ (Nat.le_refl _)), fun b hb hl => (hs2 b hb).trans (Y1c.out.2 b hb hl)⟩
      clear es2 xs2 hs2 bs2
      refine hK.out _ _ (⟨Z2.out.c3, Z2.out.c4, Z2.out.c5⟩) (fun hh3 => ?_)
      clear hK K
      try simp only [Act.put, List.setIfInBounds_toArray, List.set_cons_zero, List.set_cons_succ]
      clear gg2 zz2
      refine take_at (i := 16) (d := some 32) (v := ?v16c) rfl rfl (by kernel_rfl) (by kernel_rfl) (by kernel_rfl) (fun _ _ _ h => h) (Or.inl ⟨by rfl, ?y16c⟩) hh3 ?r16c
      case y16c => (intro w' hSw; (try dsimp only at hSw); go_simp; try with_reducible rfl)
      try simp only [Act.put, List.setIfInBounds_toArray, List.set_cons_zero, List.set_cons_succ]
      have gg3 := Z2.out.c6
      have zz3 := Z2.out.fz 6
      refine wpAnyH_ready (rs := [17]) (by kernel_rfl) (by simp) ?_
      refine AllReadyH.cons rfl (fun K hK => ?_) AllReadyH.nil
      go_simp
      obtain ⟨ws3, es3, xs3, hs3, bs3⟩ := Z2.out.kids6 ov cv
      rw [es3]
      have Z3 : Hid (Bx ws3 w.heap.size a ov cv) := xs3
      have Y3c : Hid (Below w.heap.size wr ws3 ∧ ∀ b, b ≠ w.heap.size → b < wr.heap.size → ws3.heap[b]? = wr.heap[b]?) := ⟨Y2c.out.1.trans (bs3 _ (Nat.le_refl _)), fun b hb hl => (hs3 b hb).trans (Y2c.out.2 b hb hl)⟩
      clear es3 xs3 hs3 bs3
      refine hK.out _ _ (⟨Z3.out.c3, Z3.out.c4, Z3.out.c5⟩) (fun hh4 => ?_)
      clear hK K
      try simp only [Act.put, List.setIfInBounds_toArray, List.set_cons_zero, List.set_cons_succ]
      clear gg3 zz3
      refine wpAnyH_done (by kernel_rfl) ?_ _
      refine NoPanic.normal ?_
      have NB : Hid (w1.heap.size ≠ w.heap.size) := by have := HZ12.out; unfold Hid; omega
      have HW1 : Hid (Bx ws3 w1.heap.size nil none 0) := ⟨(Y3c.out.2 _ NB.out HL1.out).trans HR2.out.blk⟩
      have r0 := Z3.out.c0
      have r1 := Z3.out.c1
      have r2 := Z3.out.c2
      have r3 := Z3.out.c3
      have r4 := Z3.out.c4
      have r5 := Z3.out.c5
      have r6 := Z3.out.c6
      have m0 := HW1.out.c0
      have m1 := HW1.out.c1
      have m2 := HW1.out.c2
      have m3 := HW1.out.c3
      have m4 := HW1.out.c4
      have m5 := HW1.out.c5
      have m6 := HW1.out.c6
      have n0 := HW1.out.fz 0
      have n1 := HW1.out.fz 1
      have n2 := HW1.out.fz 2
      have n3 := HW1.out.fz 3
      have n4 := HW1.out.fz 4
      have n5 := HW1.out.fz 5
      have n6 := HW1.out.fz 6
      obtain ⟨w9, e9, x9, h9, b9⟩ := set7 HW1.out a ov cv
      have HB9 : Hid (Below w.heap.size w w9) := (((bel2 B2.out BL.out)).trans Y3c.out.1).trans (b9 w.heap.size (by have := HZ12.out; omega))
      have HO9 : Hid (HoldsO B w9 (f + 1) (fun b => w2.heap.size ≤ b) (a.cells ov cv) a) := CP.out.done HH.out.ok'.1 (fun b hb hl => (h9 b (by have := HZ12.out; omega)).trans (Y3c.out.2 b (by have := HZ12.out; omega) hl))
      have q0 := x9.c0
      have q1 := x9.c1
      have q2 := x9.c2
      have q3 := x9.c3
      have q4 := x9.c4
      have q5 := x9.c5
      have q6 := x9.c6
      have HLW : Hid (w.heap.size ≤ w2.heap.size) := B2.out.size
      clear h9 b9 x9
      go_wp2_with fail
      try rw [e9]
      exact bodyPost_ret (v := .agg #[.int .i64 a.layout, .int .i64 a.offset, .int .i64 a.length, .string a.valid, .string a.ends, .string a.data, .slice ov a.kids.length cv]) (by simp [results, Tryz.results37, go_sem, q0, q1, q2, q3, q4, q5, q6]) rfl ⟨ov, cv, rfl, HO9.out.stays (fun b _ => rfl) (fun b hb => Nat.le_trans HLW.out hb), HB9.out⟩
theorem kopiedA (B : Nat) : ∀ f, KopiedC B f := by
  intro f
  induction f with
  | zero => intro a o cap w hH _; cases hH
  | succ f ih => exact kopied_step B f ih
end Go.Proofs.YthbjeedmhgnnaaaGreat.Arr
set_option linter.unusedVariables false
set_option linter.unusedSimpArgs false
namespace Go.Proofs.YthbjeedmhgnnaaaGreat.Arr
open Go.ChangeShapes Go.WideShapes Go.ChangeAt Go.RowKit
open Tree Val

/-- What a slice answers: the error's number, the array. -/
abbrev inRange (a : Arr) (i c : Int) : Prop := 0 ≤ i ∧ 0 ≤ c ∧ c ≤ a.length - i
def slE (ns : List Nd) (at' : Int) (f : Nat) (a : Arr) (i c : Int) : Int := if mayZ ns at' f a = false then 1100 else if inRange a i c then 0 else 1101
def slA (ns : List Nd) (at' : Int) (f : Nat) (a : Arr) (i c : Int) : Arr := if slE ns at' f a i c = 0 then cutA a i.toNat c.toNat else nil
def SlQ (B f : Nat) (ns : List Nd) (at' : Int) (a : Arr) (i c : Int) (w : World) (r : Ending) (w' : World) : Prop :=
  ∃ (o' : Option Addr) (c' : Nat), r = .returned (.tuple #[(slA ns at' (f + 1) a i c).val o' c', .int .i64 (slE ns at' (f + 1) a i c)]) ∧ HoldsO B w' (f + 1) (fun b => w.heap.size ≤ b) ((slA ns at' (f + 1) a i c).cells o' c') (slA ns at' (f + 1) a i c) ∧ Below w.heap.size w w'
theorem sl_no {B f : Nat} {ns : List Nd} {at' : Int} {a : Arr} {i c : Int} {w w' : World} {E : Int} (h : slE ns at' (f + 1) a i c = E) (h0 : E ≠ 0) (hb : Below w.heap.size w w') : SlQ B f ns at' a i c w (.returned (.tuple #[nil.val none 0, .int .i64 E])) w' := by
  have hA : slA ns at' (f + 1) a i c = nil := by unfold slA; rw [h, if_neg h0]
  exact ⟨none, 0, by rw [hA, h], by rw [hA]; exact holds_leaf (nil_ok B) rfl, hb⟩
theorem sl_yes {B f : Nat} {ns : List Nd} {at' : Int} {a : Arr} {i c : Nat} {w w' : World} {o' : Option Addr} {c' : Nat} (h : slE ns at' (f + 1) a i c = 0) (hh : HoldsO B w' (f + 1) (fun b => w.heap.size ≤ b) ((cutA a i c).cells o' c') (cutA a i c)) (hb : Below w.heap.size w w') : SlQ B f ns at' a i c w (.returned (.tuple #[(cutA a i c).val o' c', .int .i64 0])) w' := by
  have hA : slA ns at' (f + 1) a i c = cutA a i c := by unfold slA; rw [h, if_pos rfl, Int.toNat_natCast, Int.toNat_natCast]
  exact ⟨o', c', by rw [hA, h], by rw [hA]; exact hh, hb⟩
theorem cut_own {B : Nat} {w : World} {f : Nat} {ok : Nat → Prop} {a : Arr} {o : Option Addr} {c : Nat} (h : HoldsO B w (f + 1) ok (a.cells o c) a) {i l : Nat} (hi : 0 ≤ a.offset) (h2 : a.offset + i + l ≤ 64) : HoldsO B w (f + 1) ok ((cutA a i l).cells o c) (cutA a i l) := by
  obtain ⟨o2, c2, e, hk, h3, h4, h5⟩ := h
  have eo : o = o2 ∧ c = c2 := by
    unfold Arr.cells at e
    simp only [List.cons.injEq, Value.slice.injEq, and_true, true_and] at e
    exact e
  obtain ⟨rfl, rfl⟩ := eo
  refine ⟨o, c, rfl, ⟨hk.layout, ?_, ?_, hk.valid, hk.ends, hk.data⟩, h3, h4, h5⟩
  · show (Lit.int .i64 (a.offset + i)).wf = true
    exact WalkArith.wf_i64 (by omega)
  · show (Lit.int .i64 (l : Int)).wf = true
    exact WalkArith.wf_i64 (by omega)
theorem cut_box {w : World} {g : Nat} {a : Arr} {o : Option Addr} {c : Nat} (h : Bx w g a o c) (i j : Nat) :
    ∃ w', (w.setCell ⟨g, 1, none⟩ (.int .i64 (a.offset + (i : Int)))).setCell ⟨g, 2, none⟩ (.int .i64 (j : Int)) = w' ∧ Bx w' g (cutA a i j) o c ∧ (∀ b, b ≠ g → w'.heap[b]? = w.heap[b]?) ∧ (∀ B, B ≤ g → Below B w w') := by
  refine ⟨_, rfl, ⟨?_⟩, fun b hb => ?_, fun B hB => ?_⟩
  · rw [blk_set (blk_set h.blk 1 _) 2 _]
    rfl
  · have q := fun (w : World) (j : Nat) (u : Value) => Below.heap_setCell w ⟨g, j, none⟩ u b hb
    rw [q, q]
  · exact ((Below.refl _ _).setCell hB _).setCell hB _
set_option maxRecDepth 20000 in
set_option maxHeartbeats 1600000 in
theorem hasRowsS (a : Arr) (o : Option Addr) (cap : Nat) (i c : Int) (hi : (Lit.int .i64 i).wf = true) (hc : (Lit.int .i64 c).wf = true) (h0 : 0 ≤ a.length) (h1 : a.length ≤ 64) (w : World) :
    Calls Tryz.prog 36 #[a.val o cap, .int .i64 i, .int .i64 c] w fun r w' => r = .returned (.bool (decide (inRange a i c))) ∧ Below w.heap.size w w' := by
  obtain ⟨w1, e1, x1, b1, z1⟩ := box7 w a o cap
  have B1 : Hid (Below w.heap.size w w1) := b1
  have hbi := bounds_i64 hi
  have hbc := bounds_i64 hc
  have d2 := x1.c2
  unfold Arr.val
  by_cases q1 : 0 ≤ i
  · by_cases q2 : 0 ≤ c
    · have HD : Hid (decide (inRange a i c) = decide (c ≤ a.length - i)) := by unfold Hid; exact decide_eq_decide.2 ⟨fun h => h.2.2, fun h => ⟨q1, q2, h⟩⟩
      clear x1 b1
      go_enter Tryz.func36, Tryz.ntmps36
      go_wp2
      go_ret
      exact ⟨by first | (rw [HD.out]; rfl) | rfl, B1.out⟩
    · have HD : Hid (decide (inRange a i c) = false) := decide_eq_false (fun h => q2 h.2.1)
      have g2 : decide (0 ≤ c) = false := decide_eq_false q2
      clear x1 b1
      go_enter Tryz.func36, Tryz.ntmps36
      go_wp2
      go_ret
      exact ⟨by first | (rw [HD.out]; rfl) | rfl, B1.out⟩
  · have HD : Hid (decide (inRange a i c) = false) := decide_eq_false (fun h => q1 h.1)
    have g1 : decide (0 ≤ i) = false := decide_eq_false q1
    clear x1 b1
    go_enter Tryz.func36, Tryz.ntmps36
    go_wp2
    go_ret
    exact ⟨by first | (rw [HD.out]; rfl) | rfl, B1.out⟩
set_option maxRecDepth 20000 in
set_option maxHeartbeats 3200000 in
theorem sliceP (B f : Nat) (ns : List Nd) (oT : Option Addr) (capT : Nat) (at' : Int) (a : Arr) (o : Option Addr) (cap : Nat) (i c : Int) (hi : (Lit.int .i64 i).wf = true) (hc : (Lit.int .i64 c).wf = true) (w : World) (ht : IsT w oT ns) (hH : Hid (HoldsF B 96 w (f + 1) (a.cells o cap) a)) :
    Calls Tryz.prog 15 #[.agg #[.slice oT ns.length capT], .int .i64 at', a.val o cap, .int .i64 i, .int .i64 c] w (SlQ B f ns at' a i c w) := by
  obtain ⟨w1, e1, s1, c1, b1⟩ := boxed w (.slice oT ns.length capT) 27
  obtain ⟨w2, e2, x2, b2, z2⟩ := box7 w1 a o cap
  obtain ⟨w3, e3', x3, b3, z3⟩ := box7 w2 nil none 0
  have e3 : w2.alloc (.cells #[.int .i64 0, .int .i64 0, .int .i64 0, .string ⟨#[]⟩, .string ⟨#[]⟩, .string ⟨#[]⟩, .slice none 0 0] 30) = w3 := e3'
  clear e3'
  have HZ : Hid (w.heap.size < w1.heap.size ∧ w1.heap.size < w2.heap.size ∧ w2.heap.size < w3.heap.size) := ⟨s1, z2, z3⟩
  have B3 : Hid (Below w.heap.size w w3) := bel2 b1 (bel2 b2 b3)
  have HCT : Hid (w3.cell? ⟨w.heap.size, 0, none⟩ = some (.slice oT ns.length capT)) := cell_later b3 (cell_later b2 c1)
  have X3 : Hid (Bx w3 w1.heap.size a o cap) := x2.later b3
  have XR3 : Hid (Bx w3 w2.heap.size nil none 0) := x3
  have HH : Hid (HoldsF B 96 w (f + 1) (a.cells o cap) a) := hH.out
  have HM : Hid (∀ v, Below w.heap.size w v → Calls Tryz.prog 14 #[.agg #[.slice oT ns.length capT], .int .i64 at', a.val o cap] v fun r w' => r = .returned (.bool (mayZ ns at' (f + 1) a)) ∧ Below v.heap.size v w') := fun v hv => mayA B 96 (f + 1) ns oT capT at' a o cap v (ht.later hv) (hH.out.later hv)
  have HZM : Hid (mayZ ns at' (f + 1) a = true → ∃ n : Nat, at' = (n : Int) ∧ n < ns.length ∧ may ns = true ∧ mayF ns (f + 1) n a = true ∧ Head ns n a) := may_head
  have HEE : Hid (slE ns at' (f + 1) a i c = if mayZ ns at' (f + 1) a = false then 1100 else if inRange a i c then 0 else 1101) := rfl
  have hbi := bounds_i64 hi
  have hbc := bounds_i64 hc
  generalize mayZ ns at' (f + 1) a = M at *
  have cT := HCT.out
  have d0 := X3.out.c0
  have d1 := X3.out.c1
  have d2 := X3.out.c2
  have d3 := X3.out.c3
  have d4 := X3.out.c4
  have d5 := X3.out.c5
  have d6 := X3.out.c6
  unfold Arr.val at HM ⊢
  clear s1 c1 b1 b2 b3 x2 x3 z2 z3 ht hH
  go_enter Tryz.func15, Tryz.ntmps15
  go_wp2_with fail
  refine (HM.out w3 B3.out).mono ?_
  rintro e w4 ⟨rfl, b4⟩
  have B4 : Hid (Below w.heap.size w w4) := bel2 B3.out b4
  have X4 : Hid (Bx w4 w1.heap.size a o cap) := X3.out.later b4
  have XR4 : Hid (Bx w4 w2.heap.size nil none 0) := XR3.out.later b4
  clear b4 e1 e2 e3 cT d0 d1 d2 d3 d4 d5 d6 HM
  cases M
  · have hME : (if false = false then (1100 : Int) else if inRange a i c then 0 else 1101) = 1100 := if_pos rfl
    rw [hME] at HEE
    clear hME HZM
    have HE : Hid (slE ns at' (f + 1) a i c = 1100) := HEE.out
    have u0 := XR4.out.c0
    have u1 := XR4.out.c1
    have u2 := XR4.out.c2
    have u3 := XR4.out.c3
    have u4 := XR4.out.c4
    have u5 := XR4.out.c5
    have u6 := XR4.out.c6
    have v0 := XR4.out.fz 0
    have v1 := XR4.out.fz 1
    have v2 := XR4.out.fz 2
    have v3 := XR4.out.fz 3
    have v4 := XR4.out.fz 4
    have v5 := XR4.out.fz 5
    have v6 := XR4.out.fz 6
    unfold nil at u0 u1 u2 u3 u4 u5 u6
    obtain ⟨w11, e11, x11, h11, b11⟩ := set7 XR4.out nil none 0
    have e11b : (((((((w4).setCell ⟨w2.heap.size, 0, none⟩ (.int .i64 0)).setCell ⟨w2.heap.size, 1, none⟩ (.int .i64 0)).setCell ⟨w2.heap.size, 2, none⟩ (.int .i64 0)).setCell ⟨w2.heap.size, 3, none⟩ (.string ⟨#[]⟩)).setCell ⟨w2.heap.size, 4, none⟩ (.string ⟨#[]⟩)).setCell ⟨w2.heap.size, 5, none⟩ (.string ⟨#[]⟩)).setCell ⟨w2.heap.size, 6, none⟩ (.slice none 0 0) = w11 := e11
    have HB11 : Hid (Below w.heap.size w w11) := B4.out.trans (b11 w.heap.size (by have := HZ.out; omega))
    have q0 := x11.c0
    have q1 := x11.c1
    have q2 := x11.c2
    have q3 := x11.c3
    have q4 := x11.c4
    have q5 := x11.c5
    have q6 := x11.c6
    unfold nil at q0 q1 q2 q3 q4 q5 q6
    have HQ : Hid (SlQ B f ns at' a i c w (.returned (.tuple #[.agg #[.int .i64 0, .int .i64 0, .int .i64 0, .string ⟨#[]⟩, .string ⟨#[]⟩, .string ⟨#[]⟩, .slice none 0 0], .int .i64 1100])) w11) := sl_no HE.out (by decide) HB11.out
    clear e11 x11 h11 b11
    go_wp2_with fail
    try rw [e11b]
    exact bodyPost_ret (v := .tuple #[.agg #[.int .i64 0, .int .i64 0, .int .i64 0, .string ⟨#[]⟩, .string ⟨#[]⟩, .string ⟨#[]⟩, .slice none 0 0], .int .i64 1100]) (by simp [results, Tryz.results15, go_sem, q0, q1, q2, q3, q4, q5, q6] <;> rfl) rfl HQ.out
  obtain ⟨n, rfl, hn, hm, hF, hHd⟩ := HZM.out rfl
  have HF : Hid (fewF (f + 1) a) := few_of_may (may_of hm) hn hF
  have hq0 := hHd.len
  have hq1 := hHd.off
  have hq2 := hHd.rows
  clear hF hHd hm HZM
  have hME : (if true = false then (1100 : Int) else if inRange a i c then 0 else 1101) = if inRange a i c then 0 else 1101 := if_neg (by simp)
  rw [hME] at HEE
  clear hME
  have HHR : Hid (Calls Tryz.prog 36 #[a.val o cap, .int .i64 i, .int .i64 c] w4 fun r w' => r = .returned (.bool (decide (inRange a i c))) ∧ Below w4.heap.size w4 w') := hasRowsS a o cap i c hi hc hq0 (by omega) w4
  have d0 := X4.out.c0
  have d1 := X4.out.c1
  have d2 := X4.out.c2
  have d3 := X4.out.c3
  have d4 := X4.out.c4
  have d5 := X4.out.c5
  have d6 := X4.out.c6
  unfold Arr.val at HHR
  go_wp2_with fail
  refine HHR.out.mono ?_
  rintro e w4b ⟨rfl, b4b⟩
  have B4b : Hid (Below w.heap.size w w4b) := bel2 B4.out b4b
  have X4b : Hid (Bx w4b w1.heap.size a o cap) := X4.out.later b4b
  have XR4b : Hid (Bx w4b w2.heap.size nil none 0) := XR4.out.later b4b
  clear b4b d0 d1 d2 d3 d4 d5 d6 HHR
  by_cases HR : inRange a i c
  rotate_left
  · rw [decide_eq_false HR]
    have HE : Hid (slE ns (n : Int) (f + 1) a i c = 1101) := (HEE.out.trans (if_neg HR))
    have u0 := XR4b.out.c0
    have u1 := XR4b.out.c1
    have u2 := XR4b.out.c2
    have u3 := XR4b.out.c3
    have u4 := XR4b.out.c4
    have u5 := XR4b.out.c5
    have u6 := XR4b.out.c6
    have v0 := XR4b.out.fz 0
    have v1 := XR4b.out.fz 1
    have v2 := XR4b.out.fz 2
    have v3 := XR4b.out.fz 3
    have v4 := XR4b.out.fz 4
    have v5 := XR4b.out.fz 5
    have v6 := XR4b.out.fz 6
    unfold nil at u0 u1 u2 u3 u4 u5 u6
    obtain ⟨w11, e11, x11, h11, b11⟩ := set7 XR4b.out nil none 0
    have e11b : ((((((w4b.setCell ⟨w2.heap.size, 0, none⟩ (.int .i64 0)).setCell ⟨w2.heap.size, 1, none⟩ (.int .i64 0)).setCell ⟨w2.heap.size, 2, none⟩ (.int .i64 0)).setCell ⟨w2.heap.size, 3, none⟩ (.string ⟨#[]⟩)).setCell ⟨w2.heap.size, 4, none⟩ (.string ⟨#[]⟩)).setCell ⟨w2.heap.size, 5, none⟩ (.string ⟨#[]⟩)).setCell ⟨w2.heap.size, 6, none⟩ (.slice none 0 0) = w11 := e11
    have HB11 : Hid (Below w.heap.size w w11) := B4b.out.trans (b11 w.heap.size (by have := HZ.out; omega))
    have q0 := x11.c0
    have q1 := x11.c1
    have q2 := x11.c2
    have q3 := x11.c3
    have q4 := x11.c4
    have q5 := x11.c5
    have q6 := x11.c6
    unfold nil at q0 q1 q2 q3 q4 q5 q6
    have HQ : Hid (SlQ B f ns (n : Int) a i c w (.returned (.tuple #[.agg #[.int .i64 0, .int .i64 0, .int .i64 0, .string ⟨#[]⟩, .string ⟨#[]⟩, .string ⟨#[]⟩, .slice none 0 0], .int .i64 1101])) w11) := sl_no HE.out (by decide) HB11.out
    clear e11 x11 h11 b11
    go_wp2_with fail
    try rw [e11b]
    exact bodyPost_ret (v := .tuple #[.agg #[.int .i64 0, .int .i64 0, .int .i64 0, .string ⟨#[]⟩, .string ⟨#[]⟩, .string ⟨#[]⟩, .slice none 0 0], .int .i64 1101]) (by simp [results, Tryz.results15, go_sem, q0, q1, q2, q3, q4, q5, q6] <;> rfl) rfl HQ.out
  rw [decide_eq_true HR]
  rw [if_pos HR] at HEE
  obtain ⟨hr1, hr2, hr3⟩ := HR
  obtain ⟨i, rfl⟩ := Int.eq_ofNat_of_zero_le hr1
  obtain ⟨c, rfl⟩ := Int.eq_ofNat_of_zero_le hr2
  have HE0 : Hid (slE ns (n : Int) (f + 1) a i c = 0) := HEE.out
  have HOFF : Hid (0 ≤ a.offset ∧ a.offset + (i : Int) + (c : Int) ≤ 64) := ⟨hq1, by omega⟩
  have y0 := X4b.out.c0
  have y1 := X4b.out.c1
  have y2 := X4b.out.c2
  have y3 := X4b.out.c3
  have y4 := X4b.out.c4
  have y5 := X4b.out.c5
  have y6 := X4b.out.c6
  have HCP : Hid (Calls Tryz.prog 37 #[a.val o cap] w4b fun r w' => ∃ o' cap', r = .returned (a.val o' cap') ∧ HoldsO B w' (f + 1) (fun b => w4b.heap.size ≤ b) (a.cells o' cap') a ∧ Below w4b.heap.size w4b w') := kopiedA B (f + 1) a o cap w4b (HH.out.later B4b.out) HF.out
  unfold Arr.val at HCP
  go_wp2_with fail
  refine HCP.out.mono ?_
  rintro e w5 ⟨o5, c5, rfl, hh5, b5⟩
  have HO5 : Hid (HoldsO B w5 (f + 1) (fun b => w4b.heap.size ≤ b) (a.cells o5 c5) a) := hh5
  have B5 : Hid (Below w.heap.size w w5) := bel2 B4b.out b5
  have XR5 : Hid (Bx w5 w2.heap.size nil none 0) := XR4b.out.later b5
  obtain ⟨w6, e6', x6, b6, z6⟩ := box7 w5 nil none 0
  have e6 : w5.alloc (.cells #[.int .i64 0, .int .i64 0, .int .i64 0, .string ⟨#[]⟩, .string ⟨#[]⟩, .string ⟨#[]⟩, .slice none 0 0] 30) = w6 := e6'
  have HS5 : Hid (w2.heap.size < w5.heap.size ∧ w.heap.size ≤ w5.heap.size) := ⟨XR5.out.lt, B5.out.size⟩
  have HSW : Hid (w.heap.size ≤ w4b.heap.size) := B4b.out.size
  have m0 := x6.c0
  have m1 := x6.c1
  have m2 := x6.c2
  have m3 := x6.c3
  have m4 := x6.c4
  have m5 := x6.c5
  have m6 := x6.c6
  have f0 := x6.fz 0
  have f1 := x6.fz 1
  have f2 := x6.fz 2
  have f3 := x6.fz 3
  have f4 := x6.fz 4
  have f5 := x6.fz 5
  have f6 := x6.fz 6
  unfold nil at m0 m1 m2 m3 m4 m5 m6
  obtain ⟨w7, e7, x7, h7, b7⟩ := set7 x6 a o5 c5
  have X7 : Hid (Bx w7 w5.heap.size a o5 c5) := x7
  have B57 : Hid (Below w5.heap.size w5 w7) := b6.trans (b7 _ (Nat.le_refl _))
  have XR7 : Hid (Bx w7 w2.heap.size nil none 0) := XR5.out.later B57.out
  clear hh5 b5 e6' x6 b6 z6 x7 h7 b7 y0 y1 y2 y3 y4 y5 y6
  go_upto_region 6 with fail
  try rw [e7]
  clear e6 e7 m0 m1 m2 m3 m4 m5 m6 f0 f1 f2 f3 f4 f5 f6
  obtain ⟨w8, e8, x8, h8, b8⟩ := cut_box X7.out i c
  have X8 : Hid (Bx w8 w5.heap.size (cutA a i c) o5 c5) := x8
  have XR8 : Hid (Bx w8 w2.heap.size nil none 0) := ⟨(h8 _ (by have := HS5.out; omega)).trans XR7.out.blk⟩
  have B8 : Hid (Below w5.heap.size w5 w8) := B57.out.trans (b8 _ (Nat.le_refl _))
  have p1 := X7.out.c1
  have p2 := X7.out.c2
  have g1 := X7.out.fz 1
  have g2 := X7.out.fz 2
  clear x8 h8 b8
  go_upto_region 8 with fail
  try rw [e8]
  clear e8 p1 p2 g1 g2
  have u0 := XR8.out.c0
  have u1 := XR8.out.c1
  have u2 := XR8.out.c2
  have u3 := XR8.out.c3
  have u4 := XR8.out.c4
  have u5 := XR8.out.c5
  have u6 := XR8.out.c6
  have v0 := XR8.out.fz 0
  have v1 := XR8.out.fz 1
  have v2 := XR8.out.fz 2
  have v3 := XR8.out.fz 3
  have v4 := XR8.out.fz 4
  have v5 := XR8.out.fz 5
  have v6 := XR8.out.fz 6
  unfold nil at u0 u1 u2 u3 u4 u5 u6
  have y0 := X8.out.c0
  have y1 := X8.out.c1
  have y2 := X8.out.c2
  have y3 := X8.out.c3
  have y4 := X8.out.c4
  have y5 := X8.out.c5
  have y6 := X8.out.c6
  obtain ⟨w11, e11, x11, h11, b11⟩ := set7 XR8.out (cutA a i c) o5 c5
  have HB11 : Hid (Below w.heap.size w w11) := (bel2 B5.out B8.out).trans (b11 w.heap.size (by have := HZ.out; omega))
  have HO11 : Hid (HoldsO B w11 (f + 1) (fun b => w.heap.size ≤ b) ((cutA a i c).cells o5 c5) (cutA a i c)) := cut_own (HO5.out.lt.stays (fun b hb => (h11 b (by have h1 := hb.1; have h2 := (XR4b.out : Bx w4b w2.heap.size nil none 0).lt; omega)).trans (B8.out.block b hb.2)) (fun b hb => Nat.le_trans HSW.out hb.1)) HOFF.out.1 HOFF.out.2
  have HQ : Hid (SlQ B f ns (n : Int) a i c w (.returned (.tuple #[(cutA a i c).val o5 c5, .int .i64 0])) w11) := sl_yes HE0.out HO11.out HB11.out
  have q0 := x11.c0
  have q1 := x11.c1
  have q2 := x11.c2
  have q3 := x11.c3
  have q4 := x11.c4
  have q5 := x11.c5
  have q6 := x11.c6
  clear x11 h11 b11
  unfold Arr.val at HQ
  generalize cutA a i c = A at *
  go_wp2_with fail
  try rw [e11]
  exact bodyPost_ret (v := .tuple #[.agg #[.int .i64 A.layout, .int .i64 A.offset, .int .i64 A.length, .string A.valid, .string A.ends, .string A.data, .slice o5 A.kids.length c5], .int .i64 0]) (by simp [results, Tryz.results15, go_sem, q0, q1, q2, q3, q4, q5, q6]) rfl HQ.out
set_option maxRecDepth 20000 in
set_option maxHeartbeats 3200000 in
theorem sliceR (B f : Nat) (ns : List Nd) (oT : Option Addr) (capT : Nat) (at' : Int) (a : Arr) (o : Option Addr) (cap : Nat) (i c : Int) (hi : (Lit.int .i64 i).wf = true) (hc : (Lit.int .i64 c).wf = true) (w : World) (ht : IsT w oT ns) (hH : Hid (HoldsF B 96 w (f + 1) (a.cells o cap) a)) :
    Calls Tryz.prog 16 #[.agg #[.slice oT ns.length capT], .int .i64 at', a.val o cap, .int .i64 i, .int .i64 c] w (SlQ B f ns at' a i c w) := by
  obtain ⟨w1, e1, s1, c1, b1⟩ := boxed w (.slice oT ns.length capT) 27
  obtain ⟨w2, e2, x2, b2, z2⟩ := box7 w1 a o cap
  obtain ⟨w3, e3', x3, b3, z3⟩ := box7 w2 nil none 0
  have e3 : w2.alloc (.cells #[.int .i64 0, .int .i64 0, .int .i64 0, .string ⟨#[]⟩, .string ⟨#[]⟩, .string ⟨#[]⟩, .slice none 0 0] 30) = w3 := e3'
  clear e3'
  have HZ : Hid (w.heap.size < w1.heap.size ∧ w1.heap.size < w2.heap.size ∧ w2.heap.size < w3.heap.size) := ⟨s1, z2, z3⟩
  have B3 : Hid (Below w.heap.size w w3) := bel2 b1 (bel2 b2 b3)
  have HCT : Hid (w3.cell? ⟨w.heap.size, 0, none⟩ = some (.slice oT ns.length capT)) := cell_later b3 (cell_later b2 c1)
  have X3 : Hid (Bx w3 w1.heap.size a o cap) := x2.later b3
  have XR3 : Hid (Bx w3 w2.heap.size nil none 0) := x3
  have HH : Hid (HoldsF B 96 w (f + 1) (a.cells o cap) a) := hH.out
  have HM : Hid (∀ v, Below w.heap.size w v → Calls Tryz.prog 22 #[.agg #[.slice oT ns.length capT], .int .i64 at', a.val o cap] v fun r w' => r = .returned (.bool (mayZ ns at' (f + 1) a)) ∧ Below v.heap.size v w') := fun v hv => refA B 96 (f + 1) ns oT capT at' a o cap v (ht.later hv) (hH.out.later hv)
  have HZM : Hid (mayZ ns at' (f + 1) a = true → ∃ n : Nat, at' = (n : Int) ∧ n < ns.length ∧ may ns = true ∧ mayF ns (f + 1) n a = true ∧ Head ns n a) := may_head
  have HEE : Hid (slE ns at' (f + 1) a i c = if mayZ ns at' (f + 1) a = false then 1100 else if inRange a i c then 0 else 1101) := rfl
  have hbi := bounds_i64 hi
  have hbc := bounds_i64 hc
  generalize mayZ ns at' (f + 1) a = M at *
  have cT := HCT.out
  have d0 := X3.out.c0
  have d1 := X3.out.c1
  have d2 := X3.out.c2
  have d3 := X3.out.c3
  have d4 := X3.out.c4
  have d5 := X3.out.c5
  have d6 := X3.out.c6
  unfold Arr.val at HM ⊢
  clear s1 c1 b1 b2 b3 x2 x3 z2 z3 ht hH
  go_enter Tryz.func16, Tryz.ntmps16
  go_wp2_with fail
  refine (HM.out w3 B3.out).mono ?_
  rintro e w4 ⟨rfl, b4⟩
  have B4 : Hid (Below w.heap.size w w4) := bel2 B3.out b4
  have X4 : Hid (Bx w4 w1.heap.size a o cap) := X3.out.later b4
  have XR4 : Hid (Bx w4 w2.heap.size nil none 0) := XR3.out.later b4
  clear b4 e1 e2 e3 cT d0 d1 d2 d3 d4 d5 d6 HM
  cases M
  · have hME : (if false = false then (1100 : Int) else if inRange a i c then 0 else 1101) = 1100 := if_pos rfl
    rw [hME] at HEE
    clear hME HZM
    have HE : Hid (slE ns at' (f + 1) a i c = 1100) := HEE.out
    have u0 := XR4.out.c0
    have u1 := XR4.out.c1
    have u2 := XR4.out.c2
    have u3 := XR4.out.c3
    have u4 := XR4.out.c4
    have u5 := XR4.out.c5
    have u6 := XR4.out.c6
    have v0 := XR4.out.fz 0
    have v1 := XR4.out.fz 1
    have v2 := XR4.out.fz 2
    have v3 := XR4.out.fz 3
    have v4 := XR4.out.fz 4
    have v5 := XR4.out.fz 5
    have v6 := XR4.out.fz 6
    unfold nil at u0 u1 u2 u3 u4 u5 u6
    obtain ⟨w11, e11, x11, h11, b11⟩ := set7 XR4.out nil none 0
    have e11b : (((((((w4).setCell ⟨w2.heap.size, 0, none⟩ (.int .i64 0)).setCell ⟨w2.heap.size, 1, none⟩ (.int .i64 0)).setCell ⟨w2.heap.size, 2, none⟩ (.int .i64 0)).setCell ⟨w2.heap.size, 3, none⟩ (.string ⟨#[]⟩)).setCell ⟨w2.heap.size, 4, none⟩ (.string ⟨#[]⟩)).setCell ⟨w2.heap.size, 5, none⟩ (.string ⟨#[]⟩)).setCell ⟨w2.heap.size, 6, none⟩ (.slice none 0 0) = w11 := e11
    have HB11 : Hid (Below w.heap.size w w11) := B4.out.trans (b11 w.heap.size (by have := HZ.out; omega))
    have q0 := x11.c0
    have q1 := x11.c1
    have q2 := x11.c2
    have q3 := x11.c3
    have q4 := x11.c4
    have q5 := x11.c5
    have q6 := x11.c6
    unfold nil at q0 q1 q2 q3 q4 q5 q6
    have HQ : Hid (SlQ B f ns at' a i c w (.returned (.tuple #[.agg #[.int .i64 0, .int .i64 0, .int .i64 0, .string ⟨#[]⟩, .string ⟨#[]⟩, .string ⟨#[]⟩, .slice none 0 0], .int .i64 1100])) w11) := sl_no HE.out (by decide) HB11.out
    clear e11 x11 h11 b11
    go_wp2_with fail
    try rw [e11b]
    exact bodyPost_ret (v := .tuple #[.agg #[.int .i64 0, .int .i64 0, .int .i64 0, .string ⟨#[]⟩, .string ⟨#[]⟩, .string ⟨#[]⟩, .slice none 0 0], .int .i64 1100]) (by simp [results, Tryz.results16, go_sem, q0, q1, q2, q3, q4, q5, q6] <;> rfl) rfl HQ.out
  obtain ⟨n, rfl, hn, hm, hF, hHd⟩ := HZM.out rfl
  have HF : Hid (fewF (f + 1) a) := few_of_may (may_of hm) hn hF
  have hq0 := hHd.len
  have hq1 := hHd.off
  have hq2 := hHd.rows
  clear hF hHd hm HZM
  have hME : (if true = false then (1100 : Int) else if inRange a i c then 0 else 1101) = if inRange a i c then 0 else 1101 := if_neg (by simp)
  rw [hME] at HEE
  clear hME
  have d2 := X4.out.c2
  by_cases HR : inRange a i c
  rotate_left
  · have HNR : Hid (¬ inRange a i c) := HR
    clear HR
    by_cases t1 : i < 0
    · have g1 : decide (i < 0) = true := decide_eq_true t1
      have HE : Hid (slE ns (n : Int) (f + 1) a i c = 1101) := (HEE.out.trans (if_neg HNR.out))
      have u0 := XR4.out.c0
      have u1 := XR4.out.c1
      have u2 := XR4.out.c2
      have u3 := XR4.out.c3
      have u4 := XR4.out.c4
      have u5 := XR4.out.c5
      have u6 := XR4.out.c6
      have v0 := XR4.out.fz 0
      have v1 := XR4.out.fz 1
      have v2 := XR4.out.fz 2
      have v3 := XR4.out.fz 3
      have v4 := XR4.out.fz 4
      have v5 := XR4.out.fz 5
      have v6 := XR4.out.fz 6
      unfold nil at u0 u1 u2 u3 u4 u5 u6
      obtain ⟨w11, e11, x11, h11, b11⟩ := set7 XR4.out nil none 0
      have e11b : (((((((w4).setCell ⟨w2.heap.size, 0, none⟩ (.int .i64 0)).setCell ⟨w2.heap.size, 1, none⟩ (.int .i64 0)).setCell ⟨w2.heap.size, 2, none⟩ (.int .i64 0)).setCell ⟨w2.heap.size, 3, none⟩ (.string ⟨#[]⟩)).setCell ⟨w2.heap.size, 4, none⟩ (.string ⟨#[]⟩)).setCell ⟨w2.heap.size, 5, none⟩ (.string ⟨#[]⟩)).setCell ⟨w2.heap.size, 6, none⟩ (.slice none 0 0) = w11 := e11
      have HB11 : Hid (Below w.heap.size w w11) := B4.out.trans (b11 w.heap.size (by have := HZ.out; omega))
      have q0 := x11.c0
      have q1 := x11.c1
      have q2 := x11.c2
      have q3 := x11.c3
      have q4 := x11.c4
      have q5 := x11.c5
      have q6 := x11.c6
      unfold nil at q0 q1 q2 q3 q4 q5 q6
      have HQ : Hid (SlQ B f ns (n : Int) a i c w (.returned (.tuple #[.agg #[.int .i64 0, .int .i64 0, .int .i64 0, .string ⟨#[]⟩, .string ⟨#[]⟩, .string ⟨#[]⟩, .slice none 0 0], .int .i64 1101])) w11) := sl_no HE.out (by decide) HB11.out
      clear e11 x11 h11 b11
      go_wp2_with fail
      try rw [e11b]
      exact bodyPost_ret (v := .tuple #[.agg #[.int .i64 0, .int .i64 0, .int .i64 0, .string ⟨#[]⟩, .string ⟨#[]⟩, .string ⟨#[]⟩, .slice none 0 0], .int .i64 1101]) (by simp [results, Tryz.results16, go_sem, q0, q1, q2, q3, q4, q5, q6] <;> rfl) rfl HQ.out
    by_cases t2 : c < 0
    · have g1 : decide (i < 0) = false := decide_eq_false t1
      have g2 : decide (c < 0) = true := decide_eq_true t2
      have HE : Hid (slE ns (n : Int) (f + 1) a i c = 1101) := (HEE.out.trans (if_neg HNR.out))
      have u0 := XR4.out.c0
      have u1 := XR4.out.c1
      have u2 := XR4.out.c2
      have u3 := XR4.out.c3
      have u4 := XR4.out.c4
      have u5 := XR4.out.c5
      have u6 := XR4.out.c6
      have v0 := XR4.out.fz 0
      have v1 := XR4.out.fz 1
      have v2 := XR4.out.fz 2
      have v3 := XR4.out.fz 3
      have v4 := XR4.out.fz 4
      have v5 := XR4.out.fz 5
      have v6 := XR4.out.fz 6
      unfold nil at u0 u1 u2 u3 u4 u5 u6
      obtain ⟨w11, e11, x11, h11, b11⟩ := set7 XR4.out nil none 0
      have e11b : (((((((w4).setCell ⟨w2.heap.size, 0, none⟩ (.int .i64 0)).setCell ⟨w2.heap.size, 1, none⟩ (.int .i64 0)).setCell ⟨w2.heap.size, 2, none⟩ (.int .i64 0)).setCell ⟨w2.heap.size, 3, none⟩ (.string ⟨#[]⟩)).setCell ⟨w2.heap.size, 4, none⟩ (.string ⟨#[]⟩)).setCell ⟨w2.heap.size, 5, none⟩ (.string ⟨#[]⟩)).setCell ⟨w2.heap.size, 6, none⟩ (.slice none 0 0) = w11 := e11
      have HB11 : Hid (Below w.heap.size w w11) := B4.out.trans (b11 w.heap.size (by have := HZ.out; omega))
      have q0 := x11.c0
      have q1 := x11.c1
      have q2 := x11.c2
      have q3 := x11.c3
      have q4 := x11.c4
      have q5 := x11.c5
      have q6 := x11.c6
      unfold nil at q0 q1 q2 q3 q4 q5 q6
      have HQ : Hid (SlQ B f ns (n : Int) a i c w (.returned (.tuple #[.agg #[.int .i64 0, .int .i64 0, .int .i64 0, .string ⟨#[]⟩, .string ⟨#[]⟩, .string ⟨#[]⟩, .slice none 0 0], .int .i64 1101])) w11) := sl_no HE.out (by decide) HB11.out
      clear e11 x11 h11 b11
      go_wp2_with fail
      try rw [e11b]
      exact bodyPost_ret (v := .tuple #[.agg #[.int .i64 0, .int .i64 0, .int .i64 0, .string ⟨#[]⟩, .string ⟨#[]⟩, .string ⟨#[]⟩, .slice none 0 0], .int .i64 1101]) (by simp [results, Tryz.results16, go_sem, q0, q1, q2, q3, q4, q5, q6] <;> rfl) rfl HQ.out
    by_cases t3 : a.length < i
    · have g1 : decide (i < 0) = false := decide_eq_false t1
      have g2 : decide (c < 0) = false := decide_eq_false t2
      have g3 : decide (a.length < i) = true := decide_eq_true t3
      have HE : Hid (slE ns (n : Int) (f + 1) a i c = 1101) := (HEE.out.trans (if_neg HNR.out))
      have u0 := XR4.out.c0
      have u1 := XR4.out.c1
      have u2 := XR4.out.c2
      have u3 := XR4.out.c3
      have u4 := XR4.out.c4
      have u5 := XR4.out.c5
      have u6 := XR4.out.c6
      have v0 := XR4.out.fz 0
      have v1 := XR4.out.fz 1
      have v2 := XR4.out.fz 2
      have v3 := XR4.out.fz 3
      have v4 := XR4.out.fz 4
      have v5 := XR4.out.fz 5
      have v6 := XR4.out.fz 6
      unfold nil at u0 u1 u2 u3 u4 u5 u6
      obtain ⟨w11, e11, x11, h11, b11⟩ := set7 XR4.out nil none 0
      have e11b : (((((((w4).setCell ⟨w2.heap.size, 0, none⟩ (.int .i64 0)).setCell ⟨w2.heap.size, 1, none⟩ (.int .i64 0)).setCell ⟨w2.heap.size, 2, none⟩ (.int .i64 0)).setCell ⟨w2.heap.size, 3, none⟩ (.string ⟨#[]⟩)).setCell ⟨w2.heap.size, 4, none⟩ (.string ⟨#[]⟩)).setCell ⟨w2.heap.size, 5, none⟩ (.string ⟨#[]⟩)).setCell ⟨w2.heap.size, 6, none⟩ (.slice none 0 0) = w11 := e11
      have HB11 : Hid (Below w.heap.size w w11) := B4.out.trans (b11 w.heap.size (by have := HZ.out; omega))
      have q0 := x11.c0
      have q1 := x11.c1
      have q2 := x11.c2
      have q3 := x11.c3
      have q4 := x11.c4
      have q5 := x11.c5
      have q6 := x11.c6
      unfold nil at q0 q1 q2 q3 q4 q5 q6
      have HQ : Hid (SlQ B f ns (n : Int) a i c w (.returned (.tuple #[.agg #[.int .i64 0, .int .i64 0, .int .i64 0, .string ⟨#[]⟩, .string ⟨#[]⟩, .string ⟨#[]⟩, .slice none 0 0], .int .i64 1101])) w11) := sl_no HE.out (by decide) HB11.out
      clear e11 x11 h11 b11
      go_wp2_with fail
      try rw [e11b]
      exact bodyPost_ret (v := .tuple #[.agg #[.int .i64 0, .int .i64 0, .int .i64 0, .string ⟨#[]⟩, .string ⟨#[]⟩, .string ⟨#[]⟩, .slice none 0 0], .int .i64 1101]) (by simp [results, Tryz.results16, go_sem, q0, q1, q2, q3, q4, q5, q6] <;> rfl) rfl HQ.out
    have t4 : a.length - i < c := by have := HNR.out; unfold inRange at this; omega
    have g1 : decide (i < 0) = false := decide_eq_false t1
    have g2 : decide (c < 0) = false := decide_eq_false t2
    have g3 : decide (a.length < i) = false := decide_eq_false t3
    have g4 : decide (a.length - i < c) = true := decide_eq_true t4
    have HE : Hid (slE ns (n : Int) (f + 1) a i c = 1101) := (HEE.out.trans (if_neg HNR.out))
    have u0 := XR4.out.c0
    have u1 := XR4.out.c1
    have u2 := XR4.out.c2
    have u3 := XR4.out.c3
    have u4 := XR4.out.c4
    have u5 := XR4.out.c5
    have u6 := XR4.out.c6
    have v0 := XR4.out.fz 0
    have v1 := XR4.out.fz 1
    have v2 := XR4.out.fz 2
    have v3 := XR4.out.fz 3
    have v4 := XR4.out.fz 4
    have v5 := XR4.out.fz 5
    have v6 := XR4.out.fz 6
    unfold nil at u0 u1 u2 u3 u4 u5 u6
    obtain ⟨w11, e11, x11, h11, b11⟩ := set7 XR4.out nil none 0
    have e11b : (((((((w4).setCell ⟨w2.heap.size, 0, none⟩ (.int .i64 0)).setCell ⟨w2.heap.size, 1, none⟩ (.int .i64 0)).setCell ⟨w2.heap.size, 2, none⟩ (.int .i64 0)).setCell ⟨w2.heap.size, 3, none⟩ (.string ⟨#[]⟩)).setCell ⟨w2.heap.size, 4, none⟩ (.string ⟨#[]⟩)).setCell ⟨w2.heap.size, 5, none⟩ (.string ⟨#[]⟩)).setCell ⟨w2.heap.size, 6, none⟩ (.slice none 0 0) = w11 := e11
    have HB11 : Hid (Below w.heap.size w w11) := B4.out.trans (b11 w.heap.size (by have := HZ.out; omega))
    have q0 := x11.c0
    have q1 := x11.c1
    have q2 := x11.c2
    have q3 := x11.c3
    have q4 := x11.c4
    have q5 := x11.c5
    have q6 := x11.c6
    unfold nil at q0 q1 q2 q3 q4 q5 q6
    have HQ : Hid (SlQ B f ns (n : Int) a i c w (.returned (.tuple #[.agg #[.int .i64 0, .int .i64 0, .int .i64 0, .string ⟨#[]⟩, .string ⟨#[]⟩, .string ⟨#[]⟩, .slice none 0 0], .int .i64 1101])) w11) := sl_no HE.out (by decide) HB11.out
    clear e11 x11 h11 b11
    go_wp2_with fail
    try rw [e11b]
    exact bodyPost_ret (v := .tuple #[.agg #[.int .i64 0, .int .i64 0, .int .i64 0, .string ⟨#[]⟩, .string ⟨#[]⟩, .string ⟨#[]⟩, .slice none 0 0], .int .i64 1101]) (by simp [results, Tryz.results16, go_sem, q0, q1, q2, q3, q4, q5, q6] <;> rfl) rfl HQ.out
  rw [if_pos HR] at HEE
  obtain ⟨hr1, hr2, hr3⟩ := HR
  obtain ⟨i, rfl⟩ := Int.eq_ofNat_of_zero_le hr1
  obtain ⟨c, rfl⟩ := Int.eq_ofNat_of_zero_le hr2
  have HE0 : Hid (slE ns (n : Int) (f + 1) a i c = 0) := HEE.out
  have HOFF : Hid (0 ≤ a.offset ∧ a.offset + (i : Int) + (c : Int) ≤ 64) := ⟨hq1, by omega⟩
  have g1 : decide ((i : Int) < 0) = false := decide_eq_false (by omega)
  have g2 : decide ((c : Int) < 0) = false := decide_eq_false (by omega)
  have g3 : decide (a.length < (i : Int)) = false := decide_eq_false (by omega)
  have g4 : decide (a.length - (i : Int) < (c : Int)) = false := decide_eq_false (by omega)
  clear d2
  have y0 := X4.out.c0
  have y1 := X4.out.c1
  have y2 := X4.out.c2
  have y3 := X4.out.c3
  have y4 := X4.out.c4
  have y5 := X4.out.c5
  have y6 := X4.out.c6
  have HCP : Hid (Calls Tryz.prog 38 #[a.val o cap] w4 fun r w' => ∃ o' cap', r = .returned (a.val o' cap') ∧ HoldsO B w' (f + 1) (fun b => w4.heap.size ≤ b) (a.cells o' cap') a ∧ Below w4.heap.size w4 w') := kopyA B (f + 1) a o cap w4 (HH.out.later B4.out) HF.out
  unfold Arr.val at HCP
  go_wp2_with fail
  refine HCP.out.mono ?_
  rintro e w5 ⟨o5, c5, rfl, hh5, b5⟩
  have HO5 : Hid (HoldsO B w5 (f + 1) (fun b => w4.heap.size ≤ b) (a.cells o5 c5) a) := hh5
  have B5 : Hid (Below w.heap.size w w5) := bel2 B4.out b5
  have XR5 : Hid (Bx w5 w2.heap.size nil none 0) := XR4.out.later b5
  obtain ⟨w6, e6', x6, b6, z6⟩ := box7 w5 nil none 0
  have e6 : w5.alloc (.cells #[.int .i64 0, .int .i64 0, .int .i64 0, .string ⟨#[]⟩, .string ⟨#[]⟩, .string ⟨#[]⟩, .slice none 0 0] 30) = w6 := e6'
  have HS5 : Hid (w2.heap.size < w5.heap.size ∧ w.heap.size ≤ w5.heap.size) := ⟨XR5.out.lt, B5.out.size⟩
  have HSW : Hid (w.heap.size ≤ w4.heap.size) := B4.out.size
  have m0 := x6.c0
  have m1 := x6.c1
  have m2 := x6.c2
  have m3 := x6.c3
  have m4 := x6.c4
  have m5 := x6.c5
  have m6 := x6.c6
  have f0 := x6.fz 0
  have f1 := x6.fz 1
  have f2 := x6.fz 2
  have f3 := x6.fz 3
  have f4 := x6.fz 4
  have f5 := x6.fz 5
  have f6 := x6.fz 6
  unfold nil at m0 m1 m2 m3 m4 m5 m6
  obtain ⟨w7, e7, x7, h7, b7⟩ := set7 x6 a o5 c5
  have X7 : Hid (Bx w7 w5.heap.size a o5 c5) := x7
  have B57 : Hid (Below w5.heap.size w5 w7) := b6.trans (b7 _ (Nat.le_refl _))
  have XR7 : Hid (Bx w7 w2.heap.size nil none 0) := XR5.out.later B57.out
  clear hh5 b5 e6' x6 b6 z6 x7 h7 b7 y0 y1 y2 y3 y4 y5 y6
  go_upto_region 6 with fail
  try rw [e7]
  clear e6 e7 m0 m1 m2 m3 m4 m5 m6 f0 f1 f2 f3 f4 f5 f6
  obtain ⟨w8, e8, x8, h8, b8⟩ := cut_box X7.out i c
  have X8 : Hid (Bx w8 w5.heap.size (cutA a i c) o5 c5) := x8
  have XR8 : Hid (Bx w8 w2.heap.size nil none 0) := ⟨(h8 _ (by have := HS5.out; omega)).trans XR7.out.blk⟩
  have B8 : Hid (Below w5.heap.size w5 w8) := B57.out.trans (b8 _ (Nat.le_refl _))
  have p1 := X7.out.c1
  have p2 := X7.out.c2
  have g1 := X7.out.fz 1
  have g2 := X7.out.fz 2
  clear x8 h8 b8
  go_upto_region 8 with fail
  try rw [e8]
  clear e8 p1 p2 g1 g2
  have u0 := XR8.out.c0
  have u1 := XR8.out.c1
  have u2 := XR8.out.c2
  have u3 := XR8.out.c3
  have u4 := XR8.out.c4
  have u5 := XR8.out.c5
  have u6 := XR8.out.c6
  have v0 := XR8.out.fz 0
  have v1 := XR8.out.fz 1
  have v2 := XR8.out.fz 2
  have v3 := XR8.out.fz 3
  have v4 := XR8.out.fz 4
  have v5 := XR8.out.fz 5
  have v6 := XR8.out.fz 6
  unfold nil at u0 u1 u2 u3 u4 u5 u6
  have y0 := X8.out.c0
  have y1 := X8.out.c1
  have y2 := X8.out.c2
  have y3 := X8.out.c3
  have y4 := X8.out.c4
  have y5 := X8.out.c5
  have y6 := X8.out.c6
  obtain ⟨w11, e11, x11, h11, b11⟩ := set7 XR8.out (cutA a i c) o5 c5
  have HB11 : Hid (Below w.heap.size w w11) := (bel2 B5.out B8.out).trans (b11 w.heap.size (by have := HZ.out; omega))
  have HO11 : Hid (HoldsO B w11 (f + 1) (fun b => w.heap.size ≤ b) ((cutA a i c).cells o5 c5) (cutA a i c)) := cut_own (HO5.out.lt.stays (fun b hb => (h11 b (by have h1 := hb.1; have h2 := (XR4.out : Bx w4 w2.heap.size nil none 0).lt; omega)).trans (B8.out.block b hb.2)) (fun b hb => Nat.le_trans HSW.out hb.1)) HOFF.out.1 HOFF.out.2
  have HQ : Hid (SlQ B f ns (n : Int) a i c w (.returned (.tuple #[(cutA a i c).val o5 c5, .int .i64 0])) w11) := sl_yes HE0.out HO11.out HB11.out
  have q0 := x11.c0
  have q1 := x11.c1
  have q2 := x11.c2
  have q3 := x11.c3
  have q4 := x11.c4
  have q5 := x11.c5
  have q6 := x11.c6
  clear x11 h11 b11
  unfold Arr.val at HQ
  generalize cutA a i c = A at *
  go_wp2_with fail
  try rw [e11]
  exact bodyPost_ret (v := .tuple #[.agg #[.int .i64 A.layout, .int .i64 A.offset, .int .i64 A.length, .string A.valid, .string A.ends, .string A.data, .slice o5 A.kids.length c5], .int .i64 0]) (by simp [results, Tryz.results16, go_sem, q0, q1, q2, q3, q4, q5, q6]) rfl HQ.out
end Go.Proofs.YthbjeedmhgnnaaaGreat.Arr
