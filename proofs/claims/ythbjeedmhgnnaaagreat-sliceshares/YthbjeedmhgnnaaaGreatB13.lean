/-
  Several texts in one: The document's ArrayMay, of any array: contract. · The same array, wherever it lies: SameArray: contract. · An array in memory of its own: its rows lie in blocks of a kind, that may be written; no row's block holds what hangs below it. · An array copied: CopyArray: contract. · What awake computes: its contract.
-/
import Derived.Test.YthbjeedmhgnnaaaGreatB11
import Derived.Test.YthbjeedmhgnnaaaGreatB12
import Derived.Test.YthbjeedmhgnnaaaGreatB10
import Derived.WalkKit
import Derived.ProofKit
import Derived.Below
import Derived.OwnWalk
import Derived.Laws.OwnMore
import Derived.Test.YthbjeedmhgnnaaaGreatB03
import Derived.Test.YthbjeedmhgnnaaaGreatB02
import Derived.Maps.AppendAt
import Derived.OneCell
import Derived.Test.YthbjeedmhgnnaaaGreatB09
namespace Go.Proofs.YthbjeedmhgnnaaaGreat.Arr
open Go.ChangeShapes Go.WideShapes Go.ChangeAt Go.RowKit
open Tree Val

theorem lay_iff {ns : List Nd} (hm : may ns = true) {f n : Nat} (hn : n < ns.length) {a : Arr} (c0 : a.layout ≠ 0) : layB ns f n a = true ↔ (Tree.isLeaf (nd ns n).kind = true ∧ a.kids.length = 1 ∧ a.ends.size = 0 ∧ (kidAt a 0).layout = 0 ∧ mayF ns f n (kidAt a 0) = true) ∧ (a.layout = 1 ∧ dictB a = true ∨ a.layout = 2 ∧ runB a = true) := by
  unfold layB
  rw [if_neg c0, ← leaf_eq hm hn]
  unfold dictA' runA'
  by_cases c1 : a.layout = 1
  · rw [if_pos c1]
    simp only [Bool.and_eq_true, decide_eq_true_eq]
    constructor
    · rintro ⟨h1, ⟨⟨⟨h2, h3⟩, h4⟩, h5⟩, h6⟩
      exact ⟨⟨h1, h2, h3, h4, h5⟩, .inl ⟨c1, h6⟩⟩
    · rintro ⟨⟨h1, h2, h3, h4, h5⟩, h6 | h6⟩
      · exact ⟨h1, ⟨⟨⟨h2, h3⟩, h4⟩, h5⟩, h6.2⟩
      · omega
  · rw [if_neg c1]
    by_cases c2 : a.layout = 2
    · rw [if_pos c2]
      simp only [Bool.and_eq_true, decide_eq_true_eq]
      constructor
      · rintro ⟨h1, ⟨⟨⟨h2, h3⟩, h4⟩, h5⟩, h6⟩
        exact ⟨⟨h1, h2, h3, h4, h5⟩, .inr ⟨c2, h6⟩⟩
      · rintro ⟨⟨h1, h2, h3, h4, h5⟩, h6 | h6⟩
        · exact absurd h6.1 c1
        · exact ⟨h1, ⟨⟨⟨h2, h3⟩, h4⟩, h5⟩, h6.2⟩
    · rw [if_neg c2]
      constructor
      · intro h; cases h
      · rintro ⟨_, h | h⟩
        · exact absurd h.1 c1
        · exact absurd h.1 c2
theorem ref_step (B bytes f : Nat) (ih : RefC B bytes f) : RefC B bytes (f + 1) := by
  intro ns oT capT at' a o cap w ht hH
  cases hb : hasB ns at'
  · have e : mayZ ns at' (f + 1) a = false := by unfold mayZ; rw [hb]; rfl
    rw [e]
    exact ref_no ns oT capT at' a o cap w ht hb
  · obtain ⟨n, rfl, hn, hM⟩ := has_of hb
    have hm : may ns = true := by unfold hasB at hb; rw [Bool.and_eq_true] at hb; exact hb.2
    rw [mayZ_kid hm hn, may_lay hm hn, head_eq]
    cases h0 : hasRowsB a
    · rw [Bool.false_and, Bool.false_and]
      exact ref_head ns oT capT n a o cap w ht hb (.inl h0)
    rw [Bool.true_and]
    cases h1 : shortsOf a.valid a.ends a.data
    · rw [Bool.false_and, Bool.false_and]
      exact ref_head ns oT capT n a o cap w ht hb (.inr h1)
    rw [Bool.true_and]
    cases h2 : lackB (nd ns n).null a
    · rw [Bool.false_and]
      exact ref_lack ns oT capT n a o cap w ht hn hm (ok_of h0 h1) h2
    rw [Bool.true_and]
    by_cases c0 : a.layout = 0
    · have e : layB ns f n a = plainB (mayF ns f) ns n a := by unfold layB; rw [if_pos c0]
      rw [e]
      exact ref_plain0 B bytes f ih ns oT capT n a o cap w ht hn hm hH (ok_of h0 h1) h2 c0
    · exact ref_lay B bytes f ih ns oT capT n a o cap w ht hn hm hH (ok_of h0 h1) h2 c0 _ (lay_iff hm hn c0)
/-- ArrayMay, of any array. -/
theorem refA (B bytes : Nat) : ∀ f, RefC B bytes f := by
  intro f
  induction f with
  | zero => intro ns oT capT at' a o cap w _ hH; cases hH
  | succ f ih => exact ref_step B bytes f ih
end Go.Proofs.YthbjeedmhgnnaaaGreat.Arr
namespace Go.Proofs.YthbjeedmhgnnaaaGreat.Arr
open Go.ChangeShapes Go.WideShapes Go.ChangeAt Go.RowKit
open Tree Val

/-- What SameArray answers of one array at two places. -/
def SameC (B bytes f : Nat) : Prop := ∀ (a : Arr) (o : Option Addr) (cap : Nat) (o' : Option Addr) (cap' : Nat) (w : World), HoldsF B bytes w f (a.cells o cap) a → HoldsF B bytes w f (a.cells o' cap') a →
  Calls Tryz.prog 17 #[a.val o cap, a.val o' cap'] w fun r w' => r = .returned (.bool true) ∧ Below w.heap.size w w'
set_option maxRecDepth 20000 in
set_option maxHeartbeats 3200000 in
theorem same_step (B bytes f : Nat) (ih : Hid (SameC B bytes f)) : SameC B bytes (f + 1) := by
  intro a o cap o' cap' w hH hH'
  obtain ⟨w1, e1, x1, b1, z1⟩ := box7 w a o cap
  obtain ⟨w2, e2, x2, b2, z2⟩ := box7 w1 a o' cap'
  have B2 : Hid (Below w.heap.size w w2) := bel2 b1 b2
  have X1 : Hid (Bx w2 w.heap.size a o cap) := x1.later b2
  have X2 : Hid (Bx w2 w1.heap.size a o' cap') := x2
  have HH : Hid (HoldsF B bytes w (f + 1) (a.cells o cap) a) := hH
  have HH' : Hid (HoldsF B bytes w (f + 1) (a.cells o' cap') a) := hH'
  have hlen : a.kids.length ≤ 9223372036854775807 := by have := (hH.ok').2.1; unfold maxLen at this; omega
  have d0 := X1.out.c0
  have d1 := X1.out.c1
  have d2 := X1.out.c2
  have d3 := X1.out.c3
  have d4 := X1.out.c4
  have d5 := X1.out.c5
  have d6 := X1.out.c6
  have f0 := x2.c0
  have f1 := x2.c1
  have f2 := x2.c2
  have f3 := x2.c3
  have f4 := x2.c4
  have f5 := x2.c5
  have f6 := x2.c6
  unfold Arr.val
  clear x1 x2 b1 b2 z1 z2 hH hH'
  go_enter Tryz.func17, Tryz.ntmps17
  go_wp2_with fail
  go_loopw [5] (fun t wr => ∃ k : Nat, k ≤ a.kids.length ∧ t = .int .i64 (k : Int) ∧ Below w2.heap.size w2 wr) (fun t _ => a.kids.length - (intOf t).toNat)
  case atStart => exact ⟨0, Nat.zero_le _, rfl, Below.refl _ _⟩
  case round =>
    obtain ⟨k, hk, rfl, hbl⟩ := hrel
    have BL : Hid (Below w2.heap.size w2 wr) := hbl
    have Y1 := X1.out.later hbl
    have Y2 := X2.out.later hbl
    clear d0 d1 d2 d3 d4 d5 d6 f0 f1 f2 f3 f4 f5 f6 hbl
    have d6 := Y1.c6
    by_cases hlt : k < a.kids.length
    · obtain ⟨xk, ok, ck, rfl, hkid, hkh⟩ := HH.out.kid (i := k) hlt
      obtain ⟨xk', ok', ck', rfl, hkid', hkh'⟩ := HH'.out.kid (i := k) hlt
      have BR : Hid (Below w.heap.size w wr) := bel2 B2.out BL.out
      have hne := BW.some wr
      have KC := (hkid.later BR.out).cells
      have k0 := KC.k0
      have k1 := KC.k1
      have k2 := KC.k2
      have k3 := KC.k3
      have k4 := KC.k4
      have k5 := KC.k5
      have k6 := KC.k6
      have KC' := (hkid'.later BR.out).cells
      have m0 := KC'.k0
      have m1 := KC'.k1
      have m2 := KC'.k2
      have m3 := KC'.k3
      have m4 := KC'.k4
      have m5 := KC'.k5
      have m6 := KC'.k6
      have e6 : ∀ s : BW wr, s.w.cell? ⟨w.heap.size, 6, none⟩ = some (.slice (some xk) a.kids.length cap) := fun s => (Y1.later s.ok).c6
      have g6 : ∀ s : BW wr, s.w.cell? ⟨w1.heap.size, 6, none⟩ = some (.slice (some xk') a.kids.length cap') := fun s => (Y2.later s.ok).c6
      have HMM : Hid (∀ v, Below wr.heap.size wr v → Calls Tryz.prog 17 #[(kidAt a k).val ok ck, (kidAt a k).val ok' ck'] v fun r w' => r = .returned (.bool true) ∧ Below v.heap.size v w') := fun v hv => ih.out (kidAt a k) ok ck ok' ck' v (hkh.later (bel2 BR.out hv)) (hkh'.later (bel2 BR.out hv))
      have i1 : (k : Int) < ((a.kids.length : Nat) : Int) := by omega
      have i0 : (0 : Int) ≤ (k : Int) := Int.natCast_nonneg _
      unfold Arr.val at HMM
      clear KC KC' hkid hkid' hkh hkh' Y1 Y2
      generalize kidAt a k = kk at *
      go_wp2_with fail
      refine region_in (C := fun w' => ∃ s : BW wr, w' = s.w) (by kernel_rfl) (by kernel_rfl) ⟨⟨wr.drew, (Below.refl _ _).drew⟩, rfl⟩ ?_
      repeat (go_big_quiet_step (first
        | (go_at_call 17; rename_i s; refine (HMM.out s.w s.ok).mono ?_; rintro e wx ⟨rfl, hbx⟩; exact ⟨rfl, ⟨wx, bel2 s.ok hbx⟩, rfl⟩)))
      refine wpQuiet_nil ?_
      intro _ hw'
      obtain ⟨s, hw''⟩ := hw'
      subst hw''
      have HE : Hid (Below w2.heap.size w2 s.w) := bel2 BL.out s.ok
      clear hne d6 e6 g6 k0 k1 k2 k3 k4 k5 k6 m0 m1 m2 m3 m4 m5 m6
      go_wp2
      go_roundw
      case rel => exact ⟨k + 1, by omega, by go_num, HE.out⟩
      case measure => simp [intOf]; omega
    · obtain rfl : k = a.kids.length := by omega
      clear Y1 Y2
      go_wp2
      go_ret
      exact ⟨rfl, bel2 B2.out BL.out⟩
theorem sameA (B bytes : Nat) : ∀ f, SameC B bytes f := by
  intro f
  induction f with
  | zero => intro a o cap o' cap' w hH _; cases hH
  | succ f ih => exact same_step B bytes f ih
end Go.Proofs.YthbjeedmhgnnaaaGreat.Arr
namespace Go.Proofs.YthbjeedmhgnnaaaGreat.Arr
open Go.ChangeShapes Go.WideShapes Go.ChangeAt Go.RowKit

/-- These cells are an array's, in memory of its own. -/
def HoldsO (B : Nat) (w : World) : Nat → (Nat → Prop) → List Value → Arr → Prop
  | 0, _, _, _ => False
  | f + 1, ok, cs, a => ∃ (o : Option Addr) (cap : Nat), cs = a.cells o cap ∧ a.ok B ∧ a.kids.length ≤ cap ∧ cap ≤ maxLen ∧
      (o = none ∧ a.kids = [] ∧ cap = 0 ∨ ∃ g cur, o = some ⟨g, 0, none⟩ ∧ ok g ∧ w.heap[g]? = some (.cells cur 30 (0, 0)) ∧ cur.size = cap * 7 ∧
        ∀ i, i < a.kids.length → ∃ cs', cs'.length = 7 ∧ (∀ j, j < 7 → cur[i * 7 + j]? = cs'[j]?) ∧ HoldsO B w f (fun b => ok b ∧ b ≠ g) cs' (a.kids.getD i nil))
/-- A bound of what a copy's rows take. -/
def upB (B : Nat) : Nat := maxLen * 96 + B
theorem Arr.ok.up {B B' : Nat} (hB : B ≤ B') {a : Arr} (h : a.ok B) : a.ok B' := ⟨h.layout, h.offset, h.length, Nat.le_trans h.valid hB, Nat.le_trans h.ends hB, Nat.le_trans h.data hB⟩
theorem add0 (g k : Nat) : (⟨g, 0, none⟩ : Addr).add k = ⟨g, k, none⟩ := by
  simp [Addr.add]
  exact Eq.symm
theorem HoldsO.holds {B : Nat} {w : World} : ∀ {f : Nat} {ok : Nat → Prop} {cs : List Value} {a : Arr}, HoldsO B w f ok cs a → HoldsF (upB B) 96 w f cs a := by
  intro f
  induction f with
  | zero => intro ok cs a h; cases h
  | succ f ih =>
    rintro ok cs a ⟨o, cap, h1, h2, h3, h4, h5⟩
    refine ⟨o, cap, h1, h2.up (by unfold upB; omega), h3, ?_, h4, h5.imp id ?_⟩
    · unfold upB
      have := Nat.mul_le_mul_right 96 h4
      omega
    rintro ⟨g, cur, e, _, hg, _, hx⟩
    refine ⟨_, e, fun i hi => ?_⟩
    obtain ⟨cs', hl, hc, hh⟩ := hx i hi
    refine ⟨cs', hl, fun j hj => ?_, ih hh⟩
    rw [add0, ← hc j hj]
    simp [World.cell?, hg]
/-- It stays where its blocks stay. -/
theorem HoldsO.stays {B : Nat} {w w' : World} : ∀ {f : Nat} {ok ok' : Nat → Prop} {cs : List Value} {a : Arr}, (∀ b, ok b → w'.heap[b]? = w.heap[b]?) → (∀ b, ok b → ok' b) → HoldsO B w f ok cs a → HoldsO B w' f ok' cs a := by
  intro f
  induction f with
  | zero => intro ok ok' cs a _ _ h; cases h
  | succ f ih =>
    rintro ok ok' cs a hb hk ⟨o, cap, h1, h2, h3, h4, h5⟩
    refine ⟨o, cap, h1, h2, h3, h4, h5.imp id ?_⟩
    rintro ⟨g, cur, e, hg0, hg, hs, hx⟩
    refine ⟨g, cur, e, hk _ hg0, (hb _ hg0).trans hg, hs, fun i hi => ?_⟩
    obtain ⟨cs', hl, hc, hh⟩ := hx i hi
    exact ⟨cs', hl, hc, ih (fun b h => hb b h.1) (fun b h => ⟨hk b h.1, h.2⟩) hh⟩
theorem HoldsO.more {B : Nat} {w : World} : ∀ {f : Nat} {ok : Nat → Prop} {cs : List Value} {a : Arr}, HoldsO B w f ok cs a → HoldsO B w (f + 1) ok cs a := by
  intro f
  induction f with
  | zero => intro ok cs a h; cases h
  | succ f ih =>
    rintro ok cs a ⟨o, cap, h1, h2, h3, h4, h5⟩
    refine ⟨o, cap, h1, h2, h3, h4, h5.imp id ?_⟩
    rintro ⟨g, cur, e, hg0, hg, hs, hx⟩
    refine ⟨g, cur, e, hg0, hg, hs, fun i hi => ?_⟩
    obtain ⟨cs', hl, hc, hh⟩ := hx i hi
    exact ⟨cs', hl, hc, ih hh⟩
/-- The blocks that it reads lie in the world. -/
theorem HoldsO.lt {B : Nat} {w : World} : ∀ {f : Nat} {ok : Nat → Prop} {cs : List Value} {a : Arr}, HoldsO B w f ok cs a → HoldsO B w f (fun b => ok b ∧ b < w.heap.size) cs a := by
  intro f
  induction f with
  | zero => intro ok cs a h; cases h
  | succ f ih =>
    rintro ok cs a ⟨o, cap, h1, h2, h3, h4, h5⟩
    refine ⟨o, cap, h1, h2, h3, h4, h5.imp id ?_⟩
    rintro ⟨g, cur, e, hg0, hg, hs, hx⟩
    have hlt : g < w.heap.size := (Array.getElem?_eq_some_iff.1 hg).1
    refine ⟨g, cur, e, ⟨hg0, hlt⟩, hg, hs, fun i hi => ?_⟩
    obtain ⟨cs', hl, hc, hh⟩ := hx i hi
    exact ⟨cs', hl, hc, (ih hh).stays (fun b _ => rfl) (fun b h => ⟨⟨h.1.1, h.2⟩, h.1.2⟩)⟩
theorem HoldsF.up {B B' bytes : Nat} (hB : B ≤ B') {w : World} : ∀ {f : Nat} {cs : List Value} {a : Arr}, HoldsF B bytes w f cs a → HoldsF B' bytes w f cs a := by
  intro f
  induction f with
  | zero => intro cs a h; cases h
  | succ f ih =>
    rintro cs a ⟨o, cap, h1, h2, h3, h4, h5, h6⟩
    refine ⟨o, cap, h1, h2.up hB, h3, Nat.le_trans h4 hB, h5, h6.imp id ?_⟩
    rintro ⟨x, e, hx⟩
    refine ⟨x, e, fun i hi => ?_⟩
    obtain ⟨cs', hl, hc, hh⟩ := hx i hi
    exact ⟨cs', hl, hc, ih hh⟩

/-- The rows that are copied so far. -/
structure Copied (B f : Nat) (a : Arr) (b0 : Nat) (k : Nat) (v : Value) (wr : World) (css : List (List Value)) : Prop where
  len : css.length = k
  own : wr.ownsRow b0 30 7 v k css.flatten
  each : ∀ i, i < k → (css.getD i []).length = 7 ∧ HoldsO B wr f (fun b => b0 ≤ b ∧ b < wr.heap.size ∧ some b ≠ v.ownBlock) (css.getD i []) (kidAt a i)
theorem copied0 (B f : Nat) (a : Arr) (b0 : Nat) (wr : World) : Copied B f a b0 0 (.slice none 0 0) wr [] := ⟨rfl, ⟨rfl, .inl ⟨rfl, rfl⟩⟩, fun i hi => by omega⟩
theorem ownsRow_len {w : World} {base e size n : Nat} {v : Value} {xs : List Value} (h : w.ownsRow base e size v n xs) : ∃ o cap, v = .slice o n cap := by
  rcases h.2 with ⟨rfl, rfl⟩ | ⟨g, cap, cur, rfl, _⟩
  · exact ⟨_, _, rfl⟩
  · exact ⟨_, _, rfl⟩
theorem flatten_at : ∀ (css : List (List Value)) (i j : Nat), (∀ k, k < css.length → (css.getD k []).length = 7) → i < css.length → j < 7 → css.flatten[i * 7 + j]? = (css.getD i [])[j]?
  | [], i, j, _, hi, _ => by simp at hi
  | c :: css, 0, j, h, _, hj => by
    have h0 : c.length = 7 := by simpa using h 0 (by simp)
    rw [List.flatten_cons, List.getElem?_append_left (by omega)]
    simp
  | c :: css, i + 1, j, h, hi, hj => by
    have h0 : c.length = 7 := by simpa using h 0 (by simp)
    rw [List.flatten_cons, List.getElem?_append_right (by omega), show (i + 1) * 7 + j - c.length = i * 7 + j from by omega]
    rw [flatten_at css i j (fun k hk => by simpa using h (k + 1) (by simpa using hk)) (by simpa using hi) hj]
    simp
/-- One more. -/
theorem Copied.step {B f : Nat} {a : Arr} {b0 k : Nat} {v : Value} {wr w4 w5 : World} {css : List (List Value)} {cs : List Value} {v' : Value} (h : Copied B f a b0 k v wr css) (hw : b0 ≤ wr.heap.size) (h4 : Below wr.heap.size wr w4) (hl : cs.length = 7)
    (hn : HoldsO B w4 f (fun b => wr.heap.size ≤ b ∧ b < w4.heap.size) cs (kidAt a k)) (hown : w5.ownsRow b0 30 7 v' (k + 1) (css.flatten ++ cs)) (hgrow : w4.grownBy w5 v.ownBlock) {n5 : Nat} (hn5 : w4.heap.size ≤ n5) (hblk : v'.ownBlock = v.ownBlock ∨ v'.ownBlock = some n5) : Copied B f a b0 (k + 1) v' w5 (css ++ [cs]) := by
  have hb := fun b => h.own.lt b
  refine ⟨by simp [h.len], by simpa using hown, fun i hi => ?_⟩
  have hs4 := h4.size
  have hs5 := hgrow.size
  by_cases hik : i < k
  · obtain ⟨e1, e2⟩ := h.each i hik
    have e : (css ++ [cs]).getD i [] = css.getD i [] := by
      rw [List.getD_eq_getElem?_getD, List.getD_eq_getElem?_getD, List.getElem?_append_left (by rw [h.len]; exact hik)]
    rw [e]
    refine ⟨e1, e2.stays (fun b hb => ?_) (fun b hb => ⟨hb.1, by omega, ?_⟩)⟩
    · rw [hgrow.block b (by omega) (fun c => hb.2.2 c), h4.block b hb.2.1]
    · rcases hblk with c | c
      · rw [c]; exact hb.2.2
      · rw [c]
        intro c
        injection c with c
        omega
  · obtain rfl : i = k := by omega
    have e : (css ++ [cs]).getD i [] = cs := by
      rw [List.getD_eq_getElem?_getD, List.getElem?_append_right (by rw [h.len]; exact Nat.le_refl _), h.len]
      simp
    rw [e]
    refine ⟨hl, hn.stays (fun b hb' => ?_) (fun b hb' => ⟨by omega, by omega, ?_⟩)⟩
    · refine hgrow.block b hb'.2 (fun c => ?_)
      have := (hb b c.symm).2
      omega
    · rcases hblk with c | c
      · rw [c]
        intro c'
        have := (hb b c'.symm).2
        omega
      · rw [c]
        intro c
        injection c with c
        omega
/-- All of them: an array of one's own. -/
theorem Copied.done {B f : Nat} {a : Arr} {b0 : Nat} {o : Option Addr} {cap : Nat} {wr w5 : World} {css : List (List Value)} (h : Copied B f a b0 a.kids.length (.slice o a.kids.length cap) wr css) (ha : a.ok B) (hb : ∀ b, b0 ≤ b → b < wr.heap.size → w5.heap[b]? = wr.heap[b]?) : HoldsO B w5 (f + 1) (fun b => b0 ≤ b) (a.cells o cap) a := by
  rcases h.own.2 with ⟨e, e0⟩ | ⟨g, cap', cur, e, hg0, hg, hn, hm, hs, hx⟩
  · injection e with e1 e2 e3
    subst e1 e3
    have hk : a.kids = [] := List.length_eq_zero_iff.1 e0
    exact ⟨none, 0, rfl, ha, by rw [hk]; exact Nat.le_refl _, Nat.zero_le _, .inl ⟨rfl, hk, rfl⟩⟩
  · injection e with e1 e2 e3
    subst e1 e3
    have hlt : g < wr.heap.size := (Array.getElem?_eq_some_iff.1 hg).1
    refine ⟨_, _, rfl, ha, hn, hm, .inr ⟨g, cur, rfl, hg0, (hb g hg0 hlt).trans hg, hs, fun i hi => ?_⟩⟩
    obtain ⟨e1, e2⟩ := h.each i hi
    refine ⟨css.getD i [], e1, fun j hj => ?_, e2.stays (fun b hb' => hb b hb'.1 hb'.2.1) (fun b hb' => ⟨hb'.1, fun c => hb'.2.2 (by rw [c]; rfl)⟩)⟩
    rw [← flatten_at css i j (fun k hk => (h.each k (by rw [h.len] at hk; exact hk)).1) (by rw [h.len]; exact hi) hj, ← hx]
    rw [List.getElem?_take, if_pos (by omega)]
    simp
end Go.Proofs.YthbjeedmhgnnaaaGreat.Arr
namespace Go.Proofs.YthbjeedmhgnnaaaGreat.Arr
open Go.ChangeShapes Go.WideShapes Go.ChangeAt Go.RowKit
open Tree Val

theorem info27 : (Tryz.prog.info? 30).map (fun i => (i.zero, i.size, i.bytes)) = some (some (.agg #[.int .i64 0, .int .i64 0, .int .i64 0, .string ⟨#[]⟩, .string ⟨#[]⟩, .string ⟨#[]⟩, .slice none 0 0]), 7, 96) := by kernel_rfl
theorem ownsRow_grown {w w' : World} {base e size n : Nat} {v : Value} {xs : List Value} (h : w.ownsRow base e size v n xs) (hb : Below w.heap.size w w') : w'.ownsRow base e size v n xs := by
  refine ⟨h.1, h.2.imp id ?_⟩
  rintro ⟨g, cap, cur, e1, e2, e3, e4⟩
  exact ⟨g, cap, cur, e1, e2, (hb.block g (Array.getElem?_eq_some_iff.1 e3).1).trans e3, e4⟩
theorem grown_alloc {w w' : World} {o : Obj} {row : Option Nat} (h : (w.alloc o).grownBy w' row) : w.grownBy w' row := by
  have hb : Below w.heap.size w (w.alloc o) := (Below.refl _ _).alloc (Nat.le_refl _) _
  refine ⟨h.os.trans hb.os, h.tape.trans hb.tape, h.output.trans hb.output, Nat.le_trans hb.size h.size, fun k hk hne => ?_⟩
  exact (h.block k (Nat.lt_of_lt_of_le hk hb.size) hne).trans (hb.block k hk)
/-- A block's cells, one of them written. -/
theorem blk_set {w : World} {g : Nat} {cs : Array Value} {t : TypeId} {fz : Nat × Nat} (h : w.heap[g]? = some (.cells cs t fz)) (j : Nat) (u : Value) : (w.setCell ⟨g, j, none⟩ u).heap[g]? = some (.cells (cs.setIfInBounds j u) t fz) := by
  simp [World.setCell, Array.getElem?_modify, h]
/-- An array's box, written over. -/
theorem set7 {w : World} {g : Nat} {a0 : Arr} {o0 : Option Addr} {cap0 : Nat} (h : Bx w g a0 o0 cap0) (a : Arr) (o : Option Addr) (cap : Nat) :
    ∃ w', ((((((w.setCell ⟨g, 0, none⟩ (.int .i64 a.layout)).setCell ⟨g, 1, none⟩ (.int .i64 a.offset)).setCell ⟨g, 2, none⟩ (.int .i64 a.length)).setCell ⟨g, 3, none⟩ (.string a.valid)).setCell ⟨g, 4, none⟩ (.string a.ends)).setCell ⟨g, 5, none⟩ (.string a.data)).setCell ⟨g, 6, none⟩ (.slice o a.kids.length cap) = w' ∧
      Bx w' g a o cap ∧ (∀ b, b ≠ g → w'.heap[b]? = w.heap[b]?) ∧ (∀ B, B ≤ g → Below B w w') := by
  refine ⟨_, rfl, ⟨?_⟩, fun b hb => ?_, fun B hB => ?_⟩
  · rw [blk_set (blk_set (blk_set (blk_set (blk_set (blk_set (blk_set h.blk 0 _) 1 _) 2 _) 3 _) 4 _) 5 _) 6 _]
    rfl
  · have q := fun (w : World) (j : Nat) (u : Value) => Below.heap_setCell w ⟨g, j, none⟩ u b hb
    rw [q, q, q, q, q, q, q]
  · exact (((((((Below.refl _ _).setCell hB _).setCell hB _).setCell hB _).setCell hB _).setCell hB _).setCell hB _).setCell hB _
/-- What CopyArray answers. -/
def CopyC (B f : Nat) : Prop := ∀ (a : Arr) (o : Option Addr) (cap : Nat) (w : World), HoldsF B 96 w f (a.cells o cap) a →
  Calls Tryz.prog 12 #[a.val o cap] w fun r w' => ∃ o' cap', r = .returned (a.val o' cap') ∧ HoldsO B w' f (fun b => w.heap.size ≤ b) (a.cells o' cap') a ∧ Below w.heap.size w w'
set_option maxRecDepth 20000 in
set_option maxHeartbeats 3200000 in
theorem copy_step (B f : Nat) (hB : B ≤ 140737488355328) (ih : Hid (CopyC B f)) : CopyC B (f + 1) := by
  intro a o cap w hH
  obtain ⟨i27, hi, hz0, hz1, hz2⟩ := info_parts info27
  obtain ⟨w1, e1, x1, b1, z1⟩ := box7 w a o cap
  obtain ⟨w2, e2', x2, b2, z2⟩ := box7 w1 nil none 0
  have e2 : w1.alloc (.cells #[.int .i64 0, .int .i64 0, .int .i64 0, .string ⟨#[]⟩, .string ⟨#[]⟩, .string ⟨#[]⟩, .slice none 0 0] 30) = w2 := e2'
  clear e2'
  have B2 : Hid (Below w.heap.size w w2) := bel2 b1 b2
  have X1 : Hid (Bx w2 w.heap.size a o cap) := x1.later b2
  have X2 : Hid (Bx w2 w1.heap.size nil none 0) := x2
  have HH : Hid (HoldsF B 96 w (f + 1) (a.cells o cap) a) := hH
  have hlen : a.kids.length ≤ 9223372036854775807 := by have := (hH.ok').2.1; unfold maxLen at this; omega
  have hmem : a.kids.length * 96 ≤ 140737488355328 := by
    obtain ⟨o2, cap2, e, _, h3, h4, _⟩ := hH
    have := Nat.mul_le_mul_right 96 h3
    omega
  have d6 := X1.out.c6
  unfold Arr.val
  clear x1 x2 b1 b2 hH
  go_enter Tryz.func12, Tryz.ntmps12
  go_wp2_with fail
  go_loopw [3, 4] (fun v t wr => ∃ k : Nat, ∃ css, k ≤ a.kids.length ∧ t = .int .i64 (k : Int) ∧ Copied B f a w2.heap.size k v wr css ∧ Below w2.heap.size w2 wr) (fun _ t _ => a.kids.length - (intOf t).toNat)
  case atStart => exact ⟨0, [], Nat.zero_le _, rfl, copied0 _ _ _ _ _, Below.refl _ _⟩
  case round =>
    obtain ⟨k, css, hk, rfl, hcp, hbl⟩ := hrel
    have BL : Hid (Below w2.heap.size w2 wr) := hbl
    have CP : Hid (Copied B f a w2.heap.size k _ wr css) := hcp
    have Y1 := X1.out.later hbl
    have hown := hcp.own
    clear d6 hbl hcp
    have d6 := Y1.c6
    obtain ⟨ov, cv, rfl⟩ := ownsRow_len hown
    by_cases hlt : k < a.kids.length
    · obtain ⟨xk, ok, ck, rfl, hkid, hkh⟩ := HH.out.kid (i := k) hlt
      have BR : Hid (Below w.heap.size w wr) := bel2 B2.out BL.out
      have KC := hkid.later BR.out
      have k0 := KC.k0
      have k1 := KC.k1
      have k2 := KC.k2
      have k3 := KC.k3
      have k4 := KC.k4
      have k5 := KC.k5
      have k6 := KC.k6
      have HMM : Hid (Calls Tryz.prog 12 #[(kidAt a k).val ok ck] wr fun r w' => ∃ o' cap', r = .returned ((kidAt a k).val o' cap') ∧ HoldsO B w' f (fun b => wr.heap.size ≤ b) ((kidAt a k).cells o' cap') (kidAt a k) ∧ Below wr.heap.size wr w') := ih.out (kidAt a k) ok ck wr (hkh.later BR.out)
      have i1 : (k : Int) < ((a.kids.length : Nat) : Int) := by omega
      have i0 : (0 : Int) ≤ (k : Int) := Int.natCast_nonneg _
      unfold Arr.val at HMM
      clear KC hkid hkh Y1 hown
      have HKK : Hid (∃ kk, kk = kidAt a k) := ⟨_, rfl⟩
      go_wp2_with fail
      refine HMM.out.mono ?_
      rintro e w4 ⟨ok', ck', rfl, hho, hb4⟩
      have HO4 : Hid (HoldsO B w4 f (fun b => wr.heap.size ≤ b) ((kidAt a k).cells ok' ck') (kidAt a k)) := hho
      have B4 : Hid (Below wr.heap.size wr w4) := hb4
      clear hho k0 k1 k2 k3 k4 k5 k6 hb4
      have hown4 : w4.ownsRow w2.heap.size 30 7 (.slice ov k cv) k css.flatten := ownsRow_grown CP.out.own B4.out
      have hsz : w2.heap.size ≤ w4.heap.size := Nat.le_trans BL.out.size B4.out.size
      go_wp2_with (at_builtin; refine wpList_append_own_at _ rfl (.tmp 12) (.tmp 19) 28 rfl w2.heap.size 30 i27 _ 7 96 Tryz.underlying28 hi hz0 hz1 hz2 rfl (by decide) _ k _ rfl (hown4.alloc _) ⟨w4.heap.size, 0, none⟩ 1 1 ((kidAt a k).cells ok' ck') rfl rfl ?c1 ?c2 ?c3 ?c4 ?c5 ?_)
      case c1 =>
        intro i u hi
        match i, hi with
        | 0, hi => simp [Arr.cells] at hi; subst hi; simp [Addr.add]
        | 1, hi => simp [Arr.cells] at hi; subst hi; simp [Addr.add]
        | 2, hi => simp [Arr.cells] at hi; subst hi; simp [Addr.add]
        | 3, hi => simp [Arr.cells] at hi; subst hi; simp [Addr.add]
        | 4, hi => simp [Arr.cells] at hi; subst hi; simp [Addr.add]
        | 5, hi => simp [Arr.cells] at hi; subst hi; simp [Addr.add]
        | 6, hi => simp [Arr.cells] at hi; subst hi; simp [Addr.add]
      case c2 => intro u hu; simp [Arr.cells] at hu; rcases hu with rfl | rfl | rfl | rfl | rfl | rfl | rfl <;> rfl
      case c3 => unfold maxLen; omega
      case c4 => omega
      case c5 => simp; omega
      intro v' w5 hown' hgrow _ hblk
      have HN : Hid (Copied B f a w2.heap.size (k + 1) v' w5 (css ++ [(kidAt a k).cells ok' ck'])) := 
        CP.out.step BL.out.size B4.out rfl ((HO4.out.lt)) hown' (grown_alloc hgrow) (n5 := w4.heap.size + 1) (Nat.le_succ _) (by simpa using hblk)
      have HB5 : Hid (Below w2.heap.size w2 w5) := (bel2 BL.out ((B4.out).alloc B4.out.size _)).grown hgrow (by simp; omega) (fun i hi => (hown4.lt i hi).1)
      clear hown4 hown' hgrow hblk d6
      go_wp2
      go_roundw
      case rel => exact ⟨k + 1, _, by omega, by go_num, HN.out, HB5.out⟩
      case measure => simp [intOf]; omega
    · obtain rfl : k = a.kids.length := by omega
      have HR : Hid (Bx wr w.heap.size a o cap) := Y1
      have HR2 : Hid (Bx wr w1.heap.size nil none 0) := X2.out.later BL.out
      have r0 := Y1.c0
      have r1 := Y1.c1
      have r2 := Y1.c2
      have r3 := Y1.c3
      have r4 := Y1.c4
      have r5 := Y1.c5
      have hf := Y1.fz 6
      have m0 := HR2.out.c0
      have m1 := HR2.out.c1
      have m2 := HR2.out.c2
      have m3 := HR2.out.c3
      have m4 := HR2.out.c4
      have m5 := HR2.out.c5
      have m6 := HR2.out.c6
      have n0 := HR2.out.fz 0
      have n1 := HR2.out.fz 1
      have n2 := HR2.out.fz 2
      have n3 := HR2.out.fz 3
      have n4 := HR2.out.fz 4
      have n5 := HR2.out.fz 5
      have n6 := HR2.out.fz 6
      have hp1 : ¬ w.heap.size = w1.heap.size := by omega
      have hp2 : ¬ w1.heap.size = w.heap.size := by omega
      clear Y1 hown
      go_wp2
      have hbx : Bx (wr.setCell ⟨w.heap.size, 6, none⟩ (.slice ov a.kids.length cv)) w1.heap.size nil none 0 := ⟨(Below.heap_setCell _ _ _ _ hp2).trans HR2.out.blk⟩
      obtain ⟨w9, e9, x9, h9, b9⟩ := set7 hbx a ov cv
      rw [e9]
      have HB9 : Hid (Below w.heap.size w w9) := ((bel2 B2.out BL.out).setCell (Nat.le_refl _) _).trans (b9 w.heap.size (by omega))
      have HO9 : Hid (HoldsO B w9 (f + 1) (fun b => w2.heap.size ≤ b) (a.cells ov cv) a) := CP.out.done HH.out.ok'.1 (fun b hb _ => (h9 b (by omega)).trans (Below.heap_setCell _ _ _ _ (by simp; omega)))
      have q0 := x9.c0
      have q1 := x9.c1
      have q2 := x9.c2
      have q3 := x9.c3
      have q4 := x9.c4
      have q5 := x9.c5
      have q6 := x9.c6
      exact bodyPost_ret (v := .agg #[.int .i64 a.layout, .int .i64 a.offset, .int .i64 a.length, .string a.valid, .string a.ends, .string a.data, .slice ov a.kids.length cv]) (by simp [results, Tryz.results12, go_sem, q0, q1, q2, q3, q4, q5, q6]) rfl ⟨ov, cv, rfl, HO9.out.stays (fun b _ => rfl) (fun b hb => by omega), HB9.out⟩
theorem copyA (B : Nat) (hB : B ≤ 140737488355328) : ∀ f, CopyC B f := by
  intro f
  induction f with
  | zero => intro a o cap w hH; cases hH
  | succ f ih => exact copy_step B f hB ih
end Go.Proofs.YthbjeedmhgnnaaaGreat.Arr
namespace Go.Proofs.YthbjeedmhgnnaaaGreat.Arr
open Go.ChangeShapes Go.WideShapes Go.ChangeAt Go.RowKit
open Tree Val

def awT : List Nd := [⟨0, -1, true⟩]
theorem aw_holds (a : Arr) (w : World) (hk : a.kids = []) (hok : a.ok 4096) : HoldsF 4096 96 w 1 (a.cells none 0) a :=
  ⟨none, 0, rfl, hok, by rw [hk]; exact Nat.zero_le _, by simp, Nat.zero_le _, .inl ⟨rfl, hk, rfl⟩⟩
end Go.Proofs.YthbjeedmhgnnaaaGreat.Arr
