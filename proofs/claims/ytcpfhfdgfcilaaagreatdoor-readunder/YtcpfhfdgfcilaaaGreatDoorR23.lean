/-
  Several texts in one: Readers made, of an array that may be: readerOf: contract.
-/
import Derived.Test.YtcpfhfdgfcilaaaGreatDoorR22
import Derived.Test.YtcpfhfdgfcilaaaGreatDoorR12
import Derived.Test.YtcpfhfdgfcilaaaGreatDoorR02
import Derived.Test.YtcpfhfdgfcilaaaGreatDoorR09
import Derived.Maps.AppendAt
import Derived.Deep.CutRange
import Derived.Deep.CutBlock
import Derived.Test.YtcpfhfdgfcilaaaGreatDoorR20
set_option linter.unusedVariables false
set_option linter.unusedSimpArgs false
namespace Go.Proofs.YtcpfhfdgfcilaaaGreatDoor.Arr
open Go.ChangeShapes Go.WideShapes Go.ChangeAt Go.RowKit
open Tree Val

/-- A tree of readers in memory of its own. -/
def HoldsRo (w : World) (ns : List Nd) : Nat → Nat → (Nat → Prop) → List Value → Arr → Prop
  | 0, _, _, _, _ => False
  | f + 1, n, ok, cs, a => ∃ (o : Option Addr) (cap : Nat) (r : Option Addr) (c : Nat), cs = rdCells a o cap (nd ns n).kind r a.kids.length c ∧
      (a.kids = [] ∨ ∃ g cur, r = some ⟨g, 0, none⟩ ∧ ok g ∧ w.heap[g]? = some (.cells cur 71 (0, 0)) ∧ ∀ i, i < a.kids.length → ∃ cs', cs'.length = 9 ∧ (∀ j, j < 9 → cur[i * 9 + j]? = cs'[j]?) ∧ HoldsRo w ns f (kidNode ns n a i) (fun b => ok b ∧ b ≠ g) cs' (kidAt a i))
theorem HoldsRo.holds {w : World} {ns : List Nd} : ∀ {f n : Nat} {ok : Nat → Prop} {cs : List Value} {a : Arr}, HoldsRo w ns f n ok cs a → HoldsRd w ns f n cs a := by
  intro f
  induction f with
  | zero => intro n ok cs a h; cases h
  | succ f ih =>
    rintro n ok cs a ⟨o, cap, r, c, h1, h2⟩
    refine ⟨o, cap, r, c, h1, h2.imp id ?_⟩
    rintro ⟨g, cur, e, _, hg, hx⟩
    refine ⟨g, e, fun i hi => ?_⟩
    obtain ⟨cs', hl, hc, hh⟩ := hx i hi
    refine ⟨cs', hl, fun j hj => ?_, ih hh⟩
    rw [← hc j hj]
    simp [World.cell?, hg]
theorem HoldsRo.stays {w w' : World} {ns : List Nd} : ∀ {f n : Nat} {ok ok' : Nat → Prop} {cs : List Value} {a : Arr}, (∀ b, ok b → w'.heap[b]? = w.heap[b]?) → (∀ b, ok b → ok' b) → HoldsRo w ns f n ok cs a → HoldsRo w' ns f n ok' cs a := by
  intro f
  induction f with
  | zero => intro n ok ok' cs a _ _ h; cases h
  | succ f ih =>
    rintro n ok ok' cs a hb hk ⟨o, cap, r, c, h1, h2⟩
    refine ⟨o, cap, r, c, h1, h2.imp id ?_⟩
    rintro ⟨g, cur, e, hg0, hg, hx⟩
    refine ⟨g, cur, e, hk _ hg0, (hb _ hg0).trans hg, fun i hi => ?_⟩
    obtain ⟨cs', hl, hc, hh⟩ := hx i hi
    exact ⟨cs', hl, hc, ih (fun b h => hb b h.1) (fun b h => ⟨hk b h.1, h.2⟩) hh⟩
theorem HoldsRo.lt {w : World} {ns : List Nd} : ∀ {f n : Nat} {ok : Nat → Prop} {cs : List Value} {a : Arr}, HoldsRo w ns f n ok cs a → HoldsRo w ns f n (fun b => ok b ∧ b < w.heap.size) cs a := by
  intro f
  induction f with
  | zero => intro n ok cs a h; cases h
  | succ f ih =>
    rintro n ok cs a ⟨o, cap, r, c, h1, h2⟩
    refine ⟨o, cap, r, c, h1, h2.imp id ?_⟩
    rintro ⟨g, cur, e, hg0, hg, hx⟩
    have hlt : g < w.heap.size := (Array.getElem?_eq_some_iff.1 hg).1
    refine ⟨g, cur, e, ⟨hg0, hlt⟩, hg, fun i hi => ?_⟩
    obtain ⟨cs', hl, hc, hh⟩ := hx i hi
    exact ⟨cs', hl, hc, (ih hh).stays (fun b _ => rfl) (fun b h => ⟨⟨h.1.1, h.2⟩, h.1.2⟩)⟩
/-- The readers that are made so far. -/
structure Rds (ns : List Nd) (f n : Nat) (a : Arr) (b0 k : Nat) (v : Value) (wr : World) (css : List (List Value)) : Prop where
  len : css.length = k
  own : wr.ownsRow b0 71 9 v k css.flatten
  each : ∀ i, i < k → (css.getD i []).length = 9 ∧ HoldsRo wr ns f (kidNode ns n a i) (fun b => b0 ≤ b ∧ b < wr.heap.size ∧ some b ≠ v.ownBlock) (css.getD i []) (kidAt a i)
theorem rds0 (ns : List Nd) (f n : Nat) (a : Arr) (b0 : Nat) (wr : World) : Rds ns f n a b0 0 (.slice none 0 0) wr [] := ⟨rfl, ⟨rfl, .inl ⟨rfl, rfl⟩⟩, fun i hi => by omega⟩
theorem flatten9 : ∀ (css : List (List Value)) (i j : Nat), (∀ k, k < css.length → (css.getD k []).length = 9) → i < css.length → j < 9 → css.flatten[i * 9 + j]? = (css.getD i [])[j]?
  | [], i, j, _, hi, _ => by simp at hi
  | c :: css, 0, j, h, _, hj => by
    have h0 : c.length = 9 := by simpa using h 0 (by simp)
    rw [List.flatten_cons, List.getElem?_append_left (by omega)]
    simp
  | c :: css, i + 1, j, h, hi, hj => by
    have h0 : c.length = 9 := by simpa using h 0 (by simp)
    rw [List.flatten_cons, List.getElem?_append_right (by omega), show (i + 1) * 9 + j - c.length = i * 9 + j from by omega]
    rw [flatten9 css i j (fun k hk => by simpa using h (k + 1) (by simpa using hk)) (by simpa using hi) hj]
    simp
/-- A world where the readers so far lie as they did. -/
theorem Rds.keep {ns : List Nd} {f n : Nat} {a : Arr} {b0 k : Nat} {v : Value} {wr w' : World} {css : List (List Value)} (h : Rds ns f n a b0 k v wr css) (hk : ∀ b, b0 ≤ b → b < wr.heap.size → w'.heap[b]? = wr.heap[b]?) (hs : wr.heap.size ≤ w'.heap.size) : Rds ns f n a b0 k v w' css := by
  refine ⟨h.len, ⟨h.own.1, h.own.2.imp id ?_⟩, fun i hi => ?_⟩
  · rintro ⟨g, cap, cur, e1, e2, e3, e4⟩
    exact ⟨g, cap, cur, e1, e2, (hk g e2 (Array.getElem?_eq_some_iff.1 e3).1).trans e3, e4⟩
  · obtain ⟨h1, h2⟩ := h.each i hi
    exact ⟨h1, h2.stays (fun b hb => hk b hb.1 hb.2.1) (fun b hb => ⟨hb.1, by omega, hb.2.2⟩)⟩
/-- One more. -/
theorem Rds.step {ns : List Nd} {f n : Nat} {a : Arr} {b0 k : Nat} {v : Value} {wr w4 w5 : World} {css : List (List Value)} {cs : List Value} {v' : Value} (h : Rds ns f n a b0 k v wr css) (hw : b0 ≤ wr.heap.size) (h4 : Below wr.heap.size wr w4) (hl : cs.length = 9)
    (hn : HoldsRo w4 ns f (kidNode ns n a k) (fun b => wr.heap.size ≤ b ∧ b < w4.heap.size) cs (kidAt a k)) (hown : w5.ownsRow b0 71 9 v' (k + 1) (css.flatten ++ cs)) (hgrow : w4.grownBy w5 v.ownBlock) {n5 : Nat} (hn5 : w4.heap.size ≤ n5) (hblk : v'.ownBlock = v.ownBlock ∨ v'.ownBlock = some n5) : Rds ns f n a b0 (k + 1) v' w5 (css ++ [cs]) := by
  have hb := fun b => h.own.lt b
  refine ⟨by simp [h.len], by simpa using hown, fun i hi => ?_⟩
  have hs4 := h4.size
  have hs5 := hgrow.size
  by_cases hik : i < k
  · obtain ⟨e1, e2⟩ := h.each i hik
    have e : (css ++ [cs]).getD i [] = css.getD i [] := by
      rw [List.getD_eq_getElem?_getD, List.getD_eq_getElem?_getD, List.getElem?_append_left (by rw [h.len]; exact hik)]
    rw [e]
    refine ⟨e1, e2.stays (fun b hb => ?_) (fun b hb => ⟨hb.1, by omega, ?_⟩)⟩
    · rw [hgrow.block b (by omega) (fun c => hb.2.2 c), h4.block b hb.2.1]
    · rcases hblk with c | c
      · rw [c]; exact hb.2.2
      · rw [c]
        intro c
        injection c with c
        omega
  · obtain rfl : i = k := by omega
    have e : (css ++ [cs]).getD i [] = cs := by
      rw [List.getD_eq_getElem?_getD, List.getElem?_append_right (by rw [h.len]; exact Nat.le_refl _), h.len]
      simp
    rw [e]
    refine ⟨hl, hn.stays (fun b hb' => ?_) (fun b hb' => ⟨by omega, by omega, ?_⟩)⟩
    · refine hgrow.block b hb'.2 (fun c => ?_)
      have := (hb b c.symm).2
      omega
    · rcases hblk with c | c
      · rw [c]
        intro c'
        have := (hb b c'.symm).2
        omega
      · rw [c]
        intro c
        injection c with c
        omega
/-- All of them: a tree of one's own. -/
theorem Rds.done {ns : List Nd} {f n : Nat} {a : Arr} {b0 : Nat} {r : Option Addr} {c : Nat} {wr w5 : World} {css : List (List Value)} (o : Option Addr) (cap : Nat) (h : Rds ns f n a b0 a.kids.length (.slice r a.kids.length c) wr css) (hb : ∀ b, b0 ≤ b → b < wr.heap.size → w5.heap[b]? = wr.heap[b]?) : HoldsRo w5 ns (f + 1) n (fun b => b0 ≤ b) (rdCells a o cap (nd ns n).kind r a.kids.length c) a := by
  rcases h.own.2 with ⟨e, e0⟩ | ⟨g, cap', cur, e, hg0, hg, hn, hm, hs, hx⟩
  · have hk : a.kids = [] := List.length_eq_zero_iff.1 e0
    exact ⟨o, cap, r, c, rfl, .inl hk⟩
  · injection e with e1 e2 e3
    subst e1 e3
    have hlt : g < wr.heap.size := (Array.getElem?_eq_some_iff.1 hg).1
    refine ⟨_, _, _, _, rfl, .inr ⟨g, cur, rfl, hg0, (hb g hg0 hlt).trans hg, fun i hi => ?_⟩⟩
    obtain ⟨e1, e2⟩ := h.each i hi
    refine ⟨css.getD i [], e1, fun j hj => ?_, e2.stays (fun b hb' => hb b hb'.1 hb'.2.1) (fun b hb' => ⟨hb'.1, fun c => hb'.2.2 (by rw [c]; rfl)⟩)⟩
    rw [← flatten9 css i j (fun k hk => (h.each k (by rw [h.len] at hk; exact hk)).1) (by rw [h.len]; exact hi) hj, ← hx]
    rw [List.getElem?_take, if_pos (by omega)]
    simp
theorem infoRd : (Tryz.prog.info? 71).map (fun i => (i.zero, i.size, i.bytes)) = some (some (.agg #[.int .i64 0, .int .i64 0, .int .i64 0, .string ⟨#[]⟩, .string ⟨#[]⟩, .string ⟨#[]⟩, .slice none 0 0, .int .i64 0, .slice none 0 0]), 9, 128) := by kernel_rfl
set_option maxHeartbeats 3200000 in
/-- A reader's box, written over. -/
theorem set9 {w : World} {g : Nat} {a0 : Arr} {o0 : Option Addr} {cap0 : Nat} {k0 : Int} {r0 : Option Addr} {n0 c0 : Nat} (h : Rx w g a0 o0 cap0 k0 r0 n0 c0) (a : Arr) (o : Option Addr) (cap : Nat) (k : Int) (r : Option Addr) (n c : Nat) :
    ∃ w', (((((((((w.setCell ⟨g, 0, none⟩ (.int .i64 a.layout)).setCell ⟨g, 1, none⟩ (.int .i64 a.offset)).setCell ⟨g, 2, none⟩ (.int .i64 a.length)).setCell ⟨g, 3, none⟩ (.string a.valid)).setCell ⟨g, 4, none⟩ (.string a.ends)).setCell ⟨g, 5, none⟩ (.string a.data)).setCell ⟨g, 6, none⟩ (.slice o a.kids.length cap)).setCell ⟨g, 7, none⟩ (.int .i64 k)).setCell ⟨g, 8, none⟩ (.slice r n c)) = w' ∧ Rx w' g a o cap k r n c ∧ (∀ b, b ≠ g → w'.heap[b]? = w.heap[b]?) ∧ (∀ B, B ≤ g → Below B w w') := by
  refine ⟨_, rfl, ⟨?_⟩, fun b hb => ?_, fun B hB => ?_⟩
  · have q0 := h.blk
    have q1 := blk_set q0 0 (.int .i64 a.layout)
    simp only [List.setIfInBounds_toArray, List.set_cons_zero, List.set_cons_succ] at q1
    have q2 := blk_set q1 1 (.int .i64 a.offset)
    simp only [List.setIfInBounds_toArray, List.set_cons_zero, List.set_cons_succ] at q2
    have q3 := blk_set q2 2 (.int .i64 a.length)
    simp only [List.setIfInBounds_toArray, List.set_cons_zero, List.set_cons_succ] at q3
    have q4 := blk_set q3 3 (.string a.valid)
    simp only [List.setIfInBounds_toArray, List.set_cons_zero, List.set_cons_succ] at q4
    have q5 := blk_set q4 4 (.string a.ends)
    simp only [List.setIfInBounds_toArray, List.set_cons_zero, List.set_cons_succ] at q5
    have q6 := blk_set q5 5 (.string a.data)
    simp only [List.setIfInBounds_toArray, List.set_cons_zero, List.set_cons_succ] at q6
    have q7 := blk_set q6 6 (.slice o a.kids.length cap)
    simp only [List.setIfInBounds_toArray, List.set_cons_zero, List.set_cons_succ] at q7
    have q8 := blk_set q7 7 (.int .i64 k)
    simp only [List.setIfInBounds_toArray, List.set_cons_zero, List.set_cons_succ] at q8
    have q9 := blk_set q8 8 (.slice r n c)
    simp only [List.setIfInBounds_toArray, List.set_cons_zero, List.set_cons_succ] at q9
    exact q9
  · have q := fun (w : World) (j : Nat) (u : Value) => Below.heap_setCell w ⟨g, j, none⟩ u b hb
    rw [q, q, q, q, q, q, q, q, q]
  · exact (((((((((Below.refl _ _).setCell hB _).setCell hB _).setCell hB _).setCell hB _).setCell hB _).setCell hB _).setCell hB _).setCell hB _).setCell hB _
theorem Rx.set8 {w : World} {g : Nat} {a : Arr} {o : Option Addr} {cap : Nat} {k : Int} {r : Option Addr} {n c : Nat} (h : Rx w g a o cap k r n c) (r' : Option Addr) (n' c' : Nat) : ∃ w', w.setCell ⟨g, 8, none⟩ (.slice r' n' c') = w' ∧ Rx w' g a o cap k r' n' c' ∧ (∀ b, b ≠ g → w'.heap[b]? = w.heap[b]?) ∧ (∀ (S : Nat → Prop) (w0 : World), S g → Kept S w0 w → Kept S w0 w') :=
  ⟨_, rfl, ⟨by rw [blk_set h.blk 8]; rfl⟩, fun b hb => Below.heap_setCell _ _ _ _ hb, fun S w0 hS hk => hk.set hS _⟩
theorem may_kid {ns : List Nd} (hm : May ns) {f n : Nat} {a : Arr} (hn : n < ns.length) (h : mayF ns (f + 1) n a = true) {k : Nat} (hk : k < a.kids.length) : kidNode ns n a k < ns.length ∧ mayF ns f (kidNode ns n a k) (kidAt a k) = true ∧ (a.layout = 0 → a.kids.length = (kids ns n).length) ∧ (a.layout ≠ 0 → a.kids.length = 1) := by
  obtain ⟨hh, hc⟩ := mayF_cases h
  rcases hc with ⟨hl, hp⟩ | ⟨hl, hf, hk1, hk0, hkm, _⟩
  · unfold kidNode
    rw [if_pos hl]
    rcases kinds hm hn with e | e | e | e | e
    · unfold plainB at hp
      rw [if_pos e, Bool.and_eq_true] at hp
      have := hp.1
      unfold bare at this
      rw [Bool.and_eq_true, List.isEmpty_iff] at this
      rw [this.2] at hk; exact absurd hk (Nat.not_lt_zero _)
    · unfold plainB at hp
      rw [if_neg (by omega), if_pos e, Bool.and_eq_true] at hp
      have := hp.1
      unfold bare at this
      rw [Bool.and_eq_true, List.isEmpty_iff] at this
      rw [this.2] at hk; exact absurd hk (Nat.not_lt_zero _)
    · unfold plainB at hp
      rw [if_neg (by omega), if_neg (by omega), if_pos e, Bool.and_eq_true, List.isEmpty_iff] at hp
      rw [hp.1] at hk; exact absurd hk (Nat.not_lt_zero _)
    · have hL := list_of e hp
      have h1k := hm.list n hn e
      have hk1 : a.kids.length = 1 := by
        unfold plainB at hp
        rw [if_neg (by omega), if_neg (by omega), if_neg (by omega), if_pos e] at hp
        simp only [Bool.and_eq_true, decide_eq_true_eq] at hp
        exact hp.1.1.2
      obtain rfl : k = 0 := by omega
      exact ⟨(kid_of hm (by omega)).2.1, hL.may, fun _ => by omega, fun c => absurd hl c⟩
    · have hS := struct_of e hp
      have hks : a.kids.length = (kids ns n).length := by
        unfold plainB at hp
        rw [if_neg (by omega), if_neg (by omega), if_neg (by omega), if_neg (by omega)] at hp
        simp only [Bool.and_eq_true, decide_eq_true_eq] at hp
        exact hp.1.2
      exact ⟨(kid_of hm (by omega)).2.1, hS.may k (by omega), fun _ => hks, fun c => absurd hl c⟩
  · unfold kidNode
    rw [if_neg hl]
    obtain rfl : k = 0 := by omega
    exact ⟨hn, hkm, fun c => absurd c hl, fun _ => hk1⟩
/-- What readerOf answers, of an array no deeper than told. -/
def ReadOf (B f : Nat) : Prop := ∀ (ns : List Nd) (oT : Option Addr) (capT n : Nat) (a : Arr) (o : Option Addr) (cap : Nat) (w : World), n < ns.length → may ns = true → mayF ns f n a = true → IsT w oT ns → HoldsF B 96 w f (a.cells o cap) a →
  Calls Tryz.prog 46 #[.agg #[.slice oT ns.length capT], .int .i64 (n : Int), a.val o cap] w fun e w' => ∃ r c, e = .returned (rdVal a o cap (nd ns n).kind r a.kids.length c) ∧ HoldsRo w' ns f n (fun b => w.heap.size ≤ b) (rdCells a o cap (nd ns n).kind r a.kids.length c) a ∧ Below w.heap.size w w'
/-- The kids' nodes, as they stand in a list of one's own. -/
def NodesAt (w6 : World) (ns : List Nd) (n : Nat) (a : Arr) (b : Nat) (v : Value) (wx : World) : Prop :=
  ∃ (oN : Option Addr) (NL : List Nat) (cN : Nat), v = .slice oN NL.length cN ∧ IsI wx b oN NL ∧ (∀ i, i < a.kids.length → i < NL.length ∧ NL.getD i 0 = kidNode ns n a i) ∧ NL.length ≤ 64 ∧ Below w6.heap.size w6 wx
theorem rd_news {v : World} {b : Nat} {a : Arr} {o : Option Addr} {cap : Nat} {k : Int} {r : Option Addr} {n c : Nat} (h : v.heap[b]? = some (.cells #[.int .i64 a.layout, .int .i64 a.offset, .int .i64 a.length, .string a.valid, .string a.ends, .string a.data, .slice o a.kids.length cap, .int .i64 k, .slice r n c] 71)) : ∀ (j : Nat) u, (rdCells a o cap k r n c)[j]? = some u → v.cell? ((⟨b, 0, none⟩ : Addr).add j) = some u := by
  intro j u hj
  rw [add0]
  have hj9 : j < 9 := by
    have := (List.getElem?_eq_some_iff.1 hj).1
    exact this
  simp only [World.cell?, h]
  match j, hj9, hj with
  | 0, _, hj => exact hj
  | 1, _, hj => exact hj
  | 2, _, hj => exact hj
  | 3, _, hj => exact hj
  | 4, _, hj => exact hj
  | 5, _, hj => exact hj
  | 6, _, hj => exact hj
  | 7, _, hj => exact hj
  | 8, _, hj => exact hj
theorem rd_one (a : Arr) (o : Option Addr) (cap : Nat) (k : Int) (r : Option Addr) (n c : Nat) : ∀ u ∈ rdCells a o cap k r n c, u.oneCell' = true := by
  intro u hu
  simp [rdCells] at hu
  rcases hu with rfl | rfl | rfl | rfl | rfl | rfl | rfl | rfl | rfl <;> rfl
set_option maxRecDepth 20000 in
set_option maxHeartbeats 6400000 in
theorem readOf_step (B f : Nat) (ih : Hid (ReadOf B f)) : ReadOf B (f + 1) := by
  intro ns oT capT n a o cap w hn hm hf ht hH0
  obtain ⟨i67, hi, hz0, hz1, hz2⟩ := info_parts infoRd
  obtain ⟨w1, e1, s1, c1, b1⟩ := boxed w (.slice oT ns.length capT) 24
  obtain ⟨w2, e2, x2, b2, z2⟩ := box7 w1 a o cap
  obtain ⟨w3, e3', x3, b3, z3⟩ := box9 w2 nil none 0 0 none 0 0
  have e3 : w2.alloc (.cells #[.int .i64 0, .int .i64 0, .int .i64 0, .string ⟨#[]⟩, .string ⟨#[]⟩, .string ⟨#[]⟩, .slice none 0 0, .int .i64 0, .slice none 0 0] 71) = w3 := e3'
  obtain ⟨x, rfl, hl⟩ := ht.some (by omega)
  have HT : Hid (IsT w (some x) ns) := ht
  have HH : Hid (HoldsF B 96 w (f + 1) (a.cells o cap) a) := hH0
  have HMK : Hid (∀ k, k < a.kids.length → kidNode ns n a k < ns.length ∧ mayF ns f (kidNode ns n a k) (kidAt a k) = true ∧ (a.layout = 0 → a.kids.length = (kids ns n).length) ∧ (a.layout ≠ 0 → a.kids.length = 1)) := fun k hk => may_kid (may_of hm) hn hf hk
  have HMY : Hid (may ns = true) := hm
  have HZ : Hid (w.heap.size < w1.heap.size ∧ w1.heap.size < w2.heap.size ∧ w2.heap.size < w3.heap.size) := ⟨s1, z2, z3⟩
  have B3 : Hid (Below w.heap.size w w3) := bel2 b1 (bel2 b2 b3)
  have HC3 : Hid (w3.cell? ⟨w.heap.size, 0, none⟩ = some (.slice (some x) ns.length capT)) := cell_later b3 (cell_later b2 c1)
  have X3 : Hid (Bx w3 w1.heap.size a o cap) := x2.later b3
  have XR3 : Hid (Rx w3 w2.heap.size nil none 0 0 none 0 0) := x3
  have HLI : Hid (Lies w x ns) := hl
  have j0 : (0 : Int) ≤ (n : Int) := Int.natCast_nonneg _
  have j1 : (n : Int) < (ns.length : Int) := by omega
  have hlk : a.kids.length ≤ 64 := by
    have hmost := (may_of hm).most
    have hkl : (kids ns n).length ≤ ns.length := length_kidsTo ns n ns.length
    by_cases c : 0 < a.kids.length
    · obtain ⟨_, _, q1, q2⟩ := HMK.out 0 c
      by_cases c0 : a.layout = 0
      · have := q1 c0; omega
      · have := q2 c0; omega
    · omega
  have HLK : Hid (a.kids.length ≤ 64) := hlk
  have HKS : Hid (∀ v, Below w.heap.size w v → Calls Tryz.prog 69 #[.agg #[.slice (some x) ns.length capT], .int .i64 (n : Int)] v fun r w' => ∃ o c, r = .returned (.tuple #[.slice o (kids ns n).length c, .int .i64 0]) ∧ w'.ownsRow v.heap.size 3 1 (.slice o (kids ns n).length c) (kids ns n).length (ints (kids ns n)) ∧ Below v.heap.size v w') := fun v hv => by
    have hB : hasB ns (n : Int) = true := by unfold hasB; rw [hm, decide_eq_true (by omega)]; rfl
    have hKA : kidsA ns (n : Int) = kids ns n := by unfold kidsA; rw [if_pos hB]
    have hE : errA true = 0 := rfl
    have := kidsP (some x) capT ns (n : Int) v (HT.out.later hv)
    rw [hB, hKA, hE] at this
    exact this
  have KLA : Hid (∀ v, Below w3.heap.size w3 v → v.cell? ⟨w.heap.size, 0, none⟩ = some (.slice (some x) ns.length capT) ∧ v.cell? ⟨w1.heap.size, 0, none⟩ = some (.int .i64 a.layout) ∧ v.cell? ⟨w1.heap.size, 1, none⟩ = some (.int .i64 a.offset) ∧ v.cell? ⟨w1.heap.size, 2, none⟩ = some (.int .i64 a.length) ∧ v.cell? ⟨w1.heap.size, 3, none⟩ = some (.string a.valid) ∧ v.cell? ⟨w1.heap.size, 4, none⟩ = some (.string a.ends) ∧ v.cell? ⟨w1.heap.size, 5, none⟩ = some (.string a.data) ∧ v.cell? ⟨w1.heap.size, 6, none⟩ = some (.slice o a.kids.length cap) ∧ v.cell? (x.add (n * 3)) = some (.int .i64 (nd ns n).kind)) := fun v hv => by
    have Y := X3.out.later hv
    exact ⟨cell_later hv HC3.out, Y.c0, Y.c1, Y.c2, Y.c3, Y.c4, Y.c5, Y.c6, (HLI.out.later (bel2 B3.out hv)).kind' n hn⟩
  have KR : Hid (w3.drew.cell? ⟨w.heap.size, 0, none⟩ = some (.slice (some x) ns.length capT) ∧ w3.drew.cell? ⟨w1.heap.size, 0, none⟩ = some (.int .i64 a.layout) ∧ w3.drew.cell? ⟨w1.heap.size, 1, none⟩ = some (.int .i64 a.offset) ∧ w3.drew.cell? ⟨w1.heap.size, 2, none⟩ = some (.int .i64 a.length) ∧ w3.drew.cell? ⟨w1.heap.size, 3, none⟩ = some (.string a.valid) ∧ w3.drew.cell? ⟨w1.heap.size, 4, none⟩ = some (.string a.ends) ∧ w3.drew.cell? ⟨w1.heap.size, 5, none⟩ = some (.string a.data) ∧ w3.drew.cell? ⟨w1.heap.size, 6, none⟩ = some (.slice o a.kids.length cap) ∧ w3.drew.cell? (x.add (n * 3)) = some (.int .i64 (nd ns n).kind)) := KLA.out _ (drewN_below w3 1)
  unfold Arr.val
  clear e3' b1 b2 b3 c1 x2 x3 s1 z2 z3 ht hH0 hl hm hf
  go_enter Tryz.func46, Tryz.ntmps46
  go_upto_region 1 with fail
  go_cut [7] from 11 (fun v wx => ∃ p : Nat, v = .pointer (some ⟨p, 0, none⟩) ∧ w3.heap.size ≤ p ∧ Rx wx p a o cap (nd ns n).kind none 0 0 ∧ Below w3.heap.size w3 wx)
  case first =>
    refine wp_region_noPanic ?_
    refine wp_region_held_drew (S := fun W : World => W.cell? ⟨w.heap.size, 0, none⟩ = some (.slice (some x) ns.length capT) ∧ W.cell? ⟨w1.heap.size, 0, none⟩ = some (.int .i64 a.layout) ∧ W.cell? ⟨w1.heap.size, 1, none⟩ = some (.int .i64 a.offset) ∧ W.cell? ⟨w1.heap.size, 2, none⟩ = some (.int .i64 a.length) ∧ W.cell? ⟨w1.heap.size, 3, none⟩ = some (.string a.valid) ∧ W.cell? ⟨w1.heap.size, 4, none⟩ = some (.string a.ends) ∧ W.cell? ⟨w1.heap.size, 5, none⟩ = some (.string a.data) ∧ W.cell? ⟨w1.heap.size, 6, none⟩ = some (.slice o a.kids.length cap) ∧ W.cell? (x.add (n * 3)) = some (.int .i64 (nd ns n).kind)) (by kernel_rfl) KR.out (fun h0 => ?_)
    have D0 : Hid (Below w3.heap.size w3 w3.drew) := drewN_below w3 1
    generalize w3.drew = v0 at *
    refine take_at (i := 0) (d := some 11) (v := ?v0a) rfl rfl (by kernel_rfl) (by kernel_rfl) (by kernel_rfl) (fun _ _ _ h => h) (Or.inl ⟨by rfl, ?y0a⟩) h0 ?r0a
    case y0a => (intro w' hSw; (try dsimp only at hSw); go_simp; try with_reducible rfl)
    try simp only [Act.put, List.setIfInBounds_toArray, List.set_cons_zero, List.set_cons_succ]
    refine take_at (i := 1) (d := some 12) (v := ?v1a) rfl rfl (by kernel_rfl) (by kernel_rfl) (by kernel_rfl) (fun _ _ _ h => h) (Or.inl ⟨by rfl, ?y1a⟩) h0 ?r1a
    case y1a => (intro w' hSw; (try dsimp only at hSw); go_simp; try with_reducible rfl)
    try simp only [Act.put, List.setIfInBounds_toArray, List.set_cons_zero, List.set_cons_succ]
    refine take_at (i := 2) (d := some 13) (v := ?v2a) rfl rfl (by kernel_rfl) (by kernel_rfl) (by kernel_rfl) (fun _ _ _ h => h) (Or.inl ⟨by rfl, ?y2a⟩) h0 ?r2a
    case y2a => (intro w' hSw; (try dsimp only at hSw); go_simp; try with_reducible rfl)
    try simp only [Act.put, List.setIfInBounds_toArray, List.set_cons_zero, List.set_cons_succ]
    refine take_at (i := 3) (d := some 14) (v := ?v3a) rfl rfl (by kernel_rfl) (by kernel_rfl) (by kernel_rfl) (fun _ _ _ h => h) (Or.inl ⟨by rfl, ?y3a⟩) h0 ?r3a
    case y3a => (intro w' hSw; (try dsimp only at hSw); go_simp; try with_reducible rfl)
    try simp only [Act.put, List.setIfInBounds_toArray, List.set_cons_zero, List.set_cons_succ]
    refine take_at (i := 4) (d := some 15) (v := ?v4a) rfl rfl (by kernel_rfl) (by kernel_rfl) (by kernel_rfl) (fun _ _ _ h => h) (Or.inl ⟨by rfl, ?y4a⟩) h0 ?r4a
    case y4a => (intro w' hSw; (try dsimp only at hSw); go_simp; try with_reducible rfl)
    try simp only [Act.put, List.setIfInBounds_toArray, List.set_cons_zero, List.set_cons_succ]
    refine take_at (i := 5) (d := some 16) (v := ?v5a) rfl rfl (by kernel_rfl) (by kernel_rfl) (by kernel_rfl) (fun _ _ _ h => h) (Or.inl ⟨by rfl, ?y5a⟩) h0 ?r5a
    case y5a => (intro w' hSw; (try dsimp only at hSw); go_simp; try with_reducible rfl)
    try simp only [Act.put, List.setIfInBounds_toArray, List.set_cons_zero, List.set_cons_succ]
    refine take_at (i := 6) (d := some 17) (v := ?v6a) rfl rfl (by kernel_rfl) (by kernel_rfl) (by kernel_rfl) (fun _ _ _ h => h) (Or.inl ⟨by rfl, ?y6a⟩) h0 ?r6a
    case y6a => (intro w' hSw; (try dsimp only at hSw); go_simp; try with_reducible rfl)
    try simp only [Act.put, List.setIfInBounds_toArray, List.set_cons_zero, List.set_cons_succ]
    refine take_at (i := 7) (d := some 18) (v := ?v7a) rfl rfl (by kernel_rfl) (by kernel_rfl) (by kernel_rfl) (fun _ _ _ h => h) (Or.inl ⟨by rfl, ?y7a⟩) h0 ?r7a
    case y7a => (intro w' hSw; (try dsimp only at hSw); go_simp; try with_reducible rfl)
    try simp only [Act.put, List.setIfInBounds_toArray, List.set_cons_zero, List.set_cons_succ]
    refine wpAnyH_ready (rs := [8]) (by kernel_rfl) (by simp) ?_
    refine AllReadyH.cons rfl (fun K hK => ?_) AllReadyH.nil
    go_simp
    obtain ⟨v1, ev1, x9, b9, s9⟩ := box9 v0 nil none 0 0 none 0 0
    rw [show v0.alloc (.cells #[.int .i64 0, .int .i64 0, .int .i64 0, .string ⟨#[]⟩, .string ⟨#[]⟩, .string ⟨#[]⟩, .slice none 0 0, .int .i64 0, .slice none 0 0] 71) = v1 from ev1]
    have D1 : Hid (Below w3.heap.size w3 v1) := bel2 D0.out b9
    have X9 : Hid (Rx v1 v0.heap.size nil none 0 0 none 0 0) := x9
    clear ev1 x9 b9 s9
    refine hK.out _ _ (KLA.out v1 D1.out) (fun h1 => ?_)
    clear hK K
    try simp only [Act.put, List.setIfInBounds_toArray, List.set_cons_zero, List.set_cons_succ]
    have m0 := X9.out.c0
    have m1 := X9.out.c1
    have m2 := X9.out.c2
    have m3 := X9.out.c3
    have m4 := X9.out.c4
    have m5 := X9.out.c5
    have m6 := X9.out.c6
    have m7 := X9.out.c7
    have m8 := X9.out.c8
    have f0 := X9.out.fz 0
    have f1 := X9.out.fz 1
    have f2 := X9.out.fz 2
    have f3 := X9.out.fz 3
    have f4 := X9.out.fz 4
    have f5 := X9.out.fz 5
    have f6 := X9.out.fz 6
    have f7 := X9.out.fz 7
    have f8 := X9.out.fz 8
    unfold nil at m0 m1 m2 m3 m4 m5 m6
    refine wpAnyH_ready (rs := [9]) (by kernel_rfl) (by simp) ?_
    refine AllReadyH.cons rfl (fun K hK => ?_) AllReadyH.nil
    go_simp
    obtain ⟨v2, ev2, x9, h9, b9⟩ := set9 X9.out a o cap (nd ns n).kind none 0 0
    rw [ev2]
    have D2 : Hid (Below w3.heap.size w3 v2) := D1.out.trans (b9 _ D0.out.size)
    have XP : Hid (Rx v2 v0.heap.size a o cap (nd ns n).kind none 0 0) := x9
    clear ev2 x9 h9 b9
    refine hK.out _ _ (KLA.out v2 D2.out) (fun h2 => ?_)
    clear hK K
    try simp only [Act.put, List.setIfInBounds_toArray, List.set_cons_zero, List.set_cons_succ]
    clear m0 m1 m2 m3 m4 m5 m6 m7 m8 f0 f1 f2 f3 f4 f5 f6 f7 f8
    refine wpAnyH_done (by kernel_rfl) ?_ _
    refine NoPanic.normal ?_
    go_wp2_with fail
    go_meet
    case rel => exact ⟨_, rfl, D0.out.size, XP.out, D2.out⟩
  case rest =>
    obtain ⟨p, rfl, hp3, hxp, hbc⟩ := hcut
    have BC : Hid (Below w3.heap.size w3 wc) := hbc
    have XP : Hid (Rx wc p a o cap (nd ns n).kind none 0 0) := hxp
    have HP : Hid (w3.heap.size ≤ p ∧ p < wc.heap.size) := ⟨hp3, hxp.lt⟩
    generalize wc = w4 at *
    obtain ⟨w5, e5, s5, c5, b5⟩ := boxed w4 (.int .i64 (n : Int)) 3
    have hr5 : Row w5 w4.heap.size 1 (fun i => ([n] : List Nat).getD i 0) := by
      have hb : w5.heap[w4.heap.size]? = some (.cells #[.int .i64 (n : Int)] 3) := by rw [← e5]; exact heap_alloc_new _ _
      refine ⟨fun i hi => ?_, fun i hi => ?_⟩
      · obtain rfl : i = 0 := by omega
        simp [World.cell?, hb]
      · simp [World.frozen?, hb]
    have HI5 : Hid (IsI w5 w4.heap.size (some ⟨w4.heap.size, 0, none⟩) [n]) := .inr ⟨w4.heap.size, rfl, Nat.le_refl _, hr5⟩
    have B45 : Hid (Below w4.heap.size w4 w5) := b5
    have B5 : Hid (Below w.heap.size w w5) := bel2 B3.out (bel2 BC.out b5)
    have XP5 : Hid (Rx w5 p a o cap (nd ns n).kind none 0 0) := XP.out.later b5
    have X5 : Hid (Bx w5 w1.heap.size a o cap) := X3.out.later (bel2 BC.out b5)
    have HC5 : Hid (w5.cell? ⟨w.heap.size, 0, none⟩ = some (.slice (some x) ns.length capT)) := cell_later (bel2 BC.out b5) HC3.out
    have XR5 : Hid (Rx w5 w2.heap.size nil none 0 0 none 0 0) := XR3.out.later (bel2 BC.out b5)
    have d0 := X5.out.c0
    have cT := HC5.out
    clear hxp hbc hp3 s5 c5 b5 hr5 KLA KR
    go_upto_if 23 with fail
    go_cut [8] from 11 (fun v wx => NodesAt w5 ns n a w4.heap.size v wx)
    case first =>
      by_cases hL : a.layout = 0
      · have q1 : (a.layout == 0) = true := by rw [beq_iff_eq]; exact hL
        have HL : Hid (a.layout = 0) := hL
        have hkl : (kids ns n).length ≤ ns.length := length_kidsTo ns n ns.length
        have hmost := (may_of HMY.out).most
        have HKL : Hid ((kids ns n).length ≤ 64) := by unfold Hid; omega
        clear hL hkl hmost
        go_wp2_with fail
        refine (HKS.out w5 B5.out).mono ?_
        rintro e w6 ⟨oK, cK, rfl, hown, b6⟩
        have HIK : Hid (NodesAt w5 ns n a w4.heap.size (.slice oK (kids ns n).length cK) w6) := by
          refine ⟨oK, kids ns n, cK, rfl, ?_, fun i hi => ?_, HKL.out, b6⟩
          · rcases own_ints hown with q | ⟨g, q1, q2, q3⟩
            · exact .inl q
            · exact .inr ⟨g, q1, Nat.le_trans B45.out.size q2, q3⟩
          · have := (HMK.out i hi).2.2.1 HL.out
            unfold kidNode
            rw [if_pos HL.out]
            exact ⟨by omega, rfl⟩
        clear hown b6 d0 cT
        go_wp2_with fail
        go_meet
        case rel => exact HIK.out
      · have q1 : (a.layout == 0) = false := by rw [beq_eq_false_iff_ne]; exact hL
        have HIK : Hid (NodesAt w5 ns n a w4.heap.size (.slice (some ⟨w4.heap.size, 0, none⟩) 1 1) w5) := by
          refine ⟨_, [n], 1, rfl, HI5.out, fun i hi => ?_, by simp, Below.refl _ _⟩
          have := (HMK.out i hi).2.2.2 hL
          obtain rfl : i = 0 := by omega
          unfold kidNode
          rw [if_neg hL]
          exact ⟨by simp, rfl⟩
        clear hL d0 cT
        go_wp2_with fail
        go_meet
        case rel => exact HIK.out
    case rest =>
      obtain ⟨oN, NL, cN, rfl, hIN, hNL, hNl, hbc⟩ := hcut
      have HIN : Hid (IsI wc w4.heap.size oN NL) := hIN
      have HNL : Hid (∀ i, i < a.kids.length → i < NL.length ∧ NL.getD i 0 = kidNode ns n a i) := hNL
      have B5c : Hid (Below w5.heap.size w5 wc) := hbc
      have HPW : Hid (w.heap.size ≤ p ∧ w1.heap.size < p ∧ w2.heap.size < p ∧ w.heap.size < p ∧ p < w4.heap.size) := by have := HZ.out; have := HP.out; unfold Hid; omega
      have HSZ : Hid (w4.heap.size ≤ wc.heap.size ∧ w5.heap.size ≤ wc.heap.size) := ⟨Nat.le_trans B45.out.size hbc.size, hbc.size⟩
      generalize wc = w6 at *
      have B6 : Hid (Below w.heap.size w w6) := bel2 B5.out B5c.out
      have XP6 : Hid (Rx w6 p a o cap (nd ns n).kind none 0 0) := XP5.out.later B5c.out
      have X6 : Hid (Bx w6 w1.heap.size a o cap) := X5.out.later B5c.out
      have HC6 : Hid (w6.cell? ⟨w.heap.size, 0, none⟩ = some (.slice (some x) ns.length capT)) := cell_later B5c.out HC5.out
      have XR6 : Hid (Rx w6 w2.heap.size nil none 0 0 none 0 0) := XR5.out.later B5c.out
      have d6 := X6.out.c6
      clear hIN hNL hbc d0 cT e5 HI5 B45 B5 XP5 X5 HC5 XR5 XP BC X3 HC3 XR3
      go_wp2_with fail
      go_loopw [33] (fun t wr => ∃ (k : Nat) (css : List (List Value)) (ov : Option Addr) (cv : Nat), k ≤ a.kids.length ∧ t = .int .i64 (k : Int) ∧ Rds ns f n a w6.heap.size k (.slice ov k cv) wr css ∧ Rx wr p a o cap (nd ns n).kind ov k cv ∧ Kept (fun b => b = p) w6 wr) (fun t _ => a.kids.length - (intOf t).toNat)
      case atStart => exact ⟨0, [], none, 0, Nat.zero_le _, rfl, rds0 _ _ _ _ _ _, XP6.out, Kept.refl _ _⟩
      case round =>
        obtain ⟨k, css, ov, cv, hk, rfl, hrd, hxr, hkp⟩ := hrel
        have RDS : Hid (Rds ns f n a w6.heap.size k (.slice ov k cv) wr css) := hrd
        have XPR : Hid (Rx wr p a o cap (nd ns n).kind ov k cv) := hxr
        have KP : Hid (Kept (fun b => b = p) w6 wr) := hkp
        have BR : Hid (Below w.heap.size w wr) := hkp.down B6.out (fun k hk => by rw [hk]; exact HPW.out.1)
        have HCR : Hid (wr.cell? ⟨w.heap.size, 0, none⟩ = some (.slice (some x) ns.length capT)) := hkp.cell HC6.out (by have := HPW.out; show ¬ w.heap.size = p; omega)
        have XRR : Hid (Rx wr w2.heap.size nil none 0 0 none 0 0) := ⟨hkp.heap XR6.out.blk (by have := HPW.out; omega)⟩
        clear d6 hrd hxr hkp
        by_cases hlt : k < a.kids.length
        · obtain ⟨xk, ok, ck, rfl, hkid, hkh⟩ := HH.out.kid (i := k) hlt
          have KC := hkid.later BR.out
          have k0 := KC.k0
          have k1 := KC.k1
          have k2 := KC.k2
          have k3 := KC.k3
          have k4 := KC.k4
          have k5 := KC.k5
          have k6 := KC.k6
          obtain ⟨hNk, hNe⟩ := HNL.out k hlt
          obtain ⟨gN, rfl, hgN, hrowN⟩ : ∃ gN, oN = some ⟨gN, 0, none⟩ ∧ w4.heap.size ≤ gN ∧ Row w6 gN NL.length (fun i => NL.getD i 0) := by
            rcases HIN.out with q | q
            · rw [q] at hNk; exact absurd hNk (Nat.not_lt_zero _)
            · exact q
          have HNC : Hid (wr.cell? ⟨gN, k, none⟩ = some (.int .i64 ((kidNode ns n a k : Nat) : Int))) := by
            have := KP.out.cell (hrowN.cell k hNk) (by have := HPW.out; show ¬ gN = p; omega)
            rw [← hNe]
            exact this
          obtain ⟨v4, e4', x4, b4, z4⟩ := box7 wr nil none 0
          have e4 : wr.alloc (.cells #[.int .i64 0, .int .i64 0, .int .i64 0, .string ⟨#[]⟩, .string ⟨#[]⟩, .string ⟨#[]⟩, .slice none 0 0] 27) = v4 := e4'
          have m0 := x4.c0
          have m1 := x4.c1
          have m2 := x4.c2
          have m3 := x4.c3
          have m4 := x4.c4
          have m5 := x4.c5
          have m6 := x4.c6
          have f0 := x4.fz 0
          have f1 := x4.fz 1
          have f2 := x4.fz 2
          have f3 := x4.fz 3
          have f4 := x4.fz 4
          have f5 := x4.fz 5
          have f6 := x4.fz 6
          obtain ⟨v5, e5, x5, h5, b5⟩ := set7 x4 (kidAt a k) ok ck
          have XK5 : Hid (Bx v5 wr.heap.size (kidAt a k) ok ck) := x5
          have BR5 : Hid (Below wr.heap.size wr v5) := b4.trans (b5 _ (Nat.le_refl _))
          obtain ⟨hmk1, hmk2, _, _⟩ := HMK.out k hlt
          have HMM : Hid (∀ v, Below v5.heap.size v5 v → Calls Tryz.prog 46 #[.agg #[.slice (some x) ns.length capT], .int .i64 ((kidNode ns n a k : Nat) : Int), (kidAt a k).val ok ck] v fun e w' => ∃ r c, e = .returned (rdVal (kidAt a k) ok ck (nd ns (kidNode ns n a k)).kind r (kidAt a k).kids.length c) ∧ HoldsRo w' ns f (kidNode ns n a k) (fun b => v.heap.size ≤ b) (rdCells (kidAt a k) ok ck (nd ns (kidNode ns n a k)).kind r (kidAt a k).kids.length c) (kidAt a k) ∧ Below v.heap.size v w') := fun v hv => by
            have hb : Below w.heap.size w v := bel2 BR.out (bel2 BR5.out hv)
            exact ih.out ns (some x) capT (kidNode ns n a k) (kidAt a k) ok ck v hmk1 HMY.out hmk2 (HT.out.later hb) (hkh.later hb)
          have i1 : (k : Int) < ((a.kids.length : Nat) : Int) := by omega
          have i0 : (0 : Int) ≤ (k : Int) := Int.natCast_nonneg _
          have i2 : (k : Int) < ((NL.length : Nat) : Int) := by omega
          unfold Arr.val at HMM
          unfold nil at m0 m1 m2 m3 m4 m5 m6
          have HGNW : w4.heap.size ≤ gN ∧ gN < w6.heap.size := ⟨hgN, World.block_lt_of_cell? _ _ (hrowN.cell k hNk)⟩
          clear KC hkid hkh e4' x4 b4 z4 x5 h5 b5 hNk hNe hrowN hgN hmk2
          go_upto_region 8 with fail
          try rw [e5]
          clear e5 e4 m0 m1 m2 m3 m4 m5 m6 f0 f1 f2 f3 f4 f5 f6 k0 k1 k2 k3 k4 k5 k6
          have HGN : Hid (w4.heap.size ≤ gN ∧ gN < w6.heap.size) := HGNW
          have HNP : Hid (w.heap.size ≠ p ∧ gN ≠ p ∧ p < w6.heap.size ∧ w.heap.size < w6.heap.size ∧ w6.heap.size ≤ wr.heap.size ∧ wr.heap.size < v5.heap.size) := by
            have h1 := HPW.out
            have h2 := HGN.out
            have h3 := HSZ.out
            have h4 := KP.out.size
            have h5 := XK5.out.lt
            unfold Hid
            omega
          have KLB : Hid (∀ v : World, (∀ b, b ≠ p → (b < w6.heap.size ∨ wr.heap.size ≤ b) → b < v5.heap.size → v.heap[b]? = v5.heap[b]?) → v.cell? ⟨w.heap.size, 0, none⟩ = some (.slice (some x) ns.length capT) ∧ v.cell? ⟨gN, k, none⟩ = some (.int .i64 ((kidNode ns n a k : Nat) : Int)) ∧ v.cell? ⟨wr.heap.size, 0, none⟩ = some (.int .i64 (kidAt a k).layout) ∧ v.cell? ⟨wr.heap.size, 1, none⟩ = some (.int .i64 (kidAt a k).offset) ∧ v.cell? ⟨wr.heap.size, 2, none⟩ = some (.int .i64 (kidAt a k).length) ∧ v.cell? ⟨wr.heap.size, 3, none⟩ = some (.string (kidAt a k).valid) ∧ v.cell? ⟨wr.heap.size, 4, none⟩ = some (.string (kidAt a k).ends) ∧ v.cell? ⟨wr.heap.size, 5, none⟩ = some (.string (kidAt a k).data) ∧ v.cell? ⟨wr.heap.size, 6, none⟩ = some (.slice ok (kidAt a k).kids.length ck)) := fun v hv => by
            have h := HNP.out
            have hg := HGN.out
            have e1 := World.cell?_of_block (a := ⟨w.heap.size, 0, none⟩) (hv w.heap.size h.1 (.inl h.2.2.2.1) (by omega))
            have e2 := World.cell?_of_block (a := ⟨gN, k, none⟩) (hv gN h.2.1 (.inl hg.2) (by omega))
            have e3 := hv wr.heap.size (by omega) (.inr (Nat.le_refl _)) (by omega)
            have Y : Bx v wr.heap.size (kidAt a k) ok ck := ⟨e3.trans XK5.out.blk⟩
            exact ⟨e1.trans (cell_later BR5.out HCR.out), e2.trans (cell_later BR5.out HNC.out), Y.c0, Y.c1, Y.c2, Y.c3, Y.c4, Y.c5, Y.c6⟩
          have XP5 : Hid (Rx v5 p a (some xk) cap (nd ns n).kind ov k cv) := XPR.out.later BR5.out
          have KR8 : Hid (v5.drew.cell? ⟨w.heap.size, 0, none⟩ = some (.slice (some x) ns.length capT) ∧ v5.drew.cell? ⟨gN, k, none⟩ = some (.int .i64 ((kidNode ns n a k : Nat) : Int)) ∧ v5.drew.cell? ⟨wr.heap.size, 0, none⟩ = some (.int .i64 (kidAt a k).layout) ∧ v5.drew.cell? ⟨wr.heap.size, 1, none⟩ = some (.int .i64 (kidAt a k).offset) ∧ v5.drew.cell? ⟨wr.heap.size, 2, none⟩ = some (.int .i64 (kidAt a k).length) ∧ v5.drew.cell? ⟨wr.heap.size, 3, none⟩ = some (.string (kidAt a k).valid) ∧ v5.drew.cell? ⟨wr.heap.size, 4, none⟩ = some (.string (kidAt a k).ends) ∧ v5.drew.cell? ⟨wr.heap.size, 5, none⟩ = some (.string (kidAt a k).data) ∧ v5.drew.cell? ⟨wr.heap.size, 6, none⟩ = some (.slice ok (kidAt a k).kids.length ck)) := KLB.out _ (fun b _ _ hb => (drewN_below v5 1).block b hb)
          go_wp2_with fail
          refine wp_region_noPanic ?_
          refine wp_region_held_drew (S := fun W : World => W.cell? ⟨w.heap.size, 0, none⟩ = some (.slice (some x) ns.length capT) ∧ W.cell? ⟨gN, k, none⟩ = some (.int .i64 ((kidNode ns n a k : Nat) : Int)) ∧ W.cell? ⟨wr.heap.size, 0, none⟩ = some (.int .i64 (kidAt a k).layout) ∧ W.cell? ⟨wr.heap.size, 1, none⟩ = some (.int .i64 (kidAt a k).offset) ∧ W.cell? ⟨wr.heap.size, 2, none⟩ = some (.int .i64 (kidAt a k).length) ∧ W.cell? ⟨wr.heap.size, 3, none⟩ = some (.string (kidAt a k).valid) ∧ W.cell? ⟨wr.heap.size, 4, none⟩ = some (.string (kidAt a k).ends) ∧ W.cell? ⟨wr.heap.size, 5, none⟩ = some (.string (kidAt a k).data) ∧ W.cell? ⟨wr.heap.size, 6, none⟩ = some (.slice ok (kidAt a k).kids.length ck)) (by kernel_rfl) KR8.out (fun h0 => ?_)
          have D0 : Hid (Below v5.heap.size v5 v5.drew) := drewN_below v5 1
          generalize v5.drew = v0 at *
          refine take_at (i := 0) (d := some 38) (v := ?v0e) rfl rfl (by kernel_rfl) (by kernel_rfl) (by kernel_rfl) (fun _ _ _ h => h) (Or.inl ⟨by rfl, ?y0e⟩) h0 ?r0e
          case y0e => (intro w' hSw; (try dsimp only at hSw); go_simp; try with_reducible rfl)
          try simp only [Act.put, List.setIfInBounds_toArray, List.set_cons_zero, List.set_cons_succ]
          refine take_at (i := 2) (d := some 40) (v := ?v2e) rfl rfl (by kernel_rfl) (by kernel_rfl) (by kernel_rfl) (fun _ _ _ h => h) (Or.inl ⟨by rfl, ?y2e⟩) h0 ?r2e
          case y2e => (intro w' hSw; (try dsimp only at hSw); go_simp; try with_reducible rfl)
          try simp only [Act.put, List.setIfInBounds_toArray, List.set_cons_zero, List.set_cons_succ]
          refine take_at (i := 3) (d := some 41) (v := ?v3e) rfl rfl (by kernel_rfl) (by kernel_rfl) (by kernel_rfl) (fun _ _ _ h => h) (Or.inl ⟨by rfl, ?y3e⟩) h0 ?r3e
          case y3e => (intro w' hSw; (try dsimp only at hSw); go_simp; try with_reducible rfl)
          try simp only [Act.put, List.setIfInBounds_toArray, List.set_cons_zero, List.set_cons_succ]
          refine take_at (i := 4) (d := some 42) (v := ?v4e) rfl rfl (by kernel_rfl) (by kernel_rfl) (by kernel_rfl) (fun _ _ _ h => h) (Or.inl ⟨by rfl, ?y4e⟩) h0 ?r4e
          case y4e => (intro w' hSw; (try dsimp only at hSw); go_simp; try with_reducible rfl)
          try simp only [Act.put, List.setIfInBounds_toArray, List.set_cons_zero, List.set_cons_succ]
          refine take_at (i := 5) (d := some 43) (v := ?v5e) rfl rfl (by kernel_rfl) (by kernel_rfl) (by kernel_rfl) (fun _ _ _ h => h) (Or.inl ⟨by rfl, ?y5e⟩) h0 ?r5e
          case y5e => (intro w' hSw; (try dsimp only at hSw); go_simp; try with_reducible rfl)
          try simp only [Act.put, List.setIfInBounds_toArray, List.set_cons_zero, List.set_cons_succ]
          refine take_at (i := 6) (d := some 44) (v := ?v6e) rfl rfl (by kernel_rfl) (by kernel_rfl) (by kernel_rfl) (fun _ _ _ h => h) (Or.inl ⟨by rfl, ?y6e⟩) h0 ?r6e
          case y6e => (intro w' hSw; (try dsimp only at hSw); go_simp; try with_reducible rfl)
          try simp only [Act.put, List.setIfInBounds_toArray, List.set_cons_zero, List.set_cons_succ]
          refine take_at (i := 7) (d := some 45) (v := ?v7e) rfl rfl (by kernel_rfl) (by kernel_rfl) (by kernel_rfl) (fun _ _ _ h => h) (Or.inl ⟨by rfl, ?y7e⟩) h0 ?r7e
          case y7e => (intro w' hSw; (try dsimp only at hSw); go_simp; try with_reducible rfl)
          try simp only [Act.put, List.setIfInBounds_toArray, List.set_cons_zero, List.set_cons_succ]
          refine wpAnyH_ready (rs := [1, 8]) (by kernel_rfl) (by simp) ?_
          refine AllReadyH.cons rfl (fun K hK => ?_) (AllReadyH.cons rfl (fun K hK => ?_) AllReadyH.nil)
          · have l8 := (XP5.out.later D0.out).c8
            go_simp
            refine hK.out _ _ (KLB.out _ (fun b _ _ hb => D0.out.block b hb)) (fun g1 => ?_)
            clear l8
            clear hK K h0
            try simp only [Act.put, List.setIfInBounds_toArray, List.set_cons_zero, List.set_cons_succ]
            refine wpAnyH_ready (rs := [8]) (by kernel_rfl) (by simp) ?_
            refine AllReadyH.cons rfl (fun K hK => ?_) AllReadyH.nil
            go_simp
            go_at_call 46
            refine (HMM.out v0 D0.out).mono ?_
            rintro e v1 ⟨rr, rc, rfl, hro, bb⟩
            have HRO : Hid (HoldsRo v1 ns f (kidNode ns n a k) (fun b => v0.heap.size ≤ b) (rdCells (kidAt a k) ok ck (nd ns (kidNode ns n a k)).kind rr (kidAt a k).kids.length rc) (kidAt a k)) := hro
            have B01 : Hid (Below v0.heap.size v0 v1) := bb
            have D1 : Hid (Below v5.heap.size v5 v1) := bel2 D0.out bb
            clear hro bb
            unfold rdVal
            refine hK.out _ _ (KLB.out _ (fun b _ _ hb => D1.out.block b hb)) (fun g2 => ?_)
            clear hK K g1
            try simp only [Act.put, List.setIfInBounds_toArray, List.set_cons_zero, List.set_cons_succ]
            refine wpAnyH_ready (rs := [9]) (by kernel_rfl) (by simp) ?_
            refine AllReadyH.cons rfl (fun K hK => ?_) AllReadyH.nil
            go_simp
            obtain ⟨v2, ev2⟩ : ∃ v2, v1.alloc (.cells #[.int .i64 (kidAt a k).layout, .int .i64 (kidAt a k).offset, .int .i64 (kidAt a k).length, .string (kidAt a k).valid, .string (kidAt a k).ends, .string (kidAt a k).data, .slice ok (kidAt a k).kids.length ck, .int .i64 (nd ns (kidNode ns n a k)).kind, .slice rr (kidAt a k).kids.length rc] 71) = v2 := ⟨_, rfl⟩
            rw [ev2]
            have HB2 : Hid (v2.heap[v1.heap.size]? = some (.cells #[.int .i64 (kidAt a k).layout, .int .i64 (kidAt a k).offset, .int .i64 (kidAt a k).length, .string (kidAt a k).valid, .string (kidAt a k).ends, .string (kidAt a k).data, .slice ok (kidAt a k).kids.length ck, .int .i64 (nd ns (kidNode ns n a k)).kind, .slice rr (kidAt a k).kids.length rc] 71)) := by unfold Hid; rw [← ev2]; exact heap_alloc_new _ _
            have HS2 : Hid (v2.heap.size = v1.heap.size + 1) := by unfold Hid; rw [← ev2]; simp
            have B12 : Hid (Below v1.heap.size v1 v2) := by unfold Hid; rw [← ev2]; exact (Below.refl _ _).alloc (Nat.le_refl _) _
            have D2 : Hid (Below v5.heap.size v5 v2) := bel2 D1.out B12.out
            clear ev2
            refine hK.out _ _ (KLB.out _ (fun b _ _ hb => D2.out.block b hb)) (fun g3 => ?_)
            clear hK K g2
            try simp only [Act.put, List.setIfInBounds_toArray, List.set_cons_zero, List.set_cons_succ]
            have HOW2 : Hid (v2.ownsRow w6.heap.size 71 9 (.slice ov k cv) k css.flatten) := ownsRow_grown RDS.out.own (bel2 BR5.out D2.out)
            obtain ⟨av, v3, hrun, hown3, hgrow3, _, hblk3⟩ := run_append_own_at (P := Tryz.prog) v2 w6.heap.size 69 69 71 i67 _ 9 128 Tryz.underlying69 hi hz0 hz1 hz2 rfl (by decide) _ k _ HOW2.out ⟨v1.heap.size, 0, none⟩ 1 1 (rdCells (kidAt a k) ok ck (nd ns (kidNode ns n a k)).kind rr (kidAt a k).kids.length rc) rfl (rd_news HB2.out) (rd_one _ _ _ _ _ _ _) (by have := HLK.out; unfold maxLen; omega) (by have := HLK.out; omega) (by have h1 := HNP.out; have h2 := D2.out.size; omega)
            obtain ⟨oo, oc, rfl⟩ := ownsRow_len hown3
            have hrb : ∀ q, (Value.slice ov k cv).ownBlock = some q → w6.heap.size ≤ q ∧ q < wr.heap.size := fun q hq => ⟨(RDS.out.own.lt q hq).1, (RDS.out.own.lt q hq).2⟩
            have RD3 : Hid (Rds ns f n a w6.heap.size (k + 1) (.slice oo (k + 1) oc) v3 (css ++ [(rdCells (kidAt a k) ok ck (nd ns (kidNode ns n a k)).kind rr (kidAt a k).kids.length rc)])) := RDS.out.step (w4 := v1) HNP.out.2.2.2.2.1 (bel2 BR5.out D1.out) rfl (HRO.out.lt.stays (fun b _ => rfl) (fun b hb => ⟨by have h1 := HNP.out; have h2 := D0.out.size; have h3 := hb.1; omega, hb.2⟩)) hown3 (grown_of_below B12.out hgrow3) (n5 := v2.heap.size) (by have := HS2.out; omega) hblk3
            have H23 : Hid (∀ b, b < v2.heap.size → (b < w6.heap.size ∨ wr.heap.size ≤ b) → v3.heap[b]? = v2.heap[b]?) := fun b hb ho => hgrow3.block b hb (fun c => by have := hrb b c.symm; omega)
            have XP3 : Hid (Rx v3 p a (some xk) cap (nd ns n).kind ov k cv) := ⟨(H23.out p (by have h1 := XP5.out.lt; have h2 := D2.out.size; omega) (.inl HNP.out.2.2.1)).trans (XP5.out.later D2.out).blk⟩
            have KP3 : Hid (Kept (fun b => b = p) w6 v3) := (KP.out.below (bel2 BR5.out D2.out)).grown hgrow3 (fun q hq => .inr (hrb q hq).1)
            have KS3 : Hid (∀ v : World, (∀ b, b ≠ p → v.heap[b]? = v3.heap[b]?) → v.cell? ⟨w.heap.size, 0, none⟩ = some (.slice (some x) ns.length capT) ∧ v.cell? ⟨gN, k, none⟩ = some (.int .i64 ((kidNode ns n a k : Nat) : Int)) ∧ v.cell? ⟨wr.heap.size, 0, none⟩ = some (.int .i64 (kidAt a k).layout) ∧ v.cell? ⟨wr.heap.size, 1, none⟩ = some (.int .i64 (kidAt a k).offset) ∧ v.cell? ⟨wr.heap.size, 2, none⟩ = some (.int .i64 (kidAt a k).length) ∧ v.cell? ⟨wr.heap.size, 3, none⟩ = some (.string (kidAt a k).valid) ∧ v.cell? ⟨wr.heap.size, 4, none⟩ = some (.string (kidAt a k).ends) ∧ v.cell? ⟨wr.heap.size, 5, none⟩ = some (.string (kidAt a k).data) ∧ v.cell? ⟨wr.heap.size, 6, none⟩ = some (.slice ok (kidAt a k).kids.length ck)) := fun v hv => KLB.out v (fun b hb ho hl => (hv b hb).trans ((H23.out b (Nat.lt_of_lt_of_le hl D2.out.size) ho).trans (D2.out.block b hl)))
            have HRUN : Hid ((Builtin.append_ #[69, 69] 69 #[.slice ov k cv, .slice (some ⟨v1.heap.size, 0, none⟩) 1 1]).run Tryz.prog v2 = .ok (.slice oo (k + 1) oc) v3) := hrun
            clear hrun hown3 hgrow3 hblk3 hrb
            refine wpAnyH_ready (rs := [10]) (by kernel_rfl) (by simp) ?_
            refine AllReadyH.cons rfl (fun K hK => ?_) AllReadyH.nil
            rw [if_pos (by rfl)]
            refine upon_append (s := .tmp 39) (x := .tmp 47) rfl rfl rfl rfl HRUN.out ?_
            refine hK.out _ _ (KS3.out v3 (fun _ _ => rfl)) (fun g10 => ?_)
            clear hK K g3
            try simp only [Act.put, List.setIfInBounds_toArray, List.set_cons_zero, List.set_cons_succ]
            refine take_at (i := 11) (d := some 49) (v := ?v11l1) rfl rfl (by kernel_rfl) (by kernel_rfl) (by kernel_rfl) (fun _ _ _ h => h) (Or.inl ⟨by rfl, ?y11l1⟩) g10 ?r11l1
            case y11l1 => (intro w' hSw; (try dsimp only at hSw); go_simp; try with_reducible rfl)
            try simp only [Act.put, List.setIfInBounds_toArray, List.set_cons_zero, List.set_cons_succ]
            have l8 := XP3.out.c8
            have z8 := XP3.out.fz 8
            refine wpAnyH_ready (rs := [12]) (by kernel_rfl) (by simp) ?_
            refine AllReadyH.cons rfl (fun K hK => ?_) AllReadyH.nil
            go_simp
            obtain ⟨v4, ev4, x4, h4, k4⟩ := XP3.out.set8 oo (k + 1) oc
            rw [ev4]
            have XP4 : Hid (Rx v4 p a (some xk) cap (nd ns n).kind oo (k + 1) oc) := x4
            have KP4 : Hid (Kept (fun b => b = p) w6 v4) := k4 _ _ rfl KP3.out
            have RD4 : Hid (Rds ns f n a w6.heap.size (k + 1) (.slice oo (k + 1) oc) v4 (css ++ [(rdCells (kidAt a k) ok ck (nd ns (kidNode ns n a k)).kind rr (kidAt a k).kids.length rc)])) := RD3.out.keep (fun b hb _ => h4 b (by have := HNP.out; omega)) (k4 (fun _ => True) v3 True.intro (Kept.refl _ _)).size
            have KS4 : Hid (v4.cell? ⟨w.heap.size, 0, none⟩ = some (.slice (some x) ns.length capT) ∧ v4.cell? ⟨gN, k, none⟩ = some (.int .i64 ((kidNode ns n a k : Nat) : Int)) ∧ v4.cell? ⟨wr.heap.size, 0, none⟩ = some (.int .i64 (kidAt a k).layout) ∧ v4.cell? ⟨wr.heap.size, 1, none⟩ = some (.int .i64 (kidAt a k).offset) ∧ v4.cell? ⟨wr.heap.size, 2, none⟩ = some (.int .i64 (kidAt a k).length) ∧ v4.cell? ⟨wr.heap.size, 3, none⟩ = some (.string (kidAt a k).valid) ∧ v4.cell? ⟨wr.heap.size, 4, none⟩ = some (.string (kidAt a k).ends) ∧ v4.cell? ⟨wr.heap.size, 5, none⟩ = some (.string (kidAt a k).data) ∧ v4.cell? ⟨wr.heap.size, 6, none⟩ = some (.slice ok (kidAt a k).kids.length ck)) := KS3.out v4 h4
            clear ev4 x4 h4 k4
            refine hK.out _ _ KS4.out (fun g12 => ?_)
            clear hK K
            try simp only [Act.put, List.setIfInBounds_toArray, List.set_cons_zero, List.set_cons_succ]
            refine wpAnyH_done (by kernel_rfl) ?_ _
            refine NoPanic.normal ?_
            clear l8 z8
            go_wp2
            go_roundw
            case rel => exact ⟨k + 1, _, _, _, by omega, by go_num, RD4.out, XP4.out, KP4.out⟩
            case measure => simp [intOf]; omega
          · go_simp
            go_at_call 46
            refine (HMM.out v0 D0.out).mono ?_
            rintro e v1 ⟨rr, rc, rfl, hro, bb⟩
            have HRO : Hid (HoldsRo v1 ns f (kidNode ns n a k) (fun b => v0.heap.size ≤ b) (rdCells (kidAt a k) ok ck (nd ns (kidNode ns n a k)).kind rr (kidAt a k).kids.length rc) (kidAt a k)) := hro
            have B01 : Hid (Below v0.heap.size v0 v1) := bb
            have D1 : Hid (Below v5.heap.size v5 v1) := bel2 D0.out bb
            clear hro bb
            unfold rdVal
            refine hK.out _ _ (KLB.out _ (fun b _ _ hb => D1.out.block b hb)) (fun g1 => ?_)
            clear hK K h0
            try simp only [Act.put, List.setIfInBounds_toArray, List.set_cons_zero, List.set_cons_succ]
            refine wpAnyH_ready (rs := [1, 9]) (by kernel_rfl) (by simp) ?_
            refine AllReadyH.cons rfl (fun K hK => ?_) (AllReadyH.cons rfl (fun K hK => ?_) AllReadyH.nil)
            · have l8 := (XP5.out.later D1.out).c8
              go_simp
              refine hK.out _ _ (KLB.out _ (fun b _ _ hb => D1.out.block b hb)) (fun g2 => ?_)
              clear l8
              clear hK K g1
              try simp only [Act.put, List.setIfInBounds_toArray, List.set_cons_zero, List.set_cons_succ]
              refine wpAnyH_ready (rs := [9]) (by kernel_rfl) (by simp) ?_
              refine AllReadyH.cons rfl (fun K hK => ?_) AllReadyH.nil
              go_simp
              obtain ⟨v2, ev2⟩ : ∃ v2, v1.alloc (.cells #[.int .i64 (kidAt a k).layout, .int .i64 (kidAt a k).offset, .int .i64 (kidAt a k).length, .string (kidAt a k).valid, .string (kidAt a k).ends, .string (kidAt a k).data, .slice ok (kidAt a k).kids.length ck, .int .i64 (nd ns (kidNode ns n a k)).kind, .slice rr (kidAt a k).kids.length rc] 71) = v2 := ⟨_, rfl⟩
              rw [ev2]
              have HB2 : Hid (v2.heap[v1.heap.size]? = some (.cells #[.int .i64 (kidAt a k).layout, .int .i64 (kidAt a k).offset, .int .i64 (kidAt a k).length, .string (kidAt a k).valid, .string (kidAt a k).ends, .string (kidAt a k).data, .slice ok (kidAt a k).kids.length ck, .int .i64 (nd ns (kidNode ns n a k)).kind, .slice rr (kidAt a k).kids.length rc] 71)) := by unfold Hid; rw [← ev2]; exact heap_alloc_new _ _
              have HS2 : Hid (v2.heap.size = v1.heap.size + 1) := by unfold Hid; rw [← ev2]; simp
              have B12 : Hid (Below v1.heap.size v1 v2) := by unfold Hid; rw [← ev2]; exact (Below.refl _ _).alloc (Nat.le_refl _) _
              have D2 : Hid (Below v5.heap.size v5 v2) := bel2 D1.out B12.out
              clear ev2
              refine hK.out _ _ (KLB.out _ (fun b _ _ hb => D2.out.block b hb)) (fun g3 => ?_)
              clear hK K g2
              try simp only [Act.put, List.setIfInBounds_toArray, List.set_cons_zero, List.set_cons_succ]
              have HOW2 : Hid (v2.ownsRow w6.heap.size 71 9 (.slice ov k cv) k css.flatten) := ownsRow_grown RDS.out.own (bel2 BR5.out D2.out)
              obtain ⟨av, v3, hrun, hown3, hgrow3, _, hblk3⟩ := run_append_own_at (P := Tryz.prog) v2 w6.heap.size 69 69 71 i67 _ 9 128 Tryz.underlying69 hi hz0 hz1 hz2 rfl (by decide) _ k _ HOW2.out ⟨v1.heap.size, 0, none⟩ 1 1 (rdCells (kidAt a k) ok ck (nd ns (kidNode ns n a k)).kind rr (kidAt a k).kids.length rc) rfl (rd_news HB2.out) (rd_one _ _ _ _ _ _ _) (by have := HLK.out; unfold maxLen; omega) (by have := HLK.out; omega) (by have h1 := HNP.out; have h2 := D2.out.size; omega)
              obtain ⟨oo, oc, rfl⟩ := ownsRow_len hown3
              have hrb : ∀ q, (Value.slice ov k cv).ownBlock = some q → w6.heap.size ≤ q ∧ q < wr.heap.size := fun q hq => ⟨(RDS.out.own.lt q hq).1, (RDS.out.own.lt q hq).2⟩
              have RD3 : Hid (Rds ns f n a w6.heap.size (k + 1) (.slice oo (k + 1) oc) v3 (css ++ [(rdCells (kidAt a k) ok ck (nd ns (kidNode ns n a k)).kind rr (kidAt a k).kids.length rc)])) := RDS.out.step (w4 := v1) HNP.out.2.2.2.2.1 (bel2 BR5.out D1.out) rfl (HRO.out.lt.stays (fun b _ => rfl) (fun b hb => ⟨by have h1 := HNP.out; have h2 := D0.out.size; have h3 := hb.1; omega, hb.2⟩)) hown3 (grown_of_below B12.out hgrow3) (n5 := v2.heap.size) (by have := HS2.out; omega) hblk3
              have H23 : Hid (∀ b, b < v2.heap.size → (b < w6.heap.size ∨ wr.heap.size ≤ b) → v3.heap[b]? = v2.heap[b]?) := fun b hb ho => hgrow3.block b hb (fun c => by have := hrb b c.symm; omega)
              have XP3 : Hid (Rx v3 p a (some xk) cap (nd ns n).kind ov k cv) := ⟨(H23.out p (by have h1 := XP5.out.lt; have h2 := D2.out.size; omega) (.inl HNP.out.2.2.1)).trans (XP5.out.later D2.out).blk⟩
              have KP3 : Hid (Kept (fun b => b = p) w6 v3) := (KP.out.below (bel2 BR5.out D2.out)).grown hgrow3 (fun q hq => .inr (hrb q hq).1)
              have KS3 : Hid (∀ v : World, (∀ b, b ≠ p → v.heap[b]? = v3.heap[b]?) → v.cell? ⟨w.heap.size, 0, none⟩ = some (.slice (some x) ns.length capT) ∧ v.cell? ⟨gN, k, none⟩ = some (.int .i64 ((kidNode ns n a k : Nat) : Int)) ∧ v.cell? ⟨wr.heap.size, 0, none⟩ = some (.int .i64 (kidAt a k).layout) ∧ v.cell? ⟨wr.heap.size, 1, none⟩ = some (.int .i64 (kidAt a k).offset) ∧ v.cell? ⟨wr.heap.size, 2, none⟩ = some (.int .i64 (kidAt a k).length) ∧ v.cell? ⟨wr.heap.size, 3, none⟩ = some (.string (kidAt a k).valid) ∧ v.cell? ⟨wr.heap.size, 4, none⟩ = some (.string (kidAt a k).ends) ∧ v.cell? ⟨wr.heap.size, 5, none⟩ = some (.string (kidAt a k).data) ∧ v.cell? ⟨wr.heap.size, 6, none⟩ = some (.slice ok (kidAt a k).kids.length ck)) := fun v hv => KLB.out v (fun b hb ho hl => (hv b hb).trans ((H23.out b (Nat.lt_of_lt_of_le hl D2.out.size) ho).trans (D2.out.block b hl)))
              have HRUN : Hid ((Builtin.append_ #[69, 69] 69 #[.slice ov k cv, .slice (some ⟨v1.heap.size, 0, none⟩) 1 1]).run Tryz.prog v2 = .ok (.slice oo (k + 1) oc) v3) := hrun
              clear hrun hown3 hgrow3 hblk3 hrb
              refine wpAnyH_ready (rs := [10]) (by kernel_rfl) (by simp) ?_
              refine AllReadyH.cons rfl (fun K hK => ?_) AllReadyH.nil
              rw [if_pos (by rfl)]
              refine upon_append (s := .tmp 39) (x := .tmp 47) rfl rfl rfl rfl HRUN.out ?_
              refine hK.out _ _ (KS3.out v3 (fun _ _ => rfl)) (fun g10 => ?_)
              clear hK K g3
              try simp only [Act.put, List.setIfInBounds_toArray, List.set_cons_zero, List.set_cons_succ]
              refine take_at (i := 11) (d := some 49) (v := ?v11l2) rfl rfl (by kernel_rfl) (by kernel_rfl) (by kernel_rfl) (fun _ _ _ h => h) (Or.inl ⟨by rfl, ?y11l2⟩) g10 ?r11l2
              case y11l2 => (intro w' hSw; (try dsimp only at hSw); go_simp; try with_reducible rfl)
              try simp only [Act.put, List.setIfInBounds_toArray, List.set_cons_zero, List.set_cons_succ]
              have l8 := XP3.out.c8
              have z8 := XP3.out.fz 8
              refine wpAnyH_ready (rs := [12]) (by kernel_rfl) (by simp) ?_
              refine AllReadyH.cons rfl (fun K hK => ?_) AllReadyH.nil
              go_simp
              obtain ⟨v4, ev4, x4, h4, k4⟩ := XP3.out.set8 oo (k + 1) oc
              rw [ev4]
              have XP4 : Hid (Rx v4 p a (some xk) cap (nd ns n).kind oo (k + 1) oc) := x4
              have KP4 : Hid (Kept (fun b => b = p) w6 v4) := k4 _ _ rfl KP3.out
              have RD4 : Hid (Rds ns f n a w6.heap.size (k + 1) (.slice oo (k + 1) oc) v4 (css ++ [(rdCells (kidAt a k) ok ck (nd ns (kidNode ns n a k)).kind rr (kidAt a k).kids.length rc)])) := RD3.out.keep (fun b hb _ => h4 b (by have := HNP.out; omega)) (k4 (fun _ => True) v3 True.intro (Kept.refl _ _)).size
              have KS4 : Hid (v4.cell? ⟨w.heap.size, 0, none⟩ = some (.slice (some x) ns.length capT) ∧ v4.cell? ⟨gN, k, none⟩ = some (.int .i64 ((kidNode ns n a k : Nat) : Int)) ∧ v4.cell? ⟨wr.heap.size, 0, none⟩ = some (.int .i64 (kidAt a k).layout) ∧ v4.cell? ⟨wr.heap.size, 1, none⟩ = some (.int .i64 (kidAt a k).offset) ∧ v4.cell? ⟨wr.heap.size, 2, none⟩ = some (.int .i64 (kidAt a k).length) ∧ v4.cell? ⟨wr.heap.size, 3, none⟩ = some (.string (kidAt a k).valid) ∧ v4.cell? ⟨wr.heap.size, 4, none⟩ = some (.string (kidAt a k).ends) ∧ v4.cell? ⟨wr.heap.size, 5, none⟩ = some (.string (kidAt a k).data) ∧ v4.cell? ⟨wr.heap.size, 6, none⟩ = some (.slice ok (kidAt a k).kids.length ck)) := KS3.out v4 h4
              clear ev4 x4 h4 k4
              refine hK.out _ _ KS4.out (fun g12 => ?_)
              clear hK K
              try simp only [Act.put, List.setIfInBounds_toArray, List.set_cons_zero, List.set_cons_succ]
              refine wpAnyH_done (by kernel_rfl) ?_ _
              refine NoPanic.normal ?_
              clear l8 z8
              go_wp2
              go_roundw
              case rel => exact ⟨k + 1, _, _, _, by omega, by go_num, RD4.out, XP4.out, KP4.out⟩
              case measure => simp [intOf]; omega
            · go_simp
              obtain ⟨v2, ev2⟩ : ∃ v2, v1.alloc (.cells #[.int .i64 (kidAt a k).layout, .int .i64 (kidAt a k).offset, .int .i64 (kidAt a k).length, .string (kidAt a k).valid, .string (kidAt a k).ends, .string (kidAt a k).data, .slice ok (kidAt a k).kids.length ck, .int .i64 (nd ns (kidNode ns n a k)).kind, .slice rr (kidAt a k).kids.length rc] 71) = v2 := ⟨_, rfl⟩
              rw [ev2]
              have HB2 : Hid (v2.heap[v1.heap.size]? = some (.cells #[.int .i64 (kidAt a k).layout, .int .i64 (kidAt a k).offset, .int .i64 (kidAt a k).length, .string (kidAt a k).valid, .string (kidAt a k).ends, .string (kidAt a k).data, .slice ok (kidAt a k).kids.length ck, .int .i64 (nd ns (kidNode ns n a k)).kind, .slice rr (kidAt a k).kids.length rc] 71)) := by unfold Hid; rw [← ev2]; exact heap_alloc_new _ _
              have HS2 : Hid (v2.heap.size = v1.heap.size + 1) := by unfold Hid; rw [← ev2]; simp
              have B12 : Hid (Below v1.heap.size v1 v2) := by unfold Hid; rw [← ev2]; exact (Below.refl _ _).alloc (Nat.le_refl _) _
              have D2 : Hid (Below v5.heap.size v5 v2) := bel2 D1.out B12.out
              clear ev2
              refine hK.out _ _ (KLB.out _ (fun b _ _ hb => D2.out.block b hb)) (fun g2 => ?_)
              clear hK K g1
              try simp only [Act.put, List.setIfInBounds_toArray, List.set_cons_zero, List.set_cons_succ]
              refine wpAnyH_ready (rs := [1]) (by kernel_rfl) (by simp) ?_
              refine AllReadyH.cons rfl (fun K hK => ?_) AllReadyH.nil
              have l8 := (XP5.out.later D2.out).c8
              go_simp
              refine hK.out _ _ (KLB.out _ (fun b _ _ hb => D2.out.block b hb)) (fun g3 => ?_)
              clear l8
              clear hK K g2
              try simp only [Act.put, List.setIfInBounds_toArray, List.set_cons_zero, List.set_cons_succ]
              have HOW2 : Hid (v2.ownsRow w6.heap.size 71 9 (.slice ov k cv) k css.flatten) := ownsRow_grown RDS.out.own (bel2 BR5.out D2.out)
              obtain ⟨av, v3, hrun, hown3, hgrow3, _, hblk3⟩ := run_append_own_at (P := Tryz.prog) v2 w6.heap.size 69 69 71 i67 _ 9 128 Tryz.underlying69 hi hz0 hz1 hz2 rfl (by decide) _ k _ HOW2.out ⟨v1.heap.size, 0, none⟩ 1 1 (rdCells (kidAt a k) ok ck (nd ns (kidNode ns n a k)).kind rr (kidAt a k).kids.length rc) rfl (rd_news HB2.out) (rd_one _ _ _ _ _ _ _) (by have := HLK.out; unfold maxLen; omega) (by have := HLK.out; omega) (by have h1 := HNP.out; have h2 := D2.out.size; omega)
              obtain ⟨oo, oc, rfl⟩ := ownsRow_len hown3
              have hrb : ∀ q, (Value.slice ov k cv).ownBlock = some q → w6.heap.size ≤ q ∧ q < wr.heap.size := fun q hq => ⟨(RDS.out.own.lt q hq).1, (RDS.out.own.lt q hq).2⟩
              have RD3 : Hid (Rds ns f n a w6.heap.size (k + 1) (.slice oo (k + 1) oc) v3 (css ++ [(rdCells (kidAt a k) ok ck (nd ns (kidNode ns n a k)).kind rr (kidAt a k).kids.length rc)])) := RDS.out.step (w4 := v1) HNP.out.2.2.2.2.1 (bel2 BR5.out D1.out) rfl (HRO.out.lt.stays (fun b _ => rfl) (fun b hb => ⟨by have h1 := HNP.out; have h2 := D0.out.size; have h3 := hb.1; omega, hb.2⟩)) hown3 (grown_of_below B12.out hgrow3) (n5 := v2.heap.size) (by have := HS2.out; omega) hblk3
              have H23 : Hid (∀ b, b < v2.heap.size → (b < w6.heap.size ∨ wr.heap.size ≤ b) → v3.heap[b]? = v2.heap[b]?) := fun b hb ho => hgrow3.block b hb (fun c => by have := hrb b c.symm; omega)
              have XP3 : Hid (Rx v3 p a (some xk) cap (nd ns n).kind ov k cv) := ⟨(H23.out p (by have h1 := XP5.out.lt; have h2 := D2.out.size; omega) (.inl HNP.out.2.2.1)).trans (XP5.out.later D2.out).blk⟩
              have KP3 : Hid (Kept (fun b => b = p) w6 v3) := (KP.out.below (bel2 BR5.out D2.out)).grown hgrow3 (fun q hq => .inr (hrb q hq).1)
              have KS3 : Hid (∀ v : World, (∀ b, b ≠ p → v.heap[b]? = v3.heap[b]?) → v.cell? ⟨w.heap.size, 0, none⟩ = some (.slice (some x) ns.length capT) ∧ v.cell? ⟨gN, k, none⟩ = some (.int .i64 ((kidNode ns n a k : Nat) : Int)) ∧ v.cell? ⟨wr.heap.size, 0, none⟩ = some (.int .i64 (kidAt a k).layout) ∧ v.cell? ⟨wr.heap.size, 1, none⟩ = some (.int .i64 (kidAt a k).offset) ∧ v.cell? ⟨wr.heap.size, 2, none⟩ = some (.int .i64 (kidAt a k).length) ∧ v.cell? ⟨wr.heap.size, 3, none⟩ = some (.string (kidAt a k).valid) ∧ v.cell? ⟨wr.heap.size, 4, none⟩ = some (.string (kidAt a k).ends) ∧ v.cell? ⟨wr.heap.size, 5, none⟩ = some (.string (kidAt a k).data) ∧ v.cell? ⟨wr.heap.size, 6, none⟩ = some (.slice ok (kidAt a k).kids.length ck)) := fun v hv => KLB.out v (fun b hb ho hl => (hv b hb).trans ((H23.out b (Nat.lt_of_lt_of_le hl D2.out.size) ho).trans (D2.out.block b hl)))
              have HRUN : Hid ((Builtin.append_ #[69, 69] 69 #[.slice ov k cv, .slice (some ⟨v1.heap.size, 0, none⟩) 1 1]).run Tryz.prog v2 = .ok (.slice oo (k + 1) oc) v3) := hrun
              clear hrun hown3 hgrow3 hblk3 hrb
              refine wpAnyH_ready (rs := [10]) (by kernel_rfl) (by simp) ?_
              refine AllReadyH.cons rfl (fun K hK => ?_) AllReadyH.nil
              rw [if_pos (by rfl)]
              refine upon_append (s := .tmp 39) (x := .tmp 47) rfl rfl rfl rfl HRUN.out ?_
              refine hK.out _ _ (KS3.out v3 (fun _ _ => rfl)) (fun g10 => ?_)
              clear hK K g3
              try simp only [Act.put, List.setIfInBounds_toArray, List.set_cons_zero, List.set_cons_succ]
              refine take_at (i := 11) (d := some 49) (v := ?v11l3) rfl rfl (by kernel_rfl) (by kernel_rfl) (by kernel_rfl) (fun _ _ _ h => h) (Or.inl ⟨by rfl, ?y11l3⟩) g10 ?r11l3
              case y11l3 => (intro w' hSw; (try dsimp only at hSw); go_simp; try with_reducible rfl)
              try simp only [Act.put, List.setIfInBounds_toArray, List.set_cons_zero, List.set_cons_succ]
              have l8 := XP3.out.c8
              have z8 := XP3.out.fz 8
              refine wpAnyH_ready (rs := [12]) (by kernel_rfl) (by simp) ?_
              refine AllReadyH.cons rfl (fun K hK => ?_) AllReadyH.nil
              go_simp
              obtain ⟨v4, ev4, x4, h4, k4⟩ := XP3.out.set8 oo (k + 1) oc
              rw [ev4]
              have XP4 : Hid (Rx v4 p a (some xk) cap (nd ns n).kind oo (k + 1) oc) := x4
              have KP4 : Hid (Kept (fun b => b = p) w6 v4) := k4 _ _ rfl KP3.out
              have RD4 : Hid (Rds ns f n a w6.heap.size (k + 1) (.slice oo (k + 1) oc) v4 (css ++ [(rdCells (kidAt a k) ok ck (nd ns (kidNode ns n a k)).kind rr (kidAt a k).kids.length rc)])) := RD3.out.keep (fun b hb _ => h4 b (by have := HNP.out; omega)) (k4 (fun _ => True) v3 True.intro (Kept.refl _ _)).size
              have KS4 : Hid (v4.cell? ⟨w.heap.size, 0, none⟩ = some (.slice (some x) ns.length capT) ∧ v4.cell? ⟨gN, k, none⟩ = some (.int .i64 ((kidNode ns n a k : Nat) : Int)) ∧ v4.cell? ⟨wr.heap.size, 0, none⟩ = some (.int .i64 (kidAt a k).layout) ∧ v4.cell? ⟨wr.heap.size, 1, none⟩ = some (.int .i64 (kidAt a k).offset) ∧ v4.cell? ⟨wr.heap.size, 2, none⟩ = some (.int .i64 (kidAt a k).length) ∧ v4.cell? ⟨wr.heap.size, 3, none⟩ = some (.string (kidAt a k).valid) ∧ v4.cell? ⟨wr.heap.size, 4, none⟩ = some (.string (kidAt a k).ends) ∧ v4.cell? ⟨wr.heap.size, 5, none⟩ = some (.string (kidAt a k).data) ∧ v4.cell? ⟨wr.heap.size, 6, none⟩ = some (.slice ok (kidAt a k).kids.length ck)) := KS3.out v4 h4
              clear ev4 x4 h4 k4
              refine hK.out _ _ KS4.out (fun g12 => ?_)
              clear hK K
              try simp only [Act.put, List.setIfInBounds_toArray, List.set_cons_zero, List.set_cons_succ]
              refine wpAnyH_done (by kernel_rfl) ?_ _
              refine NoPanic.normal ?_
              clear l8 z8
              go_wp2
              go_roundw
              case rel => exact ⟨k + 1, _, _, _, by omega, by go_num, RD4.out, XP4.out, KP4.out⟩
              case measure => simp [intOf]; omega
        · obtain rfl : k = a.kids.length := by omega
          have HRk : Hid (w2.heap.size < w6.heap.size ∧ w.heap.size ≤ w2.heap.size ∧ w.heap.size ≤ w6.heap.size) := by
            have h1 := HPW.out
            have h2 := HSZ.out
            have h3 := HZ.out
            unfold Hid
            omega
          have y0 := XPR.out.c0
          have y1 := XPR.out.c1
          have y2 := XPR.out.c2
          have y3 := XPR.out.c3
          have y4 := XPR.out.c4
          have y5 := XPR.out.c5
          have y6 := XPR.out.c6
          have y7 := XPR.out.c7
          have y8 := XPR.out.c8
          have u0 := XRR.out.c0
          have u1 := XRR.out.c1
          have u2 := XRR.out.c2
          have u3 := XRR.out.c3
          have u4 := XRR.out.c4
          have u5 := XRR.out.c5
          have u6 := XRR.out.c6
          have u7 := XRR.out.c7
          have u8 := XRR.out.c8
          have z0 := XRR.out.fz 0
          have z1 := XRR.out.fz 1
          have z2 := XRR.out.fz 2
          have z3 := XRR.out.fz 3
          have z4 := XRR.out.fz 4
          have z5 := XRR.out.fz 5
          have z6 := XRR.out.fz 6
          have z7 := XRR.out.fz 7
          have z8 := XRR.out.fz 8
          unfold nil at u0 u1 u2 u3 u4 u5 u6
          obtain ⟨w9, e9, x9, h9, b9⟩ := set9 XRR.out a o cap (nd ns n).kind ov a.kids.length cv
          have HB9 : Hid (Below w.heap.size w w9) := BR.out.trans (b9 _ HRk.out.2.1)
          have HO9 : Hid (HoldsRo w9 ns (f + 1) n (fun b => w.heap.size ≤ b) (rdCells a o cap (nd ns n).kind ov a.kids.length cv) a) := (RDS.out.done (w5 := w9) o cap (fun b hb _ => h9 b (by have := HRk.out; omega))).stays (fun b _ => rfl) (fun b hb => Nat.le_trans HRk.out.2.2 hb)
          have q0 := x9.c0
          have q1 := x9.c1
          have q2 := x9.c2
          have q3 := x9.c3
          have q4 := x9.c4
          have q5 := x9.c5
          have q6 := x9.c6
          have q7 := x9.c7
          have q8 := x9.c8
          clear x9 h9 b9
          go_wp2_with fail
          try rw [e9]
          exact bodyPost_ret (v := .agg #[.int .i64 a.layout, .int .i64 a.offset, .int .i64 a.length, .string a.valid, .string a.ends, .string a.data, .slice o a.kids.length cap, .int .i64 (nd ns n).kind, .slice ov a.kids.length cv]) (by simp [results, Tryz.results46, go_sem, q0, q1, q2, q3, q4, q5, q6, q7, q8]) rfl ⟨ov, cv, rfl, HO9.out, HB9.out⟩
theorem readOf (B : Nat) : ∀ f, ReadOf B f := by
  intro f
  induction f with
  | zero => intro ns oT capT n a o cap w _ _ hf; cases hf
  | succ f ih => exact readOf_step B f ih
end Go.Proofs.YtcpfhfdgfcilaaaGreatDoor.Arr
