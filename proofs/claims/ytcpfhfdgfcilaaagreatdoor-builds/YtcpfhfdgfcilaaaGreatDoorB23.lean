/-
  Several texts in one: Readers made, of an array that may be: readerOf: contract.
-/
import Derived.Test.YtcpfhfdgfcilaaaGreatDoorB22
import Derived.Test.YtcpfhfdgfcilaaaGreatDoorB12
import Derived.Test.YtcpfhfdgfcilaaaGreatDoorB02
import Derived.Test.YtcpfhfdgfcilaaaGreatDoorB09
import Derived.Maps.AppendAt
import Derived.Deep.CutRange
import Derived.Deep.CutBlock
import Derived.Test.YtcpfhfdgfcilaaaGreatDoorB20
set_option linter.unusedVariables false
set_option linter.unusedSimpArgs false
namespace Go.Proofs.YtcpfhfdgfcilaaaGreatDoor.Arr
open Go.ChangeShapes Go.WideShapes Go.ChangeAt Go.RowKit
open Tree Val

/-- A tree of readers in memory of its own. -/
def HoldsRo (w : World) (ns : List Nd) : Nat → Nat → (Nat → Prop) → List Value → Arr → Prop
  | 0, _, _, _, _ => False
  | f + 1, n, ok, cs, a => ∃ (o : Option Addr) (cap : Nat) (r : Option Addr) (c : Nat), cs = rdCells a o cap (nd ns n).kind r a.kids.length c ∧
      (a.kids = [] ∨ ∃ g cur, r = some ⟨g, 0, none⟩ ∧ ok g ∧ w.heap[g]? = some (.cells cur 71 (0, 0)) ∧ ∀ i, i < a.kids.length → ∃ cs', cs'.length = 9 ∧ (∀ j, j < 9 → cur[i * 9 + j]? = cs'[j]?) ∧ HoldsRo w ns f (kidNode ns n a i) (fun b => ok b ∧ b ≠ g) cs' (kidAt a i))
theorem HoldsRo.holds {w : World} {ns : List Nd} : ∀ {f n : Nat} {ok : Nat → Prop} {cs : List Value} {a : Arr}, HoldsRo w ns f n ok cs a → HoldsRd w ns f n cs a := by
  intro f
  induction f with
  | zero => intro n ok cs a h; cases h
  | succ f ih =>
    rintro n ok cs a ⟨o, cap, r, c, h1, h2⟩
    refine ⟨o, cap, r, c, h1, h2.imp id ?_⟩
    rintro ⟨g, cur, e, _, hg, hx⟩
    refine ⟨g, e, fun i hi => ?_⟩
    obtain ⟨cs', hl, hc, hh⟩ := hx i hi
    refine ⟨cs', hl, fun j hj => ?_, ih hh⟩
    rw [← hc j hj]
    simp [World.cell?, hg]
theorem HoldsRo.stays {w w' : World} {ns : List Nd} : ∀ {f n : Nat} {ok ok' : Nat → Prop} {cs : List Value} {a : Arr}, (∀ b, ok b → w'.heap[b]? = w.heap[b]?) → (∀ b, ok b → ok' b) → HoldsRo w ns f n ok cs a → HoldsRo w' ns f n ok' cs a := by
  intro f
  induction f with
  | zero => intro n ok ok' cs a _ _ h; cases h
  | succ f ih =>
    rintro n ok ok' cs a hb hk ⟨o, cap, r, c, h1, h2⟩
    refine ⟨o, cap, r, c, h1, h2.imp id ?_⟩
    rintro ⟨g, cur, e, hg0, hg, hx⟩
    refine ⟨g, cur, e, hk _ hg0, (hb _ hg0).trans hg, fun i hi => ?_⟩
    obtain ⟨cs', hl, hc, hh⟩ := hx i hi
    exact ⟨cs', hl, hc, ih (fun b h => hb b h.1) (fun b h => ⟨hk b h.1, h.2⟩) hh⟩
theorem HoldsRo.lt {w : World} {ns : List Nd} : ∀ {f n : Nat} {ok : Nat → Prop} {cs : List Value} {a : Arr}, HoldsRo w ns f n ok cs a → HoldsRo w ns f n (fun b => ok b ∧ b < w.heap.size) cs a := by
  intro f
  induction f with
  | zero => intro n ok cs a h; cases h
  | succ f ih =>
    rintro n ok cs a ⟨o, cap, r, c, h1, h2⟩
    refine ⟨o, cap, r, c, h1, h2.imp id ?_⟩
    rintro ⟨g, cur, e, hg0, hg, hx⟩
    have hlt : g < w.heap.size := (Array.getElem?_eq_some_iff.1 hg).1
    refine ⟨g, cur, e, ⟨hg0, hlt⟩, hg, fun i hi => ?_⟩
    obtain ⟨cs', hl, hc, hh⟩ := hx i hi
    exact ⟨cs', hl, hc, (ih hh).stays (fun b _ => rfl) (fun b h => ⟨⟨h.1.1, h.2⟩, h.1.2⟩)⟩
/-- The readers that are made so far. -/
structure Rds (ns : List Nd) (f n : Nat) (a : Arr) (b0 k : Nat) (v : Value) (wr : World) (css : List (List Value)) : Prop where
  len : css.length = k
  own : wr.ownsRow b0 71 9 v k css.flatten
  each : ∀ i, i < k → (css.getD i []).length = 9 ∧ HoldsRo wr ns f (kidNode ns n a i) (fun b => b0 ≤ b ∧ b < wr.heap.size ∧ some b ≠ v.ownBlock) (css.getD i []) (kidAt a i)
theorem flatten9 : ∀ (css : List (List Value)) (i j : Nat), (∀ k, k < css.length → (css.getD k []).length = 9) → i < css.length → j < 9 → css.flatten[i * 9 + j]? = (css.getD i [])[j]?
  | [], i, j, _, hi, _ => by simp at hi
  | c :: css, 0, j, h, _, hj => by
    have h0 : c.length = 9 := by simpa using h 0 (by simp)
    rw [List.flatten_cons, List.getElem?_append_left (by omega)]
    simp
  | c :: css, i + 1, j, h, hi, hj => by
    have h0 : c.length = 9 := by simpa using h 0 (by simp)
    rw [List.flatten_cons, List.getElem?_append_right (by omega), show (i + 1) * 9 + j - c.length = i * 9 + j from by omega]
    rw [flatten9 css i j (fun k hk => by simpa using h (k + 1) (by simpa using hk)) (by simpa using hi) hj]
    simp
/-- One more. -/
theorem Rds.step {ns : List Nd} {f n : Nat} {a : Arr} {b0 k : Nat} {v : Value} {wr w4 w5 : World} {css : List (List Value)} {cs : List Value} {v' : Value} (h : Rds ns f n a b0 k v wr css) (hw : b0 ≤ wr.heap.size) (h4 : Below wr.heap.size wr w4) (hl : cs.length = 9)
    (hn : HoldsRo w4 ns f (kidNode ns n a k) (fun b => wr.heap.size ≤ b ∧ b < w4.heap.size) cs (kidAt a k)) (hown : w5.ownsRow b0 71 9 v' (k + 1) (css.flatten ++ cs)) (hgrow : w4.grownBy w5 v.ownBlock) {n5 : Nat} (hn5 : w4.heap.size ≤ n5) (hblk : v'.ownBlock = v.ownBlock ∨ v'.ownBlock = some n5) : Rds ns f n a b0 (k + 1) v' w5 (css ++ [cs]) := by
  have hb := fun b => h.own.lt b
  refine ⟨by simp [h.len], by simpa using hown, fun i hi => ?_⟩
  have hs4 := h4.size
  have hs5 := hgrow.size
  by_cases hik : i < k
  · obtain ⟨e1, e2⟩ := h.each i hik
    have e : (css ++ [cs]).getD i [] = css.getD i [] := by
      rw [List.getD_eq_getElem?_getD, List.getD_eq_getElem?_getD, List.getElem?_append_left (by rw [h.len]; exact hik)]
    rw [e]
    refine ⟨e1, e2.stays (fun b hb => ?_) (fun b hb => ⟨hb.1, by omega, ?_⟩)⟩
    · rw [hgrow.block b (by omega) (fun c => hb.2.2 c), h4.block b hb.2.1]
    · rcases hblk with c | c
      · rw [c]; exact hb.2.2
      · rw [c]
        intro c
        injection c with c
        omega
  · obtain rfl : i = k := by omega
    have e : (css ++ [cs]).getD i [] = cs := by
      rw [List.getD_eq_getElem?_getD, List.getElem?_append_right (by rw [h.len]; exact Nat.le_refl _), h.len]
      simp
    rw [e]
    refine ⟨hl, hn.stays (fun b hb' => ?_) (fun b hb' => ⟨by omega, by omega, ?_⟩)⟩
    · refine hgrow.block b hb'.2 (fun c => ?_)
      have := (hb b c.symm).2
      omega
    · rcases hblk with c | c
      · rw [c]
        intro c'
        have := (hb b c'.symm).2
        omega
      · rw [c]
        intro c
        injection c with c
        omega
/-- All of them: a tree of one's own. -/
theorem Rds.done {ns : List Nd} {f n : Nat} {a : Arr} {b0 : Nat} {r : Option Addr} {c : Nat} {wr w5 : World} {css : List (List Value)} (o : Option Addr) (cap : Nat) (h : Rds ns f n a b0 a.kids.length (.slice r a.kids.length c) wr css) (hb : ∀ b, b0 ≤ b → b < wr.heap.size → w5.heap[b]? = wr.heap[b]?) : HoldsRo w5 ns (f + 1) n (fun b => b0 ≤ b) (rdCells a o cap (nd ns n).kind r a.kids.length c) a := by
  rcases h.own.2 with ⟨e, e0⟩ | ⟨g, cap', cur, e, hg0, hg, hn, hm, hs, hx⟩
  · have hk : a.kids = [] := List.length_eq_zero_iff.1 e0
    exact ⟨o, cap, r, c, rfl, .inl hk⟩
  · injection e with e1 e2 e3
    subst e1 e3
    have hlt : g < wr.heap.size := (Array.getElem?_eq_some_iff.1 hg).1
    refine ⟨_, _, _, _, rfl, .inr ⟨g, cur, rfl, hg0, (hb g hg0 hlt).trans hg, fun i hi => ?_⟩⟩
    obtain ⟨e1, e2⟩ := h.each i hi
    refine ⟨css.getD i [], e1, fun j hj => ?_, e2.stays (fun b hb' => hb b hb'.1 hb'.2.1) (fun b hb' => ⟨hb'.1, fun c => hb'.2.2 (by rw [c]; rfl)⟩)⟩
    rw [← flatten9 css i j (fun k hk => (h.each k (by rw [h.len] at hk; exact hk)).1) (by rw [h.len]; exact hi) hj, ← hx]
    rw [List.getElem?_take, if_pos (by omega)]
    simp
end Go.Proofs.YtcpfhfdgfcilaaaGreatDoor.Arr
