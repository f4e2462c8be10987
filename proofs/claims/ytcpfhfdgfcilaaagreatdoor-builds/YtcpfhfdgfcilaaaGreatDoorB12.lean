/-
  Several texts in one: An array in memory of its own: its rows lie in blocks of a kind, that may be written; no row's block holds what hangs below it. · An array copied: CopyArray: contract. · Sums over numbers, and how much hangs below a node: plain facts. · What is read of an array that may be is a value that fits its node. · Digits as loops make and read them: plain facts for the walks. · A list of texts that came in, opened: what the walks of the laws over lists of texts are told. Over whatever program. · What the library's functions compute that the program calls, at this seat's numbers: contracts of the library, laid. · What the listed variables of the library hold, and that they hold it still behind whatever leaves old blocks alone. · The library's words for a number's digits and what digits are read as, and ours: plain facts. · A taker in a block; the worlds that a taker's work leads through; isDone, sign, upTo, number, digits, bytes: contracts. · A value's kind and what it has between its signs, by the places of a text: plain facts.
-/
import Derived.WalkKit
import Derived.ProofKit
import Derived.Below
import Derived.OwnWalk
import Derived.Laws.OwnMore
import Derived.Test.YtcpfhfdgfcilaaaGreatDoorB04
import Derived.Test.YtcpfhfdgfcilaaaGreatDoorB11
import Derived.Test.YtcpfhfdgfcilaaaGreatDoorB02
import Derived.Maps.AppendAt
import Derived.OneCell
import Derived.Test.YtcpfhfdgfcilaaaGreatDoorB01
import Derived.Test.YtcpfhfdgfcilaaaGreatDoorB03
import Derived.OpenShut
import Derived.ChangeOld
import Derived.SizedLaws
import Derived.SliceStrings
import Derived.Shelf.Strings.Builder1
import Derived.Shelf.Strings.OnBuilder
import Derived.Shelf.Small.Strs
import Derived.Shelf.LaysM
import Derived.Shelf.Strconv.Itoa3
import Derived.Shelf.Strconv.Itoa4
import Derived.Shelf.Strconv.Clone
import Derived.Shelf.LaysC
import Derived.Shelf.Strconv.AtoiAll
import Derived.Shelf.Strconv.ParseIntPublic10
import Derived.Shelf.Strconv.ErrVarParseInt
import Derived.Shelf.Strings.Repeat
import Derived.Test.YtcpfhfdgfcilaaaGreatDoorProg
import Derived.Test.YtcpfhfdgfcilaaaGreatDoorRows
import Derived.LaidMore
import Derived.Lib.LaidTab
import Derived.Stop.LaidErr
import Derived.Stop.Joined
import Derived.Lib.Bytealg
import Derived.Lib.ItoaNum
import Derived.Lib.ParseIntBTie
import GoSem.Claim
import GoSem.ClaimJoined
import GoSem.ClaimMapViews
import Derived.JoinedTies
import Derived.KernelRfl
import Derived.RowKit
import Derived.RegionTactic
import Derived.ChangeAlike
import Derived.Deep.QuietTactic
import Derived.BigQuiet
import Derived.WalkSmall
import Derived.Lib.AppendIntMem
import Derived.Lib.AtoiErrMem
namespace Go.Proofs.YtcpfhfdgfcilaaaGreatDoor.Arr
open Go.ChangeShapes Go.WideShapes Go.ChangeAt Go.RowKit

/-- These cells are an array's, in memory of its own. -/
def HoldsO (B : Nat) (w : World) : Nat → (Nat → Prop) → List Value → Arr → Prop
  | 0, _, _, _ => False
  | f + 1, ok, cs, a => ∃ (o : Option Addr) (cap : Nat), cs = a.cells o cap ∧ a.ok B ∧ a.kids.length ≤ cap ∧ cap ≤ maxLen ∧
      (o = none ∧ a.kids = [] ∧ cap = 0 ∨ ∃ g cur, o = some ⟨g, 0, none⟩ ∧ ok g ∧ w.heap[g]? = some (.cells cur 27 (0, 0)) ∧ cur.size = cap * 7 ∧
        ∀ i, i < a.kids.length → ∃ cs', cs'.length = 7 ∧ (∀ j, j < 7 → cur[i * 7 + j]? = cs'[j]?) ∧ HoldsO B w f (fun b => ok b ∧ b ≠ g) cs' (a.kids.getD i nil))
/-- A bound of what a copy's rows take. -/
def upB (B : Nat) : Nat := maxLen * 96 + B
theorem Arr.ok.up {B B' : Nat} (hB : B ≤ B') {a : Arr} (h : a.ok B) : a.ok B' := ⟨h.layout, h.offset, h.length, Nat.le_trans h.valid hB, Nat.le_trans h.ends hB, Nat.le_trans h.data hB⟩
theorem add0 (g k : Nat) : (⟨g, 0, none⟩ : Addr).add k = ⟨g, k, none⟩ := by
  simp [Addr.add]
  exact Eq.symm
theorem HoldsO.holds {B : Nat} {w : World} : ∀ {f : Nat} {ok : Nat → Prop} {cs : List Value} {a : Arr}, HoldsO B w f ok cs a → HoldsF (upB B) 96 w f cs a := by
  intro f
  induction f with
  | zero => intro ok cs a h; cases h
  | succ f ih =>
    rintro ok cs a ⟨o, cap, h1, h2, h3, h4, h5⟩
    refine ⟨o, cap, h1, h2.up (by unfold upB; omega), h3, ?_, h4, h5.imp id ?_⟩
    · unfold upB
      have := Nat.mul_le_mul_right 96 h4
      omega
    rintro ⟨g, cur, e, _, hg, _, hx⟩
    refine ⟨_, e, fun i hi => ?_⟩
    obtain ⟨cs', hl, hc, hh⟩ := hx i hi
    refine ⟨cs', hl, fun j hj => ?_, ih hh⟩
    rw [add0, ← hc j hj]
    simp [World.cell?, hg]
/-- It stays where its blocks stay. -/
theorem HoldsO.stays {B : Nat} {w w' : World} : ∀ {f : Nat} {ok ok' : Nat → Prop} {cs : List Value} {a : Arr}, (∀ b, ok b → w'.heap[b]? = w.heap[b]?) → (∀ b, ok b → ok' b) → HoldsO B w f ok cs a → HoldsO B w' f ok' cs a := by
  intro f
  induction f with
  | zero => intro ok ok' cs a _ _ h; cases h
  | succ f ih =>
    rintro ok ok' cs a hb hk ⟨o, cap, h1, h2, h3, h4, h5⟩
    refine ⟨o, cap, h1, h2, h3, h4, h5.imp id ?_⟩
    rintro ⟨g, cur, e, hg0, hg, hs, hx⟩
    refine ⟨g, cur, e, hk _ hg0, (hb _ hg0).trans hg, hs, fun i hi => ?_⟩
    obtain ⟨cs', hl, hc, hh⟩ := hx i hi
    exact ⟨cs', hl, hc, ih (fun b h => hb b h.1) (fun b h => ⟨hk b h.1, h.2⟩) hh⟩
theorem HoldsO.more {B : Nat} {w : World} : ∀ {f : Nat} {ok : Nat → Prop} {cs : List Value} {a : Arr}, HoldsO B w f ok cs a → HoldsO B w (f + 1) ok cs a := by
  intro f
  induction f with
  | zero => intro ok cs a h; cases h
  | succ f ih =>
    rintro ok cs a ⟨o, cap, h1, h2, h3, h4, h5⟩
    refine ⟨o, cap, h1, h2, h3, h4, h5.imp id ?_⟩
    rintro ⟨g, cur, e, hg0, hg, hs, hx⟩
    refine ⟨g, cur, e, hg0, hg, hs, fun i hi => ?_⟩
    obtain ⟨cs', hl, hc, hh⟩ := hx i hi
    exact ⟨cs', hl, hc, ih hh⟩
/-- The blocks that it reads lie in the world. -/
theorem HoldsO.lt {B : Nat} {w : World} : ∀ {f : Nat} {ok : Nat → Prop} {cs : List Value} {a : Arr}, HoldsO B w f ok cs a → HoldsO B w f (fun b => ok b ∧ b < w.heap.size) cs a := by
  intro f
  induction f with
  | zero => intro ok cs a h; cases h
  | succ f ih =>
    rintro ok cs a ⟨o, cap, h1, h2, h3, h4, h5⟩
    refine ⟨o, cap, h1, h2, h3, h4, h5.imp id ?_⟩
    rintro ⟨g, cur, e, hg0, hg, hs, hx⟩
    have hlt : g < w.heap.size := (Array.getElem?_eq_some_iff.1 hg).1
    refine ⟨g, cur, e, ⟨hg0, hlt⟩, hg, hs, fun i hi => ?_⟩
    obtain ⟨cs', hl, hc, hh⟩ := hx i hi
    exact ⟨cs', hl, hc, (ih hh).stays (fun b _ => rfl) (fun b h => ⟨⟨h.1.1, h.2⟩, h.1.2⟩)⟩
theorem HoldsF.up {B B' bytes : Nat} (hB : B ≤ B') {w : World} : ∀ {f : Nat} {cs : List Value} {a : Arr}, HoldsF B bytes w f cs a → HoldsF B' bytes w f cs a := by
  intro f
  induction f with
  | zero => intro cs a h; cases h
  | succ f ih =>
    rintro cs a ⟨o, cap, h1, h2, h3, h4, h5, h6⟩
    refine ⟨o, cap, h1, h2.up hB, h3, Nat.le_trans h4 hB, h5, h6.imp id ?_⟩
    rintro ⟨x, e, hx⟩
    refine ⟨x, e, fun i hi => ?_⟩
    obtain ⟨cs', hl, hc, hh⟩ := hx i hi
    exact ⟨cs', hl, hc, ih hh⟩

/-- The rows that are copied so far. -/
structure Copied (B f : Nat) (a : Arr) (b0 : Nat) (k : Nat) (v : Value) (wr : World) (css : List (List Value)) : Prop where
  len : css.length = k
  own : wr.ownsRow b0 27 7 v k css.flatten
  each : ∀ i, i < k → (css.getD i []).length = 7 ∧ HoldsO B wr f (fun b => b0 ≤ b ∧ b < wr.heap.size ∧ some b ≠ v.ownBlock) (css.getD i []) (kidAt a i)
theorem copied0 (B f : Nat) (a : Arr) (b0 : Nat) (wr : World) : Copied B f a b0 0 (.slice none 0 0) wr [] := ⟨rfl, ⟨rfl, .inl ⟨rfl, rfl⟩⟩, fun i hi => by omega⟩
theorem ownsRow_len {w : World} {base e size n : Nat} {v : Value} {xs : List Value} (h : w.ownsRow base e size v n xs) : ∃ o cap, v = .slice o n cap := by
  rcases h.2 with ⟨rfl, rfl⟩ | ⟨g, cap, cur, rfl, _⟩
  · exact ⟨_, _, rfl⟩
  · exact ⟨_, _, rfl⟩
theorem flatten_at : ∀ (css : List (List Value)) (i j : Nat), (∀ k, k < css.length → (css.getD k []).length = 7) → i < css.length → j < 7 → css.flatten[i * 7 + j]? = (css.getD i [])[j]?
  | [], i, j, _, hi, _ => by simp at hi
  | c :: css, 0, j, h, _, hj => by
    have h0 : c.length = 7 := by simpa using h 0 (by simp)
    rw [List.flatten_cons, List.getElem?_append_left (by omega)]
    simp
  | c :: css, i + 1, j, h, hi, hj => by
    have h0 : c.length = 7 := by simpa using h 0 (by simp)
    rw [List.flatten_cons, List.getElem?_append_right (by omega), show (i + 1) * 7 + j - c.length = i * 7 + j from by omega]
    rw [flatten_at css i j (fun k hk => by simpa using h (k + 1) (by simpa using hk)) (by simpa using hi) hj]
    simp
/-- One more. -/
theorem Copied.step {B f : Nat} {a : Arr} {b0 k : Nat} {v : Value} {wr w4 w5 : World} {css : List (List Value)} {cs : List Value} {v' : Value} (h : Copied B f a b0 k v wr css) (hw : b0 ≤ wr.heap.size) (h4 : Below wr.heap.size wr w4) (hl : cs.length = 7)
    (hn : HoldsO B w4 f (fun b => wr.heap.size ≤ b ∧ b < w4.heap.size) cs (kidAt a k)) (hown : w5.ownsRow b0 27 7 v' (k + 1) (css.flatten ++ cs)) (hgrow : w4.grownBy w5 v.ownBlock) {n5 : Nat} (hn5 : w4.heap.size ≤ n5) (hblk : v'.ownBlock = v.ownBlock ∨ v'.ownBlock = some n5) : Copied B f a b0 (k + 1) v' w5 (css ++ [cs]) := by
  have hb := fun b => h.own.lt b
  refine ⟨by simp [h.len], by simpa using hown, fun i hi => ?_⟩
  have hs4 := h4.size
  have hs5 := hgrow.size
  by_cases hik : i < k
  · obtain ⟨e1, e2⟩ := h.each i hik
    have e : (css ++ [cs]).getD i [] = css.getD i [] := by
      rw [List.getD_eq_getElem?_getD, List.getD_eq_getElem?_getD, List.getElem?_append_left (by rw [h.len]; exact hik)]
    rw [e]
    refine ⟨e1, e2.stays (fun b hb => ?_) (fun b hb => ⟨hb.1, by omega, ?_⟩)⟩
    · rw [hgrow.block b (by omega) (fun c => hb.2.2 c), h4.block b hb.2.1]
    · rcases hblk with c | c
      · rw [c]; exact hb.2.2
      · rw [c]
        intro c
        injection c with c
        omega
  · obtain rfl : i = k := by omega
    have e : (css ++ [cs]).getD i [] = cs := by
      rw [List.getD_eq_getElem?_getD, List.getElem?_append_right (by rw [h.len]; exact Nat.le_refl _), h.len]
      simp
    rw [e]
    refine ⟨hl, hn.stays (fun b hb' => ?_) (fun b hb' => ⟨by omega, by omega, ?_⟩)⟩
    · refine hgrow.block b hb'.2 (fun c => ?_)
      have := (hb b c.symm).2
      omega
    · rcases hblk with c | c
      · rw [c]
        intro c'
        have := (hb b c'.symm).2
        omega
      · rw [c]
        intro c
        injection c with c
        omega
/-- All of them: an array of one's own. -/
theorem Copied.done {B f : Nat} {a : Arr} {b0 : Nat} {o : Option Addr} {cap : Nat} {wr w5 : World} {css : List (List Value)} (h : Copied B f a b0 a.kids.length (.slice o a.kids.length cap) wr css) (ha : a.ok B) (hb : ∀ b, b0 ≤ b → b < wr.heap.size → w5.heap[b]? = wr.heap[b]?) : HoldsO B w5 (f + 1) (fun b => b0 ≤ b) (a.cells o cap) a := by
  rcases h.own.2 with ⟨e, e0⟩ | ⟨g, cap', cur, e, hg0, hg, hn, hm, hs, hx⟩
  · injection e with e1 e2 e3
    subst e1 e3
    have hk : a.kids = [] := List.length_eq_zero_iff.1 e0
    exact ⟨none, 0, rfl, ha, by rw [hk]; exact Nat.le_refl _, Nat.zero_le _, .inl ⟨rfl, hk, rfl⟩⟩
  · injection e with e1 e2 e3
    subst e1 e3
    have hlt : g < wr.heap.size := (Array.getElem?_eq_some_iff.1 hg).1
    refine ⟨_, _, rfl, ha, hn, hm, .inr ⟨g, cur, rfl, hg0, (hb g hg0 hlt).trans hg, hs, fun i hi => ?_⟩⟩
    obtain ⟨e1, e2⟩ := h.each i hi
    refine ⟨css.getD i [], e1, fun j hj => ?_, e2.stays (fun b hb' => hb b hb'.1 hb'.2.1) (fun b hb' => ⟨hb'.1, fun c => hb'.2.2 (by rw [c]; rfl)⟩)⟩
    rw [← flatten_at css i j (fun k hk => (h.each k (by rw [h.len] at hk; exact hk)).1) (by rw [h.len]; exact hi) hj, ← hx]
    rw [List.getElem?_take, if_pos (by omega)]
    simp
end Go.Proofs.YtcpfhfdgfcilaaaGreatDoor.Arr
namespace Go.Proofs.YtcpfhfdgfcilaaaGreatDoor.Arr
open Go.ChangeShapes Go.WideShapes Go.ChangeAt Go.RowKit
open Tree Val

theorem info27 : (Tryz.prog.info? 27).map (fun i => (i.zero, i.size, i.bytes)) = some (some (.agg #[.int .i64 0, .int .i64 0, .int .i64 0, .string ⟨#[]⟩, .string ⟨#[]⟩, .string ⟨#[]⟩, .slice none 0 0]), 7, 96) := by kernel_rfl
theorem ownsRow_grown {w w' : World} {base e size n : Nat} {v : Value} {xs : List Value} (h : w.ownsRow base e size v n xs) (hb : Below w.heap.size w w') : w'.ownsRow base e size v n xs := by
  refine ⟨h.1, h.2.imp id ?_⟩
  rintro ⟨g, cap, cur, e1, e2, e3, e4⟩
  exact ⟨g, cap, cur, e1, e2, (hb.block g (Array.getElem?_eq_some_iff.1 e3).1).trans e3, e4⟩
theorem grown_alloc {w w' : World} {o : Obj} {row : Option Nat} (h : (w.alloc o).grownBy w' row) : w.grownBy w' row := by
  have hb : Below w.heap.size w (w.alloc o) := (Below.refl _ _).alloc (Nat.le_refl _) _
  refine ⟨h.os.trans hb.os, h.tape.trans hb.tape, h.output.trans hb.output, Nat.le_trans hb.size h.size, fun k hk hne => ?_⟩
  exact (h.block k (Nat.lt_of_lt_of_le hk hb.size) hne).trans (hb.block k hk)
/-- A block's cells, one of them written. -/
theorem blk_set {w : World} {g : Nat} {cs : Array Value} {t : TypeId} {fz : Nat × Nat} (h : w.heap[g]? = some (.cells cs t fz)) (j : Nat) (u : Value) : (w.setCell ⟨g, j, none⟩ u).heap[g]? = some (.cells (cs.setIfInBounds j u) t fz) := by
  simp [World.setCell, Array.getElem?_modify, h]
/-- An array's box, written over. -/
theorem set7 {w : World} {g : Nat} {a0 : Arr} {o0 : Option Addr} {cap0 : Nat} (h : Bx w g a0 o0 cap0) (a : Arr) (o : Option Addr) (cap : Nat) :
    ∃ w', ((((((w.setCell ⟨g, 0, none⟩ (.int .i64 a.layout)).setCell ⟨g, 1, none⟩ (.int .i64 a.offset)).setCell ⟨g, 2, none⟩ (.int .i64 a.length)).setCell ⟨g, 3, none⟩ (.string a.valid)).setCell ⟨g, 4, none⟩ (.string a.ends)).setCell ⟨g, 5, none⟩ (.string a.data)).setCell ⟨g, 6, none⟩ (.slice o a.kids.length cap) = w' ∧
      Bx w' g a o cap ∧ (∀ b, b ≠ g → w'.heap[b]? = w.heap[b]?) ∧ (∀ B, B ≤ g → Below B w w') := by
  refine ⟨_, rfl, ⟨?_⟩, fun b hb => ?_, fun B hB => ?_⟩
  · rw [blk_set (blk_set (blk_set (blk_set (blk_set (blk_set (blk_set h.blk 0 _) 1 _) 2 _) 3 _) 4 _) 5 _) 6 _]
    rfl
  · have q := fun (w : World) (j : Nat) (u : Value) => Below.heap_setCell w ⟨g, j, none⟩ u b hb
    rw [q, q, q, q, q, q, q]
  · exact (((((((Below.refl _ _).setCell hB _).setCell hB _).setCell hB _).setCell hB _).setCell hB _).setCell hB _).setCell hB _
end Go.Proofs.YtcpfhfdgfcilaaaGreatDoor.Arr
namespace Go.Proofs.YtcpfhfdgfcilaaaGreatDoor.Sums
open Tree

def sumTo (g : Nat → Nat) : Nat → Nat
  | 0 => 0
  | k + 1 => sumTo g k + g k
theorem sumTo_le {g h : Nat → Nat} : ∀ k, (∀ j, j < k → g j ≤ h j) → sumTo g k ≤ sumTo h k
  | 0, _ => Nat.le_refl _
  | k + 1, hh => Nat.add_le_add (sumTo_le k fun j hj => hh j (by omega)) (hh k (by omega))
theorem sumTo_congr {g h : Nat → Nat} (k : Nat) (hh : ∀ j, j < k → g j = h j) : sumTo g k = sumTo h k :=
  Nat.le_antisymm (sumTo_le k fun j hj => Nat.le_of_eq (hh j hj)) (sumTo_le k fun j hj => Nat.le_of_eq (hh j hj).symm)
theorem sumTo_add (g h : Nat → Nat) : ∀ k, sumTo (fun j => g j + h j) k = sumTo g k + sumTo h k
  | 0 => rfl
  | k + 1 => by
    rw [sumTo, sumTo, sumTo, sumTo_add g h k]
    omega
theorem sumTo_mono (g : Nat → Nat) {k : Nat} : ∀ {m : Nat}, k ≤ m → sumTo g k ≤ sumTo g m := by
  intro m
  induction m with
  | zero =>
    intro h
    obtain rfl : k = 0 := by omega
    exact Nat.le_refl _
  | succ m ih =>
    intro h
    by_cases c : k = m + 1
    · rw [c]; exact Nat.le_refl _
    · exact Nat.le_trans (ih (by omega)) (Nat.le_add_right _ _)
theorem sumTo_term (g : Nat → Nat) {i k : Nat} (h : i < k) : g i ≤ sumTo g k := by
  have := sumTo_mono g (show i + 1 ≤ k from h)
  rw [sumTo] at this
  omega
theorem sumTo_zero : ∀ k, sumTo (fun _ => 0) k = 0
  | 0 => rfl
  | k + 1 => by rw [sumTo, sumTo_zero k]
theorem sumTo_const (c : Nat) : ∀ k, sumTo (fun _ => c) k = c * k
  | 0 => rfl
  | k + 1 => by rw [sumTo, sumTo_const c k, Nat.mul_succ]
theorem sumTo_single (i c : Nat) : ∀ k, i < k → sumTo (fun j => if j = i then c else 0) k = c
  | 0, h => absurd h (Nat.not_lt_zero _)
  | k + 1, h => by
    rw [sumTo]
    by_cases e : i = k
    · subst e
      rw [if_pos rfl, sumTo_congr (h := fun _ => 0) i (fun j hj => if_neg (by omega)), sumTo_zero]
      omega
    · rw [sumTo_single i c k (by omega), if_neg (by omega)]
      rfl
theorem sumTo_shift (g : Nat → Nat) (p : Nat) : ∀ k, sumTo (fun j => g (p + j)) k + sumTo g p = sumTo g (p + k)
  | 0 => by rw [sumTo, Nat.zero_add]; rfl
  | k + 1 => by
    have := sumTo_shift g p k
    rw [sumTo, show p + (k + 1) = (p + k) + 1 from rfl, sumTo]
    omega
/-- The lengths of texts one behind the other. -/
theorem length_flat (g : Nat → List UInt8) : ∀ k, ((List.range k).map g).flatten.length = sumTo (fun j => (g j).length) k
  | 0 => rfl
  | k + 1 => by
    rw [List.range_succ, List.map_append, List.flatten_append, List.length_append, length_flat g k]
    simp [sumTo]
/-- What hangs below a node: so much for each. -/
def hangF (c : Nat) (ns : List Nd) (i : Nat) (g : Nat → Nat) : Nat := c + sumTo (fun j => if 1 ≤ j ∧ (nd ns j).par = ((ns.length - 1 - i : Nat) : Int) then g (ns.length - 1 - j) else 0) ns.length
def hang (c : Nat) (ns : List Nd) (n : Nat) : Nat := row (hangF c ns) (ns.length - 1 - n)
theorem hang_eq {ns : List Nd} (h : May ns) (c : Nat) {n : Nat} (hn : n < ns.length) : hang c ns n = c + sumTo (fun j => if 1 ≤ j ∧ (nd ns j).par = (n : Int) then hang c ns j else 0) ns.length := by
  unfold hang
  rw [row_eq, hangF]
  congr 1
  refine sumTo_congr _ fun j hj => ?_
  rw [show ns.length - 1 - (ns.length - 1 - n) = n from by omega]
  by_cases e : 1 ≤ j ∧ (nd ns j).par = (n : Int)
  · rw [if_pos e, if_pos e]
    have := h.par j e.1 hj
    rw [tab_at _ _ _ (by omega)]
  · rw [if_neg e, if_neg e]
theorem sum_kids (ns : List Nd) (g : Nat → Nat) (a : Int) : ∀ k, ((kidsTo ns a k).map g).sum = sumTo (fun j => if 1 ≤ j ∧ (nd ns j).par = a then g j else 0) k
  | 0 => rfl
  | k + 1 => by
    rw [kidsTo, sumTo, ← sum_kids ns g a k]
    by_cases e : 1 ≤ k ∧ (nd ns k).par = a
    · rw [if_pos e, if_pos e, List.map_append, List.sum_append]
      simp
    · rw [if_neg e, if_neg e]
      rfl
theorem hang_kids {ns : List Nd} (h : May ns) (c : Nat) {n : Nat} (hn : n < ns.length) : hang c ns n = c + ((kids ns n).map (hang c ns)).sum := by
  rw [hang_eq h c hn]
  unfold kids
  rw [sum_kids]
/-- What hangs from i on, whose parent lies ahead of i. -/
def front (c : Nat) (ns : List Nd) (i : Nat) : Nat := sumTo (fun j => if i ≤ j ∧ (nd ns j).par < (i : Int) then hang c ns j else 0) ns.length
theorem May.before {ns : List Nd} (h : May ns) {i : Nat} (hi : i < ns.length) : (nd ns i).par < (i : Int) := by
  by_cases e : i = 0
  · subst e
    have := h.first
    omega
  · exact (h.par i (by omega) hi).2
theorem front_step {ns : List Nd} (h : May ns) (c : Nat) {i : Nat} (hi : i < ns.length) : front c ns i = front c ns (i + 1) + c := by
  have e : front c ns i + sumTo (fun j => if 1 ≤ j ∧ (nd ns j).par = (i : Int) then hang c ns j else 0) ns.length = front c ns (i + 1) + sumTo (fun j => if j = i then hang c ns i else 0) ns.length := by
    unfold front
    rw [← sumTo_add, ← sumTo_add]
    refine sumTo_congr _ fun j hj => ?_
    have hb := May.before h hj
    by_cases e1 : j = i
    · subst e1
      rw [if_pos ⟨Nat.le_refl _, hb⟩, if_neg (fun q => by omega), if_neg (fun q => by omega), if_pos rfl]
      omega
    · rw [if_neg e1]
      by_cases e2 : j < i
      · rw [if_neg (fun q => by omega), if_neg (fun q => by omega), if_neg (fun q => by omega)]
      · by_cases e3 : (nd ns j).par < (i : Int)
        · rw [if_pos ⟨by omega, e3⟩, if_neg (fun q => by omega), if_pos ⟨by omega, by omega⟩]
        · by_cases e4 : (nd ns j).par = (i : Int)
          · rw [if_neg (fun q => by omega), if_pos ⟨by omega, e4⟩, if_pos ⟨by omega, by omega⟩]
            omega
          · rw [if_neg (fun q => by omega), if_neg (fun q => by omega), if_neg (fun q => by omega)]
  rw [sumTo_single i (hang c ns i) ns.length hi, hang_eq h c hi] at e
  omega
theorem front_is {ns : List Nd} (h : May ns) (c : Nat) : ∀ k i, i + k = ns.length → front c ns i = c * k
  | 0, i, hk => by
    unfold front
    rw [sumTo_congr (h := fun _ => 0) ns.length (fun j hj => if_neg (fun q => by omega)), sumTo_zero]
    rfl
  | k + 1, i, hk => by
    rw [front_step h c (by omega), front_is h c k (i + 1) (by omega), Nat.mul_succ]
/-- So much hangs below a node, with it, at most. -/
theorem hang_le {ns : List Nd} (h : May ns) (c : Nat) {n : Nat} (hn : n < ns.length) : hang c ns n ≤ c * 8 := by
  have h1 : hang c ns n ≤ front c ns n := by
    have := sumTo_term (fun j => if n ≤ j ∧ (nd ns j).par < (n : Int) then hang c ns j else 0) hn
    rw [if_pos ⟨Nat.le_refl _, May.before h hn⟩] at this
    exact this
  rw [front_is h c (ns.length - n) n (by omega)] at h1
  have h8 := h.most
  exact Nat.le_trans h1 (Nat.mul_le_mul_left c (by omega))
end Go.Proofs.YtcpfhfdgfcilaaaGreatDoor.Sums
namespace Go.Proofs.YtcpfhfdgfcilaaaGreatDoor.Arr
open Tree Val Sums

theorem length_structM (vs : List (List UInt8)) : (structM vs).length = vs.flatten.length + 2 := by simp [structM]
theorem kinds {ns : List Nd} (h : May ns) {n : Nat} (hn : n < ns.length) : (nd ns n).kind = 0 ∨ (nd ns n).kind = 1 ∨ (nd ns n).kind = 2 ∨ (nd ns n).kind = 3 ∨ (nd ns n).kind = 4 := by
  have := h.kind n hn
  omega
theorem kAt_mem {ns : List Nd} {n i : Nat} (h : i < (kids ns n).length) : kAt ns n i ∈ kids ns n := by
  unfold kAt
  rw [List.getD_eq_getElem?_getD, List.getElem?_eq_getElem h]
  exact List.getElem_mem h
theorem kid_of {ns : List Nd} (hm : May ns) {n i : Nat} (h : i < (kids ns n).length) : n < kAt ns n i ∧ kAt ns n i < ns.length ∧ depth ns (kAt ns n i) = depth ns n + 1 := by
  have hk := hm.kid (kAt_mem h)
  refine ⟨hk.1, hk.2.1, ?_⟩
  rw [hm.depth_up (by omega) hk.2.1, hk.2.2, Int.toNat_natCast]
theorem sum_getD (g : Nat → Nat) : ∀ (ks : List Nat), (ks.map g).sum = sumTo (fun i => g (ks.getD i 0)) ks.length
  | [] => rfl
  | k :: ks => by
    have h := sumTo_shift (fun i => g ((k :: ks).getD i 0)) 1 ks.length
    rw [List.map_cons, List.sum_cons, sum_getD g ks, List.length_cons, Nat.add_comm ks.length 1, ← h]
    have e : sumTo (fun i => g ((k :: ks).getD i 0)) 1 = g k := by
      show 0 + g k = g k
      omega
    rw [e, Nat.add_comm]
    congr 1
    refine sumTo_congr _ fun j _ => ?_
    rw [Nat.add_comm 1 j]
    rfl
theorem sum_kAt (ns : List Nd) (n : Nat) (g : Nat → Nat) : ((kids ns n).map g).sum = sumTo (fun i => g (kAt ns n i)) (kids ns n).length := sum_getD g (kids ns n)
end Go.Proofs.YtcpfhfdgfcilaaaGreatDoor.Arr
namespace Go.Proofs.YtcpfhfdgfcilaaaGreatDoor.Val

/-- A loop that lays digits ahead of others: what is still to come, and what stands there. -/
def DigAt (n size : Nat) (out : List UInt8) : Prop := (out = [] ∧ size = n) ∨ (out ≠ [] ∧ size = 0 ∧ out = dig n) ∨ (out ≠ [] ∧ 0 < size ∧ size ≤ n ∧ dig size ++ out = dig n)
theorem DigAt.start (n : Nat) : DigAt n n [] := .inl ⟨rfl, rfl⟩
theorem DigAt.step {n size : Nat} {out : List UInt8} (hn : n < 10 ^ 20) (h : DigAt n size out) (hs : 0 < size ∨ out = []) : DigAt n (size / 10) (UInt8.ofNat (48 + size % 10) :: out) := by
  have key : dig size ++ out = dig n ∧ size ≤ n := by
    rcases h with ⟨rfl, rfl⟩ | ⟨h1, h2, _⟩ | ⟨_, _, h3, h4⟩
    · exact ⟨List.append_nil _, Nat.le_refl _⟩
    · rcases hs with c | c
      · omega
      · exact absurd c h1
    · exact ⟨h4, h3⟩
  obtain ⟨k1, k2⟩ := key
  by_cases c : size < 10
  · refine .inr (.inl ⟨List.cons_ne_nil _ _, by omega, ?_⟩)
    rw [← k1, dig_low size c, Nat.mod_eq_of_lt c]
    rfl
  · refine .inr (.inr ⟨List.cons_ne_nil _ _, by omega, by omega, ?_⟩)
    rw [← k1, dig_high size (by omega) (by omega), List.append_assoc]
    rfl
theorem DigAt.stop {n size : Nat} {out : List UInt8} (h : DigAt n size out) (hs : ¬ (0 < size ∨ out = [])) : out = dig n := by
  rcases h with ⟨h1, _⟩ | ⟨_, _, h⟩ | ⟨_, h2, _⟩
  · exact absurd (.inr h1) hs
  · exact h
  · exact absurd (.inl h2) hs
theorem DigAt.length {n size : Nat} {out : List UInt8} (h : DigAt n size out) : out.length ≤ 20 := by
  have hl := length_dig n
  rcases h with ⟨rfl, _⟩ | ⟨_, _, rfl⟩ | ⟨_, _, _, h4⟩
  · exact Nat.zero_le _
  · exact hl
  · rw [← h4, List.length_append] at hl
    omega
/-- What is read of digits, up to a place, with its sign. -/
theorem evalN_take_succ (l : List UInt8) (k : Nat) (h : k < l.length) : evalN (l.take (k + 1)) = 10 * evalN (l.take k) + (((l.getD k 0).toNat : Int) - 48) := by
  rw [List.take_succ_eq_append_getElem h, evalN_snoc, List.getD_eq_getElem?_getD, List.getElem?_eq_getElem h]
  rfl
/-- Numbers that differ by a multiple of two to the sixty-fourth, within 64 bits, are one. -/
theorem same64 {x y : Int} (hx : in64 x) (hy : in64 y) (h : (x - y) % 18446744073709551616 = 0) : x = y := by
  unfold in64 at *
  omega
/-- A number read round the corner is the text's just if its digits are the text. -/
theorem read_iff {l : List UInt8} {x : Int} (hx : in64 x) (h : (x - evalZ l) % 18446744073709551616 = 0) : (numOf l = some x ∧ intD x = l) ∨ (numOf l = none ∧ intD x ≠ l) := by
  by_cases c : intD x = l
  · exact .inl ⟨numOf_some.2 ⟨hx, c⟩, c⟩
  · refine .inr ⟨?_, c⟩
    cases e : numOf l with
    | none => rfl
    | some y =>
      exfalso
      obtain ⟨hy, e2⟩ := numOf_some.1 e
      have e3 := evalZ_intD y hy
      rw [e2] at e3
      rw [e3] at h
      have := same64 hx hy h
      rw [this] at c
      exact c e2
/-- A sign that is none: no number. -/
theorem bad_sign {l : List UInt8} {i : Nat} (hi : i < l.length) (hb : (l.getD i 0).toNat < 48 ∨ 57 < (l.getD i 0).toNat) (h0 : ¬ (i = 0 ∧ l.getD 0 0 = 45)) : numOf l = none := by
  rw [numOf_none]
  intro x hx e
  have hm : l.getD i 0 ∈ l := by
    rw [List.getD_eq_getElem?_getD, List.getElem?_eq_getElem hi]
    exact List.getElem_mem hi
  unfold intD at e
  split at e
  · have := dig_digit x.toNat (l.getD i 0) (by rw [e]; exact hm)
    omega
  · subst e
    cases i with
    | zero => exact h0 ⟨rfl, rfl⟩
    | succ i =>
      have hi' : i < (dig (-x).toNat).length := by simpa using hi
      have := dig_digit (-x).toNat ((dig (-x).toNat).getD i 0) (by
        rw [List.getD_eq_getElem?_getD, List.getElem?_eq_getElem hi']
        exact List.getElem_mem hi')
      rw [List.getD_cons_succ] at hb
      omega
theorem too_long {l : List UInt8} (h : 21 ≤ l.length) : numOf l = none := by
  cases e : numOf l with
  | none => rfl
  | some x =>
    have := numOf_length e
    omega
/-- Digits with a sign ahead, and without. -/
theorem evalZ_sign {l : List UInt8} (h : l.getD 0 0 = 45) (hl : 0 < l.length) : evalZ l = - evalN (l.drop 1) := by
  unfold evalZ
  cases l with
  | nil => cases hl
  | cons b r =>
    have e : b = 45 := h
    rw [e, if_pos (show ((45 : UInt8) :: r).head? = some 45 from rfl)]
    rfl
theorem evalZ_plain {l : List UInt8} (h : l.getD 0 0 ≠ 45) : evalZ l = evalN l := by
  unfold evalZ
  cases l with
  | nil => rfl
  | cons b r => rw [if_neg (fun c => h (by simpa using c))]
end Go.Proofs.YtcpfhfdgfcilaaaGreatDoor.Val
namespace Go.Proofs.YtcpfhfdgfcilaaaGreatDoor.Texts
open Go.ChangeShapes Go.WideShapes Go.ChangeAt Go.RowKit

/-- The texts lie so, a cell each, from a on. -/
def LiesT (w : World) (a : Addr) (ss : List ByteArray) : Prop := ∀ i, i < ss.length → w.cell? (a.add i) = some (.string (ss.getD i ByteArray.empty))
/-- A list of texts that came in: nil, or a row of 'cap' texts, 'len' of them its own. -/
def IsTexts (w : World) (a : Option Addr) (len cap : Nat) (ss : List ByteArray) : Prop :=
  (a = none ∧ len = 0 ∧ cap = 0 ∧ ss = []) ∨
  ∃ x, a = some x ∧ len ≤ cap ∧ cap ≤ maxLen ∧ ss.length = cap ∧ LiesT w x ss ∧ ∀ s ∈ ss, s.size ≤ maxLen

section
variable {H : Type} {enc : TypeId × Value → H} {P : Program} {w : World} {base : Nat} {held : Bool}

theorem open_texts {r : Reach} {b0 : Nat} {t e : TypeId} {v : Value} {d : DataW H} {ps : List MemPlace} (ht : P.underlying t = some (.slice e)) (he : P.underlying e = some .string) (ce : P.cellsOf e = 1)
    (hval : Value.okWide P w r b0 t v) (hd : DataW.Trod enc P w base (fun _ => true) held t v d ps) :
    ∃ a len cap ss, v = .slice a len cap ∧ IsTexts w a len cap ss ∧ (d = .nil ∧ cap = 0 ∨ d = .slice (strs (ss.take len)) (strs (ss.drop len)) ∧ ss.length = cap) := by
  obtain ⟨a, len, cap, rfl⟩ := okWide_slice ht hval
  obtain ⟨fuel, hf⟩ := hd
  rcases open_strings ht he ce hf with ⟨hcs, hx⟩ | ⟨x, len', cap', ss, hcs, _, hl, hm, hz, hx, hcell, hws⟩
  · have hcs' : [Value.slice a len cap] = [.slice none 0 0] := hcs
    injection hcs' with hcs' _
    injection hcs' with h1 h2 h3
    subst h1 h2 h3
    exact ⟨none, 0, 0, [], rfl, .inl ⟨rfl, rfl, rfl, rfl⟩, .inl ⟨(Prod.mk.inj hx).1, rfl⟩⟩
  · have hcs' : [Value.slice a len cap] = [.slice (some x) len' cap'] := hcs
    injection hcs' with hcs' _
    injection hcs' with h1 h2 h3
    subst h1 h2 h3
    rw [if_pos rfl] at hz
    exact ⟨some x, len, cap, ss, rfl, .inr ⟨x, rfl, hl, hm, hz, hcell, hws⟩, .inr ⟨(Prod.mk.inj hx).1, hz⟩⟩
theorem sized_texts {ts : List TypeId} {ds : List (DataW H)} (h : (DataW.weightsEach P ts ds).all (· ≤ reachBytes) = true) {j t e : Nat} {len cap : Nat} {ss : List ByteArray} {d : DataW H} (hj : ts[j]? = some t) (hd : ds[j]? = some d) (ht : P.underlying t = some (.slice e))
    (hy : d = .nil ∧ cap = 0 ∨ d = .slice (strs (ss.take len)) (strs (ss.drop len)) ∧ ss.length = cap) : cap * P.bytesOf e ≤ reachBytes := by
  rcases hy with ⟨_, rfl⟩ | ⟨rfl, hc⟩
  · simp
  · have := sized_slice h hj hd ht
    simp only [strs, List.length_map, List.length_take, List.length_drop] at this
    rw [show min len ss.length + (ss.length - len) = cap from by omega] at this
    exact this
end
/-- A list of texts, as a walk meets it. -/
def IsTx (w : World) (o : Option Addr) (ss : List ByteArray) : Prop := ss.length ≤ maxLen ∧ (ss = [] ∨ ∃ x, o = some x ∧ LiesT w x ss)
theorem IsTx.later {w w' : World} {o : Option Addr} {ss : List ByteArray} (h : IsTx w o ss) (hb : Below w.heap.size w w') : IsTx w' o ss :=
  ⟨h.1, h.2.imp id fun ⟨x, e, hl⟩ => ⟨x, e, fun i hi => (hb.cell (World.block_lt_of_cell? _ _ (hl i hi))).trans (hl i hi)⟩⟩
theorem getD_takeT (z : List ByteArray) (n i : Nat) (h : i < n) : (z.take n).getD i ByteArray.empty = z.getD i ByteArray.empty := by
  rw [List.getD_eq_getElem?_getD, List.getElem?_take, if_pos h, ← List.getD_eq_getElem?_getD]
/-- What came in, its own texts alone. -/
theorem isTx_of {w : World} {a : Option Addr} {len cap : Nat} {z : List ByteArray} (h : IsTexts w a len cap z) : ∃ ss : List ByteArray, len = ss.length ∧ ss = z.take len ∧ IsTx w a ss ∧ ss.length ≤ cap ∧ ∀ s ∈ ss, s.size ≤ maxLen := by
  rcases h with ⟨rfl, rfl, rfl, rfl⟩ | ⟨x, rfl, h1, h2, h3, h4, h5⟩
  · exact ⟨[], rfl, rfl, ⟨Nat.zero_le _, .inl rfl⟩, Nat.le_refl _, fun s hs => by cases hs⟩
  · have hl : (z.take len).length = len := by rw [List.length_take, h3, Nat.min_eq_left h1]
    refine ⟨z.take len, hl.symm, rfl, ⟨by omega, .inr ⟨x, rfl, fun i hi => ?_⟩⟩, by omega, fun s hs => h5 s (List.mem_of_mem_take hs)⟩
    rw [hl] at hi
    rw [getD_takeT z len i hi]
    exact h4 i (by omega)
/-- Texts as cells. -/
def cellsT (ss : List ByteArray) : List Value := ss.map Value.string
theorem cellsT_snoc (ss : List ByteArray) (s : ByteArray) : cellsT (ss ++ [s]) = cellsT ss ++ [.string s] := by simp [cellsT]
theorem cellsT_at (ss : List ByteArray) (i : Nat) (h : i < ss.length) : (cellsT ss)[i]? = some (.string (ss.getD i ByteArray.empty)) := by
  unfold cellsT
  rw [List.getElem?_map, List.getElem?_eq_getElem h, List.getD_eq_getElem?_getD, List.getElem?_eq_getElem h]
  rfl
/-- A row of one's own. -/
theorem own_texts {w : World} {b c : Nat} {T : TypeId} {o : Option Addr} {ss : List ByteArray} (h : w.ownsRow b T 1 (.slice o ss.length c) ss.length (cellsT ss)) : IsTx w o ss := by
  rcases h.2 with ⟨h0, h1⟩ | ⟨g, cap, cur, h0, _, _, hle, hm, _⟩
  · exact ⟨by rw [h1]; exact Nat.zero_le _, .inl (List.eq_nil_of_length_eq_zero h1)⟩
  · refine ⟨by omega, .inr ⟨⟨g, 0, none⟩, by injection h0, fun i hi => ?_⟩⟩
    injection h0 with h2 h3 h4
    subst h2 h4
    exact h.cells rfl _ _ (cellsT_at ss i hi)
end Go.Proofs.YtcpfhfdgfcilaaaGreatDoor.Texts
namespace Go.Proofs
open Go.Shelf
def Tryz.lays169_ren : Go.Shelf.Ren := ⟨fun | 169 => 165 | n => n, fun | 70 => 170 | 9 => 9 | 0 => 0 | 72 => 172 | 37 => 42 | 127 => 209 | 3 => 3 | 5 => 5 | n => n, fun | n => n⟩
theorem Tryz.lays169 : Go.Proofs.Lays.n169 Tryz.prog Tryz.lays169_ren := {
  mixed := by kernel_rfl
  f169 := Tryz.func165.trans (congrArg some (by kernel_rfl))
  t0 := Tryz.underlying0
  a0 := Tryz.isAgg0
  z0 := Tryz.sizeOf0
  v0 := Tryz.zeroValue0
  t3 := Tryz.underlying3
  a3 := Tryz.isAgg3
  z3 := Tryz.sizeOf3
  v3 := Tryz.zeroValue3
  t9 := Tryz.underlying9
  a9 := Tryz.isAgg9
  z9 := Tryz.sizeOf9
  v9 := Tryz.zeroValue9
  t37 := Tryz.underlying42
  a37 := Tryz.isAgg42
  z37 := Tryz.sizeOf42
  v37 := Tryz.zeroValue42
  t70 := Tryz.underlying170
  a70 := Tryz.isAgg170
  z70 := Tryz.sizeOf170
  v70 := Tryz.zeroValue170
  t72 := Tryz.underlying172
  a72 := Tryz.isAgg172
  z72 := Tryz.sizeOf172
  v72 := Tryz.zeroValue172
  t127 := Tryz.underlying209
  a127 := Tryz.isAgg209
  z127 := Tryz.sizeOf209
  v127 := Tryz.zeroValue209 }
theorem Tryz.Builder_Extra_169 : Builder.Extra Tryz.prog Tryz.lays169_ren := {
  sizeBuilder := by kernel_rfl
  liesBuilder := by kernel_rfl
  t5 := Tryz.underlying5
  a5 := Tryz.isAgg5
  z5 := Tryz.sizeOf5
  v5 := Tryz.zeroValue5
  infoByte := by kernel_rfl
  cellsByte := by kernel_rfl
  sizeByte := by kernel_rfl
  neB5 := by decide }
open Go.RowKit in
theorem Tryz.Builder_String_any (B b : Nat) (l : List UInt8) (w : World) (h : Lib.IsBuilder 172 5 B b (Lib.byteCells l) w) (hBw : B ≤ w.heap.size) :
    Calls Tryz.prog 165 #[.pointer (some ⟨b, 0, none⟩)] w fun e w' => e = .returned (.string ⟨l.toArray⟩) ∧ Below B w w' := Any.Builder_String_any Tryz.lays169 Tryz.Builder_Extra_169 B b l w h hBw
def Tryz.lays156_ren : Go.Shelf.Ren := ⟨fun | 156 => 105 | 165 => 163 | 166 => 164 | 169 => 165 | 240 => 204 | 241 => 205 | 276 => 232 | 277 => 233 | n => n, fun | 31 => 29 | 9 => 9 | 3 => 3 | 4 => 4 | 0 => 0 | 20 => 20 | 72 => 172 | 76 => 166 | 70 => 170 | 37 => 42 | 75 => 165 | 127 => 209 | 164 => 232 | 5 => 5 | 80 => 101 | n => n, fun | n => n⟩
theorem Tryz.lays156 : Go.Proofs.Lays.n156 Tryz.prog Tryz.lays156_ren := {
  mixed := by kernel_rfl
  f156 := Tryz.func105.trans (congrArg some (by kernel_rfl))
  f165 := Tryz.func163.trans (congrArg some (by kernel_rfl))
  f166 := Tryz.func164.trans (congrArg some (by kernel_rfl))
  f169 := Tryz.func165.trans (congrArg some (by kernel_rfl))
  f240 := Tryz.func204.trans (congrArg some (by kernel_rfl))
  f241 := Tryz.func205.trans (congrArg some (by kernel_rfl))
  f276 := Tryz.func232.trans (congrArg some (by kernel_rfl))
  f277 := Tryz.func233.trans (congrArg some (by kernel_rfl))
  t0 := Tryz.underlying0
  a0 := Tryz.isAgg0
  z0 := Tryz.sizeOf0
  v0 := Tryz.zeroValue0
  t3 := Tryz.underlying3
  a3 := Tryz.isAgg3
  z3 := Tryz.sizeOf3
  v3 := Tryz.zeroValue3
  t4 := Tryz.underlying4
  a4 := Tryz.isAgg4
  z4 := Tryz.sizeOf4
  v4 := Tryz.zeroValue4
  t9 := Tryz.underlying9
  a9 := Tryz.isAgg9
  z9 := Tryz.sizeOf9
  v9 := Tryz.zeroValue9
  t20 := Tryz.underlying20
  a20 := Tryz.isAgg20
  z20 := Tryz.sizeOf20
  v20 := Tryz.zeroValue20
  t31 := Tryz.underlying29
  a31 := Tryz.isAgg29
  z31 := Tryz.sizeOf29
  v31 := Tryz.zeroValue29
  t37 := Tryz.underlying42
  a37 := Tryz.isAgg42
  z37 := Tryz.sizeOf42
  v37 := Tryz.zeroValue42
  t70 := Tryz.underlying170
  a70 := Tryz.isAgg170
  z70 := Tryz.sizeOf170
  v70 := Tryz.zeroValue170
  t72 := Tryz.underlying172
  a72 := Tryz.isAgg172
  z72 := Tryz.sizeOf172
  v72 := Tryz.zeroValue172
  t75 := Tryz.underlying165
  a75 := Tryz.isAgg165
  z75 := Tryz.sizeOf165
  v75 := Tryz.zeroValue165
  t76 := Tryz.underlying166
  a76 := Tryz.isAgg166
  z76 := Tryz.sizeOf166
  v76 := Tryz.zeroValue166
  t127 := Tryz.underlying209
  a127 := Tryz.isAgg209
  z127 := Tryz.sizeOf209
  v127 := Tryz.zeroValue209
  t164 := Tryz.underlying232
  a164 := Tryz.isAgg232
  z164 := Tryz.sizeOf232
  v164 := Tryz.zeroValue232 }
theorem Tryz.Builder_Extra_156 : Builder.Extra Tryz.prog Tryz.lays156_ren := {
  sizeBuilder := by kernel_rfl
  liesBuilder := by kernel_rfl
  t5 := Tryz.underlying5
  a5 := Tryz.isAgg5
  z5 := Tryz.sizeOf5
  v5 := Tryz.zeroValue5
  infoByte := by kernel_rfl
  cellsByte := by kernel_rfl
  sizeByte := by kernel_rfl
  neB5 := by decide }
open Go.RowKit in
theorem Tryz.strings_Join_none (a : Option Addr) (c : Nat) (sep : ByteArray) (w : World) :
    Calls Tryz.prog 105 #[.slice a 0 c, .string sep] w fun e w' => e = .returned (.string ⟨#[]⟩) ∧ w' = w := Any.strings_Join_none Tryz.lays156 Tryz.Builder_Extra_156 a c sep w
open Go.RowKit in
theorem Tryz.strings_Join (bk o c : Nat) (xs : List ByteArray) (sep : ByteArray) (w : World) (hcells : ∀ (j : Nat) x, xs[j]? = some x → w.cell? ⟨bk, o + j, none⟩ = some (.string x)) (hbk : bk < w.heap.size) (hN : xs.length ≤ 140737488355328) (hcap : xs.length ≤ c) (hlen : (Lib.join (xs.map (·.data.toList)) sep.data.toList).length ≤ 140737488355328) :
    Calls Tryz.prog 105 #[.slice (some ⟨bk, o, none⟩) xs.length c, .string sep] w fun e w' => e = .returned (.string ⟨(Lib.join (xs.map (·.data.toList)) sep.data.toList).toArray⟩) ∧ Below w.heap.size w w' := Any.strings_Join Tryz.lays156 Tryz.Builder_Extra_156 bk o c xs sep w hcells hbk hN hcap hlen
def Tryz.lays137_ren : Go.Shelf.Ren := ⟨fun | 137 => 256 | 217 => 261 | 266 => 262 | n => n, fun | 9 => 9 | 5 => 5 | 3 => 3 | n => n, fun | n => n⟩
theorem Tryz.lays137 : Go.Proofs.Lays.n137 Tryz.prog Tryz.lays137_ren := {
  mixed := by kernel_rfl
  f137 := Tryz.func256.trans (congrArg some (by kernel_rfl))
  f217 := Tryz.func261.trans (congrArg some (by kernel_rfl))
  f266 := Tryz.func262.trans (congrArg some (by kernel_rfl))
  t3 := Tryz.underlying3
  a3 := Tryz.isAgg3
  z3 := Tryz.sizeOf3
  v3 := Tryz.zeroValue3
  t5 := Tryz.underlying5
  a5 := Tryz.isAgg5
  z5 := Tryz.sizeOf5
  v5 := Tryz.zeroValue5
  t9 := Tryz.underlying9
  a9 := Tryz.isAgg9
  z9 := Tryz.sizeOf9
  v9 := Tryz.zeroValue9 }
open Go.RowKit in
theorem Tryz.strings_IndexByte (s : ByteArray) (c : Int) (w : World) :
    Calls Tryz.prog 256 #[.string s, .int .u8 c] w fun e w' => e = .returned (.int .i64 (Lib.indexByte s.data.toList c.toNat.toUInt8)) ∧ w' = w := Any.strings_IndexByte Tryz.lays137 s c w
def Tryz.laysM171_ren : Go.Shelf.Ren := ⟨fun | 171 => 180 | 243 => 214 | 246 => 236 | 283 => 243 | 284 => 244 | 285 => 245 | 286 => 246 | 129 => 252 | 317 => 251 | 318 => 253 | 319 => 254 | 320 => 255 | 337 => 259 | 338 => 260 | n => n, fun | 3 => 3 | 9 => 9 | 2 => 2 | 4 => 4 | 171 => 244 | 0 => 0 | 53 => 152 | 37 => 42 | 5 => 5 | 173 => 247 | 212 => 257 | 51 => 227 | 20 => 20 | 213 => 258 | 46 => 43 | 232 => 262 | 233 => 263 | n => n, fun | 17 => 3 | 18 => 4 | 19 => 5 | n => n⟩
theorem Tryz.laysM171 : Go.Proofs.LaysM.n171 Tryz.prog Tryz.laysM171_ren := {
  mixed := by kernel_rfl
  f129 := Tryz.func252.trans (congrArg some (by kernel_rfl))
  f171 := Tryz.func180.trans (congrArg some (by kernel_rfl))
  f243 := Tryz.func214.trans (congrArg some (by kernel_rfl))
  f246 := Tryz.func236.trans (congrArg some (by kernel_rfl))
  f283 := Tryz.func243.trans (congrArg some (by kernel_rfl))
  f284 := Tryz.func244.trans (congrArg some (by kernel_rfl))
  f285 := Tryz.func245.trans (congrArg some (by kernel_rfl))
  f286 := Tryz.func246.trans (congrArg some (by kernel_rfl))
  f317 := Tryz.func251.trans (congrArg some (by kernel_rfl))
  f318 := Tryz.func253.trans (congrArg some (by kernel_rfl))
  f319 := Tryz.func254.trans (congrArg some (by kernel_rfl))
  f320 := Tryz.func255.trans (congrArg some (by kernel_rfl))
  f337 := Tryz.func259.trans (congrArg some (by kernel_rfl))
  f338 := Tryz.func260.trans (congrArg some (by kernel_rfl))
  t0 := Tryz.underlying0
  a0 := Tryz.isAgg0
  z0 := Tryz.sizeOf0
  v0 := Tryz.zeroValue0
  t2 := Tryz.underlying2
  a2 := Tryz.isAgg2
  z2 := Tryz.sizeOf2
  v2 := Tryz.zeroValue2
  t3 := Tryz.underlying3
  a3 := Tryz.isAgg3
  z3 := Tryz.sizeOf3
  v3 := Tryz.zeroValue3
  t4 := Tryz.underlying4
  a4 := Tryz.isAgg4
  z4 := Tryz.sizeOf4
  v4 := Tryz.zeroValue4
  t5 := Tryz.underlying5
  a5 := Tryz.isAgg5
  z5 := Tryz.sizeOf5
  v5 := Tryz.zeroValue5
  t9 := Tryz.underlying9
  a9 := Tryz.isAgg9
  z9 := Tryz.sizeOf9
  v9 := Tryz.zeroValue9
  t20 := Tryz.underlying20
  a20 := Tryz.isAgg20
  z20 := Tryz.sizeOf20
  v20 := Tryz.zeroValue20
  t37 := Tryz.underlying42
  a37 := Tryz.isAgg42
  z37 := Tryz.sizeOf42
  v37 := Tryz.zeroValue42
  t46 := Tryz.underlying43
  a46 := Tryz.isAgg43
  z46 := Tryz.sizeOf43
  v46 := Tryz.zeroValue43
  t51 := Tryz.underlying227
  a51 := Tryz.isAgg227
  z51 := Tryz.sizeOf227
  v51 := Tryz.zeroValue227
  t53 := Tryz.underlying152
  a53 := Tryz.isAgg152
  z53 := Tryz.sizeOf152
  v53 := Tryz.zeroValue152
  t171 := Tryz.underlying244
  a171 := Tryz.isAgg244
  z171 := Tryz.sizeOf244
  v171 := Tryz.zeroValue244
  t173 := Tryz.underlying247
  a173 := Tryz.isAgg247
  z173 := Tryz.sizeOf247
  v173 := Tryz.zeroValue247
  t212 := Tryz.underlying257
  a212 := Tryz.isAgg257
  z212 := Tryz.sizeOf257
  v212 := Tryz.zeroValue257
  t213 := Tryz.underlying258
  a213 := Tryz.isAgg258
  z213 := Tryz.sizeOf258
  t232 := Tryz.underlying262
  a232 := Tryz.isAgg262
  z232 := Tryz.sizeOf262
  v232 := Tryz.zeroValue262
  t233 := Tryz.underlying263
  a233 := Tryz.isAgg263
  z233 := Tryz.sizeOf263
  v233 := Tryz.zeroValue263
  g17 := by kernel_rfl
  g18 := by kernel_rfl
  g19 := by kernel_rfl
  i0 := by kernel_rfl
  i2 := by kernel_rfl
  i3 := by kernel_rfl
  i4 := by kernel_rfl
  i5 := by kernel_rfl
  i9 := by kernel_rfl
  i20 := by kernel_rfl
  i37 := by kernel_rfl
  i46 := by kernel_rfl
  i51 := by kernel_rfl
  i53 := by kernel_rfl
  i171 := by kernel_rfl
  i173 := by kernel_rfl
  i212 := by kernel_rfl
  i232 := by kernel_rfl
  i233 := by kernel_rfl
  m17 := by kernel_rfl
  m18 := by kernel_rfl
  m19 := by kernel_rfl }
open Go.RowKit Go.Sort Go.Lib in
theorem Tryz.strconv_Itoa (n : Int) (h0 : -9223372036854775808 ≤ n) (h1 : n ≤ 9223372036854775807) (w : World) (htab : Lib.TabIs Tryz.prog w "internal/strconv.uint64pow10" .u64 Lib.pow10Tab) :
    Calls Tryz.prog 180 #[.int .i64 n] w fun e w' => e = .returned (.string ⟨(Lib.itoa n).toArray⟩) ∧ ∃ k os, w' = grow (w.drewN k) os := Any.strconv_Itoa Tryz.laysM171 n h0 h1 w htab
def Tryz.laysM173_ren : Go.Shelf.Ren := ⟨fun | 173 => 258 | 246 => 236 | 283 => 243 | 284 => 244 | 285 => 245 | 286 => 246 | 129 => 252 | 317 => 251 | 318 => 253 | 319 => 254 | 320 => 255 | 337 => 259 | 338 => 260 | n => n, fun | 2 => 2 | 3 => 3 | 9 => 9 | 4 => 4 | 171 => 244 | 0 => 0 | 53 => 152 | 37 => 42 | 5 => 5 | 173 => 247 | 212 => 257 | 51 => 227 | 20 => 20 | 213 => 258 | 46 => 43 | 232 => 262 | 233 => 263 | n => n, fun | 17 => 3 | 18 => 4 | 19 => 5 | n => n⟩
theorem Tryz.laysM173 : Go.Proofs.LaysM.n173 Tryz.prog Tryz.laysM173_ren := {
  mixed := by kernel_rfl
  f129 := Tryz.func252.trans (congrArg some (by kernel_rfl))
  f173 := Tryz.func258.trans (congrArg some (by kernel_rfl))
  f246 := Tryz.func236.trans (congrArg some (by kernel_rfl))
  f283 := Tryz.func243.trans (congrArg some (by kernel_rfl))
  f284 := Tryz.func244.trans (congrArg some (by kernel_rfl))
  f285 := Tryz.func245.trans (congrArg some (by kernel_rfl))
  f286 := Tryz.func246.trans (congrArg some (by kernel_rfl))
  f317 := Tryz.func251.trans (congrArg some (by kernel_rfl))
  f318 := Tryz.func253.trans (congrArg some (by kernel_rfl))
  f319 := Tryz.func254.trans (congrArg some (by kernel_rfl))
  f320 := Tryz.func255.trans (congrArg some (by kernel_rfl))
  f337 := Tryz.func259.trans (congrArg some (by kernel_rfl))
  f338 := Tryz.func260.trans (congrArg some (by kernel_rfl))
  t0 := Tryz.underlying0
  a0 := Tryz.isAgg0
  z0 := Tryz.sizeOf0
  v0 := Tryz.zeroValue0
  t2 := Tryz.underlying2
  a2 := Tryz.isAgg2
  z2 := Tryz.sizeOf2
  v2 := Tryz.zeroValue2
  t3 := Tryz.underlying3
  a3 := Tryz.isAgg3
  z3 := Tryz.sizeOf3
  v3 := Tryz.zeroValue3
  t4 := Tryz.underlying4
  a4 := Tryz.isAgg4
  z4 := Tryz.sizeOf4
  v4 := Tryz.zeroValue4
  t5 := Tryz.underlying5
  a5 := Tryz.isAgg5
  z5 := Tryz.sizeOf5
  v5 := Tryz.zeroValue5
  t9 := Tryz.underlying9
  a9 := Tryz.isAgg9
  z9 := Tryz.sizeOf9
  v9 := Tryz.zeroValue9
  t20 := Tryz.underlying20
  a20 := Tryz.isAgg20
  z20 := Tryz.sizeOf20
  v20 := Tryz.zeroValue20
  t37 := Tryz.underlying42
  a37 := Tryz.isAgg42
  z37 := Tryz.sizeOf42
  v37 := Tryz.zeroValue42
  t46 := Tryz.underlying43
  a46 := Tryz.isAgg43
  z46 := Tryz.sizeOf43
  v46 := Tryz.zeroValue43
  t51 := Tryz.underlying227
  a51 := Tryz.isAgg227
  z51 := Tryz.sizeOf227
  v51 := Tryz.zeroValue227
  t53 := Tryz.underlying152
  a53 := Tryz.isAgg152
  z53 := Tryz.sizeOf152
  v53 := Tryz.zeroValue152
  t171 := Tryz.underlying244
  a171 := Tryz.isAgg244
  z171 := Tryz.sizeOf244
  v171 := Tryz.zeroValue244
  t173 := Tryz.underlying247
  a173 := Tryz.isAgg247
  z173 := Tryz.sizeOf247
  v173 := Tryz.zeroValue247
  t212 := Tryz.underlying257
  a212 := Tryz.isAgg257
  z212 := Tryz.sizeOf257
  v212 := Tryz.zeroValue257
  t213 := Tryz.underlying258
  a213 := Tryz.isAgg258
  z213 := Tryz.sizeOf258
  t232 := Tryz.underlying262
  a232 := Tryz.isAgg262
  z232 := Tryz.sizeOf262
  v232 := Tryz.zeroValue262
  t233 := Tryz.underlying263
  a233 := Tryz.isAgg263
  z233 := Tryz.sizeOf263
  v233 := Tryz.zeroValue263
  g17 := by kernel_rfl
  g18 := by kernel_rfl
  g19 := by kernel_rfl
  i0 := by kernel_rfl
  i2 := by kernel_rfl
  i3 := by kernel_rfl
  i4 := by kernel_rfl
  i5 := by kernel_rfl
  i9 := by kernel_rfl
  i20 := by kernel_rfl
  i37 := by kernel_rfl
  i46 := by kernel_rfl
  i51 := by kernel_rfl
  i53 := by kernel_rfl
  i171 := by kernel_rfl
  i173 := by kernel_rfl
  i212 := by kernel_rfl
  i232 := by kernel_rfl
  i233 := by kernel_rfl
  m17 := by kernel_rfl
  m18 := by kernel_rfl
  m19 := by kernel_rfl }
open Go.RowKit Go.Sort Go.Lib in
theorem Tryz.strconv_FormatInt_10 (n : Int) (h0 : -9223372036854775808 ≤ n) (h1 : n ≤ 9223372036854775807) (w : World) (htab : Lib.TabIs Tryz.prog w "internal/strconv.uint64pow10" .u64 Lib.pow10Tab) :
    Calls Tryz.prog 258 #[.int .i64 n, .int .i64 10] w fun e w' => e = .returned (.string ⟨(Lib.itoa n).toArray⟩) ∧ ∃ k os, w' = grow (w.drewN k) os := Any.strconv_FormatInt_10 Tryz.laysM173 n h0 h1 w htab
def Tryz.laysM316_ren : Go.Shelf.Ren := ⟨fun | 316 => 240 | n => n, fun | 9 => 9 | 3 => 3 | 4 => 4 | 37 => 42 | 0 => 0 | 127 => 209 | 5 => 5 | n => n, fun | n => n⟩
theorem Tryz.laysM316 : Go.Proofs.LaysM.n316 Tryz.prog Tryz.laysM316_ren := {
  mixed := by kernel_rfl
  f316 := Tryz.func240.trans (congrArg some (by kernel_rfl))
  t0 := Tryz.underlying0
  a0 := Tryz.isAgg0
  z0 := Tryz.sizeOf0
  v0 := Tryz.zeroValue0
  t3 := Tryz.underlying3
  a3 := Tryz.isAgg3
  z3 := Tryz.sizeOf3
  v3 := Tryz.zeroValue3
  t4 := Tryz.underlying4
  a4 := Tryz.isAgg4
  z4 := Tryz.sizeOf4
  v4 := Tryz.zeroValue4
  t9 := Tryz.underlying9
  a9 := Tryz.isAgg9
  z9 := Tryz.sizeOf9
  v9 := Tryz.zeroValue9
  t37 := Tryz.underlying42
  a37 := Tryz.isAgg42
  z37 := Tryz.sizeOf42
  v37 := Tryz.zeroValue42
  t127 := Tryz.underlying209
  a127 := Tryz.isAgg209
  z127 := Tryz.sizeOf209
  v127 := Tryz.zeroValue209
  t5 := Tryz.underlying5
  a5 := Tryz.isAgg5
  z5 := Tryz.sizeOf5
  v5 := Tryz.zeroValue5
  i0 := by kernel_rfl
  i3 := by kernel_rfl
  i4 := by kernel_rfl
  i5 := by kernel_rfl
  i9 := by kernel_rfl
  i37 := by kernel_rfl
  i127 := by kernel_rfl }
open Go.RowKit in
theorem Tryz.stringslite_Clone (s : ByteArray) (w : World) (hlim : s.size ≤ 281474976710656) :
    Calls Tryz.prog 240 #[.string s] w fun e w' => e = .returned (.string s) ∧ Below w.heap.size w w' := Any.stringslite_Clone Tryz.laysM316 s w hlim
def Tryz.laysC172_ren : Go.Shelf.Ren := ⟨fun | 172 => 160 | 244 => 198 | 245 => 199 | 247 => 224 | 279 => 225 | 280 => 226 | 281 => 227 | 282 => 228 | 287 => 241 | 316 => 240 | 171 => 180 | 205 => 242 | 321 => 249 | 322 => 250 | 243 => 214 | 246 => 236 | 283 => 243 | 284 => 244 | 285 => 245 | 286 => 246 | 129 => 252 | 317 => 251 | 318 => 253 | 319 => 254 | 320 => 255 | 337 => 259 | 338 => 260 | n => n, fun | 9 => 9 | 3 => 3 | 75 => 165 | 76 => 166 | 4 => 4 | 5 => 5 | 167 => 221 | 37 => 42 | 0 => 0 | 85 => 222 | 2 => 2 | 168 => 224 | 53 => 152 | 175 => 239 | 46 => 43 | 210 => 242 | 127 => 209 | 145 => 255 | 143 => 253 | 21 => 21 | 171 => 244 | 173 => 247 | 212 => 257 | 51 => 227 | 20 => 20 | 213 => 258 | 232 => 262 | 233 => 263 | 80 => 101 | n => n, fun | 15 => 0 | 16 => 1 | 17 => 3 | 18 => 4 | 19 => 5 | n => n⟩
theorem Tryz.laysC172 : Go.Proofs.LaysC.n172 Tryz.prog Tryz.laysC172_ren := {
  mixed := by kernel_rfl
  f129 := Tryz.func252.trans (congrArg some (by kernel_rfl))
  f171 := Tryz.func180.trans (congrArg some (by kernel_rfl))
  f172 := Tryz.func160.trans (congrArg some (by kernel_rfl))
  f205 := Tryz.func242.trans (congrArg some (by kernel_rfl))
  f243 := Tryz.func214.trans (congrArg some (by kernel_rfl))
  f244 := Tryz.func198.trans (congrArg some (by kernel_rfl))
  f245 := Tryz.func199.trans (congrArg some (by kernel_rfl))
  f246 := Tryz.func236.trans (congrArg some (by kernel_rfl))
  f247 := Tryz.func224.trans (congrArg some (by kernel_rfl))
  f279 := Tryz.func225.trans (congrArg some (by kernel_rfl))
  f280 := Tryz.func226.trans (congrArg some (by kernel_rfl))
  f281 := Tryz.func227.trans (congrArg some (by kernel_rfl))
  f282 := Tryz.func228.trans (congrArg some (by kernel_rfl))
  f283 := Tryz.func243.trans (congrArg some (by kernel_rfl))
  f284 := Tryz.func244.trans (congrArg some (by kernel_rfl))
  f285 := Tryz.func245.trans (congrArg some (by kernel_rfl))
  f286 := Tryz.func246.trans (congrArg some (by kernel_rfl))
  f287 := Tryz.func241.trans (congrArg some (by kernel_rfl))
  f316 := Tryz.func240.trans (congrArg some (by kernel_rfl))
  f317 := Tryz.func251.trans (congrArg some (by kernel_rfl))
  f318 := Tryz.func253.trans (congrArg some (by kernel_rfl))
  f319 := Tryz.func254.trans (congrArg some (by kernel_rfl))
  f320 := Tryz.func255.trans (congrArg some (by kernel_rfl))
  f321 := Tryz.func249.trans (congrArg some (by kernel_rfl))
  f322 := Tryz.func250.trans (congrArg some (by kernel_rfl))
  f337 := Tryz.func259.trans (congrArg some (by kernel_rfl))
  f338 := Tryz.func260.trans (congrArg some (by kernel_rfl))
  t0 := Tryz.underlying0
  a0 := Tryz.isAgg0
  z0 := Tryz.sizeOf0
  v0 := Tryz.zeroValue0
  t2 := Tryz.underlying2
  a2 := Tryz.isAgg2
  z2 := Tryz.sizeOf2
  v2 := Tryz.zeroValue2
  t3 := Tryz.underlying3
  a3 := Tryz.isAgg3
  z3 := Tryz.sizeOf3
  v3 := Tryz.zeroValue3
  t4 := Tryz.underlying4
  a4 := Tryz.isAgg4
  z4 := Tryz.sizeOf4
  v4 := Tryz.zeroValue4
  t5 := Tryz.underlying5
  a5 := Tryz.isAgg5
  z5 := Tryz.sizeOf5
  v5 := Tryz.zeroValue5
  t9 := Tryz.underlying9
  a9 := Tryz.isAgg9
  z9 := Tryz.sizeOf9
  v9 := Tryz.zeroValue9
  t20 := Tryz.underlying20
  a20 := Tryz.isAgg20
  z20 := Tryz.sizeOf20
  v20 := Tryz.zeroValue20
  t21 := Tryz.underlying21
  a21 := Tryz.isAgg21
  z21 := Tryz.sizeOf21
  v21 := Tryz.zeroValue21
  t37 := Tryz.underlying42
  a37 := Tryz.isAgg42
  z37 := Tryz.sizeOf42
  v37 := Tryz.zeroValue42
  t46 := Tryz.underlying43
  a46 := Tryz.isAgg43
  z46 := Tryz.sizeOf43
  v46 := Tryz.zeroValue43
  t51 := Tryz.underlying227
  a51 := Tryz.isAgg227
  z51 := Tryz.sizeOf227
  v51 := Tryz.zeroValue227
  t53 := Tryz.underlying152
  a53 := Tryz.isAgg152
  z53 := Tryz.sizeOf152
  v53 := Tryz.zeroValue152
  t75 := Tryz.underlying165
  a75 := Tryz.isAgg165
  z75 := Tryz.sizeOf165
  v75 := Tryz.zeroValue165
  t76 := Tryz.underlying166
  a76 := Tryz.isAgg166
  z76 := Tryz.sizeOf166
  v76 := Tryz.zeroValue166
  t85 := Tryz.underlying222
  a85 := Tryz.isAgg222
  z85 := Tryz.sizeOf222
  v85 := Tryz.zeroValue222
  t127 := Tryz.underlying209
  a127 := Tryz.isAgg209
  z127 := Tryz.sizeOf209
  v127 := Tryz.zeroValue209
  t143 := Tryz.underlying253
  a143 := Tryz.isAgg253
  z143 := Tryz.sizeOf253
  v143 := Tryz.zeroValue253
  t145 := Tryz.underlying255
  a145 := Tryz.isAgg255
  z145 := Tryz.sizeOf255
  v145 := Tryz.zeroValue255
  t167 := Tryz.underlying221
  a167 := Tryz.isAgg221
  z167 := Tryz.sizeOf221
  v167 := Tryz.zeroValue221
  t168 := Tryz.underlying224
  a168 := Tryz.isAgg224
  z168 := Tryz.sizeOf224
  v168 := Tryz.zeroValue224
  t171 := Tryz.underlying244
  a171 := Tryz.isAgg244
  z171 := Tryz.sizeOf244
  v171 := Tryz.zeroValue244
  t173 := Tryz.underlying247
  a173 := Tryz.isAgg247
  z173 := Tryz.sizeOf247
  v173 := Tryz.zeroValue247
  t175 := Tryz.underlying239
  a175 := Tryz.isAgg239
  z175 := Tryz.sizeOf239
  v175 := Tryz.zeroValue239
  t210 := Tryz.underlying242
  a210 := Tryz.isAgg242
  z210 := Tryz.sizeOf242
  v210 := Tryz.zeroValue242
  t212 := Tryz.underlying257
  a212 := Tryz.isAgg257
  z212 := Tryz.sizeOf257
  v212 := Tryz.zeroValue257
  t213 := Tryz.underlying258
  a213 := Tryz.isAgg258
  z213 := Tryz.sizeOf258
  t232 := Tryz.underlying262
  a232 := Tryz.isAgg262
  z232 := Tryz.sizeOf262
  v232 := Tryz.zeroValue262
  t233 := Tryz.underlying263
  a233 := Tryz.isAgg263
  z233 := Tryz.sizeOf263
  v233 := Tryz.zeroValue263
  g15 := by kernel_rfl
  g16 := by kernel_rfl
  g17 := by kernel_rfl
  g18 := by kernel_rfl
  g19 := by kernel_rfl
  t80 := Tryz.underlying101
  a80 := Tryz.isAgg101
  z80 := Tryz.sizeOf101
  v80 := Tryz.zeroValue101
  i0 := by kernel_rfl
  i2 := by kernel_rfl
  i3 := by kernel_rfl
  i4 := by kernel_rfl
  i5 := by kernel_rfl
  i9 := by kernel_rfl
  i20 := by kernel_rfl
  i21 := by kernel_rfl
  i37 := by kernel_rfl
  i46 := by kernel_rfl
  i51 := by kernel_rfl
  i53 := by kernel_rfl
  i75 := by kernel_rfl
  i76 := by kernel_rfl
  i80 := by kernel_rfl
  i85 := by kernel_rfl
  i127 := by kernel_rfl
  i143 := by kernel_rfl
  i145 := by kernel_rfl
  i167 := by kernel_rfl
  i168 := by kernel_rfl
  i171 := by kernel_rfl
  i173 := by kernel_rfl
  i175 := by kernel_rfl
  i210 := by kernel_rfl
  i212 := by kernel_rfl
  i232 := by kernel_rfl
  i233 := by kernel_rfl
  m15 := by kernel_rfl
  m16 := by kernel_rfl
  m17 := by kernel_rfl
  m18 := by kernel_rfl
  m19 := by kernel_rfl
  c0 := by kernel_rfl
  c2 := by kernel_rfl
  c3 := by kernel_rfl
  c4 := by kernel_rfl
  c5 := by kernel_rfl
  c9 := by kernel_rfl
  c20 := by kernel_rfl
  c21 := by kernel_rfl
  c37 := by kernel_rfl
  c46 := by kernel_rfl
  c51 := by kernel_rfl
  c53 := by kernel_rfl
  c75 := by kernel_rfl
  c76 := by kernel_rfl
  c80 := by kernel_rfl
  c85 := by kernel_rfl
  c127 := by kernel_rfl
  c143 := by kernel_rfl
  c145 := by kernel_rfl
  c167 := by kernel_rfl
  c168 := by kernel_rfl
  c171 := by kernel_rfl
  c173 := by kernel_rfl
  c175 := by kernel_rfl
  c210 := by kernel_rfl
  c212 := by kernel_rfl
  c213 := by kernel_rfl
  c232 := by kernel_rfl
  c233 := by kernel_rfl }
open Go.RowKit in
theorem Tryz.strconv_Atoi_ok (s : ByteArray) (hmax : s.size ≤ 9223372036854775806) (v : Int) (h : Lib.atoiAll s.data.toList = .ok v) (w : World) :
    Calls Tryz.prog 160 #[.string s] w fun e w' => e = .returned (.tuple #[.int .i64 v, .nilIface]) ∧ (w' = w ∨ ∃ t, w' = Lib.bytesWorld w 5 t) := Any.strconv_Atoi_ok Tryz.laysC172 s hmax v h w
def Tryz.laysC174_ren : Go.Shelf.Ren := ⟨fun | 174 => 257 | 247 => 224 | 245 => 199 | 287 => 241 | 279 => 225 | 280 => 226 | 281 => 227 | 282 => 228 | 321 => 249 | 322 => 250 | 316 => 240 | 171 => 180 | 205 => 242 | 243 => 214 | 246 => 236 | 283 => 243 | 284 => 244 | 285 => 245 | 286 => 246 | 129 => 252 | 317 => 251 | 318 => 253 | 319 => 254 | 320 => 255 | 337 => 259 | 338 => 260 | n => n, fun | 9 => 9 | 3 => 3 | 2 => 2 | 75 => 165 | 85 => 222 | 4 => 4 | 167 => 221 | 5 => 5 | 53 => 152 | 175 => 239 | 46 => 43 | 168 => 224 | 37 => 42 | 0 => 0 | 210 => 242 | 21 => 21 | 127 => 209 | 145 => 255 | 143 => 253 | 171 => 244 | 173 => 247 | 212 => 257 | 51 => 227 | 20 => 20 | 213 => 258 | 232 => 262 | 233 => 263 | 80 => 101 | n => n, fun | 15 => 0 | 16 => 1 | 17 => 3 | 18 => 4 | 19 => 5 | n => n⟩
theorem Tryz.laysC174 : Go.Proofs.LaysC.n174 Tryz.prog Tryz.laysC174_ren := {
  mixed := by kernel_rfl
  f129 := Tryz.func252.trans (congrArg some (by kernel_rfl))
  f171 := Tryz.func180.trans (congrArg some (by kernel_rfl))
  f174 := Tryz.func257.trans (congrArg some (by kernel_rfl))
  f205 := Tryz.func242.trans (congrArg some (by kernel_rfl))
  f243 := Tryz.func214.trans (congrArg some (by kernel_rfl))
  f245 := Tryz.func199.trans (congrArg some (by kernel_rfl))
  f246 := Tryz.func236.trans (congrArg some (by kernel_rfl))
  f247 := Tryz.func224.trans (congrArg some (by kernel_rfl))
  f279 := Tryz.func225.trans (congrArg some (by kernel_rfl))
  f280 := Tryz.func226.trans (congrArg some (by kernel_rfl))
  f281 := Tryz.func227.trans (congrArg some (by kernel_rfl))
  f282 := Tryz.func228.trans (congrArg some (by kernel_rfl))
  f283 := Tryz.func243.trans (congrArg some (by kernel_rfl))
  f284 := Tryz.func244.trans (congrArg some (by kernel_rfl))
  f285 := Tryz.func245.trans (congrArg some (by kernel_rfl))
  f286 := Tryz.func246.trans (congrArg some (by kernel_rfl))
  f287 := Tryz.func241.trans (congrArg some (by kernel_rfl))
  f316 := Tryz.func240.trans (congrArg some (by kernel_rfl))
  f317 := Tryz.func251.trans (congrArg some (by kernel_rfl))
  f318 := Tryz.func253.trans (congrArg some (by kernel_rfl))
  f319 := Tryz.func254.trans (congrArg some (by kernel_rfl))
  f320 := Tryz.func255.trans (congrArg some (by kernel_rfl))
  f321 := Tryz.func249.trans (congrArg some (by kernel_rfl))
  f322 := Tryz.func250.trans (congrArg some (by kernel_rfl))
  f337 := Tryz.func259.trans (congrArg some (by kernel_rfl))
  f338 := Tryz.func260.trans (congrArg some (by kernel_rfl))
  t0 := Tryz.underlying0
  a0 := Tryz.isAgg0
  z0 := Tryz.sizeOf0
  v0 := Tryz.zeroValue0
  t2 := Tryz.underlying2
  a2 := Tryz.isAgg2
  z2 := Tryz.sizeOf2
  v2 := Tryz.zeroValue2
  t3 := Tryz.underlying3
  a3 := Tryz.isAgg3
  z3 := Tryz.sizeOf3
  v3 := Tryz.zeroValue3
  t4 := Tryz.underlying4
  a4 := Tryz.isAgg4
  z4 := Tryz.sizeOf4
  v4 := Tryz.zeroValue4
  t5 := Tryz.underlying5
  a5 := Tryz.isAgg5
  z5 := Tryz.sizeOf5
  v5 := Tryz.zeroValue5
  t9 := Tryz.underlying9
  a9 := Tryz.isAgg9
  z9 := Tryz.sizeOf9
  v9 := Tryz.zeroValue9
  t20 := Tryz.underlying20
  a20 := Tryz.isAgg20
  z20 := Tryz.sizeOf20
  v20 := Tryz.zeroValue20
  t21 := Tryz.underlying21
  a21 := Tryz.isAgg21
  z21 := Tryz.sizeOf21
  v21 := Tryz.zeroValue21
  t37 := Tryz.underlying42
  a37 := Tryz.isAgg42
  z37 := Tryz.sizeOf42
  v37 := Tryz.zeroValue42
  t46 := Tryz.underlying43
  a46 := Tryz.isAgg43
  z46 := Tryz.sizeOf43
  v46 := Tryz.zeroValue43
  t51 := Tryz.underlying227
  a51 := Tryz.isAgg227
  z51 := Tryz.sizeOf227
  v51 := Tryz.zeroValue227
  t53 := Tryz.underlying152
  a53 := Tryz.isAgg152
  z53 := Tryz.sizeOf152
  v53 := Tryz.zeroValue152
  t75 := Tryz.underlying165
  a75 := Tryz.isAgg165
  z75 := Tryz.sizeOf165
  v75 := Tryz.zeroValue165
  t85 := Tryz.underlying222
  a85 := Tryz.isAgg222
  z85 := Tryz.sizeOf222
  v85 := Tryz.zeroValue222
  t127 := Tryz.underlying209
  a127 := Tryz.isAgg209
  z127 := Tryz.sizeOf209
  v127 := Tryz.zeroValue209
  t143 := Tryz.underlying253
  a143 := Tryz.isAgg253
  z143 := Tryz.sizeOf253
  v143 := Tryz.zeroValue253
  t145 := Tryz.underlying255
  a145 := Tryz.isAgg255
  z145 := Tryz.sizeOf255
  v145 := Tryz.zeroValue255
  t167 := Tryz.underlying221
  a167 := Tryz.isAgg221
  z167 := Tryz.sizeOf221
  v167 := Tryz.zeroValue221
  t168 := Tryz.underlying224
  a168 := Tryz.isAgg224
  z168 := Tryz.sizeOf224
  v168 := Tryz.zeroValue224
  t171 := Tryz.underlying244
  a171 := Tryz.isAgg244
  z171 := Tryz.sizeOf244
  v171 := Tryz.zeroValue244
  t173 := Tryz.underlying247
  a173 := Tryz.isAgg247
  z173 := Tryz.sizeOf247
  v173 := Tryz.zeroValue247
  t175 := Tryz.underlying239
  a175 := Tryz.isAgg239
  z175 := Tryz.sizeOf239
  v175 := Tryz.zeroValue239
  t210 := Tryz.underlying242
  a210 := Tryz.isAgg242
  z210 := Tryz.sizeOf242
  v210 := Tryz.zeroValue242
  t212 := Tryz.underlying257
  a212 := Tryz.isAgg257
  z212 := Tryz.sizeOf257
  v212 := Tryz.zeroValue257
  t213 := Tryz.underlying258
  a213 := Tryz.isAgg258
  z213 := Tryz.sizeOf258
  t232 := Tryz.underlying262
  a232 := Tryz.isAgg262
  z232 := Tryz.sizeOf262
  v232 := Tryz.zeroValue262
  t233 := Tryz.underlying263
  a233 := Tryz.isAgg263
  z233 := Tryz.sizeOf263
  v233 := Tryz.zeroValue263
  g15 := by kernel_rfl
  g16 := by kernel_rfl
  g17 := by kernel_rfl
  g18 := by kernel_rfl
  g19 := by kernel_rfl
  t80 := Tryz.underlying101
  a80 := Tryz.isAgg101
  z80 := Tryz.sizeOf101
  v80 := Tryz.zeroValue101
  i0 := by kernel_rfl
  i2 := by kernel_rfl
  i3 := by kernel_rfl
  i4 := by kernel_rfl
  i5 := by kernel_rfl
  i9 := by kernel_rfl
  i20 := by kernel_rfl
  i21 := by kernel_rfl
  i37 := by kernel_rfl
  i46 := by kernel_rfl
  i51 := by kernel_rfl
  i53 := by kernel_rfl
  i75 := by kernel_rfl
  i80 := by kernel_rfl
  i85 := by kernel_rfl
  i127 := by kernel_rfl
  i143 := by kernel_rfl
  i145 := by kernel_rfl
  i167 := by kernel_rfl
  i168 := by kernel_rfl
  i171 := by kernel_rfl
  i173 := by kernel_rfl
  i175 := by kernel_rfl
  i210 := by kernel_rfl
  i212 := by kernel_rfl
  i232 := by kernel_rfl
  i233 := by kernel_rfl
  m15 := by kernel_rfl
  m16 := by kernel_rfl
  m17 := by kernel_rfl
  m18 := by kernel_rfl
  m19 := by kernel_rfl
  c0 := by kernel_rfl
  c2 := by kernel_rfl
  c3 := by kernel_rfl
  c4 := by kernel_rfl
  c5 := by kernel_rfl
  c9 := by kernel_rfl
  c20 := by kernel_rfl
  c21 := by kernel_rfl
  c37 := by kernel_rfl
  c46 := by kernel_rfl
  c51 := by kernel_rfl
  c53 := by kernel_rfl
  c75 := by kernel_rfl
  c80 := by kernel_rfl
  c85 := by kernel_rfl
  c127 := by kernel_rfl
  c143 := by kernel_rfl
  c145 := by kernel_rfl
  c167 := by kernel_rfl
  c168 := by kernel_rfl
  c171 := by kernel_rfl
  c173 := by kernel_rfl
  c175 := by kernel_rfl
  c210 := by kernel_rfl
  c212 := by kernel_rfl
  c213 := by kernel_rfl
  c232 := by kernel_rfl
  c233 := by kernel_rfl }
open Go.RowKit in
theorem Tryz.strconv_ParseInt_10_at64_ok (s : ByteArray) (hmax : s.size ≤ 9223372036854775806) (v : Int) (h : Lib.parseIntB 64 s.data.toList = .ok v) (w : World) :
    Calls Tryz.prog 257 #[.string s, .int .i64 10, .int .i64 64] w fun e w' => e = .returned (.tuple #[.int .i64 v, .nilIface]) ∧ (w' = w ∨ ∃ t, w' = Lib.bytesWorld w 5 t) := Any.strconv_ParseInt_10_at64_ok Tryz.laysC174 s hmax v h w
open Go.RowKit in
theorem Tryz.strconv_ParseInt_10_at64_range_var (s : ByteArray) (hlim : s.size ≤ 281474976710656) (h : Lib.parseIntB 64 s.data.toList = .range) (tp : TypeId) (p : Value) (w : World) (hvar : w.var? Tryz.prog "strconv.ErrRange" = some #[.iface tp p]) :
    Calls Tryz.prog 257 #[.string s, .int .i64 10, .int .i64 64] w fun e w' => ∃ N, e = .returned (.tuple #[.int .i64 (Lib.intSat 64 s.data.toList), .iface 224 (.pointer (some ⟨N, 0, none⟩))]) ∧ w.heap.size ≤ N ∧ w'.heap[N]? = some (.cells #[.string ⟨#[80, 97, 114, 115, 101, 73, 110, 116]⟩, .string s, .iface tp p] 242 (0, 0)) ∧ Below w.heap.size w w' := Any.strconv_ParseInt_10_at64_range_var Tryz.laysC174 s hlim h tp p w hvar
def Tryz.lays105_ren : Go.Shelf.Ren := ⟨fun | 105 => 161 | 212 => 200 | 99 => 201 | 165 => 163 | 166 => 164 | 170 => 202 | 169 => 165 | 263 => 229 | 264 => 230 | 206 => 231 | 240 => 204 | 241 => 205 | 276 => 232 | 277 => 233 | n => n, fun | 9 => 9 | 3 => 3 | 4 => 4 | 20 => 20 | 0 => 0 | 46 => 43 | 109 => 204 | 5 => 5 | 72 => 172 | 76 => 166 | 51 => 227 | 146 => 228 | 53 => 152 | 148 => 230 | 70 => 170 | 37 => 42 | 75 => 165 | 127 => 209 | 164 => 232 | 80 => 101 | n => n, fun | n => n⟩
theorem Tryz.lays105 : Go.Proofs.Lays.n105 Tryz.prog Tryz.lays105_ren := {
  mixed := by kernel_rfl
  f99 := Tryz.func201.trans (congrArg some (by kernel_rfl))
  f105 := Tryz.func161.trans (congrArg some (by kernel_rfl))
  f165 := Tryz.func163.trans (congrArg some (by kernel_rfl))
  f166 := Tryz.func164.trans (congrArg some (by kernel_rfl))
  f169 := Tryz.func165.trans (congrArg some (by kernel_rfl))
  f170 := Tryz.func202.trans (congrArg some (by kernel_rfl))
  f206 := Tryz.func231.trans (congrArg some (by kernel_rfl))
  f212 := Tryz.func200.trans (congrArg some (by kernel_rfl))
  f240 := Tryz.func204.trans (congrArg some (by kernel_rfl))
  f241 := Tryz.func205.trans (congrArg some (by kernel_rfl))
  f263 := Tryz.func229.trans (congrArg some (by kernel_rfl))
  f264 := Tryz.func230.trans (congrArg some (by kernel_rfl))
  f276 := Tryz.func232.trans (congrArg some (by kernel_rfl))
  f277 := Tryz.func233.trans (congrArg some (by kernel_rfl))
  t0 := Tryz.underlying0
  a0 := Tryz.isAgg0
  z0 := Tryz.sizeOf0
  v0 := Tryz.zeroValue0
  t3 := Tryz.underlying3
  a3 := Tryz.isAgg3
  z3 := Tryz.sizeOf3
  v3 := Tryz.zeroValue3
  t4 := Tryz.underlying4
  a4 := Tryz.isAgg4
  z4 := Tryz.sizeOf4
  v4 := Tryz.zeroValue4
  t5 := Tryz.underlying5
  a5 := Tryz.isAgg5
  z5 := Tryz.sizeOf5
  v5 := Tryz.zeroValue5
  t9 := Tryz.underlying9
  a9 := Tryz.isAgg9
  z9 := Tryz.sizeOf9
  v9 := Tryz.zeroValue9
  t20 := Tryz.underlying20
  a20 := Tryz.isAgg20
  z20 := Tryz.sizeOf20
  v20 := Tryz.zeroValue20
  t37 := Tryz.underlying42
  a37 := Tryz.isAgg42
  z37 := Tryz.sizeOf42
  v37 := Tryz.zeroValue42
  t46 := Tryz.underlying43
  a46 := Tryz.isAgg43
  z46 := Tryz.sizeOf43
  v46 := Tryz.zeroValue43
  t51 := Tryz.underlying227
  a51 := Tryz.isAgg227
  z51 := Tryz.sizeOf227
  v51 := Tryz.zeroValue227
  t53 := Tryz.underlying152
  a53 := Tryz.isAgg152
  z53 := Tryz.sizeOf152
  v53 := Tryz.zeroValue152
  t70 := Tryz.underlying170
  a70 := Tryz.isAgg170
  z70 := Tryz.sizeOf170
  v70 := Tryz.zeroValue170
  t72 := Tryz.underlying172
  a72 := Tryz.isAgg172
  z72 := Tryz.sizeOf172
  v72 := Tryz.zeroValue172
  t75 := Tryz.underlying165
  a75 := Tryz.isAgg165
  z75 := Tryz.sizeOf165
  v75 := Tryz.zeroValue165
  t76 := Tryz.underlying166
  a76 := Tryz.isAgg166
  z76 := Tryz.sizeOf166
  v76 := Tryz.zeroValue166
  t109 := Tryz.underlying204
  a109 := Tryz.isAgg204
  z109 := Tryz.sizeOf204
  v109 := Tryz.zeroValue204
  t127 := Tryz.underlying209
  a127 := Tryz.isAgg209
  z127 := Tryz.sizeOf209
  v127 := Tryz.zeroValue209
  t146 := Tryz.underlying228
  a146 := Tryz.isAgg228
  z146 := Tryz.sizeOf228
  v146 := Tryz.zeroValue228
  t148 := Tryz.underlying230
  a148 := Tryz.isAgg230
  z148 := Tryz.sizeOf230
  v148 := Tryz.zeroValue230
  t164 := Tryz.underlying232
  a164 := Tryz.isAgg232
  z164 := Tryz.sizeOf232
  v164 := Tryz.zeroValue232 }
theorem Tryz.Builder_Extra_105 : Builder.Extra Tryz.prog Tryz.lays105_ren := {
  sizeBuilder := by kernel_rfl
  liesBuilder := by kernel_rfl
  t5 := Tryz.underlying5
  a5 := Tryz.isAgg5
  z5 := Tryz.sizeOf5
  v5 := Tryz.zeroValue5
  infoByte := by kernel_rfl
  cellsByte := by kernel_rfl
  sizeByte := by kernel_rfl
  neB5 := by decide }
open Go.RowKit Go.Lib in
theorem Tryz.strings_Repeat (s : ByteArray) (c : Nat) (w : World) (hc : c ≤ 9223372036854775807) (hlen : s.size * c ≤ 140737488355328) :
    Calls Tryz.prog 161 #[.string s, .int .i64 c] w fun e w' => e = .returned (.string ⟨(Lib.repeatL s.data.toList c).toArray⟩) ∧ Below w.heap.size w w' := Any.strings_Repeat Tryz.lays105 Tryz.Builder_Extra_105 s c w hc hlen
end Go.Proofs
namespace Go.Proofs.YtcpfhfdgfcilaaaGreatDoor.Val
open Go.ChangeShapes Go.WideShapes Go.ChangeAt Go.RowKit

def laidB : List (String × DataW Unit) := Rows.buildsRow.laid
/-- What the library's functions read that tell numbers. -/
structure Home (w : World) : Prop where
  tab : Lib.TabIs Tryz.prog w "internal/strconv.uint64pow10" .u64 Lib.pow10Tab
/-- What they read that take numbers in, besides. -/
structure HomeE (w : World) : Prop where
  tab : Lib.TabIs Tryz.prog w "internal/strconv.uint64pow10" .u64 Lib.pow10Tab
  syn : ∃ tp p, w.var? Tryz.prog "strconv.ErrSyntax" = some #[.iface tp p]
  rng : ∃ tp p, w.var? Tryz.prog "strconv.ErrRange" = some #[.iface tp p]
theorem HomeE.home {w : World} (h : HomeE w) : Home w := ⟨h.tab⟩
theorem gTab : Tryz.prog.globalNamed "internal/strconv.uint64pow10" = some 3 := by kernel_rfl
theorem gSyn : Tryz.prog.globalNamed "strconv.ErrSyntax" = some 0 := by kernel_rfl
theorem gRng : Tryz.prog.globalNamed "strconv.ErrRange" = some 1 := by kernel_rfl
theorem var_same {w w' : World} {n : String} {g : Nat} {cs : Array Value} (hg : Tryz.prog.globalNamed n = some g) (h : w.var? Tryz.prog n = some cs) (hh : ∀ k, k < 4 → k < w.heap.size → w'.heap[k]? = w.heap[k]?) (hg6 : g < 4) : w'.var? Tryz.prog n = some cs := by
  have hl : g < w.heap.size := by
    unfold World.var? at h
    rw [hg, Option.bind_some] at h
    by_cases c : g < w.heap.size
    · exact c
    · rw [Array.getElem?_eq_none (by omega)] at h
      cases h
  unfold World.var? at h ⊢
  rw [hg, Option.bind_some] at h ⊢
  rw [hh g hg6 hl]
  exact h
theorem Home.same {w w' : World} (h : Home w) (hh : ∀ k, k < 4 → k < w.heap.size → w'.heap[k]? = w.heap[k]?) : Home w' := ⟨var_same gTab h.tab hh (by omega)⟩
theorem Home.later {w w' : World} (h : Home w) (hb : Below w.heap.size w w') : Home w' := h.same fun k _ hk => hb.block k hk
theorem HomeE.same {w w' : World} (h : HomeE w) (hh : ∀ k, k < 4 → k < w.heap.size → w'.heap[k]? = w.heap[k]?) : HomeE w' := by
  obtain ⟨t1, p1, h1⟩ := h.syn
  obtain ⟨t2, p2, h2⟩ := h.rng
  exact ⟨var_same gTab h.tab hh (by omega), ⟨t1, p1, var_same gSyn h1 hh (by omega)⟩, ⟨t2, p2, var_same gRng h2 hh (by omega)⟩⟩
theorem HomeE.later {w w' : World} (h : HomeE w) (hb : Below w.heap.size w w') : HomeE w' := h.same fun k _ hk => hb.block k hk
theorem tTab : (Tryz.prog.globals[3]?).map (·.type) = some 257 := by kernel_rfl
theorem tSyn : (Tryz.prog.globals[0]?).map (·.type) = some 165 := by kernel_rfl
theorem tRng : (Tryz.prog.globals[1]?).map (·.type) = some 165 := by kernel_rfl
theorem star : "*" ++ "errors.errorString" = "*errors.errorString" := by decide
theorem rowE (u : TypeId) (h : Tryz.prog.typeName? 3 u = some "*errors.errorString") : u = 253 :=
  typeName_ptr_named (nm := "errors.errorString") (by rw [star]; kernel_rfl) (by kernel_rfl) (by decide) u (by rw [star]; exact h)
theorem homeB_of {W : World} (h : laidMetH Tryz.prog laidB W) : HomeE W := by
  rw [MakeChecks.laidMetH_plain _ _ _ (by kernel_rfl)] at h
  have h1 : laidMet Tryz.prog [("internal/strconv.uint64pow10", Lib.tabData .u64 Lib.pow10Tab), ("strconv.ErrRange", Rows.laid_strconv_ErrRange), ("strconv.ErrSyntax", Rows.laid_strconv_ErrSyntax)] W := h.tail.tail
  obtain ⟨a1, s1, v1, _⟩ := laid_sentinel h1.tail gRng tRng Tryz.underlying165 rowE Tryz.underlying253 Tryz.underlying255 rfl rfl Tryz.underlying9 (by kernel_rfl) (by kernel_rfl)
  obtain ⟨a2, s2, v2, _⟩ := laid_sentinel h1.tail.tail gSyn tSyn Tryz.underlying165 rowE Tryz.underlying253 Tryz.underlying255 rfl rfl Tryz.underlying9 (by kernel_rfl) (by kernel_rfl)
  exact ⟨Lib.tabIs_of_head gTab tTab Tryz.underlying257 Tryz.underlying152 (by kernel_rfl) (by kernel_rfl) h1, ⟨_, _, v2⟩, ⟨_, _, v1⟩⟩
end Go.Proofs.YtcpfhfdgfcilaaaGreatDoor.Val
namespace Go.Proofs.YtcpfhfdgfcilaaaGreatDoor.Val

theorem dec_dig : ∀ n, n < 10 ^ 20 → Lib.decDigits n = dig n := by
  intro n
  induction n using Nat.strongRecOn with
  | _ n ih =>
    intro hn
    rw [Lib.decDigits]
    by_cases h : n < 10
    · rw [dif_pos h, dig_low n h]
    · rw [dif_neg h, dig_high n (by omega) hn, ih (n / 10) (by omega) (by omega)]
theorem itoa_intD (x : Int) (h : in64 x) : Lib.itoa x = intD x := by
  unfold Lib.itoa intD in64 at *
  by_cases c : x < 0
  · rw [if_pos c, if_neg (by omega), dec_dig _ (by omega), show x.natAbs = (-x).toNat from by omega]
  · rw [if_neg c, if_pos (by omega), dec_dig _ (by omega)]
/-- What digits count to, from a number on. -/
def foldN (a : Nat) (l : List UInt8) : Nat := l.foldl (fun a b => a * 10 + (b.toNat - 48)) a
theorem foldN_snoc (a : Nat) (l : List UInt8) (b : UInt8) : foldN a (l ++ [b]) = foldN a l * 10 + (b.toNat - 48) := by
  unfold foldN
  rw [List.foldl_append]
  rfl
theorem foldN_le (l : List UInt8) : ∀ a, a ≤ foldN a l := by
  induction l with
  | nil => intro a; exact Nat.le_refl _
  | cons b l ih =>
    intro a
    have := ih (a * 10 + (b.toNat - 48))
    show a ≤ foldN (a * 10 + (b.toNat - 48)) l
    omega
theorem foldN_dig : ∀ n, n < 10 ^ 20 → foldN 0 (dig n) = n := by
  intro n
  induction n using Nat.strongRecOn with
  | _ n ih =>
    intro hn
    by_cases h : n < 10
    · rw [dig_low n h]
      show 0 * 10 + ((UInt8.ofNat (48 + n)).toNat - 48) = n
      rw [byte_nat _ (by omega)]
      omega
    · rw [dig_high n (by omega) hn, foldN_snoc, ih (n / 10) (by omega) (by omega), byte_nat _ (by omega)]
      omega
theorem parseM (l : List UInt8) : ∀ a, (∀ b ∈ l, 48 ≤ b.toNat ∧ b.toNat ≤ 57) → foldN a l ≤ 18446744073709551615 → Lib.parseUintM 18446744073709551615 a l = .ok (foldN a l) := by
  induction l with
  | nil => intro a _ _; rfl
  | cons b l ih =>
    intro a hd hf
    have hb := hd b List.mem_cons_self
    have h1 : foldN a (b :: l) = foldN (a * 10 + (b.toNat - 48)) l := rfl
    rw [h1] at hf ⊢
    have h2 := foldN_le l (a * 10 + (b.toNat - 48))
    rw [Lib.parseUintM, if_pos hb, if_neg (by omega), if_neg (by omega)]
    exact ih _ (fun x hx => hd x (List.mem_cons_of_mem _ hx)) hf
theorem parseU_dig (n : Nat) (h : n ≤ 18446744073709551615) : Lib.parseUintB 64 (dig n) = .ok n := by
  unfold Lib.parseUintB
  have e : (2 : Nat) ^ 64 - 1 = 18446744073709551615 := by decide
  rw [if_neg (dig_ne n), e, parseM _ _ (dig_digit n) (by rw [foldN_dig n (by omega)]; exact h), foldN_dig n (by omega)]
theorem parse_intD (x : Int) (h : in64 x) : Lib.parseIntB 64 (intD x) = .ok x := by
  unfold in64 at h
  have e : (2 : Nat) ^ (64 - 1) = 9223372036854775808 := by decide
  unfold intD
  by_cases c : 0 ≤ x
  · rw [if_pos c]
    have hp := parseU_dig x.toNat (by omega)
    cases hd : dig x.toNat with
    | nil => exact absurd hd (dig_ne _)
    | cons b r =>
      have hb := dig_digit x.toNat b (by rw [hd]; exact List.mem_cons_self)
      rw [Lib.parseIntB_plain 64 b r (by omega) (by omega), ← hd, hp, e]
      unfold Lib.signlessC
      simp only
      rw [if_neg (by omega)]
      congr 1
      omega
  · rw [if_neg c, Lib.parseIntB_minus, parseU_dig _ (by omega), e]
    unfold Lib.signedC
    simp only
    rw [if_neg (by omega)]
    congr 1
    omega
theorem parse_none {l : List UInt8} (h : numOf l = none) {v : Int} (hv : Lib.parseIntB 64 l = .ok v) : Lib.itoa v ≠ l ∧ in64 v := by
  have hb := Lib.parseIntB_bounds hv
  have e : (2 : Nat) ^ (64 - 1) = 9223372036854775808 := by decide
  rw [e] at hb
  have hi : in64 v := ⟨by omega, by omega⟩
  refine ⟨?_, hi⟩
  rw [itoa_intD v hi]
  exact numOf_none.1 h v hi
theorem parse_some {l : List UInt8} {x : Int} (h : numOf l = some x) : Lib.parseIntB 64 l = .ok x ∧ Lib.itoa x = l ∧ in64 x := by
  obtain ⟨h1, h2⟩ := numOf_some.1 h
  exact ⟨by rw [← h2]; exact parse_intD x h1, by rw [itoa_intD x h1]; exact h2, h1⟩
/-- The first place of a sign, in the library's words. -/
theorem index_seek (c : UInt8) : ∀ l : List UInt8, Lib.indexByte l c = match seek c l with | none => -1 | some k => (k : Int)
  | [] => rfl
  | b :: l => by
    rw [Lib.indexByte, seek, index_seek c l]
    by_cases e : b = c
    · rw [if_pos e, if_pos (by rw [e]; exact beq_self_eq_true c)]
      rfl
    · rw [if_neg e, if_neg (by rw [beq_iff_eq]; exact e)]
      cases seek c l with
      | none => rfl
      | some k =>
        show (if ((k : Int) == -1) = true then -1 else (k : Int) + 1) = ((k + 1 : Nat) : Int)
        rw [if_neg (by rw [beq_iff_eq]; omega)]
        omega
end Go.Proofs.YtcpfhfdgfcilaaaGreatDoor.Val
namespace Go.Proofs.YtcpfhfdgfcilaaaGreatDoor.Val
open Go.ChangeShapes Go.WideShapes Go.ChangeAt Go.RowKit

/-- A taker of a text, so far come. -/
structure Tk (w : World) (b : Nat) (s : ByteArray) (p : Nat) : Prop where
  blk : w.heap[b]? = some (.cells #[.string s, .int .i64 (p : Int)] 187 (0, 0))
theorem Tk.lt {w : World} {b : Nat} {s : ByteArray} {p : Nat} (h : Tk w b s p) : b < w.heap.size := by
  by_cases c : b < w.heap.size
  · exact c
  · have := h.blk
    rw [Array.getElem?_eq_none (by omega)] at this
    cases this
theorem Tk.text {w : World} {b : Nat} {s : ByteArray} {p : Nat} (h : Tk w b s p) : w.cell? ⟨b, 0, none⟩ = some (.string s) := by simp [World.cell?, h.blk]
theorem Tk.at {w : World} {b : Nat} {s : ByteArray} {p : Nat} (h : Tk w b s p) : w.cell? ⟨b, 1, none⟩ = some (.int .i64 (p : Int)) := by simp [World.cell?, h.blk]
theorem Tk.fz {w : World} {b : Nat} {s : ByteArray} {p : Nat} (h : Tk w b s p) : w.frozen? ⟨b, 1, none⟩ = false := by simp [World.frozen?, h.blk]
theorem Tk.set {w : World} {b : Nat} {s : ByteArray} {p : Nat} (h : Tk w b s p) (q : Nat) : Tk (w.setCell ⟨b, 1, none⟩ (.int .i64 (q : Int))) b s q := by
  refine ⟨?_⟩
  simp only [World.setCell, Array.getElem?_modify, if_true, h.blk, Option.map_some]
  rfl
/-- What stands but for one block. -/
structure Mv (b : Nat) (w w' : World) : Prop where
  os : w'.os = w.os
  tape : w'.tape = w.tape
  output : w'.output = w.output
  size : w.heap.size ≤ w'.heap.size
  block : ∀ k, k < w.heap.size → k ≠ b → w'.heap[k]? = w.heap[k]?
theorem Mv.refl (b : Nat) (w : World) : Mv b w w := ⟨rfl, rfl, rfl, Nat.le_refl _, fun _ _ _ => rfl⟩
theorem Mv.trans {b : Nat} {u v w : World} (h : Mv b u v) (k : Mv b v w) : Mv b u w :=
  ⟨k.os.trans h.os, k.tape.trans h.tape, k.output.trans h.output, Nat.le_trans h.size k.size, fun i hi hb => (k.block i (Nat.lt_of_lt_of_le hi h.size) hb).trans (h.block i hi hb)⟩
theorem Mv.of {b : Nat} {w w' : World} (h : Below w.heap.size w w') : Mv b w w' := ⟨h.os, h.tape, h.output, h.size, fun k hk _ => h.block k hk⟩
theorem Mv.set (b : Nat) (w : World) (o : Nat) (v : Value) : Mv b w (w.setCell ⟨b, o, none⟩ v) := ⟨rfl, rfl, rfl, by simp [World.setCell], fun k _ hk => Below.heap_setCell _ _ _ _ hk⟩
theorem Mv.below {b B : Nat} {w w' : World} (h : Mv b w w') (hB : B ≤ b) (hw : B ≤ w.heap.size) : Below B w w' := ⟨h.os, h.tape, h.output, h.size, fun k hk => h.block k (by omega) (by omega)⟩
theorem Tk.later {w w' : World} {b : Nat} {s : ByteArray} {p : Nat} (h : Tk w b s p) (hb : Below w.heap.size w w') : Tk w' b s p := ⟨(hb.block b h.lt).trans h.blk⟩
theorem HomeE.move {b : Nat} {w w' : World} (h : HomeE w) (hm : Mv b w w') (hb : 4 ≤ b) : HomeE w' := h.same fun k h6 hk => hm.block k hk (by omega)
theorem drewN_below (w : World) (n : Nat) : Below w.heap.size w (w.drewN n) := below_drewN (Below.refl _ _) n
theorem bel2 {a b c : World} (h : Below a.heap.size a b) (k : Below b.heap.size b c) : Below a.heap.size a c := h.trans (k.mono h.size)

set_option maxRecDepth 20000 in
set_option maxHeartbeats 800000 in
theorem doneC (b : Nat) (s : ByteArray) (p : Nat) (d : Bool) (hd : (((p : Int) == (s.size : Int))) = d) (w : World) (h : Tk w b s p) :
    Calls Tryz.prog 188 #[.pointer (some ⟨b, 0, none⟩)] w fun r w' => r = .returned (.bool d) ∧ ∃ m, w' = w.drewN m := by
  have h0 := h.text
  have h1 := h.at
  clear h
  go_enter Tryz.func188, Tryz.ntmps188
  go_wp2_with fail
  go_quiet (fail)
  go_wp2
  go_ret
  exact ⟨rfl, _, rfl⟩
theorem Tk.go {w : World} {b : Nat} {s : ByteArray} {p : Nat} (h : Tk w b s p) (q : Nat) (z : Int) (hz : z = (q : Int)) : ∃ w1, w.setCell ⟨b, 1, none⟩ (.int .i64 z) = w1 ∧ Tk w1 b s q ∧ Mv b w w1 := by
  subst hz
  exact ⟨_, rfl, h.set q, Mv.set b w 1 _⟩
set_option maxRecDepth 20000 in
set_option maxHeartbeats 800000 in
theorem signC (b : Nat) (s : ByteArray) (p : Nat) (c : Nat) (hp : p < s.size) (hs : s.size ≤ 65536) (hc : ((s[p].toNat : Nat) : Int) = (c : Int)) (w : World) (h : Tk w b s p) :
    Calls Tryz.prog 218 #[.pointer (some ⟨b, 0, none⟩)] w fun r w' => r = .returned (.int .u8 (c : Int)) ∧ Tk w' b s (p + 1) ∧ Mv b w w' := by
  have h0 := h.text
  have h1 := h.at
  have h2 := h.fz
  obtain ⟨w1, e1, t1, m1⟩ := h.go (p + 1) ((p : Int) + 1) (by omega)
  clear h
  have i0 : (0 : Int) ≤ (p : Int) := Int.natCast_nonneg _
  have i1 : (p : Int) < (s.size : Int) := by omega
  go_enter Tryz.func218, Tryz.ntmps218
  go_wp2_with fail
  clear h0 h1 h2 e1
  have h0 := t1.text
  have h1 := t1.at
  rw [show ((p + 1 : Nat) : Int) = (p : Int) + 1 from by omega] at h1
  have x1 : IntKind.i64.wrap ((p : Int) + 1 - 1) = (p : Int) := by rw [IntKind.wrap_i64]; omega
  go_quiet (fail)
  go_wp2
  go_ret
  exact ⟨rfl, t1.later (drewN_below _ _), m1.trans (Mv.of (drewN_below _ _))⟩
theorem bl_rest (s : ByteArray) (p : Nat) : (s.extract p s.size).data.toList = (bl s).drop p := by
  have := bl_extract s p s.size
  rw [← bl_length, List.take_length] at this
  rw [← this, bl_length]
  rfl
theorem sign_byte (c : Nat) : ((c : Int)).toNat.toUInt8 = UInt8.ofNat c := by rw [Int.toNat_natCast]
theorem idxY (s : ByteArray) (p c j : Nat) (hk : FirstAt s p (UInt8.ofNat c) (p + j)) (w : World) :
    Calls Tryz.prog 256 #[.string (s.extract p s.size), .int .u8 (c : Int)] w fun r w' => r = .returned (.int .i64 (j : Int)) ∧ w' = w := by
  have h := Tryz.strings_IndexByte (s.extract p s.size) (c : Int) w
  rw [bl_rest, sign_byte, index_seek, seek_first hk, Nat.add_sub_cancel_left] at h
  exact h
theorem idxN (s : ByteArray) (p c : Nat) (hk : seek (UInt8.ofNat c) ((bl s).drop p) = none) (w : World) :
    Calls Tryz.prog 256 #[.string (s.extract p s.size), .int .u8 (c : Int)] w fun r w' => r = .returned (.int .i64 (-1)) ∧ w' = w := by
  have h := Tryz.strings_IndexByte (s.extract p s.size) (c : Int) w
  rw [bl_rest, sign_byte, index_seek, hk] at h
  exact h
set_option maxRecDepth 20000 in
set_option maxHeartbeats 800000 in
theorem upToY (b : Nat) (s : ByteArray) (p c j : Nat) (hs : s.size ≤ 65536) (hk : Hid (FirstAt s p (UInt8.ofNat c) (p + j))) (w : World) (h : Tk w b s p) :
    Calls Tryz.prog 247 #[.pointer (some ⟨b, 0, none⟩), .int .u8 (c : Int)] w fun r w' => r = .returned (.tuple #[.string (s.extract p (p + j)), .bool true]) ∧ Tk w' b s (p + j + 1) ∧ Mv b w w' := by
  have h0 := h.text
  have h1 := h.at
  have hp2 : p + j < s.size := hk.out.2.1
  have i0 : (0 : Int) ≤ (p : Int) := Int.natCast_nonneg _
  have i1 : (p : Int) ≤ (s.size : Int) := by omega
  go_enter Tryz.func247, Tryz.ntmps247
  go_wp2_with fail
  go_quiet ((go_at_call 256; exact Calls.quiet_of_same (idxY s p c j hk.out _)))
  have hd := drewN_below w nq
  have h' := h.later hd
  generalize w.drewN nq = w1 at *
  have h0 := h'.text
  have h1 := h'.at
  have h2 := h'.fz
  have x1 : IntKind.i64.wrap ((j : Int) + 1) = (j : Int) + 1 := by rw [IntKind.wrap_i64]; omega
  have x2 : IntKind.i64.wrap ((p : Int) + ((j : Int) + 1)) = (p : Int) + ((j : Int) + 1) := by rw [IntKind.wrap_i64]; omega
  obtain ⟨w2, e2, t2, m2⟩ := h'.go (p + j + 1) ((p : Int) + ((j : Int) + 1)) (by omega)
  have h3 := t2.text
  have q1 : (p : Int) ≤ (p : Int) + (j : Int) := by omega
  have q2 : (p : Int) + (j : Int) ≤ (s.size : Int) := by omega
  have q0 : (0 : Int) ≤ (p : Int) + (j : Int) := by omega
  have q3 : ((p : Int) + (j : Int)).toNat = p + j := by omega
  have H2 : Hid (Tk w2 b s (p + j + 1) ∧ Mv b w w2) := ⟨t2, (Mv.of hd).trans m2⟩
  clear hk h h' hd t2 m2
  go_wp2
  go_ret2
  exact ⟨rfl, H2.out⟩
set_option maxRecDepth 20000 in
set_option maxHeartbeats 800000 in
theorem upToN (b : Nat) (s : ByteArray) (p c : Nat) (hp : p ≤ s.size) (hk : Hid (seek (UInt8.ofNat c) ((bl s).drop p) = none)) (w : World) (h : Tk w b s p) :
    Calls Tryz.prog 247 #[.pointer (some ⟨b, 0, none⟩), .int .u8 (c : Int)] w fun r w' => r = .returned (.tuple #[.string ByteArray.empty, .bool false]) ∧ Tk w' b s p ∧ Mv b w w' := by
  have h0 := h.text
  have h1 := h.at
  have i0 : (0 : Int) ≤ (p : Int) := Int.natCast_nonneg _
  have i1 : (p : Int) ≤ (s.size : Int) := by omega
  go_enter Tryz.func247, Tryz.ntmps247
  go_wp2_with fail
  go_quiet ((go_at_call 256; exact Calls.quiet_of_same (idxN s p c hk.out _)))
  have hd := drewN_below w nq
  have H2 : Hid (Tk (w.drewN nq) b s p ∧ Mv b w (w.drewN nq)) := ⟨h.later hd, Mv.of hd⟩
  clear hk h hd
  go_wp2
  go_ret2
  exact ⟨rfl, H2.out⟩
/-- The library's reading and writing of a number, as this program meets them. -/
theorem fmtC (x : Int) (l : List UInt8) (hx : in64 x) (hl : Lib.itoa x = l) (w : World) (hw : HomeE w) :
    Calls Tryz.prog 258 #[.int .i64 x, .int .i64 10] w fun r w' => r = .returned (.string ⟨l.toArray⟩) ∧ Below w.heap.size w w' := by
  refine (Tryz.strconv_FormatInt_10 x hx.1 hx.2 w hw.tab).mono ?_
  rintro e w' ⟨rfl, k, os, rfl⟩
  exact ⟨by rw [hl], Lib.below_grow _ _ (Nat.le_refl _) _ _⟩
theorem parseY (s : ByteArray) (x : Int) (hs : s.size ≤ 65536) (h : Lib.parseIntB 64 s.data.toList = .ok x) (w : World) :
    Calls Tryz.prog 257 #[.string s, .int .i64 10, .int .i64 64] w fun r w' => r = .returned (.tuple #[.int .i64 x, .nilIface]) ∧ Below w.heap.size w w' := by
  refine (Tryz.strconv_ParseInt_10_at64_ok s (by omega) x h w).mono ?_
  rintro e w' ⟨rfl, hw⟩
  refine ⟨rfl, ?_⟩
  rcases hw with rfl | ⟨t, rfl⟩
  · exact Below.refl _ _
  · exact Lib.bytesWorld_below _ _ _
theorem parseN (s : ByteArray) (hs : s.size ≤ 65536) (h : ∀ x, Lib.parseIntB 64 s.data.toList ≠ .ok x) (w : World) (hw : HomeE w) :
    Calls Tryz.prog 257 #[.string s, .int .i64 10, .int .i64 64] w fun r w' => ∃ y N, r = .returned (.tuple #[.int .i64 y, .iface 224 (.pointer (some ⟨N, 0, none⟩))]) ∧ Below w.heap.size w w' := by
  obtain ⟨tp, q, hv⟩ := hw.syn
  obtain ⟨tp2, q2, hv2⟩ := hw.rng
  cases c : Lib.parseIntB 64 s.data.toList
  · exact absurd c (h _)
  · refine (Any.strconv_ParseInt_10_at64_syntax_var Tryz.laysC174 s (by omega) c tp q w hv).mono ?_
    rintro e w' ⟨N, rfl, _, _, hb⟩
    exact ⟨_, N, rfl, hb⟩
  · refine (Tryz.strconv_ParseInt_10_at64_range_var s (by omega) c tp2 q2 w hv2).mono ?_
    rintro e w' ⟨N, rfl, _, _, hb⟩
    exact ⟨_, N, rfl, hb⟩
theorem texts_part {u s : ByteArray} (h : u ≠ s) : (u.toList == s.toList) = false := by
  rw [Go.ByteArray.toList_eq, Go.ByteArray.toList_eq]
  cases c : (u.data.toList == s.data.toList)
  · rfl
  · have e : u.data.toList = s.data.toList := by simpa using c
    refine absurd ?_ h
    have e2 : u.data = s.data := Array.toList_inj.1 e
    cases u
    cases s
    simpa using e2
set_option maxRecDepth 20000 in
set_option maxHeartbeats 800000 in
theorem numberY (s : ByteArray) (x : Int) (hs : s.size ≤ 65536) (hx : Hid (numOf (bl s) = some x)) (w : World) (hw : Hid (HomeE w)) :
    Calls Tryz.prog 248 #[.string s] w fun r w' => r = .returned (.tuple #[.int .i64 x, .bool true]) ∧ Below w.heap.size w w' := by
  obtain ⟨h1, h2, h3⟩ := parse_some hx.out
  have H2 : Hid (Lib.itoa x = bl s) := h2
  have H3 : Hid (in64 x) := h3
  clear h2 h3
  go_enter Tryz.func248, Tryz.ntmps248
  go_wp2_with fail
  refine (parseY s x hs h1 w).mono ?_
  rintro e w1 ⟨rfl, b1⟩
  go_wp2_with fail
  refine (fmtC x (bl s) H3.out H2.out w1 (hw.out.later b1)).mono ?_
  rintro e w2 ⟨rfl, b2⟩
  rw [bl_back]
  go_wp2
  go_ret2
  exact ⟨rfl, bel2 b1 b2⟩
set_option maxRecDepth 20000 in
set_option maxHeartbeats 800000 in
theorem numberN (s : ByteArray) (hs : s.size ≤ 65536) (hx : Hid (numOf (bl s) = none)) (w : World) (hw : Hid (HomeE w)) :
    Calls Tryz.prog 248 #[.string s] w fun r w' => ∃ y, r = .returned (.tuple #[.int .i64 y, .bool false]) ∧ Below w.heap.size w w' := by
  by_cases c : ∃ x, Lib.parseIntB 64 s.data.toList = .ok x
  · obtain ⟨x, h1⟩ := c
    obtain ⟨h2, h3⟩ := parse_none hx.out h1
    have H3 : Hid (in64 x) := h3
    have hn : ((⟨(Lib.itoa x).toArray⟩ : ByteArray).toList == s.toList) = false := texts_part fun e => h2 (by rw [← e, bl_mk])
    obtain ⟨t, et⟩ : ∃ t : ByteArray, t = ⟨(Lib.itoa x).toArray⟩ := ⟨_, rfl⟩
    rw [← et] at hn
    have HT : Hid (t = ⟨(Lib.itoa x).toArray⟩) := et
    clear h2 h3 et
    go_enter Tryz.func248, Tryz.ntmps248
    go_wp2_with fail
    refine (parseY s x hs h1 w).mono ?_
    rintro e w1 ⟨rfl, b1⟩
    go_wp2_with fail
    refine (fmtC x _ H3.out rfl w1 (hw.out.later b1)).mono ?_
    rintro e w2 ⟨rfl, b2⟩
    rw [← HT.out]
    go_wp2
    go_ret2
    exact ⟨_, rfl, bel2 b1 b2⟩
  · go_enter Tryz.func248, Tryz.ntmps248
    go_wp2_with fail
    refine (parseN s hs (fun x h => c ⟨x, h⟩) w hw.out).mono ?_
    rintro e w1 ⟨y, N, rfl, b1⟩
    clear c
    go_wp2
    go_ret2
    exact ⟨_, rfl, b1⟩
theorem extract_size (s : ByteArray) (a b : Nat) (h : s.size ≤ 65536) : (s.extract a b).size ≤ 65536 := by
  rw [ByteArray.size_extract]
  omega
set_option maxRecDepth 20000 in
set_option maxHeartbeats 800000 in
theorem digitsY (b : Nat) (s : ByteArray) (p j : Nat) (x : Int) (hs : s.size ≤ 65536) (hk : Hid (numAt 59 ((bl s).drop p) = some (j, x))) (w : World) (h : Hid (Tk w b s p)) (hw : Hid (HomeE w)) (h6 : Hid (4 ≤ b)) :
    Calls Tryz.prog 237 #[.pointer (some ⟨b, 0, none⟩)] w fun r w' => r = .returned (.tuple #[.string (s.extract p (p + j)), .bool true]) ∧ Tk w' b s (p + j + 1) ∧ Mv b w w' := by
  obtain ⟨k1, k2⟩ := numAt_some.1 hk.out
  have k3 : Hid (FirstAt s p 59 (p + j)) := first_seek k1
  have k4 : Hid (numOf (bl (s.extract p (p + j))) = some x) := by
    unfold Hid
    rw [← take_drop_extract, Nat.add_sub_cancel_left]
    exact k2
  clear k1 k2 hk
  go_enter Tryz.func237, Tryz.ntmps237
  go_wp2_with fail
  refine (upToY b s p 59 j hs k3 w h.out).mono ?_
  rintro e w1 ⟨rfl, t1, m1⟩
  go_wp2_with fail
  refine (numberY _ x (extract_size _ _ _ hs) k4 w1 (hw.out.move m1 h6.out)).mono ?_
  rintro e w2 ⟨rfl, b2⟩
  have H2 : Hid (Tk w2 b s (p + j + 1) ∧ Mv b w w2) := ⟨t1.later b2, m1.trans (Mv.of b2)⟩
  clear t1 m1 b2
  go_wp2
  go_ret2
  exact ⟨rfl, H2.out⟩
set_option maxRecDepth 20000 in
set_option maxHeartbeats 800000 in
theorem digitsN (b : Nat) (s : ByteArray) (p : Nat) (hp : p ≤ s.size) (hs : s.size ≤ 65536) (hk : Hid (numAt 59 ((bl s).drop p) = none)) (w : World) (h : Hid (Tk w b s p)) (hw : Hid (HomeE w)) (h6 : Hid (4 ≤ b)) :
    Calls Tryz.prog 237 #[.pointer (some ⟨b, 0, none⟩)] w fun r w' => ∃ t q, r = .returned (.tuple #[.string t, .bool false]) ∧ p ≤ q ∧ q ≤ s.size ∧ Tk w' b s q ∧ Mv b w w' := by
  cases c : seek 59 ((bl s).drop p) with
  | none =>
    have C : Hid (seek 59 ((bl s).drop p) = none) := c
    clear c hk
    go_enter Tryz.func237, Tryz.ntmps237
    go_wp2_with fail
    refine (upToN b s p 59 hp C w h.out).mono ?_
    rintro e w1 ⟨rfl, t1, m1⟩
    have H2 : Hid (Tk w1 b s p ∧ Mv b w w1) := ⟨t1, m1⟩
    clear t1 m1
    go_wp2
    go_ret2
    exact ⟨_, p, rfl, Nat.le_refl _, hp, H2.out⟩
  | some j =>
    have k3 : Hid (FirstAt s p 59 (p + j)) := first_seek c
    have k4 : Hid (numOf (bl (s.extract p (p + j))) = none) := by
      unfold Hid
      rw [← take_drop_extract, Nat.add_sub_cancel_left]
      have := hk.out
      unfold numAt at this
      rw [c] at this
      simpa using this
    have k5 : p + j < s.size := k3.out.2.1
    clear c hk
    go_enter Tryz.func237, Tryz.ntmps237
    go_wp2_with fail
    refine (upToY b s p 59 j hs k3 w h.out).mono ?_
    rintro e w1 ⟨rfl, t1, m1⟩
    go_wp2_with fail
    refine (numberN _ (extract_size _ _ _ hs) k4 w1 (hw.out.move m1 h6.out)).mono ?_
    rintro e w2 ⟨y, rfl, b2⟩
    have H2 : Hid (Tk w2 b s (p + j + 1) ∧ Mv b w w2) := ⟨t1.later b2, m1.trans (Mv.of b2)⟩
    clear t1 m1 b2
    go_wp2
    go_ret2
    exact ⟨_, p + j + 1, rfl, by omega, by omega, H2.out⟩
end Go.Proofs.YtcpfhfdgfcilaaaGreatDoor.Val
namespace Go.Proofs.YtcpfhfdgfcilaaaGreatDoor.Val

def kindOf : List UInt8 → Int
  | [] => 0
  | b :: _ => if b = 110 then -1 else if b = 105 then 0 else if b = 115 then 2 else if b = 91 then 3 else if b = 123 then 4 else 1
def bodyOf : List UInt8 → List UInt8
  | [] => []
  | b :: r => if b = 110 then [] else if b = 105 ∨ b = 91 ∨ b = 123 then r.dropLast else if b = 115 then (match seek 58 r with | none => [] | some j => r.drop (j + 1)) else [b]
theorem bodyOf_s (r : List UInt8) : bodyOf (115 :: r) = match seek 58 r with | none => [] | some j => r.drop (j + 1) := by
  rw [bodyOf, if_neg (by decide), if_neg (by decide), if_pos rfl]
theorem bl_cut (s : ByteArray) (p q : Nat) (hp : p < s.size) (hq : p < q) : bl (s.extract p q) = s[p] :: ((bl s).drop (p + 1)).take (q - p - 1) := by
  rw [← take_drop_extract, bl_drop s p hp]
  obtain ⟨m, hm⟩ : ∃ m, q - p = m + 1 := ⟨q - p - 1, by omega⟩
  rw [hm]
  rfl
theorem bl_part (s : ByteArray) (p q : Nat) : bl (s.extract p q) = ((bl s).drop p).take (q - p) := (take_drop_extract s p q).symm
theorem dropLast_part (s : ByteArray) (p q : Nat) (hp : p ≤ q) (hq : q < s.size) : (((bl s).drop p).take (q + 1 - p)).dropLast = bl (s.extract p q) := by
  rw [bl_part, List.dropLast_eq_take, List.length_take, List.length_drop, bl_length, List.take_take]
  congr 1
  omega
theorem take_word {s : ByteArray} {p : Nat} (hp : p < s.size) (hb : s[p] = 110 ∨ s[p] = 116 ∨ s[p] = 102) (d : Nat) : val d ((bl s).drop p) = some 1 := by
  rw [bl_drop s p hp]
  exact val_is (.word _ _ hb)
theorem one_byte {s : ByteArray} {p : Nat} (hp : p < s.size) : bl (s.extract p (p + 1)) = [s[p]] := by
  rw [bl_cut s p (p + 1) hp (by omega), show p + 1 - p - 1 = 0 from by omega]
  rfl
theorem val_num {s : ByteArray} {p : Nat} (hp : p < s.size) (hb : s[p] = 105) (d : Nat) : val d ((bl s).drop p) = (numAt 59 ((bl s).drop (p + 1))).map (fun q => q.1 + 2) := by
  rw [bl_drop s p hp, hb, val_below, valStep, if_neg (by decide), if_pos rfl]
theorem int_yes {s : ByteArray} {p j : Nat} {x : Int} (hp : p < s.size) (hb : s[p] = 105) (h : numAt 59 ((bl s).drop (p + 1)) = some (j, x)) (d : Nat) :
    val d ((bl s).drop p) = some (p + 1 + j + 1 - p) ∧ kindOf (bl (s.extract p (p + 1 + j + 1))) = 0 ∧ bodyOf (bl (s.extract p (p + 1 + j + 1))) = bl (s.extract (p + 1) (p + 1 + j)) ∧ p + 1 + j < s.size := by
  have hj := numAt_lt h
  rw [List.length_drop, bl_length] at hj
  refine ⟨?_, ?_, ?_, by omega⟩
  · rw [val_num hp hb, h, Option.map_some]
    congr 1
    show j + 2 = _
    omega
  · rw [bl_cut s p _ hp (by omega), hb]
    rfl
  · rw [bl_cut s p _ hp (by omega), hb]
    show (((bl s).drop (p + 1)).take (p + 1 + j + 1 - p - 1)).dropLast = _
    rw [show p + 1 + j + 1 - p - 1 = p + 1 + j + 1 - (p + 1) from by omega]
    exact dropLast_part s (p + 1) (p + 1 + j) (by omega) (by omega)
theorem int_no {s : ByteArray} {p : Nat} (hp : p < s.size) (hb : s[p] = 105) (h : numAt 59 ((bl s).drop (p + 1)) = none) (d : Nat) : val d ((bl s).drop p) = none := by
  rw [val_num hp hb, h]
  rfl
theorem val_cnt {s : ByteArray} {p : Nat} (hp : p < s.size) (hb : s[p] = 115) (d : Nat) : val d ((bl s).drop p) = (numAt 58 ((bl s).drop (p + 1))).bind (fun q => if 0 ≤ q.2 ∧ q.2 ≤ ((((bl s).drop (p + 1)).length : Nat) : Int) - q.1 - 1 then some (q.1 + 2 + q.2.toNat) else none) := by
  rw [bl_drop s p hp, hb, val_below, valStep, if_neg (by decide), if_neg (by decide), if_pos rfl]
theorem cnt_yes {s : ByteArray} {p j n : Nat} (hp : p < s.size) (hb : s[p] = 115) (h : numAt 58 ((bl s).drop (p + 1)) = some (j, (n : Int))) (hn : p + 1 + j + 1 + n ≤ s.size) (d : Nat) :
    val d ((bl s).drop p) = some (p + 1 + j + 1 + n - p) ∧ kindOf (bl (s.extract p (p + 1 + j + 1 + n))) = 2 ∧ bodyOf (bl (s.extract p (p + 1 + j + 1 + n))) = bl (s.extract (p + 1 + j + 1) (p + 1 + j + 1 + n)) := by
  refine ⟨?_, ?_, ?_⟩
  · rw [val_cnt hp hb, h, Option.bind_some, List.length_drop, bl_length]
    show (if 0 ≤ (n : Int) ∧ (n : Int) ≤ ((s.size - (p + 1) : Nat) : Int) - (j : Int) - 1 then some (j + 2 + ((n : Int)).toNat) else none) = _
    rw [if_pos (by omega)]
    congr 1
    omega
  · rw [bl_cut s p _ hp (by omega), hb]
    rfl
  · rw [bl_cut s p _ hp (by omega), hb]
    have hs : seek 58 (((bl s).drop (p + 1)).take (p + 1 + j + 1 + n - p - 1)) = some j := seek_take (numAt_some.1 h).1 (by omega)
    rw [bodyOf_s, hs]
    show (((bl s).drop (p + 1)).take (p + 1 + j + 1 + n - p - 1)).drop (j + 1) = _
    rw [bl_part, List.drop_take, List.drop_drop]
    congr 1
    · omega
theorem cnt_no {s : ByteArray} {p : Nat} (hp : p < s.size) (hb : s[p] = 115) (h : ∀ (j n : Nat), numAt 58 ((bl s).drop (p + 1)) = some (j, (n : Int)) → s.size < p + 1 + j + 1 + n) (d : Nat) : val d ((bl s).drop p) = none := by
  rw [val_cnt hp hb]
  cases c : numAt 58 ((bl s).drop (p + 1)) with
  | none => rfl
  | some y =>
    obtain ⟨j, x⟩ := y
    rw [Option.bind_some]
    have hj := numAt_lt c
    rw [List.length_drop, bl_length] at hj ⊢
    show (if 0 ≤ x ∧ x ≤ ((s.size - (p + 1) : Nat) : Int) - (j : Int) - 1 then some (j + 2 + x.toNat) else none) = none
    rw [if_neg]
    intro hx
    obtain ⟨n, rfl⟩ : ∃ n : Nat, x = (n : Int) := ⟨x.toNat, by omega⟩
    have := h j n c
    omega
theorem nest_yes {s : ByteArray} {p q d : Nat} (hp : p < s.size) (hb : s[p] = 91 ∨ s[p] = 123) (h : manyZ (below d) (s[p] + 2) s (p + 1) = (q : Int)) :
    val d ((bl s).drop p) = some (q - p) ∧ p + 1 < q ∧ q ≤ s.size ∧ kindOf (bl (s.extract p q)) = (if s[p] = 91 then 3 else 4) ∧ bodyOf (bl (s.extract p q)) = bl (s.extract (p + 1) (q - 1)) := by
  have hz := endZ_nest (d := d) hp hb
  rw [h] at hz
  rcases endO_cases (fair_val d) s p hp with ⟨e, _⟩ | ⟨q', e, h1, h2, h3⟩
  · rw [show endZ d s p = endO (val d) s p from rfl, e] at hz
    omega
  · rw [show endZ d s p = endO (val d) s p from rfl, e] at hz
    obtain rfl : q' = q := by omega
    have h4 : p + 1 < q' := by
      unfold manyZ at h
      cases hm : many (below d) (s[p] + 2) (s.size - (p + 1) + 1) ((bl s).drop (p + 1)) with
      | none =>
        rw [hm] at h
        have h' : (-1 : Int) = (q' : Int) := h
        omega
      | some k =>
        rw [hm] at h
        have := (many_pos (fair_below d) _ _ _ _ hm).1
        have h' : ((p + 1 + k : Nat) : Int) = (q' : Int) := h
        omega
    refine ⟨h3, h4, h2, ?_, ?_⟩
    · rw [bl_cut s p _ hp (by omega)]
      rcases hb with e | e
      · rw [e]
        rfl
      · rw [e]
        rfl
    · rw [bl_cut s p _ hp (by omega)]
      have e2 : (((bl s).drop (p + 1)).take (q' - p - 1)).dropLast = bl (s.extract (p + 1) (q' - 1)) := by
        have := dropLast_part s (p + 1) (q' - 1) (by omega) (by omega)
        rw [show q' - 1 + 1 - (p + 1) = q' - p - 1 from by omega] at this
        exact this
      rcases hb with e | e
      · rw [e]
        exact e2
      · rw [e]
        exact e2
theorem nest_no {s : ByteArray} {p d : Nat} (hp : p < s.size) (hb : s[p] = 91 ∨ s[p] = 123) (h : manyZ (below d) (s[p] + 2) s (p + 1) = -1) : val d ((bl s).drop p) = none := by
  have hz := endZ_nest (d := d) hp hb
  rw [h] at hz
  rcases endO_cases (fair_val d) s p hp with ⟨_, e⟩ | ⟨q', e, _⟩
  · exact e
  · rw [show endZ d s p = endO (val d) s p from rfl, e] at hz
    omega
theorem other_no {s : ByteArray} {p : Nat} (h : p < s.size) (hb : s[p] ≠ 110 ∧ s[p] ≠ 116 ∧ s[p] ≠ 102 ∧ s[p] ≠ 105 ∧ s[p] ≠ 115 ∧ s[p] ≠ 91 ∧ s[p] ≠ 123) (d : Nat) : val d ((bl s).drop p) = none := by
  have hz := endZ_other (d := d) h hb
  rcases endO_cases (fair_val d) s p h with ⟨_, e⟩ | ⟨q', e, _⟩
  · exact e
  · rw [show endZ d s p = endO (val d) s p from rfl, e] at hz
    omega
end Go.Proofs.YtcpfhfdgfcilaaaGreatDoor.Val
